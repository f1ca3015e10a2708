/- The program's Hash.Sum, Sum, under and Mac. -/
import Derived.Test.YtibglhlhogfdnaaDoorQWrite
import Derived.Test.YtibglhlhogfdnaaDoorQNum
import Derived.Test.YtibglhlhogfdnaaDoorQRefS
namespace Go.Proofs.YtibglhlhogfdnaaDoor
open Go.RowKit QP

theorem make_own8 (w : World) (c : Nat) (hc : c ≤ 1000000) :
    ∃ u, (Instr.makeSlice 45 (.int .i64 0) (.int .i64 (c : Int))).run Tryd.prog w = .ok (.slice (some ⟨w.heap.size, 0, none⟩) 0 c) u ∧ u.ownsRow w.heap.size 5 1 (.slice (some ⟨w.heap.size, 0, none⟩) 0 c) 0 (flat (enK .u8) []) ∧ Below w.heap.size w u := by
  obtain ⟨i0, hi, hz0, hz1, hz2⟩ := info_parts okU8.info
  obtain ⟨u, h1, h2, h3⟩ := run_make_own (P := Tryd.prog) w w.heap.size 45 5 i0 (.int .u8 0) 1 Tryd.underlying45 hi hz0 hz1 .i64 .i64 c (by rw [hz2]; omega) (by unfold maxLen; omega) (Nat.le_refl _)
  exact ⟨u, h1, h2, (Below.refl _ w).grown h3 (Nat.le_refl _) (fun i hi => by cases hi)⟩
theorem sizeHash : (Tryd.prog.info? 89).map (·.size) = some 73 := by kernel_rfl
theorem hcells_one (S B : List Nat) (n : Nat) : (hcells S B n).toArray.all (·.oneCell') = true := all_oneCell_toArray fun v hv => by
  unfold hcells at hv
  rcases List.mem_append.1 hv with h | h
  · exact flatK_one .u32 _ v h
  · rcases List.mem_append.1 h with h | h
    · exact flatK_one .u8 _ v h
    · rw [List.mem_singleton.1 h]; rfl

set_option maxRecDepth 100000 in
set_option maxHeartbeats 4000000 in
theorem hsum_any (g : Nat) (m : List Nat) (w : World) (F : Nat → Prop) (hc : Con w) (hI : HashI g m w F) (hm : m.length ≤ 400000) : Calls Tryd.prog 37 #[.pointer (some ⟨g, 0, none⟩)] w fun e w' => e = .returned (.string (ofN (dig m))) ∧ Goes (HashI g m) w w' F := by
  have HI : Hid (HashI g m w F) := hI
  obtain ⟨h0, ⟨S, B, hA, hK⟩, hF⟩ := hI
  obtain ⟨n, hn⟩ : ∃ n, m.length = n := ⟨_, rfl⟩
  rw [hn] at hA
  obtain ⟨C, hC⟩ : ∃ C, (hcells S B n).toArray = C := ⟨_, rfl⟩
  obtain ⟨Z, hZ⟩ : ∃ Z : Array Value, #[.int .u32 0, .int .u32 0, .int .u32 0, .int .u32 0, .int .u32 0, .int .u32 0, .int .u32 0, .int .u32 0, .int .u8 0, .int .u8 0, .int .u8 0, .int .u8 0, .int .u8 0, .int .u8 0, .int .u8 0, .int .u8 0, .int .u8 0, .int .u8 0, .int .u8 0, .int .u8 0, .int .u8 0, .int .u8 0, .int .u8 0, .int .u8 0, .int .u8 0, .int .u8 0, .int .u8 0, .int .u8 0, .int .u8 0, .int .u8 0, .int .u8 0, .int .u8 0, .int .u8 0, .int .u8 0, .int .u8 0, .int .u8 0, .int .u8 0, .int .u8 0, .int .u8 0, .int .u8 0, .int .u8 0, .int .u8 0, .int .u8 0, .int .u8 0, .int .u8 0, .int .u8 0, .int .u8 0, .int .u8 0, .int .u8 0, .int .u8 0, .int .u8 0, .int .u8 0, .int .u8 0, .int .u8 0, .int .u8 0, .int .u8 0, .int .u8 0, .int .u8 0, .int .u8 0, .int .u8 0, .int .u8 0, .int .u8 0, .int .u8 0, .int .u8 0, .int .u8 0, .int .u8 0, .int .u8 0, .int .u8 0, .int .u8 0, .int .u8 0, .int .u8 0, .int .u8 0, .int .u64 0] = Z := ⟨_, rfl⟩
  have hz53 : ∀ w : World, (zeroValue 89).run Tryd.prog w = .ok (.agg Z) w := fun w => by rw [← hZ]; exact zeroNew w
  have HG : Hid (w.heap[g]? = some (.cells C 89 (0, 0))) := by show _ = _; rw [← hC]; exact hA.blk
  have HCs : Hid ((Tryd.prog.info? 89).map (·.size) = some C.size) := by show _ = _; rw [← hC, hcells_size hA.s8 hA.b64]; exact sizeHash
  have HCo : Hid (C.all (·.oneCell') = true) := by show _ = _; rw [← hC]; exact hcells_one _ _ _
  have HZs : Hid (Z.size = C.size) := by show _ = _; rw [← hC, hcells_size hA.s8 hA.b64, ← hZ]; rfl
  have d72 := hA.len
  have hgl := hA.lt
  obtain ⟨q, hq⟩ : ∃ q, w.heap.size = q := ⟨_, rfl⟩
  have hgq : g < q := by omega
  obtain ⟨w1, hw1⟩ : ∃ u, (w.alloc (.cells Z 89)).setRow q C = u := ⟨_, rfl⟩
  have hb1 : Below w.heap.size w w1 := by rw [← hw1]; exact below_setRow ((Below.refl _ _).alloc (Nat.le_refl _) _) (by omega) _
  have HB1 : Hid (Below q w w1) := by show Below _ _ _; rw [← hq]; exact hb1
  have HC1 : Hid (Con w1) := hc.below hb1
  have HI1 : Hid (HashI q m w1 (fun i => i = q)) := by
    refine ⟨by omega, ⟨S, B, ⟨?_, hA.s8, hA.b64⟩, hK⟩, fun _ => Iff.rfl⟩
    rw [hn, hC, ← hw1]
    have hnw := heap_new w (.cells Z 89)
    rw [hq] at hnw
    exact setRow_heap (w.alloc (.cells Z 89)) q _ C _ _ hnw
  have HNw : Hid ((w.alloc (.cells Z 89)).heap[q]? = some (.cells Z 89 (0, 0))) := by
    have hnw := heap_new w (.cells Z 89)
    rw [hq] at hnw
    exact hnw
  have HW1 : Hid ((w.alloc (.cells Z 89)).setRow q C = w1) := hw1
  have e72 : w1.cell? ⟨g, 72, none⟩ = some (.int .u64 (n : Int)) := (hb1.cell (p := ⟨g, 72, none⟩) hgl).trans d72
  have HP : Hid (∀ u, Calls Tryd.prog 51 #[.int .u64 (n : Int)] u fun e w' => e = .returned (.string (ofN (tail n))) ∧ Below u.heap.size u w') := fun u => padding_any n u (by omega)
  have hts : (ofN (tail n)).size ≤ 72 := by rw [ofN_size, tail_length]; unfold padZ; omega
  have HTs : Hid ((ofN (tail n)).size ≤ 72) := hts
  have HTn : Hid (nb (ofN (tail n)) = tail n) := nb_ofN (tail_bytes n)
  obtain ⟨T, hT⟩ : ∃ T, ofN (tail n) = T := ⟨_, rfl⟩
  rw [hT] at HP HTs HTn
  have HWr : Hid (∀ u, Below w1.heap.size w1 u → Calls Tryd.prog 36 #[.pointer (some ⟨q, 0, none⟩), .string T] u fun e w' => e = .returned (.tuple #[]) ∧ Goes (HashI q (m ++ tail n)) u w' (fun i => i = q)) := fun u hu => by
    have h := write_any q m T u (fun i => i = q) (HC1.out.below hu) ((HashI.res q m).kept (S := fun _ => False) HI1.out (Turn.ofBelow _ hu) (fun _ _ h => h)) (by have := HTs.out; omega)
    rw [HTn.out] at h
    exact h
  have Hn : Hid (m.length = n) := hn
  have Hq : Hid (w.heap.size = q) := hq
  have Hm : Hid (m.length ≤ 400000) := hm
  clear hA hK hF hC hZ hw1 hb1 hts hT hn hc hm
  go_enter Tryd.func37, Tryd.ntmps37
  go_wp2_with (first | (refine wpList_load_row rfl 89 _ rfl g rfl 89 C (0, 0) _ HG.out Tryd.underlying89 rfl HCs.out ?_) | (refine wpList_store_row rfl 89 _ _ rfl q C rfl rfl 89 Z HNw.out HCs.out HZs.out HCo.out ?_; rw [HW1.out]) | (go_at_call 51; go_must (refine (HP.out _).mono ?_; rintro e w2 ⟨rfl, hb2⟩)) | (go_at_call 36; go_must (refine (HWr.out _ hb2).mono ?_; rintro e w3 ⟨rfl, hgo⟩)))
  obtain ⟨F3, hI3, hT3, -⟩ := hgo
  obtain ⟨_, ⟨S3, B3, hA3, hK3⟩, _⟩ := hI3
  have hS8 := hK3.s8
  have HX8 : Hid (S3.length = 8) := hS8.1
  have HXs : Hid (Small S3) := hS8.2
  have HDX : Hid (dig m = S3.flatMap b4) := by
    rw [← Hn.out] at hK3
    exact hK3.ended.symm
  have HA3 : Hid (HashAt w3 q S3 B3 (m ++ tail n).length) := hA3
  have hq1 : q ≤ w1.heap.size := by have a := HB1.out.size; omega
  have hq2 : q ≤ w2.heap.size := Nat.le_trans hq1 hb2.size
  have HB3 : Hid (Below w.heap.size w w3) := by
    have h1 : Below w2.heap.size w2 w2 := Below.refl _ _
    have h2 : Below q w2 w3 := (hT3.mono (S' := fun i => q ≤ i) (fun i hi => by rw [hi]; exact Nat.le_refl _)).toBelow hq2
    have h3 : Below q w w2 := HB1.out.trans (hb2.mono hq1)
    show Below _ _ _
    rw [hq]
    exact h3.trans h2
  have Hg3 : Hid (Goes (HashI g m) w w3 F) := (Goes.stay HI.out).thenStay (HashI.res g m) HB3.out
  obtain ⟨u4, hmk, ho4, hb4⟩ := make_own8 w3 32 (by omega)
  rw [show ((32 : Nat) : Int) = 32 from rfl] at hmk
  have HO4 : Hid (u4.ownsRow w3.heap.size 5 1 (.slice (some ⟨w3.heap.size, 0, none⟩) 0 32) 0 (flat (enK .u8) ((S3.take 0).flatMap b4))) := ho4
  have HB4 : Hid (Below w3.heap.size w3 u4) := hb4
  have HAp : Hid (∀ (A : Option Addr) (l c : Nat) (L : List Nat) (N : Nat) (u : World), u.ownsRow w3.heap.size 5 1 (.slice A l c) l (flat (enK .u8) L) → l ≤ 1000 → w3.heap.size ≤ u.heap.size → Calls Tryd.prog 52 #[.slice A l c, .int .u64 (N : Int), .int .i64 4] u fun e w' => ∃ A' c', e = .returned (.slice A' (l + 4) c') ∧ Hid (w'.ownsRow w3.heap.size 5 1 (.slice A' (l + 4) c') (l + 4) (flat (enK .u8) (L ++ ap N 4 4))) ∧ Below w3.heap.size u w') := fun A l c L N u h1 h2 h3 => appNum_any w3.heap.size A l c L N 4 u h1 h2 (by omega) h3
  clear hS8 hA3 hK3 hT3 ho4 hb4 hb2 hq1 hq2 d72 e72 hz53 HG HCs HCo HZs HB1 HC1 HI1 HNw HW1 HP HTs HTn HWr HI Hm hq
  simp only [hmk, Result.andThen_ok]
  go_wp2_with fail
  go_loopw [4, 16] (fun ov iv wx => ∃ (i c : Nat) (A : Option Addr), i ≤ 8 ∧ iv = .int .i64 i ∧ ov = .slice A (4 * i) c ∧ Hid (wx.ownsRow w3.heap.size 5 1 (.slice A (4 * i) c) (4 * i) (flat (enK .u8) ((S3.take i).flatMap b4))) ∧ Hid (Below w3.heap.size w3 wx)) (fun _ iv _ => 8 - (intOf iv).toNat)
  case atStart => exact ⟨0, 32, some ⟨w3.heap.size, 0, none⟩, by omega, rfl, rfl, HO4, HB4⟩
  case round =>
    clear HO4 HB4 hmk
    obtain ⟨i, c2, A2, hi, rfl, rfl, HO, HB⟩ := hrel
    by_cases hi8 : i < 8
    · have hiI : (i : Int) < 8 := by omega
      have hi0 : (0 : Int) ≤ (i : Int) := by omega
      have hXi : i < S3.length := by rw [HX8.out]; exact hi8
      obtain ⟨x, hx⟩ : ∃ x, S3[i]? = some x := ⟨_, List.getElem?_eq_getElem hXi⟩
      have hxs : x < 4294967296 := HXs.out.at hx
      have hce := (HA3.out.below HB.out).word hx
      have wx1 : IntKind.u64.wrap (x : Int) = (x : Int) := wrapU (by omega) (by omega)
      have wx2 : (x : Int) % 18446744073709551616 = (x : Int) := by omega
      have HXn : Hid ((S3.take (i + 1)).flatMap b4 = (S3.take i).flatMap b4 ++ ap x 4 4) := by
        obtain ⟨h1, h2⟩ := List.getElem?_eq_some_iff.1 hx
        show _ = _
        rw [ap_b4 hxs, List.take_succ_eq_append_getElem h1, List.flatMap_append, h2]
        simp
      obtain ⟨k, hk⟩ : ∃ k, 4 * i = k := ⟨_, rfl⟩
      have HM : Hid (k + 4 = 4 * (i + 1)) := by show _ = _; omega
      have hkb : k ≤ 1000 := by omega
      rw [hk] at HO
      rw [hk]
      have hsz := HB.out.size
      clear hk hXi hx
      go_wp2_with (go_at_call 52; go_must (refine (HAp.out _ _ _ _ _ _ HO.out hkb hsz).mono ?_; rintro e w5 ⟨A5, c5, rfl, HO5, hb5⟩))
      have HO6 : Hid (w5.ownsRow w3.heap.size 5 1 (.slice A5 (k + 4) c5) (k + 4) (flat (enK .u8) ((S3.take (i + 1)).flatMap b4))) := by show World.ownsRow _ _ _ _ _ _ _; rw [HXn.out]; exact HO5.out
      have HB6 : Hid (Below w3.heap.size w3 w5) := HB.out.trans hb5
      clear HO5 hb5 HO HB
      go_wp2_with fail
      go_roundw
      case rel => exact ⟨i + 1, c5, A5, by omega, by go_num, by rw [← HM.out], by rw [← HM.out]; exact HO6, HB6⟩
      case measure => simp [intOf]; omega
    · obtain rfl : i = 8 := by omega
      have hiI : ¬ ((8 : Nat) : Int) < 8 := by omega
      have hO := HO.out
      rw [List.take_of_length_le (by rw [HX8.out]; omega), ← HDX.out] at hO
      have hst := str_own hO (dig_bytes _) (dig_length _)
      have HR : Hid (Goes (HashI g m) w wr F) := Hg3.out.thenStay (HashI.res g m) HB.out
      clear hO HO HB
      go_wp2_with fail
      go_ret
      exact ⟨rfl, HR.out⟩

set_option maxRecDepth 100000 in
set_option maxHeartbeats 1000000 in
theorem sum_any (b : ByteArray) (w : World) (hc : Con w) (hb : b.size ≤ 400000) : Calls Tryd.prog 23 #[.string b] w (SumR w (dig (nb b))) := by
  have HC : Hid (Con w) := hc
  have HN : Hid (Calls Tryd.prog 35 #[] w fun e w' => ∃ g F, e = .returned (.pointer (some ⟨g, 0, none⟩)) ∧ HashI g [] w' F ∧ (∀ i, F i → w.heap.size ≤ i) ∧ Below w.heap.size w w') := new_any w hc.1
  clear hc
  go_enter Tryd.func23, Tryd.ntmps23
  go_wp2_with fail
  refine HN.out.mono ?_
  rintro y w1 ⟨g, F, rfl, hI, hF, hb1⟩
  have HW : Hid (Calls Tryd.prog 36 #[.pointer (some ⟨g, 0, none⟩), .string b] w1 fun e w' => e = .returned (.tuple #[]) ∧ Goes (HashI g (nb b)) w1 w' F) := write_any g [] b w1 F (HC.out.below hb1) hI (by simp; omega)
  go_wp2_with fail
  refine HW.out.mono ?_
  rintro y w2 ⟨rfl, F2, hI2, hT2, hF2⟩
  have hs := hb1.size
  have hb2 : Below w.heap.size w w2 := hb1.trans ((hT2.mono (S' := fun i => w.heap.size ≤ i) hF).toBelow hs)
  have HS : Hid (Calls Tryd.prog 37 #[.pointer (some ⟨g, 0, none⟩)] w2 fun e w' => e = .returned (.string (ofN (dig (nb b)))) ∧ Goes (HashI g (nb b)) w2 w' F2) := hsum_any g (nb b) w2 F2 (HC.out.below hb2) hI2 (by rw [nb_length]; exact hb)
  go_wp2_with fail
  refine HS.out.mono ?_
  rintro y w3 ⟨rfl, F3, hI3, hT3, hF3⟩
  have hb3 : Below w.heap.size w w3 := hb2.trans ((hT3.mono (S' := fun i => w.heap.size ≤ i) (fun i hi => by
    rcases hF2 i hi with h | h
    · exact hF i h
    · omega)).toBelow hb2.size)
  go_wp2_with fail
  go_ret
  exact ⟨rfl, hb3⟩
end Go.Proofs.YtibglhlhogfdnaaDoor

/- DiskTwo: for all calls the law returns true, and the calls that came in read behind it as they read before. No condition. -/
import Derived.Test.YtbiombolpfhdlaaRows
import Derived.Test.YtbiombolpfhdlaaStepB
import Derived.Test.YtbiombolpfhdlaaSized
namespace Go.Proofs.Ytbiombolpfhdlaa
open Go.ChangeShapes Go.WideShapes Go.ChangeAt Go.RowKit Go.Joins

namespace Two

/-- a call that came in, at a later world -/
theorem act_fit {w w' : World} {F : Nat → Prop} {x : ActV} (h : ActOk w x) (hz : ActSz x) (hb : Below w.heap.size w w') (hF : ∀ i, F i → w.heap.size ≤ i) : ActFit w' F x := by
  have e : reachBytes = 140737488351232 := rfl
  have h1 := hz.data
  have h2 := hz.many
  exact ⟨h.name, by omega, h.num, (h.draws.under hb).other hF, hz.nil, by omega⟩

/-- what stands between two calls: two pairs, apart from each other -/
def Stand (w wr : World) (a b c d : Nat) : Prop := ∃ s F t H, BothG wr a c s F ∧ BothG wr b d t H ∧ (∀ i, F i → ¬ H i) ∧ (∀ i, F i → w.heap.size ≤ i) ∧ (∀ i, H i → w.heap.size ≤ i) ∧ Below w.heap.size w wr

section
variable {w wr w' : World} {a b c d : Nat}

theorem Stand.turned (h : Stand w wr a b c d) : Stand w wr b a d c := by
  obtain ⟨s, F, t, H, h1, h2, h3, h4, h5, h6⟩ := h
  exact ⟨t, H, s, F, h2, h1, fun i p q => h3 i q p, h5, h4, h6⟩

theorem Stand.below (h : Stand w wr a b c d) (hb : Below wr.heap.size wr w') : Stand w w' a b c d := by
  obtain ⟨s, F, t, H, h1, h2, h3, h4, h5, h6⟩ := h
  exact ⟨s, F, t, H, h1.below hb, h2.below hb, h3, h4, h5, h6.trans (hb.mono h6.size)⟩

theorem Stand.first (h : Stand w wr a b c d) {x : ActV} (hx : ActOk w x) (hz : ActSz x) :
    Calls Try.prog 12 #[.pointer (some ⟨a, 0, none⟩), .pointer (some ⟨c, 0, none⟩), .agg #[.int .i64 x.kind, .string x.name, .string x.data, .int .i64 x.num, x.dv]] wr fun e w' => e = .returned (.bool true) ∧ Stand w w' a b c d := by
  obtain ⟨s, F, t, H, h1, h2, h3, h4, h5, h6⟩ := h
  refine (step_true wr h1 (act_fit hx hz h6 h4)).mono ?_
  rintro e w' ⟨rfl, s', F', g1, g2, g3⟩
  have hlt : ∀ i, H i → i < wr.heap.size := by
    obtain ⟨_, _, _, _, _, _, _, h⟩ := h2
    exact h
  refine ⟨rfl, s', F', t, H, g1, h2.kept g2 (fun i p q => h3 i q p), fun i p q => ?_, fun i p => ?_, h5, h6.trans ((g2.mono h4).toBelow h6.size)⟩
  · rcases g3 i p with r | r
    · exact h3 i r q
    · have := hlt i q; omega
  · rcases g3 i p with r | r
    · exact h4 i r
    · exact Nat.le_trans h6.size r

theorem Stand.second (h : Stand w wr a b c d) {x : ActV} (hx : ActOk w x) (hz : ActSz x) :
    Calls Try.prog 12 #[.pointer (some ⟨b, 0, none⟩), .pointer (some ⟨d, 0, none⟩), .agg #[.int .i64 x.kind, .string x.name, .string x.data, .int .i64 x.num, x.dv]] wr fun e w' => e = .returned (.bool true) ∧ Stand w w' a b c d := by
  refine (h.turned.first hx hz).mono ?_
  rintro e w' ⟨rfl, g⟩
  exact ⟨rfl, g.turned⟩

theorem Stand.same1 (h : Stand w wr a b c d) : Calls Try.prog 13 #[.pointer (some ⟨a, 0, none⟩), .pointer (some ⟨c, 0, none⟩)] wr fun e w' => e = .returned (.bool true) ∧ Stand w w' a b c d := by
  have h0 := h
  obtain ⟨s, F, t, H, h1, -⟩ := h0
  refine (same_true wr h1).mono ?_
  rintro e w' ⟨rfl, hb⟩
  exact ⟨rfl, h.below hb⟩

theorem Stand.same2 (h : Stand w wr a b c d) : Calls Try.prog 13 #[.pointer (some ⟨b, 0, none⟩), .pointer (some ⟨d, 0, none⟩)] wr fun e w' => e = .returned (.bool true) ∧ Stand w w' a b c d := by
  refine h.turned.same1.mono ?_
  rintro e w' ⟨rfl, g⟩
  exact ⟨rfl, g.turned⟩

theorem Stand.base (h : Stand w wr a b c d) : Below w.heap.size w wr := by
  obtain ⟨s, F, t, H, h1, h2, h3, h4, h5, h6⟩ := h
  exact h6
end

/-- one disk of two blocks and one reference of one -/
theorem both_apart {w : World} {d m r : Nat} {s : Dk.Dsk} (hD : DiskG Try.prog w d m [] s) (hR : RefG w r (.slice none 0 0) s) (h1 : d ≠ r) (h2 : m ≠ r) : BothG w d r s (fun i => i = d ∨ i = m ∨ i = r) := by
  refine ⟨m, [], _, hD, hR, fun i hi => ⟨?_, fun hr => ?_⟩, fun i hi => ?_, fun i hi => ?_⟩
  · rcases hi with rfl | rfl | ⟨p, hp, _⟩
    · exact Or.inl rfl
    · exact Or.inr (Or.inl rfl)
    · cases hp
  · rcases hr with rfl | hr
    · rcases hi with hi | hi | ⟨p, hp, _⟩
      · exact h1 hi.symm
      · exact h2 hi.symm
      · cases hp
    · cases hr
  · rcases hi with rfl | hi
    · exact Or.inr (Or.inr rfl)
    · cases hi
  · rcases hi with rfl | rfl | rfl
    · exact hD.lt (Or.inl rfl)
    · exact hD.lt (Or.inr (Or.inl rfl))
    · exact hR.lt (Or.inl rfl)

theorem stand_new {w w1 w2 w3 w4 : World} (hD1 : DiskG Try.prog w1 (w.heap.size + 1) w.heap.size [] Dk.blank) (hb1 : Below w.heap.size w w1)
    (hD2 : DiskG Try.prog w2 (w1.heap.size + 1) w1.heap.size [] Dk.blank) (hb2 : Below w1.heap.size w1 w2)
    (hR1 : RefG w3 w2.heap.size (.slice none 0 0) Dk.blank) (hb3 : Below w2.heap.size w2 w3)
    (hR2 : RefG w4 w3.heap.size (.slice none 0 0) Dk.blank) (hb4 : Below w3.heap.size w3 w4) :
    Stand w w4 (w.heap.size + 1) (w1.heap.size + 1) w2.heap.size w3.heap.size := by
  have l1 : w.heap.size + 1 < w1.heap.size := hD1.lt (Or.inl rfl)
  have l2 : w1.heap.size + 1 < w2.heap.size := hD2.lt (Or.inl rfl)
  have l3 : w2.heap.size < w3.heap.size := hR1.lt (Or.inl rfl)
  have k2 := hD1.kept (S := fun _ => False) (Turn.ofBelow _ hb2) (fun _ _ h => h)
  have k3 := k2.kept (S := fun _ => False) (Turn.ofBelow _ hb3) (fun _ _ h => h)
  have k4 := k3.kept (S := fun _ => False) (Turn.ofBelow _ hb4) (fun _ _ h => h)
  have m3 := hD2.kept (S := fun _ => False) (Turn.ofBelow _ hb3) (fun _ _ h => h)
  have m4 := m3.kept (S := fun _ => False) (Turn.ofBelow _ hb4) (fun _ _ h => h)
  have r4 := hR1.below hb4
  refine ⟨_, _, _, _, both_apart k4 r4 (by omega) (by omega), both_apart m4 hR2 (by omega) (by omega), fun i p q => ?_, fun i p => ?_, fun i p => ?_, hb1.trans ((hb2.trans ((hb3.trans (hb4.mono hb3.size)).mono hb2.size)).mono hb1.size)⟩
  · rcases p with p | p | p <;> rcases q with q | q | q <;> omega
  · rcases p with p | p | p <;> omega
  · rcases p with p | p | p <;> omega

set_option maxRecDepth 100000 in
set_option maxHeartbeats 1000000 in
theorem walk (v0 : Value) (L : List ActV) (w : World) (hA : ActsAt w v0 L) (hZ : ∀ x ∈ L, ActSz x) :
    Calls Try.prog 4 #[v0] w fun e w' => e = .returned (.bool true) ∧ Below w.heap.size w w' := by
  obtain ⟨a, c, rfl, hl, hc, hx, hok⟩ := hA
  have HX : Hid (L ≠ [] → ∃ b off, a = some ⟨b, off, none⟩ ∧ b < w.heap.size ∧ ∀ i, (h : i < L.length) → ActCells w b (off + i * 5) L[i]) := hx
  have HO : Hid (∀ x ∈ L, ActOk w x ∧ ActSz x) := fun x hx => ⟨hok x hx, hZ x hx⟩
  unfold maxLen at hc
  clear hx hok hZ
  go_enter Try.func4, Try.ntmps4
  go_wp2_with fail
  refine (new_any w).mono ?_
  rintro e w1 ⟨rfl, hD1, hb1⟩
  have HD1 : Hid (DiskG Try.prog w1 (w.heap.size + 1) w.heap.size [] Dk.blank) := hD1
  have HB1 : Hid (Below w.heap.size w w1) := hb1
  clear hD1 hb1
  go_wp2_with fail
  refine (new_any w1).mono ?_
  rintro e w2 ⟨rfl, hD2, hb2⟩
  have HD2 : Hid (DiskG Try.prog w2 (w1.heap.size + 1) w1.heap.size [] Dk.blank) := hD2
  have HB2 : Hid (Below w1.heap.size w1 w2) := hb2
  clear hD2 hb2
  go_wp2_with fail
  refine (rnew_any w2).mono ?_
  rintro e w3 ⟨rfl, hR1, hb3⟩
  have HR1 : Hid (RefG w3 w2.heap.size (.slice none 0 0) Dk.blank) := hR1
  have HB3 : Hid (Below w2.heap.size w2 w3) := hb3
  clear hR1 hb3
  go_wp2_with fail
  refine (rnew_any w3).mono ?_
  rintro e w4 ⟨rfl, hR2, hb4⟩
  have HS : Hid (Stand w w4 (w.heap.size + 1) (w1.heap.size + 1) w2.heap.size w3.heap.size) := stand_new HD1.out HB1.out HD2.out HB2.out HR1.out HB3.out hR2 hb4
  clear hR2 hb4 HD1 HB1 HD2 HB2 HR1 HB3
  obtain ⟨pa, hpa⟩ : ∃ pa, w.heap.size + 1 = pa := ⟨_, rfl⟩
  obtain ⟨pb, hpb⟩ : ∃ pb, w1.heap.size + 1 = pb := ⟨_, rfl⟩
  obtain ⟨pc, hpc⟩ : ∃ pc, w2.heap.size = pc := ⟨_, rfl⟩
  obtain ⟨pd, hpd⟩ : ∃ pd, w3.heap.size = pd := ⟨_, rfl⟩
  rw [hpa, hpb, hpc, hpd] at HS
  simp only [hpa, hpb, hpc, hpd]
  clear hpa hpb hpc hpd
  go_wp2_with fail
  go_loopw [7] (fun i wr => ∃ j : Nat, j ≤ L.length ∧ j ≤ 200 ∧ i = .int .i64 j ∧ Stand w wr pa pb pc pd) (fun i _ => L.length - (intOf i).toNat)
  case atStart => exact ⟨0, Nat.zero_le _, Nat.zero_le _, rfl, HS.out⟩
  case round =>
    obtain ⟨j, hj, hj2, rfl, hst⟩ := hrel
    have HSt : Hid (Stand w wr pa pb pc pd) := hst
    clear hst
    have HEnd : Hid (Calls Try.prog 13 #[.pointer (some ⟨pa, 0, none⟩), .pointer (some ⟨pc, 0, none⟩)] wr fun e w' => e = .returned (.bool true) ∧ Stand w w' pa pb pc pd) := HSt.out.same1
    by_cases hlt : j < L.length
    · have hlI : (j : Int) < (L.length : Int) := by omega
      by_cases h2 : j < 200
      · have h2I : (j : Int) < 200 := by omega
        clear HEnd
        obtain ⟨b, off, rfl, hbl, hcs⟩ := HX.out (by intro e; rw [e] at hlt; simp at hlt)
        have hbel := HSt.out.base
        obtain ⟨q0, q1, q2, q3, q4⟩ := (hcs j hlt)
        have hm : L[j] ∈ L := List.getElem_mem hlt
        have hok := HO.out _ hm
        obtain ⟨x, hxe⟩ : ∃ x, L[j] = x := ⟨_, rfl⟩
        rw [hxe] at q0 q1 q2 q3 q4 hok
        have p0 := (hbel.cell (p := ⟨b, off + j * 5, none⟩) hbl).trans q0
        have p1 := (hbel.cell (p := ⟨b, off + j * 5 + 1, none⟩) hbl).trans q1
        have p2 := (hbel.cell (p := ⟨b, off + j * 5 + 2, none⟩) hbl).trans q2
        have p3 := (hbel.cell (p := ⟨b, off + j * 5 + 3, none⟩) hbl).trans q3
        have p4 := (hbel.cell (p := ⟨b, off + j * 5 + 4, none⟩) hbl).trans q4
        have HS1 : Hid (Calls Try.prog 12 #[.pointer (some ⟨pa, 0, none⟩), .pointer (some ⟨pc, 0, none⟩), .agg #[.int .i64 x.kind, .string x.name, .string x.data, .int .i64 x.num, x.dv]] wr fun e w' => e = .returned (.bool true) ∧ Stand w w' pa pb pc pd) := HSt.out.first hok.1 hok.2
        have HS2 : Hid (Calls Try.prog 12 #[.pointer (some ⟨pb, 0, none⟩), .pointer (some ⟨pd, 0, none⟩), .agg #[.int .i64 x.kind, .string x.name, .string x.data, .int .i64 x.num, x.dv]] wr fun e w' => e = .returned (.bool true) ∧ Stand w w' pa pb pc pd) := HSt.out.second hok.1 hok.2
        obtain ⟨da, dc, hdv, -⟩ := hok.1.draws.shape
        rw [hdv] at p4 HS1 HS2
        clear q0 q1 q2 q3 q4 hok hbel hcs hm hxe hdv
        by_cases ho : j % 2 = 1
        · have hoI : (j : Int) % 2 = 1 := by omega
          have hoT : (j : Int).tmod 2 = 1 := by rw [Int.tmod_eq_emod_of_nonneg (by omega)]; exact hoI
          clear HS1
          go_wp2_with fail
          refine HS2.out.mono ?_
          rintro e w5 ⟨rfl, hs5⟩
          have HS5 : Hid (Stand w w5 pa pb pc pd) := hs5
          clear hs5 HS2
          go_wp2_with fail
          go_roundw
          case rel => exact ⟨j + 1, by omega, by omega, by go_num, HS5.out⟩
          case measure => simp [intOf]; omega
        · have hoI : (j : Int) % 2 = 0 := by omega
          have hoT : (j : Int).tmod 2 = 0 := by rw [Int.tmod_eq_emod_of_nonneg (by omega)]; exact hoI
          clear HS2
          go_wp2_with fail
          refine HS1.out.mono ?_
          rintro e w5 ⟨rfl, hs5⟩
          have HS5 : Hid (Stand w w5 pa pb pc pd) := hs5
          clear hs5 HS1
          go_wp2_with fail
          go_roundw
          case rel => exact ⟨j + 1, by omega, by omega, by go_num, HS5.out⟩
          case measure => simp [intOf]; omega
      · have h2I : ¬ (j : Int) < 200 := by omega
        go_wp2_with fail
        refine HEnd.out.mono ?_
        rintro e w5 ⟨rfl, hs5⟩
        have HEnd2 : Hid (Calls Try.prog 13 #[.pointer (some ⟨pb, 0, none⟩), .pointer (some ⟨pd, 0, none⟩)] w5 fun e w' => e = .returned (.bool true) ∧ Stand w w' pa pb pc pd) := hs5.same2
        clear hs5
        go_wp2_with fail
        refine HEnd2.out.mono ?_
        rintro e w6 ⟨rfl, hs6⟩
        have HB : Hid (Below w.heap.size w w6) := hs6.base
        clear hs6
        go_wp2_with fail
        refine (works_any _).mono ?_
        rintro e w7 ⟨rfl, hb7⟩
        go_wp2_with fail
        go_ret
        exact ⟨rfl, HB.out.trans (hb7.mono HB.out.size)⟩
    · have hlI : ¬ (j : Int) < (L.length : Int) := by omega
      go_wp2_with fail
      refine HEnd.out.mono ?_
      rintro e w5 ⟨rfl, hs5⟩
      have HEnd2 : Hid (Calls Try.prog 13 #[.pointer (some ⟨pb, 0, none⟩), .pointer (some ⟨pd, 0, none⟩)] w5 fun e w' => e = .returned (.bool true) ∧ Stand w w' pa pb pc pd) := hs5.same2
      clear hs5
      go_wp2_with fail
      refine HEnd2.out.mono ?_
      rintro e w6 ⟨rfl, hs6⟩
      have HB : Hid (Below w.heap.size w w6) := hs6.base
      clear hs6
      go_wp2_with fail
      refine (works_any _).mono ?_
      rintro e w7 ⟨rfl, hb7⟩
      go_wp2_with fail
      go_ret
      exact ⟨rfl, HB.out.trans (hb7.mono HB.out.size)⟩

set_option maxRecDepth 100000 in
theorem lifted (os : Os) (started : os.Started) (H : Type) (enc : TypeId × Value → H) :
    ReturnsInHanded {} Try.checked os 4 .any (Rows.diskTwoSpec.pre6 enc Try.prog Try.f4 Rows.diskTwoRow.domain false) (Rows.diskTwoSpec.post enc Try.prog Try.f4 false true false false) := by
  refine returnsInHanded_of_change_sized (C := Try.checked) own started (by kernel_rfl) Try.func4
    (ChangeSpec.witness6 (enc := enc) (C := Try.checked) false ⟨#[], #[.slice none 0 0], []⟩ 8 (by kernel_rfl) (by kernel_rfl) (by kernel_rfl) (by kernel_rfl)) ?_
  intro W base args ds gs before hval0 hW _ hsz0 _
  have hsz : (DataW.weightsEach Try.prog (Try.f4.params.toList ++ Rows.diskTwoSpec.plain.varTypes Try.prog) (ds ++ gs)).all (· ≤ reachBytes) = true := hsz0
  have hval : ∀ (j : Nat) t v, Try.f4.params[j]? = some t → args[j]? = some v → Value.okWide Try.prog W .any base t v := hval0
  have hW' := hW
  obtain ⟨p, q, hA0, hV, rfl, hfz, hnd⟩ := hW
  have hA : DataW.TrodAll enc Try.prog W 0 (fun _ => true) true Try.f4.params.toList args.toList ds p := hA0
  rw [Try.params4] at hA hval hsz
  obtain ⟨v0, vs0, d0, ds0, p0, q0, hargs, rfl, rfl, h0, r0⟩ := trodAll_cons hA
  obtain ⟨rfl, rfl, rfl⟩ := trodAll_nil r0
  obtain rfl : args = #[v0] := by cases args; simp_all
  obtain ⟨rfl, rfl⟩ := trodVars_none hV
  have lt0 : ∀ x ∈ p0, x.block < W.heap.size := by obtain ⟨m, hm⟩ := h0; exact DataW.trod_lt m _ _ _ hm
  have hwt : ∀ n ∈ d0.weights Try.prog 22, n ≤ reachBytes := fun n hn => by
    have := List.all_eq_true.1 hsz n (DataW.weights_mem_each (j := 0) rfl rfl n hn)
    simpa using this
  have x0 : ∃ L, ActsAt W v0 L ∧ ∀ y ∈ L, ActSz y := by
    obtain ⟨a, l, c, rfl⟩ := okWide_slice Try.underlying22 (hval 0 22 v0 rfl rfl)
    obtain ⟨m, hm⟩ := h0
    exact acts_sized hm hwt
  obtain ⟨L, hL, hZ⟩ := x0
  clear hA0 hval0 hsz0
  refine (walk v0 L W hL hZ).mono fun e W' ⟨he, bel⟩ => ?_
  subst he
  exact ⟨_, rfl, _, _, _, [], _, [], hW', trodAll_mk1 (shut_bool Try.underlying4 _), (trodAll_cons_mk (Below.trod laidOut (by kernel_rfl) (of_decide_eq_true (by kernel_rfl)) h0 bel lt0) trodAll_mk0), rfl, bel.frame _, fun h => by cases h⟩

end Two
end Go.Proofs.Ytbiombolpfhdlaa

namespace Go.Proofs.Ytbiombolpfhdlaa
theorem diskTwo_holds : Rows.DiskTwoSaid :=
  OpenClaim.holds_of_wide 4 Try.f4 rfl rfl rfl rfl rfl rfl rfl ⟨rfl, rfl, rfl, rfl, rfl⟩ rfl rfl rfl rfl rfl (by kernel_rfl) Try.func4 (by kernel_rfl)
    (of_decide_eq_true (by kernel_rfl)) (by unfold Func.isWrapper; first | (rw [if_pos (by decide +kernel)]; kernel_rfl) | (rw [if_neg (by decide +kernel)]; exact ⟨rfl, rfl⟩))
    (fun os started H enc _ => Two.lifted os started H enc)
end Go.Proofs.Ytbiombolpfhdlaa

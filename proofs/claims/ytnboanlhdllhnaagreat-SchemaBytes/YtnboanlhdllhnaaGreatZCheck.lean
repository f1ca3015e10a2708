/- The program's Check. -/
import Derived.Test.YtnboanlhdllhnaaGreatZNames
namespace Go.Proofs.YtnboanlhdllhnaaGreat
open Go.RowKit

/-- all its numbers are ints, all its texts have lengths -/
structure Rg (T : Tab) : Prop where
  nm : Sz T.nm
  co : ∀ c ∈ T.co, OkCol c
  key : I64 T.key
  ix : ∀ x ∈ T.ix, Sz x.nm ∧ ∀ n ∈ x.cs, I64 n

theorem numOk_iff {n : Nat} {x : Int} : numOk n x = true ↔ 0 ≤ x ∧ x < (n : Int) := by unfold numOk; simp

set_option maxHeartbeats 400000 in
theorem numbersMayBe_any (v : Value) (L : List Int) (n : Nat) (w w0 : World) (h : SliceAt w0 v 1 enI L) (hb : Below w0.heap.size w0 w) :
    Calls Tryz.prog 64 #[v, .int .i64 (n : Int)] w fun e w' => e = .returned (.bool (numsOk n L)) ∧ w' = w := by
  obtain ⟨a, c, rfl, h1, h2, h3⟩ := h.opened
  have HX : Hid (∀ i y, L[i]? = some y → ∃ b off, a = some ⟨b, off, none⟩ ∧ w.cell? ⟨b, off + i, none⟩ = some (.int .i64 y)) := fun i y hy => by
    obtain ⟨hi, rfl⟩ := List.getElem?_eq_some_iff.1 hy
    obtain ⟨b, off, e, _, hc⟩ := h3 w hb i hi
    have := hc 0 _ rfl
    rw [Nat.mul_one] at this
    exact ⟨b, off, e, this⟩
  obtain ⟨N, hN⟩ : ∃ N, L.length = N := ⟨_, rfl⟩
  have HL : Hid (L.length = N) := hN
  unfold maxLen at h2
  rw [hN] at h1 ⊢
  clear h h3 hN hb
  by_cases g1 : N < 1
  · have g1' : (N : Int) < 1 := by omega
    have hf : numsOk n L = false := by unfold numsOk; rw [decide_eq_false (by rw [HL.out]; omega)]; rfl
    rw [hf]
    go_enter Tryz.func64, Tryz.ntmps64
    go_wp2
    go_ret
    exact ⟨rfl, rfl⟩
  · have g1' : ¬ (N : Int) < 1 := by omega
    by_cases g2 : 32 < N
    · have g2' : (32 : Int) < (N : Int) := by omega
      have hf : numsOk n L = false := by unfold numsOk; rw [decide_eq_false (p := L.length ≤ 32) (by rw [HL.out]; omega)]; simp
      rw [hf]
      go_enter Tryz.func64, Tryz.ntmps64
      go_wp2
      go_ret
      exact ⟨rfl, rfl⟩
    · have g2' : ¬ (32 : Int) < (N : Int) := by omega
      have HE : Hid (numsOk n L = L.all (numOk n)) := by show _ = _; unfold numsOk; rw [HL.out, decide_eq_true (by omega), decide_eq_true (by omega)]; rfl
      go_enter Tryz.func64, Tryz.ntmps64
      go_wp2
      go_loop [17] (fun v => ∃ i : Nat, i ≤ N ∧ v = .int .i64 i ∧ Hid ((L.take i).all (numOk n) = true)) (fun v => N - (intOf v).toNat)
      case atStart => exact ⟨0, Nat.zero_le _, rfl, (rfl : _ = _)⟩
      case round =>
        obtain ⟨i, hi, rfl, HA⟩ := hrel
        by_cases hlt : i < N
        · obtain ⟨y, hy⟩ : ∃ y, L[i]? = some y := ⟨_, List.getElem?_eq_getElem (by rw [HL.out]; exact hlt)⟩
          obtain ⟨b, off, rfl, q1⟩ := HX.out i y hy
          have hlI : (i : Int) < (N : Int) := by omega
          have HS : Hid ((L.take (i + 1)).all (numOk n) = numOk n y) := by show _ = _; rw [List.take_add_one, hy, List.all_append, HA.out]; simp
          have HF : Hid (numOk n y = false → numsOk n L = false) := fun hf => by
            rw [HE.out, ← List.take_append_drop (i + 1) L, List.all_append, HS.out, hf]; rfl
          clear hy
          by_cases k1 : y < 0
          · go_wp2
            go_ret
            refine ⟨ret_bool (HF.out ?_).symm, rfl⟩
            unfold numOk; rw [decide_eq_false (by omega)]; rfl
          · by_cases k2 : (n : Int) ≤ y
            · go_wp2
              go_ret
              refine ⟨ret_bool (HF.out ?_).symm, rfl⟩
              unfold numOk; rw [decide_eq_false (p := y < (n : Int)) (by omega)]; simp
            · go_wp2
              go_round
              case rel => exact ⟨i + 1, by omega, by go_num, HS.out.trans (numOk_iff.2 ⟨by omega, by omega⟩)⟩
              case measure => simp [intOf]; omega
        · have hlI : ¬ (i : Int) < (N : Int) := by omega
          go_wp2
          go_ret
          refine ⟨ret_bool ?_, rfl⟩
          have := HA.out
          rw [List.take_of_length_le (by rw [HL.out]; omega)] at this
          rw [HE.out, this]

theorem set_alloc_below {w wr : World} {nb : Nat} (h : Below nb w wr) (hl : nb < wr.heap.size) (i : Nat) (x : Value) (o : Obj) : Below nb w ((wr.setCell ⟨nb, i, none⟩ x).alloc o) :=
  (h.trans ((Turn.setCell (S := fun j => nb ≤ j) wr ⟨nb, i, none⟩ x (Nat.le_refl _)).toBelow (by omega))).trans (((Below.refl _ _).alloc (Nat.le_refl _) o).mono (by simp; omega))
theorem kindOk_iff {k : Int} : kindOk k = true ↔ 1 ≤ k ∧ k ≤ 5 := by unfold kindOk; simp

set_option maxRecDepth 100000 in
set_option maxHeartbeats 1000000 in
theorem columnsMayBe_any (v : Value) (L : List (ByteArray × Int)) (w : World) (h : SliceAt w v 2 enC L) (hs : ∀ c ∈ L, Sz c.1) :
    Calls Tryz.prog 41 #[v] w fun e w' => e = .returned (.bool (colsOk L)) ∧ Below w.heap.size w w' := by
  obtain ⟨a, c, rfl, h1, h2, h3⟩ := h.opened
  have HX : Hid (∀ u, Below w.heap.size w u → ∀ i y, L[i]? = some y → ∃ b off, a = some ⟨b, off, none⟩ ∧ u.cell? ⟨b, off + i * 2, none⟩ = some (.string y.1) ∧ u.cell? ⟨b, off + i * 2 + 1, none⟩ = some (.int .i64 y.2)) := fun u hu i y hy => by
    obtain ⟨hi, rfl⟩ := List.getElem?_eq_some_iff.1 hy
    obtain ⟨b, off, e, _, hc⟩ := h3 u hu i hi
    exact ⟨b, off, e, hc 0 _ rfl, hc 1 _ rfl⟩
  obtain ⟨N, hN⟩ : ∃ N, L.length = N := ⟨_, rfl⟩
  have HL : Hid (L.length = N) := hN
  unfold maxLen at h2
  rw [hN] at h1 ⊢
  have HZ : Hid (∀ c ∈ L, Sz c.1) := hs
  clear h h3 hN hs
  by_cases g1 : N < 1
  · have g1' : (N : Int) < 1 := by omega
    have hf : colsOk L = false := by unfold colsOk; rw [decide_eq_false (by rw [HL.out]; omega)]; rfl
    rw [hf]
    go_enter Tryz.func41, Tryz.ntmps41
    go_wp2
    go_ret
    exact ⟨rfl, Below.refl _ _⟩
  · have g1' : ¬ (N : Int) < 1 := by omega
    by_cases g2 : 32 < N
    · have g2' : (32 : Int) < (N : Int) := by omega
      have hf : colsOk L = false := by unfold colsOk; rw [decide_eq_false (p := L.length ≤ 32) (by rw [HL.out]; omega)]; simp
      rw [hf]
      go_enter Tryz.func41, Tryz.ntmps41
      go_wp2
      go_ret
      exact ⟨rfl, Below.refl _ _⟩
    · have g2' : ¬ (32 : Int) < (N : Int) := by omega
      have HE : Hid (colsOk L = (L.all (fun c => kindOk c.2) && namesOk [] (L.map (·.1)))) := by show _ = _; unfold colsOk; rw [HL.out, decide_eq_true (by omega), decide_eq_true (by omega)]; rfl
      obtain ⟨K, hK⟩ : ∃ K, L.map (·.1) = K := ⟨_, rfl⟩
      have HK : Hid (L.map (·.1) = K) := hK
      have HKL : Hid (K.length = N) := by show _ = _; rw [← hK, List.length_map, HL.out]
      have hmk := fun u => make_strs u N (by omega)
      clear hK
      go_enter Tryz.func41, Tryz.ntmps41
      go_wp2
      obtain ⟨nb, hb⟩ : ∃ nb, w.heap.size = nb := ⟨_, rfl⟩
      have HBE : Hid (w.heap.size = nb) := hb
      rw [hb]
      go_loopw [19] (fun v wr => ∃ i : Nat, i ≤ N ∧ v = .int .i64 i ∧ Hid (TextsAt wr nb (part K i)) ∧ Hid (Below nb w wr) ∧ Hid ((L.take i).all (fun c => kindOk c.2) = true)) (fun v _ => N - (intOf v).toNat)
      case atStart =>
        refine ⟨0, Nat.zero_le _, rfl, ?_, ?_, (rfl : _ = _)⟩
        · show TextsAt _ nb (part K 0)
          rw [part_zero, HKL.out, ← HBE.out]
          exact heap_new w _
        · show Below nb w _
          rw [← HBE.out]
          exact (Below.refl _ _).alloc (Nat.le_refl _) _
      case round =>
        clear hb
        obtain ⟨i, hi, rfl, HT, HB, HA⟩ := hrel
        have hbl : nb < wr.heap.size := lt_of HT.out
        by_cases hlt : i < N
        · obtain ⟨⟨y, k⟩, hy⟩ : ∃ y, L[i]? = some y := ⟨_, List.getElem?_eq_getElem (by rw [HL.out]; exact hlt)⟩
          obtain ⟨b, off, rfl, q1, q2⟩ := HX.out wr (by rw [HBE.out]; exact HB.out) i (y, k) hy
          dsimp only at q1 q2
          have hlI : (i : Int) < (N : Int) := by omega
          have hiK : i < K.length := by rw [HKL.out]; exact hlt
          have HY : Hid (K[i]? = some y) := by show _ = _; rw [← HK.out, List.getElem?_map, hy]; rfl
          have HS : Hid ((L.take (i + 1)).all (fun c => kindOk c.2) = kindOk k) := by show _ = _; rw [List.take_add_one, hy, List.all_append, HA.out]; simp
          have HF : Hid (kindOk k = false → colsOk L = false) := fun hf => by
            rw [HE.out, ← List.take_append_drop (i + 1) L, List.all_append, HS.out, hf]; rfl
          have q0 : wr.cell? ⟨nb, i, none⟩ = some (.string ⟨#[]⟩) := HT.out.cell (part_at K hiK)
          have q3 := frozen_of HT.out i
          have HBA : Hid (∀ o : Obj, Below w.heap.size w (wr.alloc o)) := fun o => by rw [HBE.out]; exact HB.out.trans (((Below.refl _ wr).alloc (Nat.le_refl _) o).mono (by omega))
          clear hy hiK
          by_cases k1 : k < 1
          · go_wp2
            go_ret
            refine ⟨ret_bool (HF.out ?_).symm, HBA.out _⟩
            unfold kindOk; rw [decide_eq_false (by omega)]; rfl
          · by_cases k2 : 5 < k
            · go_wp2
              go_ret
              refine ⟨ret_bool (HF.out ?_).symm, HBA.out _⟩
              unfold kindOk; rw [decide_eq_false (p := k ≤ 5) (by omega)]; simp
            · go_wp2
              go_roundw
              case rel =>
                have hiK : i < K.length := by rw [HKL.out]; exact hlt
                refine ⟨i + 1, by omega, by go_num, ?_, ?_, HS.out.trans (kindOk_iff.2 ⟨by omega, by omega⟩)⟩
                · show TextsAt _ nb (part K (i + 1))
                  rw [← part_next K hiK, show y = K[i] by have := HY.out; rw [List.getElem?_eq_getElem hiK] at this; exact (Option.some.inj this).symm]
                  exact (HT.out.set i _).below ((Below.refl _ _).alloc (Nat.le_refl _) _)
                · show Below nb w _
                  exact set_alloc_below HB.out hbl i _ _
              case measure => simp [intOf]; omega
        · have hlI : ¬ (i : Int) < (N : Int) := by omega
          obtain rfl : i = N := by omega
          have HNs : Hid (Calls Tryz.prog 63 #[.slice (some ⟨nb, 0, none⟩) i i] wr fun e w' => e = .returned (.bool (namesOk [] K)) ∧ w' = wr) := by
            have ht := HT.out
            rw [← HKL.out, part_all] at ht
            refine namesMayBe_any nb K i wr ht HKL.out (fun x hx => ?_) (by omega)
            rw [← HK.out] at hx
            obtain ⟨p, hp, rfl⟩ := List.mem_map.1 hx
            exact HZ.out p hp
          go_wp2_with (go_at_call 63; go_must (refine HNs.out.mono ?_; rintro e w' ⟨rfl, rfl⟩))
          go_ret
          refine ⟨ret_bool ?_, by rw [HBE.out]; exact HB.out⟩
          have := HA.out
          rw [List.take_of_length_le (by rw [HL.out]; omega)] at this
          rw [HE.out, this, HK.out]
          rfl

set_option maxRecDepth 100000 in
set_option maxHeartbeats 1000000 in
theorem indexesMayBe_any (v : Value) (L : List Iv) (n : Nat) (w w0 : World) (hbb : Below w0.heap.size w0 w) (h0 : SliceAt w0 v 3 enX L) (hi : ∀ x ∈ L, SliceAt w0 x.v 1 enI x.ix.cs) (hs : ∀ x ∈ L, Sz x.ix.nm) :
    Calls Tryz.prog 42 #[v, .int .i64 (n : Int)] w fun e w' => e = .returned (.bool (ixsOk n (L.map Iv.ix))) ∧ Below w.heap.size w w' := by
  have h := h0.below hbb
  obtain ⟨a, c, rfl, h1, h2, h3⟩ := h.opened
  have HX : Hid (∀ u, Below w.heap.size w u → ∀ i y, L[i]? = some y → ∃ b off, a = some ⟨b, off, none⟩ ∧ u.cell? ⟨b, off + i * 3, none⟩ = some (.string y.ix.nm) ∧ u.cell? ⟨b, off + i * 3 + 1, none⟩ = some y.v ∧ u.cell? ⟨b, off + i * 3 + 2, none⟩ = some (.bool y.ix.un)) := fun u hu i y hy => by
    obtain ⟨hi, rfl⟩ := List.getElem?_eq_some_iff.1 hy
    obtain ⟨b, off, e, _, hc⟩ := h3 u hu i hi
    exact ⟨b, off, e, hc 0 _ rfl, hc 1 _ rfl, hc 2 _ rfl⟩
  obtain ⟨N, hN⟩ : ∃ N, L.length = N := ⟨_, rfl⟩
  have HL : Hid (L.length = N) := hN
  unfold maxLen at h2
  rw [hN] at h1 ⊢
  have HZ : Hid (∀ c ∈ L, Sz c.ix.nm) := hs
  have HI : Hid (∀ u, Below w.heap.size w u → ∀ x ∈ L, Calls Tryz.prog 64 #[x.v, .int .i64 (n : Int)] u fun e w' => e = .returned (.bool (numsOk n x.ix.cs)) ∧ w' = u) := fun u hu x hx => numbersMayBe_any x.v x.ix.cs n u w ((hi x hx).below hbb) hu
  have HV : Hid (∀ x ∈ L, ∃ a c, x.v = .slice a x.ix.cs.length c) := fun x hx => by
    obtain ⟨a, c, e, _⟩ := hi x hx
    exact ⟨a, c, e⟩
  clear h h0 h3 hN hs hi hbb
  by_cases g2 : 8 < N
  · have g2' : (8 : Int) < (N : Int) := by omega
    have hf : ixsOk n (L.map Iv.ix) = false := by unfold ixsOk; rw [decide_eq_false (by rw [List.length_map, HL.out]; omega)]; simp
    rw [hf]
    go_enter Tryz.func42, Tryz.ntmps42
    go_wp2
    go_ret
    exact ⟨rfl, Below.refl _ _⟩
  · have g2' : ¬ (8 : Int) < (N : Int) := by omega
    obtain ⟨K, hK⟩ : ∃ K, (L.map Iv.ix).map (·.nm) = K := ⟨_, rfl⟩
    have HE : Hid (ixsOk n (L.map Iv.ix) = (L.all (fun c => numsOk n c.ix.cs) && namesOk [] K)) := by
      show _ = _
      unfold ixsOk
      rw [List.length_map, HL.out, decide_eq_true (by omega), ← hK, List.all_map]
      rfl
    have HK : Hid ((L.map Iv.ix).map (·.nm) = K) := hK
    have HKL : Hid (K.length = N) := by show _ = _; rw [← hK, List.length_map, List.length_map, HL.out]
    have hmk := fun u => make_strs u N (by omega)
    clear hK
    go_enter Tryz.func42, Tryz.ntmps42
    go_wp2
    obtain ⟨nb, hb⟩ : ∃ nb, w.heap.size = nb := ⟨_, rfl⟩
    have HBE : Hid (w.heap.size = nb) := hb
    rw [hb]
    go_loopw [16] (fun v wr => ∃ i : Nat, i ≤ N ∧ v = .int .i64 i ∧ Hid (TextsAt wr nb (part K i)) ∧ Hid (Below nb w wr) ∧ Hid ((L.take i).all (fun c => numsOk n c.ix.cs) = true)) (fun v _ => N - (intOf v).toNat)
    case atStart =>
      refine ⟨0, Nat.zero_le _, rfl, ?_, ?_, (rfl : _ = _)⟩
      · show TextsAt _ nb (part K 0)
        rw [part_zero, HKL.out, ← HBE.out]
        exact heap_new w _
      · show Below nb w _
        rw [← HBE.out]
        exact (Below.refl _ _).alloc (Nat.le_refl _) _
    case round =>
      clear hb
      obtain ⟨i, hi, rfl, HT, HB, HA⟩ := hrel
      have hbl : nb < wr.heap.size := lt_of HT.out
      by_cases hlt : i < N
      · obtain ⟨⟨⟨y, cs, un⟩, vv⟩, hy⟩ : ∃ y, L[i]? = some y := ⟨_, List.getElem?_eq_getElem (by rw [HL.out]; exact hlt)⟩
        have hmem := List.mem_of_getElem? hy
        obtain ⟨b, off, rfl, q1, q2, q4⟩ := HX.out wr (by rw [HBE.out]; exact HB.out) i _ hy
        obtain ⟨va, vc, hvv⟩ := HV.out _ hmem
        dsimp only at q1 q2 q4 hvv
        subst hvv
        obtain ⟨nc, hnc⟩ : ∃ nc, cs.length = nc := ⟨_, rfl⟩
        have hlI : (i : Int) < (N : Int) := by omega
        have hiK : i < K.length := by rw [HKL.out]; exact hlt
        have HY : Hid (K[i]? = some y) := by show _ = _; rw [← HK.out, List.getElem?_map, List.getElem?_map, hy]; rfl
        have HS : Hid ((L.take (i + 1)).all (fun c => numsOk n c.ix.cs) = numsOk n cs) := by show _ = _; rw [List.take_add_one, hy, List.all_append, HA.out]; simp
        have HF : Hid (numsOk n cs = false → ixsOk n (L.map Iv.ix) = false) := fun hf => by
          rw [HE.out, ← List.take_append_drop (i + 1) L, List.all_append, HS.out, hf]; rfl
        have q0 : wr.cell? ⟨nb, i, none⟩ = some (.string ⟨#[]⟩) := HT.out.cell (part_at K hiK)
        have q3 := frozen_of HT.out i
        have HBA : Hid (∀ o : Obj, Below w.heap.size w (wr.alloc o)) := fun o => by rw [HBE.out]; exact HB.out.trans (((Below.refl _ wr).alloc (Nat.le_refl _) o).mono (by omega))
        have HNm : Hid (∀ o : Obj, Calls Tryz.prog 64 #[.slice va nc vc, .int .i64 (n : Int)] (wr.alloc o) fun e w' => e = .returned (.bool (numsOk n cs)) ∧ wr.alloc o = w') := fun o => by
          have := HI.out (wr.alloc o) (HBA.out o) _ hmem
          dsimp only at this
          rw [hnc] at this
          exact this.mono fun e w' ⟨h1, h2⟩ => ⟨h1, h2.symm⟩
        obtain ⟨bb, hbb⟩ : ∃ bb, numsOk n cs = bb := ⟨_, rfl⟩
        rw [hbb] at HNm HF HS
        rw [hnc] at q2
        clear hy hiK hmem hbb hnc
        cases bb
        · go_wp2_with (go_at_call 64; go_must (refine (HNm.out _).mono ?_; rintro e w' ⟨rfl, rfl⟩))
          go_ret
          exact ⟨ret_bool (HF.out trivial).symm, HBA.out _⟩
        · go_wp2_with (go_at_call 64; go_must (refine (HNm.out _).mono ?_; rintro e w' ⟨rfl, rfl⟩))
          go_roundw
          case rel =>
            have hiK : i < K.length := by rw [HKL.out]; exact hlt
            refine ⟨i + 1, by omega, by go_num, ?_, ?_, HS⟩
            · show TextsAt _ nb (part K (i + 1))
              rw [← part_next K hiK, show y = K[i] by have := HY.out; rw [List.getElem?_eq_getElem hiK] at this; exact (Option.some.inj this).symm]
              exact (HT.out.set i _).below ((Below.refl _ _).alloc (Nat.le_refl _) _)
            · show Below nb w _
              exact set_alloc_below HB.out hbl i _ _
          case measure => simp [intOf]; omega
      · have hlI : ¬ (i : Int) < (N : Int) := by omega
        obtain rfl : i = N := by omega
        have HNs : Hid (Calls Tryz.prog 63 #[.slice (some ⟨nb, 0, none⟩) i i] wr fun e w' => e = .returned (.bool (namesOk [] K)) ∧ w' = wr) := by
          have ht := HT.out
          rw [← HKL.out, part_all] at ht
          refine namesMayBe_any nb K i wr ht HKL.out (fun x hx => ?_) (by omega)
          rw [← HK.out] at hx
          obtain ⟨p, hp, rfl⟩ := List.mem_map.1 hx
          obtain ⟨q, hq, rfl⟩ := List.mem_map.1 hp
          exact HZ.out q hq
        go_wp2_with (go_at_call 63; go_must (refine HNs.out.mono ?_; rintro e w' ⟨rfl, rfl⟩))
        go_ret
        refine ⟨ret_bool ?_, by rw [HBE.out]; exact HB.out⟩
        have := HA.out
        rw [List.take_of_length_le (by rw [HL.out]; omega)] at this
        rw [HE.out, this]
        rfl

end Go.Proofs.YtnboanlhdllhnaaGreat

/- MoneyParts: the law's walk. -/
import Derived.Test.YtfaelefeiinbaaaDoorMWorks
namespace Go.Proofs.YtfaelefeiinbaaaDoor
open Go.RowKit MP
namespace PartsL

theorem part_to (a r : Int) (w u : World) (h : Below w.heap.size w u) (V E : Int) (hV : partV a r = V) (hE : partE a r = E) : Calls Tryd.prog 17 #[.int .i64 a, .int .i64 r] u fun e w' => e = .returned (.tuple #[.int .i64 V, .int .i64 E]) ∧ Below w.heap.size w w' := by
  refine (Part_any a r u).mono fun e w' hh => ?_
  obtain ⟨h1, n, h2⟩ := hh
  rw [hV, hE] at h1
  exact ⟨h1, by rw [h2]; exact h.trans ((below_drewN u n).mono h.size)⟩
theorem part_ok {a r : Int} (h1 : may a = true) (h2 : isRate r = true) (h3 : may (partI a r) = true) : partE a r = 0 := by
  unfold partE
  rw [h1, h2, h3]
  rfl

set_option maxRecDepth 100000 in
set_option maxHeartbeats 1000000 in
theorem walk (a r o : Int) (w : World) : Calls Tryd.prog 8 #[.int .i64 a, .int .i64 r, .int .i64 o] w fun e w' => e = .returned (.bool true) ∧ Below w.heap.size w w' := by
  have HW : Hid (Calls Tryd.prog 13 #[] w fun e w' => e = .returned (.bool true) ∧ Below w.heap.size w w') := works_any w
  obtain ⟨V1, hV1⟩ : ∃ V, partV a r = V := ⟨_, rfl⟩
  obtain ⟨E1, hE1⟩ : ∃ V, partE a r = V := ⟨_, rfl⟩
  obtain ⟨V2, hV2⟩ : ∃ V, partV a o = V := ⟨_, rfl⟩
  obtain ⟨E2, hE2⟩ : ∃ V, partE a o = V := ⟨_, rfl⟩
  have H1 : Hid (∀ u, Below w.heap.size w u → Calls Tryd.prog 17 #[.int .i64 a, .int .i64 r] u fun e w' => e = .returned (.tuple #[.int .i64 V1, .int .i64 E1]) ∧ Below w.heap.size w w') := fun u hu => part_to a r w u hu _ _ hV1 hE1
  have H2 : Hid (∀ u, Below w.heap.size w u → Calls Tryd.prog 17 #[.int .i64 a, .int .i64 o] u fun e w' => e = .returned (.tuple #[.int .i64 V2, .int .i64 E2]) ∧ Below w.heap.size w w') := fun u hu => part_to a o w u hu _ _ hV2 hE2
  by_cases h1 : E1 = 0
  · by_cases h2 : E2 = 0
    · rw [h1] at hE1 H1
      rw [h2] at hE2 H2
      clear h1 h2
      obtain ⟨m1, m2, m3⟩ := partE_ok hE1
      obtain ⟨_, m4, m5⟩ := partE_ok hE2
      have e1 : partI a r = V1 := (partV_ok hE1).symm.trans hV1
      have e2 : partI a o = V2 := (partV_ok hE2).symm.trans hV2
      have ha := (may_iff a).1 m1
      have hv1 := (may_iff _).1 m3
      rw [e1] at hv1
      have n1 : may (-a) = true := by rw [may_neg]; exact m1
      have n2 : partI (-a) r = -V1 := by rw [partI_neg, e1]
      have n3 : may (partI (-a) r) = true := by rw [n2, may_neg, ← e1]; exact m3
      have n4 : partE (-a) r = 0 := part_ok n1 m2 n3
      have n5 : partV (-a) r = -V1 := (partV_ok n4).trans n2
      have k1 : partE a 10000 = 0 := part_ok m1 (by decide) (by rw [partI_whole]; exact m1)
      have k2 : partV a 10000 = a := (partV_ok k1).trans (partI_whole a)
      have k3 : partE a 0 = 0 := part_ok m1 (by decide) (by rw [partI_none]; decide)
      have k4 : partV a 0 = 0 := (partV_ok k3).trans (partI_none a)
      have H3 : Hid (∀ u, Below w.heap.size w u → Calls Tryd.prog 17 #[.int .i64 (-a), .int .i64 r] u fun e w' => e = .returned (.tuple #[.int .i64 (-V1), .int .i64 0]) ∧ Below w.heap.size w w') := fun u hu => part_to _ _ w u hu _ _ n5 n4
      have H4 : Hid (∀ u, Below w.heap.size w u → Calls Tryd.prog 17 #[.int .i64 a, .int .i64 10000] u fun e w' => e = .returned (.tuple #[.int .i64 a, .int .i64 0]) ∧ Below w.heap.size w w') := fun u hu => part_to _ _ w u hu _ _ k2 k1
      have H5 : Hid (∀ u, Below w.heap.size w u → Calls Tryd.prog 17 #[.int .i64 a, .int .i64 0] u fun e w' => e = .returned (.tuple #[.int .i64 0, .int .i64 0]) ∧ Below w.heap.size w w') := fun u hu => part_to _ _ w u hu _ _ k4 k3
      have wa : IntKind.i64.wrap (-a) = -a := wrapI (by omega) (by omega)
      have wv : IntKind.i64.wrap (-V1) = -V1 := wrapI (by omega) (by omega)
      have b1 : (a != a) = false := by simp
      have b2 : (-V1 != -V1) = false := by simp
      have HMo : Hid (r ≤ o → (0 ≤ a ∧ V1 ≤ V2) ∨ (¬ (0 ≤ a ∧ V1 ≤ V2) ∧ a ≤ 0 ∧ V2 ≤ V1)) := fun h => by
        obtain ⟨k5, k6⟩ := partI_mono (a := a) h
        rw [e1, e2] at k5 k6
        by_cases h0 : 0 ≤ a
        · exact Or.inl ⟨h0, k5 h0⟩
        · exact Or.inr ⟨by omega, by omega, k6 (by omega)⟩
      clear hE1 hE2 hV1 hV2 m1 m2 m3 m4 m5 e1 e2 ha hv1 n1 n2 n3 n4 n5 k1 k2 k3 k4
      by_cases hro : r ≤ o
      · rcases HMo.out hro with ⟨h0, h1⟩ | ⟨hn, h0, h1⟩
        · go_enter Tryd.func8, Tryd.ntmps8
          go_wp2_with fail
          refine HW.out.mono ?_
          rintro y w1 ⟨rfl, hb⟩
          go_wp2_with fail
          refine (H1.out _ hb).mono ?_
          rintro y w2 ⟨rfl, hb⟩
          go_wp2_with fail
          refine (H2.out _ hb).mono ?_
          rintro y w3 ⟨rfl, hb⟩
          go_wp2_with fail
          refine (H3.out _ hb).mono ?_
          rintro y w4 ⟨rfl, hb⟩
          go_wp2_with fail
          refine (H4.out _ hb).mono ?_
          rintro y w5 ⟨rfl, hb⟩
          go_wp2_with fail
          refine (H5.out _ hb).mono ?_
          rintro y w6 ⟨rfl, hb⟩
          go_wp2_with fail
          go_ret
          exact ⟨rfl, hb⟩
        · by_cases hz : 0 ≤ a
          · have h2 : ¬ V1 ≤ V2 := fun h => hn ⟨hz, h⟩
            have d1 : decide (V1 ≤ V2) = false := decide_eq_false h2
            clear hn
            go_enter Tryd.func8, Tryd.ntmps8
            go_wp2_with fail
            refine HW.out.mono ?_
            rintro y w1 ⟨rfl, hb⟩
            go_wp2_with fail
            refine (H1.out _ hb).mono ?_
            rintro y w2 ⟨rfl, hb⟩
            go_wp2_with fail
            refine (H2.out _ hb).mono ?_
            rintro y w3 ⟨rfl, hb⟩
            go_wp2_with fail
            refine (H3.out _ hb).mono ?_
            rintro y w4 ⟨rfl, hb⟩
            go_wp2_with fail
            refine (H4.out _ hb).mono ?_
            rintro y w5 ⟨rfl, hb⟩
            go_wp2_with fail
            refine (H5.out _ hb).mono ?_
            rintro y w6 ⟨rfl, hb⟩
            go_wp2_with fail
            go_ret
            exact ⟨rfl, hb⟩
          · have d1 : decide (0 ≤ a) = false := decide_eq_false hz
            clear hn
            go_enter Tryd.func8, Tryd.ntmps8
            go_wp2_with fail
            refine HW.out.mono ?_
            rintro y w1 ⟨rfl, hb⟩
            go_wp2_with fail
            refine (H1.out _ hb).mono ?_
            rintro y w2 ⟨rfl, hb⟩
            go_wp2_with fail
            refine (H2.out _ hb).mono ?_
            rintro y w3 ⟨rfl, hb⟩
            go_wp2_with fail
            refine (H3.out _ hb).mono ?_
            rintro y w4 ⟨rfl, hb⟩
            go_wp2_with fail
            refine (H4.out _ hb).mono ?_
            rintro y w5 ⟨rfl, hb⟩
            go_wp2_with fail
            refine (H5.out _ hb).mono ?_
            rintro y w6 ⟨rfl, hb⟩
            go_wp2_with fail
            go_ret
            exact ⟨rfl, hb⟩
      · go_enter Tryd.func8, Tryd.ntmps8
        go_wp2_with fail
        refine HW.out.mono ?_
        rintro y w1 ⟨rfl, hb⟩
        go_wp2_with fail
        refine (H1.out _ hb).mono ?_
        rintro y w2 ⟨rfl, hb⟩
        go_wp2_with fail
        refine (H2.out _ hb).mono ?_
        rintro y w3 ⟨rfl, hb⟩
        go_wp2_with fail
        refine (H3.out _ hb).mono ?_
        rintro y w4 ⟨rfl, hb⟩
        go_wp2_with fail
        refine (H4.out _ hb).mono ?_
        rintro y w5 ⟨rfl, hb⟩
        go_wp2_with fail
        refine (H5.out _ hb).mono ?_
        rintro y w6 ⟨rfl, hb⟩
        go_wp2_with fail
        go_ret
        exact ⟨rfl, hb⟩
    · rw [h1] at H1
      have b2 : (E2 != 0) = true := by simpa using h2
      clear hE1 hE2 hV1 hV2 h1
      go_enter Tryd.func8, Tryd.ntmps8
      go_wp2_with fail
      refine HW.out.mono ?_
      rintro y w1 ⟨rfl, hb⟩
      go_wp2_with fail
      refine (H1.out _ hb).mono ?_
      rintro y w2 ⟨rfl, hb⟩
      go_wp2_with fail
      refine (H2.out _ hb).mono ?_
      rintro y w3 ⟨rfl, hb⟩
      go_wp2_with fail
      go_ret
      exact ⟨rfl, hb⟩
  · have b1 : (E1 != 0) = true := by simpa using h1
    clear hE1 hE2 hV1 hV2
    go_enter Tryd.func8, Tryd.ntmps8
    go_wp2_with fail
    refine HW.out.mono ?_
    rintro y w1 ⟨rfl, hb⟩
    go_wp2_with fail
    refine (H1.out _ hb).mono ?_
    rintro y w2 ⟨rfl, hb⟩
    go_wp2_with fail
    refine (H2.out _ hb).mono ?_
    rintro y w3 ⟨rfl, hb⟩
    go_wp2_with fail
    go_ret
    exact ⟨rfl, hb⟩
end PartsL
end Go.Proofs.YtfaelefeiinbaaaDoor

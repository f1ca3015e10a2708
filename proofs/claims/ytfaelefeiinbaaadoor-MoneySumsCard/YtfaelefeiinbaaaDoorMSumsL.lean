/- MoneySums: the law's walk. -/
import Derived.Test.YtfaelefeiinbaaaDoorMWorks
import Derived.Test.YtfaelefeiinbaaaDoorMRefQ
namespace Go.Proofs.YtfaelefeiinbaaaDoor
open Go.RowKit MP
namespace SumsL

set_option maxRecDepth 100000 in
set_option maxHeartbeats 1000000 in
theorem walk (v : Value) (L : List Int) (a m : Int) (w : World) (hv : IntsAt w v L) (hN : NilOk v) : Calls Tryd.prog 4 #[v, .int .i64 a, .int .i64 m] w fun e w' => e = .returned (.bool true) ∧ Below w.heap.size w w' := by
  have HV : Hid (IntsAt w v L) := hv
  have HN : Hid (NilOk v) := hN
  obtain ⟨a1, c1, rfl, hl, hc, -⟩ := hv
  unfold maxLen at hc
  have HW : Hid (∀ u, Below w.heap.size w u → Calls Tryd.prog 13 #[] u fun e w' => e = .returned (.bool true) ∧ Below w.heap.size w w') := fun u hu => (works_any u).mono fun e w' h => ⟨h.1, hu.trans (h.2.mono hu.size)⟩
  by_cases hlen : 5000 < L.length
  · have hI : 5000 < (L.length : Int) := by omega
    clear hN
    go_enter Tryd.func4, Tryd.ntmps4
    go_wp2_with fail
    refine (HW.out _ (Below.refl _ _)).mono ?_
    rintro y w1 ⟨rfl, hb⟩
    go_wp2_with fail
    go_ret
    exact ⟨rfl, hb⟩
  · have hI : ¬ 5000 < (L.length : Int) := by omega
    have hd : decide (5000 < (L.length : Int)) = false := decide_eq_false hI
    have H0 := lendInts_any _ L w HV.out HN.out (by omega)
    have H0' : Hid (Calls Tryd.prog 14 #[.slice a1 L.length c1] w fun e w' => ∃ g c, e = .returned (.slice (some ⟨g, 0, none⟩) L.length c) ∧ LentAt w' g c L ∧ w.heap.size ≤ g ∧ Below w.heap.size w w') := H0
    obtain ⟨x, ex⟩ : ∃ x, sumV L = x := ⟨_, rfl⟩
    obtain ⟨f, ef⟩ : ∃ x, sumE L = x := ⟨_, rfl⟩
    obtain ⟨n, en⟩ : ∃ x, partV a m = x := ⟨_, rfl⟩
    obtain ⟨h, eh⟩ : ∃ x, partE a m = x := ⟨_, rfl⟩
    obtain ⟨p, ep⟩ : ∃ x, priceV a m L = x := ⟨_, rfl⟩
    obtain ⟨i, ei⟩ : ∃ x, priceE a m L = x := ⟨_, rfl⟩
    have H1 : Hid (∀ u s, IntsAt u s L → Calls Tryd.prog 15 #[s] u fun e w' => e = .returned (.tuple #[.int .i64 x, .int .i64 f]) ∧ w' = u) := fun u s hs => by rw [← ex, ← ef]; exact Sum_any s L u hs (by omega)
    have H2 : Hid (∀ u s, IntsAt u s L → Calls Tryd.prog 16 #[s] u fun e w' => e = .returned (.tuple #[.int .i64 x, .int .i64 f]) ∧ w' = u) := fun u s hs => by rw [← ex, ← ef]; exact rSum_any s L u hs (by omega)
    have H3 : Hid (∀ u, Calls Tryd.prog 17 #[.int .i64 a, .int .i64 m] u fun e w' => e = .returned (.tuple #[.int .i64 n, .int .i64 h]) ∧ Below u.heap.size u w') := fun u => by
      rw [← en, ← eh]
      refine (Part_any a m u).mono fun e w' hh => ?_
      obtain ⟨k1, k, k2⟩ := hh
      exact ⟨k1, by rw [k2]; exact below_drewN u k⟩
    have H4 : Hid (∀ u, Calls Tryd.prog 18 #[.int .i64 a, .int .i64 m] u fun e w' => e = .returned (.tuple #[.int .i64 n, .int .i64 h]) ∧ w' = u) := fun u => by rw [← en, ← eh]; exact rPart_any a m u
    have H5 : Hid (∀ u s, IntsAt u s L → Calls Tryd.prog 19 #[.int .i64 a, .int .i64 m, s] u fun e w' => e = .returned (.tuple #[.int .i64 p, .int .i64 i]) ∧ Below u.heap.size u w') := fun u s hs => by rw [← ep, ← ei]; exact Price_any a m s L u hs
    have H6 : Hid (∀ u s, IntsAt u s L → Calls Tryd.prog 20 #[.int .i64 a, .int .i64 m, s] u fun e w' => e = .returned (.tuple #[.int .i64 p, .int .i64 i]) ∧ w' = u) := fun u s hs => by rw [← ep, ← ei]; exact rPrice_any a m s L u hs
    clear ex ef en eh ep ei hN H0
    go_enter Tryd.func4, Tryd.ntmps4
    go_wp2_with fail
    refine H0'.out.mono ?_
    rintro y w1 ⟨g, c, rfl, hL1, hg, hb1⟩
    have HL1 : Hid (LentAt w1 g c L) := hL1
    have HB1 : Hid (Below w.heap.size w w1) := hb1
    have HG : Hid (w.heap.size ≤ g) := hg
    clear hL1 hb1 hg H0'
    go_wp2_with fail
    refine (H1.out _ _ HL1.out.ints).mono ?_
    rintro y w2 ⟨rfl, hwz⟩
    obtain rfl := hwz.symm
    go_wp2_with fail
    refine (H2.out _ _ (HV.out.below HB1.out)).mono ?_
    rintro y w2 ⟨rfl, hwz⟩
    obtain rfl := hwz.symm
    go_wp2_with fail
    refine (H3.out _).mono ?_
    rintro y w3 ⟨rfl, hb3⟩
    have HL3 : Hid (LentAt w3 g c L) := HL1.out.below hb3
    have HB3 : Hid (Below w.heap.size w w3) := HB1.out.trans (hb3.mono HB1.out.size)
    clear hb3
    go_wp2_with fail
    refine (H4.out _).mono ?_
    rintro y w4 ⟨rfl, hwz⟩
    obtain rfl := hwz.symm
    go_wp2_with fail
    refine (H5.out _ _ HL3.out.ints).mono ?_
    rintro y w5 ⟨rfl, hb5⟩
    have HL5 : Hid (LentAt w5 g c L) := HL3.out.below hb5
    have HB5 : Hid (Below w.heap.size w w5) := HB3.out.trans (hb5.mono HB3.out.size)
    clear hb5
    go_wp2_with fail
    refine (H6.out _ _ (HV.out.below HB5.out)).mono ?_
    rintro y w6 ⟨rfl, hwz⟩
    obtain rfl := hwz.symm
    have H7 : Hid (Calls Tryd.prog 21 #[.slice (some ⟨g, 0, none⟩) L.length c, .slice a1 L.length c1] w5 fun e w' => e = .returned (.bool true) ∧ Below w.heap.size w w') := (keptInts_true g c _ L w5 HL5.out (HV.out.below HB5.out)).mono fun e w' hh => ⟨hh.1, HB5.out.trans (hh.2.mono HB5.out.size)⟩
    have b1 : (x == x) = true := by simp
    have b2 : (f == f) = true := by simp
    have b3 : (n == n) = true := by simp
    have b4 : (h == h) = true := by simp
    have b5 : (p == p) = true := by simp
    have b6 : (i == i) = true := by simp
    go_wp2_with (first
      | (go_at_call 21; go_must (refine H7.out.mono ?_; rintro y w7 ⟨rfl, hb7⟩))
      | (go_at_call 13; go_must (refine (HW.out _ hb7).mono ?_; rintro y w8 ⟨rfl, hb8⟩)))
    go_ret
    exact ⟨rfl, hb8⟩
end SumsL
end Go.Proofs.YtfaelefeiinbaaaDoor

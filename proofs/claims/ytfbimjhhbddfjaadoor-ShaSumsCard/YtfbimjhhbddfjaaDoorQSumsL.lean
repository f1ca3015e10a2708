/- ShaSums: the law's walk. -/
import Derived.Test.YtfbimjhhbddfjaaDoorQKit
namespace Go.Proofs.YtfbimjhhbddfjaaDoor
open Go.RowKit QP
namespace SumsL

set_option maxRecDepth 100000 in
set_option maxHeartbeats 1000000 in
theorem walk (T : Kit) (b k : ByteArray) (w : World) (hw : T.Ok w) : Calls Tryd.prog 3 #[.string b, .string k] w fun e w' => e = .returned (.bool true) ∧ Below w.heap.size w w' := by
  have H5 : Hid (∀ u, Below w.heap.size w u → Calls Tryd.prog 8 #[] u fun e w' => e = .returned (.bool true) ∧ Below w.heap.size w w') := fun u hu =>
    (works_any T u (T.ok hw hu)).mono fun e w' h => ⟨h.1, hu.trans (h.2.mono hu.size)⟩
  by_cases hb : 100000 < b.size
  · have d1 : decide ((100000 : Int) < (b.size : Int)) = true := decide_eq_true (by omega)
    go_enter Tryd.func3, Tryd.ntmps3
    go_wp2_with fail
    refine (H5.out _ (Below.refl _ _)).mono ?_
    rintro y w1 ⟨rfl, hb1⟩
    go_wp2_with fail
    go_ret
    exact ⟨rfl, hb1⟩
  · have d1 : decide ((100000 : Int) < (b.size : Int)) = false := decide_eq_false (by omega)
    by_cases hk : 100000 < k.size
    · have d2 : decide ((100000 : Int) < (k.size : Int)) = true := decide_eq_true (by omega)
      go_enter Tryd.func3, Tryd.ntmps3
      go_wp2_with fail
      refine (H5.out _ (Below.refl _ _)).mono ?_
      rintro y w1 ⟨rfl, hb1⟩
      go_wp2_with fail
      go_ret
      exact ⟨rfl, hb1⟩
    · have d2 : decide ((100000 : Int) < (k.size : Int)) = false := decide_eq_false (by omega)
      obtain ⟨X, hX⟩ : ∃ X, ofN (dig (nb b)) = X := ⟨_, rfl⟩
      obtain ⟨Y, hY⟩ : ∃ X, ofN (mac (nb k) (nb b)) = X := ⟨_, rfl⟩
      have H1 : Hid (Calls Tryd.prog 9 #[.string b] w fun e w' => e = .returned (.string X) ∧ Below w.heap.size w w') := by
        have h := T.sum b w hw (by omega)
        unfold SumR at h
        rw [hX] at h
        exact h
      have H2 : Hid (∀ u, Below w.heap.size w u → Calls Tryd.prog 10 #[.string b] u fun e w' => e = .returned (.string X) ∧ Below w.heap.size w w') := fun u hu => by
        refine (rSum_any b u (by omega)).mono fun e w' h => ?_
        unfold SumR at h
        rw [hX] at h
        exact ⟨h.1, hu.trans (h.2.mono hu.size)⟩
      have H3 : Hid (∀ u, Below w.heap.size w u → Calls Tryd.prog 11 #[.string k, .string b] u fun e w' => e = .returned (.string Y) ∧ Below w.heap.size w w') := fun u hu => by
        refine (T.mac k b u (T.ok hw hu) (by omega) (by omega)).mono fun e w' h => ?_
        unfold SumR at h
        rw [hY] at h
        exact ⟨h.1, hu.trans (h.2.mono hu.size)⟩
      have H4 : Hid (∀ u, Below w.heap.size w u → Calls Tryd.prog 12 #[.string k, .string b] u fun e w' => e = .returned (.string Y) ∧ Below w.heap.size w w') := fun u hu => by
        refine (rMac_any k b u (by omega) (by omega)).mono fun e w' h => ?_
        unfold SumR at h
        rw [hY] at h
        exact ⟨h.1, hu.trans (h.2.mono hu.size)⟩
      clear hX hY
      go_enter Tryd.func3, Tryd.ntmps3
      go_wp2_with fail
      refine H1.out.mono ?_
      rintro y w1 ⟨rfl, hb1⟩
      go_wp2_with fail
      refine (H2.out _ hb1).mono ?_
      rintro y w2 ⟨rfl, hb2⟩
      go_wp2_with fail
      refine (H3.out _ hb2).mono ?_
      rintro y w3 ⟨rfl, hb3⟩
      go_wp2_with fail
      refine (H4.out _ hb3).mono ?_
      rintro y w4 ⟨rfl, hb4⟩
      go_wp2_with fail
      refine (H5.out _ hb4).mono ?_
      rintro y w5 ⟨rfl, hb5⟩
      go_wp2_with fail
      go_ret
      exact ⟨rfl, hb5⟩
end SumsL
end Go.Proofs.YtfbimjhhbddfjaaDoor

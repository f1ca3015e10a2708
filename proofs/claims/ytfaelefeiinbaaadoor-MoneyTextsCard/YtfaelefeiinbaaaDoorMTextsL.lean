/- MoneyTexts: the law's walk. -/
import Derived.Test.YtfaelefeiinbaaaDoorMWorks
import Derived.Test.YtfaelefeiinbaaaDoorMRefR
namespace Go.Proofs.YtfaelefeiinbaaaDoor
open Go.RowKit MP
namespace TextsL

set_option maxRecDepth 100000 in
set_option maxHeartbeats 1000000 in
theorem walk (a : Int) (s : ByteArray) (w : World) (hz : s.size ≤ 140737488351232) (ht : Tab w) (he : Errs w) : Calls Tryd.prog 3 #[.int .i64 a, .string s] w fun e w' => e = .returned (.bool true) ∧ Below w.heap.size w w' := by
  obtain ⟨X, hX⟩ : ∃ V, txV a = V := ⟨_, rfl⟩
  obtain ⟨E, hE⟩ : ∃ V, txE a = V := ⟨_, rfl⟩
  obtain ⟨N, hN⟩ : ∃ V, readN (bl s) = V := ⟨_, rfl⟩
  obtain ⟨G, hG⟩ : ∃ V, readE (bl s) = V := ⟨_, rfl⟩
  have H1 : Hid (Calls Tryd.prog 9 #[.int .i64 a] w fun e w' => e = .returned (.tuple #[.string X, .int .i64 E]) ∧ Below w.heap.size w w') := by
    have := Text_any a w (Or.inr ht)
    rw [hX, hE] at this
    exact this
  have H2 : Hid (∀ u, Below w.heap.size w u → Calls Tryd.prog 10 #[.int .i64 a] u fun e w' => e = .returned (.tuple #[.string X, .int .i64 E]) ∧ Below w.heap.size w w') := fun u hu => by
    refine (rText_any a u).mono fun e w' h => ?_
    rw [hX, hE] at h
    exact ⟨h.1, hu.trans (h.2.mono hu.size)⟩
  have H3 : Hid (∀ u, Below w.heap.size w u → Calls Tryd.prog 11 #[.string s] u fun e w' => e = .returned (.tuple #[.int .i64 N, .int .i64 G]) ∧ Below w.heap.size w w') := fun u hu => by
    refine (Parse_any s hz u (ht.below hu) (he.below hu)).mono fun e w' h => ?_
    rw [hN, hG] at h
    exact ⟨h.1, hu.trans (h.2.mono hu.size)⟩
  have H4 : Hid (∀ u, Below w.heap.size w u → Calls Tryd.prog 12 #[.string s] u fun e w' => e = .returned (.tuple #[.int .i64 N, .int .i64 G]) ∧ Below w.heap.size w w') := fun u hu => by
    refine (rParse_any s hz u).mono fun e w' h => ?_
    rw [hN, hG] at h
    exact ⟨h.1, hu.trans (h.2.mono hu.size)⟩
  have H5 : Hid (∀ u, Below w.heap.size w u → Calls Tryd.prog 13 #[] u fun e w' => e = .returned (.bool true) ∧ Below w.heap.size w w') := fun u hu =>
    (works_any u).mono fun e w' h => ⟨h.1, hu.trans (h.2.mono hu.size)⟩
  clear hX hE hN hG ht he
  go_enter Tryd.func3, Tryd.ntmps3
  go_wp2_with fail
  refine H1.out.mono ?_
  rintro y w1 ⟨rfl, hb1⟩
  go_wp2_with fail
  refine (H2.out _ hb1).mono ?_
  rintro y w2 ⟨rfl, hb2⟩
  go_wp2_with fail
  refine (H3.out _ hb2).mono ?_
  rintro y w3 ⟨rfl, hb3⟩
  go_wp2_with fail
  refine (H4.out _ hb3).mono ?_
  rintro y w4 ⟨rfl, hb4⟩
  go_wp2_with fail
  refine (H5.out _ hb4).mono ?_
  rintro y w5 ⟨rfl, hb5⟩
  go_wp2_with fail
  go_ret
  exact ⟨rfl, hb5⟩
end TextsL
end Go.Proofs.YtfaelefeiinbaaaDoor

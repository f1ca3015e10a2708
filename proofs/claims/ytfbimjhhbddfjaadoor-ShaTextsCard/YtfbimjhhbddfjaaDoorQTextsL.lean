/- ShaTexts: the law's walk. -/
import Derived.Test.YtfbimjhhbddfjaaDoorQKit
namespace Go.Proofs.YtfbimjhhbddfjaaDoor
open Go.RowKit QP
namespace TextsL

theorem toList_inj {a b : ByteArray} (h : a.toList = b.toList) : a = b := by
  rw [Go.ByteArray.toList_eq, Go.ByteArray.toList_eq] at h
  cases a; cases b
  simpa using h

set_option maxRecDepth 100000 in
set_option maxHeartbeats 1000000 in
theorem walk (T : Kit) (b s : ByteArray) (w : World) (hw : T.Ok w) (hzb : b.size ≤ 140737488351232) (hz : s.size ≤ 140737488351232) : Calls Tryd.prog 4 #[.string b, .string s] w fun e w' => e = .returned (.bool true) ∧ Below w.heap.size w w' := by
  obtain ⟨X, hX⟩ : ∃ V, hexS (nb b) = V := ⟨_, rfl⟩
  obtain ⟨E, hE⟩ : ∃ V, hexE (nb b) = V := ⟨_, rfl⟩
  obtain ⟨Y, hY⟩ : ∃ V, unS (nb s) = V := ⟨_, rfl⟩
  obtain ⟨G, hG⟩ : ∃ V, unE (nb s) = V := ⟨_, rfl⟩
  have H1 : Hid (Calls Tryd.prog 13 #[.string b] w fun e w' => e = .returned (.tuple #[.string X, .int .i64 E]) ∧ Below w.heap.size w w') := by
    have h := T.hex b w hw
    unfold HexR at h
    rw [hX, hE] at h
    exact h
  have H2 : Hid (∀ u, Below w.heap.size w u → Calls Tryd.prog 14 #[.string b] u fun e w' => e = .returned (.tuple #[.string X, .int .i64 E]) ∧ Below w.heap.size w w') := fun u hu => by
    refine (rHex_any b u).mono fun e w' h => ?_
    unfold HexR at h
    rw [hX, hE] at h
    exact ⟨h.1, hu.trans (h.2.mono hu.size)⟩
  have H3 : Hid (∀ u, Below w.heap.size w u → Calls Tryd.prog 15 #[.string s] u fun e w' => e = .returned (.tuple #[.string Y, .int .i64 G]) ∧ Below w.heap.size w w') := fun u hu => by
    refine (T.unhex s u (T.ok hw hu) (by omega)).mono fun e w' h => ?_
    unfold UnR at h
    rw [hY, hG] at h
    exact ⟨h.1, hu.trans (h.2.mono hu.size)⟩
  have H4 : Hid (∀ u, Below w.heap.size w u → Calls Tryd.prog 16 #[.string s] u fun e w' => e = .returned (.tuple #[.string Y, .int .i64 G]) ∧ Below w.heap.size w w') := fun u hu => by
    refine (rUnhex_any s u).mono fun e w' h => ?_
    unfold UnR at h
    rw [hY, hG] at h
    exact ⟨h.1, hu.trans (h.2.mono hu.size)⟩
  obtain ⟨q, hq⟩ : ∃ q, decide (b = s) = q := ⟨_, rfl⟩
  have tq : (b.toList == s.toList) = q := by
    rw [← hq]
    by_cases h : b = s
    · subst h; simp
    · rw [decide_eq_false h]
      simp
      exact fun h' => h (toList_inj h')
  have H6 : Hid (∀ u, Below w.heap.size w u → Calls Tryd.prog 17 #[.string b, .string s] u fun e w' => e = .returned (.bool q) ∧ Below w.heap.size w w') := fun u hu => by
    refine (T.equal b s u (T.ok hw hu) (by omega) (by omega)).mono fun e w' h => ?_
    rw [hq] at h
    exact ⟨h.1, hu.trans (h.2.mono hu.size)⟩
  have H7 : Hid (∀ u, Below w.heap.size w u → Calls Tryd.prog 17 #[.string b, .string b] u fun e w' => e = .returned (.bool true) ∧ Below w.heap.size w w') := fun u hu => by
    refine (T.equal b b u (T.ok hw hu) (by omega) (by omega)).mono fun e w' h => ?_
    rw [decide_eq_true rfl] at h
    exact ⟨h.1, hu.trans (h.2.mono hu.size)⟩
  have H5 : Hid (∀ u, Below w.heap.size w u → Calls Tryd.prog 8 #[] u fun e w' => e = .returned (.bool true) ∧ Below w.heap.size w w') := fun u hu =>
    (works_any T u (T.ok hw hu)).mono fun e w' h => ⟨h.1, hu.trans (h.2.mono hu.size)⟩
  clear hX hE hY hG hq
  go_enter Tryd.func4, Tryd.ntmps4
  go_wp2_with fail
  refine H1.out.mono ?_
  rintro y w1 ⟨rfl, hb1⟩
  go_wp2_with fail
  refine (H2.out _ hb1).mono ?_
  rintro y w2 ⟨rfl, hb2⟩
  go_wp2_with fail
  refine (H3.out _ hb2).mono ?_
  rintro y w3 ⟨rfl, hb3⟩
  go_wp2_with fail
  refine (H4.out _ hb3).mono ?_
  rintro y w4 ⟨rfl, hb4⟩
  go_wp2_with fail
  refine (H6.out _ hb4).mono ?_
  rintro y w5 ⟨rfl, hb5⟩
  go_wp2_with fail
  refine (H7.out _ hb5).mono ?_
  rintro y w6 ⟨rfl, hb6⟩
  go_wp2_with fail
  refine (H5.out _ hb6).mono ?_
  rintro y w7 ⟨rfl, hb7⟩
  go_wp2_with fail
  go_ret
  exact ⟨rfl, hb7⟩
end TextsL
end Go.Proofs.YtfbimjhhbddfjaaDoor

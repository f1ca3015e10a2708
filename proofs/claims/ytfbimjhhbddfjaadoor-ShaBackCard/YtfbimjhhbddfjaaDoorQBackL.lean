/- ShaBack: the law's walk. (Written by qback.py.) -/
import Derived.Test.YtfbimjhhbddfjaaDoorQKit
namespace Go.Proofs.YtfbimjhhbddfjaaDoor
open Go.RowKit QP
namespace BackL

/-- what Hex of b tells, and what Unhex of that tells -/
theorem there (b : ByteArray) (h : ¬ 262144 < b.size) : hexE (nb b) = 0 ∧ (hexS (nb b)).size = 2 * b.size ∧ unS (nb (hexS (nb b))) = b ∧ unE (nb (hexS (nb b))) = 0 := by
  have e1 : hexS (nb b) = ofN (hex (nb b)) := by unfold hexS; rw [nb_length, if_neg h]
  have e2 : nb (ofN (hex (nb b))) = hex (nb b) := nb_ofN (hex_bytes (nb_bytes b))
  have e3 : unF (hex (nb b)) = some (nb b) := by
    unfold unF
    rw [hex_length, nb_length, if_pos (by omega), unhex_hex (nb_bytes b)]
  refine ⟨by unfold hexE; rw [nb_length, if_neg h], by rw [e1, ofN_size, hex_length, nb_length], ?_, ?_⟩
  · rw [e1, e2, unS_some e3, ofN_nb]
  · rw [e1, e2, unE_some e3]
theorem long (b : ByteArray) (h : 262144 < b.size) : hexE (nb b) = 2 ∧ hexS (nb b) = ⟨#[]⟩ := by
  unfold hexE hexS
  rw [nb_length, if_pos h, if_pos h]
  exact ⟨rfl, rfl⟩
theorem bad (s : ByteArray) (h : unF (nb s) = none) : unS (nb s) = ⟨#[]⟩ ∧ unE (nb s) = 3 := ⟨by rw [unS_none h]; rfl, unE_none h⟩
theorem good (s : ByteArray) {R : List Nat} (h : unF (nb s) = some R) : unE (nb s) = 0 ∧ hexE (nb (unS (nb s))) = 0 ∧ hexS (nb (unS (nb s))) = s := by
  have h1 := h
  unfold unF at h1
  split at h1
  · next hc =>
    have e2 : nb (ofN R) = R := nb_ofN (unhex_bytes h1)
    have e3 := unhex_length h1
    refine ⟨unE_some h, ?_, ?_⟩
    · rw [unS_some h, e2]
      unfold hexE
      rw [if_neg (by omega)]
    · rw [unS_some h, e2]
      unfold hexS
      rw [if_neg (by omega), hex_unhex h1, ofN_nb]
  · cases h1

set_option maxRecDepth 100000 in
set_option maxHeartbeats 1000000 in
theorem walk (T : Kit) (b s : ByteArray) (w : World) (hw : T.Ok w) (hzb : b.size ≤ 140737488351232) (hz : s.size ≤ 140737488351232) : Calls Tryd.prog 5 #[.string b, .string s] w fun e w' => e = .returned (.bool true) ∧ Below w.heap.size w w' := by
  have HW : Hid (Calls Tryd.prog 8 #[] w fun e w' => e = .returned (.bool true) ∧ Below w.heap.size w w') := works_any T w hw
  have HH : Hid (∀ x u, Below w.heap.size w u → Calls Tryd.prog 13 #[.string x] u fun e w' => e = .returned (.tuple #[.string (hexS (nb x)), .int .i64 (hexE (nb x))]) ∧ Below w.heap.size w w') := fun x u hu =>
    (T.hex x u (T.ok hw hu)).mono fun e w' h => ⟨h.1, hu.trans (h.2.mono hu.size)⟩
  have HU : Hid (∀ (x : ByteArray) u, x.size ≤ 140737488355328 → Below w.heap.size w u → Calls Tryd.prog 15 #[.string x] u fun e w' => e = .returned (.tuple #[.string (unS (nb x)), .int .i64 (unE (nb x))]) ∧ Below w.heap.size w w') := fun x u hx hu =>
    (T.unhex x u (T.ok hw hu) hx).mono fun e w' h => ⟨h.1, hu.trans (h.2.mono hu.size)⟩
  by_cases hb : 262144 < b.size
  · obtain ⟨e1, e2⟩ := long b hb
    have C1 : Hid (∀ u, Below w.heap.size w u → Calls Tryd.prog 13 #[.string b] u fun e w' => e = .returned (.tuple #[.string ⟨#[]⟩, .int .i64 2]) ∧ Below w.heap.size w w') := fun u hu => by
      have h := HH.out b u hu
      rw [e1, e2] at h
      exact h
    clear e1 e2
    cases hun : unF (nb s) with
    | none =>
      obtain ⟨f1, f2⟩ := bad s hun
      have C3 : Hid (∀ u, Below w.heap.size w u → Calls Tryd.prog 15 #[.string s] u fun e w' => e = .returned (.tuple #[.string ⟨#[]⟩, .int .i64 3]) ∧ Below w.heap.size w w') := fun u hu => by
        have h := HU.out s u (by omega) hu
        rw [f1, f2] at h
        exact h
      clear f1 f2 hun HH HU
      go_enter Tryd.func5, Tryd.ntmps5
      go_wp2_with fail
      refine HW.out.mono ?_
      rintro y w1 ⟨rfl, hb1⟩
      go_wp2_with fail
      refine (C1.out _ hb1).mono ?_
      rintro y w2 ⟨rfl, hb2⟩
      go_wp2_with fail
      refine (C3.out _ hb2).mono ?_
      rintro y w3 ⟨rfl, hb3⟩
      go_wp2_with fail
      go_ret
      exact ⟨rfl, hb3⟩
    | some R =>
      obtain ⟨f1, f2, f3⟩ := good s hun
      obtain ⟨Y, hY⟩ : ∃ X, unS (nb s) = X := ⟨_, rfl⟩
      rw [hY] at f2 f3
      have C3 : Hid (∀ u, Below w.heap.size w u → Calls Tryd.prog 15 #[.string s] u fun e w' => e = .returned (.tuple #[.string Y, .int .i64 0]) ∧ Below w.heap.size w w') := fun u hu => by
        have h := HU.out s u (by omega) hu
        rw [f1, hY] at h
        exact h
      have C4 : Hid (∀ u, Below w.heap.size w u → Calls Tryd.prog 13 #[.string Y] u fun e w' => e = .returned (.tuple #[.string s, .int .i64 0]) ∧ Below w.heap.size w w') := fun u hu => by
        have h := HH.out Y u hu
        rw [f2, f3] at h
        exact h
      clear f1 f2 f3 hY hun HH HU
      go_enter Tryd.func5, Tryd.ntmps5
      go_wp2_with fail
      refine HW.out.mono ?_
      rintro y w1 ⟨rfl, hb1⟩
      go_wp2_with fail
      refine (C1.out _ hb1).mono ?_
      rintro y w2 ⟨rfl, hb2⟩
      go_wp2_with fail
      refine (C3.out _ hb2).mono ?_
      rintro y w3 ⟨rfl, hb3⟩
      go_wp2_with fail
      refine (C4.out _ hb3).mono ?_
      rintro y w4 ⟨rfl, hb4⟩
      go_wp2_with fail
      go_ret
      exact ⟨rfl, hb4⟩
  · obtain ⟨e1, e2, e3, e4⟩ := there b hb
    obtain ⟨X, hX⟩ : ∃ X, hexS (nb b) = X := ⟨_, rfl⟩
    rw [hX] at e2 e3 e4
    have C1 : Hid (∀ u, Below w.heap.size w u → Calls Tryd.prog 13 #[.string b] u fun e w' => e = .returned (.tuple #[.string X, .int .i64 0]) ∧ Below w.heap.size w w') := fun u hu => by
      have h := HH.out b u hu
      rw [hX, e1] at h
      exact h
    have C2 : Hid (∀ u, Below w.heap.size w u → Calls Tryd.prog 15 #[.string X] u fun e w' => e = .returned (.tuple #[.string b, .int .i64 0]) ∧ Below w.heap.size w w') := fun u hu => by
      have h := HU.out X u (by omega) hu
      rw [e3, e4] at h
      exact h
    have hxs : (X.size : Int) = 2 * (b.size : Int) := by omega
    have wb : IntKind.i64.wrap (2 * (b.size : Int)) = 2 * (b.size : Int) := wrapI (by omega) (by omega)
    clear hX e1 e3 e4
    cases hun : unF (nb s) with
    | none =>
      obtain ⟨f1, f2⟩ := bad s hun
      have C3 : Hid (∀ u, Below w.heap.size w u → Calls Tryd.prog 15 #[.string s] u fun e w' => e = .returned (.tuple #[.string ⟨#[]⟩, .int .i64 3]) ∧ Below w.heap.size w w') := fun u hu => by
        have h := HU.out s u (by omega) hu
        rw [f1, f2] at h
        exact h
      clear f1 f2 hun HH HU
      go_enter Tryd.func5, Tryd.ntmps5
      go_wp2_with fail
      refine HW.out.mono ?_
      rintro y w1 ⟨rfl, hb1⟩
      go_wp2_with fail
      refine (C1.out _ hb1).mono ?_
      rintro y w2 ⟨rfl, hb2⟩
      go_wp2_with fail
      refine (C2.out _ hb2).mono ?_
      rintro y w3 ⟨rfl, hb3⟩
      go_wp2_with fail
      refine (C3.out _ hb3).mono ?_
      rintro y w4 ⟨rfl, hb4⟩
      go_wp2_with fail
      go_ret
      exact ⟨rfl, hb4⟩
    | some R =>
      obtain ⟨f1, f2, f3⟩ := good s hun
      obtain ⟨Y, hY⟩ : ∃ X, unS (nb s) = X := ⟨_, rfl⟩
      rw [hY] at f2 f3
      have C3 : Hid (∀ u, Below w.heap.size w u → Calls Tryd.prog 15 #[.string s] u fun e w' => e = .returned (.tuple #[.string Y, .int .i64 0]) ∧ Below w.heap.size w w') := fun u hu => by
        have h := HU.out s u (by omega) hu
        rw [f1, hY] at h
        exact h
      have C4 : Hid (∀ u, Below w.heap.size w u → Calls Tryd.prog 13 #[.string Y] u fun e w' => e = .returned (.tuple #[.string s, .int .i64 0]) ∧ Below w.heap.size w w') := fun u hu => by
        have h := HH.out Y u hu
        rw [f2, f3] at h
        exact h
      clear f1 f2 f3 hY hun HH HU
      go_enter Tryd.func5, Tryd.ntmps5
      go_wp2_with fail
      refine HW.out.mono ?_
      rintro y w1 ⟨rfl, hb1⟩
      go_wp2_with fail
      refine (C1.out _ hb1).mono ?_
      rintro y w2 ⟨rfl, hb2⟩
      go_wp2_with fail
      refine (C2.out _ hb2).mono ?_
      rintro y w3 ⟨rfl, hb3⟩
      go_wp2_with fail
      refine (C3.out _ hb3).mono ?_
      rintro y w4 ⟨rfl, hb4⟩
      go_wp2_with fail
      refine (C4.out _ hb4).mono ?_
      rintro y w5 ⟨rfl, hb5⟩
      go_wp2_with fail
      go_ret
      exact ⟨rfl, hb5⟩
end BackL
end Go.Proofs.YtfbimjhhbddfjaaDoor

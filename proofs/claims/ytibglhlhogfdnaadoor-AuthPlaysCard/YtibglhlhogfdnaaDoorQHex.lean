/- Layer 24 in plain words: what Hex and Unhex tell. Nothing here speaks of a program. -/
import Derived.Test.YtibglhlhogfdnaaDoorQSum
namespace Go.Proofs.YtibglhlhogfdnaaDoor
namespace QP
def hexS (m : List Nat) : ByteArray := if 262144 < m.length then ofN [] else ofN (hex m)
def hexE (m : List Nat) : Int := if 262144 < m.length then 2 else 0
def unF (m : List Nat) : Option (List Nat) := if m.length % 2 = 0 ∧ m.length ≤ 524288 then unhex m else none
def unS (m : List Nat) : ByteArray := match unF m with | some R => ofN R | none => ofN []
def unE (m : List Nat) : Int := match unF m with | some _ => 0 | none => 3
theorem unS_some {m R : List Nat} (h : unF m = some R) : unS m = ofN R := by unfold unS; rw [h]
theorem unS_none {m : List Nat} (h : unF m = none) : unS m = ofN [] := by unfold unS; rw [h]
theorem unE_some {m R : List Nat} (h : unF m = some R) : unE m = 0 := by unfold unE; rw [h]
theorem unE_none {m : List Nat} (h : unF m = none) : unE m = 3 := by unfold unE; rw [h]
theorem hx_byte {d : Nat} (h : d < 16) : hx d < 256 := by unfold hx; split <;> omega
theorem hex_nil : hex [] = [] := rfl
theorem hex_cons (x : Nat) (m : List Nat) : hex (x :: m) = hx (x / 16) :: hx (x % 16) :: hex m := rfl
theorem hex_append (a b : List Nat) : hex (a ++ b) = hex a ++ hex b := by simp [hex]
theorem hex_length (m : List Nat) : (hex m).length = 2 * m.length := by
  induction m with
  | nil => rfl
  | cons x m ih => rw [hex_cons, List.length_cons, List.length_cons, ih, List.length_cons]; omega
theorem hex_bytes {m : List Nat} (h : Bytes m) : Bytes (hex m) := fun y hy => by
  obtain ⟨x, hx', hy⟩ := List.mem_flatMap.1 hy
  have := h x hx'
  simp only [List.mem_cons, List.not_mem_nil, or_false] at hy
  rcases hy with rfl | rfl
  · exact hx_byte (by omega)
  · exact hx_byte (by omega)
theorem dgt_hx {d : Nat} (h : d < 16) : dgt (hx d) = (d : Int) := by
  unfold hx dgt
  split
  · rw [if_pos (by omega)]; omega
  · rw [if_neg (by omega), if_pos (by omega)]; omega
theorem dgt_range (c : Nat) : -1 ≤ dgt c ∧ dgt c ≤ 15 := by
  unfold dgt
  split
  · omega
  · split <;> omega
theorem hx_dgt {c : Nat} (h : 0 ≤ dgt c) : hx (dgt c).toNat = c := by
  revert h
  unfold dgt hx
  split
  · intro _; rw [if_pos (by omega)]; omega
  · split
    · intro _; rw [if_neg (by omega)]; omega
    · intro h; omega
theorem unhex_cons (a b : Nat) (l : List Nat) : unhex (a :: b :: l) = if dgt a < 0 ∨ dgt b < 0 then none else (unhex l).map fun r => (16 * dgt a + dgt b).toNat :: r := rfl
theorem unhex_append : ∀ {P R : List Nat} (l : List Nat), unhex P = some R → unhex (P ++ l) = (unhex l).map (R ++ ·)
  | [], R, l, h => by
    have : R = [] := by simpa [unhex] using h.symm
    subst this
    simp
  | [_], R, l, h => by simp [unhex] at h
  | a :: b :: P, R, l, h => by
    rw [unhex_cons] at h
    split at h
    · cases h
    · next hn =>
      cases hP : unhex P with
      | none => rw [hP] at h; cases h
      | some R' =>
        rw [hP] at h
        simp only [Option.map_some, Option.some.injEq] at h
        subst h
        show unhex (a :: b :: (P ++ l)) = _
        rw [unhex_cons, if_neg hn, unhex_append l hP]
        cases unhex l <;> rfl
theorem unhex_two {a b : Nat} (ha : 0 ≤ dgt a) (hb : 0 ≤ dgt b) : unhex [a, b] = some [(16 * dgt a + dgt b).toNat] := by
  rw [unhex_cons, if_neg (by omega)]
  rfl
theorem unhex_bytes : ∀ {m R : List Nat}, unhex m = some R → Bytes R
  | [], R, h => by
    have : R = [] := by simpa [unhex] using h.symm
    subst this
    exact fun x hx => by cases hx
  | [_], R, h => by simp [unhex] at h
  | a :: b :: m, R, h => by
    rw [unhex_cons] at h
    split at h
    · cases h
    · cases hP : unhex m with
      | none => rw [hP] at h; cases h
      | some R' =>
        rw [hP] at h
        simp only [Option.map_some, Option.some.injEq] at h
        subst h
        have h1 := dgt_range a
        have h2 := dgt_range b
        intro x hx'
        rcases List.mem_cons.1 hx' with rfl | hx'
        · omega
        · exact unhex_bytes hP x hx'
theorem unhex_length : ∀ {m R : List Nat}, unhex m = some R → m.length = 2 * R.length
  | [], R, h => by
    have : R = [] := by simpa [unhex] using h.symm
    subst this
    rfl
  | [_], R, h => by simp [unhex] at h
  | a :: b :: m, R, h => by
    rw [unhex_cons] at h
    split at h
    · cases h
    · cases hP : unhex m with
      | none => rw [hP] at h; cases h
      | some R' =>
        rw [hP] at h
        simp only [Option.map_some, Option.some.injEq] at h
        subst h
        have := unhex_length hP
        simp only [List.length_cons]
        omega
/-- there and back -/
theorem unhex_hex : ∀ {m : List Nat}, Bytes m → unhex (hex m) = some m
  | [], _ => rfl
  | x :: m, h => by
    have hx' : x < 256 := h x (List.mem_cons_self ..)
    rw [hex_cons, unhex_cons, dgt_hx (by omega), dgt_hx (by omega), if_neg (by omega), unhex_hex (fun y hy => h y (List.mem_cons_of_mem _ hy))]
    simp
    omega
theorem hex_unhex : ∀ {m R : List Nat}, unhex m = some R → hex R = m
  | [], R, h => by
    have : R = [] := by simpa [unhex] using h.symm
    subst this
    rfl
  | [_], R, h => by simp [unhex] at h
  | a :: b :: m, R, h => by
    rw [unhex_cons] at h
    split at h
    · cases h
    · next hn =>
      cases hP : unhex m with
      | none => rw [hP] at h; cases h
      | some R' =>
        rw [hP] at h
        simp only [Option.map_some, Option.some.injEq] at h
        subst h
        have h1 := dgt_range a
        have h2 := dgt_range b
        rw [hex_cons, hex_unhex hP]
        have e1 : (16 * dgt a + dgt b).toNat / 16 = (dgt a).toNat := by omega
        have e2 : (16 * dgt a + dgt b).toNat % 16 = (dgt b).toNat := by omega
        rw [e1, e2, hx_dgt (by omega), hx_dgt (by omega)]
end QP
end Go.Proofs.YtibglhlhogfdnaaDoor

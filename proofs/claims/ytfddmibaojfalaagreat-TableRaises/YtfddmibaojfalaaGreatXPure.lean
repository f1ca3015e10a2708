/- Values, rows, lists of rows: plainly. Nothing here speaks of a program. -/
import Derived.Test.YtfddmibaojfalaaGreatZBlJ
import Derived.Lib.Bytealg
namespace Go.Proofs.YtfddmibaojfalaaGreat

/-- a value without a pair -/
structure V where
  k : Int
  n : Int
  s : ByteArray
/-- a value that may be: nothing, a whole number, a text -/
def OkV (v : V) : Prop := (v.k = 0 ∧ v.n = 0 ∧ v.s = ByteArray.empty) ∨ (v.k = 2 ∧ v.s = ByteArray.empty) ∨ (v.k = 5 ∧ v.n = 0 ∧ v.s.size ≤ 4096)

def cmpI (a b : Int) : Int := if a < b then -1 else if b < a then 1 else 0
def cmpS (a b : ByteArray) : Int := Lib.compareBytes a.data.toList b.data.toList
def orI (a b : Int) : Int := if a = 0 then b else a
def cmpV (a b : V) : Int := orI (cmpI a.k b.k) (orI (cmpI a.n b.n) (cmpS a.s b.s))

theorem cmpI_self (a : Int) : cmpI a a = 0 := by simp [cmpI]
theorem cmpV_self (a : V) (hs : cmpS a.s a.s = 0) : cmpV a a = 0 := by simp [cmpV, cmpI_self, orI, hs]

/-- nothing at all, for places that are not there -/
def nullV : V := ⟨0, 0, ⟨#[]⟩⟩
def at_ (row : List V) (c : Nat) : V := (row[c]?).getD nullV
def pickV (row : List V) (cols : List Nat) : List V := cols.map (at_ row)
/-- a row against values, by columns -/
def agn : List Nat → List V → List V → Int
  | c :: cs, row, v :: vs => if cmpV (at_ row c) v = 0 then agn cs row vs else cmpV (at_ row c) v
  | _, _, _ => 0
/-- where values belong in a list of rows -/
def plc (cols : List Nat) (R : List (List V)) (vals : List V) : Nat := (R.takeWhile fun r => decide (agn cols r vals < 0)).length
/-- from there on no row stands ahead of them -/
def Mono (cols : List Nat) (R : List (List V)) (vals : List V) : Prop := ∀ (j : Nat) (r : List V), R[j]? = some r → plc cols R vals ≤ j → 0 ≤ agn cols r vals

theorem plc_le (cols : List Nat) (R : List (List V)) (vals : List V) : plc cols R vals ≤ R.length := by
  unfold plc
  exact List.Sublist.length_le (List.takeWhile_sublist _)
theorem takeWhile_at {α : Type} {p : α → Bool} : ∀ {L : List α} {j : Nat} {x : α}, L[j]? = some x → j < (L.takeWhile p).length → p x = true
  | [], _, _, h, _ => by simp at h
  | y :: L, j, x, h, hl => by
    rw [List.takeWhile_cons] at hl
    by_cases hp : p y = true
    · rw [if_pos hp] at hl
      cases j with
      | zero => simp at h; rw [← h]; exact hp
      | succ j => exact takeWhile_at (L := L) (by simpa using h) (by simpa using hl)
    · rw [if_neg hp] at hl; simp at hl
theorem plc_ahead {cols : List Nat} {R : List (List V)} {vals : List V} {j : Nat} {r : List V} (h : R[j]? = some r) (hj : j < plc cols R vals) : agn cols r vals < 0 := by
  have := takeWhile_at (p := fun r => decide (agn cols r vals < 0)) h hj
  simpa using this
theorem mono_one (cols : List Nat) (R : List (List V)) (vals : List V) (h : R.length ≤ 1) : Mono cols R vals := by
  intro j r hr hj
  match R, h with
  | [], _ => simp at hr
  | [x], _ =>
    have hj0 : j = 0 := by have := (List.getElem?_eq_some_iff.1 hr).1; simp at this; exact this
    subst hj0
    simp at hr
    subst hr
    unfold plc at hj
    rw [List.takeWhile_cons] at hj
    by_cases hp : agn cols x vals < 0
    · rw [if_pos (by simpa using hp)] at hj; simp at hj
    · omega

end Go.Proofs.YtfddmibaojfalaaGreat

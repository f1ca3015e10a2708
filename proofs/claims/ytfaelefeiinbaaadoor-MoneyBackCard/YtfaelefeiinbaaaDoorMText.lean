/- Layer 22 in plain words: the text of an amount, and what a text tells. Nothing here speaks of a program. -/
import Derived.Test.YtfaelefeiinbaaaDoorBase
import Derived.Lib.ItoaNum
namespace Go.Proofs.YtfaelefeiinbaaaDoor
namespace MP
open Go.Lib (decDigits)

def two (c : Nat) : List UInt8 := [UInt8.ofNat (48 + c / 10), UInt8.ofNat (48 + c % 10)]
def textN (A : Nat) : List UInt8 := decDigits (A / 100) ++ 46 :: two (A % 100)
def text (a : Int) : List UInt8 := if a < 0 then 45 :: textN a.natAbs else textN a.natAbs
def may (a : Int) : Bool := decide (-1000000000000000 ≤ a ∧ a ≤ 1000000000000000)
def dig (b : UInt8) : Bool := decide (48 ≤ b.toNat ∧ b.toNat ≤ 57)
/-- the number that the digits of a text come to, and at most one more than the greatest amount -/
def step (n : Nat) (b : UInt8) : Nat := if dig b then min (n * 10 + (b.toNat - 48)) 1000000000000001 else n
def val (m : Nat) (l : List UInt8) : Nat := l.foldl step m
theorem val_append (m : Nat) (a b : List UInt8) : val m (a ++ b) = val (val m a) b := by simp [val]
theorem val_cons (m : Nat) (x : UInt8) (l : List UInt8) : val m (x :: l) = val (step m x) l := rfl
theorem step_cap {n : Nat} (b : UInt8) (h : n ≤ 1000000000000001) : step n b ≤ 1000000000000001 := by unfold step; split <;> omega
theorem val_cap : ∀ (l : List UInt8) {n : Nat}, n ≤ 1000000000000001 → val n l ≤ 1000000000000001
  | [], _, h => h
  | b :: l, _, h => val_cap l (step_cap b h)
theorem digit_toNat {d : Nat} (h : d < 10) : (UInt8.ofNat (48 + d)).toNat = 48 + d := by simp; omega
theorem step_digit (n : Nat) {d : Nat} (h : d < 10) : step n (UInt8.ofNat (48 + d)) = min (n * 10 + d) 1000000000000001 := by
  unfold step dig
  rw [digit_toNat h, if_pos (by simp; omega)]
  congr 1; omega
theorem val_dec (u : Nat) : val 0 (decDigits u) = min u 1000000000000001 := by
  induction u using Nat.strongRecOn with
  | _ u ih =>
    by_cases h : u < 10
    · rw [Go.Lib.decDigits, dif_pos h]
      show step 0 _ = _
      rw [step_digit 0 h]; omega
    · rw [Go.Lib.decDigits, dif_neg h, val_append, ih (u / 10) (by omega)]
      show step _ _ = _
      rw [step_digit _ (by omega)]; omega
theorem val_textN (A : Nat) : val 0 (textN A) = min A 1000000000000001 := by
  unfold textN two
  rw [val_append, val_dec]
  show step (step (step _ 46) _) _ = _
  have e : ∀ n, step n 46 = n := fun n => by simp [step, dig]
  rw [e, step_digit _ (by omega), step_digit _ (by omega)]
  omega
theorem head_dec (u : Nat) : ∃ b l, decDigits u = b :: l ∧ dig b = true := by
  induction u using Nat.strongRecOn with
  | _ u ih =>
    by_cases h : u < 10
    · refine ⟨_, _, by rw [Go.Lib.decDigits, dif_pos h], ?_⟩
      unfold dig; rw [digit_toNat h]; simp; omega
    · obtain ⟨b, l, e, hb⟩ := ih (u / 10) (by omega)
      exact ⟨b, l ++ [UInt8.ofNat (48 + u % 10)], by rw [Go.Lib.decDigits, dif_neg h, e]; rfl, hb⟩
theorem head_textN (A : Nat) : ∃ b l, textN A = b :: l ∧ dig b = true := by
  obtain ⟨b, l, e, h⟩ := head_dec (A / 100)
  exact ⟨b, l ++ 46 :: two (A % 100), by unfold textN; rw [e]; rfl, h⟩
/-- the number that a text tells by its digits and its sign -/
def told (s : List UInt8) : Int := if s.head? = some 45 then -(val 0 s : Int) else (val 0 s : Int)
theorem told_text {a : Int} (h : may a = true) : told (text a) = a := by
  have hr : -1000000000000000 ≤ a ∧ a ≤ 1000000000000000 := by simpa [may] using h
  unfold told text
  by_cases hs : a < 0
  · rw [if_pos hs, if_pos (show (45 :: textN a.natAbs).head? = some 45 from rfl), val_cons, show step 0 45 = 0 from rfl, val_textN]; omega
  · obtain ⟨b, l, e, hb⟩ := head_textN a.natAbs
    have hn : ¬ ((textN a.natAbs).head? = some 45) := by
      rw [e]; intro h; simp only [List.head?_cons, Option.some.injEq] at h; subst h; simp [dig] at hb
    rw [if_neg hs, if_neg hn, val_textN]; omega
/-- a text that is an amount's -/
def reads (s : List UInt8) : Bool := may (told s) && decide (text (told s) = s)
def readN (s : List UInt8) : Int := if reads s then told s else 0
def readE (s : List UInt8) : Int := if reads s then 0 else 3
theorem reads_iff (s : List UInt8) : reads s = true ↔ ∃ a, may a = true ∧ text a = s := by
  unfold reads
  simp only [Bool.and_eq_true, decide_eq_true_eq]
  refine ⟨fun h => ⟨_, h⟩, fun ⟨a, h1, h2⟩ => ?_⟩
  rw [← h2, told_text h1]
  exact ⟨h1, rfl⟩
theorem reads_text {a : Int} (h : may a = true) : reads (text a) = true ∧ readN (text a) = a ∧ readE (text a) = 0 := by
  have : reads (text a) = true := (reads_iff _).2 ⟨a, h, rfl⟩
  unfold readN readE
  rw [if_pos this, if_pos this, told_text h]
  exact ⟨this, rfl, rfl⟩
theorem text_inj {a b : Int} (ha : may a = true) (hb : may b = true) (h : text a = text b) : a = b := by
  rw [← told_text ha, ← told_text hb, h]
theorem decDigits_lt {u : Nat} {k : Nat} (h : u < 10 ^ (k + 1)) : (decDigits u).length ≤ k + 1 := by
  rw [Go.Lib.decDigits_length]
  induction k generalizing u with
  | zero => rw [Go.Lib.nDigits_small (by simpa using h)]; omega
  | succ k ih =>
    by_cases h1 : u < 10
    · rw [Go.Lib.nDigits_small h1]; omega
    · rw [Go.Lib.nDigits_big h1]
      have := ih (u := u / 10) (by rw [Nat.pow_succ] at h; omega)
      omega
theorem text_length {a : Int} (h : may a = true) : (text a).length ≤ 18 := by
  have hr : -1000000000000000 ≤ a ∧ a ≤ 1000000000000000 := by simpa [may] using h
  have : (decDigits (a.natAbs / 100)).length ≤ 13 + 1 := decDigits_lt (by omega)
  unfold text textN two
  split <;> simp <;> omega
end MP
end Go.Proofs.YtfaelefeiinbaaaDoor

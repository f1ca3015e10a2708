/- Layer 22 in plain words: a text without its point, read as a number. Nothing here speaks of a program. -/
import Derived.Test.YtfaelefeiinbaaaDoorMText
import Derived.Lib.AtoiTie
namespace Go.Proofs.YtfaelefeiinbaaaDoor
namespace MP
open Go.Lib (decDigits digitVal decFrom decNat atoi)

theorem decFrom_append : ∀ (a b : List UInt8) (m : Nat), decFrom m (a ++ b) = (decFrom m a).bind fun n => decFrom n b
  | [], b, m => rfl
  | x :: a, b, m => by
    simp only [List.cons_append, decFrom]
    cases digitVal x with
    | none => rfl
    | some d => exact decFrom_append a b _
theorem digitVal_digit {d : Nat} (h : d < 10) : digitVal (UInt8.ofNat (48 + d)) = some d := by
  unfold digitVal
  rw [digit_toNat h, if_pos (by omega)]
  congr 1; omega
theorem decFrom_dec (u : Nat) : decFrom 0 (decDigits u) = some u := by
  induction u using Nat.strongRecOn with
  | _ u ih =>
    by_cases h : u < 10
    · rw [Go.Lib.decDigits, dif_pos h]
      simp only [decFrom, digitVal_digit h, Nat.zero_mul, Nat.zero_add]
    · rw [Go.Lib.decDigits, dif_neg h, decFrom_append, ih (u / 10) (by omega)]
      simp only [Option.bind_some, decFrom, digitVal_digit (show u % 10 < 10 by omega)]
      congr 1; omega
def bare (A : Nat) : List UInt8 := decDigits (A / 100) ++ two (A % 100)
theorem decFrom_bare (A : Nat) : decFrom 0 (bare A) = some A := by
  unfold bare two
  rw [decFrom_append, decFrom_dec]
  simp only [Option.bind_some, decFrom, digitVal_digit (show A % 100 / 10 < 10 by omega), digitVal_digit (show A % 100 % 10 < 10 by omega)]
  congr 1; omega
theorem head_bare (A : Nat) : ∃ b l, bare A = b :: l ∧ dig b = true := by
  obtain ⟨b, l, e, h⟩ := head_dec (A / 100)
  exact ⟨b, l ++ two (A % 100), by unfold bare; rw [e]; rfl, h⟩
theorem decNat_bare (A : Nat) : decNat (bare A) = some A := by
  obtain ⟨b, l, e, h⟩ := head_bare A
  have := decFrom_bare A
  unfold decNat
  rw [e] at this ⊢
  simpa using this
/-- a text without the point that stands third from behind -/
def cut (s : List UInt8) : List UInt8 := s.take (s.length - 3) ++ s.drop (s.length - 2)
def bareI (a : Int) : List UInt8 := if a < 0 then 45 :: bare a.natAbs else bare a.natAbs
theorem cut_append (x : List UInt8) (p b c : UInt8) : cut (x ++ [p, b, c]) = x ++ [b, c] := by
  unfold cut
  have h1 : (x ++ [p, b, c]).length - 3 = x.length := by simp
  have h2 : (x ++ [p, b, c]).length - 2 = x.length + 1 := by simp
  rw [h1, h2, List.take_left', List.drop_append]
  · simp
  · rfl
theorem cut_text (a : Int) : cut (text a) = bareI a := by
  unfold text bareI textN bare two
  split
  · rw [← List.cons_append, cut_append]; rfl
  · rw [cut_append]
theorem atoi_bare (a : Int) : atoi (bareI a) = some a := by
  unfold bareI
  by_cases h : a < 0
  · rw [if_pos h]
    simp only [atoi, beq_self_eq_true, if_true, decNat_bare, Option.map_some]
    congr 1; omega
  · rw [if_neg h]
    have hn := decNat_bare a.natAbs
    obtain ⟨b, l, e, hb⟩ := head_bare a.natAbs
    rw [e] at hn ⊢
    have h1 : (b == 45) = false := by
      cases hh : b == 45 with
      | false => rfl
      | true => have : b = 45 := by simpa using hh
                subst this; simp [dig] at hb
    have h2 : (b == 43) = false := by
      cases hh : b == 43 with
      | false => rfl
      | true => have : b = 43 := by simpa using hh
                subst this; simp [dig] at hb
    simp only [atoi, h1, h2, if_false, hn, Option.map_some, Bool.false_eq_true]
    congr 1; omega
theorem text_long (a : Int) : 4 ≤ (text a).length := by
  obtain ⟨b, l, e, _⟩ := head_dec (a.natAbs / 100)
  unfold text textN two
  rw [e]
  split <;> simp
theorem reads_short {s : List UInt8} (h : s.length < 3 ∨ 18 < s.length) : reads s = false := by
  cases hr : reads s with
  | false => rfl
  | true =>
    obtain ⟨a, h1, h2⟩ := (reads_iff s).1 hr
    subst h2
    have := text_long a
    have := text_length h1
    omega
theorem reads_none {s : List UInt8} (h : atoi (cut s) = none) : reads s = false := by
  cases hr : reads s with
  | false => rfl
  | true =>
    obtain ⟨a, h1, h2⟩ := (reads_iff s).1 hr
    subst h2
    rw [cut_text, atoi_bare] at h
    cases h
theorem reads_some {s : List UInt8} {v : Int} (h : atoi (cut s) = some v) : reads s = (may v && decide (text v = s)) ∧ (reads s = true → told s = v) := by
  have key : reads s = true → may v = true ∧ text v = s := by
    intro hr
    obtain ⟨a, h1, h2⟩ := (reads_iff s).1 hr
    subst h2
    rw [cut_text, atoi_bare] at h
    cases h
    exact ⟨h1, rfl⟩
  refine ⟨?_, fun hr => ?_⟩
  · cases hr : reads s with
    | true => obtain ⟨h1, h2⟩ := key hr; rw [h1, h2]; simp
    | false =>
      cases hm : may v with
      | false => rfl
      | true =>
        by_cases ht : text v = s
        · have := (reads_iff s).2 ⟨v, hm, ht⟩
          rw [this] at hr; cases hr
        · simp [ht]
  · obtain ⟨h1, h2⟩ := key hr
    rw [← h2, told_text h1]
theorem cut_length {s : List UInt8} (h : 3 ≤ s.length) : (cut s).length = s.length - 1 := by
  unfold cut; simp; omega
end MP
end Go.Proofs.YtfaelefeiinbaaaDoor

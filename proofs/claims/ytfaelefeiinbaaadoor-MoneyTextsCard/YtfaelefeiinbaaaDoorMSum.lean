/- Layer 22 in plain words: sums, parts and prices. Nothing here speaks of a program. -/
import Derived.Test.YtfaelefeiinbaaaDoorMText
namespace Go.Proofs.YtfaelefeiinbaaaDoor
namespace MP

/-! ### sums -/
def sumI : List Int → Int | [] => 0 | x :: l => x + sumI l
theorem sumI_append : ∀ (a b : List Int), sumI (a ++ b) = sumI a + sumI b
  | [], b => by simp [sumI]
  | x :: a, b => by simp only [List.cons_append, sumI, sumI_append a b]; omega
theorem sumI_snoc (l : List Int) (x : Int) : sumI (l ++ [x]) = sumI l + x := by rw [sumI_append]; simp [sumI]
theorem may_iff (a : Int) : may a = true ↔ -1000000000000000 ≤ a ∧ a ≤ 1000000000000000 := by simp [may]
theorem may_false (a : Int) : may a = false ↔ ¬ (-1000000000000000 ≤ a ∧ a ≤ 1000000000000000) := by simp [may]
def sumE (l : List Int) : Int := if l.all may then (if may (sumI l) then 0 else 1) else 220
def sumV (l : List Int) : Int := if l.all may && may (sumI l) then sumI l else 0
theorem sum_bound : ∀ (l : List Int), l.all may = true → -(l.length * 1000000000000000 : Int) ≤ sumI l ∧ sumI l ≤ (l.length * 1000000000000000 : Int)
  | [], _ => by simp [sumI]
  | x :: l, h => by
    simp only [List.all_cons, Bool.and_eq_true] at h
    have h1 := (may_iff x).1 h.1
    have h2 := sum_bound l h.2
    simp only [sumI, List.length_cons]
    omega
theorem sum_replicate (a : Int) : ∀ n : Nat, sumI (List.replicate n a) = a * n
  | 0 => by simp [sumI]
  | n + 1 => by
    rw [List.replicate_succ, sumI, sum_replicate a n, Int.natCast_add, Int.mul_add]
    simp; omega

/-! ### parts -/
def isRate (r : Int) : Bool := decide (0 ≤ r ∧ r ≤ 1000000)
theorem isRate_iff (r : Int) : isRate r = true ↔ 0 ≤ r ∧ r ≤ 1000000 := by simp [isRate]
def partN (A R : Nat) : Nat := (2 * (A * R) + 10000) / 20000
def partI (a r : Int) : Int := if a < 0 then -(partN a.natAbs r.toNat : Int) else (partN a.natAbs r.toNat : Int)
def partE (a r : Int) : Int := if may a then (if isRate r then (if may (partI a r) then 0 else 1) else 1) else 220
def partV (a r : Int) : Int := if may a && isRate r && may (partI a r) then partI a r else 0
theorem partN_split (A R : Nat) : A / 10000 * R + (2 * (A % 10000 * R) + 10000) / 20000 = partN A R := by
  have e : 2 * (A * R) + 10000 = 20000 * (A / 10000 * R) + (2 * (A % 10000 * R) + 10000) := by
    have := Nat.div_add_mod A 10000
    have e1 : A * R = 10000 * (A / 10000 * R) + A % 10000 * R := by
      conv => lhs; rw [← this]
      rw [Nat.add_mul, Nat.mul_assoc]
    omega
  unfold partN
  rw [e, Nat.mul_add_div (by decide)]
theorem partN_le (A R : Nat) (hA : A ≤ 1000000000000000) (hR : R ≤ 1000000) : partN A R ≤ 100000000000000000 := by
  have : A * R ≤ 1000000000000000 * 1000000 := Nat.mul_le_mul hA hR
  unfold partN; omega
theorem partN_whole (A : Nat) : partN A 10000 = A := by unfold partN; omega
theorem partN_none (A : Nat) : partN A 0 = 0 := by unfold partN; simp
theorem partN_mono (A : Nat) {R S : Nat} (h : R ≤ S) : partN A R ≤ partN A S := by
  unfold partN
  have := Nat.mul_le_mul_left A h
  omega
theorem partI_neg (a r : Int) : partI (-a) r = -partI a r := by
  unfold partI
  rcases Int.lt_trichotomy a 0 with h | h | h
  · rw [if_pos h, if_neg (by omega)]; simp
  · subst h; simp [partN]
  · rw [if_pos (by omega), if_neg (by omega)]; simp
theorem may_neg (a : Int) : may (-a) = may a := by
  by_cases h : may a = true
  · rw [h, may_iff]; rw [may_iff] at h; omega
  · have h' : may a = false := by simpa using h
    rw [h', may_false]; rw [may_false] at h'; omega
theorem partI_whole (a : Int) : partI a 10000 = a := by
  unfold partI
  simp only [show (10000 : Int).toNat = 10000 from rfl, partN_whole]
  split <;> omega
theorem partI_none (a : Int) : partI a 0 = 0 := by
  unfold partI
  simp only [show (0 : Int).toNat = 0 from rfl, partN_none]
  split <;> rfl
theorem partI_mono {a r s : Int} (h : r ≤ s) : (0 ≤ a → partI a r ≤ partI a s) ∧ (a ≤ 0 → partI a s ≤ partI a r) := by
  have := partN_mono a.natAbs (R := r.toNat) (S := s.toNat) (by omega)
  unfold partI
  refine ⟨fun ha => ?_, fun ha => ?_⟩
  · rw [if_neg (by omega), if_neg (by omega)]; omega
  · rcases Int.lt_trichotomy a 0 with h0 | h0 | h0
    · rw [if_pos h0, if_pos h0]; omega
    · subst h0; simp [partN]
    · omega
theorem partE_ok {a r : Int} (h : partE a r = 0) : may a = true ∧ isRate r = true ∧ may (partI a r) = true := by
  unfold partE at h
  cases h1 : may a <;> cases h2 : isRate r <;> cases h3 : may (partI a r) <;> simp [h1, h2, h3] at h ⊢
theorem partV_ok {a r : Int} (h : partE a r = 0) : partV a r = partI a r := by
  obtain ⟨h1, h2, h3⟩ := partE_ok h
  unfold partV; rw [h1, h2, h3]; rfl
theorem partV_no {a r : Int} (h : ¬ partE a r = 0) : partV a r = 0 := by
  unfold partV partE at *
  cases h1 : may a <;> cases h2 : isRate r <;> cases h3 : may (partI a r) <;> simp [h1, h2, h3] at h ⊢
theorem partI_bound {a r : Int} (h1 : may a = true) (h2 : isRate r = true) : -100000000000000000 ≤ partI a r ∧ partI a r ≤ 100000000000000000 := by
  rw [may_iff] at h1
  rw [isRate_iff] at h2
  have := partN_le a.natAbs r.toNat (by omega) (by omega)
  unfold partI; split <;> omega

/-! ### prices -/
/-- of an amount, rate by rate, its part is added; none: that is no amount -/
def adds (n : Int) : List Int → Option Int
  | [] => some n
  | r :: l => if may (partI n r) && may (n + partI n r) then adds (n + partI n r) l else none
def isMany (m : Int) : Bool := decide (0 ≤ m ∧ m ≤ 1000000)
def priceO (a m : Int) (l : List Int) : Option Int := if isMany m && l.all isRate && may (a * m) then adds (a * m) l else none
def priceE (a m : Int) (l : List Int) : Int := if may a then (match priceO a m l with | some _ => 0 | none => 1) else 220
def priceV (a m : Int) (l : List Int) : Int := if may a then (priceO a m l).getD 0 else 0
theorem adds_append (n : Int) (a b : List Int) : adds n (a ++ b) = (adds n a).bind fun m => adds m b := by
  induction a generalizing n with
  | nil => rfl
  | cons r l ih =>
    simp only [List.cons_append, adds]
    split
    · exact ih _
    · rfl
theorem adds_may {n m : Int} {l : List Int} (h : may n = true) (e : adds n l = some m) : may m = true := by
  induction l generalizing n with
  | nil => cases e; exact h
  | cons r l ih =>
    simp only [adds] at e
    split at e
    · rename_i hh
      simp only [Bool.and_eq_true] at hh
      exact ih hh.2 e
    · cases e
end MP
end Go.Proofs.YtfaelefeiinbaaaDoor

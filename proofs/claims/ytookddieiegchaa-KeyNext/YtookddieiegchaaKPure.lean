/- No text stands between one and the same with a byte 0 behind: in plain words. -/
import Derived.Test.YtookddieiegchaaBase
import Derived.Laws.Cover1
namespace Go.Proofs.Ytookddieiegchaa

theorem less_next : ∀ k : List UInt8, Op.bytesLess k (k ++ [0]) = true
  | [] => rfl
  | c :: k => by
    have h := less_next k
    simp [Op.bytesLess, h]

theorem none_between : ∀ k o : List UInt8, Op.bytesLess k o = true → Op.bytesLess o (k ++ [0]) = false
  | [], [] => fun h => by simp [Op.bytesLess] at h
  | [], d :: o => fun _ => by
    have z : ¬ d < 0 := by simp [UInt8.lt_iff_toNat_lt]
    cases o <;> simp [Op.bytesLess, z]
  | c :: k, [] => fun h => by simp [Op.bytesLess] at h
  | c :: k, d :: o => fun h => by
    have ih := none_between k o
    simp only [Op.bytesLess, Bool.or_eq_true, decide_eq_true_eq, Bool.and_eq_true, beq_iff_eq] at h
    simp only [List.cons_append, Op.bytesLess, Bool.or_eq_false_iff, decide_eq_false_iff_not, Bool.and_eq_false_iff]
    rcases h with h | ⟨h, g⟩
    · constructor
      · simp only [UInt8.lt_iff_toNat_lt] at h ⊢; omega
      · left
        simp only [beq_eq_false_iff_ne]
        intro e
        subst e
        simp at h
    · subst h
      refine ⟨by simp, Or.inr (ih g)⟩

/-- what the test asks: behind the one, or not ahead of the next -/
theorem beside (k o : List UInt8) : ((Op.bytesLess o k || o == k) || !(Op.bytesLess o (k ++ [0]))) = true := by
  have tri : ∀ a b : List UInt8, Op.bytesLess a b = true ∨ a = b ∨ Op.bytesLess b a = true := by
    intro a
    induction a with
    | nil => intro b; cases b <;> simp [Op.bytesLess]
    | cons x a ih =>
      intro b
      cases b with
      | nil => simp [Op.bytesLess]
      | cons y b =>
        simp only [Op.bytesLess, Bool.or_eq_true, decide_eq_true_eq, Bool.and_eq_true, beq_iff_eq, List.cons.injEq]
        by_cases e : x = y
        · subst e
          rcases ih b with h | h | h
          · exact Or.inl (Or.inr ⟨rfl, h⟩)
          · exact Or.inr (Or.inl ⟨rfl, h⟩)
          · exact Or.inr (Or.inr (Or.inr ⟨rfl, h⟩))
        · have : x.toNat ≠ y.toNat := fun q => e (UInt8.toNat_inj.1 q)
          simp only [UInt8.lt_iff_toNat_lt]
          omega
  rcases tri o k with h | h | h
  · simp [h]
  · simp [h]
  · simp [none_between k o h]

end Go.Proofs.Ytookddieiegchaa

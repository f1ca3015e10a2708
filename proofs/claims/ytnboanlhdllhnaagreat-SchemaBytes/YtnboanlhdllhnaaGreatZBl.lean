/- Texts by bytes. Nothing here speaks of a program. -/
import Derived.Test.YtnboanlhdllhnaaGreatBase
import Derived.Laws.Cover1
namespace Go.Proofs.YtnboanlhdllhnaaGreat

/-! ### texts by bytes -/
theorem bl_irrefl : ∀ a : List UInt8, Op.bytesLess a a = false
  | [] => rfl
  | x :: a => by simp [Op.bytesLess, bl_irrefl a]
theorem bl_trans : ∀ a b c : List UInt8, Op.bytesLess a b = true → Op.bytesLess b c = true → Op.bytesLess a c = true
  | a, [], c => fun h _ => by cases a <;> simp [Op.bytesLess] at h
  | a, y :: b, [] => fun _ h => by simp [Op.bytesLess] at h
  | [], y :: b, z :: c => fun _ _ => by simp [Op.bytesLess]
  | x :: a, y :: b, z :: c => fun h k => by
    have ih := bl_trans a b c
    simp only [Op.bytesLess, Bool.or_eq_true, decide_eq_true_eq, Bool.and_eq_true, beq_iff_eq] at h k ⊢
    simp only [UInt8.lt_iff_toNat_lt] at h k ⊢
    rcases h with h | ⟨rfl, h⟩
    · rcases k with k | ⟨rfl, k⟩
      · left; omega
      · left; exact h
    · rcases k with k | ⟨rfl, k⟩
      · left; exact k
      · right; exact ⟨rfl, ih h k⟩
theorem bl_total : ∀ a b : List UInt8, Op.bytesLess a b = true ∨ a = b ∨ Op.bytesLess b a = true
  | [], [] => Or.inr (Or.inl rfl)
  | [], y :: b => by simp [Op.bytesLess]
  | x :: a, [] => by simp [Op.bytesLess]
  | x :: a, y :: b => by
    have ih := bl_total a b
    simp only [Op.bytesLess, Bool.or_eq_true, decide_eq_true_eq, Bool.and_eq_true, beq_iff_eq, List.cons.injEq]
    by_cases e : x = y
    · subst e
      rcases ih with h | h | h
      · exact Or.inl (Or.inr ⟨rfl, h⟩)
      · exact Or.inr (Or.inl ⟨rfl, h⟩)
      · exact Or.inr (Or.inr (Or.inr ⟨rfl, h⟩))
    · have : x.toNat ≠ y.toNat := fun q => e (UInt8.toNat_inj.1 q)
      simp only [UInt8.lt_iff_toNat_lt]
      omega
def bl (a b : ByteArray) : Bool := Op.bytesLess a.toList b.toList
theorem toList_inj {a b : ByteArray} (h : a.toList = b.toList) : a = b := by
  rw [Go.ByteArray.toList_eq, Go.ByteArray.toList_eq] at h
  cases a; cases b
  simpa using h
theorem bl_self (a : ByteArray) : bl a a = false := bl_irrefl _
theorem bl_tr {a b c : ByteArray} (h : bl a b = true) (k : bl b c = true) : bl a c = true := bl_trans _ _ _ h k
theorem bl_tot (a b : ByteArray) : bl a b = true ∨ a = b ∨ bl b a = true := by
  rcases bl_total a.toList b.toList with h | h | h
  · exact Or.inl h
  · exact Or.inr (Or.inl (toList_inj h))
  · exact Or.inr (Or.inr h)
theorem bl_asym {a b : ByteArray} (h : bl a b = true) : bl b a = false := by
  cases k : bl b a with
  | false => rfl
  | true => rw [← bl_self a, bl_tr h k]
theorem bl_ne {a b : ByteArray} (h : bl a b = true) : a ≠ b := fun e => by rw [e, bl_self] at h; cases h

end Go.Proofs.YtnboanlhdllhnaaGreat

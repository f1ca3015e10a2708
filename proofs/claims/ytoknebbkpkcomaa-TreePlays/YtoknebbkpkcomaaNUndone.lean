/- Insert and Remove, by what they come to. -/
import Derived.Test.YtoknebbkpkcomaaNWorks
namespace Go.Proofs.Ytoknebbkpkcomaa
open Go.RowKit

def wdv (u : Nat) (l : List Nat) : Int := ((val (u :: l) : Nat) : Int)
section
variable {W : Int} {u : Nat} {l : List Nat}

theorem Wd.is (h : Wd W u l) : W = wdv u l := h.eq

theorem insert_to (h : Wd W u l) (hm : May l) (hu : u < 15) {x : Int} {a : Nat} (hx : x = a) (ha : a ≤ u) (w : World) :
    Calls Try.prog 51 #[.int .u64 W, .int .i64 x] w fun e w' => e = .returned (.tuple #[.int .u64 (wdv (u + 1) (insW l u a)), .int .i64 ((l.getD u 0 : Nat) : Int), .int .i64 0]) ∧ w' = w :=
  (insert_ok h hm hu hx ha w).mono fun e w' ⟨W', h1, h2, h3⟩ => ⟨by rw [h2, h1.is]; rfl, h3⟩
theorem remove_to (h : Wd W u l) (hm : May l) {x : Int} {a : Nat} (hx : x = a) (ha : a < u) (w : World) :
    Calls Try.prog 66 #[.int .u64 W, .int .i64 x] w fun e w' => e = .returned (.tuple #[.int .u64 (wdv (u - 1) (remW l u a)), .int .i64 ((l.getD a 0 : Nat) : Int), .int .i64 0]) ∧ w' = w :=
  (remove_ok h hm hx ha w).mono fun e w' ⟨W', h1, h2, h3⟩ => ⟨by rw [h2, h1.is]; rfl, h3⟩
theorem Wd.insTo (h : Wd W u l) {a : Nat} (hu : u < 15) (ha : a ≤ u) : Wd (wdv (u + 1) (insW l u a)) (u + 1) (insW l u a) := by
  have := h.ins hu ha rfl
  rw [← this.is]
  exact this
theorem Wd.remTo (h : Wd W u l) {a : Nat} (ha : a < u) : Wd (wdv (u - 1) (remW l u a)) (u - 1) (remW l u a) := by
  have := h.rem ha rfl
  rw [← this.is]
  exact this

theorem insert_case (h : Wd W u l) (x : Int) : (∃ E : Int, E ≠ 0 ∧ ∀ v : World, Calls Try.prog 51 #[.int .u64 W, .int .i64 x] v fun e w' => e = .returned (.tuple #[.int .u64 0, .int .i64 0, .int .i64 E]) ∧ w' = v) ∨ (May l ∧ u < 15 ∧ ∃ a : Nat, x = a ∧ a ≤ u) := by
  by_cases hm : May l
  · by_cases hu : u = 15
    · exact Or.inl ⟨120, by decide, fun v => insert_full h hm hu x v⟩
    · have hu2 := h.u16
      by_cases hx : 0 ≤ x ∧ x ≤ u
      · exact Or.inr ⟨hm, by omega, x.toNat, by omega, by omega⟩
      · exact Or.inl ⟨1, by decide, fun v => insert_range h hm (by omega) hx v⟩
  · exact Or.inl ⟨4, by decide, fun v => insert_shape h hm x v⟩

theorem May.insW (h : May l) (hl : l.length = 15) {a : Nat} (hu : u < 15) (ha : a ≤ u) : May (insW l u a) := h.ins (by omega) a (by omega)
theorem May.remW (h : May l) (hl : l.length = 15) {a : Nat} (hu : u < 16) (ha : a < u) : May (remW l u a) := h.ins (by omega) (u - 1) (by omega)

theorem next_other (hm : May l) (hl : l.length = 15) {a : Nat} (hu : u + 1 < 15) (ha : a ≤ u) : (insW l u a).getD (u + 1) 0 ≠ l.getD u 0 := by
  have h1 := hm.insW hl (a := a) (by omega) ha
  have hlen : (insW l u a).length = 15 := ins_length hl (by omega) (by omega)
  rw [← (rem_ins hl (by omega) ha).2, getD_of (by omega), getD_of (by omega)]
  intro e
  have h2 := (List.getElem?_inj (i := u + 1) (j := a) (by omega) h1.1).1 (by
    rw [List.getElem?_eq_getElem (by omega), List.getElem?_eq_getElem (by omega), e])
  omega
end

end Go.Proofs.Ytoknebbkpkcomaa

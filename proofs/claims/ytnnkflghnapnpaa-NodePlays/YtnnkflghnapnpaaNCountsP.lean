/- What a call makes of a node's counts and keys. -/
import Derived.Test.YtnnkflghnapnpaaNStand
namespace Go.Proofs.Ytnnkflghnapnpaa
open Go.RowKit

/-- what a call makes of the counts and the keys -/
structure Stp (n n' : Nd) : Prop where
  i1 : n.ins ≤ n'.ins
  i2 : n'.ins ≤ n.ins + 8
  s1 : n.spl ≤ n'.spl
  s2 : n'.spl ≤ n.spl + 1
  same : (n'.ins = n.ins ∧ n'.spl = n.spl) ↔ n'.keys = n.keys

theorem Stp.refl (n : Nd) : Stp n n := ⟨by omega, by omega, by omega, by omega, by simp⟩
theorem Stp.other {n n' : Nd} (i1 : n.ins ≤ n'.ins) (i2 : n'.ins ≤ n.ins + 8) (s1 : n.spl ≤ n'.spl) (s2 : n'.spl ≤ n.spl + 1) (h : ¬ (n'.ins = n.ins ∧ n'.spl = n.spl)) (hk : n'.ks.length ≠ n.ks.length) : Stp n n' :=
  ⟨i1, i2, s1, s2, ⟨fun e => absurd e h, fun e => by
    exfalso
    apply hk
    have := congrArg List.length e
    simpa [Nd.keys] using this⟩⟩
theorem PutsTo.stp {n n' : Nd} {k : ByteArray} {v was e : Int} {there : Bool} (h : PutsTo n k v n' was there e) : Stp n n' := by
  rcases h with ⟨h, rfl, rfl, rfl, rfl⟩ | ⟨i, hi, rfl, rfl, rfl⟩ | ⟨h1, h2, h3, rfl, rfl, rfl, rfl⟩ | ⟨i, h1, h2, h3, h4, rfl, rfl, rfl, rfl⟩
  · exact Stp.refl _
  · refine ⟨Int.le_refl _, by show n.ins ≤ n.ins + 8; omega, Int.le_refl _, by show n.spl ≤ n.spl + 1; omega, ⟨fun _ => ?_, fun _ => ⟨rfl, rfl⟩⟩⟩
    show (n.ks.set i (k, v)).map (·.1) = n.ks.map (·.1)
    obtain ⟨hil, hie⟩ := List.getElem?_eq_some_iff.1 hi
    apply List.ext_getElem?
    intro j
    rw [List.getElem?_map, List.getElem?_map]
    by_cases e : i = j
    · subst e
      rw [List.getElem?_set_self hil, hi]
      rfl
    · rw [List.getElem?_set_ne e]
  · exact Stp.refl _
  · have hl : (n.add i k v).ks.length = n.ks.length + 1 := List.length_insertIdx_of_le_length h1.le _
    refine Stp.other (by show n.ins ≤ n.ins + 1; omega) (by show n.ins + 1 ≤ n.ins + 8; omega) (Int.le_refl _) (by show n.spl ≤ n.spl + 1; omega) ?_ (by omega)
    show ¬ (n.ins + 1 = n.ins ∧ _)
    omega
theorem TakesTo.stp {n n' : Nd} {k : ByteArray} {was e : Int} (h : TakesTo n k n' was e) : Stp n n' := by
  rcases h with ⟨h, rfl, rfl, rfl⟩ | ⟨i, hi, rfl, rfl⟩
  · exact Stp.refl _
  · have hil := (List.getElem?_eq_some_iff.1 hi).1
    have hl : (n.del i).ks.length = n.ks.length - 1 := List.length_eraseIdx_of_lt hil
    refine Stp.other (by show n.ins ≤ n.ins + 1; omega) (by show n.ins + 1 ≤ n.ins + 8; omega) (Int.le_refl _) (by show n.spl ≤ n.spl + 1; omega) ?_ (by omega)
    show ¬ (n.ins + 1 = n.ins ∧ _)
    omega
theorem left_stp {n : Nd} (ho : n.Ok) (h : 2 ≤ n.ks.length) : Stp n n.left := by
  have hf := ho.few
  have hl : n.left.ks.length = n.ks.length - n.ks.length / 2 := by
    show (n.ks.take n.stay).length = _
    rw [List.length_take]
    unfold Nd.stay
    omega
  have e1 : n.left.ins = n.ins + (n.ks.length / 2 : Nat) := rfl
  have e2 : n.left.spl = n.spl + 1 := rfl
  refine Stp.other (by omega) (by omega) (by omega) (by omega) (by omega) (by omega)

def Cnt (n : Nd) (j : Nat) : Prop := 0 ≤ n.ins ∧ n.ins ≤ 8 * (j : Int) ∧ 0 ≤ n.spl ∧ n.spl ≤ (j : Int)
theorem Stp.cnt {n n' : Nd} {j : Nat} (h : Stp n n') (hc : Cnt n j) : Cnt n' (j + 1) := by
  obtain ⟨h1, h2, h3, h4⟩ := hc
  obtain ⟨i1, i2, s1, s2, -⟩ := h
  exact ⟨by omega, by omega, by omega, by omega⟩

end Go.Proofs.Ytnnkflghnapnpaa

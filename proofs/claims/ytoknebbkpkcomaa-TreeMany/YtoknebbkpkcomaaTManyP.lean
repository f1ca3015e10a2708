/- Plain: which keys are there when numbers are put in by steps and taken out again. -/
import Derived.Test.YtoknebbkpkcomaaTNumber
namespace Go.Proofs.Ytoknebbkpkcomaa
open Go.RowKit

theorem inv_all : ∀ x, x < 500 → (2 * x + 1) * ((2 * x + 1) ^ 1023 % 4096) % 4096 = 1 := by decide +kernel
theorem inv_ex {x : Nat} (h : x < 500) : ∃ c, (2 * x + 1) * c % 4096 = 1 := ⟨_, inv_all x h⟩

section
variable {b c : Nat}
theorem inv_back (hc : b * c % 4096 = 1) {i : Nat} (hi : i < 4096) : (i * b % 4096) * c % 4096 = i := by
  rw [Nat.mod_mul_mod, Nat.mul_assoc, Nat.mul_mod, hc, Nat.mul_one, Nat.mod_mod, Nat.mod_eq_of_lt hi]
theorem inv_inj (hc : b * c % 4096 = 1) {i j : Nat} (hi : i < 4096) (hj : j < 4096) (h : i * b % 4096 = j * b % 4096) : i = j := by
  rw [← inv_back hc hi, h, inv_back hc hj]
theorem inv_sur (hc : b * c % 4096 = 1) {k : Nat} (hk : k < 4096) : ∃ i, i < 4096 ∧ i * b % 4096 = k := by
  refine ⟨k * c % 4096, Nat.mod_lt _ (by omega), ?_⟩
  rw [Nat.mod_mul_mod, Nat.mul_assoc, Nat.mul_comm c b, Nat.mul_mod, hc, Nat.mul_one, Nat.mod_mod, Nat.mod_eq_of_lt hk]
end

def pr (k : Nat) : Kv := (num k, (k : Int))
structure PutInv (b j : Nat) (K : List Kv) : Prop where
  all : ∀ p ∈ K, ∃ i, i < j ∧ p = pr (i * b % 4096)
  has : ∀ i, i < j → pr (i * b % 4096) ∈ K
  len : K.length = j
theorem PutInv.zero (b : Nat) : PutInv b 0 [] := ⟨(fun _ h => by cases h), (fun _ h => by omega), rfl⟩

theorem num_size (k : Nat) : (num k).size = 6 := rfl
theorem PutInv.none {b c j : Nat} {K : List Kv} (h : PutInv b j K) (hc : b * c % 4096 = 1) (hj : j < 4096) : getK (num (j * b % 4096)) K = none := by
  rw [getK_none]
  intro p hp e
  obtain ⟨i, hi, rfl⟩ := h.all p hp
  have h1 : i * b % 4096 < 4096 := Nat.mod_lt _ (by omega)
  have h2 : j * b % 4096 < 4096 := Nat.mod_lt _ (by omega)
  have e2 := num_inj (by omega) (by omega) e
  have := inv_inj hc (by omega) hj e2
  omega
theorem PutInv.put {b c j : Nat} {K : List Kv} (h : PutInv b j K) (hr : Rise K) (hc : b * c % 4096 = 1) (hj : j < 4096) : ∃ K', PutK K (num (j * b % 4096)) ((j * b % 4096 : Nat) : Int) K' 0 false 0 ∧ PutInv b (j + 1) K' := by
  have hn := h.none hc hj
  refine ⟨_, Or.inr (Or.inr (Or.inr ⟨by rw [num_size]; omega, hn, by rw [h.len]; exact hj, rfl, rfl, rfl, rfl⟩)), fun p hp => ?_, fun i hi => ?_, by rw [length_ins_new hr hn, h.len]⟩
  · rcases mem_insK hp with rfl | hp
    · exact ⟨j, by omega, rfl⟩
    · obtain ⟨i, hi, e⟩ := h.all p hp
      exact ⟨i, by omega, e⟩
  · by_cases e : i = j
    · subst e
      exact (mem_insK' hr).2 (Or.inl rfl)
    · have hi' : i < j := by omega
      refine (mem_insK' hr).2 (Or.inr ⟨h.has i hi', fun e2 => ?_⟩)
      exact getK_none.1 hn _ (h.has i hi') e2
theorem PutInv.x {b : Nat} {K : List Kv} (h : PutInv b 4096 K) : PutK K ⟨#[120]⟩ 0 K 0 false 2 := by
  refine Or.inr (Or.inr (Or.inl ⟨by decide, ?_, h.len, rfl, rfl, rfl, rfl⟩))
  rw [getK_none]
  intro p hp e
  obtain ⟨i, _, rfl⟩ := h.all p hp
  have := congrArg ByteArray.size e
  cases this

structure TakeInv (d i left : Nat) (K : List Kv) : Prop where
  all : ∀ p ∈ K, ∃ k, k < 4096 ∧ p = pr k ∧ ¬ (k < i ∧ k % d = 0)
  has : ∀ k, k < 4096 → ¬ (k < i ∧ k % d = 0) → pr k ∈ K
  len : K.length + i = 4096 + left
  le : left ≤ i
theorem PutInv.take {b c : Nat} {K : List Kv} (h : PutInv b 4096 K) (hc : b * c % 4096 = 1) (d : Nat) : TakeInv d 0 0 K := by
  refine ⟨fun p hp => ?_, fun k hk _ => ?_, by rw [h.len], Nat.le_refl _⟩
  · obtain ⟨i, _, rfl⟩ := h.all p hp
    exact ⟨_, Nat.mod_lt _ (by omega), rfl, by omega⟩
  · obtain ⟨i, hi, rfl⟩ := inv_sur hc hk
    exact h.has i hi
theorem TakeInv.skip {d i left : Nat} {K : List Kv} (h : TakeInv d i left K) (hi : i % d ≠ 0) : TakeInv d (i + 1) (left + 1) K := by
  have e : ∀ k, (k < i + 1 ∧ k % d = 0) ↔ (k < i ∧ k % d = 0) := fun k => by
    constructor
    · rintro ⟨h1, h2⟩
      refine ⟨?_, h2⟩
      by_cases e : k = i
      · rw [e] at h2; exact absurd h2 hi
      · omega
    · rintro ⟨h1, h2⟩
      exact ⟨by omega, h2⟩
  refine ⟨fun p hp => ?_, fun k hk hn => h.has k hk (fun hh => hn ((e k).2 hh)), by have := h.len; omega, by have := h.le; omega⟩
  obtain ⟨k, h1, h2, h3⟩ := h.all p hp
  exact ⟨k, h1, h2, fun hh => h3 ((e k).1 hh)⟩
theorem TakeInv.drop {d i left : Nat} {K : List Kv} (h : TakeInv d i left K) (hr : Rise K) (h4 : i < 4096) (hi : i % d = 0) : ∃ K', TakeK K (num i) K' (i : Int) 0 ∧ TakeInv d (i + 1) left K' := by
  have hm : pr i ∈ K := h.has i h4 (by omega)
  have hg : getK (num i) K = some (i : Int) := (getK_some hr).2 hm
  refine ⟨_, Or.inr ⟨hg, rfl, rfl⟩, fun p hp => ?_, fun k hk hn => ?_, by have := length_del hr hg; have := h.len; omega, by have := h.le; omega⟩
  · obtain ⟨h1, h2⟩ := List.mem_filter.1 hp
    obtain ⟨k, k1, rfl, k3⟩ := h.all p h1
    refine ⟨k, k1, rfl, fun hh => ?_⟩
    by_cases e : k = i
    · subst e
      simp [pr] at h2
    · exact k3 ⟨by omega, hh.2⟩
  · refine List.mem_filter.2 ⟨h.has k hk (fun hh => hn ⟨by omega, hh.2⟩), ?_⟩
    rw [decide_eq_true_iff]
    intro e
    have := num_inj (by omega) (by omega) e
    subst this
    exact hn ⟨by omega, hi⟩
theorem scan_whole (K : List Kv) : scanK ⟨#[]⟩ ⟨#[]⟩ K = K := by
  unfold scanK
  rw [List.filter_eq_self]
  intro p _
  unfold inK
  rw [bl_empty]
  rfl

end Go.Proofs.Ytoknebbkpkcomaa

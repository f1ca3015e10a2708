/- What a crash makes of files, name by name. Nothing here speaks of Go. -/
import Derived.Test.YtbiombolpfhdlaaPure
namespace Go.Proofs.Ytbiombolpfhdlaa
namespace Dk

/-- The draws that are left. -/
def restD : List (List UInt8 × Fil) → List Int → List Int
  | [], ds => ds
  | p :: r, ds => if p.2.data.length = p.2.safe then restD r ds else restD r ds.tail

theorem crashL_append (l r : List (List UInt8 × Fil)) (ds : List Int) : crashL (l ++ r) ds = crashL l ds ++ crashL r (restD l ds) := by
  induction l generalizing ds with
  | nil => rfl
  | cons p q ih =>
    simp only [List.cons_append, crashL, restD]
    split <;> simp [ih]

theorem restD_append (l r : List (List UInt8 × Fil)) (ds : List Int) : restD (l ++ r) ds = restD r (restD l ds) := by
  induction l generalizing ds with
  | nil => rfl
  | cons p q ih =>
    simp only [List.cons_append, restD]
    split <;> simp [ih]

theorem keysL_crashL (l : List (List UInt8 × Fil)) (ds : List Int) : keysL (crashL l ds) = keysL l := by
  induction l generalizing ds with
  | nil => rfl
  | cons p q ih =>
    unfold keysL at *
    simp only [crashL]
    split <;> simp [ih]

theorem length_crashL (l : List (List UInt8 × Fil)) (ds : List Int) : (crashL l ds).length = l.length := by
  have := congrArg List.length (keysL_crashL l ds)
  unfold keysL at this
  simpa using this

/-- after j names -/
def midL (l : List (List UInt8 × Fil)) (ds : List Int) (j : Nat) : List (List UInt8 × Fil) := crashL (l.take j) ds ++ l.drop j

theorem midL_zero (l : List (List UInt8 × Fil)) (ds : List Int) : midL l ds 0 = l := rfl
theorem midL_all (l : List (List UInt8 × Fil)) (ds : List Int) (j : Nat) (h : l.length ≤ j) : midL l ds j = crashL l ds := by
  unfold midL
  rw [List.take_of_length_le h, List.drop_of_length_le h, List.append_nil]

theorem midL_split (l : List (List UInt8 × Fil)) (ds : List Int) (j : Nat) (h : j < l.length) : midL l ds j = crashL (l.take j) ds ++ l[j] :: l.drop (j + 1) := by
  unfold midL
  rw [List.drop_eq_getElem_cons h]

theorem midL_next (l : List (List UInt8 × Fil)) (ds : List Int) (j : Nat) (h : j < l.length) : midL l ds (j + 1) = crashL (l.take j) ds ++ crashL [l[j]] (restD (l.take j) ds) ++ l.drop (j + 1) := by
  unfold midL
  rw [List.take_succ_eq_append_getElem h, crashL_append]

theorem restD_next (l : List (List UInt8 × Fil)) (ds : List Int) (j : Nat) (h : j < l.length) : restD (l.take (j + 1)) ds = restD [l[j]] (restD (l.take j) ds) := by
  rw [List.take_succ_eq_append_getElem h, restD_append]

section
variable {α : Type}
theorem getL_mid {k : List UInt8} {f : α} : ∀ {A B : List (List UInt8 × α)}, (∀ p ∈ A, p.1 ≠ k) → getL k (A ++ (k, f) :: B) = some f
  | [], B, _ => by simp [getL]
  | y :: r, B, h => by
    have hy : (y.1 == k) = false := by simpa using h y (by simp)
    simp only [List.cons_append, getL, hy, Bool.false_eq_true, if_false]
    exact getL_mid (fun p hp => h p (by simp [hp]))

theorem setL_mid {k : List UInt8} {f a : α} {A B : List (List UInt8 × α)} (hA : ∀ p ∈ A, p.1 ≠ k) (hB : ∀ p ∈ B, p.1 ≠ k) : setL k a (A ++ (k, f) :: B) = A ++ (k, a) :: B := by
  have h1 := setL_other a hA
  have h2 := setL_other a hB
  unfold setL at *
  rw [List.map_append, List.map_cons, h1, h2]
  simp

theorem rise_mid {k : List UInt8} {f : α} {A B : List (List UInt8 × α)} (h : Rise (A ++ (k, f) :: B)) : (∀ p ∈ A, p.1 ≠ k) ∧ ∀ p ∈ B, p.1 ≠ k := by
  have h' := rise_ne h
  obtain ⟨_, h2, h3⟩ := List.pairwise_append.1 h'
  exact ⟨fun p hp => h3 p hp (k, f) (by simp), fun p hp e => (List.pairwise_cons.1 h2).1 p hp e.symm⟩
end

/-- The file at the next name, as it still is; and behind its turn. -/
theorem mid_get {l : List (List UInt8 × Fil)} {ds : List Int} {j : Nat} (h : j < l.length) (hr : Rise (midL l ds j)) : getL (l[j]).1 (midL l ds j) = some (l[j]).2 := by
  rw [midL_split l ds j h] at hr ⊢
  exact getL_mid (rise_mid (f := (l[j]).2) hr).1

theorem mid_stay {l : List (List UInt8 × Fil)} {ds : List Int} {j : Nat} (h : j < l.length) (he : (l[j]).2.data.length = (l[j]).2.safe) : midL l ds (j + 1) = midL l ds j ∧ restD (l.take (j + 1)) ds = restD (l.take j) ds := by
  rw [midL_next l ds j h, midL_split l ds j h, restD_next l ds j h]
  simp [crashL, restD, he]

theorem mid_tear {l : List (List UInt8 × Fil)} {ds : List Int} {j : Nat} (h : j < l.length) (hr : Rise (midL l ds j)) (he : (l[j]).2.data.length ≠ (l[j]).2.safe) :
    midL l ds (j + 1) = putL (l[j]).1 (tearF (l[j]).2 ((restD (l.take j) ds).headD 0)) (midL l ds j) ∧ restD (l.take (j + 1)) ds = (restD (l.take j) ds).tail := by
  refine ⟨?_, ?_⟩
  · rw [putL_set _ hr (mid_get h hr)]
    have hs := midL_split l ds j h
    rw [hs] at hr ⊢
    obtain ⟨hA, hB⟩ := rise_mid (f := (l[j]).2) hr
    refine Eq.trans ?_ (setL_mid (k := (l[j]).1) (f := (l[j]).2) hA hB).symm
    rw [midL_next l ds j h]
    simp [crashL, he]
  · rw [restD_next l ds j h]
    simp [restD, he]

theorem keysL_midL (l : List (List UInt8 × Fil)) (ds : List Int) (j : Nat) : keysL (midL l ds j) = keysL l := by
  unfold midL
  have := keysL_crashL (l.take j) ds
  unfold keysL at *
  rw [List.map_append, this, ← List.map_append, List.take_append_drop]

theorem restD_sub (l : List (List UInt8 × Fil)) : ∀ (ds : List Int), ∃ n, restD l ds = ds.drop n := by
  induction l with
  | nil => exact fun ds => ⟨0, rfl⟩
  | cons p q ih =>
    intro ds
    simp only [restD]
    split
    · exact ih ds
    · obtain ⟨n, hn⟩ := ih ds.tail
      exact ⟨n + 1, by rw [hn]; cases ds <;> simp⟩

theorem crashL_id : ∀ (l : List (List UInt8 × Fil)) (ds : List Int), (∀ p ∈ l, p.2.data.length = p.2.safe) → crashL l ds = l
  | [], _, _ => rfl
  | p :: r, ds, h => by
    unfold crashL
    rw [if_pos (h p (by simp)), crashL_id r ds (fun q hq => h q (by simp [hq]))]

theorem crashL_safe : ∀ (l : List (List UInt8 × Fil)) (ds : List Int), (∀ p ∈ l, p.2.safe ≤ p.2.data.length) → ∀ p ∈ crashL l ds, p.2.data.length = p.2.safe
  | [], _, _, p, hp => by cases hp
  | q :: r, ds, h, p, hp => by
    unfold crashL at hp
    split at hp
    · rename_i e
      rcases List.mem_cons.1 hp with rfl | hp
      · exact e
      · exact crashL_safe r ds (fun q hq => h q (by simp [hq])) p hp
    · rcases List.mem_cons.1 hp with rfl | hp
      · exact tearF_len _ _ (h q (by simp))
      · exact crashL_safe r ds.tail (fun q hq => h q (by simp [hq])) p hp

/-- another crash behind one changes nothing -/
theorem crashS_twice (s : Dsk) (ds ds' : List Int) (h : ∀ p ∈ s.fs, p.2.safe ≤ p.2.data.length) (h1 : ¬ 4096 < ds.length) (h2 : ¬ 4096 < ds'.length) : (crashS (crashS s ds) ds').fs = (crashS s ds).fs := by
  have e1 : (crashS s ds).fs = crashL s.fs ds := by unfold crashS; rw [if_neg h1]
  unfold crashS at e1 ⊢
  rw [if_neg h2, if_neg h1]
  exact crashL_id _ _ (crashL_safe _ _ h)

end Dk
end Go.Proofs.Ytbiombolpfhdlaa

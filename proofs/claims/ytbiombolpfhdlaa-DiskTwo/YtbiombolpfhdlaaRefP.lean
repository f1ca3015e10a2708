/- The reference disk's lists: a file put in its place, a file taken out. -/
import Derived.Test.YtbiombolpfhdlaaRefB
namespace Go.Proofs.Ytbiombolpfhdlaa
open Go.RowKit Go.Maps

section
variable {α : Type}

/-- where a name stands, or would -/
theorem place_of (k : List UInt8) : ∀ (l : List (List UInt8 × α)), ∃ t, t ≤ l.length ∧ (∀ i, (h : i < l.length) → i < t → bytesBefore (l[i]).1 k = true) ∧ ((h : t < l.length) → bytesBefore (l[t]).1 k = false)
  | [] => ⟨0, Nat.le_refl _, fun i h => by simp at h, fun h => by simp at h⟩
  | y :: r => by
    cases hb : bytesBefore y.1 k with
    | false => exact ⟨0, Nat.zero_le _, fun i _ h => by omega, fun _ => hb⟩
    | true =>
      obtain ⟨t, h1, h2, h3⟩ := place_of k r
      refine ⟨t + 1, by simpa using h1, fun i h hi => ?_, fun h => ?_⟩
      · cases i with
        | zero => exact hb
        | succ i => simpa using h2 i (by simpa using h) (by omega)
      · simpa using h3 (by simpa using h)

theorem insL_at {k : List UInt8} {a : α} : ∀ {l : List (List UInt8 × α)} {t : Nat}, t ≤ l.length → (∀ i, (h : i < l.length) → i < t → bytesBefore (l[i]).1 k = true) → ((h : t < l.length) → bytesBefore k (l[t]).1 = true) → Dk.insL (k, a) l = l.take t ++ (k, a) :: l.drop t
  | [], t, h, _, _ => by
    have : t = 0 := by simpa using h
    subst this
    rfl
  | y :: r, 0, _, _, h3 => by
    have := h3 (by simp)
    unfold Dk.insL
    rw [if_pos (by simpa using this)]
    rfl
  | y :: r, t + 1, h1, h2, h3 => by
    have hy : bytesBefore y.1 k = true := h2 0 (by simp) (by omega)
    have hn : bytesBefore k y.1 = false := by
      cases hc : bytesBefore k y.1 with
      | false => rfl
      | true =>
        have := WideShapes.bytes_trans _ _ _ hy hc
        rw [WideAt.bytes_irrefl] at this
        cases this
    unfold Dk.insL
    simp only [hn, Bool.false_eq_true, if_false]
    rw [insL_at (l := r) (t := t) (by simpa using h1) (fun i h hi => h2 (i + 1) (by simpa using h) (by omega)) (fun h => h3 (by simpa using h))]
    rfl

theorem put_new {k : List UInt8} (a : α) {l : List (List UInt8 × α)} (hr : Dk.Rise l) {t : Nat} (h1 : t ≤ l.length) (h2 : ∀ i, (h : i < l.length) → i < t → bytesBefore (l[i]).1 k = true) (h3 : (h : t < l.length) → bytesBefore (l[t]).1 k = false) (h4 : (h : t < l.length) → (l[t]).1 ≠ k) :
    Dk.putL k a l = l.take t ++ (k, a) :: l.drop t := by
  have hkt : (h : t < l.length) → bytesBefore k (l[t]).1 = true := fun h => by
    rcases WideAt.bytes_total _ _ (h4 h) with h' | h'
    · rw [h3 h] at h'; cases h'
    · exact h'
  have hne : ∀ p ∈ l, p.1 ≠ k := by
    intro p hp
    obtain ⟨i, hi, rfl⟩ := List.getElem_of_mem hp
    by_cases hit : i < t
    · intro e
      have := h2 i hi hit
      rw [e, WideAt.bytes_irrefl] at this
      cases this
    · by_cases e : i = t
      · subst e; exact h4 hi
      · have hlt : t < l.length := by omega
        have h5 : bytesBefore (l[t]).1 (l[i]).1 = true := List.pairwise_iff_getElem.1 hr t i hlt hi (by omega)
        intro e'
        have := WideShapes.bytes_trans _ _ _ (hkt hlt) h5
        rw [e', WideAt.bytes_irrefl] at this
        cases this
  unfold Dk.putL
  rw [Dk.delL_other hne]
  exact insL_at h1 h2 hkt

theorem setL_set {k : List UInt8} (a : α) {l : List (List UInt8 × α)} (hr : Dk.Rise l) {t : Nat} (ht : t < l.length) (hk : (l[t]).1 = k) : Dk.setL k a l = l.set t (k, a) := by
  apply List.ext_getElem?
  intro i
  unfold Dk.setL
  rw [List.getElem?_map, List.getElem?_set]
  by_cases hi : i < l.length
  · rw [List.getElem?_eq_getElem hi]
    by_cases e : t = i
    · subst e
      simp [hk, ht]
    · have hne : (l[i]).1 ≠ k := by
        intro e'
        have hap := List.pairwise_iff_getElem.1 (Dk.rise_ne hr)
        rcases Nat.lt_or_gt_of_ne e with h | h
        · exact hap t i ht hi h (hk.trans e'.symm)
        · exact hap i t hi ht h (e'.trans hk.symm)
      simp [e, hne]
  · rw [List.getElem?_eq_none (by omega)]
    simp
    omega

theorem put_old {k : List UInt8} (a : α) {l : List (List UInt8 × α)} (hr : Dk.Rise l) {t : Nat} (ht : t < l.length) (hk : (l[t]).1 = k) : Dk.putL k a l = l.set t (k, a) := by
  have hg : Dk.getL k l = some (l[t]).2 := by
    cases hg : Dk.getL k l with
    | none => exact absurd hk (Dk.getL_none hg _ (List.getElem_mem ht))
    | some b => rw [Dk.getL_unique hr hg (b := (l[t]).2) (by rw [← hk]; exact List.getElem_mem ht)]
  rw [Dk.putL_set a hr hg, setL_set a hr ht hk]

theorem del_at {k : List UInt8} {l : List (List UInt8 × α)} (hr : Dk.Rise l) {t : Nat} (ht : t < l.length) (hk : (l[t]).1 = k) : Dk.delL k l = l.take t ++ l.drop (t + 1) := by
  have hs : l = l.take t ++ l[t] :: l.drop (t + 1) := by rw [← List.drop_eq_getElem_cons ht, List.take_append_drop]
  have hr' : Dk.Rise (l.take t ++ ((l[t]).1, (l[t]).2) :: l.drop (t + 1)) := hs ▸ hr
  obtain ⟨hA, hB⟩ := Dk.rise_mid hr'
  have h1 := Dk.delL_other (k := k) (l := l.take t) (fun p hp => hk ▸ hA p hp)
  have h2 := Dk.delL_other (k := k) (l := l.drop (t + 1)) (fun p hp => hk ▸ hB p hp)
  unfold Dk.delL at *
  conv => lhs; rw [hs]
  rw [List.filter_append, List.filter_cons, h1, h2]
  simp [hk]
end

theorem rcells_append (a b : List (List UInt8 × Dk.Fil)) : rcells (a ++ b) = rcells a ++ rcells b := by unfold rcells; rw [List.flatMap_append]
theorem rcells_take (fs : List (List UInt8 × Dk.Fil)) (t : Nat) (h : t ≤ fs.length) : rcells (fs.take t) = (rcells fs).take (t * 3) := by
  have e : rcells fs = rcells (fs.take t) ++ rcells (fs.drop t) := by rw [← rcells_append, List.take_append_drop]
  rw [e, List.take_left' (by rw [rcells_length, List.length_take]; congr 1; omega)]
theorem rcells_drop (fs : List (List UInt8 × Dk.Fil)) (t : Nat) (h : t ≤ fs.length) : rcells (fs.drop t) = (rcells fs).drop (t * 3) := by
  have e : rcells fs = rcells (fs.take t) ++ rcells (fs.drop t) := by rw [← rcells_append, List.take_append_drop]
  rw [e, List.drop_left' (by rw [rcells_length, List.length_take]; congr 1; omega)]

theorem rcells_set : ∀ (fs : List (List UInt8 × Dk.Fil)) (t : Nat) (_ : t < fs.length) (p : List UInt8 × Dk.Fil),
    rcells (fs.set t p) = (((rcells fs).set (t * 3) (.string (bs p.1))).set (t * 3 + 1) (.string (bs p.2.data))).set (t * 3 + 2) (.int .i64 (p.2.safe : Int))
  | q :: r, 0, _, p => rfl
  | q :: r, t + 1, h, p => by
    have ih := rcells_set r t (by simpa using h) p
    have e : ∀ (x : List UInt8 × Dk.Fil) (y : List (List UInt8 × Dk.Fil)), rcells (x :: y) = rcell x ++ rcells y := fun _ _ => rfl
    rw [List.set_cons_succ, e, e, ih]
    have e0 : (t + 1) * 3 = t * 3 + 3 := by omega
    rw [e0]
    rfl

theorem ownsRow_setCell {w : World} {base : Nat} {e : TypeId} {size g n cap : Nat} {xs : List Value} (h : w.ownsRow base e size (.slice (some ⟨g, 0, none⟩) n cap) n xs) (j : Nat) (u : Value) :
    (w.setCell ⟨g, j, none⟩ u).ownsRow base e size (.slice (some ⟨g, 0, none⟩) n cap) n (xs.set j u) := by
  obtain ⟨h1, h2⟩ := h
  refine ⟨by simpa using h1, ?_⟩
  rcases h2 with ⟨h2, _⟩ | ⟨g', cap', cur, e1, hb, hg, hnc, hcm, hcs, ht⟩
  · cases h2
  · cases e1
    refine Or.inr ⟨g, cap, cur.setIfInBounds j u, rfl, hb, heap_setCell_same hg j u, hnc, hcm, by simpa using hcs, ?_⟩
    rw [Array.toList_setIfInBounds, List.take_set, ht]

end Go.Proofs.Ytbiombolpfhdlaa

/- Layer 13 in plain words: keys with values, rising by bytes; put, take, get, scan. Nothing here speaks of a program. -/
import Derived.Test.YtoknebbkpkcomaaNNode
namespace Go.Proofs.Ytoknebbkpkcomaa

def Rise (ks : List Kv) : Prop := ks.Pairwise (fun p q => bl p.1 q.1 = true)

def insK (k : ByteArray) (v : Int) : List Kv → List Kv
  | [] => [(k, v)]
  | p :: r => if bl p.1 k then p :: insK k v r else if p.1 = k then (k, v) :: r else (k, v) :: p :: r
def delK (k : ByteArray) (ks : List Kv) : List Kv := ks.filter fun p => decide (p.1 ≠ k)
def getK (k : ByteArray) : List Kv → Option Int
  | [] => none
  | p :: r => if p.1 = k then some p.2 else getK k r

theorem mem_insK {k : ByteArray} {v : Int} {q : Kv} : ∀ {ks : List Kv}, q ∈ insK k v ks → q = (k, v) ∨ q ∈ ks
  | [], h => Or.inl (List.mem_singleton.1 h)
  | p :: r, h => by
    unfold insK at h
    split at h
    · rcases List.mem_cons.1 h with rfl | h
      · exact Or.inr (List.mem_cons_self ..)
      · rcases mem_insK h with h | h
        · exact Or.inl h
        · exact Or.inr (List.mem_cons_of_mem _ h)
    · split at h
      · rcases List.mem_cons.1 h with h | h
        · exact Or.inl h
        · exact Or.inr (List.mem_cons_of_mem _ h)
      · rcases List.mem_cons.1 h with h | h
        · exact Or.inl h
        · exact Or.inr h

theorem Rise.ins {k : ByteArray} {v : Int} : ∀ {ks : List Kv}, Rise ks → Rise (insK k v ks)
  | [], _ => List.pairwise_singleton ..
  | p :: r, h => by
    obtain ⟨h1, h2⟩ := List.pairwise_cons.1 h
    unfold insK
    split
    · rename_i hp
      refine List.pairwise_cons.2 ⟨fun q hq => ?_, Rise.ins h2⟩
      rcases mem_insK hq with rfl | hq
      · exact hp
      · exact h1 q hq
    · rename_i hp
      split
      · rename_i e
        refine List.pairwise_cons.2 ⟨fun q hq => ?_, h2⟩
        have := h1 q hq
        rw [e] at this
        exact this
      · rename_i e
        have hk : bl k p.1 = true := by
          rcases bl_tot k p.1 with h | h | h
          · exact h
          · exact absurd h.symm e
          · exact absurd h hp
        refine List.pairwise_cons.2 ⟨fun q hq => ?_, h⟩
        rcases List.mem_cons.1 hq with rfl | hq
        · exact hk
        · exact bl_tr hk (h1 q hq)
theorem Rise.del {k : ByteArray} {ks : List Kv} (h : Rise ks) : Rise (delK k ks) := List.Pairwise.filter _ h

theorem getK_none {k : ByteArray} : ∀ {ks : List Kv}, getK k ks = none ↔ ∀ p ∈ ks, p.1 ≠ k
  | [] => by simp [getK]
  | p :: r => by
    unfold getK
    by_cases e : p.1 = k
    · rw [if_pos e]
      simp [e]
    · rw [if_neg e, getK_none]
      simp [e]
theorem getK_some {k : ByteArray} {v : Int} : ∀ {ks : List Kv}, Rise ks → (getK k ks = some v ↔ (k, v) ∈ ks)
  | [], _ => by simp [getK]
  | p :: r, h => by
    obtain ⟨h1, h2⟩ := List.pairwise_cons.1 h
    unfold getK
    by_cases e : p.1 = k
    · rw [if_pos e]
      constructor
      · intro hv
        cases hv
        rw [← e]
        exact List.mem_cons_self ..
      · intro hm
        rcases List.mem_cons.1 hm with hm | hm
        · rw [← hm]
        · have := h1 _ hm
          rw [e, bl_self] at this
          cases this
    · rw [if_neg e, getK_some h2]
      constructor
      · exact fun hm => List.mem_cons_of_mem _ hm
      · intro hm
        rcases List.mem_cons.1 hm with hm | hm
        · exact absurd (by rw [← hm]) e
        · exact hm
theorem getK_ins {k a : ByteArray} {v : Int} : ∀ {ks : List Kv}, Rise ks → getK a (insK k v ks) = if a = k then some v else getK a ks
  | [], _ => by
    unfold insK getK
    by_cases e : a = k
    · subst e; simp
    · rw [if_neg e, if_neg (fun h => e h.symm)]
      rfl
  | p :: r, h => by
    obtain ⟨h1, h2⟩ := List.pairwise_cons.1 h
    unfold insK
    split
    · rename_i hp
      show (if p.1 = a then some p.2 else getK a (insK k v r)) = _
      rw [getK_ins h2]
      by_cases e : a = k
      · subst e
        rw [if_neg (bl_ne hp), if_pos rfl]
        simp
      · rw [if_neg e, if_neg e]
        rfl
    · split
      · rename_i hp e
        show (if k = a then some v else getK a r) = if a = k then some v else (if p.1 = a then some p.2 else getK a r)
        by_cases ea : a = k
        · subst ea
          simp
        · rw [if_neg (fun h => ea h.symm), if_neg ea, if_neg (fun h => ea (by rw [← h, e]))]
      · show (if k = a then some v else getK a (p :: r)) = _
        by_cases ea : a = k
        · subst ea
          simp
        · rw [if_neg (fun h => ea h.symm), if_neg ea]
theorem getK_del {k a : ByteArray} : ∀ {ks : List Kv}, getK a (delK k ks) = if a = k then none else getK a ks
  | [] => by
    by_cases e : a = k
    · rw [if_pos e]; rfl
    · rw [if_neg e]; rfl
  | p :: r => by
    have ih := getK_del (k := k) (a := a) (ks := r)
    unfold delK at ih ⊢
    rw [List.filter_cons]
    by_cases e : p.1 = k
    · rw [if_neg (by simp [e]), ih]
      by_cases ea : a = k
      · rw [if_pos ea, if_pos ea]
      · rw [if_neg ea, if_neg ea]
        show getK a r = (if p.1 = a then some p.2 else getK a r)
        rw [if_neg (fun h => ea (by rw [← h, e]))]
    · rw [if_pos (by simp [e])]
      show (if p.1 = a then some p.2 else getK a (r.filter _)) = (if a = k then none else (if p.1 = a then some p.2 else getK a r))
      rw [ih]
      by_cases ea : a = k
      · subst ea
        rw [if_neg e]
        simp
      · rw [if_neg ea, if_neg ea]
/-- two that rise and hold the same are the same -/
theorem rise_ext : ∀ {A B : List Kv}, Rise A → Rise B → (∀ k, getK k A = getK k B) → A = B
  | [], [], _, _, _ => rfl
  | [], q :: B, _, _, h => by
    have := h q.1
    simp [getK] at this
  | p :: A, [], _, _, h => by
    have := h p.1
    simp [getK] at this
  | p :: A, q :: B, hA, hB, h => by
    obtain ⟨a1, a2⟩ := List.pairwise_cons.1 hA
    obtain ⟨b1, b2⟩ := List.pairwise_cons.1 hB
    have key : p.1 = q.1 := by
      rcases bl_tot p.1 q.1 with h1 | h1 | h1
      · have h2 := h p.1
        rw [show getK p.1 (p :: A) = some p.2 by simp [getK]] at h2
        have h3 := (getK_some hB).1 h2.symm
        rcases List.mem_cons.1 h3 with h3 | h3
        · rw [← h3]
        · have := bl_tr h1 (b1 _ h3)
          rw [bl_self] at this
          cases this
      · exact h1
      · have h2 := h q.1
        rw [show getK q.1 (q :: B) = some q.2 by simp [getK]] at h2
        have h3 := (getK_some hA).1 h2
        rcases List.mem_cons.1 h3 with h3 | h3
        · rw [← h3]
        · have := bl_tr h1 (a1 _ h3)
          rw [bl_self] at this
          cases this
    have hv : p.2 = q.2 := by
      have h2 := h p.1
      rw [show getK p.1 (p :: A) = some p.2 by simp [getK], key, show getK q.1 (q :: B) = some q.2 by simp [getK]] at h2
      exact Option.some.inj h2
    have hpq : p = q := Prod.ext key hv
    subst hpq
    rw [rise_ext a2 b2 (fun k => ?_)]
    have h2 := h k
    unfold getK at h2
    by_cases e : p.1 = k
    · subst e
      rw [getK_none.2 (fun x hx e => by have := a1 x hx; rw [e, bl_self] at this; cases this), getK_none.2 (fun x hx e => by have := b1 x hx; rw [e, bl_self] at this; cases this)]
    · rw [if_neg e, if_neg e] at h2
      exact h2

/-! ### by place -/
theorem insK_there {k : ByteArray} {v v0 : Int} : ∀ {ks : List Kv} {i : Nat}, Rise ks → ks[i]? = some (k, v0) → insK k v ks = ks.set i (k, v)
  | [], i, _, h => by cases h
  | p :: r, 0, h, hi => by
    simp at hi
    subst hi
    unfold insK
    rw [if_neg (by rw [bl_self]; simp), if_pos rfl]
    rfl
  | p :: r, i + 1, h, hi => by
    obtain ⟨h1, h2⟩ := List.pairwise_cons.1 h
    have hi' : r[i]? = some (k, v0) := by simpa using hi
    have := h1 _ (List.mem_of_getElem? hi')
    unfold insK
    rw [if_pos this, insK_there h2 hi']
    rfl
theorem insK_new {k : ByteArray} {v : Int} : ∀ {ks : List Kv} {i : Nat}, Rise ks → At k ks i → (∀ v, ks[i]? ≠ some (k, v)) → insK k v ks = ks.insertIdx i (k, v)
  | [], 0, _, _, _ => rfl
  | [], i + 1, _, h, _ => by have := h.le; simp at this
  | p :: r, 0, h, ha, hno => by
    have hp := ha.here p rfl
    unfold insK
    rw [if_neg (by rw [hp]; simp), if_neg (fun e => hno p.2 (by rw [← e]; rfl))]
    rfl
  | p :: r, i + 1, h, ha, hno => by
    obtain ⟨h1, h2⟩ := List.pairwise_cons.1 h
    have hp := ha.ahead 0 p (by omega) rfl
    have ha' : At k r i := ⟨by have := ha.le; simpa using this, fun j q hj hq => ha.ahead (j + 1) q (by omega) (by simpa using hq), fun q hq => ha.here q (by simpa using hq)⟩
    unfold insK
    rw [if_pos hp, insK_new h2 ha' (fun v hv => hno v (by simpa using hv))]
    rfl
theorem delK_at {k : ByteArray} {v : Int} : ∀ {ks : List Kv} {i : Nat}, Rise ks → ks[i]? = some (k, v) → delK k ks = ks.eraseIdx i
  | [], i, _, h => by cases h
  | p :: r, 0, h, hi => by
    obtain ⟨h1, h2⟩ := List.pairwise_cons.1 h
    simp at hi
    subst hi
    unfold delK
    rw [List.filter_cons, if_neg (by simp)]
    exact List.filter_eq_self.2 (fun q hq => by
      have := h1 q hq
      simp only [decide_eq_true_eq]
      exact (bl_ne this).symm)
  | p :: r, i + 1, h, hi => by
    obtain ⟨h1, h2⟩ := List.pairwise_cons.1 h
    have hi' : r[i]? = some (k, v) := by simpa using hi
    have := h1 _ (List.mem_of_getElem? hi')
    have ih := delK_at h2 hi'
    unfold delK at ih ⊢
    rw [List.filter_cons, if_pos (by simp; exact bl_ne this), ih]
    rfl

/-! ### scans -/
def inK (from_ to : ByteArray) (p : Kv) : Bool := !bl p.1 from_ && (decide (to = ⟨#[]⟩) || bl p.1 to)
def scanK (from_ to : ByteArray) (ks : List Kv) : List Kv := ks.filter (inK from_ to)
theorem bl_empty (a : ByteArray) : bl a ⟨#[]⟩ = false := by
  unfold bl
  rw [show (ByteArray.mk #[]).toList = [] by rw [Go.ByteArray.toList_eq]]
  cases a.toList <;> rfl
theorem filter_cut {P Q R : Kv → Bool} {c : Kv → Bool} : ∀ {ks : List Kv}, ks.Pairwise (fun p q => c q = true → c p = true) → (∀ p ∈ ks, R p = if c p then P p else Q p) → (∀ p ∈ ks, c p = false → P p = false) → (∀ p ∈ ks, c p = true → Q p = false) → ks.filter P ++ ks.filter Q = ks.filter R
  | [], _, _, _, _ => rfl
  | p :: r, hc, hR, hP, hQ => by
    obtain ⟨h1, h2⟩ := List.pairwise_cons.1 hc
    have ih := filter_cut h2 (fun q hq => hR q (List.mem_cons_of_mem _ hq)) (fun q hq => hP q (List.mem_cons_of_mem _ hq)) (fun q hq => hQ q (List.mem_cons_of_mem _ hq))
    have r1 := hR p (List.mem_cons_self ..)
    cases hcp : c p with
    | true =>
      rw [hcp] at r1
      have q1 := hQ p (List.mem_cons_self ..) hcp
      rw [List.filter_cons, List.filter_cons, List.filter_cons, r1, q1]
      simp only [if_true]
      cases P p with
      | true => simp [ih]
      | false => simp [ih]
    | false =>
      rw [hcp] at r1
      have p1 := hP p (List.mem_cons_self ..) hcp
      have hnone : r.filter P = [] := by
        rw [List.filter_eq_nil_iff]
        intro q hq
        have : c q = false := by
          cases hcq : c q with
          | false => rfl
          | true => rw [h1 q hq hcq] at hcp; cases hcp
        rw [hP q (List.mem_cons_of_mem _ hq) this]
        simp
      rw [hnone, List.nil_append] at ih
      rw [List.filter_cons, List.filter_cons, List.filter_cons, r1, p1, hnone, ih]
      simp
/-- a scan in parts: up to a key, and from it on -/
theorem scan_parts {from_ to at_ : ByteArray} {ks : List Kv} (h : Rise ks) (h0 : at_ ≠ ⟨#[]⟩) (h1 : bl at_ from_ = false) (h2 : to = ⟨#[]⟩ ∨ bl to at_ = false) : scanK from_ at_ ks ++ scanK at_ to ks = scanK from_ to ks := by
  have d0 : decide (at_ = ⟨#[]⟩) = false := decide_eq_false h0
  refine filter_cut (c := fun p => bl p.1 at_) (h.imp (fun hpq hq => bl_tr hpq hq)) (fun p _ => ?_) (fun p _ hc => ?_) (fun p _ hc => ?_)
  · by_cases hc : bl p.1 at_ = true
    · rw [if_pos hc]
      unfold inK
      rw [d0, hc, Bool.false_or]
      have : (decide (to = ⟨#[]⟩) || bl p.1 to) = true := by
        rcases h2 with h2 | h2
        · rw [decide_eq_true h2]; rfl
        · rcases bl_tot p.1 to with h3 | h3 | h3
          · rw [h3, Bool.or_true]
          · rw [← h3, hc] at h2; cases h2
          · rw [bl_tr h3 hc] at h2; cases h2
      rw [this]
    · rw [if_neg hc]
      unfold inK
      have hc' : bl p.1 at_ = false := by simpa using hc
      have : bl p.1 from_ = false := by
        cases h3 : bl p.1 from_ with
        | false => rfl
        | true =>
          rcases bl_tot p.1 at_ with h4 | h4 | h4
          · exact absurd h4 hc
          · rw [h4, h1] at h3; cases h3
          · rw [bl_tr h4 h3] at h1; cases h1
      rw [hc', this]
  · unfold inK
    rw [d0, hc, Bool.false_or, Bool.and_false]
  · unfold inK
    rw [hc]
    rfl

end Go.Proofs.Ytoknebbkpkcomaa

/- Layer 25 in plain words: names with keys, rising by bytes; challenges, proofs; what the calls tell. Nothing here speaks of a program. (Its first part by upure.py.) -/
import Derived.Test.YtibglhlhogfdnaaDoorQHex
import Derived.Laws.Cover1
namespace Go.Proofs.YtibglhlhogfdnaaDoor
namespace AP
open QP

/-! ### texts by bytes -/
theorem bl_irrefl : ∀ a : List UInt8, Op.bytesLess a a = false
  | [] => rfl
  | x :: a => by simp [Op.bytesLess, bl_irrefl a]
theorem bl_trans : ∀ a b c : List UInt8, Op.bytesLess a b = true → Op.bytesLess b c = true → Op.bytesLess a c = true
  | a, [], c => fun h _ => by cases a <;> simp [Op.bytesLess] at h
  | a, y :: b, [] => fun _ h => by simp [Op.bytesLess] at h
  | [], y :: b, z :: c => fun _ _ => by simp [Op.bytesLess]
  | x :: a, y :: b, z :: c => fun h k => by
    have ih := bl_trans a b c
    simp only [Op.bytesLess, Bool.or_eq_true, decide_eq_true_eq, Bool.and_eq_true, beq_iff_eq] at h k ⊢
    simp only [UInt8.lt_iff_toNat_lt] at h k ⊢
    rcases h with h | ⟨rfl, h⟩
    · rcases k with k | ⟨rfl, k⟩
      · left; omega
      · left; exact h
    · rcases k with k | ⟨rfl, k⟩
      · left; exact k
      · right; exact ⟨rfl, ih h k⟩
theorem bl_total : ∀ a b : List UInt8, Op.bytesLess a b = true ∨ a = b ∨ Op.bytesLess b a = true
  | [], [] => Or.inr (Or.inl rfl)
  | [], y :: b => by simp [Op.bytesLess]
  | x :: a, [] => by simp [Op.bytesLess]
  | x :: a, y :: b => by
    have ih := bl_total a b
    simp only [Op.bytesLess, Bool.or_eq_true, decide_eq_true_eq, Bool.and_eq_true, beq_iff_eq, List.cons.injEq]
    by_cases e : x = y
    · subst e
      rcases ih with h | h | h
      · exact Or.inl (Or.inr ⟨rfl, h⟩)
      · exact Or.inr (Or.inl ⟨rfl, h⟩)
      · exact Or.inr (Or.inr (Or.inr ⟨rfl, h⟩))
    · have : x.toNat ≠ y.toNat := fun q => e (UInt8.toNat_inj.1 q)
      simp only [UInt8.lt_iff_toNat_lt]
      omega
def bl (a b : ByteArray) : Bool := Op.bytesLess a.toList b.toList
theorem toList_inj {a b : ByteArray} (h : a.toList = b.toList) : a = b := by
  rw [Go.ByteArray.toList_eq, Go.ByteArray.toList_eq] at h
  cases a; cases b
  simpa using h
theorem bl_self (a : ByteArray) : bl a a = false := bl_irrefl _
theorem bl_tr {a b c : ByteArray} (h : bl a b = true) (k : bl b c = true) : bl a c = true := bl_trans _ _ _ h k
theorem bl_tot (a b : ByteArray) : bl a b = true ∨ a = b ∨ bl b a = true := by
  rcases bl_total a.toList b.toList with h | h | h
  · exact Or.inl h
  · exact Or.inr (Or.inl (toList_inj h))
  · exact Or.inr (Or.inr h)
theorem bl_asym {a b : ByteArray} (h : bl a b = true) : bl b a = false := by
  cases k : bl b a with
  | false => rfl
  | true => rw [← bl_self a, bl_tr h k]
theorem bl_ne {a b : ByteArray} (h : bl a b = true) : a ≠ b := fun e => by rw [e, bl_self] at h; cases h

abbrev Kv := ByteArray × ByteArray
/-- the place of a key: all ahead of it are less, the one there is not -/
structure At (k : ByteArray) (ks : List Kv) (i : Nat) : Prop where
  le : i ≤ ks.length
  ahead : ∀ j p, j < i → ks[j]? = some p → bl p.1 k = true
  here : ∀ p, ks[i]? = some p → bl p.1 k = false

theorem at_ex (k : ByteArray) : ∀ ks : List Kv, ∃ i, At k ks i
  | [] => ⟨0, Nat.le_refl _, fun _ _ h => (by omega), fun _ h => by cases h⟩
  | q :: ks => by
    cases hq : bl q.1 k with
    | false => exact ⟨0, Nat.zero_le _, fun _ _ h => (by omega), fun p hp => by
        simp at hp
        subst hp
        exact hq⟩
    | true =>
      obtain ⟨i, h1, h2, h3⟩ := at_ex k ks
      refine ⟨i + 1, by simp; omega, fun j p hj hp => ?_, fun p hp => h3 p (by simpa using hp)⟩
      cases j with
      | zero => simp at hp; subst hp; exact hq
      | succ j => exact h2 j p (by omega) (by simpa using hp)

theorem At.unique {k : ByteArray} {ks : List Kv} {i j : Nat} (h : At k ks i) (h' : At k ks j) : i = j := by
  rcases Nat.lt_trichotomy i j with hlt | rfl | hlt
  · have hi : i < ks.length := Nat.lt_of_lt_of_le hlt h'.le
    have h1 := h.here _ (List.getElem?_eq_getElem hi)
    rw [h'.ahead i _ hlt (List.getElem?_eq_getElem hi)] at h1
    cases h1
  · rfl
  · have hi : j < ks.length := Nat.lt_of_lt_of_le hlt h.le
    have h1 := h'.here _ (List.getElem?_eq_getElem hi)
    rw [h.ahead j _ hlt (List.getElem?_eq_getElem hi)] at h1
    cases h1

def Rise (ks : List Kv) : Prop := ks.Pairwise (fun p q => bl p.1 q.1 = true)

def insK (k : ByteArray) (v : ByteArray) : List Kv → List Kv
  | [] => [(k, v)]
  | p :: r => if bl p.1 k then p :: insK k v r else if p.1 = k then (k, v) :: r else (k, v) :: p :: r
def delK (k : ByteArray) (ks : List Kv) : List Kv := ks.filter fun p => decide (p.1 ≠ k)
def getK (k : ByteArray) : List Kv → Option ByteArray
  | [] => none
  | p :: r => if p.1 = k then some p.2 else getK k r

theorem mem_insK {k : ByteArray} {v : ByteArray} {q : Kv} : ∀ {ks : List Kv}, q ∈ insK k v ks → q = (k, v) ∨ q ∈ ks
  | [], h => Or.inl (List.mem_singleton.1 h)
  | p :: r, h => by
    unfold insK at h
    split at h
    · rcases List.mem_cons.1 h with rfl | h
      · exact Or.inr (List.mem_cons_self ..)
      · rcases mem_insK h with h | h
        · exact Or.inl h
        · exact Or.inr (List.mem_cons_of_mem _ h)
    · split at h
      · rcases List.mem_cons.1 h with h | h
        · exact Or.inl h
        · exact Or.inr (List.mem_cons_of_mem _ h)
      · rcases List.mem_cons.1 h with h | h
        · exact Or.inl h
        · exact Or.inr h

theorem Rise.ins {k : ByteArray} {v : ByteArray} : ∀ {ks : List Kv}, Rise ks → Rise (insK k v ks)
  | [], _ => List.pairwise_singleton ..
  | p :: r, h => by
    obtain ⟨h1, h2⟩ := List.pairwise_cons.1 h
    unfold insK
    split
    · rename_i hp
      refine List.pairwise_cons.2 ⟨fun q hq => ?_, Rise.ins h2⟩
      rcases mem_insK hq with rfl | hq
      · exact hp
      · exact h1 q hq
    · rename_i hp
      split
      · rename_i e
        refine List.pairwise_cons.2 ⟨fun q hq => ?_, h2⟩
        have := h1 q hq
        rw [e] at this
        exact this
      · rename_i e
        have hk : bl k p.1 = true := by
          rcases bl_tot k p.1 with h | h | h
          · exact h
          · exact absurd h.symm e
          · exact absurd h hp
        refine List.pairwise_cons.2 ⟨fun q hq => ?_, h⟩
        rcases List.mem_cons.1 hq with rfl | hq
        · exact hk
        · exact bl_tr hk (h1 q hq)
theorem Rise.del {k : ByteArray} {ks : List Kv} (h : Rise ks) : Rise (delK k ks) := List.Pairwise.filter _ h

theorem getK_none {k : ByteArray} : ∀ {ks : List Kv}, getK k ks = none ↔ ∀ p ∈ ks, p.1 ≠ k
  | [] => by simp [getK]
  | p :: r => by
    unfold getK
    by_cases e : p.1 = k
    · rw [if_pos e]
      simp [e]
    · rw [if_neg e, getK_none]
      simp [e]
theorem getK_some {k : ByteArray} {v : ByteArray} : ∀ {ks : List Kv}, Rise ks → (getK k ks = some v ↔ (k, v) ∈ ks)
  | [], _ => by simp [getK]
  | p :: r, h => by
    obtain ⟨h1, h2⟩ := List.pairwise_cons.1 h
    unfold getK
    by_cases e : p.1 = k
    · rw [if_pos e]
      constructor
      · intro hv
        cases hv
        rw [← e]
        exact List.mem_cons_self ..
      · intro hm
        rcases List.mem_cons.1 hm with hm | hm
        · rw [← hm]
        · have := h1 _ hm
          rw [e, bl_self] at this
          cases this
    · rw [if_neg e, getK_some h2]
      constructor
      · exact fun hm => List.mem_cons_of_mem _ hm
      · intro hm
        rcases List.mem_cons.1 hm with hm | hm
        · exact absurd (by rw [← hm]) e
        · exact hm
theorem getK_ins {k a : ByteArray} {v : ByteArray} : ∀ {ks : List Kv}, Rise ks → getK a (insK k v ks) = if a = k then some v else getK a ks
  | [], _ => by
    unfold insK getK
    by_cases e : a = k
    · subst e; simp
    · rw [if_neg e, if_neg (fun h => e h.symm)]
      rfl
  | p :: r, h => by
    obtain ⟨h1, h2⟩ := List.pairwise_cons.1 h
    unfold insK
    split
    · rename_i hp
      show (if p.1 = a then some p.2 else getK a (insK k v r)) = _
      rw [getK_ins h2]
      by_cases e : a = k
      · subst e
        rw [if_neg (bl_ne hp), if_pos rfl]
        simp
      · rw [if_neg e, if_neg e]
        rfl
    · split
      · rename_i hp e
        show (if k = a then some v else getK a r) = if a = k then some v else (if p.1 = a then some p.2 else getK a r)
        by_cases ea : a = k
        · subst ea
          simp
        · rw [if_neg (fun h => ea h.symm), if_neg ea, if_neg (fun h => ea (by rw [← h, e]))]
      · show (if k = a then some v else getK a (p :: r)) = _
        by_cases ea : a = k
        · subst ea
          simp
        · rw [if_neg (fun h => ea h.symm), if_neg ea]
theorem getK_del {k a : ByteArray} : ∀ {ks : List Kv}, getK a (delK k ks) = if a = k then none else getK a ks
  | [] => by
    by_cases e : a = k
    · rw [if_pos e]; rfl
    · rw [if_neg e]; rfl
  | p :: r => by
    have ih := getK_del (k := k) (a := a) (ks := r)
    unfold delK at ih ⊢
    rw [List.filter_cons]
    by_cases e : p.1 = k
    · rw [if_neg (by simp [e]), ih]
      by_cases ea : a = k
      · rw [if_pos ea, if_pos ea]
      · rw [if_neg ea, if_neg ea]
        show getK a r = (if p.1 = a then some p.2 else getK a r)
        rw [if_neg (fun h => ea (by rw [← h, e]))]
    · rw [if_pos (by simp [e])]
      show (if p.1 = a then some p.2 else getK a (r.filter _)) = (if a = k then none else (if p.1 = a then some p.2 else getK a r))
      rw [ih]
      by_cases ea : a = k
      · subst ea
        rw [if_neg e]
        simp
      · rw [if_neg ea, if_neg ea]
/-- two that rise and hold the same are the same -/
theorem rise_ext : ∀ {A B : List Kv}, Rise A → Rise B → (∀ k, getK k A = getK k B) → A = B
  | [], [], _, _, _ => rfl
  | [], q :: B, _, _, h => by
    have := h q.1
    simp [getK] at this
  | p :: A, [], _, _, h => by
    have := h p.1
    simp [getK] at this
  | p :: A, q :: B, hA, hB, h => by
    obtain ⟨a1, a2⟩ := List.pairwise_cons.1 hA
    obtain ⟨b1, b2⟩ := List.pairwise_cons.1 hB
    have key : p.1 = q.1 := by
      rcases bl_tot p.1 q.1 with h1 | h1 | h1
      · have h2 := h p.1
        rw [show getK p.1 (p :: A) = some p.2 by simp [getK]] at h2
        have h3 := (getK_some hB).1 h2.symm
        rcases List.mem_cons.1 h3 with h3 | h3
        · rw [← h3]
        · have := bl_tr h1 (b1 _ h3)
          rw [bl_self] at this
          cases this
      · exact h1
      · have h2 := h q.1
        rw [show getK q.1 (q :: B) = some q.2 by simp [getK]] at h2
        have h3 := (getK_some hA).1 h2
        rcases List.mem_cons.1 h3 with h3 | h3
        · rw [← h3]
        · have := bl_tr h1 (a1 _ h3)
          rw [bl_self] at this
          cases this
    have hv : p.2 = q.2 := by
      have h2 := h p.1
      rw [show getK p.1 (p :: A) = some p.2 by simp [getK], key, show getK q.1 (q :: B) = some q.2 by simp [getK]] at h2
      exact Option.some.inj h2
    have hpq : p = q := Prod.ext key hv
    subst hpq
    rw [rise_ext a2 b2 (fun k => ?_)]
    have h2 := h k
    unfold getK at h2
    by_cases e : p.1 = k
    · subst e
      rw [getK_none.2 (fun x hx e => by have := a1 x hx; rw [e, bl_self] at this; cases this), getK_none.2 (fun x hx e => by have := b1 x hx; rw [e, bl_self] at this; cases this)]
    · rw [if_neg e, if_neg e] at h2
      exact h2

/-! ### by place -/
theorem insK_there {k : ByteArray} {v v0 : ByteArray} : ∀ {ks : List Kv} {i : Nat}, Rise ks → ks[i]? = some (k, v0) → insK k v ks = ks.set i (k, v)
  | [], i, _, h => by cases h
  | p :: r, 0, h, hi => by
    simp at hi
    subst hi
    unfold insK
    rw [if_neg (by rw [bl_self]; simp), if_pos rfl]
    rfl
  | p :: r, i + 1, h, hi => by
    obtain ⟨h1, h2⟩ := List.pairwise_cons.1 h
    have hi' : r[i]? = some (k, v0) := by simpa using hi
    have := h1 _ (List.mem_of_getElem? hi')
    unfold insK
    rw [if_pos this, insK_there h2 hi']
    rfl
theorem insK_new {k : ByteArray} {v : ByteArray} : ∀ {ks : List Kv} {i : Nat}, Rise ks → At k ks i → (∀ v, ks[i]? ≠ some (k, v)) → insK k v ks = ks.insertIdx i (k, v)
  | [], 0, _, _, _ => rfl
  | [], i + 1, _, h, _ => by have := h.le; simp at this
  | p :: r, 0, h, ha, hno => by
    have hp := ha.here p rfl
    unfold insK
    rw [if_neg (by rw [hp]; simp), if_neg (fun e => hno p.2 (by rw [← e]; rfl))]
    rfl
  | p :: r, i + 1, h, ha, hno => by
    obtain ⟨h1, h2⟩ := List.pairwise_cons.1 h
    have hp := ha.ahead 0 p (by omega) rfl
    have ha' : At k r i := ⟨by have := ha.le; simpa using this, fun j q hj hq => ha.ahead (j + 1) q (by omega) (by simpa using hq), fun q hq => ha.here q (by simpa using hq)⟩
    unfold insK
    rw [if_pos hp, insK_new h2 ha' (fun v hv => hno v (by simpa using hv))]
    rfl
theorem delK_at {k : ByteArray} {v : ByteArray} : ∀ {ks : List Kv} {i : Nat}, Rise ks → ks[i]? = some (k, v) → delK k ks = ks.eraseIdx i
  | [], i, _, h => by cases h
  | p :: r, 0, h, hi => by
    obtain ⟨h1, h2⟩ := List.pairwise_cons.1 h
    simp at hi
    subst hi
    unfold delK
    rw [List.filter_cons, if_neg (by simp)]
    exact List.filter_eq_self.2 (fun q hq => by
      have := h1 q hq
      simp only [decide_eq_true_eq]
      exact (bl_ne this).symm)
  | p :: r, i + 1, h, hi => by
    obtain ⟨h1, h2⟩ := List.pairwise_cons.1 h
    have hi' : r[i]? = some (k, v) := by simpa using hi
    have := h1 _ (List.mem_of_getElem? hi')
    have ih := delK_at h2 hi'
    unfold delK at ih ⊢
    rw [List.filter_cons, if_pos (by simp; exact bl_ne this), ih]
    rfl


/-! ### what the calls tell -/
def nameB (b : UInt8) : Bool := (decide (97 ≤ b.toNat) && decide (b.toNat ≤ 122)) || (decide (48 ≤ b.toNat) && decide (b.toNat ≤ 57)) || decide (b.toNat = 46)
def nameOk (s : ByteArray) : Bool := decide (1 ≤ s.size) && decide (s.size ≤ 32) && s.data.toList.all nameB
def putE (K : List Kv) (n k : ByteArray) : Int := if nameOk n = false then 10 else if k.size < 1 ∨ 64 < k.size ∨ (getK n K = none ∧ 4096 ≤ K.length) then 2 else 0
def putK (K : List Kv) (n k : ByteArray) : List Kv := if putE K n k = 0 then insK n k K else K
def takeE (K : List Kv) (n : ByteArray) : Int := if getK n K = none then 5 else 0
def le8 (n : Nat) : List Nat := [n % 256, n / 256 % 256, n / 65536 % 256, n / 16777216 % 256, n / 4294967296 % 256, n / 1099511627776 % 256, n / 281474976710656 % 256, n / 72057594037927936 % 256]
def word : List Nat := [99, 104, 97, 108, 108, 101, 110, 103, 101]
/-- the challenge of a draw and a number (as a number of 64 bits) -/
def chal (d n : Nat) : ByteArray := ofN (dig (word ++ le8 d ++ le8 n))
def proof (key name c : ByteArray) : ByteArray := ofN (mac (nb key) (nb name ++ 0 :: nb c))
def checkE (K : List Kv) (n c p : ByteArray) : Int := match getK n K with
  | none => 250
  | some k => if p = proof k n c then 0 else 250
theorem chal_size (d n : Nat) : (chal d n).size = 32 := by unfold chal; rw [ofN_size, dig_length]
theorem proof_size (k n c : ByteArray) : (proof k n c).size = 32 := by unfold proof; rw [ofN_size]; exact dig_length _
theorem checkE_none {K : List Kv} {n : ByteArray} (h : getK n K = none) (c p : ByteArray) : checkE K n c p = 250 := by unfold checkE; rw [h]
theorem checkE_yes {K : List Kv} {n k : ByteArray} (h : getK n K = some k) (c : ByteArray) : checkE K n c (proof k n c) = 0 := by unfold checkE; rw [h]; exact if_pos rfl
theorem checkE_no {K : List Kv} {n k p : ByteArray} (h : getK n K = some k) {c : ByteArray} (hp : p ≠ proof k n c) : checkE K n c p = 250 := by unfold checkE; rw [h]; exact if_neg hp
theorem nameOk_size {s : ByteArray} (h : nameOk s = true) : 1 ≤ s.size ∧ s.size ≤ 32 := by
  unfold nameOk at h
  simp only [Bool.and_eq_true, decide_eq_true_eq] at h
  exact h.1
theorem putE_cases (K : List Kv) (n k : ByteArray) : putE K n k = 10 ∨ putE K n k = 2 ∨ (putE K n k = 0 ∧ nameOk n = true ∧ 1 ≤ k.size ∧ k.size ≤ 64 ∧ (getK n K = none → K.length < 4096)) := by
  unfold putE
  split
  · exact Or.inl rfl
  · next h1 =>
    split
    · exact Or.inr (Or.inl rfl)
    · next h2 =>
      refine Or.inr (Or.inr ⟨rfl, by simpa using h1, by omega, by omega, fun h => ?_⟩)
      rcases Nat.lt_or_ge K.length 4096 with h3 | h3
      · exact h3
      · exact absurd (Or.inr (Or.inr ⟨h, h3⟩)) h2
theorem putK_ok {K : List Kv} {n k : ByteArray} (h : putE K n k = 0) : putK K n k = insK n k K := by unfold putK; rw [if_pos h]
theorem putK_no {K : List Kv} {n k : ByteArray} (h : putE K n k ≠ 0) : putK K n k = K := by unfold putK; rw [if_neg h]
end AP
end Go.Proofs.YtibglhlhogfdnaaDoor

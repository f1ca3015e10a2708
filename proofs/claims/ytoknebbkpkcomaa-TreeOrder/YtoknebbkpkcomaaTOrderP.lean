/- TreeOrder in plain words: what the two trees and the map of last places hold. -/
import Derived.Test.YtoknebbkpkcomaaTMove
import Derived.Test.YtoknebbkpkcomaaNMap
namespace Go.Proofs.Ytoknebbkpkcomaa

theorem keys_getK {k : ByteArray} {M : List Kv} : k ∉ M.map (·.1) ↔ getK k M = none := by
  rw [getK_none]
  constructor
  · exact fun h p hp e => h (List.mem_map.2 ⟨p, hp, e⟩)
  · intro h hm
    obtain ⟨p, hp, e⟩ := List.mem_map.1 hm
    exact h p hp e
theorem hasK_false {k : ByteArray} {M : List Kv} (h : getK k M = none) : hasK k M = false := by
  cases e : hasK k M with
  | false => rfl
  | true => exact absurd (hasK_iff.1 e) (keys_getK.2 h)
theorem hasK_true {k : ByteArray} {v : Int} {M : List Kv} (h : getK k M = some v) : hasK k M = true := by
  cases e : hasK k M with
  | true => rfl
  | false =>
    have : k ∉ M.map (·.1) := fun hm => by rw [hasK_iff.2 hm] at e; cases e
    rw [keys_getK.1 this] at h
    cases h

theorem insK_putL {M : List Kv} (h : Rise M) (k : ByteArray) (v : Int) : PutL M (insK k v M) k v := by
  refine ⟨?_, fun a ha => ?_, fun a b hab => ?_⟩
  · cases e : getK k M with
    | none => rw [hasK_false e, length_ins_new h e]; rfl
    | some v0 => rw [hasK_true e, length_ins_old h e]; rfl
  · have := keys_getK.1 ha
    rw [getK_ins h] at this
    by_cases e : a = k
    · rw [if_pos e] at this; cases this
    · rw [if_neg e] at this
      exact ⟨e, keys_getK.2 this⟩
  · have := (getK_some (Rise.ins h)).2 hab
    rw [getK_ins h] at this
    by_cases e : a = k
    · rw [if_pos e] at this
      exact Or.inl ⟨e, (Option.some.inj this).symm⟩
    · rw [if_neg e] at this
      exact Or.inr ⟨e, (getK_some h).1 this⟩

/-- a put of a key that has room -/
theorem putK_room {K : List Kv} (h : Rise K) (hl : K.length < 4096) (k : ByteArray) (v : Int) : ∃ K' was there e, PutK K k v K' was there e ∧ K'.length ≤ K.length + 1 ∧ (k.size ≤ 4096 → K' = insK k v K) ∧ (4096 < k.size → K' = K) := by
  by_cases hk : 4096 < k.size
  · exact ⟨K, 0, false, 2, Or.inl ⟨hk, rfl, rfl, rfl, rfl⟩, by omega, fun h => by omega, fun _ => rfl⟩
  · cases hg : getK k K with
    | some v0 => exact ⟨_, v0, true, 0, Or.inr (Or.inl ⟨by omega, hg, rfl, rfl, rfl⟩), by rw [length_ins_old h hg]; omega, fun _ => rfl, fun h => absurd h hk⟩
    | none => exact ⟨_, 0, false, 0, Or.inr (Or.inr (Or.inr ⟨by omega, hg, hl, rfl, rfl, rfl, rfl⟩)), by rw [length_ins_new h hg]; omega, fun _ => rfl, fun h => absurd h hk⟩

/-- the first tree, and the map, behind the first j keys -/
structure AInv (K0 : List ByteArray) (j : Nat) (M A : List Kv) : Prop where
  rise : Rise M
  mem : ∀ k, getK k M ≠ none ↔ k ∈ K0.take j
  same : ∀ k, getK k A = if k.size ≤ 4096 then getK k M else none
  few : A.length ≤ j
  num : ∀ k v, getK k M = some v → 0 ≤ v ∧ v < 150
theorem AInv.zero (K0 : List ByteArray) : AInv K0 0 [] [] :=
  ⟨List.Pairwise.nil, fun k => by simp [getK], fun k => by simp [getK], Nat.le_refl _, fun k v h => by cases h⟩
theorem AInv.put {K0 : List ByteArray} {j : Nat} {M A : List Kv} (h : AInv K0 j M A) (hA : Rise A) {k : ByteArray} (hk : K0[j]? = some k) (hj : j < 150) : ∃ A' was th e, PutK A k (j : Int) A' was th e ∧ AInv K0 (j + 1) (insK k (j : Int) M) A' := by
  have hf := h.few
  obtain ⟨A', was, th, e, hp, hl, h1, h2⟩ := putK_room hA (by omega) k (j : Int)
  refine ⟨A', was, th, e, hp, h.rise.ins, fun a => ?_, fun a => ?_, by omega, fun a v hv => ?_⟩
  · rw [getK_ins h.rise, List.take_add_one, hk, List.mem_append]
    by_cases ea : a = k
    · simp [ea]
    · rw [if_neg ea, h.mem a]
      simp [ea]
  · rw [getK_ins h.rise]
    by_cases hs : k.size ≤ 4096
    · rw [h1 hs, getK_ins hA, h.same a]
      by_cases ea : a = k
      · subst ea
        rw [if_pos rfl, if_pos hs, if_pos rfl]
      · rw [if_neg ea, if_neg ea]
    · rw [h2 (by omega), h.same a]
      by_cases ea : a = k
      · subst ea
        rw [if_neg hs, if_neg hs]
      · rw [if_neg ea]
  · rw [getK_ins h.rise] at hv
    by_cases ea : a = k
    · rw [if_pos ea] at hv
      have := Option.some.inj hv
      omega
    · rw [if_neg ea] at hv
      exact h.num a v hv

structure B2 (O : List ByteArray) (j : Nat) (B : List Kv) : Prop where
  mem : ∀ k, getK k B ≠ none → k.size ≤ 4096 ∧ k ∈ O
  few : B.length ≤ j
theorem B2.zero (O : List ByteArray) : B2 O 0 [] := ⟨fun _ h => absurd rfl h, Nat.le_refl _⟩
theorem B2.put {O : List ByteArray} {j : Nat} {B : List Kv} (h : B2 O j B) (hB : Rise B) {k : ByteArray} (hk : k ∈ O) (hj : j < 100) : ∃ B' was th e, PutK B k (-1) B' was th e ∧ B2 O (j + 1) B' := by
  have hf := h.few
  obtain ⟨B', was, th, e, hp, hl, h1, h2⟩ := putK_room hB (by omega) k (-1)
  refine ⟨B', was, th, e, hp, fun a ha => ?_, by omega⟩
  by_cases hs : k.size ≤ 4096
  · rw [h1 hs, getK_ins hB] at ha
    by_cases ea : a = k
    · subst ea; exact ⟨hs, hk⟩
    · rw [if_neg ea] at ha; exact h.mem a ha
  · rw [h2 (by omega)] at ha
    exact h.mem a ha

structure B3 (K0 O : List ByteArray) (M : List Kv) (n i : Nat) (B : List Kv) : Prop where
  old : ∀ k, getK k B ≠ none → k.size ≤ 4096 ∧ (k ∈ O ∨ getK k M ≠ none)
  new : ∀ (j : Nat) k, i ≤ j → j < n → K0[j]? = some k → k.size ≤ 4096 → getK k B = getK k M
  few : B.length + i ≤ 100 + n
theorem B2.three {K0 O : List ByteArray} {M B : List Kv} {j : Nat} (h : B2 O j B) (hj : j ≤ 100) (n : Nat) : B3 K0 O M n n B :=
  ⟨fun k hk => ⟨(h.mem k hk).1, Or.inl (h.mem k hk).2⟩, fun j k h1 h2 => by omega, by have := h.few; omega⟩
theorem B3.put {K0 O : List ByteArray} {M B : List Kv} {n i : Nat} (h : B3 K0 O M n (i + 1) B) (hB : Rise B) {k : ByteArray} {v : Int} (hk : K0[i]? = some k) (hM : getK k M = some v) (hn : n ≤ 150) : ∃ B' was th e, PutK B k v B' was th e ∧ B3 K0 O M n i B' := by
  have hf := h.few
  obtain ⟨B', was, th, e, hp, hl, h1, h2⟩ := putK_room hB (by omega) k v
  refine ⟨B', was, th, e, hp, fun a ha => ?_, fun j a hj hjn hja hs' => ?_, by omega⟩
  · by_cases hs : k.size ≤ 4096
    · rw [h1 hs, getK_ins hB] at ha
      by_cases ea : a = k
      · subst ea; exact ⟨hs, Or.inr (by rw [hM]; simp)⟩
      · rw [if_neg ea] at ha; exact h.old a ha
    · rw [h2 (by omega)] at ha
      exact h.old a ha
  · by_cases ea : a = k
    · subst ea
      rw [h1 hs', getK_ins hB, if_pos rfl, hM]
    · have hji : i + 1 ≤ j := by
        rcases Nat.lt_or_ge i j with hh | hh
        · exact hh
        · have : j = i := by omega
          subst this
          rw [hk] at hja
          exact absurd (Option.some.inj hja).symm ea
      have hh := h.new j a hji hjn hja hs'
      by_cases hs : k.size ≤ 4096
      · rw [h1 hs, getK_ins hB, if_neg ea, hh]
      · rw [h2 (by omega), hh]

structure B4 (O : List ByteArray) (M : List Kv) (j : Nat) (B : List Kv) : Prop where
  yes : ∀ k, getK k M ≠ none → k.size ≤ 4096 → getK k B = getK k M
  no : ∀ k, getK k M = none → getK k B ≠ none → ∃ i, j ≤ i ∧ O[i]? = some k
  short : ∀ k, getK k B ≠ none → k.size ≤ 4096
theorem B3.four {K0 O : List ByteArray} {M A B : List Kv} {n : Nat} (h : B3 K0 O M n 0 B) (hA : AInv K0 n M A) : B4 O M 0 B := by
  refine ⟨fun k hk hs => ?_, fun k hk hb => ?_, fun k hb => (h.old k hb).1⟩
  · obtain ⟨j, hj⟩ := List.getElem?_of_mem ((hA.mem k).1 hk)
    have hjn : j < n := by
      have := (List.getElem?_eq_some_iff.1 hj).1
      rw [List.length_take] at this
      omega
    rw [List.getElem?_take_of_lt hjn] at hj
    exact h.new j k (Nat.zero_le _) hjn hj hs
  · rcases (h.old k hb).2 with hm | hm
    · obtain ⟨i, hi⟩ := List.getElem?_of_mem hm
      exact ⟨i, Nat.zero_le _, hi⟩
    · exact absurd hk hm
theorem B4.skip {O : List ByteArray} {M B : List Kv} {j : Nat} (h : B4 O M j B) {k : ByteArray} (hk : O[j]? = some k) (hM : getK k M ≠ none) : B4 O M (j + 1) B := by
  refine ⟨h.yes, fun a ha hb => ?_, h.short⟩
  obtain ⟨i, hi, hia⟩ := h.no a ha hb
  refine ⟨i, ?_, hia⟩
  rcases Nat.lt_or_ge j i with hh | hh
  · exact hh
  · have : i = j := by omega
    subst this
    rw [hk] at hia
    rw [Option.some.inj hia] at hM
    exact absurd ha hM
theorem B4.take {O : List ByteArray} {M B : List Kv} {j : Nat} (h : B4 O M j B) {k : ByteArray} (hk : O[j]? = some k) (hM : getK k M = none) : ∃ B' was e, TakeK B k B' was e ∧ B4 O M (j + 1) B' := by
  have key : ∀ B', (∀ a, getK a B' = if a = k then none else getK a B) → B4 O M (j + 1) B' := fun B' hB' => by
    refine ⟨fun a ha hs => ?_, fun a ha hb => ?_, fun a hb => ?_⟩
    · rw [hB', if_neg (fun e => ha (by rw [e]; exact hM))]
      exact h.yes a ha hs
    · rw [hB'] at hb
      by_cases ea : a = k
      · rw [if_pos ea] at hb; exact absurd rfl hb
      · rw [if_neg ea] at hb
        obtain ⟨i, hi, hia⟩ := h.no a ha hb
        refine ⟨i, ?_, hia⟩
        rcases Nat.lt_or_ge j i with hh | hh
        · exact hh
        · have : i = j := by omega
          subst this
          rw [hk] at hia
          exact absurd (Option.some.inj hia).symm ea
    · rw [hB'] at hb
      by_cases ea : a = k
      · rw [if_pos ea] at hb; exact absurd rfl hb
      · rw [if_neg ea] at hb; exact h.short a hb
  cases hg : getK k B with
  | none => exact ⟨B, 0, 5, Or.inl ⟨hg, rfl, rfl, rfl⟩, key B fun a => by
      by_cases ea : a = k
      · rw [if_pos ea, ea, hg]
      · rw [if_neg ea]⟩
  | some v => exact ⟨delK k B, v, 0, Or.inr ⟨hg, rfl, rfl⟩, key _ fun a => getK_del⟩
theorem B4.done {K0 O : List ByteArray} {M A B : List Kv} {n j : Nat} (h : B4 O M j B) (hj : O.length ≤ j) (hA : AInv K0 n M A) (rA : Rise A) (rB : Rise B) : A = B := by
  refine rise_ext rA rB fun k => ?_
  rw [hA.same k]
  by_cases hs : k.size ≤ 4096
  · rw [if_pos hs]
    cases hg : getK k M with
    | some v => rw [h.yes k (by rw [hg]; simp) hs, hg]
    | none =>
      cases hb : getK k B with
      | none => rfl
      | some v =>
        obtain ⟨i, hi, hia⟩ := h.no k hg (by rw [hb]; simp)
        have := (List.getElem?_eq_some_iff.1 hia).1
        omega
  · rw [if_neg hs]
    cases hb : getK k B with
    | none => rfl
    | some v => exact absurd (h.short k (by rw [hb]; simp)) hs

end Go.Proofs.Ytoknebbkpkcomaa

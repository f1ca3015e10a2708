/- SchemaOrder, plainly: in whatever order schemas are created, and another dropped, the catalogue is the same. -/
import Derived.Test.YtnboanlhdllhnaaGreatZEncode
namespace Go.Proofs.YtnboanlhdllhnaaGreat

section
variable {α : Type}
theorem mem_get {l : List (List UInt8 × α)} (h : Dk.Rise l) {k : List UInt8} {a : α} : (k, a) ∈ l ↔ Dk.getL k l = some a := ⟨getL_of_mem h, Dk.getL_mem⟩

theorem rise_ext : ∀ {l l' : List (List UInt8 × α)}, Dk.Rise l → Dk.Rise l' → (∀ p, p ∈ l ↔ p ∈ l') → l = l'
  | [], [], _, _, _ => rfl
  | [], y :: s, _, _, h => by have := (h y).2 (List.mem_cons_self ..); cases this
  | x :: r, [], _, _, h => by have := (h x).1 (List.mem_cons_self ..); cases this
  | x :: r, y :: s, hl, hl', h => by
    obtain ⟨h1, h2⟩ := List.pairwise_cons.1 hl
    obtain ⟨h3, h4⟩ := List.pairwise_cons.1 hl'
    have irr : ∀ p : List UInt8 × α, bytesBefore p.1 p.1 = true → False := fun p hp => by rw [WideAt.bytes_irrefl] at hp; cases hp
    have hxy : x = y := by
      rcases List.mem_cons.1 ((h x).1 (List.mem_cons_self ..)) with e | hx
      · exact e
      · rcases List.mem_cons.1 ((h y).2 (List.mem_cons_self ..)) with e | hy
        · exact e.symm
        · exact absurd (WideShapes.bytes_trans _ _ _ (h1 y hy) (h3 x hx)) (fun e => irr x e)
    subst hxy
    have hx1 : x ∉ r := fun hx => irr x (h1 x hx)
    have hx2 : x ∉ s := fun hx => irr x (h3 x hx)
    rw [rise_ext h2 h4 (fun p => ?_)]
    constructor
    · intro hp
      rcases List.mem_cons.1 ((h p).1 (List.mem_cons_of_mem _ hp)) with e | e
      · rw [e] at hp; exact absurd hp hx1
      · exact e
    · intro hp
      rcases List.mem_cons.1 ((h p).2 (List.mem_cons_of_mem _ hp)) with e | e
      · rw [e] at hp; exact absurd hp hx2
      · exact e

theorem less_total (a b : List UInt8) : bytesBefore a b = true ∨ a = b ∨ bytesBefore b a = true := by
  rw [Dk.before_less, Dk.before_less]
  exact bl_total a b

theorem insL_rise (x : List UInt8 × α) : ∀ {l : List (List UInt8 × α)}, Dk.Rise l → (∀ p ∈ l, p.1 ≠ x.1) → Dk.Rise (Dk.insL x l)
  | [], _, _ => List.pairwise_singleton _ _
  | y :: r, h, hn => by
    obtain ⟨h1, h2⟩ := List.pairwise_cons.1 h
    unfold Dk.insL
    split
    · rename_i hb
      refine List.pairwise_cons.2 ⟨fun p hp => ?_, h⟩
      rcases List.mem_cons.1 hp with rfl | hp
      · exact hb
      · exact WideShapes.bytes_trans _ _ _ hb (h1 p hp)
    · rename_i hb
      refine List.pairwise_cons.2 ⟨fun p hp => ?_, insL_rise x h2 (fun p hp => hn p (List.mem_cons_of_mem _ hp))⟩
      rcases Dk.mem_insL.1 hp with rfl | hp
      · rcases less_total y.1 p.1 with h | h | h
        · exact h
        · exact absurd h (hn y (List.mem_cons_self ..))
        · exact absurd h hb
      · exact h1 p hp
theorem delL_rise {l : List (List UInt8 × α)} (h : Dk.Rise l) (k : List UInt8) : Dk.Rise (Dk.delL k l) := h.filter _
end

/-- catalogues as they come up: rising, under their own names -/
structure CatOk (L : Cat) : Prop where
  rise : Dk.Rise L
  own : ∀ p ∈ L, p.1 = kb p.2.nm ∧ p.2.may = true

theorem crE_zero {L : Cat} {T : Tab} : crE L T = 0 ↔ T.may = true ∧ Dk.getL (kb T.nm) L = none ∧ L.length < 4096 := by
  unfold crE
  cases hm : T.may with
  | false => simp
  | true =>
    cases hg : Dk.getL (kb T.nm) L with
    | some a => simp
    | none =>
      by_cases h : 4096 ≤ L.length
      · simp [h]
      · simp [h]; omega

theorem crL_mem {L : Cat} {T : Tab} (p : List UInt8 × Tab) : p ∈ crL L T ↔ p ∈ L ∨ (crE L T = 0 ∧ p = (kb T.nm, T)) := by
  unfold crL
  by_cases h : crE L T = 0
  · rw [if_pos h]
    have hn := (crE_zero.1 h).2.1
    unfold Dk.putL
    rw [Dk.mem_insL, Dk.delL_other (Dk.getL_none hn)]
    constructor
    · rintro (e | e)
      · exact Or.inr ⟨h, e⟩
      · exact Or.inl e
    · rintro (e | ⟨_, e⟩)
      · exact Or.inr e
      · exact Or.inl e
  · rw [if_neg h]
    exact ⟨Or.inl, fun e => e.elim id (fun e => absurd e.1 h)⟩
theorem crL_length (L : Cat) (T : Tab) : (crL L T).length ≤ L.length + 1 := by
  unfold crL
  split
  · rename_i h
    have hn := (crE_zero.1 h).2.1
    unfold Dk.putL
    rw [Dk.length_insL, Dk.delL_other (Dk.getL_none hn)]
    exact Nat.le_refl _
  · omega
theorem CatOk.create {L : Cat} (h : CatOk L) (T : Tab) : CatOk (crL L T) := by
  refine ⟨?_, fun p hp => ?_⟩
  · unfold crL
    split
    · rename_i he
      have hn := (crE_zero.1 he).2.1
      unfold Dk.putL
      rw [Dk.delL_other (Dk.getL_none hn)]
      exact insL_rise _ h.rise (fun p hp => Dk.getL_none hn p hp)
    · exact h.rise
  · rcases (crL_mem p).1 hp with hp | ⟨he, rfl⟩
    · exact h.own p hp
    · exact ⟨rfl, (crE_zero.1 he).1⟩
theorem CatOk.drop {L : Cat} (h : CatOk L) (k : ByteArray) : CatOk (drL L k) := ⟨delL_rise h.rise _, fun p hp => h.own p (Dk.mem_delL.1 hp).1⟩
theorem catOk_nil : CatOk [] := ⟨List.Pairwise.nil, (fun _ h => by cases h)⟩

/-- the schemas that were kept, one behind the other: no two of one name, none of the name that is dropped -/
structure InOk (drop : ByteArray) (I : List Tab) : Prop where
  nodup : (I.map (·.nm)).Nodup
  ne : ∀ T ∈ I, T.nm ≠ drop
  few : I.length ≤ 20

/-- the one that is dropped again -/
def extra (drop : ByteArray) : Tab := ⟨drop, [(⟨#[97]⟩, 2)], 1, []⟩

/-- what of some schemas is in a catalogue -/
def Has (L : Cat) (M : List Tab) : Prop := ∀ p, p ∈ L ↔ p.2 ∈ M ∧ p.2.may = true ∧ p.1 = kb p.2.nm

theorem nm_inj {I : List Tab} (h : (I.map (·.nm)).Nodup) {a b : Tab} (ha : a ∈ I) (hb : b ∈ I) (e : a.nm = b.nm) : a = b := by
  obtain ⟨i, hi, rfl⟩ := List.getElem_of_mem ha
  obtain ⟨j, hj, rfl⟩ := List.getElem_of_mem hb
  have := List.pairwise_iff_getElem.1 h
  rcases Nat.lt_trichotomy i j with h1 | h1 | h1
  · exact absurd (by rw [List.getElem_map, List.getElem_map]; exact e) (this i j (by simpa using hi) (by simpa using hj) h1)
  · subst h1; rfl
  · exact absurd (by rw [List.getElem_map, List.getElem_map]; exact e.symm) (this j i (by simpa using hj) (by simpa using hi) h1)

theorem Has.step {L : Cat} {M : List Tab} (h : Has L M) (hl : L.length < 4096) {T : Tab} (hn : ∀ x ∈ M, x.nm ≠ T.nm) : Has (crL L T) (T :: M) := fun p => by
  have hno : Dk.getL (kb T.nm) L = none := by
    cases hg : Dk.getL (kb T.nm) L with
    | none => rfl
    | some a =>
      obtain ⟨h1, _, h3⟩ := (h _).1 (Dk.getL_mem hg)
      exact absurd (kb_inj h3.symm) (hn a h1)
  rw [crL_mem, h p]
  constructor
  · rintro (⟨h1, h2, h3⟩ | ⟨he, rfl⟩)
    · exact ⟨List.mem_cons_of_mem _ h1, h2, h3⟩
    · exact ⟨List.mem_cons_self .., (crE_zero.1 he).1, rfl⟩
  · rintro ⟨h1, h2, h3⟩
    rcases List.mem_cons.1 h1 with e | h1
    · refine Or.inr ⟨crE_zero.2 ⟨by rw [← e]; exact h2, hno, hl⟩, ?_⟩
      cases p
      simp only at e h3
      rw [h3, e]
    · exact Or.inl ⟨h1, h2, h3⟩

/-- all of them in order -/
def upA (I : List Tab) (j : Nat) : Cat := (I.take j).foldl crL []
/-- the extra one, and then all of them from the end -/
def dnB (drop : ByteArray) (I : List Tab) (j : Nat) : Cat := (I.drop j).foldr (fun T L => crL L T) (crL [] (extra drop))

theorem upA_zero (I : List Tab) : upA I 0 = [] := rfl
theorem upA_next {I : List Tab} {j : Nat} {T : Tab} (h : I[j]? = some T) : upA I (j + 1) = crL (upA I j) T := by
  unfold upA
  rw [List.take_add_one, h, List.foldl_append]
  rfl
theorem dnB_all (drop : ByteArray) (I : List Tab) : dnB drop I I.length = crL [] (extra drop) := by unfold dnB; rw [List.drop_length]; rfl
theorem dnB_next {drop : ByteArray} {I : List Tab} {j : Nat} {T : Tab} (h : I[j]? = some T) : dnB drop I j = crL (dnB drop I (j + 1)) T := by
  unfold dnB
  obtain ⟨hj, rfl⟩ := List.getElem?_eq_some_iff.1 h
  rw [List.drop_eq_getElem_cons hj]
  rfl

theorem up_ok (I : List Tab) : ∀ j, CatOk (upA I j) ∧ (upA I j).length ≤ j
  | 0 => ⟨catOk_nil, Nat.le_refl _⟩
  | j + 1 => by
    obtain ⟨h1, h2⟩ := up_ok I j
    cases h : I[j]? with
    | some T =>
      rw [upA_next h]
      exact ⟨h1.create T, Nat.le_trans (crL_length _ _) (by omega)⟩
    | none =>
      have e : upA I (j + 1) = upA I j := by unfold upA; rw [List.take_add_one, h]; simp
      rw [e]
      exact ⟨h1, by omega⟩
theorem up_has {drop : ByteArray} {I : List Tab} (hI : InOk drop I) : ∀ j, j ≤ I.length → Has (upA I j) (I.take j)
  | 0, _ => fun p => by rw [upA_zero]; simp
  | j + 1, hj => by
    have h : I[j]? = some I[j] := List.getElem?_eq_getElem (by omega)
    have ih := up_has hI j (by omega)
    have hl := (up_ok I j).2
    have hf := hI.few
    rw [upA_next h]
    have := ih.step (T := I[j]) (by omega) (fun x hx e => by
      obtain ⟨i, hi, rfl⟩ := List.getElem_of_mem hx
      have hi2 : i < j := by rw [List.length_take] at hi; omega
      rw [List.getElem_take] at e
      exact absurd (by rw [List.getElem_map, List.getElem_map]; exact e) (List.pairwise_iff_getElem.1 hI.nodup i j (by simp; omega) (by simp; omega) hi2))
    intro p
    rw [this p, List.take_add_one, h]
    simp only [List.mem_cons, List.mem_append, Option.toList_some]
    constructor
    · rintro ⟨h1 | h1, h2⟩
      · exact ⟨Or.inr (Or.inl h1), h2⟩
      · exact ⟨Or.inl h1, h2⟩
    · rintro ⟨h1 | h1 | h1, h2⟩
      · exact ⟨Or.inr h1, h2⟩
      · exact ⟨Or.inl h1, h2⟩
      · cases h1

theorem ex_ok (drop : ByteArray) : CatOk (crL [] (extra drop)) ∧ (crL [] (extra drop)).length ≤ 1 ∧ Has (crL [] (extra drop)) [extra drop] := by
  refine ⟨catOk_nil.create _, crL_length _ _, ?_⟩
  have h : Has [] [] := fun p => by simp
  exact h.step (by decide) (fun x hx => by cases hx)
theorem dn_ok {drop : ByteArray} {I : List Tab} (hI : InOk drop I) : ∀ k j, k + j = I.length → CatOk (dnB drop I j) ∧ (dnB drop I j).length ≤ 1 + k ∧ Has (dnB drop I j) (I.drop j ++ [extra drop])
  | 0, j, e => by
    rw [show j = I.length by omega, dnB_all, List.drop_length]
    exact ⟨(ex_ok drop).1, (ex_ok drop).2.1, (ex_ok drop).2.2⟩
  | k + 1, j, e => by
    have h : I[j]? = some I[j] := List.getElem?_eq_getElem (by omega)
    obtain ⟨h1, h2, h3⟩ := dn_ok hI k (j + 1) (by omega)
    have hf := hI.few
    rw [dnB_next h]
    refine ⟨h1.create _, Nat.le_trans (crL_length _ _) (by omega), ?_⟩
    have := h3.step (T := I[j]) (by omega) (fun x hx e => by
      rcases List.mem_append.1 hx with hx | hx
      · obtain ⟨i, hi, rfl⟩ := List.getElem_of_mem hx
        rw [List.length_drop] at hi
        rw [List.getElem_drop] at e
        exact absurd (by rw [List.getElem_map, List.getElem_map]; exact e.symm) (List.pairwise_iff_getElem.1 hI.nodup j (j + 1 + i) (by simp; omega) (by simp; omega) (by omega))
      · rw [List.mem_singleton.1 hx] at e
        exact hI.ne I[j] (List.getElem_mem _) e.symm)
    rw [List.drop_eq_getElem_cons (by omega : j < I.length)]
    exact this

/-- THE CATALOGUE IS THE SAME -/
theorem order_same {drop : ByteArray} {I : List Tab} (hI : InOk drop I) : drL (dnB drop I 0) drop = upA I I.length := by
  obtain ⟨h1, h2, h3⟩ := dn_ok hI I.length 0 (by omega)
  have h4 := up_has hI I.length (Nat.le_refl _)
  refine rise_ext (h1.drop drop).rise (up_ok I _).1.rise (fun p => ?_)
  unfold drL
  rw [Dk.mem_delL, h3 p, h4 p, List.take_length, List.drop_zero]
  constructor
  · rintro ⟨⟨a, b, c⟩, d⟩
    rcases List.mem_append.1 a with a | a
    · exact ⟨a, b, c⟩
    · rw [c, List.mem_singleton.1 a] at d
      exact absurd rfl d
  · rintro ⟨a, b, c⟩
    refine ⟨⟨List.mem_append_left _ a, b, c⟩, fun e => hI.ne _ a (kb_inj ?_)⟩
    rw [← c]; exact e
/-- it is dropped just if it was created -/
theorem drop_tells {drop : ByteArray} {I : List Tab} (hI : InOk drop I) : drE (dnB drop I 0) drop = 0 ↔ crE [] (extra drop) = 0 := by
  obtain ⟨h1, h2, h3⟩ := dn_ok hI I.length 0 (by omega)
  have hg : (Dk.getL (kb drop) (dnB drop I 0)).isSome = true ↔ (extra drop).may = true := by
    constructor
    · intro hs
      cases hg : Dk.getL (kb drop) (dnB drop I 0) with
      | none => rw [hg] at hs; cases hs
      | some a =>
        obtain ⟨k1, k2, k3⟩ := (h3 _).1 (Dk.getL_mem hg)
        simp only at k1 k2 k3
        rcases List.mem_append.1 k1 with k1 | k1
        · rw [List.drop_zero] at k1
          exact absurd (kb_inj k3.symm) (hI.ne a k1)
        · rw [List.mem_singleton.1 k1] at k2
          exact k2
    · intro hm
      have : (kb drop, extra drop) ∈ dnB drop I 0 := (h3 _).2 ⟨List.mem_append_right _ (List.mem_singleton.2 rfl), hm, rfl⟩
      rw [getL_of_mem h1.rise this]
      rfl
  have he : crE [] (extra drop) = 0 ↔ (extra drop).may = true := by
    rw [crE_zero]
    exact ⟨fun h => h.1, fun h => ⟨h, rfl, by decide⟩⟩
  rw [he, ← hg]
  unfold drE
  cases (Dk.getL (kb drop) (dnB drop I 0)).isSome <;> simp

end Go.Proofs.YtnboanlhdllhnaaGreat

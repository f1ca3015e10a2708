import Derived.Test.YtnboanlhdllhnaaGreatZEncode
import Derived.Test.YtnboanlhdllhnaaGreatZAsked
/- SchemaOrder, plainly: in whatever order schemas are created, and another dropped, the catalogue is the same. -/
namespace Go.Proofs.YtnboanlhdllhnaaGreat

section
variable {α : Type}
theorem mem_get {l : List (List UInt8 × α)} (h : Dk.Rise l) {k : List UInt8} {a : α} : (k, a) ∈ l ↔ Dk.getL k l = some a := ⟨getL_of_mem h, Dk.getL_mem⟩

theorem rise_ext : ∀ {l l' : List (List UInt8 × α)}, Dk.Rise l → Dk.Rise l' → (∀ p, p ∈ l ↔ p ∈ l') → l = l'
  | [], [], _, _, _ => rfl
  | [], y :: s, _, _, h => by have := (h y).2 (List.mem_cons_self ..); cases this
  | x :: r, [], _, _, h => by have := (h x).1 (List.mem_cons_self ..); cases this
  | x :: r, y :: s, hl, hl', h => by
    obtain ⟨h1, h2⟩ := List.pairwise_cons.1 hl
    obtain ⟨h3, h4⟩ := List.pairwise_cons.1 hl'
    have irr : ∀ p : List UInt8 × α, bytesBefore p.1 p.1 = true → False := fun p hp => by rw [WideAt.bytes_irrefl] at hp; cases hp
    have hxy : x = y := by
      rcases List.mem_cons.1 ((h x).1 (List.mem_cons_self ..)) with e | hx
      · exact e
      · rcases List.mem_cons.1 ((h y).2 (List.mem_cons_self ..)) with e | hy
        · exact e.symm
        · exact absurd (WideShapes.bytes_trans _ _ _ (h1 y hy) (h3 x hx)) (fun e => irr x e)
    subst hxy
    have hx1 : x ∉ r := fun hx => irr x (h1 x hx)
    have hx2 : x ∉ s := fun hx => irr x (h3 x hx)
    rw [rise_ext h2 h4 (fun p => ?_)]
    constructor
    · intro hp
      rcases List.mem_cons.1 ((h p).1 (List.mem_cons_of_mem _ hp)) with e | e
      · rw [e] at hp; exact absurd hp hx1
      · exact e
    · intro hp
      rcases List.mem_cons.1 ((h p).2 (List.mem_cons_of_mem _ hp)) with e | e
      · rw [e] at hp; exact absurd hp hx2
      · exact e

theorem less_total (a b : List UInt8) : bytesBefore a b = true ∨ a = b ∨ bytesBefore b a = true := by
  rw [Dk.before_less, Dk.before_less]
  exact bl_total a b

theorem insL_rise (x : List UInt8 × α) : ∀ {l : List (List UInt8 × α)}, Dk.Rise l → (∀ p ∈ l, p.1 ≠ x.1) → Dk.Rise (Dk.insL x l)
  | [], _, _ => List.pairwise_singleton _ _
  | y :: r, h, hn => by
    obtain ⟨h1, h2⟩ := List.pairwise_cons.1 h
    unfold Dk.insL
    split
    · rename_i hb
      refine List.pairwise_cons.2 ⟨fun p hp => ?_, h⟩
      rcases List.mem_cons.1 hp with rfl | hp
      · exact hb
      · exact WideShapes.bytes_trans _ _ _ hb (h1 p hp)
    · rename_i hb
      refine List.pairwise_cons.2 ⟨fun p hp => ?_, insL_rise x h2 (fun p hp => hn p (List.mem_cons_of_mem _ hp))⟩
      rcases Dk.mem_insL.1 hp with rfl | hp
      · rcases less_total y.1 p.1 with h | h | h
        · exact h
        · exact absurd h (hn y (List.mem_cons_self ..))
        · exact absurd h hb
      · exact h1 p hp
theorem delL_rise {l : List (List UInt8 × α)} (h : Dk.Rise l) (k : List UInt8) : Dk.Rise (Dk.delL k l) := h.filter _
end

/-- catalogues as they come up: rising, under their own names -/
structure CatOk (L : Cat) : Prop where
  rise : Dk.Rise L
  own : ∀ p ∈ L, p.1 = kb p.2.nm ∧ p.2.may = true

theorem crE_zero {L : Cat} {T : Tab} : crE L T = 0 ↔ T.may = true ∧ Dk.getL (kb T.nm) L = none ∧ L.length < 4096 := by
  unfold crE
  cases hm : T.may with
  | false => simp
  | true =>
    cases hg : Dk.getL (kb T.nm) L with
    | some a => simp
    | none =>
      by_cases h : 4096 ≤ L.length
      · simp [h]
      · simp [h]; omega

theorem crL_mem {L : Cat} {T : Tab} (p : List UInt8 × Tab) : p ∈ crL L T ↔ p ∈ L ∨ (crE L T = 0 ∧ p = (kb T.nm, T)) := by
  unfold crL
  by_cases h : crE L T = 0
  · rw [if_pos h]
    have hn := (crE_zero.1 h).2.1
    unfold Dk.putL
    rw [Dk.mem_insL, Dk.delL_other (Dk.getL_none hn)]
    constructor
    · rintro (e | e)
      · exact Or.inr ⟨h, e⟩
      · exact Or.inl e
    · rintro (e | ⟨_, e⟩)
      · exact Or.inr e
      · exact Or.inl e
  · rw [if_neg h]
    exact ⟨Or.inl, fun e => e.elim id (fun e => absurd e.1 h)⟩
theorem crL_length (L : Cat) (T : Tab) : (crL L T).length ≤ L.length + 1 := by
  unfold crL
  split
  · rename_i h
    have hn := (crE_zero.1 h).2.1
    unfold Dk.putL
    rw [Dk.length_insL, Dk.delL_other (Dk.getL_none hn)]
    exact Nat.le_refl _
  · omega
theorem CatOk.create {L : Cat} (h : CatOk L) (T : Tab) : CatOk (crL L T) := by
  refine ⟨?_, fun p hp => ?_⟩
  · unfold crL
    split
    · rename_i he
      have hn := (crE_zero.1 he).2.1
      unfold Dk.putL
      rw [Dk.delL_other (Dk.getL_none hn)]
      exact insL_rise _ h.rise (fun p hp => Dk.getL_none hn p hp)
    · exact h.rise
  · rcases (crL_mem p).1 hp with hp | ⟨he, rfl⟩
    · exact h.own p hp
    · exact ⟨rfl, (crE_zero.1 he).1⟩
theorem CatOk.drop {L : Cat} (h : CatOk L) (k : ByteArray) : CatOk (drL L k) := ⟨delL_rise h.rise _, fun p hp => h.own p (Dk.mem_delL.1 hp).1⟩
theorem catOk_nil : CatOk [] := ⟨List.Pairwise.nil, (fun _ h => by cases h)⟩

/-- the schemas that were kept, one behind the other: no two of one name, none of the name that is dropped -/
structure InOk (drop : ByteArray) (I : List Tab) : Prop where
  nodup : (I.map (·.nm)).Nodup
  ne : ∀ T ∈ I, T.nm ≠ drop
  few : I.length ≤ 20

/-- the one that is dropped again -/
def extra (drop : ByteArray) : Tab := ⟨drop, [(⟨#[97]⟩, 2)], 1, []⟩

/-- what of some schemas is in a catalogue -/
def Has (L : Cat) (M : List Tab) : Prop := ∀ p, p ∈ L ↔ p.2 ∈ M ∧ p.2.may = true ∧ p.1 = kb p.2.nm

theorem nm_inj {I : List Tab} (h : (I.map (·.nm)).Nodup) {a b : Tab} (ha : a ∈ I) (hb : b ∈ I) (e : a.nm = b.nm) : a = b := by
  obtain ⟨i, hi, rfl⟩ := List.getElem_of_mem ha
  obtain ⟨j, hj, rfl⟩ := List.getElem_of_mem hb
  have := List.pairwise_iff_getElem.1 h
  rcases Nat.lt_trichotomy i j with h1 | h1 | h1
  · exact absurd (by rw [List.getElem_map, List.getElem_map]; exact e) (this i j (by simpa using hi) (by simpa using hj) h1)
  · subst h1; rfl
  · exact absurd (by rw [List.getElem_map, List.getElem_map]; exact e.symm) (this j i (by simpa using hj) (by simpa using hi) h1)

theorem Has.step {L : Cat} {M : List Tab} (h : Has L M) (hl : L.length < 4096) {T : Tab} (hn : ∀ x ∈ M, x.nm ≠ T.nm) : Has (crL L T) (T :: M) := fun p => by
  have hno : Dk.getL (kb T.nm) L = none := by
    cases hg : Dk.getL (kb T.nm) L with
    | none => rfl
    | some a =>
      obtain ⟨h1, _, h3⟩ := (h _).1 (Dk.getL_mem hg)
      exact absurd (kb_inj h3.symm) (hn a h1)
  rw [crL_mem, h p]
  constructor
  · rintro (⟨h1, h2, h3⟩ | ⟨he, rfl⟩)
    · exact ⟨List.mem_cons_of_mem _ h1, h2, h3⟩
    · exact ⟨List.mem_cons_self .., (crE_zero.1 he).1, rfl⟩
  · rintro ⟨h1, h2, h3⟩
    rcases List.mem_cons.1 h1 with e | h1
    · refine Or.inr ⟨crE_zero.2 ⟨by rw [← e]; exact h2, hno, hl⟩, ?_⟩
      cases p
      simp only at e h3
      rw [h3, e]
    · exact Or.inl ⟨h1, h2, h3⟩

/-- all of them in order -/
def upA (I : List Tab) (j : Nat) : Cat := (I.take j).foldl crL []
/-- the extra one, and then all of them from the end -/
def dnB (drop : ByteArray) (I : List Tab) (j : Nat) : Cat := (I.drop j).foldr (fun T L => crL L T) (crL [] (extra drop))

theorem upA_zero (I : List Tab) : upA I 0 = [] := rfl
theorem upA_next {I : List Tab} {j : Nat} {T : Tab} (h : I[j]? = some T) : upA I (j + 1) = crL (upA I j) T := by
  unfold upA
  rw [List.take_add_one, h, List.foldl_append]
  rfl
theorem dnB_all (drop : ByteArray) (I : List Tab) : dnB drop I I.length = crL [] (extra drop) := by unfold dnB; rw [List.drop_length]; rfl
theorem dnB_next {drop : ByteArray} {I : List Tab} {j : Nat} {T : Tab} (h : I[j]? = some T) : dnB drop I j = crL (dnB drop I (j + 1)) T := by
  unfold dnB
  obtain ⟨hj, rfl⟩ := List.getElem?_eq_some_iff.1 h
  rw [List.drop_eq_getElem_cons hj]
  rfl

theorem up_ok (I : List Tab) : ∀ j, CatOk (upA I j) ∧ (upA I j).length ≤ j
  | 0 => ⟨catOk_nil, Nat.le_refl _⟩
  | j + 1 => by
    obtain ⟨h1, h2⟩ := up_ok I j
    cases h : I[j]? with
    | some T =>
      rw [upA_next h]
      exact ⟨h1.create T, Nat.le_trans (crL_length _ _) (by omega)⟩
    | none =>
      have e : upA I (j + 1) = upA I j := by unfold upA; rw [List.take_add_one, h]; simp
      rw [e]
      exact ⟨h1, by omega⟩
theorem up_has {drop : ByteArray} {I : List Tab} (hI : InOk drop I) : ∀ j, j ≤ I.length → Has (upA I j) (I.take j)
  | 0, _ => fun p => by rw [upA_zero]; simp
  | j + 1, hj => by
    have h : I[j]? = some I[j] := List.getElem?_eq_getElem (by omega)
    have ih := up_has hI j (by omega)
    have hl := (up_ok I j).2
    have hf := hI.few
    rw [upA_next h]
    have := ih.step (T := I[j]) (by omega) (fun x hx e => by
      obtain ⟨i, hi, rfl⟩ := List.getElem_of_mem hx
      have hi2 : i < j := by rw [List.length_take] at hi; omega
      rw [List.getElem_take] at e
      exact absurd (by rw [List.getElem_map, List.getElem_map]; exact e) (List.pairwise_iff_getElem.1 hI.nodup i j (by simp; omega) (by simp; omega) hi2))
    intro p
    rw [this p, List.take_add_one, h]
    simp only [List.mem_cons, List.mem_append, Option.toList_some]
    constructor
    · rintro ⟨h1 | h1, h2⟩
      · exact ⟨Or.inr (Or.inl h1), h2⟩
      · exact ⟨Or.inl h1, h2⟩
    · rintro ⟨h1 | h1 | h1, h2⟩
      · exact ⟨Or.inr h1, h2⟩
      · exact ⟨Or.inl h1, h2⟩
      · cases h1

theorem ex_ok (drop : ByteArray) : CatOk (crL [] (extra drop)) ∧ (crL [] (extra drop)).length ≤ 1 ∧ Has (crL [] (extra drop)) [extra drop] := by
  refine ⟨catOk_nil.create _, crL_length _ _, ?_⟩
  have h : Has [] [] := fun p => by simp
  exact h.step (by decide) (fun x hx => by cases hx)
theorem dn_ok {drop : ByteArray} {I : List Tab} (hI : InOk drop I) : ∀ k j, k + j = I.length → CatOk (dnB drop I j) ∧ (dnB drop I j).length ≤ 1 + k ∧ Has (dnB drop I j) (I.drop j ++ [extra drop])
  | 0, j, e => by
    rw [show j = I.length by omega, dnB_all, List.drop_length]
    exact ⟨(ex_ok drop).1, (ex_ok drop).2.1, (ex_ok drop).2.2⟩
  | k + 1, j, e => by
    have h : I[j]? = some I[j] := List.getElem?_eq_getElem (by omega)
    obtain ⟨h1, h2, h3⟩ := dn_ok hI k (j + 1) (by omega)
    have hf := hI.few
    rw [dnB_next h]
    refine ⟨h1.create _, Nat.le_trans (crL_length _ _) (by omega), ?_⟩
    have := h3.step (T := I[j]) (by omega) (fun x hx e => by
      rcases List.mem_append.1 hx with hx | hx
      · obtain ⟨i, hi, rfl⟩ := List.getElem_of_mem hx
        rw [List.length_drop] at hi
        rw [List.getElem_drop] at e
        exact absurd (by rw [List.getElem_map, List.getElem_map]; exact e.symm) (List.pairwise_iff_getElem.1 hI.nodup j (j + 1 + i) (by simp; omega) (by simp; omega) (by omega))
      · rw [List.mem_singleton.1 hx] at e
        exact hI.ne I[j] (List.getElem_mem _) e.symm)
    rw [List.drop_eq_getElem_cons (by omega : j < I.length)]
    exact this

/-- THE CATALOGUE IS THE SAME -/
theorem order_same {drop : ByteArray} {I : List Tab} (hI : InOk drop I) : drL (dnB drop I 0) drop = upA I I.length := by
  obtain ⟨h1, h2, h3⟩ := dn_ok hI I.length 0 (by omega)
  have h4 := up_has hI I.length (Nat.le_refl _)
  refine rise_ext (h1.drop drop).rise (up_ok I _).1.rise (fun p => ?_)
  unfold drL
  rw [Dk.mem_delL, h3 p, h4 p, List.take_length, List.drop_zero]
  constructor
  · rintro ⟨⟨a, b, c⟩, d⟩
    rcases List.mem_append.1 a with a | a
    · exact ⟨a, b, c⟩
    · rw [c, List.mem_singleton.1 a] at d
      exact absurd rfl d
  · rintro ⟨a, b, c⟩
    refine ⟨⟨List.mem_append_left _ a, b, c⟩, fun e => hI.ne _ a (kb_inj ?_)⟩
    rw [← c]; exact e
/-- it is dropped just if it was created -/
theorem drop_tells {drop : ByteArray} {I : List Tab} (hI : InOk drop I) : drE (dnB drop I 0) drop = 0 ↔ crE [] (extra drop) = 0 := by
  obtain ⟨h1, h2, h3⟩ := dn_ok hI I.length 0 (by omega)
  have hg : (Dk.getL (kb drop) (dnB drop I 0)).isSome = true ↔ (extra drop).may = true := by
    constructor
    · intro hs
      cases hg : Dk.getL (kb drop) (dnB drop I 0) with
      | none => rw [hg] at hs; cases hs
      | some a =>
        obtain ⟨k1, k2, k3⟩ := (h3 _).1 (Dk.getL_mem hg)
        simp only at k1 k2 k3
        rcases List.mem_append.1 k1 with k1 | k1
        · rw [List.drop_zero] at k1
          exact absurd (kb_inj k3.symm) (hI.ne a k1)
        · rw [List.mem_singleton.1 k1] at k2
          exact k2
    · intro hm
      have : (kb drop, extra drop) ∈ dnB drop I 0 := (h3 _).2 ⟨List.mem_append_right _ (List.mem_singleton.2 rfl), hm, rfl⟩
      rw [getL_of_mem h1.rise this]
      rfl
  have he : crE [] (extra drop) = 0 ↔ (extra drop).may = true := by
    rw [crE_zero]
    exact ⟨fun h => h.1, fun h => ⟨h, rfl, by decide⟩⟩
  rw [he, ← hg]
  unfold drE
  cases (Dk.getL (kb drop) (dnB drop I 0)).isSome <;> simp

end Go.Proofs.YtnboanlhdllhnaaGreat

/- Decode, plainly: which bytes are a catalogue, and which one. -/
namespace Go.Proofs.YtnboanlhdllhnaaGreat

/-- the bytes of a catalogue -/
structure Good (b : List UInt8) (L : Cat) : Prop where
  eq : b = catB L
  ok : CatOk L
  few : L.length ≤ 4096

theorem catB_append (L R : Cat) : catB (L ++ R) = catB L ++ catB R := by unfold catB; rw [List.map_append, List.flatMap_append]
theorem catB_cons (p : List UInt8 × Tab) (R : Cat) : catB (p :: R) = tabB p.2 ++ catB R := by unfold catB; rw [List.map_cons, List.flatMap_cons]
theorem catB_nil : catB [] = [] := rfl

theorem before_irr (a : List UInt8) : bytesBefore a a = false := WideAt.bytes_irrefl a
theorem before_tr {a b c : List UInt8} (h : bytesBefore a b = true) (k : bytesBefore b c = true) : bytesBefore a c = true := WideShapes.bytes_trans _ _ _ h k
theorem before_asym {a b : List UInt8} (h : bytesBefore a b = true) : bytesBefore b a = false := by
  cases hb : bytesBefore b a with
  | false => rfl
  | true => have := before_tr h hb; rw [before_irr] at this; cases this

theorem insL_last {α : Type} (x : List UInt8 × α) : ∀ {L : List (List UInt8 × α)}, (∀ p ∈ L, bytesBefore p.1 x.1 = true) → Dk.insL x L = L ++ [x]
  | [], _ => rfl
  | y :: r, h => by
    unfold Dk.insL
    rw [if_neg (by rw [before_asym (h y (List.mem_cons_self ..))]; decide), insL_last x (fun p hp => h p (List.mem_cons_of_mem _ hp))]
    rfl
theorem crL_snoc {L : Cat} {T : Tab} (h : ∀ p ∈ L, bytesBefore p.1 (kb T.nm) = true) (h0 : crE L T = 0) : crL L T = L ++ [(kb T.nm, T)] := by
  unfold crL
  rw [if_pos h0]
  unfold Dk.putL
  rw [Dk.delL_other (fun p hp e => by have := h p hp; rw [e, before_irr] at this; cases this), insL_last _ h]

/-- how far Decode has come -/
structure DecInv (b0 : List UInt8) (L : Cat) (last q : List UInt8) : Prop where
  eq : b0 = catB L ++ q
  ok : CatOk L
  few : L.length ≤ 4096
  last1 : ∀ p ∈ L, p.1 = last ∨ bytesBefore p.1 last = true
  last2 : (L = [] ∧ last = []) ∨ ∃ p ∈ L, p.1 = last
  only : ∀ L', Good b0 L' → ∃ R, L' = L ++ R

theorem DecInv.start (b : List UInt8) : DecInv b [] [] b :=
  ⟨rfl, ⟨List.Pairwise.nil, (fun _ h => by cases h)⟩, by decide, (fun _ h => by cases h), Or.inl ⟨rfl, rfl⟩, fun L' _ => ⟨L', rfl⟩⟩
theorem DecInv.done {b0 : List UInt8} {L : Cat} {last : List UInt8} (h : DecInv b0 L last []) : Good b0 L := ⟨by rw [h.eq, List.append_nil], h.ok, h.few⟩

abbrev firstB (q : List UInt8) : List UInt8 := q.take (q.length - (tabW q).length)
theorem first_rest (q : List UInt8) : firstB q ++ tabW q = q := by
  obtain ⟨t, ht⟩ := ends_tab q
  have hl : q.length - (tabW q).length = t.length := by
    have := congrArg List.length ht
    rw [List.length_append] at this
    omega
  unfold firstB
  rw [hl]
  have : q.take t.length = t := by
    conv => lhs; rw [← ht]
    exact List.take_left' rfl
  rw [this, ht]

theorem first_of {T : Tab} (h : MayT T) (r : List UInt8) : tabW (tabB T ++ r) = r ∧ firstB (tabB T ++ r) = tabB T ∧ rdAll (tabB T) = some T := by
  have h1 : tabW (tabB T ++ r) = r := far_tab.go _ _ _ (two_tab.there T r h.ok)
  refine ⟨h1, ?_, ?_⟩
  · unfold firstB
    rw [h1, List.length_append, Nat.add_sub_cancel]
    exact List.take_left' rfl
  · refine rdAll_of ?_ (by have := h.few.1; omega)
    have := two_tab.there T [] h.ok
    rw [List.append_nil] at this
    exact this

section
variable {b0 : List UInt8} {L : Cat} {last q : List UInt8}
theorem DecInv.part (h : DecInv b0 L last q) (hq : q ≠ []) {L' : Cat} (hg : Good b0 L') : ∃ T R, L' = L ++ (kb T.nm, T) :: R ∧ tabW q = catB R ∧ rdAll (firstB q) = some T ∧ bytesBefore last (kb T.nm) = true ∧ crE L T = 0 := by
  obtain ⟨R, rfl⟩ := h.only L' hg
  have e : q = catB R := by
    have := hg.eq
    rw [catB_append, h.eq] at this
    exact List.append_cancel_left this
  cases R with
  | nil => exact absurd e hq
  | cons p R =>
    obtain ⟨k, T⟩ := p
    have hm : (k, T) ∈ L ++ (k, T) :: R := List.mem_append_right _ (List.mem_cons_self ..)
    obtain ⟨hk, hmay⟩ := hg.ok.own _ hm
    simp only at hk hmay
    subst hk
    rw [catB_cons] at e
    simp only at e
    obtain ⟨f1, f2, f3⟩ := first_of (may_parts hmay) (catB R)
    have hr := hg.ok.rise
    have hbef : ∀ p ∈ L, bytesBefore p.1 (kb T.nm) = true := fun p hp => (List.pairwise_append.1 hr).2.2 p hp _ (List.mem_cons_self ..)
    refine ⟨T, R, rfl, by rw [e, f1], by rw [e, f2, f3], ?_, ?_⟩
    · rcases h.last2 with ⟨-, e2⟩ | ⟨p, hp, e2⟩
      · rw [e2]
        have h1 := (nameOk_size (may_parts hmay).nm).1
        have h2 : (kb T.nm).length = T.nm.size := size_list _
        cases hkb : kb T.nm with
        | nil => rw [hkb] at h2; simp at h2; omega
        | cons _ _ => rfl
      · rw [← e2]; exact hbef p hp
    · refine crE_zero.2 ⟨hmay, ?_, ?_⟩
      · cases hg' : Dk.getL (kb T.nm) L with
        | none => rfl
        | some a =>
          have := hbef _ (Dk.getL_mem hg')
          simp only at this
          rw [before_irr] at this; cases this
      · have := hg.few
        rw [List.length_append, List.length_cons] at this
        omega
theorem DecInv.yes (h : DecInv b0 L last q) (hq : q ≠ []) {T : Tab} (h1 : rdAll (firstB q) = some T) (h2 : bytesBefore last (kb T.nm) = true) (h3 : crE L T = 0) :
    DecInv b0 (crL L T) (kb T.nm) (tabW q) ∧ (tabW q).length < q.length := by
  have hbef : ∀ p ∈ L, bytesBefore p.1 (kb T.nm) = true := fun p hp => by
    rcases h.last1 p hp with e | e
    · rw [e]; exact h2
    · exact before_tr e h2
  have hmay := (crE_zero.1 h3).1
  have hfew := (may_parts hmay).few.2
  have hb := two_tab.back _ _ _ (rdAll_some h1)
  rw [List.append_nil] at hb
  have hfr := first_rest q
  have hlen : (tabW q).length < q.length := by
    have := congrArg List.length hfr
    rw [List.length_append, hb.2] at this
    omega
  refine ⟨?_, hlen⟩
  rw [crL_snoc hbef h3]
  refine ⟨?_, ⟨?_, fun p hp => ?_⟩, ?_, fun p hp => ?_, Or.inr ⟨_, List.mem_append_right _ (List.mem_cons_self ..), rfl⟩, fun L' hg => ?_⟩
  · rw [catB_append, catB_cons, catB_nil, List.append_nil, List.append_assoc, ← hb.2, hfr]
    exact h.eq
  · refine List.pairwise_append.2 ⟨h.ok.rise, List.pairwise_singleton _ _, fun p hp x hx => ?_⟩
    rw [List.mem_singleton.1 hx]
    exact hbef p hp
  · rcases List.mem_append.1 hp with hp | hp
    · exact h.ok.own p hp
    · rw [List.mem_singleton.1 hp]; exact ⟨rfl, hmay⟩
  · have := (crE_zero.1 h3).2.2
    rw [List.length_append, List.length_singleton]
    omega
  · rcases List.mem_append.1 hp with hp | hp
    · exact Or.inr (hbef p hp)
    · rw [List.mem_singleton.1 hp]; exact Or.inl rfl
  · obtain ⟨T', R, e1, e2, e3, -⟩ := h.part hq hg
    rw [h1] at e3
    cases e3
    exact ⟨R, by rw [e1, List.append_assoc]; rfl⟩
theorem DecInv.no (h : DecInv b0 L last q) (hq : q ≠ []) (hn : ∀ T, rdAll (firstB q) = some T → bytesBefore last (kb T.nm) = true → crE L T ≠ 0) : ∀ L', ¬ Good b0 L' := fun L' hg => by
  obtain ⟨T, R, -, -, e3, e4, e5⟩ := h.part hq hg
  exact hn T e3 e4 e5
end

theorem Good.unique {b : List UInt8} {L L' : Cat} (h : Good b L) (h' : Good b L') : L = L' := by
  have key : ∀ (L : Cat) (L' : Cat), CatOk L → CatOk L' → catB L = catB L' → L = L' := by
    intro L
    induction L with
    | nil =>
      intro L' _ h2 e
      cases L' with
      | nil => rfl
      | cons p R =>
        have h3 := (may_parts (h2.own p (List.mem_cons_self ..)).2).few.2
        rw [catB_cons, catB_nil] at e
        have := congrArg List.length e
        rw [List.length_append, List.length_nil] at this
        omega
    | cons p R ih =>
      intro L' h1 h2 e
      cases L' with
      | nil =>
        have h3 := (may_parts (h1.own p (List.mem_cons_self ..)).2).few.2
        rw [catB_cons, catB_nil] at e
        have := congrArg List.length e
        rw [List.length_append, List.length_nil] at this
        omega
      | cons p' R' =>
        have o1 := h1.own p (List.mem_cons_self ..)
        have o2 := h2.own p' (List.mem_cons_self ..)
        rw [catB_cons, catB_cons] at e
        have t1 := two_tab.there p.2 (catB R) (may_parts o1.2).ok
        have t2 := two_tab.there p'.2 (catB R') (may_parts o2.2).ok
        rw [e, t2] at t1
        simp only [Option.some.injEq, Prod.mk.injEq] at t1
        have hp : p = p' := Prod.ext (by rw [o1.1, o2.1, t1.1]) t1.1.symm
        rw [hp, ih R' ⟨(List.pairwise_cons.1 h1.rise).2, fun x hx => h1.own x (List.mem_cons_of_mem _ hx)⟩ ⟨(List.pairwise_cons.1 h2.rise).2, fun x hx => h2.own x (List.mem_cons_of_mem _ hx)⟩ t1.2.symm]
  exact key L L' h.ok h'.ok (h.eq.symm.trans h'.eq)

end Go.Proofs.YtnboanlhdllhnaaGreat

/- The document's Decode, plainly. -/
namespace Go.Proofs.YtnboanlhdllhnaaGreat

section
variable {b0 : List UInt8} {L : Cat} {last q r : List UInt8} {T : Tab}
theorem DecInv.next (h : DecInv b0 L last q) (hq : q ≠ []) (hr : rdTab q = some (T, r)) (hm : T.may = true) (hb : bytesBefore last (kb T.nm) = true) (hl : L.length < 4096) : DecInv b0 (L ++ [(kb T.nm, T)]) (kb T.nm) r ∧ r.length < q.length := by
  have hbk := two_tab.back _ _ _ hr
  obtain ⟨f1, f2, f3⟩ := first_of (may_parts hm) r
  rw [← hbk.2] at f1 f2
  have hbef : ∀ p ∈ L, bytesBefore p.1 (kb T.nm) = true := fun p hp => by
    rcases h.last1 p hp with e | e
    · rw [e]; exact hb
    · exact before_tr e hb
  have hz : crE L T = 0 := by
    refine crE_zero.2 ⟨hm, ?_, hl⟩
    cases hg' : Dk.getL (kb T.nm) L with
    | none => rfl
    | some a =>
      have := hbef _ (Dk.getL_mem hg')
      simp only at this
      rw [before_irr] at this; cases this
  have := h.yes hq (by rw [f2]; exact f3) hb hz
  rw [crL_snoc hbef hz, f1] at this
  exact this
theorem DecInv.back (h : rdAll (firstB q) = some T) : rdTab q = some (T, tabW q) := by
  have hb := two_tab.back _ _ _ (rdAll_some h)
  rw [List.append_nil] at hb
  have := two_tab.there T (tabW q) hb.1
  rw [← hb.2, first_rest] at this
  exact this
theorem DecInv.stop1 (h : DecInv b0 L last q) (hq : q ≠ []) (hr : rdTab q = none) : ∀ L', ¬ Good b0 L' :=
  h.no hq fun T h1 _ _ => by
    rw [DecInv.back h1] at hr
    cases hr
theorem DecInv.stop2 (h : DecInv b0 L last q) (hq : q ≠ []) (hr : rdTab q = some (T, r)) (hn : T.may = false ∨ bytesBefore last (kb T.nm) = false ∨ 4096 ≤ L.length) : ∀ L', ¬ Good b0 L' :=
  h.no hq fun T' h1 h2 h3 => by
    rw [DecInv.back h1] at hr
    simp only [Option.some.injEq, Prod.mk.injEq] at hr
    obtain ⟨k1, k2, k3⟩ := crE_zero.1 h3
    rw [hr.1] at k1 h2
    rcases hn with e | e | e
    · rw [e] at k1; cases k1
    · rw [e] at h2; cases h2
    · omega
end

end Go.Proofs.YtnboanlhdllhnaaGreat

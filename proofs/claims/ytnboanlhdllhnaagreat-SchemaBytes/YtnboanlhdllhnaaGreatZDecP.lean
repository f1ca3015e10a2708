/- Decode, plainly: which bytes are a catalogue, and which one. -/
import Derived.Test.YtnboanlhdllhnaaGreatZAsked
import Derived.Test.YtnboanlhdllhnaaGreatZOrderP
namespace Go.Proofs.YtnboanlhdllhnaaGreat

/-- the bytes of a catalogue -/
structure Good (b : List UInt8) (L : Cat) : Prop where
  eq : b = catB L
  ok : CatOk L
  few : L.length ≤ 4096

theorem catB_append (L R : Cat) : catB (L ++ R) = catB L ++ catB R := by unfold catB; rw [List.map_append, List.flatMap_append]
theorem catB_cons (p : List UInt8 × Tab) (R : Cat) : catB (p :: R) = tabB p.2 ++ catB R := by unfold catB; rw [List.map_cons, List.flatMap_cons]
theorem catB_nil : catB [] = [] := rfl

theorem before_irr (a : List UInt8) : bytesBefore a a = false := WideAt.bytes_irrefl a
theorem before_tr {a b c : List UInt8} (h : bytesBefore a b = true) (k : bytesBefore b c = true) : bytesBefore a c = true := WideShapes.bytes_trans _ _ _ h k
theorem before_asym {a b : List UInt8} (h : bytesBefore a b = true) : bytesBefore b a = false := by
  cases hb : bytesBefore b a with
  | false => rfl
  | true => have := before_tr h hb; rw [before_irr] at this; cases this

theorem insL_last {α : Type} (x : List UInt8 × α) : ∀ {L : List (List UInt8 × α)}, (∀ p ∈ L, bytesBefore p.1 x.1 = true) → Dk.insL x L = L ++ [x]
  | [], _ => rfl
  | y :: r, h => by
    unfold Dk.insL
    rw [if_neg (by rw [before_asym (h y (List.mem_cons_self ..))]; decide), insL_last x (fun p hp => h p (List.mem_cons_of_mem _ hp))]
    rfl
theorem crL_snoc {L : Cat} {T : Tab} (h : ∀ p ∈ L, bytesBefore p.1 (kb T.nm) = true) (h0 : crE L T = 0) : crL L T = L ++ [(kb T.nm, T)] := by
  unfold crL
  rw [if_pos h0]
  unfold Dk.putL
  rw [Dk.delL_other (fun p hp e => by have := h p hp; rw [e, before_irr] at this; cases this), insL_last _ h]

/-- how far Decode has come -/
structure DecInv (b0 : List UInt8) (L : Cat) (last q : List UInt8) : Prop where
  eq : b0 = catB L ++ q
  ok : CatOk L
  few : L.length ≤ 4096
  last1 : ∀ p ∈ L, p.1 = last ∨ bytesBefore p.1 last = true
  last2 : (L = [] ∧ last = []) ∨ ∃ p ∈ L, p.1 = last
  only : ∀ L', Good b0 L' → ∃ R, L' = L ++ R

theorem DecInv.start (b : List UInt8) : DecInv b [] [] b :=
  ⟨rfl, ⟨List.Pairwise.nil, (fun _ h => by cases h)⟩, by decide, (fun _ h => by cases h), Or.inl ⟨rfl, rfl⟩, fun L' _ => ⟨L', rfl⟩⟩
theorem DecInv.done {b0 : List UInt8} {L : Cat} {last : List UInt8} (h : DecInv b0 L last []) : Good b0 L := ⟨by rw [h.eq, List.append_nil], h.ok, h.few⟩

abbrev firstB (q : List UInt8) : List UInt8 := q.take (q.length - (tabW q).length)
theorem first_rest (q : List UInt8) : firstB q ++ tabW q = q := by
  obtain ⟨t, ht⟩ := ends_tab q
  have hl : q.length - (tabW q).length = t.length := by
    have := congrArg List.length ht
    rw [List.length_append] at this
    omega
  unfold firstB
  rw [hl]
  have : q.take t.length = t := by
    conv => lhs; rw [← ht]
    exact List.take_left' rfl
  rw [this, ht]

theorem first_of {T : Tab} (h : MayT T) (r : List UInt8) : tabW (tabB T ++ r) = r ∧ firstB (tabB T ++ r) = tabB T ∧ rdAll (tabB T) = some T := by
  have h1 : tabW (tabB T ++ r) = r := far_tab.go _ _ _ (two_tab.there T r h.ok)
  refine ⟨h1, ?_, ?_⟩
  · unfold firstB
    rw [h1, List.length_append, Nat.add_sub_cancel]
    exact List.take_left' rfl
  · refine rdAll_of ?_ (by have := h.few.1; omega)
    have := two_tab.there T [] h.ok
    rw [List.append_nil] at this
    exact this

section
variable {b0 : List UInt8} {L : Cat} {last q : List UInt8}
theorem DecInv.part (h : DecInv b0 L last q) (hq : q ≠ []) {L' : Cat} (hg : Good b0 L') : ∃ T R, L' = L ++ (kb T.nm, T) :: R ∧ tabW q = catB R ∧ rdAll (firstB q) = some T ∧ bytesBefore last (kb T.nm) = true ∧ crE L T = 0 := by
  obtain ⟨R, rfl⟩ := h.only L' hg
  have e : q = catB R := by
    have := hg.eq
    rw [catB_append, h.eq] at this
    exact List.append_cancel_left this
  cases R with
  | nil => exact absurd e hq
  | cons p R =>
    obtain ⟨k, T⟩ := p
    have hm : (k, T) ∈ L ++ (k, T) :: R := List.mem_append_right _ (List.mem_cons_self ..)
    obtain ⟨hk, hmay⟩ := hg.ok.own _ hm
    simp only at hk hmay
    subst hk
    rw [catB_cons] at e
    simp only at e
    obtain ⟨f1, f2, f3⟩ := first_of (may_parts hmay) (catB R)
    have hr := hg.ok.rise
    have hbef : ∀ p ∈ L, bytesBefore p.1 (kb T.nm) = true := fun p hp => (List.pairwise_append.1 hr).2.2 p hp _ (List.mem_cons_self ..)
    refine ⟨T, R, rfl, by rw [e, f1], by rw [e, f2, f3], ?_, ?_⟩
    · rcases h.last2 with ⟨-, e2⟩ | ⟨p, hp, e2⟩
      · rw [e2]
        have h1 := (nameOk_size (may_parts hmay).nm).1
        have h2 : (kb T.nm).length = T.nm.size := size_list _
        cases hkb : kb T.nm with
        | nil => rw [hkb] at h2; simp at h2; omega
        | cons _ _ => rfl
      · rw [← e2]; exact hbef p hp
    · refine crE_zero.2 ⟨hmay, ?_, ?_⟩
      · cases hg' : Dk.getL (kb T.nm) L with
        | none => rfl
        | some a =>
          have := hbef _ (Dk.getL_mem hg')
          simp only at this
          rw [before_irr] at this; cases this
      · have := hg.few
        rw [List.length_append, List.length_cons] at this
        omega
theorem DecInv.yes (h : DecInv b0 L last q) (hq : q ≠ []) {T : Tab} (h1 : rdAll (firstB q) = some T) (h2 : bytesBefore last (kb T.nm) = true) (h3 : crE L T = 0) :
    DecInv b0 (crL L T) (kb T.nm) (tabW q) ∧ (tabW q).length < q.length := by
  have hbef : ∀ p ∈ L, bytesBefore p.1 (kb T.nm) = true := fun p hp => by
    rcases h.last1 p hp with e | e
    · rw [e]; exact h2
    · exact before_tr e h2
  have hmay := (crE_zero.1 h3).1
  have hfew := (may_parts hmay).few.2
  have hb := two_tab.back _ _ _ (rdAll_some h1)
  rw [List.append_nil] at hb
  have hfr := first_rest q
  have hlen : (tabW q).length < q.length := by
    have := congrArg List.length hfr
    rw [List.length_append, hb.2] at this
    omega
  refine ⟨?_, hlen⟩
  rw [crL_snoc hbef h3]
  refine ⟨?_, ⟨?_, fun p hp => ?_⟩, ?_, fun p hp => ?_, Or.inr ⟨_, List.mem_append_right _ (List.mem_cons_self ..), rfl⟩, fun L' hg => ?_⟩
  · rw [catB_append, catB_cons, catB_nil, List.append_nil, List.append_assoc, ← hb.2, hfr]
    exact h.eq
  · refine List.pairwise_append.2 ⟨h.ok.rise, List.pairwise_singleton _ _, fun p hp x hx => ?_⟩
    rw [List.mem_singleton.1 hx]
    exact hbef p hp
  · rcases List.mem_append.1 hp with hp | hp
    · exact h.ok.own p hp
    · rw [List.mem_singleton.1 hp]; exact ⟨rfl, hmay⟩
  · have := (crE_zero.1 h3).2.2
    rw [List.length_append, List.length_singleton]
    omega
  · rcases List.mem_append.1 hp with hp | hp
    · exact Or.inr (hbef p hp)
    · rw [List.mem_singleton.1 hp]; exact Or.inl rfl
  · obtain ⟨T', R, e1, e2, e3, -⟩ := h.part hq hg
    rw [h1] at e3
    cases e3
    exact ⟨R, by rw [e1, List.append_assoc]; rfl⟩
theorem DecInv.no (h : DecInv b0 L last q) (hq : q ≠ []) (hn : ∀ T, rdAll (firstB q) = some T → bytesBefore last (kb T.nm) = true → crE L T ≠ 0) : ∀ L', ¬ Good b0 L' := fun L' hg => by
  obtain ⟨T, R, -, -, e3, e4, e5⟩ := h.part hq hg
  exact hn T e3 e4 e5
end

theorem Good.unique {b : List UInt8} {L L' : Cat} (h : Good b L) (h' : Good b L') : L = L' := by
  have key : ∀ (L : Cat) (L' : Cat), CatOk L → CatOk L' → catB L = catB L' → L = L' := by
    intro L
    induction L with
    | nil =>
      intro L' _ h2 e
      cases L' with
      | nil => rfl
      | cons p R =>
        have h3 := (may_parts (h2.own p (List.mem_cons_self ..)).2).few.2
        rw [catB_cons, catB_nil] at e
        have := congrArg List.length e
        rw [List.length_append, List.length_nil] at this
        omega
    | cons p R ih =>
      intro L' h1 h2 e
      cases L' with
      | nil =>
        have h3 := (may_parts (h1.own p (List.mem_cons_self ..)).2).few.2
        rw [catB_cons, catB_nil] at e
        have := congrArg List.length e
        rw [List.length_append, List.length_nil] at this
        omega
      | cons p' R' =>
        have o1 := h1.own p (List.mem_cons_self ..)
        have o2 := h2.own p' (List.mem_cons_self ..)
        rw [catB_cons, catB_cons] at e
        have t1 := two_tab.there p.2 (catB R) (may_parts o1.2).ok
        have t2 := two_tab.there p'.2 (catB R') (may_parts o2.2).ok
        rw [e, t2] at t1
        simp only [Option.some.injEq, Prod.mk.injEq] at t1
        have hp : p = p' := Prod.ext (by rw [o1.1, o2.1, t1.1]) t1.1.symm
        rw [hp, ih R' ⟨(List.pairwise_cons.1 h1.rise).2, fun x hx => h1.own x (List.mem_cons_of_mem _ hx)⟩ ⟨(List.pairwise_cons.1 h2.rise).2, fun x hx => h2.own x (List.mem_cons_of_mem _ hx)⟩ t1.2.symm]
  exact key L L' h.ok h'.ok (h.eq.symm.trans h'.eq)

end Go.Proofs.YtnboanlhdllhnaaGreat

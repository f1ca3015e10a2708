/- For EpochFrees: the law's own map, and what holds of things and workers all the time. -/
import Derived.Test.YtonblbopfbjiaaaEArr
import Derived.Maps.OwnSet
namespace Go.Proofs.Ytonblbopfbjiaaa
open Go.RowKit Go.Maps

theorem lawI : Keyed Try.prog 3 := int_keyed Try.underlying3
theorem zeroI (w : World) : (zeroValue 3).run Try.prog w = .ok (.int .i64 0) w := by kernel_rfl

/-- the block mb is a map with just the keys K, each at itself -/
def MapIs (u : World) (mb n : Nat) (K : List Int) : Prop :=
  ∃ D : DataW Unit, u.ownsMap Try.prog 3 (plainElem Try.prog 3) mb n D ∧ (∀ x, x ∉ K → Maps.has D (.int .i64 x) = false) ∧ ∀ x ∈ K, Maps.has D (.int .i64 x) = true ∧ D.atKey (.int .i64 x) (.lit (.int .i64 0)) = .lit (.int .i64 x)
def MapO (mb : Nat) (O : Obj) (n : Nat) (K : List Int) : Prop := ∃ u : World, u.heap[mb]? = some O ∧ MapIs u mb n K

theorem MapIs.heap {u u' : World} {mb n : Nat} {K : List Int} (h : MapIs u mb n K) (hu : u'.heap[mb]? = u.heap[mb]?) : MapIs u' mb n K := by
  obtain ⟨D, ⟨es, clock, h1, h2⟩, h3⟩ := h
  exact ⟨D, ⟨es, clock, hu.trans h1, h2⟩, h3⟩
theorem MapO.is {u : World} {mb n : Nat} {O : Obj} {K : List Int} (h : MapO mb O n K) (hu : u.heap[mb]? = some O) : MapIs u mb n K := by
  obtain ⟨v, h1, h2⟩ := h
  exact h2.heap (hu.trans h1.symm)
theorem MapIs.obj {u : World} {mb n : Nat} {K : List Int} (h : MapIs u mb n K) : ∃ O, u.heap[mb]? = some O ∧ MapO mb O n K := by
  obtain ⟨D, ⟨es, clock, h1, h2⟩, h3⟩ := id h
  exact ⟨_, h1, u, h1, h⟩
theorem MapIs.mono {u : World} {mb n m : Nat} {K : List Int} (h : MapIs u mb n K) (hn : n ≤ m) : MapIs u mb m K := by
  obtain ⟨D, h1, h2⟩ := h
  exact ⟨D, h1.mono hn, h2⟩
theorem MapO.mono {mb n m : Nat} {O : Obj} {K : List Int} (h : MapO mb O n K) (hn : n ≤ m) : MapO mb O m K := by
  obtain ⟨u, h1, h2⟩ := h
  exact ⟨u, h1, h2.mono hn⟩
theorem mapIs_made (u : World) : MapIs (u.alloc (.map #[] 0)) u.heap.size 0 [] :=
  ⟨.map [], World.ownsMap_made u _ _ _, fun _ _ => rfl, fun _ h => by cases h⟩

theorem wf_small {x : Int} (h : 0 ≤ x ∧ x < 1000000) : (Lit.int .i64 x).wf = true := WalkArith.wf_i64 (by omega)
theorem lit_ne {x y : Int} (h : y ≠ x) : (Lit.int .i64 y) ≠ Lit.int .i64 x := fun e => h (by injection e)

section
variable {w : World} {ops : Array Oper} {rest : List Oper} {o : Oper} {a : Act} {Q : Exit → Act → World → Prop}

theorem wpList_look (hg : o.guard = none) (m x : Operand) (hop : o.op = Op.lookup 50 m x true) {mb n : Nat} {K : List Int} (hm : a.eval m = .map (some mb)) (h : MapIs w mb n K) {k : Int} (hx : a.eval x = .int .i64 k) (hk : k ∈ K) (hs : 0 ≤ k ∧ k < 1000000)
    (hK : wpList Try.prog ops Q rest (a.put o.dst (.tuple #[.int .i64 k, .bool true])) w) : wpList Try.prog ops Q (o :: rest) a w := by
  obtain ⟨D, h1, h2, h3⟩ := h
  refine wpList_lookup_own_ok_int _ hg m x 50 hop 3 3 .i64 lawI Try.underlying50 Try.underlying3 (zeroI _) mb n D hm h1 _ _ hx (keyOf_int_mk Try.underlying3 (wf_small hs)) ?_
  intro c hat _
  rw [(h3 k hk).2] at hat
  injection hat with hat
  injection hat with _ hat
  subst hat
  rw [(h3 k hk).1]
  exact hK

theorem wpList_strike (hg : o.guard = none) (m x : Operand) (hop : o.op = Op.call { callee := Callee.builtin Builtin.delete, args := #[m, x], argTypes := #[50, 3] }) {mb n : Nat} {k : Int} {K : List Int} (hm : a.eval m = .map (some mb)) (h : MapIs w mb n (k :: K)) (hnk : k ∉ K) (hx : a.eval x = .int .i64 k) (hs : 0 ≤ k ∧ k < 1000000)
    (hK : ∀ w', MapIs w' mb n K → Turn (fun i => i = mb) w w' → wpList Try.prog ops Q rest (a.put o.dst (.tuple #[])) w') : wpList Try.prog ops Q (o :: rest) a w := by
  obtain ⟨D, h1, h2, h3⟩ := h
  refine wpList_delete_own _ hg m x 50 3 hop 3 lawI Try.underlying50 _ mb n D hm h1 _ _ hx (keyOf_int_mk Try.underlying3 (wf_small hs)) ?_
  intro w' k1 k2
  refine hK w' ⟨_, k1, fun y hy => ?_, fun y hy => ?_⟩ (Turn.ofGrown k2.grown (fun i hi => by injection hi with hi; exact hi.symm))
  · by_cases e : y = k
    · subst e
      exact has_del_same
    · rw [has_del_other (lit_ne e)]
      exact h2 y (fun h => by
        rcases List.mem_cons.1 h with h | h
        · exact e h
        · exact hy h)
  · have e : y ≠ k := fun e => hnk (e ▸ hy)
    rw [has_del_other (lit_ne e), atKey_del_other (lit_ne e)]
    exact h3 y (List.mem_cons_of_mem _ hy)

theorem wpList_write (hg : o.guard = none) (m x v : Operand) (hop : o.op = Op.mapUpdate 50 m x v) {mb n : Nat} {k : Int} {K : List Int} (hm : a.eval m = .map (some mb)) (h : MapIs w mb n K) (hn : n ≤ 1000) (hx : a.eval x = .int .i64 k) (hv : a.eval v = .int .i64 k) (hs : 0 ≤ k ∧ k < 1000000)
    (hK : ∀ w', MapIs w' mb (n + 1) (K ++ [k]) → Turn (fun i => i = mb) w w' → wpList Try.prog ops Q rest (a.put o.dst undef) w') : wpList Try.prog ops Q (o :: rest) a w := by
  obtain ⟨D, h1, h2, h3⟩ := h
  refine wpList_mapUpdate_own _ hg m x v 50 hop 3 3 lawI Try.underlying50 _ mb n D hm h1 (by unfold maxLen; omega) _ _ _ hx hv (keyOf_int_mk Try.underlying3 (wf_small hs)) _ [] (plainElem_int Try.underlying3 (wf_small hs)) ?_
  intro w' k1 k2
  have hM := h1.isMap
  refine hK w' ⟨_, k1, fun y hy => ?_, fun y hy => ?_⟩ (Turn.ofGrown k2 (fun i hi => by injection hi with hi; exact hi.symm))
  · have e : y ≠ k := fun e => hy (by rw [e]; simp)
    rw [has_put_other (lit_ne e)]
    exact h2 y (fun h => hy (by simp [h]))
  · by_cases e : y = k
    · subst e
      exact ⟨has_put_same (k := .int .i64 y) hM trivial _, atKey_put_same (k := .int .i64 y) hM trivial _ _⟩
    · rw [has_put_other (lit_ne e), atKey_put_other (lit_ne e)]
      refine h3 y ?_
      rcases List.mem_append.1 hy with h | h
      · exact h
      · exact absurd (List.mem_singleton.1 h) e
end

/-! ### plain -/
structure FrP (c : Ck) (E : List Int) (j : Nat) : Prop where
  len : E.length = 16
  work : ∀ k, (h : k < E.length) → E[k] = 0 ∨ (1 ≤ E[k] ∧ E[k] ≤ j ∧ ∃ e, c.ws[k]? = some e ∧ e ≠ 0 ∧ ∀ p ∈ c.th, E[k] - 1 < p.1 → e ≤ p.2)
  things : ∀ p ∈ c.th, 0 ≤ p.1 ∧ p.1 < (j : Int)
  rising : c.th.Pairwise (fun p q => p.1 < q.1)

theorem FrP.start {n every epoch : Int} : FrP (Ck.new n every epoch) (List.replicate 16 0) 0 :=
  ⟨List.length_replicate .., fun k h => Or.inl (List.getElem_replicate ..), fun p hp => (by cases hp), List.Pairwise.nil⟩

section
variable {c c' : Ck} {E : List Int} {j : Nat}

theorem FrP.later (h : FrP c E j) (h1 : c'.ws = c.ws) (h2 : c'.th = c.th) : FrP c' E (j + 1) := by
  refine ⟨h.len, fun k hk => ?_, fun p hp => ?_, by rw [h2]; exact h.rising⟩
  · rcases h.work k hk with h3 | ⟨h3, h4, h5⟩
    · exact Or.inl h3
    · rw [h1, h2]
      exact Or.inr ⟨h3, by omega, h5⟩
  · rw [h2] at hp
    have := h.things p hp
    omega

theorem FrP.enter (h : FrP c E j) (ho : c.Ok) {k : Nat} (hk : c.ws[k]? = some 0) : FrP (c.enter k) (E.set k (j + 1 : Int)) (j + 1) := by
  refine ⟨by rw [List.length_set]; exact h.len, fun i hi => ?_, fun p hp => ?_, h.rising⟩
  · rw [List.length_set] at hi
    by_cases e : k = i
    · subst e
      right
      rw [List.getElem_set_self]
      refine ⟨by omega, by omega, c.now, ?_, by have := ho.now1; omega, fun p hp h1 => ?_⟩
      · show (c.ws.set k c.now)[k]? = _
        rw [List.getElem?_set_self (List.getElem?_eq_some_iff.1 hk).1]
      · have := h.things p hp
        omega
    · rw [List.getElem_set_ne e]
      rcases h.work i hi with h3 | ⟨h3, h4, e5, h5⟩
      · exact Or.inl h3
      · refine Or.inr ⟨h3, by omega, e5, ?_, h5.2⟩
        show (c.ws.set k c.now)[i]? = _
        rw [List.getElem?_set_ne e]
        exact h5.1
  · have := h.things p hp
    omega

theorem FrP.leave (h : FrP c E j) (k : Nat) : FrP (c.leave k) (E.set k 0) (j + 1) := by
  refine ⟨by rw [List.length_set]; exact h.len, fun i hi => ?_, fun p hp => ?_, h.rising⟩
  · rw [List.length_set] at hi
    by_cases e : k = i
    · subst e
      left
      rw [List.getElem_set_self]
    · rw [List.getElem_set_ne e]
      rcases h.work i hi with h3 | ⟨h3, h4, e5, h5⟩
      · exact Or.inl h3
      · refine Or.inr ⟨h3, by omega, e5, ?_, h5.2⟩
        show (c.ws.set k 0)[i]? = _
        rw [List.getElem?_set_ne e]
        exact h5.1
  · have := h.things p hp
    omega

theorem FrP.retire (h : FrP c E j) (ho : c.Ok) : FrP (c.retire j) E (j + 1) := by
  refine ⟨h.len, fun i hi => ?_, fun p hp => ?_, ?_⟩
  · rcases h.work i hi with h3 | ⟨h3, h4, e5, h5, h6, h7⟩
    · exact Or.inl h3
    · refine Or.inr ⟨h3, by omega, e5, h5, h6, fun p hp h8 => ?_⟩
      rcases List.mem_append.1 hp with hp | hp
      · exact h7 p hp h8
      · rw [List.mem_singleton.1 hp]
        rcases ho.work e5 (List.mem_of_getElem? h5) with h9 | h9
        · exact absurd h9 h6
        · exact h9.2.1
  · rcases List.mem_append.1 hp with hp | hp
    · have := h.things p hp
      omega
    · rw [List.mem_singleton.1 hp]
      show (0 : Int) ≤ j ∧ (j : Int) < ((j + 1 : Nat) : Int)
      omega
  · show (c.th ++ [((j : Int), c.now)]).Pairwise _
    rw [List.pairwise_append]
    refine ⟨h.rising, by simp, fun p hp q hq => ?_⟩
    rw [List.mem_singleton.1 hq]
    exact (h.things p hp).2

theorem FrP.free (h : FrP c E j) : FrP c.free E (j + 1) := by
  refine ⟨h.len, fun i hi => ?_, fun p hp => ?_, h.rising.sublist (List.drop_sublist _ _)⟩
  · rcases h.work i hi with h3 | ⟨h3, h4, e5, h5, h6, h7⟩
    · exact Or.inl h3
    · exact Or.inr ⟨h3, by omega, e5, h5, h6, fun p hp => h7 p (List.mem_of_mem_drop hp)⟩
  · have := h.things p (List.mem_of_mem_drop hp)
    omega

theorem freed_prefix (snap : Int) (L : List (Int × Int)) : freed snap L <+: L := List.takeWhile_prefix _
theorem freed_past {snap : Int} {p : Int × Int} : ∀ {L : List (Int × Int)}, p ∈ freed snap L → p.2 ≤ snap
  | [], h => by cases h
  | q :: L, h => by
    unfold freed at h
    rw [List.takeWhile_cons] at h
    split at h
    · rename_i hq
      rcases List.mem_cons.1 h with rfl | h
      · simpa using hq
      · exact freed_past (L := L) h
    · cases h

theorem nodup_things (h : FrP c E j) : (c.th.map (·.1)).Pairwise (· < ·) := by
  rw [List.pairwise_map]
  exact h.rising

/-- the things told by Free, one by one -/
theorem FrP.told (h : FrP c E j) (ho : c.Ok) {y : Nat} {x : Int} (hy : ((freed c.snap c.th).map (·.1))[y]? = some x) :
    (c.th.map (·.1)).drop y = x :: (c.th.map (·.1)).drop (y + 1) ∧ x ∉ (c.th.map (·.1)).drop (y + 1) ∧ 0 ≤ x ∧ x < (j : Int) ∧ ∀ z, (hz : z < E.length) → E[z] = 0 ∨ (1 ≤ E[z] ∧ E[z] ≤ j ∧ ¬ E[z] - 1 < x) := by
  obtain ⟨t, ht⟩ := freed_prefix c.snap c.th
  have hm : c.th.map (·.1) = (freed c.snap c.th).map (·.1) ++ t.map (·.1) := by rw [← List.map_append, ht]
  have hyl : y < ((freed c.snap c.th).map (·.1)).length := (List.getElem?_eq_some_iff.1 hy).1
  have hg : (c.th.map (·.1))[y]? = some x := by rw [hm, List.getElem?_append_left hyl]; exact hy
  obtain ⟨hl, hx⟩ := List.getElem?_eq_some_iff.1 hg
  have hd : (c.th.map (·.1)).drop y = x :: (c.th.map (·.1)).drop (y + 1) := by
    rw [List.drop_eq_getElem_cons hl, hx]
  have hp := (nodup_things h).sublist (List.drop_sublist y _)
  rw [hd, List.pairwise_cons] at hp
  rw [List.getElem?_map] at hy
  obtain ⟨q, hq, rfl⟩ := Option.map_eq_some_iff.1 hy
  have hqf : q ∈ freed c.snap c.th := List.mem_of_getElem? hq
  have hqt : q ∈ c.th := (freed_prefix c.snap c.th).subset hqf
  have h1 := h.things q hqt
  refine ⟨hd, fun hh => ?_, h1.1, h1.2, fun z hz => ?_⟩
  · have := hp.1 _ hh
    omega
  · rcases h.work z hz with h3 | ⟨h3, h4, e5, h5, h6, h7⟩
    · exact Or.inl h3
    · refine Or.inr ⟨h3, h4, fun h8 => ?_⟩
      have h9 := h7 q hqt h8
      have h10 := freed_past hqf
      rcases ho.work e5 (List.mem_of_getElem? h5) with h11 | h11
      · exact h6 h11
      · omega
end

section
variable {g : Nat} {c : Ck} {w wr : World} {L : List (Nat × Obj)}
theorem Has.adv'' (h : Has g c w wr L) : Calls Try.prog 16 #[.pointer (some ⟨g, 0, none⟩)] wr fun e w' => ∃ v, e = .returned v ∧ ∃ c', Hid (c'.ws = c.ws ∧ c'.th = c.th) ∧ Hid (Has g c' w w' L) := by
  by_cases hn : c.now = 2147483648
  · exact (h.last hn).mono fun e w' ⟨he, h1⟩ => ⟨_, he, c, (⟨rfl, rfl⟩ : c.ws = c.ws ∧ c.th = c.th), h1⟩
  · cases hl : c.late with
    | true => exact (h.late hn hl).mono fun e w' ⟨he, h1⟩ => ⟨_, he, c, (⟨rfl, rfl⟩ : c.ws = c.ws ∧ c.th = c.th), h1⟩
    | false => exact (h.rise hn hl).mono fun e w' ⟨he, h1⟩ => ⟨_, he, c.rise, (⟨rfl, rfl⟩ : c.rise.ws = c.ws ∧ c.rise.th = c.th), h1⟩

/-- a block beside the object becomes another one -/
theorem Stand.write {I : World → (Nat → Prop) → Prop} {w' : World} (R : Res I) (h : Stand I w wr L) {b : Nat} {o o' : Obj} (hb : (b, o) ∈ L) (ht : Turn (fun i => i = b) wr w') (ho : w'.heap[b]? = some o') (L' : List (Nat × Obj))
    (hL : ∀ p ∈ L', (p ∈ L ∧ p.1 ≠ b) ∨ p = (b, o')) : Stand I w w' L' := by
  obtain ⟨F, h1, h2, h3, h4, h5⟩ := h
  refine ⟨F, R.kept h1 ht (fun j hj e => h3 _ hb (by rw [e] at hj; exact hj)), h2, fun p hp hF => ?_, fun p hp => ?_, h5.trans ((ht.mono (fun j e => by rw [e]; exact (h4 _ hb).2)).toBelow h5.size)⟩
  · rcases hL p hp with ⟨h, _⟩ | rfl
    · exact h3 p h hF
    · exact h3 _ hb hF
  · rcases hL p hp with ⟨h, hn⟩ | rfl
    · exact ⟨(ht.block p.1 (lt_of (h4 p h).1) hn).trans (h4 p h).1, (h4 p h).2⟩
    · exact ⟨ho, (h4 _ hb).2⟩
end

end Go.Proofs.Ytonblbopfbjiaaa

/- A map of texts to numbers, of the law's own, beside a node: it has the node's keys and values. -/
import Derived.Test.YtoknebbkpkcomaaNStand
import Derived.Maps.OwnSet
import Derived.StringKeys
namespace Go.Proofs.Ytoknebbkpkcomaa
open Go.RowKit Go.Maps

theorem lawS : Keyed Try.prog 9 := string_keyed Try.underlying9
theorem zeroI (w : World) : (zeroValue 3).run Try.prog w = .ok (.int .i64 0) w := by kernel_rfl

abbrev kl (k : ByteArray) : Lit := .string k.data.toList
theorem kl_ne {a b : ByteArray} (h : a ≠ b) : kl a ≠ kl b := fun e => by
  injection e with e
  exact h (by cases a; cases b; simpa using e)

structure MapD (D : DataW Unit) (ks : List Kv) : Prop where
  size : Maps.size D = ks.length
  no : ∀ k, k ∉ ks.map (·.1) → Maps.has D (kl k) = false
  yes : ∀ k v, (k, v) ∈ ks → Maps.has D (kl k) = true ∧ D.atKey (kl k) (.lit (.int .i64 0)) = .lit (.int .i64 v)

def MapIs (u : World) (mb c : Nat) (ks : List Kv) : Prop := ∃ D : DataW Unit, u.ownsMap Try.prog 9 (plainElem Try.prog 3) mb c D ∧ MapD D ks
def MapO (mb : Nat) (O : Obj) (c : Nat) (ks : List Kv) : Prop := ∃ u : World, u.heap[mb]? = some O ∧ MapIs u mb c ks

theorem MapIs.heap {u u' : World} {mb c : Nat} {ks : List Kv} (h : MapIs u mb c ks) (hu : u'.heap[mb]? = u.heap[mb]?) : MapIs u' mb c ks := by
  obtain ⟨D, ⟨es, clock, h1, h2⟩, h3⟩ := h
  exact ⟨D, ⟨es, clock, hu.trans h1, h2⟩, h3⟩
theorem MapO.is {u : World} {mb c : Nat} {O : Obj} {ks : List Kv} (h : MapO mb O c ks) (hu : u.heap[mb]? = some O) : MapIs u mb c ks := by
  obtain ⟨v, h1, h2⟩ := h
  exact h2.heap (hu.trans h1.symm)
theorem MapIs.obj {u : World} {mb c : Nat} {ks : List Kv} (h : MapIs u mb c ks) : ∃ O, u.heap[mb]? = some O ∧ MapO mb O c ks := by
  obtain ⟨D, ⟨es, clock, h1, h2⟩, h3⟩ := id h
  exact ⟨_, h1, u, h1, h⟩
theorem MapO.mono {mb c d : Nat} {O : Obj} {ks : List Kv} (h : MapO mb O c ks) (hn : c ≤ d) : MapO mb O d ks := by
  obtain ⟨u, h1, D, h2, h3⟩ := h
  exact ⟨u, h1, D, h2.mono hn, h3⟩
theorem mapIs_made (u : World) : MapIs (u.alloc (.map #[] 0)) u.heap.size 0 [] :=
  ⟨.map [], World.ownsMap_made u _ _ _, rfl, fun _ _ => rfl, fun _ _ h => by cases h⟩

theorem wf_num {x : Int} (h : Num x) : (Lit.int .i64 x).wf = true := WalkArith.wf_i64 (by omega)

/-- is the key among them? -/
def hasK (k : ByteArray) (ks : List Kv) : Bool := ks.any fun p => decide (p.1 = k)
theorem hasK_iff {k : ByteArray} {ks : List Kv} : hasK k ks = true ↔ k ∈ ks.map (·.1) := by simp [hasK]

/-- what a put makes of the keys -/
structure PutL (ks ks' : List Kv) (k : ByteArray) (v : Int) : Prop where
  size : ks'.length = if hasK k ks then ks.length else ks.length + 1
  no : ∀ a, a ∉ ks'.map (·.1) → a ≠ k ∧ a ∉ ks.map (·.1)
  yes : ∀ a b, (a, b) ∈ ks' → (a = k ∧ b = v) ∨ (a ≠ k ∧ (a, b) ∈ ks)
structure DelL (ks ks' : List Kv) (k : ByteArray) : Prop where
  size : ks'.length + (if hasK k ks then 1 else 0) = ks.length
  no : ∀ a, a ∉ ks'.map (·.1) → a = k ∨ a ∉ ks.map (·.1)
  yes : ∀ a b, (a, b) ∈ ks' → a ≠ k ∧ (a, b) ∈ ks

theorem MapD.hasIff {D : DataW Unit} {ks : List Kv} (h : MapD D ks) (k : ByteArray) : Maps.has D (kl k) = hasK k ks := by
  by_cases hk : k ∈ ks.map (·.1)
  · obtain ⟨⟨a, v⟩, hp, rfl⟩ := List.mem_map.1 hk
    rw [(h.yes a v hp).1, hasK_iff.2 hk]
  · rw [h.no k hk]
    cases e : hasK k ks with
    | false => rfl
    | true => exact absurd (hasK_iff.1 e) hk

theorem MapD.put {D : DataW Unit} {ks ks' : List Kv} {k : ByteArray} {v : Int} (h : MapD D ks) (hT : Tidy D) (hp : PutL ks ks' k v) : MapD (D.put (kl k) (.lit (.int .i64 v))) ks' := by
  refine ⟨?_, fun a ha => ?_, fun a b hab => ?_⟩
  · rw [size_put hT, h.hasIff, hp.size, h.size]
  · obtain ⟨h1, h2⟩ := hp.no a ha
    rw [has_put_other (kl_ne h1)]
    exact h.no a h2
  · rcases hp.yes a b hab with ⟨rfl, rfl⟩ | ⟨h1, h2⟩
    · exact ⟨has_put_same (k := kl a) hT.isMap trivial _, atKey_put_same (k := kl a) hT.isMap trivial _ _⟩
    · rw [has_put_other (kl_ne h1), atKey_put_other (kl_ne h1)]
      exact h.yes a b h2
theorem MapD.del {D : DataW Unit} {ks ks' : List Kv} {k : ByteArray} (h : MapD D ks) (hT : Tidy D) (hp : DelL ks ks' k) : MapD (D.del (kl k)) ks' := by
  refine ⟨?_, fun a ha => ?_, fun a b hab => ?_⟩
  · have h1 := size_del (k := kl k) hT
    have h2 := hp.size
    rw [h.hasIff, h.size] at h1
    omega
  · rcases hp.no a ha with rfl | h1
    · exact has_del_same
    · by_cases e : a = k
      · subst e; exact has_del_same
      · rw [has_del_other (kl_ne e)]
        exact h.no a h1
  · obtain ⟨h1, h2⟩ := hp.yes a b hab
    rw [has_del_other (kl_ne h1), atKey_del_other (kl_ne h1)]
    exact h.yes a b h2

section
variable {w : World} {ops : Array Oper} {rest : List Oper} {o : Oper} {a : Act} {Q : Exit → Act → World → Prop}

theorem wpList_lookS (hg : o.guard = none) (m x : Operand) (hop : o.op = Op.lookup 58 m x true) {mb c : Nat} {n : Nd} (hm : a.eval m = .map (some mb)) (h : MapIs w mb c n.ks) {k : ByteArray} (hx : a.eval x = .string k) (hs : k.size ≤ maxLen) {v : Int} {b : Bool} (hG : GetsTo n k v b)
    (hK : wpList Try.prog ops Q rest (a.put o.dst (.tuple #[.int .i64 v, .bool b])) w) : wpList Try.prog ops Q (o :: rest) a w := by
  obtain ⟨D, h1, h2⟩ := h
  refine wpList_lookup_own_ok_int _ hg m x 58 hop 9 3 .i64 lawS Try.underlying58 Try.underlying3 (zeroI _) mb c D hm h1 _ _ hx (WideMaps.keyOf_string_mk Try.underlying9 hs) ?_
  intro z hat _
  rcases hG with ⟨hk, rfl, rfl⟩ | ⟨i, hi, rfl⟩
  · have h3 := h2.no k hk
    rw [atKey_of_not_has h3] at hat
    injection hat with hat
    injection hat with _ hat
    subst hat
    rw [h3]
    exact hK
  · obtain ⟨h3, h4⟩ := h2.yes k v (List.mem_of_getElem? hi)
    rw [h4] at hat
    injection hat with hat
    injection hat with _ hat
    subst hat
    rw [h3]
    exact hK
theorem wpList_putS (hg : o.guard = none) (m x y : Operand) (hop : o.op = Op.mapUpdate 58 m x y) {mb c : Nat} {ks ks' : List Kv} (hm : a.eval m = .map (some mb)) (h : MapIs w mb c ks) (hc : c ≤ 1000) {k : ByteArray} (hx : a.eval x = .string k) (hs : k.size ≤ maxLen) {v : Int} (hy : a.eval y = .int .i64 v) (hv : Num v) (hp : PutL ks ks' k v)
    (hK : ∀ w', MapIs w' mb (c + 1) ks' → Turn (fun i => i = mb) w w' → wpList Try.prog ops Q rest (a.put o.dst undef) w') : wpList Try.prog ops Q (o :: rest) a w := by
  obtain ⟨D, h1, h2⟩ := h
  refine wpList_mapUpdate_own _ hg m x y 58 hop 9 3 lawS Try.underlying58 _ mb c D hm h1 (by unfold maxLen; omega) _ _ _ hx hy (WideMaps.keyOf_string_mk Try.underlying9 hs) _ [] (plainElem_int Try.underlying3 (wf_num hv)) ?_
  intro w' k1 k2
  exact hK w' ⟨_, k1, h2.put (h1.tidy lawS) hp⟩ (Turn.ofGrown k2 (fun i hi => by injection hi with hi; exact hi.symm))
theorem wpList_delS (hg : o.guard = none) (m x : Operand) (hop : o.op = Op.call { callee := Callee.builtin Builtin.delete, args := #[m, x], argTypes := #[58, 9] }) {mb c : Nat} {ks ks' : List Kv} (hm : a.eval m = .map (some mb)) (h : MapIs w mb c ks) {k : ByteArray} (hx : a.eval x = .string k) (hs : k.size ≤ maxLen) (hp : DelL ks ks' k)
    (hK : ∀ w', MapIs w' mb c ks' → Turn (fun i => i = mb) w w' → wpList Try.prog ops Q rest (a.put o.dst (.tuple #[])) w') : wpList Try.prog ops Q (o :: rest) a w := by
  obtain ⟨D, h1, h2⟩ := h
  refine wpList_delete_own _ hg m x 58 9 hop 3 lawS Try.underlying58 _ mb c D hm h1 _ _ hx (WideMaps.keyOf_string_mk Try.underlying9 hs) ?_
  intro w' k1 k2
  exact hK w' ⟨_, k1, h2.del (h1.tidy lawS) hp⟩ (Turn.ofGrown k2.grown (fun i hi => by injection hi with hi; exact hi.symm))
theorem wpList_lenS (hg : o.guard = none) (m : Operand) (hop : o.op = Op.call { callee := Callee.builtin Builtin.len, args := #[m], argTypes := #[58] }) {mb c : Nat} {ks : List Kv} (hm : a.eval m = .map (some mb)) (h : MapIs w mb c ks) {N : Nat} (hN : ks.length = N)
    (hK : wpList Try.prog ops Q rest (a.put o.dst (.int .i64 (N : Int))) w) : wpList Try.prog ops Q (o :: rest) a w := by
  obtain ⟨D, h1, h2⟩ := h
  refine wpList_len_own _ hg m 58 hop 9 3 Try.underlying58 _ mb c D hm h1 ?_
  rw [h2.size, hN]
  exact hK
end

/-! ### the node's keys beside it -/
section
variable {n n' : Nd} {k : ByteArray}
theorem Nd.Ok.nodup (h : n.Ok) : n.keys.Nodup := by
  have : n.keys.Pairwise (fun a b => bl a b = true) := List.pairwise_map.2 h.rise
  exact this.imp (fun h => bl_ne h)
theorem Nd.Ok.one (h : n.Ok) {i j : Nat} {a b : Kv} (hi : n.ks[i]? = some a) (hj : n.ks[j]? = some b) (e : a.1 = b.1) : i = j := by
  rcases Nat.lt_trichotomy i j with h1 | h1 | h1
  · exact absurd e (bl_ne (h.lt h1 hi hj))
  · exact h1
  · exact absurd e.symm (bl_ne (h.lt h1 hj hi))

theorem PutsTo.putL {v was e : Int} {there : Bool} (hp : PutsTo n k v n' was there e) (ho : n.Ok) (he : e = 0) : PutL n.ks n'.ks k v := by
  rcases hp with ⟨h, rfl, rfl, rfl, rfl⟩ | ⟨i, hi, rfl, rfl, rfl⟩ | ⟨h1, h2, h3, rfl, rfl, rfl, rfl⟩ | ⟨i, h1, h2, h3, h4, rfl, rfl, rfl, rfl⟩
  · exact absurd he (by decide)
  · obtain ⟨hil, hie⟩ := List.getElem?_eq_some_iff.1 hi
    have hk : k ∈ n.ks.map (·.1) := List.mem_map.2 ⟨_, List.mem_of_getElem? hi, rfl⟩
    refine ⟨by rw [if_pos (hasK_iff.2 hk)]; exact List.length_set .., fun a ha => ?_, fun a b hab => ?_⟩
    · have hm : a ∉ n.ks.map (·.1) := fun hm => ha (by
        obtain ⟨⟨a', b⟩, hp, rfl⟩ := List.mem_map.1 hm
        obtain ⟨j, hj⟩ := List.getElem?_of_mem hp
        by_cases e : i = j
        · subst e
          rw [hi] at hj
          cases hj
          exact List.mem_map.2 ⟨(k, v), List.mem_of_getElem? (show (n.ks.set i (k, v))[i]? = _ from List.getElem?_set_self hil), rfl⟩
        · exact List.mem_map.2 ⟨(a', b), List.mem_of_getElem? (show (n.ks.set i (k, v))[j]? = _ by rw [List.getElem?_set_ne e]; exact hj), rfl⟩)
      exact ⟨fun e => hm (e ▸ hk), hm⟩
    · obtain ⟨j, hj⟩ := List.getElem?_of_mem hab
      have hj' : (n.ks.set i (k, v))[j]? = some (a, b) := hj
      by_cases e : i = j
      · subst e
        rw [List.getElem?_set_self hil] at hj'
        cases hj'
        exact Or.inl ⟨rfl, rfl⟩
      · rw [List.getElem?_set_ne e] at hj'
        exact Or.inr ⟨fun e2 => e (ho.one hi hj' e2.symm), List.mem_of_getElem? hj'⟩
  · exact absurd he (by decide)
  · have hk : k ∉ n.ks.map (·.1) := At.absent ho h1 h2
    have hmem : ∀ p, p ∈ n.ks.insertIdx i (k, v) ↔ p = (k, v) ∨ p ∈ n.ks := fun p => List.mem_insertIdx h1.le
    refine ⟨by rw [if_neg (fun e => hk (hasK_iff.1 e))]; exact List.length_insertIdx_of_le_length h1.le _, fun a ha => ?_, fun a b hab => ?_⟩
    · refine ⟨fun e => ha (List.mem_map.2 ⟨(k, v), (hmem _).2 (Or.inl rfl), e.symm⟩), fun hm => ?_⟩
      obtain ⟨p, hp, rfl⟩ := List.mem_map.1 hm
      exact ha (List.mem_map.2 ⟨p, (hmem _).2 (Or.inr hp), rfl⟩)
    · rcases (hmem _).1 hab with h | h
      · cases h; exact Or.inl ⟨rfl, rfl⟩
      · exact Or.inr ⟨fun e => hk (List.mem_map.2 ⟨_, h, e⟩), h⟩
theorem TakesTo.delL {was e : Int} (hp : TakesTo n k n' was e) (ho : n.Ok) : DelL n.ks n'.ks k := by
  rcases hp with ⟨hk, rfl, rfl, rfl⟩ | ⟨i, hi, rfl, rfl⟩
  · have hk' := hk
    unfold Nd.keys at hk'
    exact ⟨by rw [if_neg (fun e => hk' (hasK_iff.1 e))]; rfl, fun a ha => Or.inr ha, fun a b hab => ⟨fun e => hk (List.mem_map.2 ⟨_, hab, e⟩), hab⟩⟩
  · obtain ⟨hil, hie⟩ := List.getElem?_eq_some_iff.1 hi
    have hk : k ∈ n.ks.map (·.1) := List.mem_map.2 ⟨_, List.mem_of_getElem? hi, rfl⟩
    refine ⟨?_, fun a ha => ?_, fun a b hab => ?_⟩
    · rw [if_pos (hasK_iff.2 hk)]
      show (n.ks.eraseIdx i).length + 1 = _
      rw [List.length_eraseIdx_of_lt hil]
      omega
    · by_cases e : a = k
      · exact Or.inl e
      · refine Or.inr fun hm => ha ?_
        obtain ⟨⟨a', b⟩, hp, rfl⟩ := List.mem_map.1 hm
        obtain ⟨j, hj⟩ := List.getElem?_of_mem hp
        have hne : i ≠ j := fun e2 => by
          subst e2
          rw [hi] at hj
          cases hj
          exact e rfl
        refine List.mem_map.2 ⟨(a', b), ?_, rfl⟩
        show _ ∈ n.ks.eraseIdx i
        by_cases h : j < i
        · exact List.mem_of_getElem? (i := j) (by rw [List.getElem?_eraseIdx, if_pos h]; exact hj)
        · exact List.mem_of_getElem? (i := j - 1) (by rw [List.getElem?_eraseIdx, if_neg (by omega), show j - 1 + 1 = j by omega]; exact hj)
    · obtain ⟨j, hj⟩ := List.getElem?_of_mem hab
      rcases del_get (show (n.ks.eraseIdx i)[j]? = _ from hj) with ⟨h1, h2⟩ | ⟨h1, h2⟩
      · exact ⟨fun e => by have := ho.one hi h2 e.symm; omega, List.mem_of_getElem? h2⟩
      · exact ⟨fun e => by have := ho.one hi h2 e.symm; omega, List.mem_of_getElem? h2⟩
theorem TakesTo.gets {was e : Int} (hp : TakesTo n k n' was e) : GetsTo n k was (decide (e = 0)) := by
  rcases hp with ⟨hk, rfl, rfl, rfl⟩ | ⟨i, hi, rfl, rfl⟩
  · exact .none hk
  · exact .some i _ hi
end

/-- a block beside the object becomes another one -/
theorem Stand.write {I : World → (Nat → Prop) → Prop} {w wr w' : World} {L : List (Nat × Obj)} (R : Res I) (h : Stand I w wr L) {b : Nat} {o o' : Obj} (hb : (b, o) ∈ L) (ht : Turn (fun i => i = b) wr w') (ho : w'.heap[b]? = some o') (L' : List (Nat × Obj))
    (hL : ∀ p ∈ L', (p ∈ L ∧ p.1 ≠ b) ∨ p = (b, o')) : Stand I w w' L' := by
  obtain ⟨F, h1, h2, h3, h4, h5⟩ := h
  refine ⟨F, R.kept h1 ht (fun j hj e => h3 _ hb (by rw [e] at hj; exact hj)), h2, fun p hp hF => ?_, fun p hp => ?_, h5.trans ((ht.mono (fun j e => by rw [e]; exact (h4 _ hb).2)).toBelow h5.size)⟩
  · rcases hL p hp with ⟨h, _⟩ | rfl
    · exact h3 p h hF
    · exact h3 _ hb hF
  · rcases hL p hp with ⟨h, hn⟩ | rfl
    · exact ⟨(ht.block p.1 (lt_of (h4 p h).1) hn).trans (h4 p h).1, (h4 p h).2⟩
    · exact ⟨ho, (h4 _ hb).2⟩

end Go.Proofs.Ytoknebbkpkcomaa

/- A map of texts to texts, of a call's own: it holds a table of names and keys. -/
import Derived.Test.YtibglhlhogfdnaaDoorUPure
import Derived.Test.YtibglhlhogfdnaaDoorCopy
import Derived.Maps.StringElems
import Derived.StringKeys
namespace Go.Proofs.YtibglhlhogfdnaaDoor
open Go.RowKit Go.Maps AP

theorem lawS : Keyed Tryd.prog 9 := string_keyed Tryd.underlying9
theorem zeroS (w : World) : (zeroValue 9).run Tryd.prog w = .ok (.string ⟨#[]⟩) w := by kernel_rfl
abbrev kl (k : ByteArray) : Lit := .string k.data.toList
theorem kl_ne {a b : ByteArray} (h : a ≠ b) : kl a ≠ kl b := fun e => by
  injection e with e
  exact h (by cases a; cases b; simpa using e)
theorem data_inj {a b : ByteArray} (h : a.data.toList = b.data.toList) : a = b := by cases a; cases b; simpa using h

theorem length_insK {k v : ByteArray} : ∀ {ks : List Kv}, Rise ks → (insK k v ks).length = if (getK k ks).isSome then ks.length else ks.length + 1
  | [], _ => rfl
  | p :: r, h => by
    obtain ⟨h1, h2⟩ := List.pairwise_cons.1 h
    have ih := length_insK (k := k) (v := v) h2
    unfold insK getK
    by_cases hp : bl p.1 k = true
    · rw [if_pos hp, if_neg (bl_ne hp), List.length_cons, ih, List.length_cons]
      split <;> rfl
    · rw [if_neg hp]
      by_cases e : p.1 = k
      · rw [if_pos e, if_pos e]
        rfl
      · rw [if_neg e, if_neg e]
        have : getK k r = none := getK_none.2 fun q hq e2 => by
          have hk : bl k p.1 = true := by
            rcases bl_tot k p.1 with h | h | h
            · exact h
            · exact absurd h.symm e
            · exact absurd h hp
          have := bl_tr hk (h1 q hq)
          rw [e2, bl_self] at this
          cases this
        rw [this]
        rfl
theorem length_delK {k : ByteArray} : ∀ {ks : List Kv}, Rise ks → (delK k ks).length + (if (getK k ks).isSome then 1 else 0) = ks.length
  | [], _ => rfl
  | p :: r, h => by
    obtain ⟨h1, h2⟩ := List.pairwise_cons.1 h
    have ih := length_delK (k := k) h2
    unfold delK at ih ⊢
    rw [List.filter_cons]
    unfold getK
    by_cases e : p.1 = k
    · rw [if_neg (by simp [e]), if_pos e]
      have hn : getK k r = none := getK_none.2 fun q hq e2 => by
        have := h1 q hq
        rw [e, e2, bl_self] at this
        cases this
      rw [hn] at ih
      simp only [Option.isSome_none, Bool.false_eq_true, if_false, Nat.add_zero] at ih
      rw [ih]
      rfl
    · rw [if_pos (by simp [e]), if_neg e, List.length_cons, List.length_cons]
      omega

structure MapD (D : DataW Unit) (K : List Kv) : Prop where
  size : Maps.size D = K.length
  has : ∀ k, Maps.has D (kl k) = (getK k K).isSome
  yes : ∀ k v, getK k K = some v → D.atKey (kl k) (.lit (.string [])) = .lit (.string v.data.toList)

/-- behind u, the map mb (that so many writes have touched at most) holds K -/
def MapIs (u : World) (mb c : Nat) (K : List Kv) : Prop := ∃ D : DataW Unit, u.ownsMap Tryd.prog 9 (plainElem Tryd.prog 9) mb c D ∧ MapD D K
theorem MapIs.heap {u u' : World} {mb c : Nat} {K : List Kv} (h : MapIs u mb c K) (hu : u'.heap[mb]? = u.heap[mb]?) : MapIs u' mb c K := by
  obtain ⟨D, ⟨es, clock, h1, h2⟩, h3⟩ := h
  exact ⟨D, ⟨es, clock, hu.trans h1, h2⟩, h3⟩
theorem MapIs.lt {u : World} {mb c : Nat} {K : List Kv} (h : MapIs u mb c K) : mb < u.heap.size := by
  obtain ⟨D, ⟨es, clock, h1, h2⟩, h3⟩ := h
  exact lt_of h1
theorem MapIs.mono {u : World} {mb c d : Nat} {K : List Kv} (h : MapIs u mb c K) (hn : c ≤ d) : MapIs u mb d K := by
  obtain ⟨D, h2, h3⟩ := h
  exact ⟨D, h2.mono hn, h3⟩
theorem mapIs_made (u : World) : MapIs (u.alloc (.map #[] 0)) u.heap.size 0 [] :=
  ⟨.map [], World.ownsMap_made u _ _ _, rfl, fun _ => rfl, fun _ _ h => by cases h⟩

theorem MapD.put {D : DataW Unit} {K : List Kv} {k v : ByteArray} (h : MapD D K) (hT : Tidy D) (hr : Rise K) : MapD (D.put (kl k) (.lit (.string v.data.toList))) (insK k v K) := by
  refine ⟨?_, fun a => ?_, fun a b hab => ?_⟩
  · rw [size_put hT, h.has, length_insK hr, h.size]
  · rw [getK_ins hr]
    by_cases e : a = k
    · subst e
      rw [if_pos rfl]
      exact has_put_same (k := kl a) hT.isMap trivial _
    · rw [if_neg e, has_put_other (kl_ne e)]
      exact h.has a
  · rw [getK_ins hr] at hab
    by_cases e : a = k
    · subst e
      rw [if_pos rfl] at hab
      cases hab
      exact atKey_put_same (k := kl a) hT.isMap trivial _ _
    · rw [if_neg e] at hab
      rw [atKey_put_other (kl_ne e)]
      exact h.yes a b hab
theorem MapD.del {D : DataW Unit} {K : List Kv} {k : ByteArray} (h : MapD D K) (hT : Tidy D) (hr : Rise K) : MapD (D.del (kl k)) (delK k K) := by
  refine ⟨?_, fun a => ?_, fun a b hab => ?_⟩
  · have h1 := size_del (k := kl k) hT
    have h2 := length_delK (k := k) hr
    rw [h.has, h.size] at h1
    omega
  · rw [getK_del]
    by_cases e : a = k
    · subst e
      rw [if_pos rfl]
      exact has_del_same
    · rw [if_neg e, has_del_other (kl_ne e)]
      exact h.has a
  · rw [getK_del] at hab
    by_cases e : a = k
    · rw [if_pos e] at hab; cases hab
    · rw [if_neg e] at hab
      rw [atKey_del_other (kl_ne e)]
      exact h.yes a b hab

/-- what a look into a table tells -/
def lookV (K : List Kv) (k : ByteArray) : ByteArray := (getK k K).getD ⟨#[]⟩

section
variable {w : World} {ops : Array Oper} {rest : List Oper} {o : Oper} {a : Act} {Q : Exit → Act → World → Prop}
set_option maxRecDepth 100000 in
theorem wpList_lookS (hg : o.guard = none) (m x : Operand) (hop : o.op = Op.lookup 50 m x true) {mb c : Nat} {K : List Kv} (hm : a.eval m = .map (some mb)) (h : MapIs w mb c K) {k v0 : ByteArray} {b0 : Bool} (hx : a.eval x = .string k) (hs : k.size ≤ maxLen) (hG : lookV K k = v0 ∧ (getK k K).isSome = b0)
    (hK : wpList Tryd.prog ops Q rest (a.put o.dst (.tuple #[.string v0, .bool b0])) w) : wpList Tryd.prog ops Q (o :: rest) a w := by
  obtain ⟨rfl, rfl⟩ := hG
  obtain ⟨D, h1, h2⟩ := h
  refine wpList_lookup_own_ok _ hg m x 50 hop 9 9 lawS Tryd.underlying50 (plainElem Tryd.prog 9) (zeroS _) (.lit (.string [])) [] (plainElem_string Tryd.underlying9 (by decide)) mb c D hm h1 _ _ hx (WideMaps.keyOf_string_mk Tryd.underlying9 hs) ?_
  intro v ps hv
  obtain ⟨s, rfl, hsv, _⟩ := plainElem_string_inv Tryd.underlying9 hv
  have hd : D.atKey (kl k) (.lit (.string [])) = .lit (.string s.data.toList) := congrArg Prod.fst hsv
  have he : lookV K k = s := by
    unfold lookV
    cases hg2 : getK k K with
    | none =>
      have h3 := h2.has k
      rw [hg2] at h3
      rw [atKey_of_not_has h3] at hd
      injection hd with hd
      injection hd with hd
      exact data_inj hd
    | some v =>
      have h3 := h2.yes k v hg2
      rw [h3] at hd
      injection hd with hd
      injection hd with hd
      exact data_inj hd
  rw [← he, h2.has]
  exact hK
set_option maxRecDepth 100000 in
theorem wpList_putS (hg : o.guard = none) (m x y : Operand) (hop : o.op = Op.mapUpdate 50 m x y) {mb c : Nat} {K : List Kv} (hr : Rise K) (hm : a.eval m = .map (some mb)) (h : MapIs w mb c K) (hc : c ≤ 1000000000) {k v : ByteArray} (hx : a.eval x = .string k) (hs : k.size ≤ maxLen) (hy : a.eval y = .string v) (hv : v.size ≤ maxLen)
    (hK : ∀ w', MapIs w' mb (c + 1) (insK k v K) → Turn (fun i => i = mb) w w' → wpList Tryd.prog ops Q rest (a.put o.dst undef) w') : wpList Tryd.prog ops Q (o :: rest) a w := by
  obtain ⟨D, h1, h2⟩ := h
  refine wpList_mapUpdate_own _ hg m x y 50 hop 9 9 lawS Tryd.underlying50 _ mb c D hm h1 (by unfold maxLen; omega) _ _ _ hx hy (WideMaps.keyOf_string_mk Tryd.underlying9 hs) _ [] (plainElem_string Tryd.underlying9 hv) ?_
  intro w' k1 k2
  exact hK w' ⟨_, k1, h2.put (h1.tidy lawS) hr⟩ (Turn.ofGrown k2 (fun i hi => by injection hi with hi; exact hi.symm))
set_option maxRecDepth 100000 in
theorem wpList_delS (hg : o.guard = none) (m x : Operand) (hop : o.op = Op.call { callee := Callee.builtin Builtin.delete, args := #[m, x], argTypes := #[50, 9] }) {mb c : Nat} {K : List Kv} (hr : Rise K) (hm : a.eval m = .map (some mb)) (h : MapIs w mb c K) {k : ByteArray} (hx : a.eval x = .string k) (hs : k.size ≤ maxLen)
    (hK : ∀ w', MapIs w' mb c (delK k K) → Turn (fun i => i = mb) w w' → wpList Tryd.prog ops Q rest (a.put o.dst (.tuple #[])) w') : wpList Tryd.prog ops Q (o :: rest) a w := by
  obtain ⟨D, h1, h2⟩ := h
  refine wpList_delete_own _ hg m x 50 9 hop 9 lawS Tryd.underlying50 _ mb c D hm h1 _ _ hx (WideMaps.keyOf_string_mk Tryd.underlying9 hs) ?_
  intro w' k1 k2
  exact hK w' ⟨_, k1, h2.del (h1.tidy lawS) hr⟩ (Turn.ofGrown k2.grown (fun i hi => by injection hi with hi; exact hi.symm))
set_option maxRecDepth 100000 in
theorem wpList_lenS (hg : o.guard = none) (m : Operand) (hop : o.op = Op.call { callee := Callee.builtin Builtin.len, args := #[m], argTypes := #[50] }) {mb c : Nat} {K : List Kv} (hm : a.eval m = .map (some mb)) (h : MapIs w mb c K) {N : Nat} (hN : K.length = N)
    (hK : wpList Tryd.prog ops Q rest (a.put o.dst (.int .i64 (N : Int))) w) : wpList Tryd.prog ops Q (o :: rest) a w := by
  obtain ⟨D, h1, h2⟩ := h
  refine wpList_len_own _ hg m 50 hop 9 9 Tryd.underlying50 _ mb c D hm h1 ?_
  rw [h2.size, hN]
  exact hK
end

def MapO (mb : Nat) (O : Obj) (c : Nat) (K : List Kv) : Prop := ∃ u : World, u.heap[mb]? = some O ∧ MapIs u mb c K
theorem MapO.is {u : World} {mb c : Nat} {O : Obj} {K : List Kv} (h : MapO mb O c K) (hu : u.heap[mb]? = some O) : MapIs u mb c K := by
  obtain ⟨v, h1, h2⟩ := h
  exact h2.heap (hu.trans h1.symm)
theorem MapIs.obj {u : World} {mb c : Nat} {K : List Kv} (h : MapIs u mb c K) : ∃ O, u.heap[mb]? = some O ∧ MapO mb O c K := by
  obtain ⟨D, ⟨es, clock, h1, h2⟩, h3⟩ := id h
  exact ⟨_, h1, u, h1, h⟩
set_option maxRecDepth 100000 in
theorem MapIs.put_run {w : World} {mb c : Nat} {K : List Kv} (h : MapIs w mb c K) (hr : Rise K) (hc : c ≤ 1000000000) {k v : ByteArray} (hs : k.size ≤ maxLen) (hv : v.size ≤ maxLen) :
    ∃ w', (Instr.mapUpdate 50 (.map (some mb)) (.string k) (.string v)).run Tryd.prog w = .ok () w' ∧ MapIs w' mb (c + 1) (insK k v K) ∧ Turn (fun i => i = mb) w w' := by
  obtain ⟨D, h1, h2⟩ := h
  obtain ⟨w', hrun, k1, k2⟩ := h1.update lawS Tryd.underlying50 (by unfold maxLen; omega) (WideMaps.keyOf_string_mk Tryd.underlying9 hs) (plainElem_string Tryd.underlying9 hv)
  exact ⟨w', hrun, ⟨_, k1, h2.put (h1.tidy lawS) hr⟩, Turn.ofGrown k2 (fun i hi => by injection hi with hi; exact hi.symm)⟩
end Go.Proofs.YtibglhlhogfdnaaDoor

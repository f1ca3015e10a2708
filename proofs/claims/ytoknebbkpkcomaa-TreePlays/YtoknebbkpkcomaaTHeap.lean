/- Where a tree of the program lies: its struct, the row of its leaves, its map, each leaf and its node. -/
import Derived.Test.YtoknebbkpkcomaaNStand
import Derived.Test.YtoknebbkpkcomaaTTreeJ
import Derived.Maps.OwnSet
namespace Go.Proofs.Ytoknebbkpkcomaa
open Go.RowKit Go.Maps

/-- How a pointer to a leaf reads: its block's number. -/
def ptrR : Value → Option (DataW Unit × List MemPlace)
  | .pointer none => some (.nil, [])
  | .pointer (some ⟨b, 0, none⟩) => some (.lit (.int .i64 (b : Int)), [])
  | _ => none
theorem ptrR_inv {v : Value} {b : Nat} {ps : List MemPlace} (h : ptrR v = some (.lit (.int .i64 (b : Int)), ps)) : v = .pointer (some ⟨b, 0, none⟩) := by
  unfold ptrR at h
  split at h
  · simp at h
  · simp at h
    have e := Int.ofNat.inj h.1
    rw [e]
  · cases h
theorem ptrR_nil {v : Value} {ps : List MemPlace} (h : ptrR v = some (.nil, ps)) : v = .pointer none := by
  unfold ptrR at h
  split at h
  · rfl
  · simp at h
  · cases h

theorem lawI : Keyed Try.prog 3 := int_keyed Try.underlying3
theorem zeroP (w : World) : (zeroValue 71).run Try.prog w = .ok (.pointer none) w := by kernel_rfl
theorem wf_small {x : Int} (h : 0 ≤ x ∧ x < 1000000) : (Lit.int .i64 x).wf = true := WalkArith.wf_i64 (by omega)
theorem lit_ne {x y : Int} (h : y ≠ x) : (Lit.int .i64 y) ≠ Lit.int .i64 x := fun e => h (by injection e)

/-! ### the map of leaves by their numbers -/
/-- the block m is a map with just the entries M -/
def LMap (u : World) (m n : Nat) (M : List (Int × Nat)) : Prop :=
  ∃ D : DataW Unit, u.ownsMap Try.prog 3 ptrR m n D ∧ (∀ x, (∀ q, (x, q) ∉ M) → Maps.has D (.int .i64 x) = false) ∧ ∀ p ∈ M, Maps.has D (.int .i64 p.1) = true ∧ D.atKey (.int .i64 p.1) .nil = .lit (.int .i64 (p.2 : Int))
theorem LMap.heap {u u' : World} {m n : Nat} {M : List (Int × Nat)} (h : LMap u m n M) (hu : u'.heap[m]? = u.heap[m]?) : LMap u' m n M := by
  obtain ⟨D, ⟨es, clock, h1, h2⟩, h3⟩ := h
  exact ⟨D, ⟨es, clock, hu.trans h1, h2⟩, h3⟩
theorem LMap.lt {u : World} {m n : Nat} {M : List (Int × Nat)} (h : LMap u m n M) : m < u.heap.size := by
  obtain ⟨D, ⟨es, clock, h1, h2⟩, h3⟩ := h
  exact lt_of h1
theorem LMap.ext {u : World} {m n : Nat} {M M' : List (Int × Nat)} (h : LMap u m n M) (he : ∀ p, p ∈ M ↔ p ∈ M') : LMap u m n M' := by
  obtain ⟨D, h1, h2, h3⟩ := h
  exact ⟨D, h1, fun x hx => h2 x (fun q hq => hx q ((he _).1 hq)), fun p hp => h3 p ((he p).2 hp)⟩
theorem lmap_made (u : World) : LMap (u.alloc (.map #[] 0)) u.heap.size 0 [] :=
  ⟨.map [], World.ownsMap_made u _ _ _, fun _ _ => rfl, fun _ h => by cases h⟩
theorem LMap.look {u : World} {m n : Nat} {M : List (Int × Nat)} (h : LMap u m n M) {x : Int} {q : Nat} (hs : 0 ≤ x ∧ x < 1000000) (hx : (x, q) ∈ M) :
    (Instr.lookup 60 (.map (some m)) (.int .i64 x) true).run Try.prog u = .ok (.tuple #[.pointer (some ⟨q, 0, none⟩), .bool true]) u := by
  obtain ⟨D, h1, h2, h3⟩ := h
  obtain ⟨v, ps, hrun, hv⟩ := h1.look_ok lawI Try.underlying60 (zeroP u) (zd := .nil) (zp := []) rfl (keyOf_int_mk Try.underlying3 (wf_small hs))
  obtain ⟨e1, e2⟩ := h3 _ hx
  rw [e2] at hv
  rw [e1, ptrR_inv hv] at hrun
  exact hrun
theorem LMap.miss {u : World} {m n : Nat} {M : List (Int × Nat)} (h : LMap u m n M) {x : Int} (hs : 0 ≤ x ∧ x < 1000000) (hx : ∀ q, (x, q) ∉ M) :
    ∃ v, (Instr.lookup 60 (.map (some m)) (.int .i64 x) true).run Try.prog u = .ok (.tuple #[v, .bool false]) u := by
  obtain ⟨D, h1, h2, h3⟩ := h
  obtain ⟨v, ps, hrun, hv⟩ := h1.look_ok lawI Try.underlying60 (zeroP u) (zd := .nil) (zp := []) rfl (keyOf_int_mk Try.underlying3 (wf_small hs))
  rw [h2 x hx] at hrun
  exact ⟨v, hrun⟩
theorem LMap.put {u : World} {m n : Nat} {M : List (Int × Nat)} (h : LMap u m n M) (hn : n ≤ 1000000) {x : Int} (hs : 0 ≤ x ∧ x < 1000000) (hx : ∀ q, (x, q) ∉ M) (q : Nat) :
    ∃ u', (Instr.mapUpdate 60 (.map (some m)) (.int .i64 x) (.pointer (some ⟨q, 0, none⟩))).run Try.prog u = .ok () u' ∧ LMap u' m (n + 1) ((x, q) :: M) ∧ Turn (fun i => i = m) u u' := by
  obtain ⟨D, h1, h2, h3⟩ := h
  obtain ⟨u', hrun, k1, k2⟩ := h1.store lawI Try.underlying60 (by unfold maxLen; omega) (keyOf_int_mk Try.underlying3 (wf_small hs)) (val := .pointer (some ⟨q, 0, none⟩)) (d := .lit (.int .i64 (q : Int))) (ps := []) rfl
  have hM := h1.isMap
  refine ⟨u', hrun, ⟨_, k1, fun y hy => ?_, fun p hp => ?_⟩, Turn.ofGrown k2.grown (fun i hi => (Option.some.inj hi).symm)⟩
  · have e : y ≠ x := fun e => hy q (by rw [e]; exact List.mem_cons_self ..)
    rw [has_put_other (lit_ne e)]
    exact h2 y (fun r hr => hy r (List.mem_cons_of_mem _ hr))
  · rcases List.mem_cons.1 hp with rfl | hp
    · exact ⟨has_put_same (k := .int .i64 x) hM trivial _, atKey_put_same (k := .int .i64 x) hM trivial _ _⟩
    · have e : p.1 ≠ x := fun e => hx p.2 (by rw [← e]; exact hp)
      rw [has_put_other (lit_ne e), atKey_put_other (lit_ne e)]
      exact h3 p hp
theorem LMap.del {u : World} {m n : Nat} {M M' : List (Int × Nat)} (h : LMap u m n M) {x : Int} (hs : 0 ≤ x ∧ x < 1000000) (he : ∀ p, p ∈ M' ↔ p ∈ M ∧ p.1 ≠ x) (ty : TypeId) :
    ∃ u', (Builtin.delete_ #[60, 3] ty #[.map (some m), .int .i64 x]).run Try.prog u = .ok (.tuple #[]) u' ∧ LMap u' m n M' ∧ Turn (fun i => i = m) u u' := by
  obtain ⟨D, h1, h2, h3⟩ := h
  obtain ⟨u', hrun, k1, k2⟩ := h1.drop lawI Try.underlying60 (keyOf_int_mk Try.underlying3 (wf_small hs)) ty
  refine ⟨u', hrun, ⟨_, k1, fun y hy => ?_, fun p hp => ?_⟩, Turn.ofGrown k2.grown (fun i hi => (Option.some.inj hi).symm)⟩
  · by_cases e : y = x
    · subst e
      exact has_del_same
    · rw [has_del_other (lit_ne e)]
      exact h2 y (fun q hq => hy q ((he _).2 ⟨hq, e⟩))
  · obtain ⟨hp1, e⟩ := (he p).1 hp
    rw [has_del_other (lit_ne e), atKey_del_other (lit_ne e)]
    exact h3 p hp1

/-! ### the row of leaves -/
structure PtrRow (w : World) (b c : Nat) (qs : List Nat) (R : Array Value) : Prop where
  st : w.heap[b]? = some (.cells R 71 (0, 0))
  size : R.size = c
  fit : qs.length ≤ c
  big : c ≤ maxLen
  at_ : ∀ (j q : Nat), qs[j]? = some q → R[j]? = some (Value.pointer (some ⟨q, 0, none⟩))
theorem PtrRow.heap {w w' : World} {b c : Nat} {qs : List Nat} {R : Array Value} (h : PtrRow w b c qs R) (e : w'.heap[b]? = w.heap[b]?) : PtrRow w' b c qs R := ⟨e.trans h.st, h.size, h.fit, h.big, h.at_⟩

/-! ### the tree -/
abbrev leafC (l : Lf) : Obj := .cells #[.pointer (some ⟨l.g, 0, none⟩), .int .i64 l.num, .string l.least] 81 (0, 0)
def qs (ls : List Lf) : List Nat := ls.map (·.q)
def gs (ls : List Lf) : List Nat := ls.map (·.g)
def ents (ls : List Lf) : List (Int × Nat) := ls.map fun l => (l.num, l.q)
def foot (t b m : Nat) (ls : List Lf) : List Nat := t :: b :: m :: (qs ls ++ gs ls)

structure TreeG (w : World) (t b m c : Nat) (ls : List Lf) (made keys : Int) : Prop where
  st : w.heap[t]? = some (.cells #[.slice (some ⟨b, 0, none⟩) ls.length c, .map (some m), .int .i64 made, .int .i64 keys] 63 (0, 0))
  row : ∃ R, PtrRow w b c (qs ls) R
  map : LMap w m made.toNat (ents ls)
  leaf : ∀ l ∈ ls, w.heap[l.q]? = some (leafC l)
  node : ∀ l ∈ ls, ∃ C, NodeG w l.g C l.n
  apart : (foot t b m ls).Nodup
  small : ls.length ≤ 5000

section
variable {w w' : World} {t b m c : Nat} {ls : List Lf} {made keys : Int} {l : Lf} {A B : List Lf}

theorem mem_qs (h : l ∈ ls) : l.q ∈ qs ls := List.mem_map.2 ⟨l, h, rfl⟩
theorem mem_gs (h : l ∈ ls) : l.g ∈ gs ls := List.mem_map.2 ⟨l, h, rfl⟩
theorem foot_q (h : l ∈ ls) : l.q ∈ foot t b m ls := by unfold foot; simp [mem_qs h]
theorem foot_g (h : l ∈ ls) : l.g ∈ foot t b m ls := by unfold foot; simp [mem_gs h]
theorem mem_foot {i : Nat} (h : i ∈ foot t b m ls) : i = t ∨ i = b ∨ i = m ∨ ∃ l ∈ ls, i = l.q ∨ i = l.g := by
  unfold foot at h
  simp only [List.mem_cons, List.mem_append] at h
  rcases h with h | h | h | h | h
  · exact Or.inl h
  · exact Or.inr (Or.inl h)
  · exact Or.inr (Or.inr (Or.inl h))
  · obtain ⟨l, hl, rfl⟩ := List.mem_map.1 h
    exact Or.inr (Or.inr (Or.inr ⟨l, hl, Or.inl rfl⟩))
  · obtain ⟨l, hl, rfl⟩ := List.mem_map.1 h
    exact Or.inr (Or.inr (Or.inr ⟨l, hl, Or.inr rfl⟩))
theorem foot_of {i : Nat} (h : i = t ∨ i = b ∨ i = m ∨ ∃ l ∈ ls, i = l.q ∨ i = l.g) : i ∈ foot t b m ls := by
  rcases h with rfl | rfl | rfl | ⟨l, hl, rfl | rfl⟩
  · simp [foot]
  · simp [foot]
  · simp [foot]
  · exact foot_q hl
  · exact foot_g hl

theorem TreeG.lt (h : TreeG w t b m c ls made keys) {i : Nat} (hi : i ∈ foot t b m ls) : i < w.heap.size := by
  rcases mem_foot hi with rfl | rfl | rfl | ⟨l, hl, rfl | rfl⟩
  · exact lt_of h.st
  · obtain ⟨R, hR⟩ := h.row; exact lt_of hR.st
  · exact h.map.lt
  · exact lt_of (h.leaf l hl)
  · obtain ⟨C, hC⟩ := h.node l hl; exact lt_of hC.st
theorem TreeG.kept (h : TreeG w t b m c ls made keys) (e : ∀ i ∈ foot t b m ls, w'.heap[i]? = w.heap[i]?) : TreeG w' t b m c ls made keys := by
  refine ⟨(e t (by simp [foot])).trans h.st, ?_, h.map.heap (e m (by simp [foot])), fun l hl => (e _ (foot_q hl)).trans (h.leaf l hl), fun l hl => ?_, h.apart, h.small⟩
  · obtain ⟨R, hR⟩ := h.row
    exact ⟨R, hR.heap (e b (by simp [foot]))⟩
  · obtain ⟨C, hC⟩ := h.node l hl
    exact ⟨C, hC.kept (e _ (foot_g hl))⟩
theorem TreeG.turn (h : TreeG w t b m c ls made keys) {S : Nat → Prop} (ht : Turn S w w') (hS : ∀ i ∈ foot t b m ls, ¬ S i) : TreeG w' t b m c ls made keys :=
  h.kept fun i hi => ht.block i (h.lt hi) (hS i hi)

/-- what walks read -/
structure TreeC (w : World) (t b m c : Nat) (ls : List Lf) (made keys : Int) : Prop where
  c0 : w.cell? ⟨t, 0, none⟩ = some (.slice (some ⟨b, 0, none⟩) ls.length c)
  c1 : w.cell? ⟨t, 1, none⟩ = some (.map (some m))
  c2 : w.cell? ⟨t, 2, none⟩ = some (.int .i64 made)
  c3 : w.cell? ⟨t, 3, none⟩ = some (.int .i64 keys)
  fz : ∀ i, w.frozen? ⟨t, i, none⟩ = false
theorem TreeG.cells (h : TreeG w t b m c ls made keys) : TreeC w t b m c ls made keys :=
  ⟨by rw [cell_of h.st]; rfl, by rw [cell_of h.st]; rfl, by rw [cell_of h.st]; rfl, by rw [cell_of h.st]; rfl, fun i => frozen_of h.st i⟩
theorem TreeG.rowCell (h : TreeG w t b m c ls made keys) {j : Nat} (hj : ls[j]? = some l) : w.cell? ⟨b, j, none⟩ = some (.pointer (some ⟨l.q, 0, none⟩)) := by
  obtain ⟨R, hR⟩ := h.row
  rw [cell_of hR.st]
  exact hR.at_ j l.q (by unfold qs; rw [List.getElem?_map, hj]; rfl)
theorem TreeG.leafCells (h : TreeG w t b m c ls made keys) (hl : l ∈ ls) : w.cell? ⟨l.q, 0, none⟩ = some (.pointer (some ⟨l.g, 0, none⟩)) ∧ w.cell? ⟨l.q, 1, none⟩ = some (.int .i64 l.num) ∧ w.cell? ⟨l.q, 2, none⟩ = some (.string l.least) ∧ ∀ i, w.frozen? ⟨l.q, i, none⟩ = false := by
  have := h.leaf l hl
  exact ⟨by rw [cell_of this]; rfl, by rw [cell_of this]; rfl, by rw [cell_of this]; rfl, fun i => frozen_of this i⟩
theorem TreeG.nodeI (h : TreeG w t b m c ls made keys) (hl : l ∈ ls) : NodeI l.g l.n w (fun i => i = l.g) := ⟨h.node l hl, fun _ => Iff.rfl⟩
theorem TreeG.big (h : TreeG w t b m c ls made keys) : ls.length ≤ c ∧ ls.length ≤ 5000 ∧ c ≤ 9223372036854775807 := by
  obtain ⟨R, hR⟩ := h.row
  have := hR.fit
  unfold qs at this
  rw [List.length_map] at this
  have h2 := hR.big
  unfold maxLen at h2
  exact ⟨this, h.small, by omega⟩

theorem qs_with (n' : Nd) : qs (A ++ l.with n' :: B) = qs (A ++ l :: B) := by simp [qs, Lf.with]
theorem gs_with (n' : Nd) : gs (A ++ l.with n' :: B) = gs (A ++ l :: B) := by simp [gs, Lf.with]
theorem ents_with (n' : Nd) : ents (A ++ l.with n' :: B) = ents (A ++ l :: B) := by simp [ents, Lf.with]
theorem foot_with (n' : Nd) : foot t b m (A ++ l.with n' :: B) = foot t b m (A ++ l :: B) := by unfold foot; rw [qs_with, gs_with]

theorem nodup_not_mem_mid {X Y : List Nat} {x : Nat} (h : (X ++ x :: Y).Nodup) : x ∉ X ∧ x ∉ Y := by
  rw [List.nodup_append, List.nodup_cons] at h
  exact ⟨fun hx => h.2.2 x hx x (List.mem_cons_self ..) rfl, h.2.1.1⟩
/-- the node's block is no other block of the tree's -/
theorem TreeG.nodeApart (h : TreeG w t b m c (A ++ l :: B) made keys) : (∀ i, i ∈ foot t b m (A ++ l :: B) → i = l.g → True) ∧ t ≠ l.g ∧ b ≠ l.g ∧ m ≠ l.g ∧ (∀ x ∈ A ++ l :: B, x.q ≠ l.g) ∧ ∀ x, x ∈ A ∨ x ∈ B → x.g ≠ l.g := by
  have hn := h.apart
  have hg : l.g ∈ gs (A ++ l :: B) := mem_gs (by simp)
  unfold foot at hn
  simp only [List.nodup_cons, List.mem_cons, List.mem_append, not_or] at hn
  obtain ⟨h1, h2, h3, h4⟩ := hn
  rw [List.nodup_append] at h4
  refine ⟨fun _ _ _ => trivial, fun e => h1.2.2.2 (e ▸ hg), fun e => h2.2.2 (e ▸ hg), fun e => h3.2 (e ▸ hg), fun x hx e => h4.2.2 _ (mem_qs hx) _ hg e, fun x hx e => ?_⟩
  have h5 := h4.2.1
  have e2 : gs (A ++ l :: B) = gs A ++ l.g :: gs B := by simp [gs]
  rw [e2] at h5
  have := nodup_not_mem_mid h5
  rcases hx with hx | hx
  · exact this.1 (e ▸ mem_gs hx)
  · exact this.2 (e ▸ mem_gs hx)

/-- a leaf's node becomes another one -/
theorem TreeG.withNode (h : TreeG w t b m c (A ++ l :: B) made keys) {n' : Nd} (ht : Turn (fun i => i = l.g) w w') {C : Array Value} (hn : NodeG w' l.g C n') : TreeG w' t b m c (A ++ l.with n' :: B) made keys := by
  obtain ⟨-, a1, a2, a3, a4, a5⟩ := h.nodeApart
  have e : ∀ i, i ∈ foot t b m (A ++ l :: B) → i ≠ l.g → w'.heap[i]? = w.heap[i]? := fun i hi hne => ht.block i (h.lt hi) hne
  refine ⟨?_, ?_, ?_, fun x hx => ?_, fun x hx => ?_, by rw [foot_with]; exact h.apart, by simpa using h.small⟩
  · have := (e t (by simp [foot]) a1).trans h.st
    simpa using this
  · obtain ⟨R, hR⟩ := h.row
    rw [qs_with]
    exact ⟨R, hR.heap (e b (by simp [foot]) a2)⟩
  · rw [ents_with]
    exact h.map.heap (e m (by simp [foot]) a3)
  · rcases mem_with hx with rfl | ⟨hx, _⟩
    · exact (e _ (foot_q (by simp : l ∈ A ++ l :: B)) (a4 l (by simp))).trans (h.leaf l (by simp))
    · exact (e _ (foot_q hx) (a4 x hx)).trans (h.leaf x hx)
  · rcases mem_with hx with rfl | ⟨hx, hx'⟩
    · exact ⟨C, hn⟩
    · obtain ⟨C', hC'⟩ := h.node x hx
      exact ⟨C', hC'.kept (e _ (foot_g hx) (a5 x hx'))⟩
theorem TreeG.withNodeI (h : TreeG w t b m c (A ++ l :: B) made keys) {n' : Nd} (hg : Goes (NodeI l.g n') w w' (fun i => i = l.g)) : TreeG w' t b m c (A ++ l.with n' :: B) made keys := by
  obtain ⟨F', ⟨⟨C, k1⟩, _⟩, k2, _⟩ := hg
  exact h.withNode k2 k1

/-- the struct is written -/
theorem TreeG.top (h : TreeG w t b m c ls made keys) : (∀ i ∈ foot t b m ls, i ≠ t → w'.heap[i]? = w.heap[i]?) → ∀ {keys' : Int}, w'.heap[t]? = some (.cells #[.slice (some ⟨b, 0, none⟩) ls.length c, .map (some m), .int .i64 made, .int .i64 keys'] 63 (0, 0)) → TreeG w' t b m c ls made keys' := by
  intro e keys' hst
  have hn := h.apart
  unfold foot at hn
  simp only [List.nodup_cons, List.mem_cons, List.mem_append, not_or] at hn
  obtain ⟨h1, h2, h3, h4⟩ := hn
  refine ⟨hst, ?_, h.map.heap (e m (by simp [foot]) (fun q => h1.2.1 q.symm)), fun l hl => (e _ (foot_q hl) (fun q => h1.2.2.1 (q ▸ mem_qs hl))).trans (h.leaf l hl), fun l hl => ?_, h.apart, h.small⟩
  · obtain ⟨R, hR⟩ := h.row
    exact ⟨R, hR.heap (e b (by simp [foot]) (fun q => h1.1 q.symm))⟩
  · obtain ⟨C, hC⟩ := h.node l hl
    exact ⟨C, hC.kept (e _ (foot_g hl) (fun q => h1.2.2.2 (q ▸ mem_gs hl)))⟩
theorem TreeG.setKeys (h : TreeG w t b m c ls made keys) (k' : Int) : TreeG (w.setCell ⟨t, 3, none⟩ (.int .i64 k')) t b m c ls made k' :=
  h.top (fun i _ hne => Below.heap_setCell w ⟨t, 3, none⟩ _ i hne) (by rw [heap_setCell_same h.st]; rfl)
end

/-! ### as an object -/
structure Tr where
  ls : List Lf
  made : Int
abbrev Tr.ks (T : Tr) : List Kv := allK T.ls

structure Young (T : Tr) (a : Nat) : Prop where
  made : 1 ≤ T.made ∧ T.made ≤ a + 1
  ins : ∀ l ∈ T.ls, 0 ≤ l.n.ins ∧ l.n.ins ≤ 16 * a
  spl : ∀ l ∈ T.ls, 0 ≤ l.n.spl ∧ l.n.spl ≤ a
theorem Young.mono {T : Tr} {a b : Nat} (h : Young T a) (hab : a ≤ b) : Young T b :=
  ⟨by have := h.made; omega, fun l hl => by have := h.ins l hl; omega, fun l hl => by have := h.spl l hl; omega⟩

structure Tr.Ok (T : Tr) (a : Nat) : Prop where
  ok : Lok T.ls T.made
  few : T.ks.length ≤ 4096
  young : Young T a
theorem Tr.Ok.mono {T : Tr} {a b : Nat} (h : T.Ok a) (hab : a ≤ b) : T.Ok b := ⟨h.ok, h.few, h.young.mono hab⟩

def TreeI (t : Nat) (T : Tr) (a : Nat) (w : World) (F : Nat → Prop) : Prop :=
  ∃ b m c, TreeG w t b m c T.ls T.made (T.ks.length : Int) ∧ T.Ok a ∧ ∀ i, F i ↔ i ∈ foot t b m T.ls
theorem treeI_res (t : Nat) (T : Tr) (a : Nat) : Res (TreeI t T a) := by
  refine ⟨fun {w F} h i hi => ?_, fun {w w' F S} h ht hS => ?_⟩
  · obtain ⟨b, m, c, h1, h2, h3⟩ := h
    exact h1.lt ((h3 i).1 hi)
  · obtain ⟨b, m, c, h1, h2, h3⟩ := h
    exact ⟨b, m, c, h1.turn ht (fun i hi => hS i ((h3 i).2 hi)), h2, h3⟩
theorem TreeI.ok {t : Nat} {T : Tr} {a : Nat} {w : World} {F : Nat → Prop} (h : TreeI t T a w F) : T.Ok a := by obtain ⟨_, _, _, _, h, _⟩ := h; exact h

end Go.Proofs.Ytoknebbkpkcomaa

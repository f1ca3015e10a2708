/- The program's copyTable: its first statement, whose order is drawn (written by zcopy.py). -/
import Derived.Test.YtfddmibaojfalaaGreatZCopy
namespace Go.Proofs.YtfddmibaojfalaaGreat
open Go.RowKit

theorem take_dst {P : Program} {md : Region.Mode} {ops : Array Oper} {Q : Exit → Act → World → Prop} {S : World → Prop} {i dst : Nat} {oi : Oper} {v : Value} {fuel : Nat} {listed : Array Bool} {a : Act} {w : World} (hi : ops[i]? = some oi) (hd : oi.dst = some dst)
    (hs : Region.noSelect ops = true) (hf : Region.free md ops listed i = true) (hr : (Region.ready md ops listed).contains i = true)
    (hQ : ∀ c (a : Act) w, Q (.panic c) { tmps := a.tmps.setIfInBounds dst v, defers := a.defers } w → Q (.panic c) a w) (hy : YieldsIf P ops S oi v a) (hS : S w)
    (h : wpAnyH P md ops Q S fuel (listed.setIfInBounds i true) { tmps := a.tmps.setIfInBounds dst v, defers := a.defers } w) : wpAnyH P md ops Q S (fuel + 1) listed a w :=
  wpAnyH_take hi hs hf hr (fun c a w => by rw [hd]; exact hQ c a w) hy hS (by rw [hd]; exact h)

abbrev tabZ : Obj := .cells #[.string ⟨#[]⟩, .slice none 0 0, .int .i64 0, .slice none 0 0] 29
abbrev colsZ (N : Nat) : Obj := .cells (flat enC (List.replicate N noCol)).toArray 25
abbrev ixsZ (M : Nat) : Obj := .cells (flat enX (List.replicate M noIv)).toArray 81

/-- how far the statement has come: what was made so far, and where -/
structure CF (w W : World) (N M : Nat) (p1 p2 p3 : Option Nat) : Prop where
  below : Below w.heap.size w W
  a : ∀ p, p1 = some p → W.heap[p]? = some (colsZ N) ∧ w.heap.size ≤ p
  b : ∀ p, p2 = some p → W.heap[p]? = some (ixsZ M) ∧ w.heap.size ≤ p
  d : ∀ p, p3 = some p → W.heap[p]? = some tabZ ∧ w.heap.size ≤ p
section
variable {w W W' : World} {N M : Nat} {p1 p2 p3 : Option Nat}
theorem CF.clone (h : CF w W N M p1 p2 p3) (hb : Below W.heap.size W W') : CF w W' N M p1 p2 p3 :=
  ⟨h.below.trans (hb.mono h.below.size), fun p e => ⟨(hb.block p (lt_of (h.a p e).1)).trans (h.a p e).1, (h.a p e).2⟩, fun p e => ⟨(hb.block p (lt_of (h.b p e).1)).trans (h.b p e).1, (h.b p e).2⟩, fun p e => ⟨(hb.block p (lt_of (h.d p e).1)).trans (h.d p e).1, (h.d p e).2⟩⟩
theorem CF.mkA (h : CF w W N M none p2 p3) : CF w (W.alloc (colsZ N)) N M (some W.heap.size) p2 p3 := by
  have k := h.clone ((Below.refl _ W).alloc (Nat.le_refl _) (colsZ N))
  exact ⟨k.below, fun p e => by cases e; exact ⟨heap_new W _, h.below.size⟩, k.b, k.d⟩
theorem CF.mkB (h : CF w W N M p1 none p3) : CF w (W.alloc (ixsZ M)) N M p1 (some W.heap.size) p3 := by
  have k := h.clone ((Below.refl _ W).alloc (Nat.le_refl _) (ixsZ M))
  exact ⟨k.below, k.a, fun p e => by cases e; exact ⟨heap_new W _, h.below.size⟩, k.d⟩
theorem CF.mkD (h : CF w W N M p1 p2 none) : CF w (W.alloc tabZ) N M p1 p2 (some W.heap.size) := by
  have k := h.clone ((Below.refl _ W).alloc (Nat.le_refl _) tabZ)
  exact ⟨k.below, k.a, k.b, fun p e => by cases e; exact ⟨heap_new W _, h.below.size⟩⟩
theorem CF.zero {p : Nat} (h : CF w W N M p1 p2 p3) (e : p3 = some p) : W.cell? ⟨p, 0, none⟩ = some (.string ⟨#[]⟩) ∧ W.cell? ⟨p, 1, none⟩ = some (.slice none 0 0) ∧ W.cell? ⟨p, 2, none⟩ = some (.int .i64 0) ∧ W.cell? ⟨p, 3, none⟩ = some (.slice none 0 0) ∧ W.frozen? ⟨p, 0, none⟩ = false ∧ W.frozen? ⟨p, 1, none⟩ = false ∧ W.frozen? ⟨p, 2, none⟩ = false ∧ W.frozen? ⟨p, 3, none⟩ = false := by
  have k := (h.d p e).1
  exact ⟨by rw [cell_of k]; rfl, by rw [cell_of k]; rfl, by rw [cell_of k]; rfl, by rw [cell_of k]; rfl, frozen_of k 0, frozen_of k 1, frozen_of k 2, frozen_of k 3⟩
/-- what is stored at last -/
abbrev set4 (W : World) (p : Nat) (a b c d : Value) : World := (((W.setCell ⟨p, 0, none⟩ a).setCell ⟨p, 1, none⟩ b).setCell ⟨p, 2, none⟩ c).setCell ⟨p, 3, none⟩ d
theorem set4_turn (W : World) (p : Nat) (a b c d : Value) : Turn (fun i => i = p) W (set4 W p a b c d) :=
  (((Turn.setCell (S := fun i => i = p) W ⟨p, 0, none⟩ a rfl).trans (Turn.setCell _ ⟨p, 1, none⟩ b rfl)).trans (Turn.setCell _ ⟨p, 2, none⟩ c rfl)).trans (Turn.setCell _ ⟨p, 3, none⟩ d rfl)
theorem set4_heap {W : World} {p : Nat} {x0 x1 x2 x3 : Value} {t : TypeId} (h : W.heap[p]? = some (.cells #[x0, x1, x2, x3] t (0, 0))) (a b c d : Value) : (set4 W p a b c d).heap[p]? = some (.cells #[a, b, c, d] t (0, 0)) :=
  heap_setCell_same (heap_setCell_same (heap_setCell_same (heap_setCell_same h 0 a) 1 b) 2 c) 3 d
theorem CF.setS {p : Nat} {S : World → Prop} (h : CF w W N M p1 p2 p3) (hS : ∀ u, Below w.heap.size w u → S u) (e : p3 = some p) (a b c d : Value) : S (set4 W p a b c d) :=
  hS _ (h.below.trans (((set4_turn W p a b c d).mono (S' := fun i => w.heap.size ≤ i) (fun i hi => by rw [hi]; exact (h.d p e).2)).toBelow h.below.size))
end

/-! ### the copy, as far as it has come -/
structure CL (w U : World) (nm : ByteArray) (key : Int) (N M p1 p2 p3 : Nat) (K1 : List (ByteArray × Int)) (K2 : List Iv) : Prop where
  below : Below w.heap.size w U
  a : U.heap[p1]? = some (.cells (flat enC K1).toArray 25 (0, 0))
  b : U.heap[p2]? = some (.cells (flat enX K2).toArray 81 (0, 0))
  d : U.heap[p3]? = some (.cells #[.string nm, .slice (some ⟨p1, 0, none⟩) N N, .int .i64 key, .slice (some ⟨p2, 0, none⟩) M M] 29 (0, 0))
  ga : w.heap.size ≤ p1
  gb : w.heap.size ≤ p2
  rows : ∀ x ∈ K2, U.ownsRow w.heap.size 3 1 x.v x.ix.cs.length (flat enI x.ix.cs)
section
variable {w U U' : World} {nm : ByteArray} {key : Int} {N M p1 p2 p3 : Nat} {K1 : List (ByteArray × Int)} {K2 : List Iv}
theorem CL.clone (h : CL w U nm key N M p1 p2 p3 K1 K2) (hb : Below U.heap.size U U') : CL w U' nm key N M p1 p2 p3 K1 K2 :=
  ⟨h.below.trans (hb.mono h.below.size), (hb.block p1 (lt_of h.a)).trans h.a, (hb.block p2 (lt_of h.b)).trans h.b, (hb.block p3 (lt_of h.d)).trans h.d, h.ga, h.gb, fun x hx => ownsRow_block (h.rows x hx) fun g hg => hb.block g (World.ownsRow.lt (h.rows x hx) g hg).2⟩
theorem CL.ne13 (h : CL w U nm key N M p1 p2 p3 K1 K2) : p1 ≠ p3 := fun e => by
  have := h.a; rw [e, h.d] at this; simp at this
theorem CL.ne23 (h : CL w U nm key N M p1 p2 p3 K1 K2) : p2 ≠ p3 := fun e => by
  have := h.b; rw [e, h.d] at this; simp at this
theorem CL.ne12 (h : CL w U nm key N M p1 p2 p3 K1 K2) : p1 ≠ p2 := fun e => by
  have := h.a; rw [e, h.b] at this; simp at this
theorem CL.row_ne (h : CL w U nm key N M p1 p2 p3 K1 K2) {x : Iv} (hx : x ∈ K2) {g : Nat} (hg : x.v.ownBlock = some g) : g ≠ p1 ∧ g ≠ p2 := by
  obtain ⟨cur, hc, _⟩ := ownsRow_own (h.rows x hx) hg
  refine ⟨fun e => ?_, fun e => ?_⟩
  · rw [e, h.a] at hc; simp at hc
  · rw [e, h.b] at hc; simp at hc
/-- the first block alone is written -/
theorem CL.turnA (h : CL w U nm key N M p1 p2 p3 K1 K2) (ht : Turn (fun i => i = p1) U U') {K1' : List (ByteArray × Int)} (ha : U'.heap[p1]? = some (.cells (flat enC K1').toArray 25 (0, 0))) : CL w U' nm key N M p1 p2 p3 K1' K2 :=
  ⟨h.below.trans ((ht.mono (S' := fun i => w.heap.size ≤ i) (fun i hi => by rw [hi]; exact h.ga)).toBelow h.below.size), ha, (ht.block p2 (lt_of h.b) (fun e => h.ne12 e.symm)).trans h.b, (ht.block p3 (lt_of h.d) (fun e => h.ne13 e.symm)).trans h.d, h.ga, h.gb,
    fun x hx => ownsRow_block (h.rows x hx) fun g hg => ht.block g (World.ownsRow.lt (h.rows x hx) g hg).2 (h.row_ne hx hg).1⟩
theorem CL.turnB (h : CL w U nm key N M p1 p2 p3 K1 K2) (ht : Turn (fun i => i = p2) U U') {K2' : List Iv} (hb : U'.heap[p2]? = some (.cells (flat enX K2').toArray 81 (0, 0))) (hr : ∀ x ∈ K2', x ∈ K2 ∨ U.ownsRow w.heap.size 3 1 x.v x.ix.cs.length (flat enI x.ix.cs)) : CL w U' nm key N M p1 p2 p3 K1 K2' := by
  refine ⟨h.below.trans ((ht.mono (S' := fun i => w.heap.size ≤ i) (fun i hi => by rw [hi]; exact h.gb)).toBelow h.below.size), (ht.block p1 (lt_of h.a) h.ne12).trans h.a, hb, (ht.block p3 (lt_of h.d) (fun e => h.ne23 e.symm)).trans h.d, h.ga, h.gb, fun x hx => ?_⟩
  have hrow : U.ownsRow w.heap.size 3 1 x.v x.ix.cs.length (flat enI x.ix.cs) := by
    rcases hr x hx with h1 | h1
    · exact h.rows x h1
    · exact h1
  refine ownsRow_block hrow fun g hg => ht.block g (World.ownsRow.lt hrow g hg).2 (fun e => ?_)
  obtain ⟨cur, hc, _⟩ := ownsRow_own hrow hg
  rw [e, h.b] at hc
  simp at hc
end

theorem rows_at {α : Type} {en : α → List Value} {m : Nat} (hm : ∀ g, (en g).length = m) {U : World} {p : Nat} {t : TypeId} {K : List α} (h : U.heap[p]? = some (.cells (flat en K).toArray t (0, 0))) {j : Nat} {x : α} (hx : K[j]? = some x) {i : Nat} {v : Value} (hv : (en x)[i]? = some v) : U.cell? ⟨p, j * m + i, none⟩ = some v := by
  obtain ⟨hj, rfl⟩ := List.getElem?_eq_some_iff.1 hx
  have hi : i < m := by rw [← hm K[j]]; exact (List.getElem?_eq_some_iff.1 hv).1
  rw [cell_of h, List.getElem?_toArray, Nat.mul_comm, flat_get hm K j hj i hi]
  exact hv
theorem setC_heap {U : World} {p j : Nat} {K : List (ByteArray × Int)} (h : U.heap[p]? = some (.cells (flat enC K).toArray 25 (0, 0))) (hj : j < K.length) (s : ByteArray) (k : Int) :
    ((U.setCell ⟨p, j * 2, none⟩ (.string s)).setCell ⟨p, j * 2 + 1, none⟩ (.int .i64 k)).heap[p]? = some (.cells (flat enC (K.set j (s, k))).toArray 25 (0, 0)) := by
  have h1 := heap_setCell_same (heap_setCell_same h (j * 2) (.string s)) (j * 2 + 1) (.int .i64 k)
  rw [h1]
  have e1 := flat_set (en := enC) (m := 2) (fun _ => rfl) K j hj 0 (.string s) (s, K[j].2) (by omega) rfl
  have e2 := flat_set (en := enC) (m := 2) (fun _ => rfl) (K.set j (s, K[j].2)) j (by simpa using hj) 1 (.int .i64 k) (s, k) (by omega) (by rw [List.getElem_set_self]; rfl)
  simp only [List.setIfInBounds_toArray]
  rw [show j * 2 = 2 * j + 0 by omega, e1, show 2 * j + 0 + 1 = 2 * j + 1 by omega, e2, List.set_set]
theorem setX_heap {U : World} {p j : Nat} {K : List Iv} (h : U.heap[p]? = some (.cells (flat enX K).toArray 81 (0, 0))) (hj : j < K.length) (x : Iv) :
    (((U.setCell ⟨p, j * 3, none⟩ (.string x.ix.nm)).setCell ⟨p, j * 3 + 1, none⟩ x.v).setCell ⟨p, j * 3 + 2, none⟩ (.bool x.ix.un)).heap[p]? = some (.cells (flat enX (K.set j x)).toArray 81 (0, 0)) := by
  have h1 := heap_setCell_same (heap_setCell_same (heap_setCell_same h (j * 3) (.string x.ix.nm)) (j * 3 + 1) x.v) (j * 3 + 2) (.bool x.ix.un)
  rw [h1]
  have e1 := flat_set (en := enX) (m := 3) (fun _ => rfl) K j hj 0 (.string x.ix.nm) ⟨⟨x.ix.nm, K[j].ix.cs, K[j].ix.un⟩, K[j].v⟩ (by omega) rfl
  have e2 := flat_set (en := enX) (m := 3) (fun _ => rfl) (K.set j ⟨⟨x.ix.nm, K[j].ix.cs, K[j].ix.un⟩, K[j].v⟩) j (by simpa using hj) 1 x.v ⟨⟨x.ix.nm, K[j].ix.cs, K[j].ix.un⟩, x.v⟩ (by omega) (by rw [List.getElem_set_self]; rfl)
  have e3 := flat_set (en := enX) (m := 3) (fun _ => rfl) ((K.set j ⟨⟨x.ix.nm, K[j].ix.cs, K[j].ix.un⟩, K[j].v⟩).set j ⟨⟨x.ix.nm, K[j].ix.cs, K[j].ix.un⟩, x.v⟩) j (by simpa using hj) 2 (.bool x.ix.un) x (by omega) (by rw [List.getElem_set_self]; rfl)
  simp only [List.setIfInBounds_toArray]
  rw [show j * 3 = 3 * j + 0 by omega, e1, show 3 * j + 0 + 1 = 3 * j + 1 by omega, e2, show 3 * j + 0 + 2 = 3 * j + 2 by omega, e3, List.set_set, List.set_set]
theorem cell_new {w : World} {o : Obj} {a : Addr} {x : Value} (h : w.cell? a = some x) : (w.alloc o).cell? a = some x := (World.cell?_alloc_some w a o (by rw [h]; rfl)).trans h
theorem cell_drew {w : World} {a : Addr} {x : Value} (h : w.cell? a = some x) : w.drew.cell? a = some x := h
theorem cell_far {w : World} {p b i j : Nat} {v x : Value} (h : w.cell? ⟨b, j, none⟩ = some x) (hne : p ≠ b) : (w.setCell ⟨p, i, none⟩ v).cell? ⟨b, j, none⟩ = some x := (World.cell?_setCell_far w ⟨p, i, none⟩ ⟨b, j, none⟩ v hne).trans h

/-- a schema in memory of its own -/
structure TabO (w : World) (base : Nat) (cv iv : Value) (X : List Iv) (T : Tab) : Prop where
  co : w.ownsRow base 25 2 cv T.co.length (flat enC T.co)
  ix : w.ownsRow base 81 3 iv X.length (flat enX X)
  eq : X.map Iv.ix = T.ix
  nums : ∀ x ∈ X, w.ownsRow base 3 1 x.v x.ix.cs.length (flat enI x.ix.cs)
theorem row_made {α : Type} {en : α → List Value} {m : Nat} (hm : ∀ g, (en g).length = m) {U : World} {base p n : Nat} {t : TypeId} {K : List α} (hn : K.length = n) (hs : n ≤ 1000000) (h : U.heap[p]? = some (.cells (flat en K).toArray t (0, 0))) (hb : base ≤ p) : U.ownsRow base t m (.slice (some ⟨p, 0, none⟩) n n) n (flat en K) := by
  have hl : (flat en K).length = n * m := by rw [flat_length hm, hn, Nat.mul_comm]
  exact ⟨hl, Or.inr ⟨p, n, _, rfl, hb, h, Nat.le_refl _, by unfold maxLen; omega, by simpa using hl, by rw [List.take_of_length_le (by rw [List.toList_toArray, hl]; exact Nat.le_refl _)]⟩⟩

/-- what copyTable answers -/
def CopyR (T : Tab) (w : World) (e : Ending) (w' : World) : Prop := ∃ cv' iv' X', e = .returned (tabVal cv' iv' T) ∧ TabO w' w.heap.size cv' iv' X' T ∧ Below w.heap.size w w'

theorem by_key {R : Prop} {C m : World → Nat → Nat → Nat → Prop} (main : Hid (∀ W a b c, C W a b c → m W a b c) → R) (k : ∀ W a b c, C W a b c → m W a b c) : R := main k

set_option linter.unusedSimpArgs false in
set_option maxRecDepth 100000 in
set_option maxHeartbeats 8000000 in
theorem copyTable_any (cv iv : Value) (T : Tab) (w w0 : World) (hb : Below w0.heap.size w0 w) (h0 : TabV w0 cv iv T) (hk : MayT T) :
    Calls Tryz.prog 22 #[tabVal cv iv T] w (CopyR T w) := by
  obtain ⟨g1, X, g2, g3, g4⟩ := h0
  have k1 := hk.co2
  have k2 := hk.ix1
  have k3 := (nameOk_size hk.nm).2
  have hXl : X.length = T.ix.length := by rw [← g3, List.length_map]
  obtain ⟨ca, cc, rfl, s1, s2, s3⟩ := g1.opened
  obtain ⟨ia, ic, rfl, t1, t2, t3⟩ := g2.opened
  unfold maxLen at s2 t2
  have HXC : Hid (∀ u, Below w.heap.size w u → ∀ i y, T.co[i]? = some y → ∃ b off, ca = some ⟨b, off, none⟩ ∧ u.cell? ⟨b, off + i * 2, none⟩ = some (.string y.1) ∧ u.cell? ⟨b, off + i * 2 + 1, none⟩ = some (.int .i64 y.2)) := fun u hu i y hy => by
    obtain ⟨hi, rfl⟩ := List.getElem?_eq_some_iff.1 hy
    obtain ⟨b, off, e, _, hc⟩ := s3 u (hb.trans (hu.mono hb.size)) i hi
    exact ⟨b, off, e, hc 0 _ rfl, hc 1 _ rfl⟩
  have HXX : Hid (∀ u, Below w.heap.size w u → ∀ i y, X[i]? = some y → ∃ b off, ia = some ⟨b, off, none⟩ ∧ u.cell? ⟨b, off + i * 3, none⟩ = some (.string y.ix.nm) ∧ u.cell? ⟨b, off + i * 3 + 1, none⟩ = some y.v ∧ u.cell? ⟨b, off + i * 3 + 2, none⟩ = some (.bool y.ix.un)) := fun u hu i y hy => by
    obtain ⟨hi, rfl⟩ := List.getElem?_eq_some_iff.1 hy
    obtain ⟨b, off, e, _, hc⟩ := t3 u (hb.trans (hu.mono hb.size)) i hi
    exact ⟨b, off, e, hc 0 _ rfl, hc 1 _ rfl, hc 2 _ rfl⟩
  have HCC : Hid (∀ y ∈ T.co, ∀ u, Calls Tryz.prog 33 #[.string y.1] u fun e w' => e = .returned (.string y.1) ∧ Below u.heap.size u w') := fun y hy u => sClone_any y.1 u (by have := (nameOk_size (hk.names y hy)).2; omega)
  have hmx : ∀ x ∈ X, x.ix ∈ T.ix := fun x hx => by rw [← g3]; exact List.mem_map.2 ⟨x, hx, rfl⟩
  have HCX : Hid (∀ y ∈ X, ∀ u, Calls Tryz.prog 33 #[.string y.ix.nm] u fun e w' => e = .returned (.string y.ix.nm) ∧ Below u.heap.size u w') := fun y hy u => sClone_any y.ix.nm u (by have := (nameOk_size (hk.ixn y.ix (hmx y hy))).2; omega)
  have HCI : Hid (∀ y ∈ X, ∃ va vc, y.v = .slice va y.ix.cs.length vc ∧ ∀ u, Below w.heap.size w u → Calls Tryz.prog 34 #[y.v] u fun e w' => ∃ g c, e = .returned (.slice (some ⟨g, 0, none⟩) y.ix.cs.length c) ∧ Hid (w'.ownsRow u.heap.size 3 1 (.slice (some ⟨g, 0, none⟩) y.ix.cs.length c) y.ix.cs.length (flat enI y.ix.cs)) ∧ Hid (Below u.heap.size u w')) := fun y hy => by
    obtain ⟨va, vc, e, _⟩ := g4 y hy
    obtain ⟨j1, j2, _⟩ := hk.ixc y.ix (hmx y hy)
    exact ⟨va, vc, e, fun u hu => cloneI_any y.v y.ix.cs u w0 (hb.trans (hu.mono hb.size)) (g4 y hy) (fun e => by rw [e] at j1; simp at j1) (by omega)⟩
  unfold tabVal
  have HEQ : Hid (X.map Iv.ix = T.ix) := g3
  obtain ⟨N, hNn⟩ : ∃ N, T.co.length = N := ⟨_, rfl⟩
  obtain ⟨M, hMm⟩ : ∃ M, X.length = M := ⟨_, rfl⟩
  obtain ⟨key, hkey⟩ : ∃ key, T.key = key := ⟨_, rfl⟩
  obtain ⟨nm, hnm⟩ : ∃ nm, T.nm = nm := ⟨_, rfl⟩
  have HLN : Hid (T.co.length = N ∧ X.length = M) := ⟨hNn, hMm⟩
  have HKN : Hid (T.key = key ∧ T.nm = nm) := ⟨hkey, hnm⟩
  rw [hNn, hMm, hkey, hnm]
  have hN : N ≤ 32 := by omega
  have hM : M ≤ 8 := by omega
  have hs : nm.size ≤ 32 := by rw [← hnm]; exact k3
  clear g1 g2 g3 g4 s3 t3 hk hb hmx hXl k1 k2 k3 hNn hMm hkey hnm
  rw [HLN.out.1] at s1
  rw [HLN.out.2] at t1
  have m1 := fun u => make_cols N (by omega) u
  have m2 := fun u => make_ixs M (by omega) u
  have HC : Hid (∀ u, Calls Tryz.prog 33 #[.string nm] u fun e w' => e = .returned (.string nm) ∧ Below u.heap.size u w') := fun u => sClone_any nm u (by omega)
  obtain ⟨xb, hxb⟩ : ∃ xb, w.heap.size = xb := ⟨_, rfl⟩
  obtain ⟨w1, hw1⟩ : ∃ w1, w.alloc (.cells #[.string nm, .slice ca N cc, .int .i64 key, .slice ia M ic] 29) = w1 := ⟨_, rfl⟩
  obtain ⟨w2, hw2⟩ : ∃ w2, w1.alloc tabZ = w2 := ⟨_, rfl⟩
  have hx1 : w2.heap[xb]? = some (.cells #[.string nm, .slice ca N cc, .int .i64 key, .slice ia M ic] 29) := by
    have h1 : w1.heap[xb]? = some (.cells #[.string nm, .slice ca N cc, .int .i64 key, .slice ia M ic] 29) := by rw [← hw1, ← hxb]; exact heap_new w _
    rw [← hw2, Below.heap_alloc _ _ _ (lt_of h1)]
    exact h1
  have HXs : Hid (∀ u, Below w2.heap.size w2 u → u.cell? ⟨xb, 0, none⟩ = some (.string nm) ∧ u.cell? ⟨xb, 1, none⟩ = some (.slice ca N cc) ∧ u.cell? ⟨xb, 2, none⟩ = some (.int .i64 key) ∧ u.cell? ⟨xb, 3, none⟩ = some (.slice ia M ic)) := fun u hu => by
    have e := (hu.block xb (lt_of hx1)).trans hx1
    exact ⟨by rw [cell_of e]; rfl, by rw [cell_of e]; rfl, by rw [cell_of e]; rfl, by rw [cell_of e]; rfl⟩
  have HW2 : Hid (Below xb w w2 ∧ w1.heap.size = xb + 1 ∧ w2.heap.size = xb + 2 ∧ w2.heap[xb + 1]? = some tabZ) := by
    have a1 : w1.heap.size = xb + 1 := by rw [← hw1, ← hxb]; simp
    have a2 : w2.heap.size = xb + 2 := by rw [← hw2]; simp; omega
    have b1 : Below xb w w1 := by rw [← hw1]; exact (Below.refl _ _).alloc (by omega) _
    have b2 : Below xb w1 w2 := by rw [← hw2]; exact (Below.refl _ _).alloc (by omega) _
    exact ⟨b1.trans b2, a1, a2, by rw [← a1, ← hw2]; exact heap_new w1 _⟩
  have hr1 : w1.heap.size = xb + 1 := HW2.out.2.1
  have Fz : Hid (CF w2 w2.drew N M none none none) := ⟨below_drewN w2 1, (fun _ h => by cases h), (fun _ h => by cases h), (fun _ h => by cases h)⟩
  go_enter Tryz.func22, Tryz.ntmps22
  go_wp2_with fail
  clear hw1 hw2 hx1
  apply by_key (C := fun W a b c => CF w2 W N M (some a) (some b) (some c))
  intro HKey
  refine wp_region_held_drew (S := fun u => u.cell? ⟨xb, 0, none⟩ = some (.string nm) ∧ u.cell? ⟨xb, 1, none⟩ = some (.slice ca N cc) ∧ u.cell? ⟨xb, 2, none⟩ = some (.int .i64 key) ∧ u.cell? ⟨xb, 3, none⟩ = some (.slice ia M ic)) (by kernel_rfl) (HXs.out _ Fz.out.below) (fun hHeld => ?_)
  obtain ⟨Wz, hWz⟩ : ∃ u, w2.drew = u := ⟨_, rfl⟩
  rw [hWz] at Fz hHeld ⊢
  clear hWz
  refine take_dst (i := 0) (dst := 8) (v := ?v0x1) rfl rfl (by kernel_rfl) (by kernel_rfl) (by kernel_rfl) (fun _ _ _ h => h) (Or.inl ⟨by rfl, ?hy0x1⟩) (by assumption) ?rest0x1
  case hy0x1 => intro w hSw; (try dsimp only at hSw); go_simp; try with_reducible rfl
  try simp only [List.setIfInBounds_toArray, List.set_cons_zero, List.set_cons_succ]
  refine take_dst (i := 1) (dst := 9) (v := ?v1x2) rfl rfl (by kernel_rfl) (by kernel_rfl) (by kernel_rfl) (fun _ _ _ h => h) (Or.inl ⟨by rfl, ?hy1x2⟩) (by assumption) ?rest1x2
  case hy1x2 => intro w hSw; (try dsimp only at hSw); go_simp; try with_reducible rfl
  try simp only [List.setIfInBounds_toArray, List.set_cons_zero, List.set_cons_succ]
  refine take_dst (i := 3) (dst := 11) (v := ?v3x3) rfl rfl (by kernel_rfl) (by kernel_rfl) (by kernel_rfl) (fun _ _ _ h => h) (Or.inl ⟨by rfl, ?hy3x3⟩) (by assumption) ?rest3x3
  case hy3x3 => intro w hSw; (try dsimp only at hSw); go_simp; try with_reducible rfl
  try simp only [List.setIfInBounds_toArray, List.set_cons_zero, List.set_cons_succ]
  refine take_dst (i := 4) (dst := 12) (v := ?v4x4) rfl rfl (by kernel_rfl) (by kernel_rfl) (by kernel_rfl) (fun _ _ _ h => h) (Or.inl ⟨by rfl, ?hy4x4⟩) (by assumption) ?rest4x4
  case hy4x4 => intro w hSw; (try dsimp only at hSw); go_simp; try with_reducible rfl
  try simp only [List.setIfInBounds_toArray, List.set_cons_zero, List.set_cons_succ]
  refine take_dst (i := 5) (dst := 13) (v := ?v5x5) rfl rfl (by kernel_rfl) (by kernel_rfl) (by kernel_rfl) (fun _ _ _ h => h) (Or.inl ⟨by rfl, ?hy5x5⟩) (by assumption) ?rest5x5
  case hy5x5 => intro w hSw; (try dsimp only at hSw); go_simp; try with_reducible rfl
  try simp only [List.setIfInBounds_toArray, List.set_cons_zero, List.set_cons_succ]
  refine take_dst (i := 7) (dst := 15) (v := ?v7x6) rfl rfl (by kernel_rfl) (by kernel_rfl) (by kernel_rfl) (fun _ _ _ h => h) (Or.inl ⟨by rfl, ?hy7x6⟩) (by assumption) ?rest7x6
  case hy7x6 => intro w hSw; (try dsimp only at hSw); go_simp; try with_reducible rfl
  try simp only [List.setIfInBounds_toArray, List.set_cons_zero, List.set_cons_succ]
  refine take_dst (i := 8) (dst := 16) (v := ?v8x7) rfl rfl (by kernel_rfl) (by kernel_rfl) (by kernel_rfl) (fun _ _ _ h => h) (Or.inl ⟨by rfl, ?hy8x7⟩) (by assumption) ?rest8x7
  case hy8x7 => intro w hSw; (try dsimp only at hSw); go_simp; try with_reducible rfl
  try simp only [List.setIfInBounds_toArray, List.set_cons_zero, List.set_cons_succ]
  refine take_dst (i := 9) (dst := 17) (v := ?v9x8) rfl rfl (by kernel_rfl) (by kernel_rfl) (by kernel_rfl) (fun _ _ _ h => h) (Or.inl ⟨by rfl, ?hy9x8⟩) (by assumption) ?rest9x8
  case hy9x8 => intro w hSw; (try dsimp only at hSw); go_simp; try with_reducible rfl
  try simp only [List.setIfInBounds_toArray, List.set_cons_zero, List.set_cons_succ]
  refine take_dst (i := 10) (dst := 18) (v := ?v10x9) rfl rfl (by kernel_rfl) (by kernel_rfl) (by kernel_rfl) (fun _ _ _ h => h) (Or.inl ⟨by rfl, ?hy10x9⟩) (by assumption) ?rest10x9
  case hy10x9 => intro w hSw; (try dsimp only at hSw); go_simp; try with_reducible rfl
  try simp only [List.setIfInBounds_toArray, List.set_cons_zero, List.set_cons_succ]
  refine take_dst (i := 11) (dst := 19) (v := ?v11x10) rfl rfl (by kernel_rfl) (by kernel_rfl) (by kernel_rfl) (fun _ _ _ h => h) (Or.inl ⟨by rfl, ?hy11x10⟩) (by assumption) ?rest11x10
  case hy11x10 => intro w hSw; (try dsimp only at hSw); go_simp; try with_reducible rfl
  try simp only [List.setIfInBounds_toArray, List.set_cons_zero, List.set_cons_succ]
  refine wpAnyH_ready (rs := [2, 6, 12, 14]) (by kernel_rfl) (by simp) ?_
  refine AllReadyH.cons rfl (fun K hK => ?_) ?_
  · rw [if_pos (by rfl)]
    go_simp
    refine (HC.out _).mono ?_
    rintro e W1 ⟨rfl, hb1⟩
    dsimp only
    have F1 : Hid _ := Fz.out.clone hb1
    clear hb1
    refine hK.out _ _ (HXs.out _ F1.out.below) (fun _ => ?_)
    clear hK
    try simp only [List.setIfInBounds_toArray, List.set_cons_zero, List.set_cons_succ]
    refine wpAnyH_ready (rs := [6, 12, 14]) (by kernel_rfl) (by simp) ?_
    refine AllReadyH.cons rfl (fun K hK => ?_) ?_
    · rw [if_pos (by rfl)]
      go_simp
      have F2 : Hid _ := F1.out.mkA
      refine hK.out _ _ (HXs.out _ F2.out.below) (fun hS2 => ?_)
      obtain ⟨W2, hW2⟩ : ∃ u, W1.alloc (colsZ N) = u := ⟨_, rfl⟩
      obtain ⟨p2, hp2⟩ : ∃ p, W1.heap.size = p := ⟨_, rfl⟩
      rw [hW2] at F2 hS2 ⊢
      rw [hp2] at F2 ⊢
      clear hW2 hp2
      clear hK
      try simp only [List.setIfInBounds_toArray, List.set_cons_zero, List.set_cons_succ]
      refine wpAnyH_ready (rs := [12, 14]) (by kernel_rfl) (by simp) ?_
      refine AllReadyH.cons rfl (fun K hK => ?_) ?_
      · rw [if_pos (by rfl)]
        go_simp
        have F3 : Hid _ := F2.out.mkB
        refine hK.out _ _ (HXs.out _ F3.out.below) (fun hS3 => ?_)
        obtain ⟨W3, hW3⟩ : ∃ u, W2.alloc (ixsZ M) = u := ⟨_, rfl⟩
        obtain ⟨p3, hp3⟩ : ∃ p, W2.heap.size = p := ⟨_, rfl⟩
        rw [hW3] at F3 hS3 ⊢
        rw [hp3] at F3 ⊢
        clear hW3 hp3
        clear hK
        try simp only [List.setIfInBounds_toArray, List.set_cons_zero, List.set_cons_succ]
        refine take_dst (i := 13) (dst := 21) (v := ?v13x11) rfl rfl (by kernel_rfl) (by kernel_rfl) (by kernel_rfl) (fun _ _ _ h => h) (Or.inl ⟨by rfl, ?hy13x11⟩) (by assumption) ?rest13x11
        case hy13x11 => intro w hSw; (try dsimp only at hSw); go_simp; try with_reducible rfl
        try simp only [List.setIfInBounds_toArray, List.set_cons_zero, List.set_cons_succ]
        refine wpAnyH_ready (rs := [14]) (by kernel_rfl) (by simp) ?_
        refine AllReadyH.cons rfl (fun K hK => ?_) AllReadyH.nil
        · rw [if_pos (by rfl)]
          go_simp
          have F4 : Hid _ := F3.out.mkD
          refine hK.out _ _ (HXs.out _ F4.out.below) (fun hS4 => ?_)
          obtain ⟨W4, hW4⟩ : ∃ u, W3.alloc (tabZ) = u := ⟨_, rfl⟩
          obtain ⟨p4, hp4⟩ : ∃ p, W3.heap.size = p := ⟨_, rfl⟩
          rw [hW4] at F4 hS4 ⊢
          rw [hp4] at F4 ⊢
          clear hW4 hp4
          clear hK
          try simp only [List.setIfInBounds_toArray, List.set_cons_zero, List.set_cons_succ]
          refine wpAnyH_ready (rs := [15]) (by kernel_rfl) (by simp) ?_
          refine AllReadyH.cons rfl (fun K hK => ?_) AllReadyH.nil
          rw [if_pos (by rfl)]
          obtain ⟨z0, z1, z2, z3, y0, y1, y2, y3⟩ := F4.out.zero rfl
          go_simp
          refine hK.out _ _ (F4.out.setS HXs.out rfl _ _ _ _) (fun _ => ?_)
          refine wpAnyH_done (by kernel_rfl) ?_ _
          exact HKey.out _ _ _ _ F4.out
      refine AllReadyH.cons rfl (fun K hK => ?_) AllReadyH.nil
      · rw [if_pos (by rfl)]
        go_simp
        have F5 : Hid _ := F2.out.mkD
        refine hK.out _ _ (HXs.out _ F5.out.below) (fun hS5 => ?_)
        obtain ⟨W5, hW5⟩ : ∃ u, W2.alloc (tabZ) = u := ⟨_, rfl⟩
        obtain ⟨p5, hp5⟩ : ∃ p, W2.heap.size = p := ⟨_, rfl⟩
        rw [hW5] at F5 hS5 ⊢
        rw [hp5] at F5 ⊢
        clear hW5 hp5
        clear hK
        try simp only [List.setIfInBounds_toArray, List.set_cons_zero, List.set_cons_succ]
        refine wpAnyH_ready (rs := [12]) (by kernel_rfl) (by simp) ?_
        refine AllReadyH.cons rfl (fun K hK => ?_) AllReadyH.nil
        · rw [if_pos (by rfl)]
          go_simp
          have F6 : Hid _ := F5.out.mkB
          refine hK.out _ _ (HXs.out _ F6.out.below) (fun hS6 => ?_)
          obtain ⟨W6, hW6⟩ : ∃ u, W5.alloc (ixsZ M) = u := ⟨_, rfl⟩
          obtain ⟨p6, hp6⟩ : ∃ p, W5.heap.size = p := ⟨_, rfl⟩
          rw [hW6] at F6 hS6 ⊢
          rw [hp6] at F6 ⊢
          clear hW6 hp6
          clear hK
          try simp only [List.setIfInBounds_toArray, List.set_cons_zero, List.set_cons_succ]
          refine take_dst (i := 13) (dst := 21) (v := ?v13x12) rfl rfl (by kernel_rfl) (by kernel_rfl) (by kernel_rfl) (fun _ _ _ h => h) (Or.inl ⟨by rfl, ?hy13x12⟩) (by assumption) ?rest13x12
          case hy13x12 => intro w hSw; (try dsimp only at hSw); go_simp; try with_reducible rfl
          try simp only [List.setIfInBounds_toArray, List.set_cons_zero, List.set_cons_succ]
          refine wpAnyH_ready (rs := [15]) (by kernel_rfl) (by simp) ?_
          refine AllReadyH.cons rfl (fun K hK => ?_) AllReadyH.nil
          rw [if_pos (by rfl)]
          obtain ⟨z0, z1, z2, z3, y0, y1, y2, y3⟩ := F6.out.zero rfl
          go_simp
          refine hK.out _ _ (F6.out.setS HXs.out rfl _ _ _ _) (fun _ => ?_)
          refine wpAnyH_done (by kernel_rfl) ?_ _
          exact HKey.out _ _ _ _ F6.out
    refine AllReadyH.cons rfl (fun K hK => ?_) ?_
    · rw [if_pos (by rfl)]
      go_simp
      have F7 : Hid _ := F1.out.mkB
      refine hK.out _ _ (HXs.out _ F7.out.below) (fun hS7 => ?_)
      obtain ⟨W7, hW7⟩ : ∃ u, W1.alloc (ixsZ M) = u := ⟨_, rfl⟩
      obtain ⟨p7, hp7⟩ : ∃ p, W1.heap.size = p := ⟨_, rfl⟩
      rw [hW7] at F7 hS7 ⊢
      rw [hp7] at F7 ⊢
      clear hW7 hp7
      clear hK
      try simp only [List.setIfInBounds_toArray, List.set_cons_zero, List.set_cons_succ]
      refine wpAnyH_ready (rs := [6, 14]) (by kernel_rfl) (by simp) ?_
      refine AllReadyH.cons rfl (fun K hK => ?_) ?_
      · rw [if_pos (by rfl)]
        go_simp
        have F8 : Hid _ := F7.out.mkA
        refine hK.out _ _ (HXs.out _ F8.out.below) (fun hS8 => ?_)
        obtain ⟨W8, hW8⟩ : ∃ u, W7.alloc (colsZ N) = u := ⟨_, rfl⟩
        obtain ⟨p8, hp8⟩ : ∃ p, W7.heap.size = p := ⟨_, rfl⟩
        rw [hW8] at F8 hS8 ⊢
        rw [hp8] at F8 ⊢
        clear hW8 hp8
        clear hK
        try simp only [List.setIfInBounds_toArray, List.set_cons_zero, List.set_cons_succ]
        refine take_dst (i := 13) (dst := 21) (v := ?v13x13) rfl rfl (by kernel_rfl) (by kernel_rfl) (by kernel_rfl) (fun _ _ _ h => h) (Or.inl ⟨by rfl, ?hy13x13⟩) (by assumption) ?rest13x13
        case hy13x13 => intro w hSw; (try dsimp only at hSw); go_simp; try with_reducible rfl
        try simp only [List.setIfInBounds_toArray, List.set_cons_zero, List.set_cons_succ]
        refine wpAnyH_ready (rs := [14]) (by kernel_rfl) (by simp) ?_
        refine AllReadyH.cons rfl (fun K hK => ?_) AllReadyH.nil
        · rw [if_pos (by rfl)]
          go_simp
          have F9 : Hid _ := F8.out.mkD
          refine hK.out _ _ (HXs.out _ F9.out.below) (fun hS9 => ?_)
          obtain ⟨W9, hW9⟩ : ∃ u, W8.alloc (tabZ) = u := ⟨_, rfl⟩
          obtain ⟨p9, hp9⟩ : ∃ p, W8.heap.size = p := ⟨_, rfl⟩
          rw [hW9] at F9 hS9 ⊢
          rw [hp9] at F9 ⊢
          clear hW9 hp9
          clear hK
          try simp only [List.setIfInBounds_toArray, List.set_cons_zero, List.set_cons_succ]
          refine wpAnyH_ready (rs := [15]) (by kernel_rfl) (by simp) ?_
          refine AllReadyH.cons rfl (fun K hK => ?_) AllReadyH.nil
          rw [if_pos (by rfl)]
          obtain ⟨z0, z1, z2, z3, y0, y1, y2, y3⟩ := F9.out.zero rfl
          go_simp
          refine hK.out _ _ (F9.out.setS HXs.out rfl _ _ _ _) (fun _ => ?_)
          refine wpAnyH_done (by kernel_rfl) ?_ _
          exact HKey.out _ _ _ _ F9.out
      refine AllReadyH.cons rfl (fun K hK => ?_) AllReadyH.nil
      · rw [if_pos (by rfl)]
        go_simp
        have F10 : Hid _ := F7.out.mkD
        refine hK.out _ _ (HXs.out _ F10.out.below) (fun hS10 => ?_)
        obtain ⟨W10, hW10⟩ : ∃ u, W7.alloc (tabZ) = u := ⟨_, rfl⟩
        obtain ⟨p10, hp10⟩ : ∃ p, W7.heap.size = p := ⟨_, rfl⟩
        rw [hW10] at F10 hS10 ⊢
        rw [hp10] at F10 ⊢
        clear hW10 hp10
        clear hK
        try simp only [List.setIfInBounds_toArray, List.set_cons_zero, List.set_cons_succ]
        refine wpAnyH_ready (rs := [6]) (by kernel_rfl) (by simp) ?_
        refine AllReadyH.cons rfl (fun K hK => ?_) AllReadyH.nil
        · rw [if_pos (by rfl)]
          go_simp
          have F11 : Hid _ := F10.out.mkA
          refine hK.out _ _ (HXs.out _ F11.out.below) (fun hS11 => ?_)
          obtain ⟨W11, hW11⟩ : ∃ u, W10.alloc (colsZ N) = u := ⟨_, rfl⟩
          obtain ⟨p11, hp11⟩ : ∃ p, W10.heap.size = p := ⟨_, rfl⟩
          rw [hW11] at F11 hS11 ⊢
          rw [hp11] at F11 ⊢
          clear hW11 hp11
          clear hK
          try simp only [List.setIfInBounds_toArray, List.set_cons_zero, List.set_cons_succ]
          refine take_dst (i := 13) (dst := 21) (v := ?v13x14) rfl rfl (by kernel_rfl) (by kernel_rfl) (by kernel_rfl) (fun _ _ _ h => h) (Or.inl ⟨by rfl, ?hy13x14⟩) (by assumption) ?rest13x14
          case hy13x14 => intro w hSw; (try dsimp only at hSw); go_simp; try with_reducible rfl
          try simp only [List.setIfInBounds_toArray, List.set_cons_zero, List.set_cons_succ]
          refine wpAnyH_ready (rs := [15]) (by kernel_rfl) (by simp) ?_
          refine AllReadyH.cons rfl (fun K hK => ?_) AllReadyH.nil
          rw [if_pos (by rfl)]
          obtain ⟨z0, z1, z2, z3, y0, y1, y2, y3⟩ := F11.out.zero rfl
          go_simp
          refine hK.out _ _ (F11.out.setS HXs.out rfl _ _ _ _) (fun _ => ?_)
          refine wpAnyH_done (by kernel_rfl) ?_ _
          exact HKey.out _ _ _ _ F11.out
    refine AllReadyH.cons rfl (fun K hK => ?_) AllReadyH.nil
    · rw [if_pos (by rfl)]
      go_simp
      have F12 : Hid _ := F1.out.mkD
      refine hK.out _ _ (HXs.out _ F12.out.below) (fun hS12 => ?_)
      obtain ⟨W12, hW12⟩ : ∃ u, W1.alloc (tabZ) = u := ⟨_, rfl⟩
      obtain ⟨p12, hp12⟩ : ∃ p, W1.heap.size = p := ⟨_, rfl⟩
      rw [hW12] at F12 hS12 ⊢
      rw [hp12] at F12 ⊢
      clear hW12 hp12
      clear hK
      try simp only [List.setIfInBounds_toArray, List.set_cons_zero, List.set_cons_succ]
      refine wpAnyH_ready (rs := [6, 12]) (by kernel_rfl) (by simp) ?_
      refine AllReadyH.cons rfl (fun K hK => ?_) ?_
      · rw [if_pos (by rfl)]
        go_simp
        have F13 : Hid _ := F12.out.mkA
        refine hK.out _ _ (HXs.out _ F13.out.below) (fun hS13 => ?_)
        obtain ⟨W13, hW13⟩ : ∃ u, W12.alloc (colsZ N) = u := ⟨_, rfl⟩
        obtain ⟨p13, hp13⟩ : ∃ p, W12.heap.size = p := ⟨_, rfl⟩
        rw [hW13] at F13 hS13 ⊢
        rw [hp13] at F13 ⊢
        clear hW13 hp13
        clear hK
        try simp only [List.setIfInBounds_toArray, List.set_cons_zero, List.set_cons_succ]
        refine wpAnyH_ready (rs := [12]) (by kernel_rfl) (by simp) ?_
        refine AllReadyH.cons rfl (fun K hK => ?_) AllReadyH.nil
        · rw [if_pos (by rfl)]
          go_simp
          have F14 : Hid _ := F13.out.mkB
          refine hK.out _ _ (HXs.out _ F14.out.below) (fun hS14 => ?_)
          obtain ⟨W14, hW14⟩ : ∃ u, W13.alloc (ixsZ M) = u := ⟨_, rfl⟩
          obtain ⟨p14, hp14⟩ : ∃ p, W13.heap.size = p := ⟨_, rfl⟩
          rw [hW14] at F14 hS14 ⊢
          rw [hp14] at F14 ⊢
          clear hW14 hp14
          clear hK
          try simp only [List.setIfInBounds_toArray, List.set_cons_zero, List.set_cons_succ]
          refine take_dst (i := 13) (dst := 21) (v := ?v13x15) rfl rfl (by kernel_rfl) (by kernel_rfl) (by kernel_rfl) (fun _ _ _ h => h) (Or.inl ⟨by rfl, ?hy13x15⟩) (by assumption) ?rest13x15
          case hy13x15 => intro w hSw; (try dsimp only at hSw); go_simp; try with_reducible rfl
          try simp only [List.setIfInBounds_toArray, List.set_cons_zero, List.set_cons_succ]
          refine wpAnyH_ready (rs := [15]) (by kernel_rfl) (by simp) ?_
          refine AllReadyH.cons rfl (fun K hK => ?_) AllReadyH.nil
          rw [if_pos (by rfl)]
          obtain ⟨z0, z1, z2, z3, y0, y1, y2, y3⟩ := F14.out.zero rfl
          go_simp
          refine hK.out _ _ (F14.out.setS HXs.out rfl _ _ _ _) (fun _ => ?_)
          refine wpAnyH_done (by kernel_rfl) ?_ _
          exact HKey.out _ _ _ _ F14.out
      refine AllReadyH.cons rfl (fun K hK => ?_) AllReadyH.nil
      · rw [if_pos (by rfl)]
        go_simp
        have F15 : Hid _ := F12.out.mkB
        refine hK.out _ _ (HXs.out _ F15.out.below) (fun hS15 => ?_)
        obtain ⟨W15, hW15⟩ : ∃ u, W12.alloc (ixsZ M) = u := ⟨_, rfl⟩
        obtain ⟨p15, hp15⟩ : ∃ p, W12.heap.size = p := ⟨_, rfl⟩
        rw [hW15] at F15 hS15 ⊢
        rw [hp15] at F15 ⊢
        clear hW15 hp15
        clear hK
        try simp only [List.setIfInBounds_toArray, List.set_cons_zero, List.set_cons_succ]
        refine wpAnyH_ready (rs := [6]) (by kernel_rfl) (by simp) ?_
        refine AllReadyH.cons rfl (fun K hK => ?_) AllReadyH.nil
        · rw [if_pos (by rfl)]
          go_simp
          have F16 : Hid _ := F15.out.mkA
          refine hK.out _ _ (HXs.out _ F16.out.below) (fun hS16 => ?_)
          obtain ⟨W16, hW16⟩ : ∃ u, W15.alloc (colsZ N) = u := ⟨_, rfl⟩
          obtain ⟨p16, hp16⟩ : ∃ p, W15.heap.size = p := ⟨_, rfl⟩
          rw [hW16] at F16 hS16 ⊢
          rw [hp16] at F16 ⊢
          clear hW16 hp16
          clear hK
          try simp only [List.setIfInBounds_toArray, List.set_cons_zero, List.set_cons_succ]
          refine take_dst (i := 13) (dst := 21) (v := ?v13x16) rfl rfl (by kernel_rfl) (by kernel_rfl) (by kernel_rfl) (fun _ _ _ h => h) (Or.inl ⟨by rfl, ?hy13x16⟩) (by assumption) ?rest13x16
          case hy13x16 => intro w hSw; (try dsimp only at hSw); go_simp; try with_reducible rfl
          try simp only [List.setIfInBounds_toArray, List.set_cons_zero, List.set_cons_succ]
          refine wpAnyH_ready (rs := [15]) (by kernel_rfl) (by simp) ?_
          refine AllReadyH.cons rfl (fun K hK => ?_) AllReadyH.nil
          rw [if_pos (by rfl)]
          obtain ⟨z0, z1, z2, z3, y0, y1, y2, y3⟩ := F16.out.zero rfl
          go_simp
          refine hK.out _ _ (F16.out.setS HXs.out rfl _ _ _ _) (fun _ => ?_)
          refine wpAnyH_done (by kernel_rfl) ?_ _
          exact HKey.out _ _ _ _ F16.out
  refine AllReadyH.cons rfl (fun K hK => ?_) ?_
  · rw [if_pos (by rfl)]
    go_simp
    have F17 : Hid _ := Fz.out.mkA
    refine hK.out _ _ (HXs.out _ F17.out.below) (fun hS17 => ?_)
    obtain ⟨W17, hW17⟩ : ∃ u, Wz.alloc (colsZ N) = u := ⟨_, rfl⟩
    obtain ⟨p17, hp17⟩ : ∃ p, Wz.heap.size = p := ⟨_, rfl⟩
    rw [hW17] at F17 hS17 ⊢
    rw [hp17] at F17 ⊢
    clear hW17 hp17
    clear hK
    try simp only [List.setIfInBounds_toArray, List.set_cons_zero, List.set_cons_succ]
    refine wpAnyH_ready (rs := [2, 12, 14]) (by kernel_rfl) (by simp) ?_
    refine AllReadyH.cons rfl (fun K hK => ?_) ?_
    · rw [if_pos (by rfl)]
      go_simp
      refine (HC.out _).mono ?_
      rintro e W18 ⟨rfl, hb18⟩
      dsimp only
      have F18 : Hid _ := F17.out.clone hb18
      clear hb18
      refine hK.out _ _ (HXs.out _ F18.out.below) (fun _ => ?_)
      clear hK
      try simp only [List.setIfInBounds_toArray, List.set_cons_zero, List.set_cons_succ]
      refine wpAnyH_ready (rs := [12, 14]) (by kernel_rfl) (by simp) ?_
      refine AllReadyH.cons rfl (fun K hK => ?_) ?_
      · rw [if_pos (by rfl)]
        go_simp
        have F19 : Hid _ := F18.out.mkB
        refine hK.out _ _ (HXs.out _ F19.out.below) (fun hS19 => ?_)
        obtain ⟨W19, hW19⟩ : ∃ u, W18.alloc (ixsZ M) = u := ⟨_, rfl⟩
        obtain ⟨p19, hp19⟩ : ∃ p, W18.heap.size = p := ⟨_, rfl⟩
        rw [hW19] at F19 hS19 ⊢
        rw [hp19] at F19 ⊢
        clear hW19 hp19
        clear hK
        try simp only [List.setIfInBounds_toArray, List.set_cons_zero, List.set_cons_succ]
        refine take_dst (i := 13) (dst := 21) (v := ?v13x17) rfl rfl (by kernel_rfl) (by kernel_rfl) (by kernel_rfl) (fun _ _ _ h => h) (Or.inl ⟨by rfl, ?hy13x17⟩) (by assumption) ?rest13x17
        case hy13x17 => intro w hSw; (try dsimp only at hSw); go_simp; try with_reducible rfl
        try simp only [List.setIfInBounds_toArray, List.set_cons_zero, List.set_cons_succ]
        refine wpAnyH_ready (rs := [14]) (by kernel_rfl) (by simp) ?_
        refine AllReadyH.cons rfl (fun K hK => ?_) AllReadyH.nil
        · rw [if_pos (by rfl)]
          go_simp
          have F20 : Hid _ := F19.out.mkD
          refine hK.out _ _ (HXs.out _ F20.out.below) (fun hS20 => ?_)
          obtain ⟨W20, hW20⟩ : ∃ u, W19.alloc (tabZ) = u := ⟨_, rfl⟩
          obtain ⟨p20, hp20⟩ : ∃ p, W19.heap.size = p := ⟨_, rfl⟩
          rw [hW20] at F20 hS20 ⊢
          rw [hp20] at F20 ⊢
          clear hW20 hp20
          clear hK
          try simp only [List.setIfInBounds_toArray, List.set_cons_zero, List.set_cons_succ]
          refine wpAnyH_ready (rs := [15]) (by kernel_rfl) (by simp) ?_
          refine AllReadyH.cons rfl (fun K hK => ?_) AllReadyH.nil
          rw [if_pos (by rfl)]
          obtain ⟨z0, z1, z2, z3, y0, y1, y2, y3⟩ := F20.out.zero rfl
          go_simp
          refine hK.out _ _ (F20.out.setS HXs.out rfl _ _ _ _) (fun _ => ?_)
          refine wpAnyH_done (by kernel_rfl) ?_ _
          exact HKey.out _ _ _ _ F20.out
      refine AllReadyH.cons rfl (fun K hK => ?_) AllReadyH.nil
      · rw [if_pos (by rfl)]
        go_simp
        have F21 : Hid _ := F18.out.mkD
        refine hK.out _ _ (HXs.out _ F21.out.below) (fun hS21 => ?_)
        obtain ⟨W21, hW21⟩ : ∃ u, W18.alloc (tabZ) = u := ⟨_, rfl⟩
        obtain ⟨p21, hp21⟩ : ∃ p, W18.heap.size = p := ⟨_, rfl⟩
        rw [hW21] at F21 hS21 ⊢
        rw [hp21] at F21 ⊢
        clear hW21 hp21
        clear hK
        try simp only [List.setIfInBounds_toArray, List.set_cons_zero, List.set_cons_succ]
        refine wpAnyH_ready (rs := [12]) (by kernel_rfl) (by simp) ?_
        refine AllReadyH.cons rfl (fun K hK => ?_) AllReadyH.nil
        · rw [if_pos (by rfl)]
          go_simp
          have F22 : Hid _ := F21.out.mkB
          refine hK.out _ _ (HXs.out _ F22.out.below) (fun hS22 => ?_)
          obtain ⟨W22, hW22⟩ : ∃ u, W21.alloc (ixsZ M) = u := ⟨_, rfl⟩
          obtain ⟨p22, hp22⟩ : ∃ p, W21.heap.size = p := ⟨_, rfl⟩
          rw [hW22] at F22 hS22 ⊢
          rw [hp22] at F22 ⊢
          clear hW22 hp22
          clear hK
          try simp only [List.setIfInBounds_toArray, List.set_cons_zero, List.set_cons_succ]
          refine take_dst (i := 13) (dst := 21) (v := ?v13x18) rfl rfl (by kernel_rfl) (by kernel_rfl) (by kernel_rfl) (fun _ _ _ h => h) (Or.inl ⟨by rfl, ?hy13x18⟩) (by assumption) ?rest13x18
          case hy13x18 => intro w hSw; (try dsimp only at hSw); go_simp; try with_reducible rfl
          try simp only [List.setIfInBounds_toArray, List.set_cons_zero, List.set_cons_succ]
          refine wpAnyH_ready (rs := [15]) (by kernel_rfl) (by simp) ?_
          refine AllReadyH.cons rfl (fun K hK => ?_) AllReadyH.nil
          rw [if_pos (by rfl)]
          obtain ⟨z0, z1, z2, z3, y0, y1, y2, y3⟩ := F22.out.zero rfl
          go_simp
          refine hK.out _ _ (F22.out.setS HXs.out rfl _ _ _ _) (fun _ => ?_)
          refine wpAnyH_done (by kernel_rfl) ?_ _
          exact HKey.out _ _ _ _ F22.out
    refine AllReadyH.cons rfl (fun K hK => ?_) ?_
    · rw [if_pos (by rfl)]
      go_simp
      have F23 : Hid _ := F17.out.mkB
      refine hK.out _ _ (HXs.out _ F23.out.below) (fun hS23 => ?_)
      obtain ⟨W23, hW23⟩ : ∃ u, W17.alloc (ixsZ M) = u := ⟨_, rfl⟩
      obtain ⟨p23, hp23⟩ : ∃ p, W17.heap.size = p := ⟨_, rfl⟩
      rw [hW23] at F23 hS23 ⊢
      rw [hp23] at F23 ⊢
      clear hW23 hp23
      clear hK
      try simp only [List.setIfInBounds_toArray, List.set_cons_zero, List.set_cons_succ]
      refine wpAnyH_ready (rs := [2, 14]) (by kernel_rfl) (by simp) ?_
      refine AllReadyH.cons rfl (fun K hK => ?_) ?_
      · rw [if_pos (by rfl)]
        go_simp
        refine (HC.out _).mono ?_
        rintro e W24 ⟨rfl, hb24⟩
        dsimp only
        have F24 : Hid _ := F23.out.clone hb24
        clear hb24
        refine hK.out _ _ (HXs.out _ F24.out.below) (fun _ => ?_)
        clear hK
        try simp only [List.setIfInBounds_toArray, List.set_cons_zero, List.set_cons_succ]
        refine take_dst (i := 13) (dst := 21) (v := ?v13x19) rfl rfl (by kernel_rfl) (by kernel_rfl) (by kernel_rfl) (fun _ _ _ h => h) (Or.inl ⟨by rfl, ?hy13x19⟩) (by assumption) ?rest13x19
        case hy13x19 => intro w hSw; (try dsimp only at hSw); go_simp; try with_reducible rfl
        try simp only [List.setIfInBounds_toArray, List.set_cons_zero, List.set_cons_succ]
        refine wpAnyH_ready (rs := [14]) (by kernel_rfl) (by simp) ?_
        refine AllReadyH.cons rfl (fun K hK => ?_) AllReadyH.nil
        · rw [if_pos (by rfl)]
          go_simp
          have F25 : Hid _ := F24.out.mkD
          refine hK.out _ _ (HXs.out _ F25.out.below) (fun hS25 => ?_)
          obtain ⟨W25, hW25⟩ : ∃ u, W24.alloc (tabZ) = u := ⟨_, rfl⟩
          obtain ⟨p25, hp25⟩ : ∃ p, W24.heap.size = p := ⟨_, rfl⟩
          rw [hW25] at F25 hS25 ⊢
          rw [hp25] at F25 ⊢
          clear hW25 hp25
          clear hK
          try simp only [List.setIfInBounds_toArray, List.set_cons_zero, List.set_cons_succ]
          refine wpAnyH_ready (rs := [15]) (by kernel_rfl) (by simp) ?_
          refine AllReadyH.cons rfl (fun K hK => ?_) AllReadyH.nil
          rw [if_pos (by rfl)]
          obtain ⟨z0, z1, z2, z3, y0, y1, y2, y3⟩ := F25.out.zero rfl
          go_simp
          refine hK.out _ _ (F25.out.setS HXs.out rfl _ _ _ _) (fun _ => ?_)
          refine wpAnyH_done (by kernel_rfl) ?_ _
          exact HKey.out _ _ _ _ F25.out
      refine AllReadyH.cons rfl (fun K hK => ?_) AllReadyH.nil
      · rw [if_pos (by rfl)]
        go_simp
        have F26 : Hid _ := F23.out.mkD
        refine hK.out _ _ (HXs.out _ F26.out.below) (fun hS26 => ?_)
        obtain ⟨W26, hW26⟩ : ∃ u, W23.alloc (tabZ) = u := ⟨_, rfl⟩
        obtain ⟨p26, hp26⟩ : ∃ p, W23.heap.size = p := ⟨_, rfl⟩
        rw [hW26] at F26 hS26 ⊢
        rw [hp26] at F26 ⊢
        clear hW26 hp26
        clear hK
        try simp only [List.setIfInBounds_toArray, List.set_cons_zero, List.set_cons_succ]
        refine wpAnyH_ready (rs := [2]) (by kernel_rfl) (by simp) ?_
        refine AllReadyH.cons rfl (fun K hK => ?_) AllReadyH.nil
        · rw [if_pos (by rfl)]
          go_simp
          refine (HC.out _).mono ?_
          rintro e W27 ⟨rfl, hb27⟩
          dsimp only
          have F27 : Hid _ := F26.out.clone hb27
          clear hb27
          refine hK.out _ _ (HXs.out _ F27.out.below) (fun _ => ?_)
          clear hK
          try simp only [List.setIfInBounds_toArray, List.set_cons_zero, List.set_cons_succ]
          refine take_dst (i := 13) (dst := 21) (v := ?v13x20) rfl rfl (by kernel_rfl) (by kernel_rfl) (by kernel_rfl) (fun _ _ _ h => h) (Or.inl ⟨by rfl, ?hy13x20⟩) (by assumption) ?rest13x20
          case hy13x20 => intro w hSw; (try dsimp only at hSw); go_simp; try with_reducible rfl
          try simp only [List.setIfInBounds_toArray, List.set_cons_zero, List.set_cons_succ]
          refine wpAnyH_ready (rs := [15]) (by kernel_rfl) (by simp) ?_
          refine AllReadyH.cons rfl (fun K hK => ?_) AllReadyH.nil
          rw [if_pos (by rfl)]
          obtain ⟨z0, z1, z2, z3, y0, y1, y2, y3⟩ := F27.out.zero rfl
          go_simp
          refine hK.out _ _ (F27.out.setS HXs.out rfl _ _ _ _) (fun _ => ?_)
          refine wpAnyH_done (by kernel_rfl) ?_ _
          exact HKey.out _ _ _ _ F27.out
    refine AllReadyH.cons rfl (fun K hK => ?_) AllReadyH.nil
    · rw [if_pos (by rfl)]
      go_simp
      have F28 : Hid _ := F17.out.mkD
      refine hK.out _ _ (HXs.out _ F28.out.below) (fun hS28 => ?_)
      obtain ⟨W28, hW28⟩ : ∃ u, W17.alloc (tabZ) = u := ⟨_, rfl⟩
      obtain ⟨p28, hp28⟩ : ∃ p, W17.heap.size = p := ⟨_, rfl⟩
      rw [hW28] at F28 hS28 ⊢
      rw [hp28] at F28 ⊢
      clear hW28 hp28
      clear hK
      try simp only [List.setIfInBounds_toArray, List.set_cons_zero, List.set_cons_succ]
      refine wpAnyH_ready (rs := [2, 12]) (by kernel_rfl) (by simp) ?_
      refine AllReadyH.cons rfl (fun K hK => ?_) ?_
      · rw [if_pos (by rfl)]
        go_simp
        refine (HC.out _).mono ?_
        rintro e W29 ⟨rfl, hb29⟩
        dsimp only
        have F29 : Hid _ := F28.out.clone hb29
        clear hb29
        refine hK.out _ _ (HXs.out _ F29.out.below) (fun _ => ?_)
        clear hK
        try simp only [List.setIfInBounds_toArray, List.set_cons_zero, List.set_cons_succ]
        refine wpAnyH_ready (rs := [12]) (by kernel_rfl) (by simp) ?_
        refine AllReadyH.cons rfl (fun K hK => ?_) AllReadyH.nil
        · rw [if_pos (by rfl)]
          go_simp
          have F30 : Hid _ := F29.out.mkB
          refine hK.out _ _ (HXs.out _ F30.out.below) (fun hS30 => ?_)
          obtain ⟨W30, hW30⟩ : ∃ u, W29.alloc (ixsZ M) = u := ⟨_, rfl⟩
          obtain ⟨p30, hp30⟩ : ∃ p, W29.heap.size = p := ⟨_, rfl⟩
          rw [hW30] at F30 hS30 ⊢
          rw [hp30] at F30 ⊢
          clear hW30 hp30
          clear hK
          try simp only [List.setIfInBounds_toArray, List.set_cons_zero, List.set_cons_succ]
          refine take_dst (i := 13) (dst := 21) (v := ?v13x21) rfl rfl (by kernel_rfl) (by kernel_rfl) (by kernel_rfl) (fun _ _ _ h => h) (Or.inl ⟨by rfl, ?hy13x21⟩) (by assumption) ?rest13x21
          case hy13x21 => intro w hSw; (try dsimp only at hSw); go_simp; try with_reducible rfl
          try simp only [List.setIfInBounds_toArray, List.set_cons_zero, List.set_cons_succ]
          refine wpAnyH_ready (rs := [15]) (by kernel_rfl) (by simp) ?_
          refine AllReadyH.cons rfl (fun K hK => ?_) AllReadyH.nil
          rw [if_pos (by rfl)]
          obtain ⟨z0, z1, z2, z3, y0, y1, y2, y3⟩ := F30.out.zero rfl
          go_simp
          refine hK.out _ _ (F30.out.setS HXs.out rfl _ _ _ _) (fun _ => ?_)
          refine wpAnyH_done (by kernel_rfl) ?_ _
          exact HKey.out _ _ _ _ F30.out
      refine AllReadyH.cons rfl (fun K hK => ?_) AllReadyH.nil
      · rw [if_pos (by rfl)]
        go_simp
        have F31 : Hid _ := F28.out.mkB
        refine hK.out _ _ (HXs.out _ F31.out.below) (fun hS31 => ?_)
        obtain ⟨W31, hW31⟩ : ∃ u, W28.alloc (ixsZ M) = u := ⟨_, rfl⟩
        obtain ⟨p31, hp31⟩ : ∃ p, W28.heap.size = p := ⟨_, rfl⟩
        rw [hW31] at F31 hS31 ⊢
        rw [hp31] at F31 ⊢
        clear hW31 hp31
        clear hK
        try simp only [List.setIfInBounds_toArray, List.set_cons_zero, List.set_cons_succ]
        refine wpAnyH_ready (rs := [2]) (by kernel_rfl) (by simp) ?_
        refine AllReadyH.cons rfl (fun K hK => ?_) AllReadyH.nil
        · rw [if_pos (by rfl)]
          go_simp
          refine (HC.out _).mono ?_
          rintro e W32 ⟨rfl, hb32⟩
          dsimp only
          have F32 : Hid _ := F31.out.clone hb32
          clear hb32
          refine hK.out _ _ (HXs.out _ F32.out.below) (fun _ => ?_)
          clear hK
          try simp only [List.setIfInBounds_toArray, List.set_cons_zero, List.set_cons_succ]
          refine take_dst (i := 13) (dst := 21) (v := ?v13x22) rfl rfl (by kernel_rfl) (by kernel_rfl) (by kernel_rfl) (fun _ _ _ h => h) (Or.inl ⟨by rfl, ?hy13x22⟩) (by assumption) ?rest13x22
          case hy13x22 => intro w hSw; (try dsimp only at hSw); go_simp; try with_reducible rfl
          try simp only [List.setIfInBounds_toArray, List.set_cons_zero, List.set_cons_succ]
          refine wpAnyH_ready (rs := [15]) (by kernel_rfl) (by simp) ?_
          refine AllReadyH.cons rfl (fun K hK => ?_) AllReadyH.nil
          rw [if_pos (by rfl)]
          obtain ⟨z0, z1, z2, z3, y0, y1, y2, y3⟩ := F32.out.zero rfl
          go_simp
          refine hK.out _ _ (F32.out.setS HXs.out rfl _ _ _ _) (fun _ => ?_)
          refine wpAnyH_done (by kernel_rfl) ?_ _
          exact HKey.out _ _ _ _ F32.out
  refine AllReadyH.cons rfl (fun K hK => ?_) ?_
  · rw [if_pos (by rfl)]
    go_simp
    have F33 : Hid _ := Fz.out.mkB
    refine hK.out _ _ (HXs.out _ F33.out.below) (fun hS33 => ?_)
    obtain ⟨W33, hW33⟩ : ∃ u, Wz.alloc (ixsZ M) = u := ⟨_, rfl⟩
    obtain ⟨p33, hp33⟩ : ∃ p, Wz.heap.size = p := ⟨_, rfl⟩
    rw [hW33] at F33 hS33 ⊢
    rw [hp33] at F33 ⊢
    clear hW33 hp33
    clear hK
    try simp only [List.setIfInBounds_toArray, List.set_cons_zero, List.set_cons_succ]
    refine wpAnyH_ready (rs := [2, 6, 14]) (by kernel_rfl) (by simp) ?_
    refine AllReadyH.cons rfl (fun K hK => ?_) ?_
    · rw [if_pos (by rfl)]
      go_simp
      refine (HC.out _).mono ?_
      rintro e W34 ⟨rfl, hb34⟩
      dsimp only
      have F34 : Hid _ := F33.out.clone hb34
      clear hb34
      refine hK.out _ _ (HXs.out _ F34.out.below) (fun _ => ?_)
      clear hK
      try simp only [List.setIfInBounds_toArray, List.set_cons_zero, List.set_cons_succ]
      refine wpAnyH_ready (rs := [6, 14]) (by kernel_rfl) (by simp) ?_
      refine AllReadyH.cons rfl (fun K hK => ?_) ?_
      · rw [if_pos (by rfl)]
        go_simp
        have F35 : Hid _ := F34.out.mkA
        refine hK.out _ _ (HXs.out _ F35.out.below) (fun hS35 => ?_)
        obtain ⟨W35, hW35⟩ : ∃ u, W34.alloc (colsZ N) = u := ⟨_, rfl⟩
        obtain ⟨p35, hp35⟩ : ∃ p, W34.heap.size = p := ⟨_, rfl⟩
        rw [hW35] at F35 hS35 ⊢
        rw [hp35] at F35 ⊢
        clear hW35 hp35
        clear hK
        try simp only [List.setIfInBounds_toArray, List.set_cons_zero, List.set_cons_succ]
        refine take_dst (i := 13) (dst := 21) (v := ?v13x23) rfl rfl (by kernel_rfl) (by kernel_rfl) (by kernel_rfl) (fun _ _ _ h => h) (Or.inl ⟨by rfl, ?hy13x23⟩) (by assumption) ?rest13x23
        case hy13x23 => intro w hSw; (try dsimp only at hSw); go_simp; try with_reducible rfl
        try simp only [List.setIfInBounds_toArray, List.set_cons_zero, List.set_cons_succ]
        refine wpAnyH_ready (rs := [14]) (by kernel_rfl) (by simp) ?_
        refine AllReadyH.cons rfl (fun K hK => ?_) AllReadyH.nil
        · rw [if_pos (by rfl)]
          go_simp
          have F36 : Hid _ := F35.out.mkD
          refine hK.out _ _ (HXs.out _ F36.out.below) (fun hS36 => ?_)
          obtain ⟨W36, hW36⟩ : ∃ u, W35.alloc (tabZ) = u := ⟨_, rfl⟩
          obtain ⟨p36, hp36⟩ : ∃ p, W35.heap.size = p := ⟨_, rfl⟩
          rw [hW36] at F36 hS36 ⊢
          rw [hp36] at F36 ⊢
          clear hW36 hp36
          clear hK
          try simp only [List.setIfInBounds_toArray, List.set_cons_zero, List.set_cons_succ]
          refine wpAnyH_ready (rs := [15]) (by kernel_rfl) (by simp) ?_
          refine AllReadyH.cons rfl (fun K hK => ?_) AllReadyH.nil
          rw [if_pos (by rfl)]
          obtain ⟨z0, z1, z2, z3, y0, y1, y2, y3⟩ := F36.out.zero rfl
          go_simp
          refine hK.out _ _ (F36.out.setS HXs.out rfl _ _ _ _) (fun _ => ?_)
          refine wpAnyH_done (by kernel_rfl) ?_ _
          exact HKey.out _ _ _ _ F36.out
      refine AllReadyH.cons rfl (fun K hK => ?_) AllReadyH.nil
      · rw [if_pos (by rfl)]
        go_simp
        have F37 : Hid _ := F34.out.mkD
        refine hK.out _ _ (HXs.out _ F37.out.below) (fun hS37 => ?_)
        obtain ⟨W37, hW37⟩ : ∃ u, W34.alloc (tabZ) = u := ⟨_, rfl⟩
        obtain ⟨p37, hp37⟩ : ∃ p, W34.heap.size = p := ⟨_, rfl⟩
        rw [hW37] at F37 hS37 ⊢
        rw [hp37] at F37 ⊢
        clear hW37 hp37
        clear hK
        try simp only [List.setIfInBounds_toArray, List.set_cons_zero, List.set_cons_succ]
        refine wpAnyH_ready (rs := [6]) (by kernel_rfl) (by simp) ?_
        refine AllReadyH.cons rfl (fun K hK => ?_) AllReadyH.nil
        · rw [if_pos (by rfl)]
          go_simp
          have F38 : Hid _ := F37.out.mkA
          refine hK.out _ _ (HXs.out _ F38.out.below) (fun hS38 => ?_)
          obtain ⟨W38, hW38⟩ : ∃ u, W37.alloc (colsZ N) = u := ⟨_, rfl⟩
          obtain ⟨p38, hp38⟩ : ∃ p, W37.heap.size = p := ⟨_, rfl⟩
          rw [hW38] at F38 hS38 ⊢
          rw [hp38] at F38 ⊢
          clear hW38 hp38
          clear hK
          try simp only [List.setIfInBounds_toArray, List.set_cons_zero, List.set_cons_succ]
          refine take_dst (i := 13) (dst := 21) (v := ?v13x24) rfl rfl (by kernel_rfl) (by kernel_rfl) (by kernel_rfl) (fun _ _ _ h => h) (Or.inl ⟨by rfl, ?hy13x24⟩) (by assumption) ?rest13x24
          case hy13x24 => intro w hSw; (try dsimp only at hSw); go_simp; try with_reducible rfl
          try simp only [List.setIfInBounds_toArray, List.set_cons_zero, List.set_cons_succ]
          refine wpAnyH_ready (rs := [15]) (by kernel_rfl) (by simp) ?_
          refine AllReadyH.cons rfl (fun K hK => ?_) AllReadyH.nil
          rw [if_pos (by rfl)]
          obtain ⟨z0, z1, z2, z3, y0, y1, y2, y3⟩ := F38.out.zero rfl
          go_simp
          refine hK.out _ _ (F38.out.setS HXs.out rfl _ _ _ _) (fun _ => ?_)
          refine wpAnyH_done (by kernel_rfl) ?_ _
          exact HKey.out _ _ _ _ F38.out
    refine AllReadyH.cons rfl (fun K hK => ?_) ?_
    · rw [if_pos (by rfl)]
      go_simp
      have F39 : Hid _ := F33.out.mkA
      refine hK.out _ _ (HXs.out _ F39.out.below) (fun hS39 => ?_)
      obtain ⟨W39, hW39⟩ : ∃ u, W33.alloc (colsZ N) = u := ⟨_, rfl⟩
      obtain ⟨p39, hp39⟩ : ∃ p, W33.heap.size = p := ⟨_, rfl⟩
      rw [hW39] at F39 hS39 ⊢
      rw [hp39] at F39 ⊢
      clear hW39 hp39
      clear hK
      try simp only [List.setIfInBounds_toArray, List.set_cons_zero, List.set_cons_succ]
      refine wpAnyH_ready (rs := [2, 14]) (by kernel_rfl) (by simp) ?_
      refine AllReadyH.cons rfl (fun K hK => ?_) ?_
      · rw [if_pos (by rfl)]
        go_simp
        refine (HC.out _).mono ?_
        rintro e W40 ⟨rfl, hb40⟩
        dsimp only
        have F40 : Hid _ := F39.out.clone hb40
        clear hb40
        refine hK.out _ _ (HXs.out _ F40.out.below) (fun _ => ?_)
        clear hK
        try simp only [List.setIfInBounds_toArray, List.set_cons_zero, List.set_cons_succ]
        refine take_dst (i := 13) (dst := 21) (v := ?v13x25) rfl rfl (by kernel_rfl) (by kernel_rfl) (by kernel_rfl) (fun _ _ _ h => h) (Or.inl ⟨by rfl, ?hy13x25⟩) (by assumption) ?rest13x25
        case hy13x25 => intro w hSw; (try dsimp only at hSw); go_simp; try with_reducible rfl
        try simp only [List.setIfInBounds_toArray, List.set_cons_zero, List.set_cons_succ]
        refine wpAnyH_ready (rs := [14]) (by kernel_rfl) (by simp) ?_
        refine AllReadyH.cons rfl (fun K hK => ?_) AllReadyH.nil
        · rw [if_pos (by rfl)]
          go_simp
          have F41 : Hid _ := F40.out.mkD
          refine hK.out _ _ (HXs.out _ F41.out.below) (fun hS41 => ?_)
          obtain ⟨W41, hW41⟩ : ∃ u, W40.alloc (tabZ) = u := ⟨_, rfl⟩
          obtain ⟨p41, hp41⟩ : ∃ p, W40.heap.size = p := ⟨_, rfl⟩
          rw [hW41] at F41 hS41 ⊢
          rw [hp41] at F41 ⊢
          clear hW41 hp41
          clear hK
          try simp only [List.setIfInBounds_toArray, List.set_cons_zero, List.set_cons_succ]
          refine wpAnyH_ready (rs := [15]) (by kernel_rfl) (by simp) ?_
          refine AllReadyH.cons rfl (fun K hK => ?_) AllReadyH.nil
          rw [if_pos (by rfl)]
          obtain ⟨z0, z1, z2, z3, y0, y1, y2, y3⟩ := F41.out.zero rfl
          go_simp
          refine hK.out _ _ (F41.out.setS HXs.out rfl _ _ _ _) (fun _ => ?_)
          refine wpAnyH_done (by kernel_rfl) ?_ _
          exact HKey.out _ _ _ _ F41.out
      refine AllReadyH.cons rfl (fun K hK => ?_) AllReadyH.nil
      · rw [if_pos (by rfl)]
        go_simp
        have F42 : Hid _ := F39.out.mkD
        refine hK.out _ _ (HXs.out _ F42.out.below) (fun hS42 => ?_)
        obtain ⟨W42, hW42⟩ : ∃ u, W39.alloc (tabZ) = u := ⟨_, rfl⟩
        obtain ⟨p42, hp42⟩ : ∃ p, W39.heap.size = p := ⟨_, rfl⟩
        rw [hW42] at F42 hS42 ⊢
        rw [hp42] at F42 ⊢
        clear hW42 hp42
        clear hK
        try simp only [List.setIfInBounds_toArray, List.set_cons_zero, List.set_cons_succ]
        refine wpAnyH_ready (rs := [2]) (by kernel_rfl) (by simp) ?_
        refine AllReadyH.cons rfl (fun K hK => ?_) AllReadyH.nil
        · rw [if_pos (by rfl)]
          go_simp
          refine (HC.out _).mono ?_
          rintro e W43 ⟨rfl, hb43⟩
          dsimp only
          have F43 : Hid _ := F42.out.clone hb43
          clear hb43
          refine hK.out _ _ (HXs.out _ F43.out.below) (fun _ => ?_)
          clear hK
          try simp only [List.setIfInBounds_toArray, List.set_cons_zero, List.set_cons_succ]
          refine take_dst (i := 13) (dst := 21) (v := ?v13x26) rfl rfl (by kernel_rfl) (by kernel_rfl) (by kernel_rfl) (fun _ _ _ h => h) (Or.inl ⟨by rfl, ?hy13x26⟩) (by assumption) ?rest13x26
          case hy13x26 => intro w hSw; (try dsimp only at hSw); go_simp; try with_reducible rfl
          try simp only [List.setIfInBounds_toArray, List.set_cons_zero, List.set_cons_succ]
          refine wpAnyH_ready (rs := [15]) (by kernel_rfl) (by simp) ?_
          refine AllReadyH.cons rfl (fun K hK => ?_) AllReadyH.nil
          rw [if_pos (by rfl)]
          obtain ⟨z0, z1, z2, z3, y0, y1, y2, y3⟩ := F43.out.zero rfl
          go_simp
          refine hK.out _ _ (F43.out.setS HXs.out rfl _ _ _ _) (fun _ => ?_)
          refine wpAnyH_done (by kernel_rfl) ?_ _
          exact HKey.out _ _ _ _ F43.out
    refine AllReadyH.cons rfl (fun K hK => ?_) AllReadyH.nil
    · rw [if_pos (by rfl)]
      go_simp
      have F44 : Hid _ := F33.out.mkD
      refine hK.out _ _ (HXs.out _ F44.out.below) (fun hS44 => ?_)
      obtain ⟨W44, hW44⟩ : ∃ u, W33.alloc (tabZ) = u := ⟨_, rfl⟩
      obtain ⟨p44, hp44⟩ : ∃ p, W33.heap.size = p := ⟨_, rfl⟩
      rw [hW44] at F44 hS44 ⊢
      rw [hp44] at F44 ⊢
      clear hW44 hp44
      clear hK
      try simp only [List.setIfInBounds_toArray, List.set_cons_zero, List.set_cons_succ]
      refine wpAnyH_ready (rs := [2, 6]) (by kernel_rfl) (by simp) ?_
      refine AllReadyH.cons rfl (fun K hK => ?_) ?_
      · rw [if_pos (by rfl)]
        go_simp
        refine (HC.out _).mono ?_
        rintro e W45 ⟨rfl, hb45⟩
        dsimp only
        have F45 : Hid _ := F44.out.clone hb45
        clear hb45
        refine hK.out _ _ (HXs.out _ F45.out.below) (fun _ => ?_)
        clear hK
        try simp only [List.setIfInBounds_toArray, List.set_cons_zero, List.set_cons_succ]
        refine wpAnyH_ready (rs := [6]) (by kernel_rfl) (by simp) ?_
        refine AllReadyH.cons rfl (fun K hK => ?_) AllReadyH.nil
        · rw [if_pos (by rfl)]
          go_simp
          have F46 : Hid _ := F45.out.mkA
          refine hK.out _ _ (HXs.out _ F46.out.below) (fun hS46 => ?_)
          obtain ⟨W46, hW46⟩ : ∃ u, W45.alloc (colsZ N) = u := ⟨_, rfl⟩
          obtain ⟨p46, hp46⟩ : ∃ p, W45.heap.size = p := ⟨_, rfl⟩
          rw [hW46] at F46 hS46 ⊢
          rw [hp46] at F46 ⊢
          clear hW46 hp46
          clear hK
          try simp only [List.setIfInBounds_toArray, List.set_cons_zero, List.set_cons_succ]
          refine take_dst (i := 13) (dst := 21) (v := ?v13x27) rfl rfl (by kernel_rfl) (by kernel_rfl) (by kernel_rfl) (fun _ _ _ h => h) (Or.inl ⟨by rfl, ?hy13x27⟩) (by assumption) ?rest13x27
          case hy13x27 => intro w hSw; (try dsimp only at hSw); go_simp; try with_reducible rfl
          try simp only [List.setIfInBounds_toArray, List.set_cons_zero, List.set_cons_succ]
          refine wpAnyH_ready (rs := [15]) (by kernel_rfl) (by simp) ?_
          refine AllReadyH.cons rfl (fun K hK => ?_) AllReadyH.nil
          rw [if_pos (by rfl)]
          obtain ⟨z0, z1, z2, z3, y0, y1, y2, y3⟩ := F46.out.zero rfl
          go_simp
          refine hK.out _ _ (F46.out.setS HXs.out rfl _ _ _ _) (fun _ => ?_)
          refine wpAnyH_done (by kernel_rfl) ?_ _
          exact HKey.out _ _ _ _ F46.out
      refine AllReadyH.cons rfl (fun K hK => ?_) AllReadyH.nil
      · rw [if_pos (by rfl)]
        go_simp
        have F47 : Hid _ := F44.out.mkA
        refine hK.out _ _ (HXs.out _ F47.out.below) (fun hS47 => ?_)
        obtain ⟨W47, hW47⟩ : ∃ u, W44.alloc (colsZ N) = u := ⟨_, rfl⟩
        obtain ⟨p47, hp47⟩ : ∃ p, W44.heap.size = p := ⟨_, rfl⟩
        rw [hW47] at F47 hS47 ⊢
        rw [hp47] at F47 ⊢
        clear hW47 hp47
        clear hK
        try simp only [List.setIfInBounds_toArray, List.set_cons_zero, List.set_cons_succ]
        refine wpAnyH_ready (rs := [2]) (by kernel_rfl) (by simp) ?_
        refine AllReadyH.cons rfl (fun K hK => ?_) AllReadyH.nil
        · rw [if_pos (by rfl)]
          go_simp
          refine (HC.out _).mono ?_
          rintro e W48 ⟨rfl, hb48⟩
          dsimp only
          have F48 : Hid _ := F47.out.clone hb48
          clear hb48
          refine hK.out _ _ (HXs.out _ F48.out.below) (fun _ => ?_)
          clear hK
          try simp only [List.setIfInBounds_toArray, List.set_cons_zero, List.set_cons_succ]
          refine take_dst (i := 13) (dst := 21) (v := ?v13x28) rfl rfl (by kernel_rfl) (by kernel_rfl) (by kernel_rfl) (fun _ _ _ h => h) (Or.inl ⟨by rfl, ?hy13x28⟩) (by assumption) ?rest13x28
          case hy13x28 => intro w hSw; (try dsimp only at hSw); go_simp; try with_reducible rfl
          try simp only [List.setIfInBounds_toArray, List.set_cons_zero, List.set_cons_succ]
          refine wpAnyH_ready (rs := [15]) (by kernel_rfl) (by simp) ?_
          refine AllReadyH.cons rfl (fun K hK => ?_) AllReadyH.nil
          rw [if_pos (by rfl)]
          obtain ⟨z0, z1, z2, z3, y0, y1, y2, y3⟩ := F48.out.zero rfl
          go_simp
          refine hK.out _ _ (F48.out.setS HXs.out rfl _ _ _ _) (fun _ => ?_)
          refine wpAnyH_done (by kernel_rfl) ?_ _
          exact HKey.out _ _ _ _ F48.out
  refine AllReadyH.cons rfl (fun K hK => ?_) AllReadyH.nil
  · rw [if_pos (by rfl)]
    go_simp
    have F49 : Hid _ := Fz.out.mkD
    refine hK.out _ _ (HXs.out _ F49.out.below) (fun hS49 => ?_)
    obtain ⟨W49, hW49⟩ : ∃ u, Wz.alloc (tabZ) = u := ⟨_, rfl⟩
    obtain ⟨p49, hp49⟩ : ∃ p, Wz.heap.size = p := ⟨_, rfl⟩
    rw [hW49] at F49 hS49 ⊢
    rw [hp49] at F49 ⊢
    clear hW49 hp49
    clear hK
    try simp only [List.setIfInBounds_toArray, List.set_cons_zero, List.set_cons_succ]
    refine wpAnyH_ready (rs := [2, 6, 12]) (by kernel_rfl) (by simp) ?_
    refine AllReadyH.cons rfl (fun K hK => ?_) ?_
    · rw [if_pos (by rfl)]
      go_simp
      refine (HC.out _).mono ?_
      rintro e W50 ⟨rfl, hb50⟩
      dsimp only
      have F50 : Hid _ := F49.out.clone hb50
      clear hb50
      refine hK.out _ _ (HXs.out _ F50.out.below) (fun _ => ?_)
      clear hK
      try simp only [List.setIfInBounds_toArray, List.set_cons_zero, List.set_cons_succ]
      refine wpAnyH_ready (rs := [6, 12]) (by kernel_rfl) (by simp) ?_
      refine AllReadyH.cons rfl (fun K hK => ?_) ?_
      · rw [if_pos (by rfl)]
        go_simp
        have F51 : Hid _ := F50.out.mkA
        refine hK.out _ _ (HXs.out _ F51.out.below) (fun hS51 => ?_)
        obtain ⟨W51, hW51⟩ : ∃ u, W50.alloc (colsZ N) = u := ⟨_, rfl⟩
        obtain ⟨p51, hp51⟩ : ∃ p, W50.heap.size = p := ⟨_, rfl⟩
        rw [hW51] at F51 hS51 ⊢
        rw [hp51] at F51 ⊢
        clear hW51 hp51
        clear hK
        try simp only [List.setIfInBounds_toArray, List.set_cons_zero, List.set_cons_succ]
        refine wpAnyH_ready (rs := [12]) (by kernel_rfl) (by simp) ?_
        refine AllReadyH.cons rfl (fun K hK => ?_) AllReadyH.nil
        · rw [if_pos (by rfl)]
          go_simp
          have F52 : Hid _ := F51.out.mkB
          refine hK.out _ _ (HXs.out _ F52.out.below) (fun hS52 => ?_)
          obtain ⟨W52, hW52⟩ : ∃ u, W51.alloc (ixsZ M) = u := ⟨_, rfl⟩
          obtain ⟨p52, hp52⟩ : ∃ p, W51.heap.size = p := ⟨_, rfl⟩
          rw [hW52] at F52 hS52 ⊢
          rw [hp52] at F52 ⊢
          clear hW52 hp52
          clear hK
          try simp only [List.setIfInBounds_toArray, List.set_cons_zero, List.set_cons_succ]
          refine take_dst (i := 13) (dst := 21) (v := ?v13x29) rfl rfl (by kernel_rfl) (by kernel_rfl) (by kernel_rfl) (fun _ _ _ h => h) (Or.inl ⟨by rfl, ?hy13x29⟩) (by assumption) ?rest13x29
          case hy13x29 => intro w hSw; (try dsimp only at hSw); go_simp; try with_reducible rfl
          try simp only [List.setIfInBounds_toArray, List.set_cons_zero, List.set_cons_succ]
          refine wpAnyH_ready (rs := [15]) (by kernel_rfl) (by simp) ?_
          refine AllReadyH.cons rfl (fun K hK => ?_) AllReadyH.nil
          rw [if_pos (by rfl)]
          obtain ⟨z0, z1, z2, z3, y0, y1, y2, y3⟩ := F52.out.zero rfl
          go_simp
          refine hK.out _ _ (F52.out.setS HXs.out rfl _ _ _ _) (fun _ => ?_)
          refine wpAnyH_done (by kernel_rfl) ?_ _
          exact HKey.out _ _ _ _ F52.out
      refine AllReadyH.cons rfl (fun K hK => ?_) AllReadyH.nil
      · rw [if_pos (by rfl)]
        go_simp
        have F53 : Hid _ := F50.out.mkB
        refine hK.out _ _ (HXs.out _ F53.out.below) (fun hS53 => ?_)
        obtain ⟨W53, hW53⟩ : ∃ u, W50.alloc (ixsZ M) = u := ⟨_, rfl⟩
        obtain ⟨p53, hp53⟩ : ∃ p, W50.heap.size = p := ⟨_, rfl⟩
        rw [hW53] at F53 hS53 ⊢
        rw [hp53] at F53 ⊢
        clear hW53 hp53
        clear hK
        try simp only [List.setIfInBounds_toArray, List.set_cons_zero, List.set_cons_succ]
        refine wpAnyH_ready (rs := [6]) (by kernel_rfl) (by simp) ?_
        refine AllReadyH.cons rfl (fun K hK => ?_) AllReadyH.nil
        · rw [if_pos (by rfl)]
          go_simp
          have F54 : Hid _ := F53.out.mkA
          refine hK.out _ _ (HXs.out _ F54.out.below) (fun hS54 => ?_)
          obtain ⟨W54, hW54⟩ : ∃ u, W53.alloc (colsZ N) = u := ⟨_, rfl⟩
          obtain ⟨p54, hp54⟩ : ∃ p, W53.heap.size = p := ⟨_, rfl⟩
          rw [hW54] at F54 hS54 ⊢
          rw [hp54] at F54 ⊢
          clear hW54 hp54
          clear hK
          try simp only [List.setIfInBounds_toArray, List.set_cons_zero, List.set_cons_succ]
          refine take_dst (i := 13) (dst := 21) (v := ?v13x30) rfl rfl (by kernel_rfl) (by kernel_rfl) (by kernel_rfl) (fun _ _ _ h => h) (Or.inl ⟨by rfl, ?hy13x30⟩) (by assumption) ?rest13x30
          case hy13x30 => intro w hSw; (try dsimp only at hSw); go_simp; try with_reducible rfl
          try simp only [List.setIfInBounds_toArray, List.set_cons_zero, List.set_cons_succ]
          refine wpAnyH_ready (rs := [15]) (by kernel_rfl) (by simp) ?_
          refine AllReadyH.cons rfl (fun K hK => ?_) AllReadyH.nil
          rw [if_pos (by rfl)]
          obtain ⟨z0, z1, z2, z3, y0, y1, y2, y3⟩ := F54.out.zero rfl
          go_simp
          refine hK.out _ _ (F54.out.setS HXs.out rfl _ _ _ _) (fun _ => ?_)
          refine wpAnyH_done (by kernel_rfl) ?_ _
          exact HKey.out _ _ _ _ F54.out
    refine AllReadyH.cons rfl (fun K hK => ?_) ?_
    · rw [if_pos (by rfl)]
      go_simp
      have F55 : Hid _ := F49.out.mkA
      refine hK.out _ _ (HXs.out _ F55.out.below) (fun hS55 => ?_)
      obtain ⟨W55, hW55⟩ : ∃ u, W49.alloc (colsZ N) = u := ⟨_, rfl⟩
      obtain ⟨p55, hp55⟩ : ∃ p, W49.heap.size = p := ⟨_, rfl⟩
      rw [hW55] at F55 hS55 ⊢
      rw [hp55] at F55 ⊢
      clear hW55 hp55
      clear hK
      try simp only [List.setIfInBounds_toArray, List.set_cons_zero, List.set_cons_succ]
      refine wpAnyH_ready (rs := [2, 12]) (by kernel_rfl) (by simp) ?_
      refine AllReadyH.cons rfl (fun K hK => ?_) ?_
      · rw [if_pos (by rfl)]
        go_simp
        refine (HC.out _).mono ?_
        rintro e W56 ⟨rfl, hb56⟩
        dsimp only
        have F56 : Hid _ := F55.out.clone hb56
        clear hb56
        refine hK.out _ _ (HXs.out _ F56.out.below) (fun _ => ?_)
        clear hK
        try simp only [List.setIfInBounds_toArray, List.set_cons_zero, List.set_cons_succ]
        refine wpAnyH_ready (rs := [12]) (by kernel_rfl) (by simp) ?_
        refine AllReadyH.cons rfl (fun K hK => ?_) AllReadyH.nil
        · rw [if_pos (by rfl)]
          go_simp
          have F57 : Hid _ := F56.out.mkB
          refine hK.out _ _ (HXs.out _ F57.out.below) (fun hS57 => ?_)
          obtain ⟨W57, hW57⟩ : ∃ u, W56.alloc (ixsZ M) = u := ⟨_, rfl⟩
          obtain ⟨p57, hp57⟩ : ∃ p, W56.heap.size = p := ⟨_, rfl⟩
          rw [hW57] at F57 hS57 ⊢
          rw [hp57] at F57 ⊢
          clear hW57 hp57
          clear hK
          try simp only [List.setIfInBounds_toArray, List.set_cons_zero, List.set_cons_succ]
          refine take_dst (i := 13) (dst := 21) (v := ?v13x31) rfl rfl (by kernel_rfl) (by kernel_rfl) (by kernel_rfl) (fun _ _ _ h => h) (Or.inl ⟨by rfl, ?hy13x31⟩) (by assumption) ?rest13x31
          case hy13x31 => intro w hSw; (try dsimp only at hSw); go_simp; try with_reducible rfl
          try simp only [List.setIfInBounds_toArray, List.set_cons_zero, List.set_cons_succ]
          refine wpAnyH_ready (rs := [15]) (by kernel_rfl) (by simp) ?_
          refine AllReadyH.cons rfl (fun K hK => ?_) AllReadyH.nil
          rw [if_pos (by rfl)]
          obtain ⟨z0, z1, z2, z3, y0, y1, y2, y3⟩ := F57.out.zero rfl
          go_simp
          refine hK.out _ _ (F57.out.setS HXs.out rfl _ _ _ _) (fun _ => ?_)
          refine wpAnyH_done (by kernel_rfl) ?_ _
          exact HKey.out _ _ _ _ F57.out
      refine AllReadyH.cons rfl (fun K hK => ?_) AllReadyH.nil
      · rw [if_pos (by rfl)]
        go_simp
        have F58 : Hid _ := F55.out.mkB
        refine hK.out _ _ (HXs.out _ F58.out.below) (fun hS58 => ?_)
        obtain ⟨W58, hW58⟩ : ∃ u, W55.alloc (ixsZ M) = u := ⟨_, rfl⟩
        obtain ⟨p58, hp58⟩ : ∃ p, W55.heap.size = p := ⟨_, rfl⟩
        rw [hW58] at F58 hS58 ⊢
        rw [hp58] at F58 ⊢
        clear hW58 hp58
        clear hK
        try simp only [List.setIfInBounds_toArray, List.set_cons_zero, List.set_cons_succ]
        refine wpAnyH_ready (rs := [2]) (by kernel_rfl) (by simp) ?_
        refine AllReadyH.cons rfl (fun K hK => ?_) AllReadyH.nil
        · rw [if_pos (by rfl)]
          go_simp
          refine (HC.out _).mono ?_
          rintro e W59 ⟨rfl, hb59⟩
          dsimp only
          have F59 : Hid _ := F58.out.clone hb59
          clear hb59
          refine hK.out _ _ (HXs.out _ F59.out.below) (fun _ => ?_)
          clear hK
          try simp only [List.setIfInBounds_toArray, List.set_cons_zero, List.set_cons_succ]
          refine take_dst (i := 13) (dst := 21) (v := ?v13x32) rfl rfl (by kernel_rfl) (by kernel_rfl) (by kernel_rfl) (fun _ _ _ h => h) (Or.inl ⟨by rfl, ?hy13x32⟩) (by assumption) ?rest13x32
          case hy13x32 => intro w hSw; (try dsimp only at hSw); go_simp; try with_reducible rfl
          try simp only [List.setIfInBounds_toArray, List.set_cons_zero, List.set_cons_succ]
          refine wpAnyH_ready (rs := [15]) (by kernel_rfl) (by simp) ?_
          refine AllReadyH.cons rfl (fun K hK => ?_) AllReadyH.nil
          rw [if_pos (by rfl)]
          obtain ⟨z0, z1, z2, z3, y0, y1, y2, y3⟩ := F59.out.zero rfl
          go_simp
          refine hK.out _ _ (F59.out.setS HXs.out rfl _ _ _ _) (fun _ => ?_)
          refine wpAnyH_done (by kernel_rfl) ?_ _
          exact HKey.out _ _ _ _ F59.out
    refine AllReadyH.cons rfl (fun K hK => ?_) AllReadyH.nil
    · rw [if_pos (by rfl)]
      go_simp
      have F60 : Hid _ := F49.out.mkB
      refine hK.out _ _ (HXs.out _ F60.out.below) (fun hS60 => ?_)
      obtain ⟨W60, hW60⟩ : ∃ u, W49.alloc (ixsZ M) = u := ⟨_, rfl⟩
      obtain ⟨p60, hp60⟩ : ∃ p, W49.heap.size = p := ⟨_, rfl⟩
      rw [hW60] at F60 hS60 ⊢
      rw [hp60] at F60 ⊢
      clear hW60 hp60
      clear hK
      try simp only [List.setIfInBounds_toArray, List.set_cons_zero, List.set_cons_succ]
      refine wpAnyH_ready (rs := [2, 6]) (by kernel_rfl) (by simp) ?_
      refine AllReadyH.cons rfl (fun K hK => ?_) ?_
      · rw [if_pos (by rfl)]
        go_simp
        refine (HC.out _).mono ?_
        rintro e W61 ⟨rfl, hb61⟩
        dsimp only
        have F61 : Hid _ := F60.out.clone hb61
        clear hb61
        refine hK.out _ _ (HXs.out _ F61.out.below) (fun _ => ?_)
        clear hK
        try simp only [List.setIfInBounds_toArray, List.set_cons_zero, List.set_cons_succ]
        refine wpAnyH_ready (rs := [6]) (by kernel_rfl) (by simp) ?_
        refine AllReadyH.cons rfl (fun K hK => ?_) AllReadyH.nil
        · rw [if_pos (by rfl)]
          go_simp
          have F62 : Hid _ := F61.out.mkA
          refine hK.out _ _ (HXs.out _ F62.out.below) (fun hS62 => ?_)
          obtain ⟨W62, hW62⟩ : ∃ u, W61.alloc (colsZ N) = u := ⟨_, rfl⟩
          obtain ⟨p62, hp62⟩ : ∃ p, W61.heap.size = p := ⟨_, rfl⟩
          rw [hW62] at F62 hS62 ⊢
          rw [hp62] at F62 ⊢
          clear hW62 hp62
          clear hK
          try simp only [List.setIfInBounds_toArray, List.set_cons_zero, List.set_cons_succ]
          refine take_dst (i := 13) (dst := 21) (v := ?v13x33) rfl rfl (by kernel_rfl) (by kernel_rfl) (by kernel_rfl) (fun _ _ _ h => h) (Or.inl ⟨by rfl, ?hy13x33⟩) (by assumption) ?rest13x33
          case hy13x33 => intro w hSw; (try dsimp only at hSw); go_simp; try with_reducible rfl
          try simp only [List.setIfInBounds_toArray, List.set_cons_zero, List.set_cons_succ]
          refine wpAnyH_ready (rs := [15]) (by kernel_rfl) (by simp) ?_
          refine AllReadyH.cons rfl (fun K hK => ?_) AllReadyH.nil
          rw [if_pos (by rfl)]
          obtain ⟨z0, z1, z2, z3, y0, y1, y2, y3⟩ := F62.out.zero rfl
          go_simp
          refine hK.out _ _ (F62.out.setS HXs.out rfl _ _ _ _) (fun _ => ?_)
          refine wpAnyH_done (by kernel_rfl) ?_ _
          exact HKey.out _ _ _ _ F62.out
      refine AllReadyH.cons rfl (fun K hK => ?_) AllReadyH.nil
      · rw [if_pos (by rfl)]
        go_simp
        have F63 : Hid _ := F60.out.mkA
        refine hK.out _ _ (HXs.out _ F63.out.below) (fun hS63 => ?_)
        obtain ⟨W63, hW63⟩ : ∃ u, W60.alloc (colsZ N) = u := ⟨_, rfl⟩
        obtain ⟨p63, hp63⟩ : ∃ p, W60.heap.size = p := ⟨_, rfl⟩
        rw [hW63] at F63 hS63 ⊢
        rw [hp63] at F63 ⊢
        clear hW63 hp63
        clear hK
        try simp only [List.setIfInBounds_toArray, List.set_cons_zero, List.set_cons_succ]
        refine wpAnyH_ready (rs := [2]) (by kernel_rfl) (by simp) ?_
        refine AllReadyH.cons rfl (fun K hK => ?_) AllReadyH.nil
        · rw [if_pos (by rfl)]
          go_simp
          refine (HC.out _).mono ?_
          rintro e W64 ⟨rfl, hb64⟩
          dsimp only
          have F64 : Hid _ := F63.out.clone hb64
          clear hb64
          refine hK.out _ _ (HXs.out _ F64.out.below) (fun _ => ?_)
          clear hK
          try simp only [List.setIfInBounds_toArray, List.set_cons_zero, List.set_cons_succ]
          refine take_dst (i := 13) (dst := 21) (v := ?v13x34) rfl rfl (by kernel_rfl) (by kernel_rfl) (by kernel_rfl) (fun _ _ _ h => h) (Or.inl ⟨by rfl, ?hy13x34⟩) (by assumption) ?rest13x34
          case hy13x34 => intro w hSw; (try dsimp only at hSw); go_simp; try with_reducible rfl
          try simp only [List.setIfInBounds_toArray, List.set_cons_zero, List.set_cons_succ]
          refine wpAnyH_ready (rs := [15]) (by kernel_rfl) (by simp) ?_
          refine AllReadyH.cons rfl (fun K hK => ?_) AllReadyH.nil
          rw [if_pos (by rfl)]
          obtain ⟨z0, z1, z2, z3, y0, y1, y2, y3⟩ := F64.out.zero rfl
          go_simp
          refine hK.out _ _ (F64.out.setS HXs.out rfl _ _ _ _) (fun _ => ?_)
          refine wpAnyH_done (by kernel_rfl) ?_ _
          exact HKey.out _ _ _ _ F64.out
  intro W p1 p2 p3 F
  obtain ⟨U, hU⟩ : ∃ U, set4 W p3 (.string nm) (.slice (some ⟨p1, 0, none⟩) N N) (.int .i64 key) (.slice (some ⟨p2, 0, none⟩) M M) = U := ⟨_, rfl⟩
  have HU : Hid (CL w2 U nm key N M p1 p2 p3 (List.replicate N noCol) (List.replicate M noIv)) := by
    have ht := set4_turn W p3 (.string nm) (.slice (some ⟨p1, 0, none⟩) N N) (.int .i64 key) (.slice (some ⟨p2, 0, none⟩) M M)
    obtain ⟨a1, a2⟩ := F.a p1 rfl
    obtain ⟨b1, b2⟩ := F.b p2 rfl
    obtain ⟨d1, d2⟩ := F.d p3 rfl
    rw [hU] at ht
    refine ⟨F.below.trans ((ht.mono (S' := fun i => w2.heap.size ≤ i) (fun i hi => by rw [hi]; exact d2)).toBelow F.below.size), (ht.block p1 (lt_of a1) (fun e => ?_)).trans a1, (ht.block p2 (lt_of b1) (fun e => ?_)).trans b1, by rw [← hU]; exact set4_heap d1 _ _ _ _, a2, b2, fun x hx => ?_⟩
    · rw [e, d1] at a1; simp at a1
    · rw [e, d1] at b1; simp at b1
    · rw [List.eq_of_mem_replicate hx]; exact World.ownsRow_nil _ _ _ _
  unfold set4 at hU
  rw [hU]
  clear hU F m1 m2 HC
  have HBX : Hid (∀ u, Below w2.heap.size w2 u → Below w.heap.size w u) := fun u hu => by
    rw [hxb]
    exact HW2.out.1.trans (hu.mono (by have := HW2.out.2.2.1; omega))
  have HXb := HXs
  clear HXs
  obtain ⟨x0, x1, x2, x3⟩ := HXb.out _ HU.out.below
  go_wp2_with fail
  go_loopw [25] (fun v wr => ∃ j : Nat, j ≤ N ∧ v = .int .i64 j ∧ Hid (CL w2 wr nm key N M p1 p2 p3 (partG noCol T.co j) (List.replicate M noIv))) (fun v _ => N - (intOf v).toNat)
  case atStart => exact ⟨0, Nat.zero_le _, rfl, (by show CL _ _ _ _ _ _ _ _ _ _ _; rw [partG_zero, HLN.out.1]; exact HU.out)⟩
  case round =>
    clear x0 x1 x2 x3 HU
    obtain ⟨j, hj, rfl, HL⟩ := hrel
    by_cases hlt : j < N
    · obtain ⟨⟨y, k⟩, hy⟩ : ∃ y, T.co[j]? = some y := ⟨_, List.getElem?_eq_getElem (by rw [HLN.out.1]; exact hlt)⟩
      obtain ⟨eb0, off, rfl, q1, q2⟩ := HXC.out wr (HBX.out _ HL.out.below) j (y, k) hy
      dsimp only at q1 q2
      have hlI : (j : Int) < (N : Int) := by omega
      have HCy : Hid (∀ u, Calls Tryz.prog 33 #[.string y] u fun e w' => e = .returned (.string y) ∧ Below u.heap.size u w') := HCC.out (y, k) (List.mem_of_getElem? hy)
      obtain ⟨wE, hwE⟩ : ∃ wE, wr.alloc (.cells #[.string y, .int .i64 k] 25) = wE := ⟨_, rfl⟩
      obtain ⟨eb, heb⟩ : ∃ eb, wr.heap.size = eb := ⟨_, rfl⟩
      have hE1 : wE.heap[eb]? = some (.cells #[.string y, .int .i64 k] 25) := by rw [← hwE, ← heb]; exact heap_new wr _
      have HLE : Hid (CL w2 wE nm key N M p1 p2 p3 (partG noCol T.co j) (List.replicate M noIv)) := by rw [← hwE]; exact HL.out.clone ((Below.refl _ wr).alloc (Nat.le_refl _) _)
      have hjl : j < T.co.length := by rw [HLN.out.1]; exact hlt
      have HF : Hid (∀ u, Below wE.heap.size wE u → CL w2 u nm key N M p1 p2 p3 (partG noCol T.co j) (List.replicate M noIv) ∧ u.cell? ⟨p3, 1, none⟩ = some (.slice (some ⟨p1, 0, none⟩) N N) ∧ u.cell? ⟨eb, 0, none⟩ = some (.string y) ∧ u.cell? ⟨eb, 1, none⟩ = some (.int .i64 k) ∧ u.cell? ⟨p1, j * 2, none⟩ = some (.string ⟨#[]⟩) ∧ u.cell? ⟨p1, j * 2 + 1, none⟩ = some (.int .i64 0) ∧ u.frozen? ⟨p1, j * 2, none⟩ = false ∧ u.frozen? ⟨p1, j * 2 + 1, none⟩ = false) := fun u hu => by
        have c := HLE.out.clone hu
        have e := (hu.block eb (lt_of hE1)).trans hE1
        exact ⟨c, by rw [cell_of c.d]; rfl, by rw [cell_of e]; rfl, by rw [cell_of e]; rfl, rows_at (en := enC) (m := 2) (fun _ => rfl) c.a (partG_at hjl) (i := 0) rfl, rows_at (en := enC) (m := 2) (fun _ => rfl) c.a (partG_at hjl) (i := 1) rfl, frozen_of c.a _, frozen_of c.a _⟩
      obtain ⟨-, r1, r2, r3, -⟩ := HF.out wE (Below.refl _ _)
      have n13 := HL.out.ne13
      have n1e : p1 ≠ eb := fun e => by have := lt_of HL.out.a; omega
      have hjN : j * 2 + 1 < N * 2 := by omega
      have HY : Hid (T.co[j]? = some (y, k)) := hy
      clear hy hE1 hjl
      go_wp2_with fail
      clear hwE heb
      go_region_held3 (fun u => u.cell? ⟨p3, 1, none⟩ = some (.slice (some ⟨p1, 0, none⟩) N N) ∧ u.cell? ⟨eb, 0, none⟩ = some (.string y) ∧ u.cell? ⟨eb, 1, none⟩ = some (.int .i64 k)) (first | (refine ⟨?_, ?_, ?_⟩ <;> (repeat (first | with_reducible assumption | with_reducible apply cell_drew | with_reducible refine cell_far ?_ (by assumption))) <;> done) | go_keep)
        ((go_at_call 33; go_must (refine (HCy.out _).mono ?_; rintro e w5 ⟨rfl, hb5⟩; obtain ⟨HL5, s1', s2', s3', s4', s5', s6', s7'⟩ := HF.out w5 ((below_drewN wE _).trans hb5); have HL5' : Hid (CL w2 w5 nm key N M p1 p2 p3 (partG noCol T.co j) (List.replicate M noIv)) := HL5; clear HL5)))
      go_wp2_with fail
      go_roundw
      case rel =>
        have hjl : j < T.co.length := by rw [HLN.out.1]; exact hlt
        refine ⟨j + 1, by omega, by go_num, ?_⟩
        show CL _ _ _ _ _ _ _ _ _ _ _
        have hyk : (y, k) = T.co[j] := by have := HY.out; rw [List.getElem?_eq_getElem hjl] at this; exact (Option.some.inj this).symm
        have := setC_heap HL5'.out.a (j := j) (by rw [partG_length (by omega)]; exact hjl) y k
        rw [hyk, partG_next hjl] at this
        exact HL5'.out.turnA ((Turn.setCell (S := fun i => i = p1) _ ⟨p1, j * 2, none⟩ _ rfl).trans (Turn.setCell _ ⟨p1, j * 2 + 1, none⟩ _ rfl)) this
      case measure => simp [intOf]; omega
    · have hlI : ¬ (j : Int) < (N : Int) := by omega
      have HL2 : Hid (CL w2 wr nm key N M p1 p2 p3 T.co (List.replicate M noIv)) := by
        have := HL.out
        rw [show j = T.co.length by rw [HLN.out.1]; omega, partG_all] at this
        exact this
      obtain ⟨x0, x1, x2, x3⟩ := HXb.out _ HL2.out.below
      clear HL HXC HCC
      go_wp2_with fail
      go_loopw [44] (fun v wr => ∃ (i : Nat) (X' : List Iv), i ≤ M ∧ v = .int .i64 i ∧ Hid (X'.length = X.length ∧ X'.map Iv.ix = X.map Iv.ix ∧ CL w2 wr nm key N M p1 p2 p3 T.co (partG noIv X' i))) (fun v _ => M - (intOf v).toNat)
      case atStart => exact ⟨0, X, Nat.zero_le _, rfl, rfl, rfl, (by rw [partG_zero, HLN.out.2]; exact HL2.out)⟩
      case round =>
        clear x0 x1 x2 x3 HL2
        obtain ⟨i, X', hi, rfl, HL⟩ := hrel
        by_cases hlt2 : i < M
        · obtain ⟨⟨⟨y, cs, un⟩, vv⟩, hy⟩ : ∃ y, X[i]? = some y := ⟨_, List.getElem?_eq_getElem (by rw [HLN.out.2]; exact hlt2)⟩
          have hmem := List.mem_of_getElem? hy
          obtain ⟨eb0, off, rfl, q1, q2, q3⟩ := HXX.out wr (HBX.out _ HL.out.2.2.below) i _ hy
          obtain ⟨va, vc, hvv, HCi⟩ := HCI.out _ hmem
          dsimp only at q1 q2 q3 hvv HCi
          subst hvv
          have hlI2 : (i : Int) < (M : Int) := by omega
          have HCy : Hid (∀ u, Calls Tryz.prog 33 #[.string y] u fun e w' => e = .returned (.string y) ∧ Below u.heap.size u w') := HCX.out _ hmem
          obtain ⟨nc, hnc⟩ : ∃ nc, cs.length = nc := ⟨_, rfl⟩
          rw [hnc] at q2 HCi
          obtain ⟨wE, hwE⟩ : ∃ wE, wr.alloc (.cells #[.string y, .slice va nc vc, .bool un] 81) = wE := ⟨_, rfl⟩
          obtain ⟨eb, heb⟩ : ∃ eb, wr.heap.size = eb := ⟨_, rfl⟩
          have hE1 : wE.heap[eb]? = some (.cells #[.string y, .slice va nc vc, .bool un] 81) := by rw [← hwE, ← heb]; exact heap_new wr _
          have HLE : Hid (CL w2 wE nm key N M p1 p2 p3 T.co (partG noIv X' i)) := by rw [← hwE]; exact HL.out.2.2.clone ((Below.refl _ wr).alloc (Nat.le_refl _) _)
          have hil : i < X'.length := by rw [HL.out.1, HLN.out.2]; exact hlt2
          have HF : Hid (∀ u, Below wE.heap.size wE u → CL w2 u nm key N M p1 p2 p3 T.co (partG noIv X' i) ∧ u.cell? ⟨p3, 3, none⟩ = some (.slice (some ⟨p2, 0, none⟩) M M) ∧ u.cell? ⟨eb, 0, none⟩ = some (.string y) ∧ u.cell? ⟨eb, 1, none⟩ = some (.slice va nc vc) ∧ u.cell? ⟨eb, 2, none⟩ = some (.bool un) ∧ u.cell? ⟨p2, i * 3, none⟩ = some (.string ⟨#[]⟩) ∧ u.cell? ⟨p2, i * 3 + 1, none⟩ = some (.slice none 0 0) ∧ u.cell? ⟨p2, i * 3 + 2, none⟩ = some (.bool false) ∧ u.frozen? ⟨p2, i * 3, none⟩ = false ∧ u.frozen? ⟨p2, i * 3 + 1, none⟩ = false ∧ u.frozen? ⟨p2, i * 3 + 2, none⟩ = false) := fun u hu => by
            have c := HLE.out.clone hu
            have e := (hu.block eb (lt_of hE1)).trans hE1
            exact ⟨c, by rw [cell_of c.d]; rfl, by rw [cell_of e]; rfl, by rw [cell_of e]; rfl, by rw [cell_of e]; rfl, rows_at (en := enX) (m := 3) (fun _ => rfl) c.b (partG_at hil) (i := 0) rfl, rows_at (en := enX) (m := 3) (fun _ => rfl) c.b (partG_at hil) (i := 1) rfl, rows_at (en := enX) (m := 3) (fun _ => rfl) c.b (partG_at hil) (i := 2) rfl, frozen_of c.b _, frozen_of c.b _, frozen_of c.b _⟩
          have HCu : Hid (∀ u, Below wE.heap.size wE u → Calls Tryz.prog 34 #[.slice va nc vc] u fun e w' => ∃ g c, e = .returned (.slice (some ⟨g, 0, none⟩) nc c) ∧ Hid (w'.ownsRow w2.heap.size 3 1 (.slice (some ⟨g, 0, none⟩) nc c) nc (flat enI cs)) ∧ Hid (Below u.heap.size u w')) := fun u hu => (HCi u (HBX.out _ (HLE.out.clone hu).below)).mono fun e w' ⟨g, c, e1, e2, e3⟩ => ⟨g, c, e1, (by
            have hsz := (HLE.out.clone hu).below.size
            obtain ⟨j1, j2⟩ := e2.out
            refine ⟨j1, ?_⟩
            rcases j2 with j2 | ⟨g', cap, cur, j3, j4, j5⟩
            · exact Or.inl j2
            · exact Or.inr ⟨g', cap, cur, j3, by omega, j5⟩), e3⟩
          obtain ⟨-, r1, r2, r3, r4, -⟩ := HF.out wE (Below.refl _ _)
          have n23 := HL.out.2.2.ne23
          have n2e : p2 ≠ eb := fun e => by have := lt_of HL.out.2.2.b; omega
          have hjN2 : i * 3 + 2 < M * 3 := by omega
          have HY : Hid (X[i]? = some ⟨⟨y, cs, un⟩, .slice va nc vc⟩) := by rw [hnc] at hy; exact hy
          have HNC : Hid (cs.length = nc) := hnc
          clear hy hE1 hil hmem HCi hnc
          go_wp2_with fail
          clear hwE heb
          go_region_held3 (fun u => u.cell? ⟨p3, 3, none⟩ = some (.slice (some ⟨p2, 0, none⟩) M M) ∧ u.cell? ⟨eb, 0, none⟩ = some (.string y) ∧ u.cell? ⟨eb, 1, none⟩ = some (.slice va nc vc) ∧ u.cell? ⟨eb, 2, none⟩ = some (.bool un)) (first | (refine ⟨?_, ?_, ?_, ?_⟩ <;> (repeat (first | with_reducible assumption | with_reducible apply cell_drew | with_reducible refine cell_far ?_ (by assumption))) <;> done) | go_keep)
            (first
              | (go_at_call 33; refine (HCy.out _).mono ?_; rintro e w7 ⟨rfl, hb7⟩; have HR7 : Hid (w7.ownsRow w2.heap.size 3 1 (.slice (some ⟨gI, 0, none⟩) nc cI) nc (flat enI cs)) := ownsRow_block HRI.out (fun g hg => hb7.block g (World.ownsRow.lt HRI.out g hg).2); have HB7 : Hid (Below wE.heap.size wE w7) := HBI.out.trans (hb7.mono HBI.out.size); obtain ⟨HL7, u1, u2, u3, u4, u5, u6, u7, u8, u9, u10⟩ := HF.out w7 HB7.out; have HL7' : Hid (CL w2 w7 nm key N M p1 p2 p3 T.co (partG noIv X' i)) := HL7; clear HL7 hb7)
              | (go_at_call 33; go_must (refine (HCy.out _).mono ?_; rintro e wC ⟨rfl, hbC⟩; have HBC : Hid (Below wE.heap.size wE wC) := (below_drewN wE _).trans hbC; obtain ⟨-, v1, v2, v3, v4, -⟩ := HF.out wC HBC.out; clear hbC))
              | (go_at_call 34; refine (HCu.out _ HBC.out).mono ?_; rintro e w7 ⟨gI, cI, rfl, HR7, hb7⟩; have HB7 : Hid (Below wE.heap.size wE w7) := HBC.out.trans (hb7.out.mono HBC.out.size); obtain ⟨HL7, u1, u2, u3, u4, u5, u6, u7, u8, u9, u10⟩ := HF.out w7 HB7.out; have HL7' : Hid (CL w2 w7 nm key N M p1 p2 p3 T.co (partG noIv X' i)) := HL7; clear HL7 hb7)
              | (go_at_call 34; go_must (refine (HCu.out _ (below_drewN wE _)).mono ?_; rintro e wI ⟨gI, cI, rfl, HRI, hbI⟩; have HBI : Hid (Below wE.heap.size wE wI) := (below_drewN wE _).trans hbI.out; obtain ⟨-, v1, v2, v3, v4, -⟩ := HF.out wI HBI.out; clear hbI)))
          all_goals (
            go_wp2_with fail
            go_roundw
            case rel =>
              have hil : i < X'.length := by rw [HL.out.1, HLN.out.2]; exact hlt2
              have hil2 : i < X.length := by rw [HLN.out.2]; exact hlt2
              have hx : X[i] = ⟨⟨y, cs, un⟩, .slice va nc vc⟩ := by have := HY.out; rw [List.getElem?_eq_getElem hil2] at this; exact Option.some.inj this
              refine ⟨i + 1, X'.set i ⟨⟨y, cs, un⟩, .slice (some ⟨gI, 0, none⟩) nc cI⟩, by omega, by go_num, ?_, ?_, ?_⟩
              · rw [List.length_set]; exact HL.out.1
              · rw [List.map_set, HL.out.2.1, ← List.map_set]
                apply List.ext_getElem?
                intro q
                by_cases hq : i = q
                · subst hq
                  rw [List.getElem?_map, List.getElem?_map, List.getElem?_set_self hil2, List.getElem?_eq_getElem hil2, hx]; rfl
                · rw [List.getElem?_map, List.getElem?_map, List.getElem?_set_ne hq]
              · have hst := setX_heap HL7'.out.b (j := i) (by rw [partG_length (by omega)]; exact hil) ⟨⟨y, cs, un⟩, .slice (some ⟨gI, 0, none⟩) nc cI⟩
                have hpn : (partG noIv X' i).set i ⟨⟨y, cs, un⟩, .slice (some ⟨gI, 0, none⟩) nc cI⟩ = partG noIv (X'.set i ⟨⟨y, cs, un⟩, .slice (some ⟨gI, 0, none⟩) nc cI⟩) (i + 1) := by
                  have := partG_next (z := noIv) (K := X'.set i ⟨⟨y, cs, un⟩, .slice (some ⟨gI, 0, none⟩) nc cI⟩) (j := i) (by rw [List.length_set]; exact hil)
                  rw [List.getElem_set_self] at this
                  rw [← this]
                  unfold partG
                  rw [List.length_set, List.take_set_of_le (Nat.le_refl i)]
                rw [hpn] at hst
                refine HL7'.out.turnB (((Turn.setCell (S := fun q => q = p2) _ ⟨p2, i * 3, none⟩ _ rfl).trans (Turn.setCell _ ⟨p2, i * 3 + 1, none⟩ _ rfl)).trans (Turn.setCell _ ⟨p2, i * 3 + 2, none⟩ _ rfl)) hst (fun x hx' => ?_)
                rw [← hpn] at hx'
                rcases List.mem_or_eq_of_mem_set hx' with h | h
                · exact Or.inl h
                · rw [h]
                  refine Or.inr ?_
                  show World.ownsRow _ _ _ _ _ cs.length _
                  rw [HNC.out]
                  exact HR7.out
            case measure => simp [intOf]; omega)
        · have hlI2 : ¬ (i : Int) < (M : Int) := by omega
          have HLf : Hid (X'.length = X.length ∧ X'.map Iv.ix = X.map Iv.ix ∧ CL w2 wr nm key N M p1 p2 p3 T.co X') := by
            obtain ⟨z1, z2, z3⟩ := HL.out
            rw [show i = X'.length by rw [z1, HLN.out.2]; omega, partG_all] at z3
            exact ⟨z1, z2, z3⟩
          have hd := HLf.out.2.2.d
          have d0 : wr.cell? ⟨p3, 0, none⟩ = some (.string nm) := by rw [cell_of hd]; rfl
          have d1 : wr.cell? ⟨p3, 1, none⟩ = some (.slice (some ⟨p1, 0, none⟩) N N) := by rw [cell_of hd]; rfl
          have d2 : wr.cell? ⟨p3, 2, none⟩ = some (.int .i64 key) := by rw [cell_of hd]; rfl
          have d3 : wr.cell? ⟨p3, 3, none⟩ = some (.slice (some ⟨p2, 0, none⟩) M M) := by rw [cell_of hd]; rfl
          have hrb : wr.heap[xb + 1]? = some tabZ := (HLf.out.2.2.below.block (xb + 1) (by have := HW2.out.2.2.1; omega)).trans HW2.out.2.2.2
          have e0 : wr.cell? ⟨xb + 1, 0, none⟩ = some (.string ⟨#[]⟩) := by rw [cell_of hrb]; rfl
          have e1 : wr.cell? ⟨xb + 1, 1, none⟩ = some (.slice none 0 0) := by rw [cell_of hrb]; rfl
          have e2 : wr.cell? ⟨xb + 1, 2, none⟩ = some (.int .i64 0) := by rw [cell_of hrb]; rfl
          have e3 : wr.cell? ⟨xb + 1, 3, none⟩ = some (.slice none 0 0) := by rw [cell_of hrb]; rfl
          have f0 := frozen_of hrb 0
          have f1 := frozen_of hrb 1
          have f2 := frozen_of hrb 2
          have f3 := frozen_of hrb 3
          have HRB : Hid (wr.heap[xb + 1]? = some tabZ) := hrb
          clear hd hrb HL HXX HCI HCX HXb
          go_wp2_with fail
          have i0 : (wr.setCell ⟨xb + 1, 0, none⟩ (.string nm)).cell? ⟨xb + 1, 0, none⟩ = some (.string nm) := by rw [cell_of (heap_setCell_same HRB.out 0 _)]; rfl
          have i1 : ∀ a, ((wr.setCell ⟨xb + 1, 0, none⟩ a).setCell ⟨xb + 1, 1, none⟩ (.slice (some ⟨p1, 0, none⟩) N N)).cell? ⟨xb + 1, 1, none⟩ = some (.slice (some ⟨p1, 0, none⟩) N N) := fun a => by rw [cell_of (heap_setCell_same (heap_setCell_same HRB.out 0 _) 1 _)]; rfl
          have i2 : ∀ a b, (((wr.setCell ⟨xb + 1, 0, none⟩ a).setCell ⟨xb + 1, 1, none⟩ b).setCell ⟨xb + 1, 2, none⟩ (.int .i64 key)).cell? ⟨xb + 1, 2, none⟩ = some (.int .i64 key) := fun a b => by rw [cell_of (heap_setCell_same (heap_setCell_same (heap_setCell_same HRB.out 0 _) 1 _) 2 _)]; rfl
          have i3 : ∀ a b c, ((((wr.setCell ⟨xb + 1, 0, none⟩ a).setCell ⟨xb + 1, 1, none⟩ b).setCell ⟨xb + 1, 2, none⟩ c).setCell ⟨xb + 1, 3, none⟩ (.slice (some ⟨p2, 0, none⟩) M M)).cell? ⟨xb + 1, 3, none⟩ = some (.slice (some ⟨p2, 0, none⟩) M M) := fun a b c => by rw [cell_of (heap_setCell_same (heap_setCell_same (heap_setCell_same (heap_setCell_same HRB.out 0 _) 1 _) 2 _) 3 _)]; rfl
          refine bodyPost_ret (by simp [results, Tryz.results22, go_sem, i0, i1, i2, i3]; rfl) rfl ?_
          have ht := set4_turn wr (xb + 1) (.string nm) (.slice (some ⟨p1, 0, none⟩) N N) (.int .i64 key) (.slice (some ⟨p2, 0, none⟩) M M)
          have hwz := HW2.out.2.2.1
          have hb1 : Below w.heap.size w wr := HBX.out _ HLf.out.2.2.below
          have hk1 : ∀ g, w2.heap.size ≤ g → g < wr.heap.size → (set4 wr (xb + 1) (.string nm) (.slice (some ⟨p1, 0, none⟩) N N) (.int .i64 key) (.slice (some ⟨p2, 0, none⟩) M M)).heap[g]? = wr.heap[g]? := fun g h1 h2 => ht.block g h2 (by omega)
          show CopyR T w _ _
          refine ⟨.slice (some ⟨p1, 0, none⟩) N N, .slice (some ⟨p2, 0, none⟩) M M, X', by unfold tabVal; rw [HKN.out.1, HKN.out.2], ⟨?_, ?_, ?_, fun x hx => ?_⟩, hb1.trans ((ht.mono (S' := fun q => w.heap.size ≤ q) (fun q hq => by omega)).toBelow hb1.size)⟩
          · rw [HLN.out.1]
            exact row_made (en := enC) (m := 2) (fun _ => rfl) HLN.out.1 (by omega) ((hk1 p1 HLf.out.2.2.ga (lt_of HLf.out.2.2.a)).trans HLf.out.2.2.a) (by have := HLf.out.2.2.ga; omega)
          · have hX : X'.length = M := HLf.out.1.trans HLN.out.2
            rw [hX]
            exact row_made (en := enX) (m := 3) (fun _ => rfl) hX (by omega) ((hk1 p2 HLf.out.2.2.gb (lt_of HLf.out.2.2.b)).trans HLf.out.2.2.b) (by have := HLf.out.2.2.gb; omega)
          · rw [HLf.out.2.1]; exact HEQ.out
          · have hr := HLf.out.2.2.rows x hx
            have hr2 := ownsRow_block (w' := set4 wr (xb + 1) (.string nm) (.slice (some ⟨p1, 0, none⟩) N N) (.int .i64 key) (.slice (some ⟨p2, 0, none⟩) M M)) hr fun g hg => hk1 g (World.ownsRow.lt hr g hg).1 (World.ownsRow.lt hr g hg).2
            obtain ⟨j1, j2⟩ := hr2
            refine ⟨j1, ?_⟩
            rcases j2 with j2 | ⟨g', cap, cur, j3, j4, j5⟩
            · exact Or.inl j2
            · exact Or.inr ⟨g', cap, cur, j3, by omega, j5⟩

end Go.Proofs.YtfddmibaojfalaaGreat

/- The program's newTable, of a schema without an index. -/
import Derived.Test.YtfddmibaojfalaaGreatXRows
namespace Go.Proofs.YtfddmibaojfalaaGreat
open Go.RowKit

/-- a new table -/
structure NewT (T : Tab) (w : World) (w' : World) (tb : Nat) (S : TS) : Prop where
  tab : TG w' tb S
  T : S.T = T
  kcols : S.kcols = [0]
  R : S.R = []
  new : ∀ i, W tb S i → w.heap.size ≤ i
  below : Below w.heap.size w w'
def NewTR (T : Tab) (Px : TS → Prop) (w : World) (e : Ending) (w' : World) : Prop := ∃ tb S, e = .returned (.pointer (some ⟨tb, 0, none⟩)) ∧ NewT T w w' tb S ∧ Px S

/-- a row of one column -/
theorem cols_one {w : World} {g c : Nat} (h : w.heap[g]? = some (.cells #[.int .i64 (c : Int)] 3 (0, 0))) : ColsO w (.slice (some ⟨g, 0, none⟩) 1 1) [c] :=
  ⟨⟨_, 1, rfl, Nat.le_refl _, by decide, fun _ => ⟨g, 0, rfl, lt_of h, fun i hi j u hu => by
    have hi0 : i = 0 := by simp at hi; omega
    subst hi0
    rw [cell_of h]
    simp only [enN, List.getElem_cons_zero, Nat.zero_mul, Nat.zero_add, List.getElem?_toArray] at hu ⊢
    exact hu⟩⟩, fun b hb => by cases hb; exact ⟨_, _, h⟩⟩

set_option linter.unusedSimpArgs false in
set_option maxRecDepth 100000 in
set_option maxHeartbeats 2000000 in
theorem newTable_none {w : World} {cv iv : Value} {X : List Iv} {T : Tab} (h : TabO w 0 cv iv X T) (hk : T.key = 1) (hx : T.ix = []) : Calls Tryz.prog 15 #[tabVal cv iv T] w (NewTR T (fun S => S.ix = none) w) := by
  obtain ⟨⟨a1, n1, c1, rfl⟩, a2, n2, c2, rfl⟩ := h.shape
  have hX : X = [] := by
    have := h.eq
    rw [hx] at this
    exact List.map_eq_nil_iff.1 this
  have hn2 : n2 = 0 := by
    obtain ⟨a, m, e⟩ := own_shape h.ix
    rw [hX] at e
    injection e with _ e2
  subst hn2
  have hmk : ∀ u : World, (Instr.makeSlice 73 (.int .i64 1) (.int .i64 1)).run Tryz.prog u = .ok (.slice (some ⟨u.heap.size, 0, none⟩) 1 1) (u.alloc (.cells #[.int .i64 0] 3)) := fun u => by
    have := make_rows (en := en1) (m := 1) (fun _ => rfl) (by omega) (.int .i64 0) 73 3 8 (.int .i64 0) rfl Tryz.underlying73 infoInt_parts 1 (by omega) (by omega) u
    rw [flat_en1] at this
    exact this
  have HO : Hid (TabO w 0 (.slice a1 n1 c1) (.slice a2 0 c2) X T) := h
  obtain ⟨nm, hnm⟩ : ∃ x, T.nm = x := ⟨_, rfl⟩
  have HT : Hid (T.nm = nm ∧ T.key = 1 ∧ T.ix = []) := ⟨hnm, hk, hx⟩
  unfold tabVal
  rw [hnm, hk]
  clear h hX hnm hk hx
  go_enter Tryz.func15, Tryz.ntmps15
  go_wp2_with fail
  obtain ⟨xb, hxb⟩ : ∃ x, w.heap.size = x := ⟨_, rfl⟩
  obtain ⟨w1, hw1⟩ : ∃ u, w.alloc (.cells #[.string nm, .slice a1 n1 c1, .int .i64 1, .slice a2 0 c2] 29) = u := ⟨_, rfl⟩
  obtain ⟨w2, hw2⟩ : ∃ u, w1.alloc (.cells #[.int .i64 0] 3) = u := ⟨_, rfl⟩
  have z1 : w1.heap.size = xb + 1 := by rw [← hw1, ← hxb]; simp
  have x1 : w1.heap[xb]? = some (.cells #[.string nm, .slice a1 n1 c1, .int .i64 1, .slice a2 0 c2] 29 (0, 0)) := by rw [← hw1, ← hxb]; exact heap_new w _
  have k1 : w2.heap[xb + 1]? = some (.cells #[.int .i64 0] 3 (0, 0)) := by rw [← hw2, ← z1]; exact heap_new w1 _
  have b1 : Below w.heap.size w w1 := by rw [← hw1]; exact (Below.refl _ _).alloc (Nat.le_refl _) _
  have b2 : Below w1.heap.size w1 w2 := by rw [← hw2]; exact (Below.refl _ _).alloc (Nat.le_refl _) _
  have x2 := (b2.block xb (by omega)).trans x1
  have HB : Hid (Below w.heap.size w w2) := b1.trans (b2.mono b1.size)
  have HK : Hid (∀ u : World, u = w2.setCell ⟨xb + 1, 0, none⟩ (.int .i64 0) → u.heap[xb + 1]? = some (.cells #[.int .i64 0] 3 (0, 0)) ∧ u.heap[xb]? = some (.cells #[.string nm, .slice a1 n1 c1, .int .i64 1, .slice a2 0 c2] 29 (0, 0)) ∧ Below w.heap.size w u) := fun u e => by
    subst e
    exact ⟨heap_setCell_same k1 0 _, (Below.heap_setCell w2 ⟨xb + 1, 0, none⟩ _ xb (by simp)).trans x2, HB.out.setCell (p := ⟨xb + 1, 0, none⟩) (by simp; omega) _⟩
  rw [hw1, hw2, hxb]
  have c0 : w2.cell? ⟨xb + 1, 0, none⟩ = some (.int .i64 0) := by rw [cell_of k1]; rfl
  have f0 : w2.frozen? ⟨xb + 1, 0, none⟩ = false := frozen_of k1 0
  have l0 : xb + 1 < w2.heap.size := lt_of k1
  have HXb : Hid (w.heap.size = xb) := hxb
  clear hw1 hw2 hxb b1 b2 x1 x2 k1 z1 hmk
  refine wp_loop_rounds 2 ?_
  rw [rounds_succ]
  go_wp2_with fail
  obtain ⟨w3, hw3⟩ : ∃ u, w2.setCell ⟨xb + 1, 0, none⟩ (.int .i64 0) = u := ⟨_, rfl⟩
  obtain ⟨k3, x3, b3⟩ := HK.out w3 hw3.symm
  rw [hw3]
  clear hw3 HK c0 f0 l0 HB
  have d0 : w3.cell? ⟨xb, 0, none⟩ = some (.string nm) := by rw [cell_of x3]; rfl
  have d1 : w3.cell? ⟨xb, 1, none⟩ = some (.slice a1 n1 c1) := by rw [cell_of x3]; rfl
  have d2 : w3.cell? ⟨xb, 2, none⟩ = some (.int .i64 1) := by rw [cell_of x3]; rfl
  have d3 : w3.cell? ⟨xb, 3, none⟩ = some (.slice a2 0 c2) := by rw [cell_of x3]; rfl
  have l3 : xb < w3.heap.size := lt_of x3
  have HK3 : Hid (w3.heap[xb + 1]? = some (.cells #[.int .i64 0] 3 (0, 0)) ∧ Below w.heap.size w w3) := ⟨k3, b3⟩
  clear k3 x3 b3
  rw [rounds_succ]
  go_wp2_with fail
  refine wp_loop_rounds 1 ?_
  rw [rounds_succ]
  go_wp2_with fail
  go_ret
  obtain ⟨k3, b3⟩ := HK3.out
  have hnew := heap_new w3 (.cells #[.string nm, .slice a1 n1 c1, .int .i64 1, .slice a2 0 c2, .slice (some ⟨xb + 1, 0, none⟩) 1 1, .slice none 0 0, .slice none 0 0] 78)
  obtain ⟨w4, hw4⟩ : ∃ u, w3.alloc (.cells #[.string nm, .slice a1 n1 c1, .int .i64 1, .slice a2 0 c2, .slice (some ⟨xb + 1, 0, none⟩) 1 1, .slice none 0 0, .slice none 0 0] 78) = u := ⟨_, rfl⟩
  have b4 : Below w3.heap.size w3 w4 := by rw [← hw4]; exact (Below.refl _ _).alloc (Nat.le_refl _) _
  rw [hw4] at hnew ⊢
  have hB : Below w.heap.size w w4 := b3.trans (b4.mono b3.size)
  have k4 := (b4.block _ (lt_of k3)).trans k3
  obtain ⟨t1, t2, t3⟩ := HT.out
  have hsz := b3.size
  refine ⟨w3.heap.size, ⟨T, .slice a1 n1 c1, .slice a2 0 c2, .slice (some ⟨xb + 1, 0, none⟩) 1 1, .slice none 0 0, .slice none 0 0, [0], [], none⟩, rfl, ⟨⟨⟨X, ?_⟩, ⟨?_, rfl, rfl, cols_one k4, Or.inl ⟨rfl, rfl⟩, (fun r hr => by cases hr), by simp, by decide⟩, fun _ => ⟨t3, rfl⟩, (fun x hx => by cases hx)⟩, rfl, rfl, rfl, fun i hi => ?_, hB⟩, rfl⟩
  · have kr : ∀ {e : TypeId} {size n : Nat} {v : Value} {xs : List Value}, w.ownsRow 0 e size v n xs → w4.ownsRow 0 e size v n xs := fun hr => ownsRow_block hr fun g hg => by
      obtain ⟨cur, hc, _⟩ := ownsRow_own hr hg
      exact hB.block g (lt_of hc)
    exact ⟨kr HO.out.co, kr HO.out.ix, HO.out.eq, fun x hx => kr (HO.out.nums x hx)⟩
  · show w4.heap[w3.heap.size]? = some (.cells #[.string T.nm, .slice a1 n1 c1, .int .i64 T.key, .slice a2 0 c2, .slice (some ⟨xb + 1, 0, none⟩) 1 1, .slice none 0 0, .slice none 0 0] 78 (0, 0))
    rw [t1, t2]
    exact hnew
  · rcases hi with rfl | hi | ⟨x, hx, _⟩
    · exact hsz
    · cases hi
    · cases hx

end Go.Proofs.YtfddmibaojfalaaGreat

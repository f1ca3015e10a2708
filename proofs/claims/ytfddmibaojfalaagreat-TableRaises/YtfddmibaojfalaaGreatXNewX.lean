/- The program's newTable, of a schema with one index of one column. -/
import Derived.Test.YtfddmibaojfalaaGreatXConcat
import Derived.Test.YtfddmibaojfalaaGreatZLast
import Derived.Deep.Cut
namespace Go.Proofs.YtfddmibaojfalaaGreat
open Go.RowKit Go.Lib

theorem infoList : (Tryz.prog.info? 75).map (fun i => (i.zero, i.size, i.bytes)) = some (some (.agg #[.slice none 0 0, .slice none 0 0]), 2, 48) := by kernel_rfl
def enLi (v : Option Addr × Nat × Nat) : List Value := [slV v, .slice none 0 0]
theorem oneLi (v : Option Addr × Nat × Nat) : ∀ u ∈ enLi v, u.oneCell' = true := fun u hu => by
  simp only [enLi, List.mem_cons, List.not_mem_nil, or_false] at hu
  rcases hu with rfl | rfl <;> rfl
theorem li_at (w : World) (v : Option Addr × Nat × Nat) (t : TypeId) : ∀ j u, (enLi v)[j]? = some u → (w.alloc (.cells #[slV v, .slice none 0 0] t)).cell? ⟨w.heap.size, j, none⟩ = some u := fun j u h => by
  rw [cell_of (heap_new w _), List.getElem?_toArray]
  exact h
/-- the one index of a new table -/
def NewIx (nm : ByteArray) (un : Bool) (S : TS) : Prop := ∃ x, S.ix = some x ∧ x.xcols = [1, 0] ∧ x.ics = [1] ∧ x.nm = nm ∧ x.un = un ∧ x.XR = []

set_option linter.unusedSimpArgs false in
set_option maxRecDepth 100000 in
set_option maxHeartbeats 4000000 in
theorem newTable_one {w : World} {cv iv : Value} {X : List Iv} {T : Tab} (h : TabO w 0 cv iv X T) (hk : T.key = 1) (inm : ByteArray) (un : Bool) (hx : T.ix = [⟨inm, [1], un⟩]) : Calls Tryz.prog 15 #[tabVal cv iv T] w (NewTR T (NewIx inm un) w) := by
  obtain ⟨⟨a1, n1, c1, rfl⟩, a2, n2, c2, rfl⟩ := h.shape
  obtain ⟨x, hX⟩ : ∃ x, X = [x] ∧ x.ix = ⟨inm, [1], un⟩ := by
    have := h.eq
    rw [hx] at this
    cases X with
    | nil => simp at this
    | cons x X =>
      cases X with
      | nil => exact ⟨x, rfl, by simpa using this⟩
      | cons y Y => simp at this
  obtain ⟨hX, hxi⟩ := hX
  subst hX
  have hxv := h.nums x (List.mem_singleton.2 rfl)
  rw [hxi] at hxv
  obtain ⟨_, q | ⟨ib, ic, icur, e1, _, e3, e4, e5, e6, e7⟩⟩ := id h.ix
  · exact absurd q.2 (by simp)
  obtain ⟨_, q | ⟨g1, k1', gcur, f1, _, f3, f4, f5, f6, f7⟩⟩ := id hxv
  · exact absurd q.2 (by simp)
  have hib : w.heap[ib]? = some (.cells icur 81 (0, 0)) := e3
  have i0 : w.cell? ⟨ib, 0, none⟩ = some (.string inm) := by
    rw [cell_of e3, ← Array.getElem?_toList]
    have := congrArg (fun l => l[0]?) e7
    simp only [List.getElem?_take, flat, hxi] at this
    simpa [enX, hxi] using this
  have i1 : w.cell? ⟨ib, 1, none⟩ = some x.v := by
    rw [cell_of e3, ← Array.getElem?_toList]
    have := congrArg (fun l => l[1]?) e7
    simp only [List.getElem?_take, flat, hxi] at this
    simpa [enX, hxi] using this
  have i2 : w.cell? ⟨ib, 2, none⟩ = some (.bool un) := by
    rw [cell_of e3, ← Array.getElem?_toList]
    have := congrArg (fun l => l[2]?) e7
    simp only [List.getElem?_take, flat, hxi] at this
    simpa [enX, hxi] using this
  have j0 : w.cell? ⟨g1, 0, none⟩ = some (.int .i64 1) := by
    rw [cell_of f3, ← Array.getElem?_toList]
    have := congrArg (fun l => l[0]?) f7
    simp only [List.getElem?_take, flat] at this
    simpa [enI] using this
  have hn2 : n2 = 1 := by injection e1
  have ha2 : a2 = some ⟨ib, 0, none⟩ := by injection e1
  have hc2 : c2 = ic := by injection e1
  subst hn2 ha2 hc2
  have hmk : ∀ u : World, (Instr.makeSlice 73 (.int .i64 1) (.int .i64 1)).run Tryz.prog u = .ok (.slice (some ⟨u.heap.size, 0, none⟩) 1 1) (u.alloc (.cells #[.int .i64 0] 3)) := fun u => by
    have := make_rows (en := en1) (m := 1) (fun _ => rfl) (by omega) (.int .i64 0) 73 3 8 (.int .i64 0) rfl Tryz.underlying73 infoInt_parts 1 (by omega) (by omega) u
    rw [flat_en1] at this
    exact this
  have HO : Hid (TabO w 0 (.slice a1 n1 c1) (.slice (some ⟨ib, 0, none⟩) 1 c2) [x] T) := h
  have HCv : Hid (∀ u, Below w.heap.size w u → ColsO u (.slice (some ⟨g1, 0, none⟩) 1 k1') [1]) := fun u hu => by
    have f3' := (hu.block g1 (lt_of f3)).trans f3
    refine ⟨⟨_, k1', rfl, f4, f5, fun _ => ⟨g1, 0, rfl, lt_of f3', fun i hi j v hv => ?_⟩⟩, fun b hb => by cases hb; exact ⟨_, _, f3'⟩⟩
    have hi0 : i = 0 := by simp at hi; omega
    subst hi0
    obtain ⟨hj, e⟩ := List.getElem?_eq_some_iff.1 hv
    have hj0 : j = 0 := by simp [enN] at hj; omega
    subst hj0
    rw [← e]
    exact cell_below j0 hu
  rw [f1] at i1
  have HIx : Hid (∀ u, Below w.heap.size w u → u.cell? ⟨ib, 0, none⟩ = some (.string inm) ∧ u.cell? ⟨ib, 1, none⟩ = some (.slice (some ⟨g1, 0, none⟩) 1 k1') ∧ u.cell? ⟨ib, 2, none⟩ = some (.bool un) ∧ u.cell? ⟨g1, 0, none⟩ = some (.int .i64 1) ∧ (∃ c z, u.heap[ib]? = some (.cells c 81 z)) ∧ ib < u.heap.size) := fun u hu =>
    ⟨cell_below i0 hu, cell_below i1 hu, cell_below i2 hu, cell_below j0 hu, ⟨_, _, (hu.block ib (lt_of hib)).trans hib⟩, Nat.lt_of_lt_of_le (lt_of hib) hu.size⟩
  have HIc : Hid (1 ≤ c2 ∧ c2 ≤ maxLen) := ⟨e4, e5⟩
  have hic : 1 ≤ c2 := e4
  have hic2 : c2 ≤ 9223372036854775807 := by unfold maxLen at e5; exact e5
  have hkc : 1 ≤ k1' := f4
  have hkc2 : k1' ≤ 9223372036854775807 := by unfold maxLen at f5; exact f5
  obtain ⟨nm, hnm⟩ : ∃ x, T.nm = x := ⟨_, rfl⟩
  have HT : Hid (T.nm = nm ∧ T.key = 1 ∧ T.ix = [⟨inm, [1], un⟩]) := ⟨hnm, hk, hx⟩
  have HXv : Hid (x.v = .slice (some ⟨g1, 0, none⟩) 1 k1' ∧ x.ix = ⟨inm, [1], un⟩) := ⟨f1, hxi⟩
  unfold tabVal
  rw [hnm, hk]
  clear h hnm hk hx hxv e1 e3 e4 e5 e6 e7 f1 f3 f4 f5 f6 f7 i0 i1 i2 j0 hib hxi
  go_enter Tryz.func15, Tryz.ntmps15
  go_wp2_with fail
  obtain ⟨xb, hxb⟩ : ∃ x, w.heap.size = x := ⟨_, rfl⟩
  obtain ⟨w1, hw1⟩ : ∃ u, w.alloc (.cells #[.string nm, .slice a1 n1 c1, .int .i64 1, .slice (some ⟨ib, 0, none⟩) 1 c2] 29) = u := ⟨_, rfl⟩
  obtain ⟨w2, hw2⟩ : ∃ u, w1.alloc (.cells #[.int .i64 0] 3) = u := ⟨_, rfl⟩
  have z1 : w1.heap.size = xb + 1 := by rw [← hw1, ← hxb]; simp
  have x1 : w1.heap[xb]? = some (.cells #[.string nm, .slice a1 n1 c1, .int .i64 1, .slice (some ⟨ib, 0, none⟩) 1 c2] 29 (0, 0)) := by rw [← hw1, ← hxb]; exact heap_new w _
  have k1 : w2.heap[xb + 1]? = some (.cells #[.int .i64 0] 3 (0, 0)) := by rw [← hw2, ← z1]; exact heap_new w1 _
  have b1 : Below w.heap.size w w1 := by rw [← hw1]; exact (Below.refl _ _).alloc (Nat.le_refl _) _
  have b2 : Below w1.heap.size w1 w2 := by rw [← hw2]; exact (Below.refl _ _).alloc (Nat.le_refl _) _
  have x2 := (b2.block xb (by omega)).trans x1
  have HB : Hid (Below w.heap.size w w2) := b1.trans (b2.mono b1.size)
  have HK : Hid (∀ u : World, u = w2.setCell ⟨xb + 1, 0, none⟩ (.int .i64 0) → u.heap[xb + 1]? = some (.cells #[.int .i64 0] 3 (0, 0)) ∧ u.heap[xb]? = some (.cells #[.string nm, .slice a1 n1 c1, .int .i64 1, .slice (some ⟨ib, 0, none⟩) 1 c2] 29 (0, 0)) ∧ Below w.heap.size w u) := fun u e => by
    subst e
    exact ⟨heap_setCell_same k1 0 _, (Below.heap_setCell w2 ⟨xb + 1, 0, none⟩ _ xb (by simp)).trans x2, HB.out.setCell (p := ⟨xb + 1, 0, none⟩) (by simp; omega) _⟩
  rw [hw1, hw2, hxb]
  have c0 : w2.cell? ⟨xb + 1, 0, none⟩ = some (.int .i64 0) := by rw [cell_of k1]; rfl
  have f0 : w2.frozen? ⟨xb + 1, 0, none⟩ = false := frozen_of k1 0
  have l0 : xb + 1 < w2.heap.size := lt_of k1
  have HXb : Hid (w.heap.size = xb) := hxb
  clear hw1 hw2 hxb b1 b2 x1 x2 k1 z1 hmk
  refine wp_loop_rounds 2 ?_
  rw [rounds_succ]
  go_wp2_with fail
  obtain ⟨w3, hw3⟩ : ∃ u, w2.setCell ⟨xb + 1, 0, none⟩ (.int .i64 0) = u := ⟨_, rfl⟩
  obtain ⟨k3, x3, b3⟩ := HK.out w3 hw3.symm
  rw [hw3]
  clear hw3 HK c0 f0 l0 HB
  have d0 : w3.cell? ⟨xb, 0, none⟩ = some (.string nm) := by rw [cell_of x3]; rfl
  have d1 : w3.cell? ⟨xb, 1, none⟩ = some (.slice a1 n1 c1) := by rw [cell_of x3]; rfl
  have d2 : w3.cell? ⟨xb, 2, none⟩ = some (.int .i64 1) := by rw [cell_of x3]; rfl
  have d3 : w3.cell? ⟨xb, 3, none⟩ = some (.slice (some ⟨ib, 0, none⟩) 1 c2) := by rw [cell_of x3]; rfl
  have l3 : xb < w3.heap.size := lt_of x3
  have HK3 : Hid (w3.heap[xb + 1]? = some (.cells #[.int .i64 0] 3 (0, 0)) ∧ Below w.heap.size w w3) := ⟨k3, b3⟩
  clear k3 x3 b3
  rw [rounds_succ]
  go_wp2_with fail
  obtain ⟨tb, htb⟩ : ∃ x, w3.heap.size = x := ⟨_, rfl⟩
  obtain ⟨w4, hw4⟩ : ∃ u, w3.alloc (.cells #[.string nm, .slice a1 n1 c1, .int .i64 1, .slice (some ⟨ib, 0, none⟩) 1 c2, .slice (some ⟨xb + 1, 0, none⟩) 1 1, .slice none 0 0, .slice none 0 0] 78) = u := ⟨_, rfl⟩
  have t4 : w4.heap[tb]? = some (.cells #[.string nm, .slice a1 n1 c1, .int .i64 1, .slice (some ⟨ib, 0, none⟩) 1 c2, .slice (some ⟨xb + 1, 0, none⟩) 1 1, .slice none 0 0, .slice none 0 0] 78 (0, 0)) := by rw [← hw4, ← htb]; exact heap_new w3 _
  have HB4 : Hid (Below w3.heap.size w3 w4) := by show Below _ _ _; rw [← hw4]; exact (Below.refl _ _).alloc (Nat.le_refl _) _
  rw [hw4, htb]
  have HW4 : Hid (Below w.heap.size w w4) := HK3.out.2.trans (HB4.out.mono HK3.out.2.size)
  obtain ⟨y0, y1, y2, -, -, y5⟩ := HIx.out w4 HW4.out
  have HT4 : Hid (w4.heap[tb]? = some (.cells #[.string nm, .slice a1 n1 c1, .int .i64 1, .slice (some ⟨ib, 0, none⟩) 1 c2, .slice (some ⟨xb + 1, 0, none⟩) 1 1, .slice none 0 0, .slice none 0 0] 78 (0, 0))) := t4
  have HTb : Hid (w3.heap.size = tb) := htb
  have hsz4 : w4.heap.size = tb + 1 := by rw [← hw4, ← htb]; simp
  have HBa : Hid (∀ (u : World) (o : Obj), Below u.heap.size u (u.alloc o)) := fun u o => (Below.refl _ u).alloc (Nat.le_refl _) o
  clear hw4 htb t4 d0 d1 d2 d3 l3
  refine wp_loop_rounds 2 ?_
  rw [rounds_succ]
  go_upto_region 11 with fail
  obtain ⟨w5, hw5⟩ : ∃ u, w4.alloc (.cells #[.string inm, .slice (some ⟨g1, 0, none⟩) 1 k1', .bool un] 81) = u := ⟨_, rfl⟩
  have x5 : w5.heap[tb + 1]? = some (.cells #[.string inm, .slice (some ⟨g1, 0, none⟩) 1 k1', .bool un] 81 (0, 0)) := by rw [← hw5, ← hsz4]; exact heap_new w4 _
  have HB5 : Hid (Below w4.heap.size w4 w5) := by show Below _ _ _; rw [← hw5]; exact HBa.out _ _
  have t5 := (HB5.out.block tb (lt_of HT4.out)).trans HT4.out
  have HS : Hid (∀ u, Below w5.heap.size w5 u → u.cell? ⟨tb, 6, none⟩ = some (.slice none 0 0) ∧ u.cell? ⟨tb + 1, 1, none⟩ = some (.slice (some ⟨g1, 0, none⟩) 1 k1')) := fun u hu =>
    ⟨by rw [cell_of ((hu.block tb (lt_of t5)).trans t5)]; rfl, by rw [cell_of ((hu.block _ (lt_of x5)).trans x5)]; rfl⟩
  have HT5 : Hid (w5.heap[tb]? = some (.cells #[.string nm, .slice a1 n1 c1, .int .i64 1, .slice (some ⟨ib, 0, none⟩) 1 c2, .slice (some ⟨xb + 1, 0, none⟩) 1 1, .slice none 0 0, .slice none 0 0] 78 (0, 0))) := t5
  rw [hw5]
  have HW5 : Hid (Below w.heap.size w w5) := HW4.out.trans (HB5.out.mono HW4.out.size)
  clear hw5 x5 t5 y0 y1 y2 y5
  refine wp_region_last (S := fun u => u.cell? ⟨tb, 6, none⟩ = some (.slice none 0 0) ∧ u.cell? ⟨tb + 1, 1, none⟩ = some (.slice (some ⟨g1, 0, none⟩) 1 k1')) 15 (by kernel_rfl) (HS.out _ (bl_drew (Below.refl _ w5))) (fun hHeld => ?_)
  refine last_take (i := 0) (dst := 33) (v := ?v33) rfl rfl (by kernel_rfl) (by kernel_rfl) (by kernel_rfl) (by kernel_rfl) (fun _ _ _ h => h) (Or.inl ⟨by rfl, ?hy33⟩) (by assumption) ?rest33
  case hy33 => intro w hSw; (try dsimp only at hSw); go_simp; try with_reducible rfl
  try simp only [List.setIfInBounds_toArray, List.set_cons_zero, List.set_cons_succ]
  refine last_take (i := 1) (dst := 34) (v := ?v34) rfl rfl (by kernel_rfl) (by kernel_rfl) (by kernel_rfl) (by kernel_rfl) (fun _ _ _ h => h) (Or.inl ⟨by rfl, ?hy34⟩) (by assumption) ?rest34
  case hy34 => intro w hSw; (try dsimp only at hSw); go_simp; try with_reducible rfl
  try simp only [List.setIfInBounds_toArray, List.set_cons_zero, List.set_cons_succ]
  refine last_take (i := 2) (dst := 35) (v := ?v35) rfl rfl (by kernel_rfl) (by kernel_rfl) (by kernel_rfl) (by kernel_rfl) (fun _ _ _ h => h) (Or.inl ⟨by rfl, ?hy35⟩) (by assumption) ?rest35
  case hy35 => intro w hSw; (try dsimp only at hSw); go_simp; try with_reducible rfl
  try simp only [List.setIfInBounds_toArray, List.set_cons_zero, List.set_cons_succ]
  refine last_take (i := 3) (dst := 36) (v := ?v36) rfl rfl (by kernel_rfl) (by kernel_rfl) (by kernel_rfl) (by kernel_rfl) (fun _ _ _ h => h) (Or.inl ⟨by rfl, ?hy36⟩) (by assumption) ?rest36
  case hy36 => intro w hSw; (try dsimp only at hSw); go_simp; try with_reducible rfl
  try simp only [List.setIfInBounds_toArray, List.set_cons_zero, List.set_cons_succ]
  refine last_take (i := 4) (dst := 37) (v := ?v37) rfl rfl (by kernel_rfl) (by kernel_rfl) (by kernel_rfl) (by kernel_rfl) (fun _ _ _ h => h) (Or.inl ⟨by rfl, ?hy37⟩) (by assumption) ?rest37
  case hy37 => intro w hSw; (try dsimp only at hSw); go_simp; try with_reducible rfl
  try simp only [List.setIfInBounds_toArray, List.set_cons_zero, List.set_cons_succ]
  refine last_take (i := 5) (dst := 38) (v := ?v38) rfl rfl (by kernel_rfl) (by kernel_rfl) (by kernel_rfl) (by kernel_rfl) (fun _ _ _ h => h) (Or.inl ⟨by rfl, ?hy38⟩) (by assumption) ?rest38
  case hy38 => intro w hSw; (try dsimp only at hSw); go_simp; try with_reducible rfl
  try simp only [List.setIfInBounds_toArray, List.set_cons_zero, List.set_cons_succ]
  refine last_take (i := 6) (dst := 39) (v := ?v39) rfl rfl (by kernel_rfl) (by kernel_rfl) (by kernel_rfl) (by kernel_rfl) (fun _ _ _ h => h) (Or.inl ⟨by rfl, ?hy39⟩) (by assumption) ?rest39
  case hy39 => intro w hSw; (try dsimp only at hSw); go_simp; try with_reducible rfl
  try simp only [List.setIfInBounds_toArray, List.set_cons_zero, List.set_cons_succ]
  refine last_take (i := 7) (dst := 40) (v := ?v40) rfl rfl (by kernel_rfl) (by kernel_rfl) (by kernel_rfl) (by kernel_rfl) (fun _ _ _ h => h) (Or.inl ⟨by rfl, ?hy40⟩) (by assumption) ?rest40
  case hy40 => intro w hSw; (try dsimp only at hSw); go_simp; try with_reducible rfl
  try simp only [List.setIfInBounds_toArray, List.set_cons_zero, List.set_cons_succ]
  refine last_ready (rs := [8]) (by kernel_rfl) (by simp) ?_
  refine AllReadyL.cons rfl (fun K hK => ?_) AllReadyL.nil
  rw [if_pos (by rfl)]
  go_simp
  obtain ⟨w6, hw6⟩ : ∃ u, (w5.alloc (.cells #[.slice (some ⟨g1, 0, none⟩) 1 k1', .slice (some ⟨xb + 1, 0, none⟩) 1 1] 73)).drew = u := ⟨_, rfl⟩
  obtain ⟨p6, hp6⟩ : ∃ x, w5.heap.size = x := ⟨_, rfl⟩
  have HB6 : Hid (Below w5.heap.size w5 w6) := by show Below _ _ _; rw [← hw6]; exact bl_drew (bl_alloc (Below.refl _ w5) _)
  have HP6 : Hid (w6.heap[p6]? = some (.cells #[.slice (some ⟨g1, 0, none⟩) 1 k1', .slice (some ⟨xb + 1, 0, none⟩) 1 1] 73 (0, 0))) := by show _ = _; rw [← hw6, ← hp6]; exact heap_new w5 _
  refine hK.out _ _ (by rw [hw6]; exact HS.out _ HB6.out) (fun hS6 => ?_)
  clear hK
  try simp only [List.setIfInBounds_toArray, List.set_cons_zero, List.set_cons_succ]
  rw [hw6, hp6]
  rw [hw6] at hS6
  clear hw6
  have HCc : Hid (Calls Tryz.prog 23 #[.slice (some ⟨p6, 0, none⟩) 2 2] w6 fun e w' => ∃ g c, e = .returned (.slice (some ⟨g, 0, none⟩) 2 c) ∧ w'.ownsRow 0 3 1 (.slice (some ⟨g, 0, none⟩) 2 c) 2 (flat enN [1, 0]) ∧ w6.heap.size ≤ g ∧ Below w6.heap.size w6 w') := by
    have b6 : Below w.heap.size w w6 := HW5.out.trans (HB6.out.mono HW5.out.size)
    refine concat_two (v1 := 1) (v2 := 0) (by rw [cell_of HP6.out]; rfl) (by rw [cell_of HP6.out]; rfl) (HIx.out w6 b6).2.2.2.1 ?_
    have e3 := HK3.out.1
    have b36 : Below w3.heap.size w3 w6 := (HB4.out.trans (HB5.out.mono HB4.out.size)).trans (HB6.out.mono (HB4.out.trans (HB5.out.mono HB4.out.size)).size)
    rw [cell_of ((b36.block _ (lt_of e3)).trans e3)]
    rfl
  refine last_ready (rs := [9]) (by kernel_rfl) (by simp) ?_
  refine AllReadyL.cons rfl (fun K hK => ?_) AllReadyL.nil
  rw [if_pos (by rfl)]
  go_simp
  refine HCc.out.mono ?_
  rintro e w7 ⟨g, c, rfl, r7, n7, b7⟩
  have HB7 : Hid (Below w5.heap.size w5 w7) := HB6.out.trans (b7.mono HB6.out.size)
  have HR7 : Hid (w7.ownsRow 0 3 1 (.slice (some ⟨g, 0, none⟩) 2 c) 2 (flat enN [1, 0]) ∧ w6.heap.size ≤ g) := ⟨r7, n7⟩
  clear r7 n7 b7
  dsimp only
  refine hK.out _ _ (HS.out _ HB7.out) (fun hS7 => ?_)
  clear hK
  try simp only [List.setIfInBounds_toArray, List.set_cons_zero, List.set_cons_succ]
  refine last_take (i := 10) (dst := 43) (v := ?v43) rfl rfl (by kernel_rfl) (by kernel_rfl) (by kernel_rfl) (by kernel_rfl) (fun _ _ _ h => h) (Or.inl ⟨by rfl, ?hy43⟩) (by assumption) ?rest43
  case hy43 => intro w hSw; (try dsimp only at hSw); go_simp; try with_reducible rfl
  try simp only [List.setIfInBounds_toArray, List.set_cons_zero, List.set_cons_succ]
  refine last_ready (rs := [11]) (by kernel_rfl) (by simp) ?_
  refine AllReadyL.cons rfl (fun K hK => ?_) AllReadyL.nil
  rw [if_pos (by rfl)]
  go_simp
  have HB8 : Hid (∀ o, Below w5.heap.size w5 (w7.alloc o)) := fun o => HB7.out.alloc HB7.out.size o
  refine hK.out _ _ (HS.out _ (HB8.out _)) (fun hS8 => ?_)
  clear hK
  try simp only [List.setIfInBounds_toArray, List.set_cons_zero, List.set_cons_succ]
  refine last_ready (rs := [12]) (by kernel_rfl) (by simp) ?_
  refine AllReadyL.cons rfl (fun K hK => ?_) AllReadyL.nil
  refine step_append_one1 (by rfl) _ _ 76 (by rfl) 75 (.agg #[.slice none 0 0, .slice none 0 0]) 2 48 Tryz.underlying76 infoList rfl (by decide) (by decide) enLi (fun _ => rfl) [] (some ⟨g, 0, none⟩, 2, c) (oneLi _) none 0 0 (by rfl) ⟨rfl, Or.inl ⟨rfl, rfl⟩⟩ (by omega) w7.heap.size (by rfl) (li_at w7 _ _) ?_
  intro A' m' w9 q1 q2 q3
  have b89 : Below (w7.alloc (.cells #[.slice (some ⟨g, 0, none⟩) 2 c, .slice none 0 0] 75)).heap.size (w7.alloc (.cells #[.slice (some ⟨g, 0, none⟩) 2 c, .slice none 0 0] 75)) w9 := ⟨q2.os, q2.tape, q2.output, q2.size, fun i hi => q2.block i hi (fun e => by cases e)⟩
  have HB9 : Hid (Below w5.heap.size w5 w9) := (HB8.out _).trans (b89.mono (HB8.out _).size)
  have HB79 : Hid (Below w7.heap.size w7 w9) := (HBa.out w7 _).trans (b89.mono (HBa.out w7 _).size)
  have HR9 : Hid (w9.ownsRow 0 75 2 (.slice A' 1 m') 1 (flat enLi [(some ⟨g, 0, none⟩, 2, c)]) ∧ ∀ i, (Value.slice A' 1 m').ownBlock = some i → w7.heap.size ≤ i) := ⟨q1, fun i hi => by
    rcases q3 i hi with e | e
    · cases e
    · exact Nat.le_trans (HBa.out w7 _).size e⟩
  clear q1 q2 q3 b89
  obtain ⟨s9, s9'⟩ := HS.out _ HB9.out
  refine hK.out _ _ ⟨s9, s9'⟩ (fun hS9 => ?_)
  clear hK
  try simp only [Act.put, List.setIfInBounds_toArray, List.set_cons_zero, List.set_cons_succ]
  refine last_take (i := 13) (dst := 46) (v := ?v46) rfl rfl (by kernel_rfl) (by kernel_rfl) (by kernel_rfl) (by kernel_rfl) (fun _ _ _ h => h) (Or.inl ⟨by rfl, ?hy46⟩) (by assumption) ?rest46
  case hy46 => intro w hSw; (try dsimp only at hSw); go_simp; try with_reducible rfl
  try simp only [List.setIfInBounds_toArray, List.set_cons_zero, List.set_cons_succ]
  refine last_take (i := 14) (dst := 47) (v := ?v47) rfl rfl (by kernel_rfl) (by kernel_rfl) (by kernel_rfl) (by kernel_rfl) (fun _ _ _ h => h) (Or.inl ⟨by rfl, ?hy47⟩) (by assumption) ?rest47
  case hy47 => intro w hSw; (try dsimp only at hSw); go_simp; try with_reducible rfl
  try simp only [List.setIfInBounds_toArray, List.set_cons_zero, List.set_cons_succ]
  have T9 := (HB9.out.block tb (lt_of HT5.out)).trans HT5.out
  have f9 : w9.frozen? ⟨tb, 6, none⟩ = false := frozen_of T9 6
  have HT9 : Hid (w9.heap[tb]? = some (.cells #[.string nm, .slice a1 n1 c1, .int .i64 1, .slice (some ⟨ib, 0, none⟩) 1 c2, .slice (some ⟨xb + 1, 0, none⟩) 1 1, .slice none 0 0, .slice none 0 0] 78 (0, 0))) := T9
  clear T9 hS6 hS7 hS8 hS9 hHeld
  refine last_last (by kernel_rfl) rfl (by kernel_rfl) (fun K hK => ?_)
  rw [if_pos (by rfl)]
  go_simp
  refine hK.out _ _ ?_
  clear hK
  go_wp2_with fail
  rw [rounds_succ]
  go_wp2_with fail
  go_ret
  obtain ⟨r9, n9⟩ := HR9.out
  obtain ⟨_, q | ⟨xb2, cap, cur, e1, _, e3, e4, e5, e6, e7⟩⟩ := id r9
  · exact absurd q.2 (by decide)
  have eA : A' = some ⟨xb2, 0, none⟩ := by injection e1
  have eM : m' = cap := by injection e1
  subst eA eM
  obtain ⟨w10, hw10⟩ : ∃ u, w9.setCell ⟨tb, 6, none⟩ (.slice (some ⟨xb2, 0, none⟩) 1 m') = u := ⟨_, rfl⟩
  rw [hw10]
  have t10 : w10.heap[tb]? = some (.cells #[.string nm, .slice a1 n1 c1, .int .i64 1, .slice (some ⟨ib, 0, none⟩) 1 c2, .slice (some ⟨xb + 1, 0, none⟩) 1 1, .slice none 0 0, .slice (some ⟨xb2, 0, none⟩) 1 m'] 78 (0, 0)) := by rw [← hw10]; exact heap_setCell_same HT9.out 6 _
  have tt : Turn (fun i => i = tb) w9 w10 := by rw [← hw10]; exact Turn.setCell w9 ⟨tb, 6, none⟩ _ rfl
  have hW9 : Below w.heap.size w w9 := HW5.out.trans (HB9.out.mono HW5.out.size)
  have htbw : w.heap.size ≤ tb := by rw [← HTb.out]; exact HK3.out.2.size
  have hB : Below w.heap.size w w10 := turn_new hW9 htbw tt
  have e9 : w9.heap[xb2]? = some (.cells cur 75 (0, 0)) := e3
  have e10 : w10.heap[xb2]? = some (.cells cur 75 (0, 0)) := (tt.block xb2 (lt_of e9) (type_ne e9 HT9.out (by decide))).trans e9
  have k0 : cur[0]? = some (.slice (some ⟨g, 0, none⟩) 2 c) := by
    rw [← Array.getElem?_toList]
    have := congrArg (fun l => l[0]?) e7
    simp only [List.getElem?_take, flat] at this
    simpa [enLi] using this
  have k1 : cur[1]? = some (.slice none 0 0) := by
    rw [← Array.getElem?_toList]
    have := congrArg (fun l => l[1]?) e7
    simp only [List.getElem?_take, flat] at this
    simpa [enLi] using this
  have r10 : w10.ownsRow 0 3 1 (.slice (some ⟨g, 0, none⟩) 2 c) 2 (flat enN [1, 0]) := ownsRow_block HR7.out.1 fun b hb => by
    obtain ⟨cu, hc, _⟩ := ownsRow_own HR7.out.1 hb
    have h9 := (HB79.out.block b (lt_of hc)).trans hc
    rw [tt.block b (lt_of h9) (type_ne h9 HT9.out (by decide))]
    exact h9.trans hc.symm
  have cx : ColsO w10 (.slice (some ⟨g, 0, none⟩) 2 c) [1, 0] := by
    have hs := own_slice (en := enN) (L := [1, 0]) (fun _ => rfl) r10
    refine ⟨hs, fun b hb => ?_⟩
    obtain ⟨cu, hc, _⟩ := ownsRow_own r10 hb
    exact ⟨_, _, hc⟩
  have k3' := HK3.out.1
  have b39 : Below w3.heap.size w3 w9 := (HB4.out.trans (HB5.out.mono HB4.out.size)).trans (HB9.out.mono (HB4.out.trans (HB5.out.mono HB4.out.size)).size)
  have k9 := (b39.block _ (lt_of k3')).trans k3'
  have k10 : w10.heap[xb + 1]? = some (.cells #[.int .i64 0] 3 (0, 0)) := (tt.block _ (lt_of k9) (type_ne k9 HT9.out (by decide))).trans k9
  obtain ⟨t1, t2, t3⟩ := HT.out
  obtain ⟨y0, y1, y2, -, y4, -⟩ := HIx.out w10 hB
  have lo : LO w10 xb2 0 75 cur (.slice (some ⟨g, 0, none⟩) 2 c) (.slice none 0 0) [1, 0] [] := ⟨e10, k0, k1, cx, Or.inl ⟨rfl, rfl⟩, (fun r hr => by cases hr), by simp, by decide⟩
  refine ⟨tb, ⟨T, .slice a1 n1 c1, .slice (some ⟨ib, 0, none⟩) 1 c2, .slice (some ⟨xb + 1, 0, none⟩) 1 1, .slice none 0 0, .slice (some ⟨xb2, 0, none⟩) 1 m', [0], [], some ⟨xb2, m', .slice (some ⟨g, 0, none⟩) 2 c, .slice none 0 0, [1, 0], [], ib, c2, .slice (some ⟨g1, 0, none⟩) 1 k1', inm, un, [1]⟩⟩, rfl, ⟨⟨⟨[x], ?_⟩, ⟨?_, rfl, rfl, cols_one k10, Or.inl ⟨rfl, rfl⟩, (fun r hr => by cases hr), by simp, by decide⟩, (fun q => by cases q), (fun y hy => ?_)⟩, rfl, rfl, rfl, fun i hi => ?_, hB⟩, ⟨_, rfl, rfl, rfl, rfl, rfl, rfl⟩⟩
  · have kr : ∀ {e : TypeId} {size n : Nat} {v : Value} {xs : List Value}, w.ownsRow 0 e size v n xs → w10.ownsRow 0 e size v n xs := fun hr => ownsRow_block hr fun g hg => by
      obtain ⟨cur, hc, _⟩ := ownsRow_own hr hg
      exact hB.block g (lt_of hc)
    exact ⟨kr HO.out.co, kr HO.out.ix, HO.out.eq, fun x hx => kr (HO.out.nums x hx)⟩
  · show w10.heap[tb]? = some (.cells #[.string T.nm, .slice a1 n1 c1, .int .i64 T.key, .slice (some ⟨ib, 0, none⟩) 1 c2, .slice (some ⟨xb + 1, 0, none⟩) 1 1, .slice none 0 0, .slice (some ⟨xb2, 0, none⟩) 1 m'] 78 (0, 0))
    rw [t1, t2]
    exact t10
  · cases hy
    exact ⟨⟨rfl, HIc.out, y0, y1, y2, (HCv.out w10 hB).1, rfl, ⟨e4, e5⟩, lo.at⟩, ⟨_, lo⟩, y4, HCv.out w10 hB, (fun b hb => by cases hb), by rw [t3]; rfl⟩
  · have hw7 : w.heap.size ≤ w7.heap.size := (HW5.out.trans (HB7.out.mono HW5.out.size)).size
    rcases hi with rfl | hi | ⟨y, hy, hi⟩
    · exact htbw
    · cases hi
    · cases hy
      rcases hi with rfl | hi
      · exact Nat.le_trans hw7 (n9 _ rfl)
      · cases hi

end Go.Proofs.YtfddmibaojfalaaGreat

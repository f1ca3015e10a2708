/- What the law of sums asks behind its batches: its one row, told; its operations, turned about. -/
import Derived.Test.YtfddmibaojfalaaGreatXBothJ
namespace Go.Proofs.YtfddmibaojfalaaGreat
open Go.RowKit Go.Maps

/-- the one row of a table, told -/
structure Row1 (X : Int) (w : World) (gb : Nat) (q : Rw) (w' : World) : Prop where
  vs : q.vs = row2 X
  at_ : w'.heap[gb]? = some (.cells #[q.val] 37 (0, 0))
  row : RowG w' q
  below : Below w.heap.size w w'
theorem rows_one {w : World} {d m t : Nat} {S : TS} {r : Rw} {X : Int} (h : DG w d m t S) (h1 : One S r X) : Calls Tryz.prog 8 #[.pointer (some ⟨d, 0, none⟩), .string ⟨#[116]⟩] w fun e w' => ∃ gb q, e = .returned (.tuple #[.slice (some ⟨gb, 0, none⟩) 1 1, .int .i64 0]) ∧ Hid (Row1 X w gb q w') := by
  have hT : S.T.nm = ⟨#[116]⟩ := by rw [h1.T]; rfl
  have hc := rows_any h (fun r' hr' => by
    have hro := (h.tab.main.ro r' hr').1
    rw [h1.R, List.mem_singleton] at hr'
    subst hr'
    exact ⟨hro, by rw [h1.vs]; simp [row2], by rw [h1.vs]; simp [row2]⟩)
  rw [hT] at hc
  refine hc.mono ?_
  rintro e w' ⟨gb, Q, rfl, q1, q2, q3, q4, q5⟩
  rw [h1.R] at q1 ⊢
  cases Q with
  | nil => cases q1
  | cons q Q =>
    cases Q with
    | cons q' Q => simp [cont] at q1
    | nil =>
      have e : q.vs = r.vs := by simpa [cont] using q1
      exact ⟨gb, q, rfl, e.trans h1.vs, q2, (q4 q (List.mem_singleton_self _)).1, q5⟩
theorem Row1.up {X : Int} {w w' u : World} {gb : Nat} {q : Rw} (h : Row1 X w gb q w') (hu : Below w'.heap.size w' u) : Row1 X w gb q u := by
  obtain ⟨cur, hq⟩ := h.row.type
  exact ⟨h.vs, (hu.block gb (lt_of h.at_)).trans h.at_, h.row.heap (hu.block q.g (lt_of hq)), h.below.trans (hu.mono h.below.size)⟩
theorem Row1.slice {X : Int} {w w' : World} {gb : Nat} {q : Rw} (h : Row1 X w gb q w') : SliceAt w' (.slice (some ⟨gb, 0, none⟩) 1 1) 1 enR [q] :=
  sliceAt_flat (en := enR) (n := 1) (L := [q]) (cap := 1) (fun _ => rfl) h.at_ rfl (by simp) (by decide)
/-- two rows that are told are the same -/
theorem same_one {X : Int} {w1 w2 u : World} {g1 g2 : Nat} {q1 q2 : Rw} (h1 : Row1 X w1 g1 q1 u) (h2 : Row1 X w2 g2 q2 u) : Calls Tryz.prog 9 #[.slice (some ⟨g1, 0, none⟩) 1 1, .slice (some ⟨g2, 0, none⟩) 1 1] u fun e w' => e = .returned (.bool true) ∧ Below u.heap.size u w' :=
  sameRows_same _ _ [q1] [q2] u h1.slice h2.slice (by simp [cont, h1.vs, h2.vs]) (fun q hq => by
    rw [List.mem_singleton.1 hq]
    exact ⟨h1.row, by rw [h1.vs]; simp [row2]⟩) (fun q hq => by rw [List.mem_singleton.1 hq]; exact h2.row) (by simp)
/-- the number that it tells -/
theorem Row1.cells {X : Int} {w w' : World} {gb : Nat} {q : Rw} (h : Row1 X w gb q w') : w'.cell? ⟨gb, 0, none⟩ = some (.slice (some ⟨q.g, 0, none⟩) 2 q.c) ∧ w'.cell? ⟨q.g, 5, none⟩ = some (.int .i64 X) ∧ gb < w'.heap.size ∧ q.g < w'.heap.size ∧ 2 ≤ q.c := by
  have hl : q.vs.length = 2 := by rw [h.vs]; rfl
  have hr := h.row.1
  rw [hl] at hr
  refine ⟨?_, ?_, lt_of h.at_, hr.lt.2, ?_⟩
  · rw [cell_of h.at_]
    show some q.val = _
    unfold Rw.val
    rw [hl]
  · exact (hr.cells (i := 1) (y := ⟨2, X, ⟨#[]⟩⟩) (by rw [h.vs]; rfl)).2.1
  · obtain ⟨cur, _, _, h4, _⟩ := hr
    exact h4

/-! ### sums turned about, one by one -/
/-- the first i of them less, the others as they were -/
def negs (D : List Int) (i : Nat) : List Int := (D.take i).map (fun b => -b) ++ D.drop i
theorem negs_zero (D : List Int) : negs D 0 = D := by simp [negs]
theorem negs_all (D : List Int) : negs D D.length = D.map (fun b => -b) := by simp [negs]
theorem negs_at {D : List Int} {i : Nat} {b : Int} (h : D[i]? = some b) : (negs D i)[i]? = some b := by
  have hi := (List.getElem?_eq_some_iff.1 h).1
  unfold negs
  rw [List.getElem?_append_right (by simp; omega), List.length_map, List.length_take, Nat.min_eq_left (by omega), Nat.sub_self, List.getElem?_drop]
  simpa using h
theorem negs_succ {D : List Int} {i : Nat} {b : Int} (h : D[i]? = some b) : (negs D i).set i (-b) = negs D (i + 1) := by
  obtain ⟨hi, e⟩ := List.getElem?_eq_some_iff.1 h
  unfold negs
  rw [List.set_append_right _ _ (by simp; omega), List.length_map, List.length_take, Nat.min_eq_left (by omega), Nat.sub_self, List.drop_eq_getElem_cons hi, List.set_cons_zero, List.take_add_one, h]
  simp
theorem negs_length (D : List Int) (i : Nat) : (negs D i).length = D.length := by simp [negs]; omega
/-- one sum of a row of one's own is another one -/
theorem OpsR.set {w A : World} {pk M nc : Nat} {na : Option Addr} {bs : List Int} (h : OpsR w A pk (.slice na M nc) bs) {i : Nat} {b : Int} (hb : bs[i]? = some b) :
    ∃ nb, na = some ⟨nb, 0, none⟩ ∧ i < nc ∧ nb < A.heap.size ∧ A.cell? ⟨nb, i * 9 + 7, none⟩ = some (.int .i64 b) ∧ A.frozen? ⟨nb, i * 9 + 7, none⟩ = false ∧ ∀ x, OpsR w (A.setCell ⟨nb, i * 9 + 7, none⟩ (.int .i64 x)) pk (.slice na M nc) (bs.set i x) := by
  have hi := (List.getElem?_eq_some_iff.1 hb).1
  obtain ⟨e1, ⟨_, e3⟩ | ⟨g, cap, cur, e4, _, e5, e6, e7, e8, e9⟩⟩ := h.row
  · omega
  · have hnew := h.new g (by rw [e4]; rfl)
    injection e4 with e41 e42 e43
    subst e41
    subst e43
    have hl : (bs.map (opAdd (some ⟨pk, 0, none⟩, 1, 1))).length = bs.length := List.length_map ..
    have hgo : (bs.map (opAdd (some ⟨pk, 0, none⟩, 1, 1)))[i]'(by rw [hl]; exact hi) = opAdd (some ⟨pk, 0, none⟩, 1, 1) b := by
      rw [List.getElem_map]
      have := (List.getElem?_eq_some_iff.1 hb).2
      rw [this]
    have hc := flat_get (en := enO) (m := 9) (fun _ => rfl) (bs.map (opAdd (some ⟨pk, 0, none⟩, 1, 1))) i (by rw [hl]; exact hi) 7 (by decide)
    rw [hgo, ← e9, List.getElem?_take_of_lt (by omega), Array.getElem?_toList] at hc
    refine ⟨g, rfl, by omega, lt_of e5, ?_, ?_, fun x => ?_⟩
    · rw [cell_of e5, Nat.mul_comm]
      exact hc
    · exact frozen_of e5 _
    · obtain ⟨cur', k1, k2, k3⟩ := flat_row_set (en := enO) (m := 9) (fun _ => rfl) (w1 := A) (o := i * 9 + 7) (f := 7) (d := opAdd (some ⟨pk, 0, none⟩, 1, 1) x) (u := .int .i64 x) e5 e8 e9 (i := i) (by rw [hl]; exact hi) (by omega) (by decide) (by rw [hgo]; rfl)
      refine ⟨⟨?_, Or.inr ⟨g, nc, cur', ?_, Nat.zero_le _, k1, ?_, e7, k2, ?_⟩⟩, fun k hk => ?_⟩
      · rw [flat_length (m := 9) (fun _ => rfl), List.length_map, Nat.mul_comm]
      · rw [List.length_set, e42]
      · rw [List.length_set]; exact e6
      · rw [List.length_set, k3, List.map_set]
      · have : g = k := by simpa [Value.ownBlock] using hk
        rw [← this]; exact hnew

end Go.Proofs.YtfddmibaojfalaaGreat

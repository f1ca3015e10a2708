/- Copies of lists of rows: the program's copyRows. -/
import Derived.Test.YtfddmibaojfalaaGreatXLookJ
namespace Go.Proofs.YtfddmibaojfalaaGreat
open Go.RowKit

def en1 (v : Value) : List Value := [v]
theorem flat_en1 : ∀ L : List Value, flat en1 L = L
  | [] => rfl
  | v :: L => by rw [flat_cons, flat_en1 L]; rfl
theorem infoRow_parts : ∃ i, Tryz.prog.info? 37 = some i ∧ i.zero = some nilS ∧ i.size = 1 ∧ i.bytes = 24 := info_parts (by kernel_rfl)

/-- a row that may be copied -/
def RowN (w : World) (r : Rw) : Prop := RowG w r ∧ r.vs ≠ [] ∧ r.vs.length ≤ 32
def CopyRsR (L : List Rw) (w : World) (e : Ending) (w' : World) : Prop := ∃ gb Q, e = .returned (.slice (some ⟨gb, 0, none⟩) L.length L.length) ∧ cont Q = cont L ∧ w'.heap[gb]? = some (.cells (pcells Q).toArray 37 (0, 0)) ∧ w.heap.size ≤ gb ∧ (∀ q ∈ Q, RowG w' q ∧ w.heap.size ≤ q.g) ∧ Below w.heap.size w w'

/-- behind i rows -/
def CrI (w : World) (gb : Nat) (L : List Rw) (n i : Nat) (wr : World) : Prop := ∃ Q, cont Q = (cont L).take i ∧ Q.length = i ∧ wr.heap[gb]? = some (.cells (pcells Q ++ List.replicate (n - i) nilS).toArray 37 (0, 0)) ∧ (∀ q ∈ Q, RowG wr q ∧ w.heap.size ≤ q.g)

set_option linter.unusedSimpArgs false in
set_option maxRecDepth 100000 in
set_option maxHeartbeats 2000000 in
theorem copyRows_any (v : Value) (L : List Rw) (w w0 : World) (hb : Below w0.heap.size w0 w) (h : SliceAt w0 v 1 enR L) (hn : ∀ r ∈ L, RowN w0 r) (hl : L.length ≤ 5000) :
    Calls Tryz.prog 17 #[v] w (CopyRsR L w) := by
  obtain ⟨a, c, rfl, h1, h2, h3⟩ := h.rows
  have HX : Hid (∀ u, Below w.heap.size w u → ∀ (i : Nat) (y : Rw), L[i]? = some y → ∃ b off, a = some ⟨b, off, none⟩ ∧ b < u.heap.size ∧ u.cell? ⟨b, off + i, none⟩ = some y.val) := fun u hu => h3 u (hb.trans (hu.mono hb.size))
  have HC : Hid (∀ (i : Nat) (y : Rw), L[i]? = some y → ∀ u, Below w.heap.size w u → Calls Tryz.prog 26 #[.slice (some ⟨y.g, 0, none⟩) y.vs.length y.c] u (CopyRowR y.vs u) ∧ ∀ x ∈ y.vs, OkV x) := fun i y hy u hu => by
    obtain ⟨q1, q2, q3⟩ := hn y (List.mem_of_getElem? hy)
    exact ⟨copyRow_any y.val y.vs u w0 (hb.trans (hu.mono hb.size)) q1.1.slice q2 (by omega) q1.2, q1.2⟩
  unfold CopyRsR
  obtain ⟨N, hN⟩ : ∃ N, L.length = N := ⟨_, rfl⟩
  have HL : Hid (L.length = N) := hN
  unfold maxLen at h2
  rw [hN] at h1 hl ⊢
  have hmk := fun u => make_rows (en := en1) (m := 1) (fun _ => rfl) (by omega) nilS 44 37 24 nilS rfl Tryz.underlying44 infoRow_parts N (by omega) (by omega) u
  simp only [flat_en1] at hmk
  obtain ⟨gb, hgb⟩ : ∃ gb, w.heap.size = gb := ⟨_, rfl⟩
  have HG : Hid (w.heap.size = gb) := hgb
  clear h h3 hN hb hn
  go_enter Tryz.func17, Tryz.ntmps17
  go_wp2_with fail
  clear hmk
  go_loopw [11] (fun v wr => ∃ i : Nat, i ≤ N ∧ v = .int .i64 i ∧ Hid (Below w.heap.size w wr) ∧ Hid (CrI w gb L N i wr)) (fun v _ => N - (intOf v).toNat)
  case atStart =>
    refine ⟨0, Nat.zero_le _, rfl, (Below.refl _ _).alloc (Nat.le_refl _) _, ?_⟩
    show CrI _ _ _ _ _ _
    refine ⟨[], rfl, rfl, ?_, fun q hq => by cases hq⟩
    rw [← HG.out]
    exact heap_new w _
  case round =>
    obtain ⟨i, hi, rfl, HB, HI⟩ := hrel
    by_cases hlt : i < N
    · obtain ⟨y, hy⟩ : ∃ y, L[i]? = some y := ⟨_, List.getElem?_eq_getElem (by rw [HL.out]; exact hlt)⟩
      obtain ⟨b, off, rfl, hbl, q0⟩ := HX.out wr HB.out i y hy
      obtain ⟨hcp, hok⟩ := HC.out i y hy wr HB.out
      have hlI : (i : Int) < (N : Int) := by omega
      have HNx : Hid (∀ (w1 : World) (g c : Nat), Below wr.heap.size wr w1 → VRow w1 wr.heap.size g y.vs.length c y.vs → w1.cell? ⟨gb, i, none⟩ = some nilS ∧ gb < w1.heap.size ∧ (∀ j, w1.frozen? ⟨gb, j, none⟩ = false) ∧ Hid (Below w.heap.size w (w1.setCell ⟨gb, i, none⟩ (.slice (some ⟨g, 0, none⟩) y.vs.length c))) ∧ Hid (CrI w gb L N (i + 1) (w1.setCell ⟨gb, i, none⟩ (.slice (some ⟨g, 0, none⟩) y.vs.length c)))) := fun w1 g c k1 k2 => by
        obtain ⟨Q, e1, e2, e3, e4⟩ := HI.out
        have f3 := (k1.block gb (lt_of e3)).trans e3
        have hpl : (pcells Q).length = i := by rw [pcells_length, e2]
        have t := Turn.setCell (S := fun j => j = gb) w1 ⟨gb, i, none⟩ (.slice (some ⟨g, 0, none⟩) y.vs.length c) rfl
        refine ⟨?_, lt_of f3, frozen_of f3, turn_new (HB.out.trans (k1.mono HB.out.size)) (by rw [HG.out]; exact Nat.le_refl _) t, Q ++ [⟨g, c, y.vs⟩], ?_, by simp [e2], ?_, fun q hq => ?_⟩
        · rw [cell_of f3, List.getElem?_toArray, List.getElem?_append_right (by omega), hpl, Nat.sub_self]
          rw [List.getElem?_replicate, if_pos (by omega)]
        · unfold cont at e1 ⊢
          rw [List.map_append, e1, List.take_add_one, List.getElem?_map, hy]
          rfl
        · have := heap_setCell_same f3 i (.slice (some ⟨g, 0, none⟩) y.vs.length c)
          rw [this]
          congr 2
          rw [List.setIfInBounds_toArray, List.set_append_right _ _ (by omega), hpl, Nat.sub_self, show N - i = (N - (i + 1)) + 1 by omega, List.replicate_succ, List.set_cons_zero]
          unfold pcells
          rw [List.map_append, List.append_assoc]
          rfl
        · have hgg := k2.lt
          rcases List.mem_append.1 hq with hq | hq
          · obtain ⟨g1, g2⟩ := e4 q hq
            obtain ⟨C, hC⟩ := g1.type
            have g3 : RowG w1 q := g1.heap (k1.block q.g (lt_of hC))
            obtain ⟨C', hC'⟩ := g3.type
            exact ⟨g3.heap (t.block q.g (lt_of hC') (type_ne hC' f3 (by decide))), g2⟩
          · rw [List.mem_singleton.1 hq]
            have g3 := k2.rowG hok
            obtain ⟨C', hC'⟩ := g3.type
            exact ⟨g3.heap (t.block g (lt_of hC') (type_ne hC' f3 (by decide))), by have := HB.out.size; simp; omega⟩
      unfold CopyRowR at hcp
      unfold Rw.val at q0
      obtain ⟨yg, yc, yvs⟩ := y
      dsimp only at q0 hcp HNx
      obtain ⟨M, hM⟩ : ∃ M, yvs.length = M := ⟨_, rfl⟩
      rw [hM] at q0 hcp HNx
      have HCp : Hid (Calls Tryz.prog 26 #[.slice (some ⟨yg, 0, none⟩) M yc] wr fun e w' => ∃ g c, e = .returned (.slice (some ⟨g, 0, none⟩) M c) ∧ VRow w' wr.heap.size g M c yvs ∧ Below wr.heap.size wr w') := hcp
      clear hy hcp hok hM
      go_wp2_with (go_at_call 26; go_must (refine HCp.out.mono ?_; rintro e w1 ⟨g, c1, rfl, hv, hw1⟩; obtain ⟨p0, p1, p2, HB2, HI2⟩ := HNx.out w1 g c1 hw1 hv))
      go_roundw
      case rel => exact ⟨i + 1, by omega, by go_num, HB2, HI2⟩
      case measure => simp [intOf]; omega
    · obtain rfl : i = N := by omega
      have hlI : ¬ (i : Int) < (i : Int) := by omega
      go_wp2_with fail
      go_ret
      obtain ⟨Q, e1, e2, e3, e4⟩ := HI.out
      rw [Nat.sub_self, List.replicate_zero, List.append_nil] at e3
      refine ⟨gb, rfl, Q, by rw [e1, List.take_of_length_le (by rw [cont_length, HL.out]; exact Nat.le_refl _)], e3, ?_, ?_, ?_⟩
      · first | exact Nat.le_refl _ | (rw [HG.out]; exact Nat.le_refl _)
      · first | exact e4 | (intro q hq; have := e4 q hq; rw [HG.out] at this; exact this)
      · first | exact HB.out | (have := HB.out; rw [HG.out] at this; exact this)

end Go.Proofs.YtfddmibaojfalaaGreat

/- The program's Rows. -/
import Derived.Test.YtfddmibaojfalaaGreatXApplyJ
namespace Go.Proofs.YtfddmibaojfalaaGreat
open Go.RowKit

/-- rows that are told -/
def RowsR (R : List Rw) (w : World) (e : Ending) (w' : World) : Prop := ∃ gb Q, e = .returned (.tuple #[.slice (some ⟨gb, 0, none⟩) R.length R.length, .int .i64 0]) ∧ cont Q = cont R ∧ w'.heap[gb]? = some (.cells (pcells Q).toArray 37 (0, 0)) ∧ w.heap.size ≤ gb ∧ (∀ q ∈ Q, RowG w' q ∧ w.heap.size ≤ q.g) ∧ Below w.heap.size w w'

set_option maxRecDepth 100000 in
set_option maxHeartbeats 1000000 in
theorem rows_any {w : World} {d m tb : Nat} {S : TS} (h : DG w d m tb S) (hr : ∀ r ∈ S.R, RowN w r) : Calls Tryz.prog 8 #[.pointer (some ⟨d, 0, none⟩), .string S.T.nm] w (RowsR S.R w) := by
  have hlk := h.look
  obtain ⟨c, hc⟩ := h.top
  have hsl := h.tab.main.rs.slice
  have hl := h.tab.main.few
  have HC : Hid (Calls Tryz.prog 17 #[S.rv] w (CopyRsR S.R w)) := copyRows_any S.rv S.R w w (Below.refl _ _) hsl hr (by omega)
  obtain ⟨ra, rc, hrv, -⟩ := id hsl
  have c1 : w.cell? ⟨d, 1, none⟩ = some (.map (some m)) := by rw [cell_of hc]; rfl
  have c5 : w.cell? ⟨tb, 5, none⟩ = some S.rv := by rw [cell_of h.tab.st]; rfl
  have hdl : d < w.heap.size := lt_of hc
  have htl : tb < w.heap.size := lt_of h.tab.st
  obtain ⟨N, hN⟩ : ∃ N, S.R.length = N := ⟨_, rfl⟩
  obtain ⟨nm, hnm⟩ : ∃ x, S.T.nm = x := ⟨_, rfl⟩
  rw [hnm] at hlk ⊢
  rw [hrv] at HC c5
  unfold CopyRsR at HC
  unfold RowsR
  rw [hN] at HC c5 ⊢
  clear hsl hl hr h hc hrv hnm
  go_enter Tryz.func8, Tryz.ntmps8
  go_wp2_with (go_at_call 17; go_must (refine HC.out.mono ?_; rintro e w1 ⟨gb, Q, rfl, q1, q2, q3, q4, q5⟩; have HQ : Hid (cont Q = cont S.R ∧ w1.heap[gb]? = some (.cells (pcells Q).toArray 37 (0, 0)) ∧ w.heap.size ≤ gb ∧ (∀ q ∈ Q, RowG w1 q ∧ w.heap.size ≤ q.g) ∧ Below w.heap.size w w1) := ⟨q1, q2, q3, q4, q5⟩; clear q1 q2 q3 q4 q5))
  refine bodyPost_ret (by first | rfl | (simp [results, Tryz.results8, go_sem]; done) | (simp [results, Tryz.results8, go_sem]; rfl)) rfl ?_
  first
  | exact ⟨gb, Q, rfl, HQ.out⟩
  | exact ⟨gb, rfl, Q, HQ.out⟩

end Go.Proofs.YtfddmibaojfalaaGreat

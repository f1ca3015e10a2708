/- The document's machine: has a task stopped? -/
import Derived.Test.YtibgpjokdpagcaaWRefM
import Derived.Deep.RegionHeld3
namespace Go.Proofs.Ytibgpjokdpagcaa
open Go.RowKit

/-- where a task of them lies -/
structure TaskAt (wb : World) (vt : Value) (m t : Nat) (L : List InsV) (tb to ct : Nat) (ta : Option Addr) (tc : Nat) : Prop where
  v : vt = .slice (some ⟨tb, to, none⟩) m ct
  lt : tb < wb.heap.size
  cap : m ≤ ct ∧ ct ≤ 9223372036854775807
  cell : wb.cell? ⟨tb, to + t, none⟩ = some (.slice ta L.length tc)
  code : SliceAt wb (.slice ta L.length tc) 4 InsV.en L

theorem TasksAt.task {wb : World} {vt : Value} {T : List TaskV} (h : TasksAt wb vt T) {t : Nat} (ht : t < T.length) : ∃ tb to ct ta tc, TaskAt wb vt T.length t T[t].L tb to ct ta tc := by
  obtain ⟨a, c, e, h1, h2, h3⟩ := h.top
  obtain ⟨tb, to, rfl, hl, hc⟩ := h3 (by intro e; rw [e] at ht; simp at ht)
  obtain ⟨ta, tc, e2, h4⟩ := h.each T[t] (List.getElem_mem ht)
  have q := hc t ht 0 _ rfl
  rw [Nat.mul_one, Nat.add_zero, e2] at q
  exact ⟨tb, to, c, ta, tc, e, hl, ⟨h1, by unfold maxLen at h2; omega⟩, q, ⟨ta, tc, rfl, h4⟩⟩

section
variable {wb w : World} {mb pb rb db : Nat} {vt vc : Value} {m n : Nat} {Ps : List Int} {R : List (List Int)} {D : List Bool} {c : List Int} {k : Nat} {t : Nat} {L : List InsV} {tb to ct : Nat} {ta : Option Addr} {tc : Nat}

set_option maxRecDepth 100000 in
set_option maxHeartbeats 400000 in
theorem rstopped_any (h : RefG wb w mb pb rb db vt vc m n Ps R D c k) (hT : TaskAt wb vt m t L tb to ct ta tc) (ht : t < m) (_hm : m ≤ 4096) {p : Nat} (hp : Ps.getD t 0 = (p : Int)) {d : Bool} (hd : D.getD t false = d) :
    Calls Try.prog 28 #[.pointer (some ⟨mb, 0, none⟩), .int .i64 (t : Int)] w fun e w' => e = .returned (.bool (d || decide (L.length ≤ p))) ∧ ∃ q, w' = w.drewN q := by
  obtain ⟨x0, x1, -, -, x4, -⟩ := h.tops
  have y1 := (h.place ht).1
  have y2 := (h.done ht).1
  rw [hp] at y1
  rw [hd] at y2
  have y3 : w.cell? ⟨tb, to + t, none⟩ = some (.slice ta L.length tc) := (h.below.cell hT.lt).trans hT.cell
  rw [hT.v] at x0
  have hcap := hT.cap
  have htI : (t : Int) < (m : Int) := by omega
  clear h hp hd
  cases d with
  | true =>
    go_enter Try.func28, Try.ntmps28
    go_wp2_with fail
    go_quiet (fail)
    go_wp2_with fail
    go_ret
    exact ⟨rfl, nq, rfl⟩
  | false =>
    go_enter Try.func28, Try.ntmps28
    go_wp2_with fail
    go_quiet (fail)
    go_wp2_with fail
    go_ret
    refine ⟨ret_bool ?_, nq, rfl⟩
    rw [Bool.false_or]
end

end Go.Proofs.Ytibgpjokdpagcaa

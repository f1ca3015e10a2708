/- Arguments that came in: numbers, words, tasks. -/
import Derived.Test.YtibgpjokdpagcaaWRunP
namespace Go.Proofs.Ytibgpjokdpagcaa
open Go.ChangeShapes Go.WideShapes Go.ChangeAt Go.RowKit

theorem own : ownKnob Try.prog.godebug = none := by kernel_rfl
theorem laidOut : laidOutB Try.prog = true := by kernel_rfl
theorem cellsInt : Try.prog.cellsOf 3 = 1 := by kernel_rfl
theorem cellsInt64 : Try.prog.cellsOf 2 = 1 := by kernel_rfl

theorem ints_of {H : Type} {ec : TypeId × Value → H} {W : World} {fuel : Nat} {v : Value} {x : DataW H × List MemPlace} (hf : DataW.trod ec Try.prog W 0 (fun _ => true) true fuel 24 [v] = some x) (hw : ∀ n ∈ x.1.weights Try.prog 24, n ≤ reachBytes) :
    ∃ L : List Int, IntsAt W v L ∧ ∀ a ∈ L, -9223372036854775808 ≤ a ∧ a ≤ 9223372036854775807 := by
  refine open_rows Try.underlying24 (by kernel_rfl) (by omega) hf hw (fun x : Int => [Value.int .i64 x]) _ (fun m cs y _ ht _ => ?_)
  obtain ⟨a, e0, _, wb⟩ := DataW.trod_int Try.underlying3 ht
  exact ⟨a, e0.symm, bounds_i64 wb⟩

theorem words_of {H : Type} {ec : TypeId × Value → H} {W : World} {fuel : Nat} {v : Value} {x : DataW H × List MemPlace} (hf : DataW.trod ec Try.prog W 0 (fun _ => true) true fuel 23 [v] = some x) (hw : ∀ n ∈ x.1.weights Try.prog 23, n ≤ reachBytes) :
    ∃ L : List Int, WordsAt W v L ∧ ∀ a ∈ L, 0 ≤ a ∧ a < two64 := by
  refine open_rows Try.underlying23 (by kernel_rfl) (by omega) hf hw (fun x : Int => [Value.int .u64 x]) _ (fun m cs y _ ht _ => ?_)
  obtain ⟨a, e0, _, wb⟩ := DataW.trod_int Try.underlying38 ht
  have := bounds_u64 wb
  exact ⟨a, e0.symm, by unfold two64; omega⟩

set_option maxRecDepth 100000 in
theorem instrs_of {H : Type} {ec : TypeId × Value → H} {W : World} {fuel : Nat} {v : Value} {x : DataW H × List MemPlace} (hf : DataW.trod ec Try.prog W 0 (fun _ => true) true fuel 43 [v] = some x) (hw : ∀ n ∈ x.1.weights Try.prog 43, n ≤ reachBytes) :
    ∃ L : List InsV, SliceAt W v 4 InsV.en L ∧ ∀ a ∈ L, True := by
  refine open_rows Try.underlying43 (by kernel_rfl) (by omega) hf hw InsV.en (fun _ => True) (fun m cs y hlen ht _ => ?_)
  obtain ⟨y0, y1, y2, y3, k, ye, h0, h1, h2, h3⟩ := trod_struct4 Try.underlying53 ht
  match cs, hlen with
  | [v0, v1, v2, v3], _ =>
    simp only [cellsInt, cellsInt64, List.drop_zero, List.drop_succ_cons, List.take_succ_cons, List.take_zero] at h0 h1 h2 h3
    obtain ⟨a, e0, _, _⟩ := DataW.trod_int Try.underlying3 h0
    obtain ⟨b, e1, _, _⟩ := DataW.trod_int Try.underlying3 h1
    obtain ⟨c, e2, _, _⟩ := DataW.trod_int Try.underlying3 h2
    obtain ⟨d, e3, _, _⟩ := DataW.trod_int Try.underlying2 h3
    simp only [List.cons.injEq, and_true] at e0 e1 e2 e3
    exact ⟨⟨a, b, c, d⟩, by rw [e0, e1, e2, e3]; rfl, trivial⟩

set_option maxRecDepth 100000 in
theorem tasks_of {H : Type} {ec : TypeId × Value → H} {W : World} {fuel : Nat} {v : Value} {x : DataW H × List MemPlace} (hf : DataW.trod ec Try.prog W 0 (fun _ => true) true fuel 22 [v] = some x) (hw : ∀ n ∈ x.1.weights Try.prog 22, n ≤ reachBytes) :
    ∃ T : List TaskV, TasksAt W v T := by
  obtain ⟨T, h1, h2⟩ := open_rows (n := 1) Try.underlying22 (by kernel_rfl) (by omega) hf hw (fun t : TaskV => [t.v]) (fun t => SliceAt W t.v 4 InsV.en t.L) (fun m cs y hlen ht hwy => by
    match cs, hlen with
    | [u], _ =>
      obtain ⟨L, hL, _⟩ := instrs_of ht hwy
      exact ⟨⟨u, L⟩, rfl, hL⟩)
  exact ⟨T, h1, h2⟩

end Go.Proofs.Ytibgpjokdpagcaa

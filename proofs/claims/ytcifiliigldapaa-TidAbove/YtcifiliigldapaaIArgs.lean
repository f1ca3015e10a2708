/- How layer 9's laws read their arguments: words, and parts by value. -/
import Derived.Test.YtcifiliigldapaaIParts
import Derived.ProofKit
import Derived.OpenShut
import Derived.ChangeOld
import Derived.SizedLaws
namespace Go.Proofs.Ytcifiliigldapaa
open Go.ChangeShapes Go.WideShapes Go.ChangeAt Go.RowKit

theorem own : ownKnob Try.prog.godebug = none := by kernel_rfl
theorem laidOut : laidOutB Try.prog = true := by kernel_rfl
theorem cellsInt : Try.prog.cellsOf 3 = 1 := by kernel_rfl
theorem cellsBool : Try.prog.cellsOf 4 = 1 := by kernel_rfl
theorem cellsParts : Try.prog.cellsOf 23 = 5 := by kernel_rfl

theorem words_of {H : Type} {ec : TypeId × Value → H} {W : World} {fuel : Nat} {v : Value} {x : DataW H × List MemPlace} (hf : DataW.trod ec Try.prog W 0 (fun _ => true) true fuel 35 [v] = some x) (hw : ∀ n ∈ x.1.weights Try.prog 35, n ≤ reachBytes) :
    ∃ L : List Int, WordsAt W v L ∧ Words L := by
  refine open_rows Try.underlying35 (by kernel_rfl) (by omega) hf hw (fun x : Int => [Value.int .u64 x]) _ (fun m cs y _ ht _ => ?_)
  obtain ⟨a, e0, _, wb⟩ := DataW.trod_int Try.underlying24 ht
  have := bounds_u64 wb
  exact ⟨a, e0.symm, by omega⟩

set_option maxRecDepth 100000 in
theorem parts_of {H : Type} {ec : TypeId × Value → H} {W : World} {r : Reach} {base : Nat} {v : Value} {d : DataW H} {p : List MemPlace} (hval : Value.okWide Try.prog W r base 23 v) (h : DataW.Trod ec Try.prog W 0 (fun _ => true) true 23 v d p) :
    ∃ q : PartsV, v = q.agg := by
  obtain ⟨cs, rfl, hsz⟩ := okWide_struct Try.underlying23 hval
  rw [cellsParts] at hsz
  obtain ⟨l⟩ := cs
  match l, hsz with
  | [c0, c1, c2, c3, c4], _ =>
    obtain ⟨fuel, hf⟩ := h
    obtain ⟨y0, y1, y2, y3, y4, k, ye, h0, h1, h2, h3, h4⟩ := trod_struct5 Try.underlying23 hf
    simp only [Value.cells, cellsInt, cellsBool, List.drop_zero, List.drop_succ_cons, List.take_succ_cons, List.take_zero] at h0 h1 h2 h3 h4
    obtain ⟨a, e0, _, _⟩ := DataW.trod_int Try.underlying3 h0
    obtain ⟨b, e1, _, _⟩ := DataW.trod_int Try.underlying3 h1
    obtain ⟨c, e2, _⟩ := DataW.trod_bool Try.underlying4 h2
    obtain ⟨f, e3, _⟩ := DataW.trod_bool Try.underlying4 h3
    obtain ⟨g, e4, _⟩ := DataW.trod_bool Try.underlying4 h4
    simp only [List.cons.injEq, and_true] at e0 e1 e2 e3 e4
    exact ⟨⟨a, b, c, f, g⟩, by rw [e0, e1, e2, e3, e4]⟩

end Go.Proofs.Ytcifiliigldapaa

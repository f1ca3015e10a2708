/- How layer 24's laws read their arguments: texts, a row of texts, a number. -/
import Derived.Test.YtfbimjhhbddfjaaDoorQPiecesL
import Derived.Test.YtfbimjhhbddfjaaDoorOpen
import Derived.ProofKit
import Derived.OpenShut
import Derived.ShutString
import Derived.ChangeOld
import Derived.SizedLaws
namespace Go.Proofs.YtfbimjhhbddfjaaDoor
open Go.ChangeShapes Go.WideShapes Go.ChangeAt Go.RowKit

theorem own : ownKnob Tryd.prog.godebug = none := by kernel_rfl
theorem laidOut : laidOutB Tryd.prog = true := by kernel_rfl
theorem strs_of {H : Type} {ec : TypeId × Value → H} {W : World} {fuel : Nat} {v : Value} {x : DataW H × List MemPlace} (hf : DataW.trod ec Tryd.prog W 0 (fun _ => true) true fuel 29 [v] = some x) (hw : ∀ n ∈ x.1.weights Tryd.prog 29, n ≤ reachBytes) :
    ∃ L : List ByteArray, SliceAt W v 1 strOne L ∧ ∀ a ∈ L, True := by
  refine open_rows Tryd.underlying29 (by kernel_rfl) (by omega) hf hw strOne _ (fun m cs y _ ht hwy => ?_)
  obtain ⟨b, e1, _, _⟩ := DataW.trod_string Tryd.underlying9 ht
  exact ⟨b, e1.symm, trivial⟩

end Go.Proofs.YtfbimjhhbddfjaaDoor

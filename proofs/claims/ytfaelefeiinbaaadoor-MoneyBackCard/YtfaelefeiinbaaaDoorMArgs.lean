/- How layer 22's laws read their arguments, and what is laid in the package-level variables. -/
import Derived.Test.YtfaelefeiinbaaaDoorRows
import Derived.Test.YtfaelefeiinbaaaDoorTie
import Derived.Test.YtfaelefeiinbaaaDoorCards
import Derived.Test.YtfaelefeiinbaaaDoorMSumC
import Derived.ProofKit
import Derived.OpenShut
import Derived.ShutString
import Derived.ChangeOld
import Derived.SizedLaws
import Derived.LaidMore
import Derived.LaidHandle
import Derived.SevenTiedAt
import Derived.Stop.Joined
namespace Go.Proofs.YtfaelefeiinbaaaDoor
open Go.ChangeShapes Go.WideShapes Go.ChangeAt Go.RowKit

theorem own : ownKnob Tryd.prog.godebug = none := by kernel_rfl
theorem laidOut : laidOutB Tryd.prog = true := by kernel_rfl

theorem ints_of {H : Type} {ec : TypeId × Value → H} {W : World} {fuel : Nat} {v : Value} {x : DataW H × List MemPlace} (hf : DataW.trod ec Tryd.prog W 0 (fun _ => true) true fuel 29 [v] = some x) (hw : ∀ n ∈ x.1.weights Tryd.prog 29, n ≤ reachBytes) :
    ∃ L : List Int, IntsAt W v L ∧ ∀ x ∈ L, -9223372036854775808 ≤ x ∧ x ≤ 9223372036854775807 := by
  refine open_rows Tryd.underlying29 (by kernel_rfl) (by omega) hf hw (fun x : Int => [Value.int .i64 x]) _ (fun m cs y _ ht _ => ?_)
  obtain ⟨a, e0, _, wb⟩ := DataW.trod_int Tryd.underlying3 ht
  have h1 : IntKind.i64.min ≤ a ∧ a ≤ IntKind.i64.max := by simpa [Lit.wf] using wb
  have h2 : IntKind.i64.min = -9223372036854775808 := by decide
  have h3 : IntKind.i64.max = 9223372036854775807 := by decide
  exact ⟨a, e0.symm, by omega⟩

end Go.Proofs.YtfaelefeiinbaaaDoor

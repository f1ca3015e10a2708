/-
  No cell of these rows narrows 'for every input' (looked for: loops, veiled, ifaces, maps, wideKeys, modest, calm, conditions, laid).
  DERIVED. THE GIVEN ROWS OF THIS SEAT. 4 by the template 'for every input the law returns true; each argument reads behind the call as it read before'; 0 by the template 'total and deterministic' (their statements: YtcifiliigldapaaTotals.lean).
  GIVEN WITH THE SEED: the statements are not yours to turn. If you find one false, say at which input.
  Laid BY PROGRAM, IN A SANDBOX (cutbox-rows.mjs): the forced cells as the released guide's own fill.sh prints them over the translation c46849ade1be2449… (all of the seat's roots in one cut). By AI agents, Wed Nov 11 2026. No macro, syntax, notation, axiom, sorry.
-/
import Derived.Test.YtcifiliigldapaaChecked
import GoSem.Claim
import GoSem.ClaimJoined
import GoSem.ClaimMapViews
import Derived.JoinedTies
import Derived.KernelRfl
namespace Go.Proofs.Ytcifiliigldapaa
/- THE CELL 'sum', in the pinned program and in every row, IS THE sha256 OF THE DUMP (.gsa) THAT YtcifiliigldapaaProg.lean LOADS. Nothing in Lean hashes anything: it is a label: what it is worth is what the hold of that sum in a sandbox is worth. -/
noncomputable def Try.pinned : Pinned := { name := "ytcifiliigldapaa", sum := "c46849ade1be24495b6050b14c16e4509a6aca46bca43b20fbe2e6cec2766eeb", checked := Try.checked }
namespace Rows
def none {H : Type} : Left H := { results := [], args := [] }

/-- 'hopperlaw09.TidParts': WHATEVER THE INPUT: true; the input reads as it did. -/
def tidPartsSpec : ChangeSpec := { name := "tidParts", fn := fun _ => fun
  | [d1, d2] => { results := [.lit (.bool true)], args := [d1, d2] }
  | _ => none }
def tidPartsRow : OpenClaim := { program := "ytcifiliigldapaa", sum := "c46849ade1be24495b6050b14c16e4509a6aca46bca43b20fbe2e6cec2766eeb", func := "hopper/hopperlaw09.TidParts", spec := "tidParts", apart := false }
def TidPartsSaid : Prop := tidPartsRow.holds Try.pinned (OpenSpec.ofChange tidPartsSpec)

/-- ITS FALSE NEIGHBOUR: 'it returns false'. Refute it at one input. -/
def tidPartsWrong : ChangeSpec := { name := "tidParts", fn := fun _ => fun
  | [d1, d2] => { results := [.lit (.bool false)], args := [d1, d2] }
  | _ => none }
def TidPartsWrongFalsely : Prop := tidPartsRow.holds Try.pinned (OpenSpec.ofChange tidPartsWrong)

/-- 'hopperlaw09.TidNext': WHATEVER THE INPUT: true; the input reads as it did. -/
def tidNextSpec : ChangeSpec := { name := "tidNext", fn := fun _ => fun
  | [d1, d2] => { results := [.lit (.bool true)], args := [d1, d2] }
  | _ => none }
def tidNextRow : OpenClaim := { program := "ytcifiliigldapaa", sum := "c46849ade1be24495b6050b14c16e4509a6aca46bca43b20fbe2e6cec2766eeb", func := "hopper/hopperlaw09.TidNext", spec := "tidNext", apart := false }
def TidNextSaid : Prop := tidNextRow.holds Try.pinned (OpenSpec.ofChange tidNextSpec)

/-- ITS FALSE NEIGHBOUR: 'it returns false'. Refute it at one input. -/
def tidNextWrong : ChangeSpec := { name := "tidNext", fn := fun _ => fun
  | [d1, d2] => { results := [.lit (.bool false)], args := [d1, d2] }
  | _ => none }
def TidNextWrongFalsely : Prop := tidNextRow.holds Try.pinned (OpenSpec.ofChange tidNextWrong)

/-- 'hopperlaw09.TidOrder': WHATEVER THE INPUT: true; the input reads as it did. -/
def tidOrderSpec : ChangeSpec := { name := "tidOrder", fn := fun _ => fun
  | [d1, d2] => { results := [.lit (.bool true)], args := [d1, d2] }
  | _ => none }
def tidOrderRow : OpenClaim := { program := "ytcifiliigldapaa", sum := "c46849ade1be24495b6050b14c16e4509a6aca46bca43b20fbe2e6cec2766eeb", func := "hopper/hopperlaw09.TidOrder", spec := "tidOrder", apart := false }
def TidOrderSaid : Prop := tidOrderRow.holds Try.pinned (OpenSpec.ofChange tidOrderSpec)

/-- ITS FALSE NEIGHBOUR: 'it returns false'. Refute it at one input. -/
def tidOrderWrong : ChangeSpec := { name := "tidOrder", fn := fun _ => fun
  | [d1, d2] => { results := [.lit (.bool false)], args := [d1, d2] }
  | _ => none }
def TidOrderWrongFalsely : Prop := tidOrderRow.holds Try.pinned (OpenSpec.ofChange tidOrderWrong)

/-- 'hopperlaw09.TidAbove': WHATEVER THE INPUT: true; the input reads as it did. -/
def tidAboveSpec : ChangeSpec := { name := "tidAbove", fn := fun _ => fun
  | [d1, d2] => { results := [.lit (.bool true)], args := [d1, d2] }
  | _ => none }
def tidAboveRow : OpenClaim := { program := "ytcifiliigldapaa", sum := "c46849ade1be24495b6050b14c16e4509a6aca46bca43b20fbe2e6cec2766eeb", func := "hopper/hopperlaw09.TidAbove", spec := "tidAbove", apart := false }
def TidAboveSaid : Prop := tidAboveRow.holds Try.pinned (OpenSpec.ofChange tidAboveSpec)

/-- ITS FALSE NEIGHBOUR: 'it returns false'. Refute it at one input. -/
def tidAboveWrong : ChangeSpec := { name := "tidAbove", fn := fun _ => fun
  | [d1, d2] => { results := [.lit (.bool false)], args := [d1, d2] }
  | _ => none }
def TidAboveWrongFalsely : Prop := tidAboveRow.holds Try.pinned (OpenSpec.ofChange tidAboveWrong)

/- THE SECOND FORM. 'bulk': how many values and letters a reading holds, each counted each time it is reached (what is shared counts as often as it is met; a slice's spare places count too). A statement '..UptoSaid' is the law's where the arguments, and the package variables that the reading takes, are together of bulk at most 1048576: NARROWER than '..Said'. Prove '..Said' where nothing that the law and all that it calls make is longer than what came in: it says more and counts as full. Else prove '..UptoSaid'. A law counts once. -/
mutual
def uptoBulk {H : Type} : DataW H → Nat
  | .lit (.string bytes) => bytes.length + 1
  | .lit _ => 1
  | .nil => 1
  | .ptr d => uptoBulk d + 1
  | .slice elems spare => uptoBulkAll elems + uptoBulkAll spare + 1
  | .agg parts => uptoBulkAll parts + 1
  | .iface _ d => uptoBulk d + 1
  | .map entries => uptoBulkEntries entries + 1
  | .held _ => 1
def uptoBulkAll {H : Type} : List (DataW H) → Nat
  | [] => 0
  | d :: r => uptoBulk d + uptoBulkAll r
def uptoBulkEntries {H : Type} : List (Lit × DataW H) → Nat
  | [] => 0
  | x :: r => uptoBulkEntry x + uptoBulkEntries r
def uptoBulkEntry {H : Type} : Lit × DataW H → Nat
  | (.string bytes, d) => bytes.length + uptoBulk d + 1
  | (_, d) => uptoBulk d + 1
 end
def uptoSmall : (H : Type) → List (DataW H) → Bool := fun _ ds => decide (uptoBulkAll ds ≤ 1048576)
def OpenSpec.upto (s : _root_.Go.ChangeSpec) : _root_.Go.OpenSpec := { _root_.Go.OpenSpec.ofChange s with cond := some uptoSmall }

/-- 'hopperlaw09.TidParts', WHERE WHAT IT READS IS OF BULK AT MOST 1048576: true; the input reads as it did. -/
def tidPartsUptoRow : OpenClaim := { program := "ytcifiliigldapaa", sum := "c46849ade1be24495b6050b14c16e4509a6aca46bca43b20fbe2e6cec2766eeb", func := "hopper/hopperlaw09.TidParts", spec := "tidParts", apart := false, narrowed := true }
def TidPartsUptoSaid : Prop := tidPartsUptoRow.holds Try.pinned (OpenSpec.upto tidPartsSpec)

/-- 'hopperlaw09.TidNext', WHERE WHAT IT READS IS OF BULK AT MOST 1048576: true; the input reads as it did. -/
def tidNextUptoRow : OpenClaim := { program := "ytcifiliigldapaa", sum := "c46849ade1be24495b6050b14c16e4509a6aca46bca43b20fbe2e6cec2766eeb", func := "hopper/hopperlaw09.TidNext", spec := "tidNext", apart := false, narrowed := true }
def TidNextUptoSaid : Prop := tidNextUptoRow.holds Try.pinned (OpenSpec.upto tidNextSpec)

/-- 'hopperlaw09.TidOrder', WHERE WHAT IT READS IS OF BULK AT MOST 1048576: true; the input reads as it did. -/
def tidOrderUptoRow : OpenClaim := { program := "ytcifiliigldapaa", sum := "c46849ade1be24495b6050b14c16e4509a6aca46bca43b20fbe2e6cec2766eeb", func := "hopper/hopperlaw09.TidOrder", spec := "tidOrder", apart := false, narrowed := true }
def TidOrderUptoSaid : Prop := tidOrderUptoRow.holds Try.pinned (OpenSpec.upto tidOrderSpec)

/-- 'hopperlaw09.TidAbove', WHERE WHAT IT READS IS OF BULK AT MOST 1048576: true; the input reads as it did. -/
def tidAboveUptoRow : OpenClaim := { program := "ytcifiliigldapaa", sum := "c46849ade1be24495b6050b14c16e4509a6aca46bca43b20fbe2e6cec2766eeb", func := "hopper/hopperlaw09.TidAbove", spec := "tidAbove", apart := false, narrowed := true }
def TidAboveUptoSaid : Prop := tidAboveUptoRow.holds Try.pinned (OpenSpec.upto tidAboveSpec)

end Rows
end Go.Proofs.Ytcifiliigldapaa

/- How layer 7's laws read their slices. -/
import Derived.Test.YtddbacphlbaohaaVCuts
import Derived.ProofKit
import Derived.OpenShut
import Derived.ShutString
import Derived.ChangeOld
import Derived.SizedLaws
namespace Go.Proofs.Ytddbacphlbaohaa
open Go.ChangeShapes Go.WideShapes Go.ChangeAt Go.RowKit

theorem laidOut : laidOutB Try.prog = true := by kernel_rfl

theorem texts_of {H : Type} {enc : TypeId × Value → H} {W : World} {fuel : Nat} {v : Value} {x : DataW H × List MemPlace} (hf : DataW.trod enc Try.prog W 0 (fun _ => true) true fuel 22 [v] = some x) (hw : ∀ k ∈ x.1.weights Try.prog 22, k ≤ reachBytes) :
    ∃ L : List ByteArray, SliceAt W v 1 strOne L ∧ ∀ s ∈ L, True :=
  open_rows Try.underlying22 (by kernel_rfl) (by decide) hf hw strOne (fun _ => True) fun m cs y _ h _ => by
    obtain ⟨s, h1, -, -⟩ := DataW.trod_string Try.underlying9 h
    exact ⟨s, h1.symm, trivial⟩

theorem ints_of {H : Type} {enc : TypeId × Value → H} {W : World} {fuel : Nat} {v : Value} {x : DataW H × List MemPlace} (hf : DataW.trod enc Try.prog W 0 (fun _ => true) true fuel 38 [v] = some x) (hw : ∀ k ∈ x.1.weights Try.prog 38, k ≤ reachBytes) :
    ∃ L : List Int, SliceAt W v 1 intOne L ∧ ∀ s ∈ L, True :=
  open_rows Try.underlying38 (by kernel_rfl) (by decide) hf hw intOne (fun _ => True) fun m cs y _ h _ => by
    obtain ⟨s, h1, -, -⟩ := DataW.trod_int Try.underlying3 h
    exact ⟨s, h1.symm, trivial⟩

theorem u32_range {d : Int} (h : (Lit.int .u32 d).wf = true) : ∃ n : Nat, d = (n : Int) ∧ n < 4294967296 := by
  have h1 : IntKind.u32.min ≤ d ∧ d ≤ IntKind.u32.max := by simpa [Lit.wf] using h
  have h2 : IntKind.u32.min = 0 := by decide
  have h3 : IntKind.u32.max = 4294967295 := by decide
  exact ⟨d.toNat, by omega, by omega⟩

end Go.Proofs.Ytddbacphlbaohaa

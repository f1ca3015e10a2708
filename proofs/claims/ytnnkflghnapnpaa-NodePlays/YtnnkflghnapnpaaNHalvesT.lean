/- What a row of texts is told by. -/
import Derived.Test.YtnnkflghnapnpaaNKeys
import Derived.Test.YtnnkflghnapnpaaNArgs
import Derived.Test.YtnnkflghnapnpaaCopy
namespace Go.Proofs.Ytnnkflghnapnpaa
open Go.RowKit
theorem infoS : (Try.prog.info? 9).map (fun i => (i.zero, i.size, i.bytes)) = some (some (.string ⟨#[]⟩), 1, 16) := by kernel_rfl
theorem row_texts {w : World} {base : Nat} {v : Value} {K : List ByteArray} (h : w.ownsRow base 9 1 v K.length (scells K)) : SliceAt w v 1 enS K := by
  refine own_slice (en := enS) (base := base) (e := 9) (fun _ => rfl) ?_
  have e : ∀ K : List ByteArray, flat enS K = scells K := by
    intro K
    unfold flat scells enS
    induction K with
    | nil => rfl
    | cons x K ih =>
      rw [List.flatMap_cons, ih]
      rfl
  rw [e]
  exact h
end Go.Proofs.Ytnnkflghnapnpaa

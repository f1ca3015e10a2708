/- Words, once more. -/
import Derived.Test.YtoknebbkpkcomaaNWords1
namespace Go.Proofs.Ytoknebbkpkcomaa
open Go.RowKit

theorem wd_unique {W V : Int} {u : Nat} {l : List Nat} (h : Wd W u l) (k : Wd V u l) : W = V := h.eq.trans k.eq.symm

end Go.Proofs.Ytoknebbkpkcomaa

/- The document's machine does an instruction. -/
import Derived.Test.YtibgpjokdpagcaaWRefS
namespace Go.Proofs.Ytibgpjokdpagcaa
open Go.RowKit

theorem set_getD_self {α : Type} {l : List α} {i : Nat} (h : i < l.length) (d : α) : l.set i (l.getD i d) = l := by
  rw [getD_get h]
  exact List.set_getElem_self h

section
variable {wb w : World} {mb pb rb db : Nat} {vt vc : Value} {m n : Nat} {Ps : List Int} {R : List (List Int)} {D : List Bool} {c : List Int} {k : Nat} {t : Nat} {L : List InsV} {tb to ct : Nat} {ta : Option Addr} {tc : Nat}

/-- what comes of an instruction, there -/
def doD (x : InsV) (D : List Bool) (t : Nat) : List Bool := if x.kind = 8 then D.set t true else D
def doP (x : InsV) (s : St) (len : Nat) : Int := if x.kind = 8 then (s.p : Int) + 1 else ((s.one len x).1.p : Int)
def doA (x : InsV) (s : St) (len : Nat) : Bool := if x.kind = 8 then false else (s.one len x).2

end

end Go.Proofs.Ytibgpjokdpagcaa

/-
  DERIVED. GIVEN WITH THE SEED: THE CARDS: each row of YtibglhlhogfdnaaDoorRows.lean that lists a variable, with what it lists TIED to the program's text (the seventh form; the later family's looks); each row that meets fmt, with fmt's text TOLD by the authors' own Lean function (tested against real Go, not proved from fmt's source: count such statements apart). THE CARD IS WHAT COUNTS. Prove the row's statement (the work); the ties are given (YtibglhlhogfdnaaDoorTie.lean); close each card by the builder's one call (the guide's Derived/Test/ToyasCard.lean, 'card_holds'). Laid BY PROGRAM, IN A SANDBOX (cutbox-door.mjs). By AI agents, Wed Nov 11 2026. No macro, syntax, notation, axiom, sorry.
-/
import Derived.Test.YtibglhlhogfdnaaDoorRows
import GoSem.ClaimSeven
namespace Go.Proofs.YtibglhlhogfdnaaDoor
namespace Rows

/-- THE TIED CARD OF 'hopperlaw25.AuthPlays'. -/
def authPlaysCard : Claim7 := { stood := { row := authPlaysRow, standIns := [], harness := (true, "6b70aed21b7736a012c75eeeef8e1921d058734ef65f01f2e0baeb520301e0ce"), looks := false }, kinds := [], alts := [], laidByText := true, laidKinds := [.data], laidTests := true, laidLooks := .later }
def AuthPlaysCardSaid : Prop := Claim7.holds Tryd.pinned (.plain (OpenSpec.ofChange authPlaysSpec)) authPlaysCard

/-- THE TIED CARD OF 'hopperlaw25.AuthLets'. -/
def authLetsCard : Claim7 := { stood := { row := authLetsRow, standIns := [], harness := (true, "6b70aed21b7736a012c75eeeef8e1921d058734ef65f01f2e0baeb520301e0ce"), looks := false }, kinds := [], alts := [], laidByText := true, laidKinds := [.data], laidTests := true, laidLooks := .later }
def AuthLetsCardSaid : Prop := Claim7.holds Tryd.pinned (.plain (OpenSpec.ofChange authLetsSpec)) authLetsCard

/-- THE TIED CARD OF 'hopperlaw25.AuthOthers'. -/
def authOthersCard : Claim7 := { stood := { row := authOthersRow, standIns := [], harness := (true, "6b70aed21b7736a012c75eeeef8e1921d058734ef65f01f2e0baeb520301e0ce"), looks := false }, kinds := [], alts := [], laidByText := true, laidKinds := [.data], laidTests := true, laidLooks := .later }
def AuthOthersCardSaid : Prop := Claim7.holds Tryd.pinned (.plain (OpenSpec.ofChange authOthersSpec)) authOthersCard

/-- THE TIED CARD OF 'hopperlaw25.AuthNames'. -/
def authNamesCard : Claim7 := { stood := { row := authNamesRow, standIns := [], harness := (true, "6b70aed21b7736a012c75eeeef8e1921d058734ef65f01f2e0baeb520301e0ce"), looks := false }, kinds := [], alts := [], laidByText := true, laidKinds := [.data], laidTests := true, laidLooks := .later }
def AuthNamesCardSaid : Prop := Claim7.holds Tryd.pinned (.plain (OpenSpec.ofChange authNamesSpec)) authNamesCard

/-- THE SECOND FORM's CARD OF 'hopperlaw25.AuthPlays'. -/
def authPlaysUptoCard : Claim7 := { stood := { row := authPlaysUptoRow, standIns := [], harness := (true, "6b70aed21b7736a012c75eeeef8e1921d058734ef65f01f2e0baeb520301e0ce"), looks := false }, kinds := [], alts := [], laidByText := true, laidKinds := [.data], laidTests := true, laidLooks := .later }
def AuthPlaysUptoCardSaid : Prop := Claim7.holds Tryd.pinned (.plain (OpenSpec.upto authPlaysSpec)) authPlaysUptoCard

/-- THE SECOND FORM's CARD OF 'hopperlaw25.AuthLets'. -/
def authLetsUptoCard : Claim7 := { stood := { row := authLetsUptoRow, standIns := [], harness := (true, "6b70aed21b7736a012c75eeeef8e1921d058734ef65f01f2e0baeb520301e0ce"), looks := false }, kinds := [], alts := [], laidByText := true, laidKinds := [.data], laidTests := true, laidLooks := .later }
def AuthLetsUptoCardSaid : Prop := Claim7.holds Tryd.pinned (.plain (OpenSpec.upto authLetsSpec)) authLetsUptoCard

/-- THE SECOND FORM's CARD OF 'hopperlaw25.AuthOthers'. -/
def authOthersUptoCard : Claim7 := { stood := { row := authOthersUptoRow, standIns := [], harness := (true, "6b70aed21b7736a012c75eeeef8e1921d058734ef65f01f2e0baeb520301e0ce"), looks := false }, kinds := [], alts := [], laidByText := true, laidKinds := [.data], laidTests := true, laidLooks := .later }
def AuthOthersUptoCardSaid : Prop := Claim7.holds Tryd.pinned (.plain (OpenSpec.upto authOthersSpec)) authOthersUptoCard

/-- THE SECOND FORM's CARD OF 'hopperlaw25.AuthNames'. -/
def authNamesUptoCard : Claim7 := { stood := { row := authNamesUptoRow, standIns := [], harness := (true, "6b70aed21b7736a012c75eeeef8e1921d058734ef65f01f2e0baeb520301e0ce"), looks := false }, kinds := [], alts := [], laidByText := true, laidKinds := [.data], laidTests := true, laidLooks := .later }
def AuthNamesUptoCardSaid : Prop := Claim7.holds Tryd.pinned (.plain (OpenSpec.upto authNamesSpec)) authNamesUptoCard
end Rows
end Go.Proofs.YtibglhlhogfdnaaDoor

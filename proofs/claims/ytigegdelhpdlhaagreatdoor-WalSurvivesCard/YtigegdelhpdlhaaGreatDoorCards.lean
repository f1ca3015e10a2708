/-
  DERIVED. GIVEN WITH THE SEED: THE CARDS: each row of YtigegdelhpdlhaaGreatDoorRows.lean that lists a variable, with what it lists TIED to the program's text (the seventh form; the later family's looks); each row that meets fmt, with fmt's text TOLD by the authors' own Lean function (tested against real Go, not proved from fmt's source: count such statements apart). THE CARD IS WHAT COUNTS. Prove the row's statement (the work); the ties are given (YtigegdelhpdlhaaGreatDoorTie.lean); close each card by the builder's one call (the guide's Derived/Test/ToyasCard.lean, 'card_holds'). Laid BY PROGRAM, IN A SANDBOX (cutbox-door.mjs). By AI agents, Wed Nov 11 2026. No macro, syntax, notation, axiom, sorry.
-/
import Derived.Test.YtigegdelhpdlhaaGreatDoorRows
import GoSem.ClaimSeven
namespace Go.Proofs.YtigegdelhpdlhaaGreatDoor
namespace Rows

/-- THE TIED CARD OF 'hopperlaw18.WalSurvives'. -/
def walSurvivesCard : Claim7 := { stood := { row := walSurvivesRow, standIns := [], harness := (true, "5a59d2fd16d1d3e2802d98ccc695ee7355ca0ccbd9652de8250aaa38bac27c0a"), looks := true }, kinds := [], alts := [], laidByText := true, laidKinds := [.data, .data, .data], laidTests := true, laidLooks := .later }
def WalSurvivesCardSaid : Prop := Claim7.holds Tryz.pinned (.plain (OpenSpec.ofChange walSurvivesSpec)) walSurvivesCard

/-- THE TIED CARD OF 'hopperlaw18.WalRots'. -/
def walRotsCard : Claim7 := { stood := { row := walRotsRow, standIns := [], harness := (true, "5a59d2fd16d1d3e2802d98ccc695ee7355ca0ccbd9652de8250aaa38bac27c0a"), looks := true }, kinds := [], alts := [], laidByText := true, laidKinds := [.data, .data, .data], laidTests := true, laidLooks := .later }
def WalRotsCardSaid : Prop := Claim7.holds Tryz.pinned (.plain (OpenSpec.ofChange walRotsSpec)) walRotsCard

/-- THE TIED CARD OF 'hopperlaw18.WalTids'. -/
def walTidsCard : Claim7 := { stood := { row := walTidsRow, standIns := [], harness := (true, "5a59d2fd16d1d3e2802d98ccc695ee7355ca0ccbd9652de8250aaa38bac27c0a"), looks := true }, kinds := [], alts := [], laidByText := true, laidKinds := [.data, .data, .data], laidTests := true, laidLooks := .later }
def WalTidsCardSaid : Prop := Claim7.holds Tryz.pinned (.plain (OpenSpec.ofChange walTidsSpec)) walTidsCard

/-- THE TIED CARD OF 'hopperlaw18.WalAgain'. -/
def walAgainCard : Claim7 := { stood := { row := walAgainRow, standIns := [], harness := (true, "5a59d2fd16d1d3e2802d98ccc695ee7355ca0ccbd9652de8250aaa38bac27c0a"), looks := true }, kinds := [], alts := [], laidByText := true, laidKinds := [.data, .data, .data], laidTests := true, laidLooks := .later }
def WalAgainCardSaid : Prop := Claim7.holds Tryz.pinned (.plain (OpenSpec.ofChange walAgainSpec)) walAgainCard

/-- THE SECOND FORM's CARD OF 'hopperlaw18.WalSurvives'. -/
def walSurvivesUptoCard : Claim7 := { stood := { row := walSurvivesUptoRow, standIns := [], harness := (true, "5a59d2fd16d1d3e2802d98ccc695ee7355ca0ccbd9652de8250aaa38bac27c0a"), looks := true }, kinds := [], alts := [], laidByText := true, laidKinds := [.data, .data, .data], laidTests := true, laidLooks := .later }
def WalSurvivesUptoCardSaid : Prop := Claim7.holds Tryz.pinned (.plain (OpenSpec.upto walSurvivesSpec)) walSurvivesUptoCard

/-- THE SECOND FORM's CARD OF 'hopperlaw18.WalRots'. -/
def walRotsUptoCard : Claim7 := { stood := { row := walRotsUptoRow, standIns := [], harness := (true, "5a59d2fd16d1d3e2802d98ccc695ee7355ca0ccbd9652de8250aaa38bac27c0a"), looks := true }, kinds := [], alts := [], laidByText := true, laidKinds := [.data, .data, .data], laidTests := true, laidLooks := .later }
def WalRotsUptoCardSaid : Prop := Claim7.holds Tryz.pinned (.plain (OpenSpec.upto walRotsSpec)) walRotsUptoCard

/-- THE SECOND FORM's CARD OF 'hopperlaw18.WalTids'. -/
def walTidsUptoCard : Claim7 := { stood := { row := walTidsUptoRow, standIns := [], harness := (true, "5a59d2fd16d1d3e2802d98ccc695ee7355ca0ccbd9652de8250aaa38bac27c0a"), looks := true }, kinds := [], alts := [], laidByText := true, laidKinds := [.data, .data, .data], laidTests := true, laidLooks := .later }
def WalTidsUptoCardSaid : Prop := Claim7.holds Tryz.pinned (.plain (OpenSpec.upto walTidsSpec)) walTidsUptoCard

/-- THE SECOND FORM's CARD OF 'hopperlaw18.WalAgain'. -/
def walAgainUptoCard : Claim7 := { stood := { row := walAgainUptoRow, standIns := [], harness := (true, "5a59d2fd16d1d3e2802d98ccc695ee7355ca0ccbd9652de8250aaa38bac27c0a"), looks := true }, kinds := [], alts := [], laidByText := true, laidKinds := [.data, .data, .data], laidTests := true, laidLooks := .later }
def WalAgainUptoCardSaid : Prop := Claim7.holds Tryz.pinned (.plain (OpenSpec.upto walAgainSpec)) walAgainUptoCard
end Rows
end Go.Proofs.YtigegdelhpdlhaaGreatDoor

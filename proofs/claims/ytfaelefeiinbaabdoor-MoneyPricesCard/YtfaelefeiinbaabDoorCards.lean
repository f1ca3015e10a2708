/-
  DERIVED. GIVEN WITH THE SEED: THE CARDS: each row of YtfaelefeiinbaabDoorRows.lean that lists a variable, with what it lists TIED to the program's text (the seventh form; the later family's looks); each row that meets fmt, with fmt's text TOLD by the authors' own Lean function (tested against real Go, not proved from fmt's source: count such statements apart). THE CARD IS WHAT COUNTS. Prove the row's statement (the work); the ties are given (YtfaelefeiinbaabDoorTie.lean); close each card by the builder's one call (the guide's Derived/Test/ToyasCard.lean, 'card_holds'). Laid BY PROGRAM, IN A SANDBOX (cutbox-door.mjs). By AI agents, Wed Nov 11 2026. No macro, syntax, notation, axiom, sorry.
-/
import Derived.Test.YtfaelefeiinbaabDoorRows
import GoSem.ClaimSeven
namespace Go.Proofs.YtfaelefeiinbaabDoor
namespace Rows

/-- THE TIED CARD OF 'hopperlaw22.MoneyPrices'. -/
def moneyPricesCard : Claim7 := { stood := { row := moneyPricesRow, standIns := [], harness := (true, "17a33392e6e42e3a4a29d9b8b31c5aa8fbbc6bedb7aaa8187f7c5b3315db1708"), looks := false }, kinds := [], alts := [], laidByText := true, laidKinds := [.data, .data, .data], laidTests := true, laidLooks := .later }
def MoneyPricesCardSaid : Prop := Claim7.holds Tryd.pinned (.plain (OpenSpec.ofChange moneyPricesSpec)) moneyPricesCard

/-- THE SECOND FORM's CARD OF 'hopperlaw22.MoneyPrices'. -/
def moneyPricesUptoCard : Claim7 := { stood := { row := moneyPricesUptoRow, standIns := [], harness := (true, "17a33392e6e42e3a4a29d9b8b31c5aa8fbbc6bedb7aaa8187f7c5b3315db1708"), looks := false }, kinds := [], alts := [], laidByText := true, laidKinds := [.data, .data, .data], laidTests := true, laidLooks := .later }
def MoneyPricesUptoCardSaid : Prop := Claim7.holds Tryd.pinned (.plain (OpenSpec.upto moneyPricesSpec)) moneyPricesUptoCard
end Rows
end Go.Proofs.YtfaelefeiinbaabDoor

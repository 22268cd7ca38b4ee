/-
  DERIVED. GIVEN WITH THE SEED: THE CARDS: each row of YtmhmlkdoaojimapGreatDoorRows.lean that lists a variable, with what it lists TIED to the program's text (the seventh form; the later family's looks); each row that meets fmt, with fmt's text TOLD by the authors' own Lean function (tested against real Go, not proved from fmt's source: count such statements apart). THE CARD IS WHAT COUNTS. Prove the row's statement (the work); the ties are given (YtmhmlkdoaojimapGreatDoorTie.lean); close each card by the builder's one call (the guide's Derived/Test/ToyasCard.lean, 'card_holds'). Laid BY PROGRAM, IN A SANDBOX (cutbox-door.mjs). By AI agents, Wed Nov 11 2026. No macro, syntax, notation, axiom, sorry.
-/
import Derived.Test.YtmhmlkdoaojimapGreatDoorRows
import GoSem.ClaimSeven
namespace Go.Proofs.YtmhmlkdoaojimapGreatDoor
namespace Rows

/-- THE TIED CARD OF 'laws.FnExactAdded'. -/
def fnExactAddedCard : Claim7 := { stood := { row := fnExactAddedRow, standIns := [], harness := (true, "3a17b869f2c40f980bbfa87b375162c55804ee280760767c84d39cd674822ddb"), looks := true }, kinds := [], alts := [], laidByText := true, laidKinds := [.data, .data, .data], laidTests := true, laidLooks := .later }
def FnExactAddedCardSaid : Prop := Claim7.holds Tryz.pinned (.plain (OpenSpec.ofChange fnExactAddedSpec)) fnExactAddedCard

/-- THE SECOND FORM's CARD OF 'laws.FnExactAdded'. -/
def fnExactAddedUptoCard : Claim7 := { stood := { row := fnExactAddedUptoRow, standIns := [], harness := (true, "3a17b869f2c40f980bbfa87b375162c55804ee280760767c84d39cd674822ddb"), looks := true }, kinds := [], alts := [], laidByText := true, laidKinds := [.data, .data, .data], laidTests := true, laidLooks := .later }
def FnExactAddedUptoCardSaid : Prop := Claim7.holds Tryz.pinned (.plain (OpenSpec.upto fnExactAddedSpec)) fnExactAddedUptoCard
end Rows
end Go.Proofs.YtmhmlkdoaojimapGreatDoor

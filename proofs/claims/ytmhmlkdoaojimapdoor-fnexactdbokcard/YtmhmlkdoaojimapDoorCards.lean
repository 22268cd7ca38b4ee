/-
  DERIVED. GIVEN WITH THE SEED: THE CARDS: each row of YtmhmlkdoaojimapDoorRows.lean that lists a variable, with what it lists TIED to the program's text (the seventh form; the later family's looks); each row that meets fmt, with fmt's text TOLD by the authors' own Lean function (tested against real Go, not proved from fmt's source: count such statements apart). THE CARD IS WHAT COUNTS. Prove the row's statement (the work); the ties are given (YtmhmlkdoaojimapDoorTie.lean); close each card by the builder's one call (the guide's Derived/Test/ToyasCard.lean, 'card_holds'). Laid BY PROGRAM, IN A SANDBOX (cutbox-door.mjs). By AI agents, Wed Nov 11 2026. No macro, syntax, notation, axiom, sorry.
-/
import Derived.Test.YtmhmlkdoaojimapDoorRows
import GoSem.ClaimSeven
namespace Go.Proofs.YtmhmlkdoaojimapDoor
namespace Rows

/-- THE TIED CARD OF 'laws.FnExactDbOk'. -/
def fnExactDbOkCard : Claim7 := { stood := { row := fnExactDbOkRow, standIns := [], harness := (true, "6e0cd1b2448beaf211bc723896437c1a794489b88c83895fe9149e576db80c2f"), looks := true }, kinds := [], alts := [], laidByText := true, laidKinds := [.data, .data, .data], laidTests := true, laidLooks := .later }
def FnExactDbOkCardSaid : Prop := Claim7.holds Tryd.pinned (.plain (OpenSpec.ofChange fnExactDbOkSpec)) fnExactDbOkCard

/-- THE TIED CARD OF 'laws.FnExactClausesOf'. -/
def fnExactClausesOfCard : Claim7 := { stood := { row := fnExactClausesOfRow, standIns := [], harness := (true, "6e0cd1b2448beaf211bc723896437c1a794489b88c83895fe9149e576db80c2f"), looks := true }, kinds := [], alts := [], laidByText := true, laidKinds := [.data, .data, .data], laidTests := true, laidLooks := .later }
def FnExactClausesOfCardSaid : Prop := Claim7.holds Tryd.pinned (.plain (OpenSpec.ofChange fnExactClausesOfSpec)) fnExactClausesOfCard

/-- THE TIED CARD OF 'laws.FnExactKnown'. -/
def fnExactKnownCard : Claim7 := { stood := { row := fnExactKnownRow, standIns := [], harness := (true, "6e0cd1b2448beaf211bc723896437c1a794489b88c83895fe9149e576db80c2f"), looks := true }, kinds := [], alts := [], laidByText := true, laidKinds := [.data, .data, .data], laidTests := true, laidLooks := .later }
def FnExactKnownCardSaid : Prop := Claim7.holds Tryd.pinned (.plain (OpenSpec.ofChange fnExactKnownSpec)) fnExactKnownCard

/-- THE TIED CARD OF 'laws.FnExactGrammarOf'. -/
def fnExactGrammarOfCard : Claim7 := { stood := { row := fnExactGrammarOfRow, standIns := [], harness := (true, "6e0cd1b2448beaf211bc723896437c1a794489b88c83895fe9149e576db80c2f"), looks := true }, kinds := [], alts := [], laidByText := true, laidKinds := [.data, .data, .data], laidTests := true, laidLooks := .later }
def FnExactGrammarOfCardSaid : Prop := Claim7.holds Tryd.pinned (.plain (OpenSpec.ofChange fnExactGrammarOfSpec)) fnExactGrammarOfCard

/-- THE SECOND FORM's CARD OF 'laws.FnExactDbOk'. -/
def fnExactDbOkUptoCard : Claim7 := { stood := { row := fnExactDbOkUptoRow, standIns := [], harness := (true, "6e0cd1b2448beaf211bc723896437c1a794489b88c83895fe9149e576db80c2f"), looks := true }, kinds := [], alts := [], laidByText := true, laidKinds := [.data, .data, .data], laidTests := true, laidLooks := .later }
def FnExactDbOkUptoCardSaid : Prop := Claim7.holds Tryd.pinned (.plain (OpenSpec.upto fnExactDbOkSpec)) fnExactDbOkUptoCard

/-- THE SECOND FORM's CARD OF 'laws.FnExactClausesOf'. -/
def fnExactClausesOfUptoCard : Claim7 := { stood := { row := fnExactClausesOfUptoRow, standIns := [], harness := (true, "6e0cd1b2448beaf211bc723896437c1a794489b88c83895fe9149e576db80c2f"), looks := true }, kinds := [], alts := [], laidByText := true, laidKinds := [.data, .data, .data], laidTests := true, laidLooks := .later }
def FnExactClausesOfUptoCardSaid : Prop := Claim7.holds Tryd.pinned (.plain (OpenSpec.upto fnExactClausesOfSpec)) fnExactClausesOfUptoCard

/-- THE SECOND FORM's CARD OF 'laws.FnExactKnown'. -/
def fnExactKnownUptoCard : Claim7 := { stood := { row := fnExactKnownUptoRow, standIns := [], harness := (true, "6e0cd1b2448beaf211bc723896437c1a794489b88c83895fe9149e576db80c2f"), looks := true }, kinds := [], alts := [], laidByText := true, laidKinds := [.data, .data, .data], laidTests := true, laidLooks := .later }
def FnExactKnownUptoCardSaid : Prop := Claim7.holds Tryd.pinned (.plain (OpenSpec.upto fnExactKnownSpec)) fnExactKnownUptoCard

/-- THE SECOND FORM's CARD OF 'laws.FnExactGrammarOf'. -/
def fnExactGrammarOfUptoCard : Claim7 := { stood := { row := fnExactGrammarOfUptoRow, standIns := [], harness := (true, "6e0cd1b2448beaf211bc723896437c1a794489b88c83895fe9149e576db80c2f"), looks := true }, kinds := [], alts := [], laidByText := true, laidKinds := [.data, .data, .data], laidTests := true, laidLooks := .later }
def FnExactGrammarOfUptoCardSaid : Prop := Claim7.holds Tryd.pinned (.plain (OpenSpec.upto fnExactGrammarOfSpec)) fnExactGrammarOfUptoCard
end Rows
end Go.Proofs.YtmhmlkdoaojimapDoor

/-
  DERIVED. GIVEN WITH THE SEED: THE CARDS: each row of YtceclkcmiaehkaoDoorRows.lean that lists a variable, with what it lists TIED to the program's text (the seventh form; the later family's looks); each row that meets fmt, with fmt's text TOLD by the authors' own Lean function (tested against real Go, not proved from fmt's source: count such statements apart). THE CARD IS WHAT COUNTS. Prove the row's statement (the work); the ties are given (YtceclkcmiaehkaoDoorTie.lean); close each card by the builder's one call (the guide's Derived/Test/ToyasCard.lean, 'card_holds'). Laid BY PROGRAM, IN A SANDBOX (cutbox-door.mjs). By AI agents, Wed Nov 11 2026. No macro, syntax, notation, axiom, sorry.
-/
import Derived.Test.YtceclkcmiaehkaoDoorRows
import GoSem.ClaimSeven
namespace Go.Proofs.YtceclkcmiaehkaoDoor
namespace Rows

/-- THE TIED CARD OF 'laws.FnExactAtomText'. -/
def fnExactAtomTextCard : Claim7 := { stood := { row := fnExactAtomTextRow, standIns := [], harness := (true, "5a52431ed57773b4e381292628241e1f686689e757eacf4d9101f1c5591843cf"), looks := false }, kinds := [], alts := [], laidByText := true, laidKinds := [.data, .pinned], laidTests := true, laidLooks := .later }
def FnExactAtomTextCardSaid : Prop := Claim7.holds Tryd.pinned (.plain (OpenSpec.ofChange fnExactAtomTextSpec)) fnExactAtomTextCard

/-- THE SECOND FORM's CARD OF 'laws.FnExactAtomText'. -/
def fnExactAtomTextUptoCard : Claim7 := { stood := { row := fnExactAtomTextUptoRow, standIns := [], harness := (true, "5a52431ed57773b4e381292628241e1f686689e757eacf4d9101f1c5591843cf"), looks := false }, kinds := [], alts := [], laidByText := true, laidKinds := [.data, .pinned], laidTests := true, laidLooks := .later }
def FnExactAtomTextUptoCardSaid : Prop := Claim7.holds Tryd.pinned (.plain (OpenSpec.upto fnExactAtomTextSpec)) fnExactAtomTextUptoCard
end Rows
end Go.Proofs.YtceclkcmiaehkaoDoor

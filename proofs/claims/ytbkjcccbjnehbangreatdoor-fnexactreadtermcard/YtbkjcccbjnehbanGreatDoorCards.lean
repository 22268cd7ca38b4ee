/-
  DERIVED. GIVEN WITH THE SEED: THE CARDS: each row of YtbkjcccbjnehbanGreatDoorRows.lean that lists a variable, with what it lists TIED to the program's text (the seventh form; the later family's looks); each row that meets fmt, with fmt's text TOLD by the authors' own Lean function (tested against real Go, not proved from fmt's source: count such statements apart). THE CARD IS WHAT COUNTS. Prove the row's statement (the work); the ties are given (YtbkjcccbjnehbanGreatDoorTie.lean); close each card by the builder's one call (the guide's Derived/Test/ToyasCard.lean, 'card_holds'). Laid BY PROGRAM, IN A SANDBOX (cutbox-door.mjs). By AI agents, Wed Nov 11 2026. No macro, syntax, notation, axiom, sorry.
-/
import Derived.Test.YtbkjcccbjnehbanGreatDoorRows
import GoSem.ClaimSeven
namespace Go.Proofs.YtbkjcccbjnehbanGreatDoor
namespace Rows

/-- THE TIED CARD OF 'laws.FnExactReadTerm'. -/
def fnExactReadTermCard : Claim7 := { stood := { row := fnExactReadTermRow, standIns := [], harness := (true, "57bf8c4726c810a98bcc7ed0efc7204be07f88cf8261e1a35e1021f89eecf2e7"), looks := true }, kinds := [], alts := [], laidByText := true, laidKinds := [.data, .pinned], laidTests := true, laidLooks := .later }
def FnExactReadTermCardSaid : Prop := Claim7.holds Tryz.pinned (.plain (OpenSpec.ofChange fnExactReadTermSpec)) fnExactReadTermCard

/-- THE TIED CARD OF 'laws.FnExactReadAll'. -/
def fnExactReadAllCard : Claim7 := { stood := { row := fnExactReadAllRow, standIns := [], harness := (true, "57bf8c4726c810a98bcc7ed0efc7204be07f88cf8261e1a35e1021f89eecf2e7"), looks := true }, kinds := [], alts := [], laidByText := true, laidKinds := [.data, .pinned], laidTests := true, laidLooks := .later }
def FnExactReadAllCardSaid : Prop := Claim7.holds Tryz.pinned (.plain (OpenSpec.ofChange fnExactReadAllSpec)) fnExactReadAllCard

/-- THE SECOND FORM's CARD OF 'laws.FnExactReadTerm'. -/
def fnExactReadTermUptoCard : Claim7 := { stood := { row := fnExactReadTermUptoRow, standIns := [], harness := (true, "57bf8c4726c810a98bcc7ed0efc7204be07f88cf8261e1a35e1021f89eecf2e7"), looks := true }, kinds := [], alts := [], laidByText := true, laidKinds := [.data, .pinned], laidTests := true, laidLooks := .later }
def FnExactReadTermUptoCardSaid : Prop := Claim7.holds Tryz.pinned (.plain (OpenSpec.upto fnExactReadTermSpec)) fnExactReadTermUptoCard

/-- THE SECOND FORM's CARD OF 'laws.FnExactReadAll'. -/
def fnExactReadAllUptoCard : Claim7 := { stood := { row := fnExactReadAllUptoRow, standIns := [], harness := (true, "57bf8c4726c810a98bcc7ed0efc7204be07f88cf8261e1a35e1021f89eecf2e7"), looks := true }, kinds := [], alts := [], laidByText := true, laidKinds := [.data, .pinned], laidTests := true, laidLooks := .later }
def FnExactReadAllUptoCardSaid : Prop := Claim7.holds Tryz.pinned (.plain (OpenSpec.upto fnExactReadAllSpec)) fnExactReadAllUptoCard
end Rows
end Go.Proofs.YtbkjcccbjnehbanGreatDoor

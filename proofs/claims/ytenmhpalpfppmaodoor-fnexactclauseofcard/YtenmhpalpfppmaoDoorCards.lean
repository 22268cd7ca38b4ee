/-
  DERIVED. GIVEN WITH THE SEED: THE CARDS: each row of YtenmhpalpfppmaoDoorRows.lean that lists a variable, with what it lists TIED to the program's text (the seventh form; the later family's looks); each row that meets fmt, with fmt's text TOLD by the authors' own Lean function (tested against real Go, not proved from fmt's source: count such statements apart). THE CARD IS WHAT COUNTS. Prove the row's statement (the work); the ties are given (YtenmhpalpfppmaoDoorTie.lean); close each card by the builder's one call (the guide's Derived/Test/ToyasCard.lean, 'card_holds'). Laid BY PROGRAM, IN A SANDBOX (cutbox-door.mjs). By AI agents, Wed Nov 11 2026. No macro, syntax, notation, axiom, sorry.
-/
import Derived.Test.YtenmhpalpfppmaoDoorRows
import GoSem.ClaimSeven
namespace Go.Proofs.YtenmhpalpfppmaoDoor
namespace Rows

/-- THE TIED CARD OF 'laws.FnExactAtomText'. -/
def fnExactAtomTextCard : Claim7 := { stood := { row := fnExactAtomTextRow, standIns := [], harness := (true, "b5ccbc658b222f20a88181d23b0d03bdd0f7d7c6c532be11c58b0c6effaef75e"), looks := true }, kinds := [], alts := [], laidByText := true, laidKinds := [.data, .pinned], laidTests := true, laidLooks := .later }
def FnExactAtomTextCardSaid : Prop := Claim7.holds Tryd.pinned (.plain (OpenSpec.ofChange fnExactAtomTextSpec)) fnExactAtomTextCard

/-- THE TIED CARD OF 'laws.FnExactPredOf'. -/
def fnExactPredOfCard : Claim7 := { stood := { row := fnExactPredOfRow, standIns := [], harness := (true, "b5ccbc658b222f20a88181d23b0d03bdd0f7d7c6c532be11c58b0c6effaef75e"), looks := true }, kinds := [], alts := [], laidByText := true, laidKinds := [.data, .data, .data], laidTests := true, laidLooks := .later }
def FnExactPredOfCardSaid : Prop := Claim7.holds Tryd.pinned (.plain (OpenSpec.ofChange fnExactPredOfSpec)) fnExactPredOfCard

/-- THE TIED CARD OF 'laws.FnExactClauseOf'. -/
def fnExactClauseOfCard : Claim7 := { stood := { row := fnExactClauseOfRow, standIns := [], harness := (true, "b5ccbc658b222f20a88181d23b0d03bdd0f7d7c6c532be11c58b0c6effaef75e"), looks := true }, kinds := [], alts := [], laidByText := true, laidKinds := [.data, .data, .data], laidTests := true, laidLooks := .later }
def FnExactClauseOfCardSaid : Prop := Claim7.holds Tryd.pinned (.plain (OpenSpec.ofChange fnExactClauseOfSpec)) fnExactClauseOfCard

/-- THE SECOND FORM's CARD OF 'laws.FnExactAtomText'. -/
def fnExactAtomTextUptoCard : Claim7 := { stood := { row := fnExactAtomTextUptoRow, standIns := [], harness := (true, "b5ccbc658b222f20a88181d23b0d03bdd0f7d7c6c532be11c58b0c6effaef75e"), looks := true }, kinds := [], alts := [], laidByText := true, laidKinds := [.data, .pinned], laidTests := true, laidLooks := .later }
def FnExactAtomTextUptoCardSaid : Prop := Claim7.holds Tryd.pinned (.plain (OpenSpec.upto fnExactAtomTextSpec)) fnExactAtomTextUptoCard

/-- THE SECOND FORM's CARD OF 'laws.FnExactPredOf'. -/
def fnExactPredOfUptoCard : Claim7 := { stood := { row := fnExactPredOfUptoRow, standIns := [], harness := (true, "b5ccbc658b222f20a88181d23b0d03bdd0f7d7c6c532be11c58b0c6effaef75e"), looks := true }, kinds := [], alts := [], laidByText := true, laidKinds := [.data, .data, .data], laidTests := true, laidLooks := .later }
def FnExactPredOfUptoCardSaid : Prop := Claim7.holds Tryd.pinned (.plain (OpenSpec.upto fnExactPredOfSpec)) fnExactPredOfUptoCard

/-- THE SECOND FORM's CARD OF 'laws.FnExactClauseOf'. -/
def fnExactClauseOfUptoCard : Claim7 := { stood := { row := fnExactClauseOfUptoRow, standIns := [], harness := (true, "b5ccbc658b222f20a88181d23b0d03bdd0f7d7c6c532be11c58b0c6effaef75e"), looks := true }, kinds := [], alts := [], laidByText := true, laidKinds := [.data, .data, .data], laidTests := true, laidLooks := .later }
def FnExactClauseOfUptoCardSaid : Prop := Claim7.holds Tryd.pinned (.plain (OpenSpec.upto fnExactClauseOfSpec)) fnExactClauseOfUptoCard
end Rows
end Go.Proofs.YtenmhpalpfppmaoDoor

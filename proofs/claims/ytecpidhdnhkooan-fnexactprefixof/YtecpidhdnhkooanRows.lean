/-
  No cell of these rows narrows 'for every input' (looked for: loops, veiled, ifaces, maps, wideKeys, modest, calm, conditions, laid).
  DERIVED. THE GIVEN ROWS OF THIS SEAT. 3 by the template 'for every input the law returns true; each argument reads behind the call as it read before'; 0 by the template 'total and deterministic' (their statements: YtecpidhdnhkooanTotals.lean).
  GIVEN WITH THE SEED: the statements are not yours to turn. If you find one false, say at which input.
  Laid BY PROGRAM, IN A SANDBOX (cutbox-rows.mjs): the forced cells as the released guide's own fill.sh prints them over the translation 2adf7cb93f897b25… (all of the seat's roots in one cut). By AI agents, Wed Nov 11 2026. No macro, syntax, notation, axiom, sorry.
-/
import Derived.Test.YtecpidhdnhkooanChecked
import GoSem.Claim
import GoSem.ClaimJoined
import GoSem.ClaimMapViews
import Derived.JoinedTies
import Derived.KernelRfl
namespace Go.Proofs.Ytecpidhdnhkooan
/- THE CELL 'sum', in the pinned program and in every row, IS THE sha256 OF THE DUMP (.gsa) THAT YtecpidhdnhkooanProg.lean LOADS. Nothing in Lean hashes anything: it is a label: what it is worth is what the hold of that sum in a sandbox is worth. -/
noncomputable def Try.pinned : Pinned := { name := "ytecpidhdnhkooan", sum := "2adf7cb93f897b254ff5c1234e2b486572116efd2381606c70c45e0b1c6b6169", checked := Try.checked }
namespace Rows
def none {H : Type} : Left H := { results := [], args := [] }

/-- 'laws.FnExactInfixOf': WHATEVER THE INPUT: true; the input reads as it did. -/
def fnExactInfixOfSpec : ChangeSpec := { name := "fnExactInfixOf", fn := fun _ => fun
  | [d] => { results := [.lit (.bool true)], args := [d] }
  | _ => none }
def fnExactInfixOfRow : OpenClaim := { program := "ytecpidhdnhkooan", sum := "2adf7cb93f897b254ff5c1234e2b486572116efd2381606c70c45e0b1c6b6169", func := "loop.example/g00469/laws.FnExactInfixOf", spec := "fnExactInfixOf", apart := false }
def FnExactInfixOfSaid : Prop := fnExactInfixOfRow.holds Try.pinned (OpenSpec.ofChange fnExactInfixOfSpec)

/-- ITS FALSE NEIGHBOUR: 'it returns false'. Refute it at one input. -/
def fnExactInfixOfWrong : ChangeSpec := { name := "fnExactInfixOf", fn := fun _ => fun
  | [d] => { results := [.lit (.bool false)], args := [d] }
  | _ => none }
def FnExactInfixOfWrongFalsely : Prop := fnExactInfixOfRow.holds Try.pinned (OpenSpec.ofChange fnExactInfixOfWrong)

/-- 'laws.FnExactPrefixOf': WHATEVER THE INPUT: true; the input reads as it did. -/
def fnExactPrefixOfSpec : ChangeSpec := { name := "fnExactPrefixOf", fn := fun _ => fun
  | [d] => { results := [.lit (.bool true)], args := [d] }
  | _ => none }
def fnExactPrefixOfRow : OpenClaim := { program := "ytecpidhdnhkooan", sum := "2adf7cb93f897b254ff5c1234e2b486572116efd2381606c70c45e0b1c6b6169", func := "loop.example/g00469/laws.FnExactPrefixOf", spec := "fnExactPrefixOf", apart := false }
def FnExactPrefixOfSaid : Prop := fnExactPrefixOfRow.holds Try.pinned (OpenSpec.ofChange fnExactPrefixOfSpec)

/-- ITS FALSE NEIGHBOUR: 'it returns false'. Refute it at one input. -/
def fnExactPrefixOfWrong : ChangeSpec := { name := "fnExactPrefixOf", fn := fun _ => fun
  | [d] => { results := [.lit (.bool false)], args := [d] }
  | _ => none }
def FnExactPrefixOfWrongFalsely : Prop := fnExactPrefixOfRow.holds Try.pinned (OpenSpec.ofChange fnExactPrefixOfWrong)

/-- 'laws.FnExactReadSigns': WHATEVER THE INPUT: true; the input reads as it did. -/
def fnExactReadSignsSpec : ChangeSpec := { name := "fnExactReadSigns", fn := fun _ => fun
  | [d1, d2] => { results := [.lit (.bool true)], args := [d1, d2] }
  | _ => none }
def fnExactReadSignsRow : OpenClaim := { program := "ytecpidhdnhkooan", sum := "2adf7cb93f897b254ff5c1234e2b486572116efd2381606c70c45e0b1c6b6169", func := "loop.example/g00469/laws.FnExactReadSigns", spec := "fnExactReadSigns", unfollowed := true, recurses := true, apart := false }
def FnExactReadSignsSaid : Prop := fnExactReadSignsRow.holds Try.pinned (OpenSpec.ofChange fnExactReadSignsSpec)

/-- ITS FALSE NEIGHBOUR: 'it returns false'. Refute it at one input. -/
def fnExactReadSignsWrong : ChangeSpec := { name := "fnExactReadSigns", fn := fun _ => fun
  | [d1, d2] => { results := [.lit (.bool false)], args := [d1, d2] }
  | _ => none }
def FnExactReadSignsWrongFalsely : Prop := fnExactReadSignsRow.holds Try.pinned (OpenSpec.ofChange fnExactReadSignsWrong)

/- THE SECOND FORM. 'bulk': how many values and letters a reading holds, each counted each time it is reached (what is shared counts as often as it is met; a slice's spare places count too). A statement '..UptoSaid' is the law's where the arguments, and the package variables that the reading takes, are together of bulk at most 1048576: NARROWER than '..Said'. Prove '..Said' where nothing that the law and all that it calls make is longer than what came in: it says more and counts as full. Else prove '..UptoSaid'. A law counts once. -/
mutual
def uptoBulk {H : Type} : DataW H → Nat
  | .lit (.string bytes) => bytes.length + 1
  | .lit _ => 1
  | .nil => 1
  | .ptr d => uptoBulk d + 1
  | .slice elems spare => uptoBulkAll elems + uptoBulkAll spare + 1
  | .agg parts => uptoBulkAll parts + 1
  | .iface _ d => uptoBulk d + 1
  | .map entries => uptoBulkEntries entries + 1
  | .held _ => 1
def uptoBulkAll {H : Type} : List (DataW H) → Nat
  | [] => 0
  | d :: r => uptoBulk d + uptoBulkAll r
def uptoBulkEntries {H : Type} : List (Lit × DataW H) → Nat
  | [] => 0
  | x :: r => uptoBulkEntry x + uptoBulkEntries r
def uptoBulkEntry {H : Type} : Lit × DataW H → Nat
  | (.string bytes, d) => bytes.length + uptoBulk d + 1
  | (_, d) => uptoBulk d + 1
 end
def uptoSmall : (H : Type) → List (DataW H) → Bool := fun _ ds => decide (uptoBulkAll ds ≤ 1048576)
def OpenSpec.upto (s : _root_.Go.ChangeSpec) : _root_.Go.OpenSpec := { _root_.Go.OpenSpec.ofChange s with cond := some uptoSmall }

/-- 'laws.FnExactInfixOf', WHERE WHAT IT READS IS OF BULK AT MOST 1048576: true; the input reads as it did. -/
def fnExactInfixOfUptoRow : OpenClaim := { program := "ytecpidhdnhkooan", sum := "2adf7cb93f897b254ff5c1234e2b486572116efd2381606c70c45e0b1c6b6169", func := "loop.example/g00469/laws.FnExactInfixOf", spec := "fnExactInfixOf", apart := false, narrowed := true }
def FnExactInfixOfUptoSaid : Prop := fnExactInfixOfUptoRow.holds Try.pinned (OpenSpec.upto fnExactInfixOfSpec)

/-- 'laws.FnExactPrefixOf', WHERE WHAT IT READS IS OF BULK AT MOST 1048576: true; the input reads as it did. -/
def fnExactPrefixOfUptoRow : OpenClaim := { program := "ytecpidhdnhkooan", sum := "2adf7cb93f897b254ff5c1234e2b486572116efd2381606c70c45e0b1c6b6169", func := "loop.example/g00469/laws.FnExactPrefixOf", spec := "fnExactPrefixOf", apart := false, narrowed := true }
def FnExactPrefixOfUptoSaid : Prop := fnExactPrefixOfUptoRow.holds Try.pinned (OpenSpec.upto fnExactPrefixOfSpec)

/-- 'laws.FnExactReadSigns', WHERE WHAT IT READS IS OF BULK AT MOST 1048576: true; the input reads as it did. -/
def fnExactReadSignsUptoRow : OpenClaim := { program := "ytecpidhdnhkooan", sum := "2adf7cb93f897b254ff5c1234e2b486572116efd2381606c70c45e0b1c6b6169", func := "loop.example/g00469/laws.FnExactReadSigns", spec := "fnExactReadSigns", unfollowed := true, recurses := true, apart := false, narrowed := true }
def FnExactReadSignsUptoSaid : Prop := fnExactReadSignsUptoRow.holds Try.pinned (OpenSpec.upto fnExactReadSignsSpec)

end Rows
end Go.Proofs.Ytecpidhdnhkooan

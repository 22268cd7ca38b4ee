/-
  NARROWER THAN 'FOR EVERY INPUT', by the rows' own cells (each row's printed sentence says how): FnExactClauseTerm: loops.
  DERIVED. THE GIVEN ROWS OF THIS SEAT. 2 by the template 'for every input the law returns true; each argument reads behind the call as it read before'; 0 by the template 'total and deterministic' (their statements: YtenmhpalpfppmaoTotals.lean).
  GIVEN WITH THE SEED: the statements are not yours to turn. If you find one false, say at which input.
  Laid BY PROGRAM, IN A SANDBOX (cutbox-rows.mjs): the forced cells as the released guide's own fill.sh prints them over the translation 723dad9426d886ec… (all of the seat's roots in one cut). By AI agents, Wed Nov 11 2026. No macro, syntax, notation, axiom, sorry.
-/
import Derived.Test.YtenmhpalpfppmaoChecked
import GoSem.Claim
import GoSem.ClaimJoined
import GoSem.ClaimMapViews
import Derived.JoinedTies
import Derived.KernelRfl
namespace Go.Proofs.Ytenmhpalpfppmao
/- THE CELL 'sum', in the pinned program and in every row, IS THE sha256 OF THE DUMP (.gsa) THAT YtenmhpalpfppmaoProg.lean LOADS. Nothing in Lean hashes anything: it is a label: what it is worth is what the hold of that sum in a sandbox is worth. -/
noncomputable def Try.pinned : Pinned := { name := "ytenmhpalpfppmao", sum := "723dad9426d886ec2bb62efce7377454ea5b5dcb9ba5967282435d4182062582", checked := Try.checked }
namespace Rows
def none {H : Type} : Left H := { results := [], args := [] }

/-- 'laws.FnExactControl': WHATEVER THE INPUT: true; the input reads as it did. -/
def fnExactControlSpec : ChangeSpec := { name := "fnExactControl", fn := fun _ => fun
  | [d] => { results := [.lit (.bool true)], args := [d] }
  | _ => none }
def fnExactControlRow : OpenClaim := { program := "ytenmhpalpfppmao", sum := "723dad9426d886ec2bb62efce7377454ea5b5dcb9ba5967282435d4182062582", func := "loop.example/g00469/laws.FnExactControl", spec := "fnExactControl", plainKeys := false, apart := false }
def FnExactControlSaid : Prop := fnExactControlRow.holds Try.pinned (OpenSpec.ofChange fnExactControlSpec)

/-- ITS FALSE NEIGHBOUR: 'it returns false'. Refute it at one input. -/
def fnExactControlWrong : ChangeSpec := { name := "fnExactControl", fn := fun _ => fun
  | [d] => { results := [.lit (.bool false)], args := [d] }
  | _ => none }
def FnExactControlWrongFalsely : Prop := fnExactControlRow.holds Try.pinned (OpenSpec.ofChange fnExactControlWrong)

/-- 'laws.FnExactClauseTerm': WHATEVER THE INPUT: true; the input reads as it did. -/
def fnExactClauseTermSpec : ChangeSpec := { name := "fnExactClauseTerm", fn := fun _ => fun
  | [d] => { results := [.lit (.bool true)], args := [d] }
  | _ => none }
def fnExactClauseTermRow : OpenClaim := { program := "ytenmhpalpfppmao", sum := "723dad9426d886ec2bb62efce7377454ea5b5dcb9ba5967282435d4182062582", func := "loop.example/g00469/laws.FnExactClauseTerm", spec := "fnExactClauseTerm", unfollowed := true, recurses := true, loops := true, plainKeys := false, apart := false }
def FnExactClauseTermSaid : Prop := fnExactClauseTermRow.holds Try.pinned (OpenSpec.ofChange fnExactClauseTermSpec)

/-- ITS FALSE NEIGHBOUR: 'it returns false'. Refute it at one input. -/
def fnExactClauseTermWrong : ChangeSpec := { name := "fnExactClauseTerm", fn := fun _ => fun
  | [d] => { results := [.lit (.bool false)], args := [d] }
  | _ => none }
def FnExactClauseTermWrongFalsely : Prop := fnExactClauseTermRow.holds Try.pinned (OpenSpec.ofChange fnExactClauseTermWrong)

/- THE SECOND FORM. 'bulk': how many values and letters a reading holds, each counted each time it is reached (what is shared counts as often as it is met; a slice's spare places count too). A statement '..UptoSaid' is the law's where the arguments, and the package variables that the reading takes, are together of bulk at most 1048576: NARROWER than '..Said'. Prove '..Said' where nothing that the law and all that it calls make is longer than what came in: it says more and counts as full. Else prove '..UptoSaid'. A law counts once. -/
mutual
def uptoBulk {H : Type} : DataW H → Nat
  | .lit (.string bytes) => bytes.length + 1
  | .lit _ => 1
  | .nil => 1
  | .ptr d => uptoBulk d + 1
  | .slice elems spare => uptoBulkAll elems + uptoBulkAll spare + 1
  | .agg parts => uptoBulkAll parts + 1
  | .iface _ d => uptoBulk d + 1
  | .map entries => uptoBulkEntries entries + 1
  | .held _ => 1
def uptoBulkAll {H : Type} : List (DataW H) → Nat
  | [] => 0
  | d :: r => uptoBulk d + uptoBulkAll r
def uptoBulkEntries {H : Type} : List (Lit × DataW H) → Nat
  | [] => 0
  | x :: r => uptoBulkEntry x + uptoBulkEntries r
def uptoBulkEntry {H : Type} : Lit × DataW H → Nat
  | (.string bytes, d) => bytes.length + uptoBulk d + 1
  | (_, d) => uptoBulk d + 1
 end
def uptoSmall : (H : Type) → List (DataW H) → Bool := fun _ ds => decide (uptoBulkAll ds ≤ 1048576)
def OpenSpec.upto (s : _root_.Go.ChangeSpec) : _root_.Go.OpenSpec := { _root_.Go.OpenSpec.ofChange s with cond := some uptoSmall }

/-- 'laws.FnExactControl', WHERE WHAT IT READS IS OF BULK AT MOST 1048576: true; the input reads as it did. -/
def fnExactControlUptoRow : OpenClaim := { program := "ytenmhpalpfppmao", sum := "723dad9426d886ec2bb62efce7377454ea5b5dcb9ba5967282435d4182062582", func := "loop.example/g00469/laws.FnExactControl", spec := "fnExactControl", plainKeys := false, apart := false, narrowed := true }
def FnExactControlUptoSaid : Prop := fnExactControlUptoRow.holds Try.pinned (OpenSpec.upto fnExactControlSpec)

/-- 'laws.FnExactClauseTerm', WHERE WHAT IT READS IS OF BULK AT MOST 1048576: true; the input reads as it did. -/
def fnExactClauseTermUptoRow : OpenClaim := { program := "ytenmhpalpfppmao", sum := "723dad9426d886ec2bb62efce7377454ea5b5dcb9ba5967282435d4182062582", func := "loop.example/g00469/laws.FnExactClauseTerm", spec := "fnExactClauseTerm", unfollowed := true, recurses := true, loops := true, plainKeys := false, apart := false, narrowed := true }
def FnExactClauseTermUptoSaid : Prop := fnExactClauseTermUptoRow.holds Try.pinned (OpenSpec.upto fnExactClauseTermSpec)

end Rows
end Go.Proofs.Ytenmhpalpfppmao

/-
  NARROWER THAN 'FOR EVERY INPUT', by the rows' own cells (each row's printed sentence says how): FnExactShifted: loops · FnExactWalked: loops · FnExactFilled: loops · FnExactUnify: loops.
  DERIVED. THE GIVEN ROWS OF THIS SEAT. 6 by the template 'for every input the law returns true; each argument reads behind the call as it read before'; 0 by the template 'total and deterministic' (their statements: YtcmnjpoapcoghamTotals.lean).
  GIVEN WITH THE SEED: the statements are not yours to turn. If you find one false, say at which input.
  Laid BY PROGRAM, IN A SANDBOX (cutbox-rows.mjs): the forced cells as the released guide's own fill.sh prints them over the translation bac7920e49bbc7b9… (all of the seat's roots in one cut). By AI agents, Wed Nov 11 2026. No macro, syntax, notation, axiom, sorry.
-/
import Derived.Test.YtcmnjpoapcoghamChecked
import GoSem.Claim
import GoSem.ClaimJoined
import GoSem.ClaimMapViews
import Derived.JoinedTies
import Derived.KernelRfl
namespace Go.Proofs.Ytcmnjpoapcogham
/- THE CELL 'sum', in the pinned program and in every row, IS THE sha256 OF THE DUMP (.gsa) THAT YtcmnjpoapcoghamProg.lean LOADS. Nothing in Lean hashes anything: it is a label: what it is worth is what the hold of that sum in a sandbox is worth. -/
noncomputable def Try.pinned : Pinned := { name := "ytcmnjpoapcogham", sum := "bac7920e49bbc7b9d1b9d922209478d9befbef89e612d647341595b4b4f17ef0", checked := Try.checked }
namespace Rows
def none {H : Type} : Left H := { results := [], args := [] }

/-- 'laws.FnExactShifted': WHATEVER THE INPUT: true; the input reads as it did. -/
def fnExactShiftedSpec : ChangeSpec := { name := "fnExactShifted", fn := fun _ => fun
  | [d1, d2] => { results := [.lit (.bool true)], args := [d1, d2] }
  | _ => none }
def fnExactShiftedRow : OpenClaim := { program := "ytcmnjpoapcogham", sum := "bac7920e49bbc7b9d1b9d922209478d9befbef89e612d647341595b4b4f17ef0", func := "loop.example/g00469/laws.FnExactShifted", spec := "fnExactShifted", unfollowed := true, recurses := true, loops := true, plainKeys := false, apart := false }
def FnExactShiftedSaid : Prop := fnExactShiftedRow.holds Try.pinned (OpenSpec.ofChange fnExactShiftedSpec)

/-- ITS FALSE NEIGHBOUR: 'it returns false'. Refute it at one input. -/
def fnExactShiftedWrong : ChangeSpec := { name := "fnExactShifted", fn := fun _ => fun
  | [d1, d2] => { results := [.lit (.bool false)], args := [d1, d2] }
  | _ => none }
def FnExactShiftedWrongFalsely : Prop := fnExactShiftedRow.holds Try.pinned (OpenSpec.ofChange fnExactShiftedWrong)

/-- 'laws.FnExactBindsNew': WHATEVER THE INPUT: true; the input reads as it did. -/
def fnExactBindsNewSpec : ChangeSpec := { name := "fnExactBindsNew", fn := fun _ => fun
  | [d] => { results := [.lit (.bool true)], args := [d] }
  | _ => none }
def fnExactBindsNewRow : OpenClaim := { program := "ytcmnjpoapcogham", sum := "bac7920e49bbc7b9d1b9d922209478d9befbef89e612d647341595b4b4f17ef0", func := "loop.example/g00469/laws.FnExactBindsNew", spec := "fnExactBindsNew", recurses := true, plainKeys := false, apart := false }
def FnExactBindsNewSaid : Prop := fnExactBindsNewRow.holds Try.pinned (OpenSpec.ofChange fnExactBindsNewSpec)

/-- ITS FALSE NEIGHBOUR: 'it returns false'. Refute it at one input. -/
def fnExactBindsNewWrong : ChangeSpec := { name := "fnExactBindsNew", fn := fun _ => fun
  | [d] => { results := [.lit (.bool false)], args := [d] }
  | _ => none }
def FnExactBindsNewWrongFalsely : Prop := fnExactBindsNewRow.holds Try.pinned (OpenSpec.ofChange fnExactBindsNewWrong)

/-- 'laws.FnExactWalked': WHATEVER THE INPUT: true; the input reads as it did. -/
def fnExactWalkedSpec : ChangeSpec := { name := "fnExactWalked", fn := fun _ => fun
  | [d1, d2] => { results := [.lit (.bool true)], args := [d1, d2] }
  | _ => none }
def fnExactWalkedRow : OpenClaim := { program := "ytcmnjpoapcogham", sum := "bac7920e49bbc7b9d1b9d922209478d9befbef89e612d647341595b4b4f17ef0", func := "loop.example/g00469/laws.FnExactWalked", spec := "fnExactWalked", unfollowed := true, recurses := true, loops := true, plainKeys := false, apart := false }
def FnExactWalkedSaid : Prop := fnExactWalkedRow.holds Try.pinned (OpenSpec.ofChange fnExactWalkedSpec)

/-- ITS FALSE NEIGHBOUR: 'it returns false'. Refute it at one input. -/
def fnExactWalkedWrong : ChangeSpec := { name := "fnExactWalked", fn := fun _ => fun
  | [d1, d2] => { results := [.lit (.bool false)], args := [d1, d2] }
  | _ => none }
def FnExactWalkedWrongFalsely : Prop := fnExactWalkedRow.holds Try.pinned (OpenSpec.ofChange fnExactWalkedWrong)

/-- 'laws.FnExactFilled': WHATEVER THE INPUT: true; the input reads as it did. -/
def fnExactFilledSpec : ChangeSpec := { name := "fnExactFilled", fn := fun _ => fun
  | [d1, d2] => { results := [.lit (.bool true)], args := [d1, d2] }
  | _ => none }
def fnExactFilledRow : OpenClaim := { program := "ytcmnjpoapcogham", sum := "bac7920e49bbc7b9d1b9d922209478d9befbef89e612d647341595b4b4f17ef0", func := "loop.example/g00469/laws.FnExactFilled", spec := "fnExactFilled", unfollowed := true, recurses := true, loops := true, plainKeys := false, apart := false }
def FnExactFilledSaid : Prop := fnExactFilledRow.holds Try.pinned (OpenSpec.ofChange fnExactFilledSpec)

/-- ITS FALSE NEIGHBOUR: 'it returns false'. Refute it at one input. -/
def fnExactFilledWrong : ChangeSpec := { name := "fnExactFilled", fn := fun _ => fun
  | [d1, d2] => { results := [.lit (.bool false)], args := [d1, d2] }
  | _ => none }
def FnExactFilledWrongFalsely : Prop := fnExactFilledRow.holds Try.pinned (OpenSpec.ofChange fnExactFilledWrong)

/-- 'laws.FnExactUnify': WHATEVER THE INPUT: true; the input reads as it did. -/
def fnExactUnifySpec : ChangeSpec := { name := "fnExactUnify", fn := fun _ => fun
  | [d1, d2, d3] => { results := [.lit (.bool true)], args := [d1, d2, d3] }
  | _ => none }
def fnExactUnifyRow : OpenClaim := { program := "ytcmnjpoapcogham", sum := "bac7920e49bbc7b9d1b9d922209478d9befbef89e612d647341595b4b4f17ef0", func := "loop.example/g00469/laws.FnExactUnify", spec := "fnExactUnify", unfollowed := true, recurses := true, loops := true, plainKeys := false, apart := false }
def FnExactUnifySaid : Prop := fnExactUnifyRow.holds Try.pinned (OpenSpec.ofChange fnExactUnifySpec)

/-- ITS FALSE NEIGHBOUR: 'it returns false'. Refute it at one input. -/
def fnExactUnifyWrong : ChangeSpec := { name := "fnExactUnify", fn := fun _ => fun
  | [d1, d2, d3] => { results := [.lit (.bool false)], args := [d1, d2, d3] }
  | _ => none }
def FnExactUnifyWrongFalsely : Prop := fnExactUnifyRow.holds Try.pinned (OpenSpec.ofChange fnExactUnifyWrong)

/-- 'laws.FnExactSymbolByte': WHATEVER THE INPUT: true; the input reads as it did. -/
def fnExactSymbolByteSpec : ChangeSpec := { name := "fnExactSymbolByte", fn := fun _ => fun
  | [d] => { results := [.lit (.bool true)], args := [d] }
  | _ => none }
def fnExactSymbolByteRow : OpenClaim := { program := "ytcmnjpoapcogham", sum := "bac7920e49bbc7b9d1b9d922209478d9befbef89e612d647341595b4b4f17ef0", func := "loop.example/g00469/laws.FnExactSymbolByte", spec := "fnExactSymbolByte", inPlace := ["internal/bytealg.IndexByteString"], plainKeys := false, apart := false }
def FnExactSymbolByteSaid : Prop := fnExactSymbolByteRow.holds Try.pinned (OpenSpec.ofChange fnExactSymbolByteSpec)

/-- ITS FALSE NEIGHBOUR: 'it returns false'. Refute it at one input. -/
def fnExactSymbolByteWrong : ChangeSpec := { name := "fnExactSymbolByte", fn := fun _ => fun
  | [d] => { results := [.lit (.bool false)], args := [d] }
  | _ => none }
def FnExactSymbolByteWrongFalsely : Prop := fnExactSymbolByteRow.holds Try.pinned (OpenSpec.ofChange fnExactSymbolByteWrong)

/- THE SECOND FORM. 'bulk': how many values and letters a reading holds, each counted each time it is reached (what is shared counts as often as it is met; a slice's spare places count too). A statement '..UptoSaid' is the law's where the arguments, and the package variables that the reading takes, are together of bulk at most 1048576: NARROWER than '..Said'. Prove '..Said' where nothing that the law and all that it calls make is longer than what came in: it says more and counts as full. Else prove '..UptoSaid'. A law counts once. -/
mutual
def uptoBulk {H : Type} : DataW H → Nat
  | .lit (.string bytes) => bytes.length + 1
  | .lit _ => 1
  | .nil => 1
  | .ptr d => uptoBulk d + 1
  | .slice elems spare => uptoBulkAll elems + uptoBulkAll spare + 1
  | .agg parts => uptoBulkAll parts + 1
  | .iface _ d => uptoBulk d + 1
  | .map entries => uptoBulkEntries entries + 1
  | .held _ => 1
def uptoBulkAll {H : Type} : List (DataW H) → Nat
  | [] => 0
  | d :: r => uptoBulk d + uptoBulkAll r
def uptoBulkEntries {H : Type} : List (Lit × DataW H) → Nat
  | [] => 0
  | x :: r => uptoBulkEntry x + uptoBulkEntries r
def uptoBulkEntry {H : Type} : Lit × DataW H → Nat
  | (.string bytes, d) => bytes.length + uptoBulk d + 1
  | (_, d) => uptoBulk d + 1
 end
def uptoSmall : (H : Type) → List (DataW H) → Bool := fun _ ds => decide (uptoBulkAll ds ≤ 1048576)
def OpenSpec.upto (s : _root_.Go.ChangeSpec) : _root_.Go.OpenSpec := { _root_.Go.OpenSpec.ofChange s with cond := some uptoSmall }

/-- 'laws.FnExactShifted', WHERE WHAT IT READS IS OF BULK AT MOST 1048576: true; the input reads as it did. -/
def fnExactShiftedUptoRow : OpenClaim := { program := "ytcmnjpoapcogham", sum := "bac7920e49bbc7b9d1b9d922209478d9befbef89e612d647341595b4b4f17ef0", func := "loop.example/g00469/laws.FnExactShifted", spec := "fnExactShifted", unfollowed := true, recurses := true, loops := true, plainKeys := false, apart := false, narrowed := true }
def FnExactShiftedUptoSaid : Prop := fnExactShiftedUptoRow.holds Try.pinned (OpenSpec.upto fnExactShiftedSpec)

/-- 'laws.FnExactBindsNew', WHERE WHAT IT READS IS OF BULK AT MOST 1048576: true; the input reads as it did. -/
def fnExactBindsNewUptoRow : OpenClaim := { program := "ytcmnjpoapcogham", sum := "bac7920e49bbc7b9d1b9d922209478d9befbef89e612d647341595b4b4f17ef0", func := "loop.example/g00469/laws.FnExactBindsNew", spec := "fnExactBindsNew", recurses := true, plainKeys := false, apart := false, narrowed := true }
def FnExactBindsNewUptoSaid : Prop := fnExactBindsNewUptoRow.holds Try.pinned (OpenSpec.upto fnExactBindsNewSpec)

/-- 'laws.FnExactWalked', WHERE WHAT IT READS IS OF BULK AT MOST 1048576: true; the input reads as it did. -/
def fnExactWalkedUptoRow : OpenClaim := { program := "ytcmnjpoapcogham", sum := "bac7920e49bbc7b9d1b9d922209478d9befbef89e612d647341595b4b4f17ef0", func := "loop.example/g00469/laws.FnExactWalked", spec := "fnExactWalked", unfollowed := true, recurses := true, loops := true, plainKeys := false, apart := false, narrowed := true }
def FnExactWalkedUptoSaid : Prop := fnExactWalkedUptoRow.holds Try.pinned (OpenSpec.upto fnExactWalkedSpec)

/-- 'laws.FnExactFilled', WHERE WHAT IT READS IS OF BULK AT MOST 1048576: true; the input reads as it did. -/
def fnExactFilledUptoRow : OpenClaim := { program := "ytcmnjpoapcogham", sum := "bac7920e49bbc7b9d1b9d922209478d9befbef89e612d647341595b4b4f17ef0", func := "loop.example/g00469/laws.FnExactFilled", spec := "fnExactFilled", unfollowed := true, recurses := true, loops := true, plainKeys := false, apart := false, narrowed := true }
def FnExactFilledUptoSaid : Prop := fnExactFilledUptoRow.holds Try.pinned (OpenSpec.upto fnExactFilledSpec)

/-- 'laws.FnExactUnify', WHERE WHAT IT READS IS OF BULK AT MOST 1048576: true; the input reads as it did. -/
def fnExactUnifyUptoRow : OpenClaim := { program := "ytcmnjpoapcogham", sum := "bac7920e49bbc7b9d1b9d922209478d9befbef89e612d647341595b4b4f17ef0", func := "loop.example/g00469/laws.FnExactUnify", spec := "fnExactUnify", unfollowed := true, recurses := true, loops := true, plainKeys := false, apart := false, narrowed := true }
def FnExactUnifyUptoSaid : Prop := fnExactUnifyUptoRow.holds Try.pinned (OpenSpec.upto fnExactUnifySpec)

/-- 'laws.FnExactSymbolByte', WHERE WHAT IT READS IS OF BULK AT MOST 1048576: true; the input reads as it did. -/
def fnExactSymbolByteUptoRow : OpenClaim := { program := "ytcmnjpoapcogham", sum := "bac7920e49bbc7b9d1b9d922209478d9befbef89e612d647341595b4b4f17ef0", func := "loop.example/g00469/laws.FnExactSymbolByte", spec := "fnExactSymbolByte", inPlace := ["internal/bytealg.IndexByteString"], plainKeys := false, apart := false, narrowed := true }
def FnExactSymbolByteUptoSaid : Prop := fnExactSymbolByteUptoRow.holds Try.pinned (OpenSpec.upto fnExactSymbolByteSpec)

end Rows
end Go.Proofs.Ytcmnjpoapcogham

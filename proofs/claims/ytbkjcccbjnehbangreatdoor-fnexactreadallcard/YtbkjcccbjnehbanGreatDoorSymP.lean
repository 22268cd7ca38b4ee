/- Which bytes make a sign of their own. -/
import Derived.Test.YtbkjcccbjnehbanGreatDoorRows
import Derived.Lib.IndexAny
import Derived.ProofKit
namespace Go.Proofs.YtbkjcccbjnehbanGreatDoor

def symL : List UInt8 := [43, 45, 42, 47, 92, 94, 60, 62, 61, 126, 58, 46, 63, 64, 35, 38, 36]
def isSym (c : UInt8) : Bool := symL.contains c
abbrev symS : ByteArray := { data := #[43, 45, 42, 47, 92, 94, 60, 62, 61, 126, 58, 46, 63, 64, 35, 38, 36] }
theorem isSym_index (c : UInt8) : decide (0 ≤ Lib.indexByte symS.data.toList c) = isSym c := (Lib.contains_iff_indexByte _ _).symm
theorem u8_cast (c : UInt8) : ((c.toNat : Int)).toNat.toUInt8 = c := by simp
theorem u8_of {a : Int} (h : (Lit.int .u8 a).wf = true) : ∃ c : UInt8, a = (c.toNat : Int) := by
  have : 0 ≤ a ∧ a ≤ 255 := by
    have h2 : IntKind.u8.min ≤ a ∧ a ≤ IntKind.u8.max := by simpa [Lit.wf] using h
    exact h2
  refine ⟨⟨⟨a.toNat, by omega⟩⟩, ?_⟩
  show a = ((a.toNat : Nat) : Int)
  omega
end Go.Proofs.YtbkjcccbjnehbanGreatDoor

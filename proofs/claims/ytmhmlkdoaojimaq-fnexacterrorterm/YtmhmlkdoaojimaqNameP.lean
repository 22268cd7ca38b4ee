/- Which names are right. Plain. -/
import Derived.WalkKit
import Derived.WalkSpells
import Derived.ProofKit
namespace Go.Proofs.Ytmhmlkdoaojimaq
open Go.RowKit

def charOk (c : UInt8) : Bool := !(decide (c.toNat < 33) || decide (126 < c.toNat) || decide (c.toNat = 39) || decide (c.toNat = 34))
def nameOk (s : ByteArray) : Bool := s.data.toList.all charOk && decide (1 ≤ s.size ∧ s.size ≤ 20)

theorem take_at (s : ByteArray) (k : Nat) (h : k < s.size) : s.data.toList.take (k + 1) = s.data.toList.take k ++ [s[k]] := by
  rw [List.take_succ_eq_append_getElem (by simpa using h)]; rfl
theorem mem_s (s : ByteArray) (k : Nat) (h : k < s.size) : s[k] ∈ s.data.toList := by
  show s.data[k] ∈ s.data.toList
  simp

end Go.Proofs.Ytmhmlkdoaojimaq

/- A row of bytes that the call makes with no elements and some room: what it owns. -/
import Derived.Test.YtdabglemkpokpaaDoorVarA0
import Derived.Laws.MakeOwn
namespace Go.Proofs.YtdabglemkpokpaaDoor
open Go.RowKit

theorem make_bytes (n : Int) (h0 : 0 ≤ n) (h1 : n ≤ 1048576) : ∃ M : Array Value, M.size = n.toNat ∧
    (∀ W : World, (Instr.makeSlice 22 (.int .i64 0) (.int .i64 n)).run Tryd.prog W = .ok (.slice (some ⟨W.heap.size, 0, none⟩) 0 n.toNat) (W.alloc (.cells M 5))) ∧
    ∀ (W : World) (B : Nat), B ≤ W.heap.size → (W.alloc (.cells M 5)).ownsRow B 5 1 (.slice (some ⟨W.heap.size, 0, none⟩) 0 n.toNat) 0 (bytesV []) := by
  obtain ⟨i0, hi, hz0, hz1, hz2⟩ := info_parts info5
  refine ⟨madeCells (Value.int .u8 0).cells (n.toNat * i0.size), ?_, ?_, ?_⟩
  · rw [size_madeCells, hz1]; simp
  · intro W
    have h := run_make (P := Tryd.prog) W 22 5 i0 (.int .u8 0) Tryd.underlying22 hi hz0 .i64 .i64 0 n (by omega) (by omega) (by rw [hz2]; omega) (by omega)
    simpa using h
  · intro W B hB
    refine ⟨rfl, Or.inr ⟨W.heap.size, n.toNat, madeCells (Value.int .u8 0).cells (n.toNat * i0.size), rfl, hB, ?_, Nat.zero_le _, by unfold maxLen; omega, by rw [size_madeCells, hz1], by simp [bytesV]⟩⟩
    show (W.heap.push _)[_]? = _
    simp
end Go.Proofs.YtdabglemkpokpaaDoor

/- laws.toStringS, laws.toDb. -/
import Derived.Test.YtmhmlkdoaojimapDoorMrg9
namespace Go.Proofs.YtmhmlkdoaojimapDoor
open Go.RowKit

theorem infoSt : (Tryd.prog.info? 9).map (fun i => (i.zero, i.size, i.bytes)) = some (some (.string ⟨#[]⟩), 1, 16) := by kernel_rfl

theorem make_strs (n : Nat) (h1 : n ≤ 1048576) : ∃ M : Array Value, M.size = n ∧
    (∀ W : World, (Instr.makeSlice 23 (.int .i64 (n : Int)) (.int .i64 (n : Int))).run Tryd.prog W = .ok (.slice (some ⟨W.heap.size, 0, none⟩) n n) (W.alloc (.cells M 9))) := by
  obtain ⟨i0, hi, hz0, hz1, hz2⟩ := info_parts infoSt
  refine ⟨madeCells (Value.string ⟨#[]⟩).cells (n * i0.size), ?_, ?_⟩
  · rw [size_madeCells, hz1, Nat.mul_one]
  · intro W
    have h := run_make (P := Tryd.prog) W 23 9 i0 _ Tryd.underlying23 hi hz0 .i64 .i64 n n (by omega) (by omega) (by rw [hz2]; omega) (by omega)
    simpa using h

set_option maxRecDepth 20000 in
theorem to_strs (xs : List ByteArray) (w : World) (sl : Value) (hlen : xs.length ≤ 1048576) (h : SsIn w xs sl) :
    Calls Tryd.prog 31 #[sl] w fun e w' => ∃ sl, e = .returned sl ∧ sl = .slice (some ⟨w.heap.size, 0, none⟩) xs.length xs.length ∧ w'.ownsRow 0 9 1 sl xs.length (xs.map Value.string) ∧ Below w.heap.size w w' := by
  obtain ⟨ao, cap, rfl, hcap, hmax, h⟩ := h
  clear hcap hmax
  obtain ⟨M, hM, hmk⟩ := make_strs xs.length (by omega)
  go_enter Tryd.func31, Tryd.ntmps31
  go_wp2
  clear hmk
  go_loopw [4] (fun vi wr => ∃ (j : Nat) (cur : Array Value), j ≤ xs.length ∧ vi = .int .i64 (j : Int) ∧ Hid (Below w.heap.size w wr) ∧ wr.heap[w.heap.size]? = some (.cells cur 9 (0, 0)) ∧ cur.size = xs.length ∧
      Hid (cur.toList.take j = (xs.take j).map Value.string)) (fun i _ => xs.length - (intOf i).toNat)
  case atStart =>
    exact ⟨0, M, by omega, rfl, (Below.refl _ _).alloc (Nat.le_refl _) _, by rw [heap_alloc_new], hM, by show _ = _; simp⟩
  case round =>
    obtain ⟨j, cur, hj, rfl, HB, hblk, hcs, HO⟩ := hrel
    by_cases hlt : j < xs.length
    · obtain ⟨b, off, rfl, hin⟩ := h (by intro e; subst e; simp at hlt)
      obtain ⟨hc, _⟩ := hin j hlt
      have hc' := cell_keep hc HB.out
      have HTK : Hid (xs.take (j + 1) = xs.take j ++ [xs[j]]) := List.take_succ_eq_append_getElem hlt
      have x0 := blk_cell (i := j) hblk (by omega)
      have z0 := blk_frozen hblk j
      have HG : Hid _ := hblk
      have hbb : b < w.heap.size := cell_blk hc
      clear hin h hc hblk
      generalize xs[j] = xj at *
      go_wp2
      go_roundw
      case rel =>
        refine ⟨j + 1, _, by omega, by go_num, below_set HB.out (Nat.le_refl _) _, blk_set HG.out _, by simpa using hcs, ?_⟩
        show _ = _
        rw [HTK.out, Array.toList_setIfInBounds, take_set1 (by simp; omega), HO.out]
        simp
      case measure => simp [intOf]; omega
    · obtain rfl : j = xs.length := by omega
      go_wp2
      go_ret
      have ho := HO.out
      rw [List.take_of_length_le (Nat.le_refl _)] at ho
      exact ⟨_, rfl, rfl, ⟨by simp, Or.inr ⟨w.heap.size, xs.length, cur, rfl, Nat.zero_le _, hblk, Nat.le_refl _, by unfold maxLen; omega, by simpa using hcs, by rw [Nat.mul_one]; exact ho⟩⟩, HB.out⟩
end Go.Proofs.YtmhmlkdoaojimapDoor

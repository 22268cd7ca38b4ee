/- Long texts drawn. -/
import Derived.Test.YtcmnjpoapcoghabDoorCurB
import Derived.Test.YtcmnjpoapcoghabDoorSgW
import Derived.ProofKit
namespace Go.Proofs.YtcmnjpoapcoghabDoor
open Go.RowKit
theorem infoU8 : (Tryd.prog.info? 5).map (fun i => (i.zero, i.size, i.bytes)) = some (some (.int .u8 0), 1, 1) := by kernel_rfl
theorem make_full (n : Nat) (h1 : n ≤ 1048576) : ∃ M : Array Value, M.size = n ∧
    (∀ W : World, (Instr.makeSlice 22 (.int .i64 (n : Int)) (.int .i64 (n : Int))).run Tryd.prog W = .ok (.slice (some ⟨W.heap.size, 0, none⟩) n n) (W.alloc (.cells M 5))) := by
  obtain ⟨i0, hi, hz0, hz1, hz2⟩ := info_partsS infoU8
  refine ⟨madeCells (Value.int .u8 0).cells (n * i0.size), ?_, ?_⟩
  · rw [size_madeCells, hz1]; simp
  · intro W
    have h := run_make (P := Tryd.prog) W 22 5 i0 (.int .u8 0) Tryd.underlying22 hi hz0 .i64 .i64 n n (by omega) (by omega) (by rw [hz2]; omega) (by omega)
    simpa using h

theorem long_any (n : Nat) (hn : n ≤ 100000) (x : UInt8) (w : World) :
    Calls Tryd.prog 14 #[.int .i64 (n : Int), .int .u8 (x.toNat : Int)] w fun e w' => (∃ s : ByteArray, s.size = n ∧ e = .returned (.string s)) ∧ Below w.heap.size w w' := by
  obtain ⟨M, hM, hmk⟩ := make_full n (by omega)
  go_enter Tryd.func14, Tryd.ntmps14
  go_wp2
  clear hmk
  go_loopw [6] (fun i wr => Hid (Below w.heap.size w wr) ∧ ∃ k : Nat, k ≤ n ∧ i = .int .i64 (k : Int) ∧ (∀ j, wr.frozen? ⟨w.heap.size, j, none⟩ = false) ∧ (∀ j, j < n → (wr.cell? ⟨w.heap.size, j, none⟩).isSome = true) ∧ Hid (∀ j, j < k → wr.cell? ⟨w.heap.size, j, none⟩ = some (.int .u8 (x.toNat : Int)))) (fun i _ => n - (intOf i).toNat)
  case atStart =>
    refine ⟨(Below.refl _ _).alloc (Nat.le_refl _) _, 0, by omega, rfl, fun j => ?_, fun j hj => ?_, fun j hj => by omega⟩
    · unfold World.frozen?; rw [heap_alloc_new]; simp
    · unfold World.cell?; rw [heap_alloc_new]; simp [hM, hj]
  case round =>
    obtain ⟨HB, k, hk, rfl, hfz, hsome, HX⟩ := hrel
    by_cases hlt : k < n
    · have fz := hfz k
      obtain ⟨y, cy⟩ := Option.isSome_iff_exists.1 (hsome k hlt)
      have HF : Hid _ := hfz
      have HS : Hid _ := hsome
      clear hfz hsome
      go_wp2
      go_roundw
      case rel =>
        refine ⟨HB.out.trans (But.below (But.set w.heap.size k wr _) (Nat.le_refl _) HB.out.size), k + 1, by omega, by go_num, fun j => by rw [World.frozen?_setCell]; exact HF.out j, fun j hj => ?_, fun j hj => ?_⟩
        · by_cases e : j = k
          · subst e; rw [World.cell?_setCell_same _ _ _ cy]; rfl
          · rw [World.cell?_setCell_other _ _ _ _ (by intro h; cases h; exact e rfl)]; exact HS.out j hj
        · by_cases e : j = k
          · subst e; rw [World.cell?_setCell_same _ _ _ cy]
          · rw [World.cell?_setCell_other _ _ _ _ (by intro h; cases h; exact e rfl)]; exact HX.out j (by omega)
      case measure => simp [intOf]; omega
    · obtain rfl : k = n := by omega
      have HCV := run_convert_bytes_back (P := Tryd.prog) wr 22 9 5 ⟨w.heap.size, 0, none⟩ k (List.replicate k x) Tryd.underlying22 Tryd.underlying5 Tryd.underlying9 (fun j hj => by
        rw [Addr.add_lit, Nat.zero_add, List.getElem_replicate]; exact HX.out j (by simpa using hj))
      rw [List.length_replicate] at HCV
      clear hfz hsome
      go_wp2
      go_ret
      exact ⟨⟨_, by rw [size_mk]; simp, rfl⟩, HB.out⟩

theorem long_any' (z : Int) (n : Nat) (hz : z = (n : Int)) (hn : n ≤ 100000) (x : UInt8) (w : World) :
    Calls Tryd.prog 14 #[.int .i64 z, .int .u8 (x.toNat : Int)] w fun e w' => (∃ s : ByteArray, s.size = n ∧ e = .returned (.string s)) ∧ Below w.heap.size w w' := by
  rw [hz]; exact long_any n hn x w
end Go.Proofs.YtcmnjpoapcoghabDoor

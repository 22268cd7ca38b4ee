/- BindsNew, the specification's and the code's: a row of terms that are nothing. -/
import Derived.Test.YtemhjigfhjlebamBindL
import Derived.Laws.OwnMore
namespace Go.Proofs.Ytemhjigfhjlebam
open Go.RowKit

def zeroTm : Tm := .mk 0 ⟨#[]⟩ 0 []

theorem ns_zeros (n : Nat) : ns (List.replicate n zeroTm) = n := by
  induction n with
  | zero => simp [ns, Tm.n.ns]
  | succ n ih => rw [List.replicate_succ, ns_cons, ih]; simp [zeroTm, Tm.n, Tm.n.ns]; omega

def zcells : Nat → List Value
  | 0 => []
  | n + 1 => .int .i64 0 :: .string ⟨#[]⟩ :: .int .i64 0 :: .slice none 0 0 :: zcells n

theorem zcells_own (e : TypeId) (w : World) (n : Nat) : OwnRow e w (List.replicate n zeroTm) (zcells n) [] := by
  induction n with
  | zero => simp [zcells, OwnRow]
  | succ n ih =>
    rw [List.replicate_succ]
    unfold OwnRow
    exact ⟨_, _, _, _, zcells n, [], [], rfl, rfl, own_mk (Or.inl ⟨rfl, rfl, rfl⟩) (by omega) (by omega) (Nat.zero_le _), ih⟩

theorem zcells_at (n i : Nat) (h : i < n * 4) : (zcells n)[i]? = some (#[Value.int .i64 0, .string ⟨#[]⟩, .int .i64 0, .slice none 0 0][i % 4]!) := by
  induction n generalizing i with
  | zero => omega
  | succ n ih =>
    match i with
    | 0 => rfl
    | 1 => rfl
    | 2 => rfl
    | 3 => rfl
    | i + 4 =>
      have := ih i (by omega)
      rw [show (i + 4) % 4 = i % 4 by omega]
      simpa [zcells] using this
theorem zcells_len (n : Nat) : (zcells n).length = n * 4 := by
  induction n with
  | zero => rfl
  | succ n ih => simp only [zcells, List.length_cons, ih]; omega

theorem made_zcells (n : Nat) : (madeCells #[Value.int .i64 0, .string ⟨#[]⟩, .int .i64 0, .slice none 0 0] (n * 4)).toList = zcells n := by
  apply List.ext_getElem?
  intro i
  by_cases h : i < n * 4
  · rw [zcells_at n i h]
    simp only [madeCells, Array.toList_map, Array.toList_range, List.getElem?_map, List.getElem?_range h, Option.map_some]
    rfl
  · rw [List.getElem?_eq_none (by rw [Array.length_toList, size_madeCells]; omega), List.getElem?_eq_none (by rw [zcells_len]; omega)]

/-- a made row of n terms -/
theorem make_zeros (n : Nat) (h1 : n ≤ 1048576) : ∃ M : Array Value, 
    (∀ W : World, (Instr.makeSlice 26 (.int .i64 (n : Int)) (.int .i64 (n : Int))).run Try.prog W = .ok (.slice (some ⟨W.heap.size, 0, none⟩) n n) (W.alloc (.cells M 28))) ∧
    M.toList = zcells n := by
  obtain ⟨i0, hi, hz0, hz1, hz2⟩ := info_parts infoT
  refine ⟨madeCells (Value.agg #[.int .i64 0, .string ⟨#[]⟩, .int .i64 0, .slice none 0 0]).cells (n * i0.size), ?_, ?_⟩
  · intro W
    have h := run_make (P := Try.prog) W 26 28 i0 _ Try.underlying26 hi hz0 .i64 .i64 n n (by omega) (by omega) (by rw [hz2]; omega) (by omega)
    simpa using h
  · rw [hz1]; exact made_zcells n

theorem zeros_own {w : World} {g n : Nat} {M : Array Value} (h1 : n ≤ 1048576) (h : w.heap[g]? = some (.cells M 28 (0, 0))) (hM : M.toList = zcells n) : OwnS 28 w (List.replicate n zeroTm) (.slice (some ⟨g, 0, none⟩) n n) [g] := by
  have hs : M.size = n * 4 := by rw [← Array.length_toList, hM, zcells_len]
  have : RowAt 28 w g n (List.replicate n zeroTm) [] := by
    refine ⟨zcells n, M, h, by simp, by unfold maxLen; omega, hs, ?_, zcells_own _ _ _⟩
    rw [hM, List.take_of_length_le]
    rw [zcells_len]; simp
  have := this.own
  simpa using this

def clampN (a : Int) : Nat := (min (max a 0) 5000).toNat

def NewOk (f : Nat) : Prop := ∀ (a : Int) (w : World), -9223372036854775808 ≤ a → a ≤ 9223372036854775807 →
  Calls Try.prog f #[.int .i64 a] w fun e w' => ∃ sl g, e = .returned (.agg #[sl]) ∧ OwnS 28 w' (List.replicate (clampN a) zeroTm) sl [g] ∧ w.heap.size ≤ g ∧ Below w.heap.size w w'

theorem clampN_cases (a : Int) : (a < 0 ∧ ¬ 5000 < a ∧ (clampN a : Int) = 0) ∨ (¬ a < 0 ∧ ¬ 5000 < a ∧ (clampN a : Int) = a) ∨ (¬ a < 0 ∧ 5000 < a ∧ (clampN a : Int) = 5000) := by
  unfold clampN; omega

theorem new_end (w : World) (n : Nat) (hn : n ≤ 5000) (M : Array Value) (hM : M.toList = zcells n) (v : Value) :
    let w2 := (w.alloc (.cells #[v] 35)).alloc (.cells M 28)
    OwnS 28 w2 (List.replicate n zeroTm) (.slice (some ⟨w.heap.size + 1, 0, none⟩) n n) [w.heap.size + 1] ∧ w.heap.size ≤ w.heap.size + 1 ∧ Below w.heap.size w w2 := by
  intro w2
  refine ⟨zeros_own (by omega) ?_ hM, by omega, ((Below.refl _ _).alloc (Nat.le_refl _) _).alloc (by simp) _⟩
  exact alloc_at _ _ (by simp)

set_option maxRecDepth 20000 in
theorem impl_new : NewOk 16 := by
  intro a w h1 h2
  have hn : clampN a ≤ 5000 := by unfold clampN; omega
  obtain ⟨M, hmk, hM⟩ := make_zeros (clampN a) (by omega)
  have HE : Hid _ := new_end w (clampN a) hn M hM
  have HC := clampN_cases a
  clear hM hn
  generalize clampN a = n at *
  rcases HC with ⟨q1, q2, e1⟩ | ⟨q1, q2, e1⟩ | ⟨q1, q2, e1⟩
  all_goals
    rw [e1] at hmk
    clear e1
    go_enter Try.func16, Try.ntmps16
    go_wp2
    refine bodyPost_ret_by (results_cell_row rfl _ _ w.heap.size 35 #[.slice (some ⟨w.heap.size + 1, 0, none⟩) n n] (0, 0) _ rfl ((alloc_old _ _ (by simp)).trans (alloc_at _ _ rfl)) Try.underlying35 rfl (by kernel_rfl)) rfl ?_
    exact ⟨_, rfl, _, HE.out _⟩

set_option maxRecDepth 20000 in
theorem spec_new : NewOk 15 := by
  intro a w h1 h2
  have hn : clampN a ≤ 5000 := by unfold clampN; omega
  obtain ⟨M, hmk, hM⟩ := make_zeros (clampN a) (by omega)
  have HE : Hid _ := new_end w (clampN a) hn M hM
  have HC := clampN_cases a
  clear hM hn
  generalize clampN a = n at *
  rcases HC with ⟨q1, q2, e1⟩ | ⟨q1, q2, e1⟩ | ⟨q1, q2, e1⟩
  all_goals
    rw [e1] at hmk
    clear e1
    go_enter Try.func15, Try.ntmps15
    go_wp2
    refine bodyPost_ret_by (results_cell_row rfl _ _ w.heap.size 35 #[.slice (some ⟨w.heap.size + 1, 0, none⟩) n n] (0, 0) _ rfl ((alloc_old _ _ (by simp)).trans (alloc_at _ _ rfl)) Try.underlying35 rfl (by kernel_rfl)) rfl ?_
    exact ⟨_, rfl, _, HE.out _⟩
end Go.Proofs.Ytemhjigfhjlebam

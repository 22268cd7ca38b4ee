/- spec.InfixOf, spec.PrefixOf. -/
import Derived.Test.YtbkjcccbjnehbanGreatDoorRows
import Derived.Test.YtbkjcccbjnehbanGreatDoorReadP
import Derived.Laws.Rows
import Derived.Laws.NewBlocks
import Derived.Below
import Derived.ProofKit
namespace Go.Proofs.YtbkjcccbjnehbanGreatDoor
open Go.RowKit

theorem results_ct2 {P : Program} {fn : Func} {p u : Tmp} {ty : TypeId} (h : fn.results = #[.cell p ty, .tmp u]) (tmps : Array Value) (w : World) (g : Nat) (t : TypeId) (cs : Array Value) (fr : Nat × Nat) (d : TypeDesc)
    (hp : tmps.getD p undef = .pointer (some ⟨g, 0, none⟩)) (hg : w.heap[g]? = some (.cells cs t fr))
    (hu : P.underlying ty = some d) (hd : (match d with | .struct _ | .array _ _ => true | _ => false) = true) (hi : (P.info? ty).map (·.size) = some cs.size) :
    (results fn tmps).run P w = .ok (.tuple #[.agg cs, tmps.getD u undef]) w := by
  have hp' : tmps[p]?.getD undef = .pointer (some ⟨g, 0, none⟩) := by simpa using hp
  simp [results, h, hp', asAddr, run_loadVar_row w g t ty cs fr d hg hu hd hi]

def opV : Option OpP → Value
  | some o => .agg #[.string o.name, .int .i64 o.prio, .int .i64 o.left, .int .i64 o.right]
  | none => .agg #[.string ⟨#[]⟩, .int .i64 0, .int .i64 0, .int .i64 0]
theorem toL_ne {s : ByteArray} {l : List UInt8} (h : ¬ s = ⟨l.toArray⟩) : (s.toList == l) = false := by
  rw [beq_eq_false_iff_ne]
  intro e
  apply h
  rw [ByteArray.toList_eq] at e
  subst e
  simp

set_option maxHeartbeats 4000000 in
theorem c_prefix (s : ByteArray) (w : World) :
    Calls Tryz.prog 79 #[.string s] w fun e w' => e = .returned (.tuple #[opV (prefixP s), .bool (prefixP s).isSome]) ∧ Below w.heap.size w w' := by
  by_cases h0 : s = ⟨#[58, 45]⟩
  · subst h0
    go_enter Tryz.func79, Tryz.ntmps79
    go_wp2
    refine bodyPost_ret_by (results_ct2 rfl _ _ w.heap.size 72 _ (0, 0) _ rfl (heap_alloc_new _ _) Tryz.underlying72 rfl (by kernel_rfl)) rfl ?_
    exact ⟨rfl, (Below.refl _ _).alloc (Nat.le_refl _) _⟩
  by_cases h1 : s = ⟨#[92, 43]⟩
  · subst h1
    go_enter Tryz.func79, Tryz.ntmps79
    go_wp2
    refine bodyPost_ret_by (results_ct2 rfl _ _ w.heap.size 72 _ (0, 0) _ rfl (heap_alloc_new _ _) Tryz.underlying72 rfl (by kernel_rfl)) rfl ?_
    exact ⟨rfl, (Below.refl _ _).alloc (Nat.le_refl _) _⟩
  by_cases h2 : s = ⟨#[45]⟩
  · subst h2
    go_enter Tryz.func79, Tryz.ntmps79
    go_wp2
    refine bodyPost_ret_by (results_ct2 rfl _ _ w.heap.size 72 _ (0, 0) _ rfl (heap_alloc_new _ _) Tryz.underlying72 rfl (by kernel_rfl)) rfl ?_
    exact ⟨rfl, (Below.refl _ _).alloc (Nat.le_refl _) _⟩
  have HN : Hid (prefixP s = none) := by
    show _ = _
    unfold prefixP
    split <;> first | rfl | skip
    all_goals
      rename_i hh
      exfalso
      have hs : s = ⟨s.data.toList.toArray⟩ := by simp
      rw [hh] at hs
      first | exact h0 hs | exact h1 hs | exact h2 hs
  have e0 : (s.toList == [58, 45]) = false := toL_ne (l := [58, 45]) h0
  have e1 : (s.toList == [92, 43]) = false := toL_ne (l := [92, 43]) h1
  have e2 : (s.toList == [45]) = false := toL_ne (l := [45]) h2
  clear h0 h1 h2
  go_enter Tryz.func79, Tryz.ntmps79
  go_wp2
  refine bodyPost_ret_by (results_ct2 rfl _ _ w.heap.size 72 _ (0, 0) _ rfl (heap_alloc_new _ _) Tryz.underlying72 rfl (by kernel_rfl)) rfl ?_
  exact ⟨by rw [HN.out]; rfl, (Below.refl _ _).alloc (Nat.le_refl _) _⟩

set_option maxHeartbeats 4000000 in
theorem c_infix (s : ByteArray) (w : World) :
    Calls Tryz.prog 66 #[.string s] w fun e w' => e = .returned (.tuple #[opV (infixP s), .bool (infixP s).isSome]) ∧ Below w.heap.size w w' := by
  by_cases h0 : s = ⟨#[58, 45]⟩
  · subst h0
    go_enter Tryz.func66, Tryz.ntmps66
    go_wp2
    refine bodyPost_ret_by (results_ct2 rfl _ _ w.heap.size 72 _ (0, 0) _ rfl (heap_alloc_new _ _) Tryz.underlying72 rfl (by kernel_rfl)) rfl ?_
    exact ⟨rfl, (Below.refl _ _).alloc (Nat.le_refl _) _⟩
  by_cases h1 : s = ⟨#[45, 45, 62]⟩
  · subst h1
    go_enter Tryz.func66, Tryz.ntmps66
    go_wp2
    refine bodyPost_ret_by (results_ct2 rfl _ _ w.heap.size 72 _ (0, 0) _ rfl (heap_alloc_new _ _) Tryz.underlying72 rfl (by kernel_rfl)) rfl ?_
    exact ⟨rfl, (Below.refl _ _).alloc (Nat.le_refl _) _⟩
  by_cases h2 : s = ⟨#[59]⟩
  · subst h2
    go_enter Tryz.func66, Tryz.ntmps66
    go_wp2
    refine bodyPost_ret_by (results_ct2 rfl _ _ w.heap.size 72 _ (0, 0) _ rfl (heap_alloc_new _ _) Tryz.underlying72 rfl (by kernel_rfl)) rfl ?_
    exact ⟨rfl, (Below.refl _ _).alloc (Nat.le_refl _) _⟩
  by_cases h3 : s = ⟨#[45, 62]⟩
  · subst h3
    go_enter Tryz.func66, Tryz.ntmps66
    go_wp2
    refine bodyPost_ret_by (results_ct2 rfl _ _ w.heap.size 72 _ (0, 0) _ rfl (heap_alloc_new _ _) Tryz.underlying72 rfl (by kernel_rfl)) rfl ?_
    exact ⟨rfl, (Below.refl _ _).alloc (Nat.le_refl _) _⟩
  by_cases h4 : s = ⟨#[44]⟩
  · subst h4
    go_enter Tryz.func66, Tryz.ntmps66
    go_wp2
    refine bodyPost_ret_by (results_ct2 rfl _ _ w.heap.size 72 _ (0, 0) _ rfl (heap_alloc_new _ _) Tryz.underlying72 rfl (by kernel_rfl)) rfl ?_
    exact ⟨rfl, (Below.refl _ _).alloc (Nat.le_refl _) _⟩
  by_cases h5 : s = ⟨#[61]⟩
  · subst h5
    go_enter Tryz.func66, Tryz.ntmps66
    go_wp2
    refine bodyPost_ret_by (results_ct2 rfl _ _ w.heap.size 72 _ (0, 0) _ rfl (heap_alloc_new _ _) Tryz.underlying72 rfl (by kernel_rfl)) rfl ?_
    exact ⟨rfl, (Below.refl _ _).alloc (Nat.le_refl _) _⟩
  by_cases h6 : s = ⟨#[92, 61]⟩
  · subst h6
    go_enter Tryz.func66, Tryz.ntmps66
    go_wp2
    refine bodyPost_ret_by (results_ct2 rfl _ _ w.heap.size 72 _ (0, 0) _ rfl (heap_alloc_new _ _) Tryz.underlying72 rfl (by kernel_rfl)) rfl ?_
    exact ⟨rfl, (Below.refl _ _).alloc (Nat.le_refl _) _⟩
  by_cases h7 : s = ⟨#[61, 61]⟩
  · subst h7
    go_enter Tryz.func66, Tryz.ntmps66
    go_wp2
    refine bodyPost_ret_by (results_ct2 rfl _ _ w.heap.size 72 _ (0, 0) _ rfl (heap_alloc_new _ _) Tryz.underlying72 rfl (by kernel_rfl)) rfl ?_
    exact ⟨rfl, (Below.refl _ _).alloc (Nat.le_refl _) _⟩
  by_cases h8 : s = ⟨#[105, 115]⟩
  · subst h8
    go_enter Tryz.func66, Tryz.ntmps66
    go_wp2
    refine bodyPost_ret_by (results_ct2 rfl _ _ w.heap.size 72 _ (0, 0) _ rfl (heap_alloc_new _ _) Tryz.underlying72 rfl (by kernel_rfl)) rfl ?_
    exact ⟨rfl, (Below.refl _ _).alloc (Nat.le_refl _) _⟩
  by_cases h9 : s = ⟨#[60]⟩
  · subst h9
    go_enter Tryz.func66, Tryz.ntmps66
    go_wp2
    refine bodyPost_ret_by (results_ct2 rfl _ _ w.heap.size 72 _ (0, 0) _ rfl (heap_alloc_new _ _) Tryz.underlying72 rfl (by kernel_rfl)) rfl ?_
    exact ⟨rfl, (Below.refl _ _).alloc (Nat.le_refl _) _⟩
  by_cases h10 : s = ⟨#[61, 58, 61]⟩
  · subst h10
    go_enter Tryz.func66, Tryz.ntmps66
    go_wp2
    refine bodyPost_ret_by (results_ct2 rfl _ _ w.heap.size 72 _ (0, 0) _ rfl (heap_alloc_new _ _) Tryz.underlying72 rfl (by kernel_rfl)) rfl ?_
    exact ⟨rfl, (Below.refl _ _).alloc (Nat.le_refl _) _⟩
  by_cases h11 : s = ⟨#[43]⟩
  · subst h11
    go_enter Tryz.func66, Tryz.ntmps66
    go_wp2
    refine bodyPost_ret_by (results_ct2 rfl _ _ w.heap.size 72 _ (0, 0) _ rfl (heap_alloc_new _ _) Tryz.underlying72 rfl (by kernel_rfl)) rfl ?_
    exact ⟨rfl, (Below.refl _ _).alloc (Nat.le_refl _) _⟩
  by_cases h12 : s = ⟨#[45]⟩
  · subst h12
    go_enter Tryz.func66, Tryz.ntmps66
    go_wp2
    refine bodyPost_ret_by (results_ct2 rfl _ _ w.heap.size 72 _ (0, 0) _ rfl (heap_alloc_new _ _) Tryz.underlying72 rfl (by kernel_rfl)) rfl ?_
    exact ⟨rfl, (Below.refl _ _).alloc (Nat.le_refl _) _⟩
  by_cases h13 : s = ⟨#[42]⟩
  · subst h13
    go_enter Tryz.func66, Tryz.ntmps66
    go_wp2
    refine bodyPost_ret_by (results_ct2 rfl _ _ w.heap.size 72 _ (0, 0) _ rfl (heap_alloc_new _ _) Tryz.underlying72 rfl (by kernel_rfl)) rfl ?_
    exact ⟨rfl, (Below.refl _ _).alloc (Nat.le_refl _) _⟩
  by_cases h14 : s = ⟨#[47, 47]⟩
  · subst h14
    go_enter Tryz.func66, Tryz.ntmps66
    go_wp2
    refine bodyPost_ret_by (results_ct2 rfl _ _ w.heap.size 72 _ (0, 0) _ rfl (heap_alloc_new _ _) Tryz.underlying72 rfl (by kernel_rfl)) rfl ?_
    exact ⟨rfl, (Below.refl _ _).alloc (Nat.le_refl _) _⟩
  have HN : Hid (infixP s = none) := by
    show _ = _
    unfold infixP
    split <;> first | rfl | skip
    all_goals
      rename_i hh
      exfalso
      have hs : s = ⟨s.data.toList.toArray⟩ := by simp
      rw [hh] at hs
      first | exact h0 hs | exact h1 hs | exact h2 hs | exact h3 hs | exact h4 hs | exact h5 hs | exact h6 hs | exact h7 hs | exact h8 hs | exact h9 hs | exact h10 hs | exact h11 hs | exact h12 hs | exact h13 hs | exact h14 hs
  have e0 : (s.toList == [58, 45]) = false := toL_ne (l := [58, 45]) h0
  have e1 : (s.toList == [45, 45, 62]) = false := toL_ne (l := [45, 45, 62]) h1
  have e2 : (s.toList == [59]) = false := toL_ne (l := [59]) h2
  have e3 : (s.toList == [45, 62]) = false := toL_ne (l := [45, 62]) h3
  have e4 : (s.toList == [44]) = false := toL_ne (l := [44]) h4
  have e5 : (s.toList == [61]) = false := toL_ne (l := [61]) h5
  have e6 : (s.toList == [92, 61]) = false := toL_ne (l := [92, 61]) h6
  have e7 : (s.toList == [61, 61]) = false := toL_ne (l := [61, 61]) h7
  have e8 : (s.toList == [105, 115]) = false := toL_ne (l := [105, 115]) h8
  have e9 : (s.toList == [60]) = false := toL_ne (l := [60]) h9
  have e10 : (s.toList == [61, 58, 61]) = false := toL_ne (l := [61, 58, 61]) h10
  have e11 : (s.toList == [43]) = false := toL_ne (l := [43]) h11
  have e12 : (s.toList == [45]) = false := toL_ne (l := [45]) h12
  have e13 : (s.toList == [42]) = false := toL_ne (l := [42]) h13
  have e14 : (s.toList == [47, 47]) = false := toL_ne (l := [47, 47]) h14
  clear h0 h1 h2 h3 h4 h5 h6 h7 h8 h9 h10 h11 h12 h13 h14
  go_enter Tryz.func66, Tryz.ntmps66
  go_wp2
  refine bodyPost_ret_by (results_ct2 rfl _ _ w.heap.size 72 _ (0, 0) _ rfl (heap_alloc_new _ _) Tryz.underlying72 rfl (by kernel_rfl)) rfl ?_
  exact ⟨by rw [HN.out]; rfl, (Below.refl _ _).alloc (Nat.le_refl _) _⟩
end Go.Proofs.YtbkjcccbjnehbanGreatDoor

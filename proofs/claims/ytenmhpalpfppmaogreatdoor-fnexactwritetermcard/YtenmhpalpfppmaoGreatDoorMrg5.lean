/- Four texts in one. -/
import Derived.Test.YtenmhpalpfppmaoGreatDoorRows
import Derived.Test.YtenmhpalpfppmaoGreatDoorMrg1
import Derived.Laws.Rows
import Derived.Laws.NewBlocks
import Derived.Below
import Derived.ProofKit
import Derived.Test.YtenmhpalpfppmaoGreatDoorMrg3
import Derived.WalkKit
import Derived.WalkSpells
import Derived.OpenShut
import Derived.Laws.Concat
/- spec.InfixOf, spec.PrefixOf. -/
namespace Go.Proofs.YtenmhpalpfppmaoGreatDoor
open Go.RowKit

theorem results_ct2 {P : Program} {fn : Func} {p u : Tmp} {ty : TypeId} (h : fn.results = #[.cell p ty, .tmp u]) (tmps : Array Value) (w : World) (g : Nat) (t : TypeId) (cs : Array Value) (fr : Nat × Nat) (d : TypeDesc)
    (hp : tmps.getD p undef = .pointer (some ⟨g, 0, none⟩)) (hg : w.heap[g]? = some (.cells cs t fr))
    (hu : P.underlying ty = some d) (hd : (match d with | .struct _ | .array _ _ => true | _ => false) = true) (hi : (P.info? ty).map (·.size) = some cs.size) :
    (results fn tmps).run P w = .ok (.tuple #[.agg cs, tmps.getD u undef]) w := by
  have hp' : tmps[p]?.getD undef = .pointer (some ⟨g, 0, none⟩) := by simpa using hp
  simp [results, h, hp', asAddr, run_loadVar_row w g t ty cs fr d hg hu hd hi]

def opV : Option OpP → Value
  | some o => .agg #[.string o.name, .int .i64 o.prio, .int .i64 o.left, .int .i64 o.right]
  | none => .agg #[.string ⟨#[]⟩, .int .i64 0, .int .i64 0, .int .i64 0]
theorem toL_ne {s : ByteArray} {l : List UInt8} (h : ¬ s = ⟨l.toArray⟩) : (s.toList == l) = false := by
  rw [beq_eq_false_iff_ne]
  intro e
  apply h
  rw [ByteArray.toList_eq] at e
  subst e
  simp

set_option maxHeartbeats 4000000 in
theorem c_prefix (s : ByteArray) (w : World) :
    Calls Tryz.prog 32 #[.string s] w fun e w' => e = .returned (.tuple #[opV (prefixP s), .bool (prefixP s).isSome]) ∧ Below w.heap.size w w' := by
  by_cases h0 : s = ⟨#[58, 45]⟩
  · subst h0
    go_enter Tryz.func32, Tryz.ntmps32
    go_wp2
    refine bodyPost_ret_by (results_ct2 rfl _ _ w.heap.size 44 _ (0, 0) _ rfl (heap_alloc_new _ _) Tryz.underlying44 rfl (by kernel_rfl)) rfl ?_
    exact ⟨rfl, (Below.refl _ _).alloc (Nat.le_refl _) _⟩
  by_cases h1 : s = ⟨#[92, 43]⟩
  · subst h1
    go_enter Tryz.func32, Tryz.ntmps32
    go_wp2
    refine bodyPost_ret_by (results_ct2 rfl _ _ w.heap.size 44 _ (0, 0) _ rfl (heap_alloc_new _ _) Tryz.underlying44 rfl (by kernel_rfl)) rfl ?_
    exact ⟨rfl, (Below.refl _ _).alloc (Nat.le_refl _) _⟩
  by_cases h2 : s = ⟨#[45]⟩
  · subst h2
    go_enter Tryz.func32, Tryz.ntmps32
    go_wp2
    refine bodyPost_ret_by (results_ct2 rfl _ _ w.heap.size 44 _ (0, 0) _ rfl (heap_alloc_new _ _) Tryz.underlying44 rfl (by kernel_rfl)) rfl ?_
    exact ⟨rfl, (Below.refl _ _).alloc (Nat.le_refl _) _⟩
  have HN : Hid (prefixP s = none) := by
    show _ = _
    unfold prefixP
    split <;> first | rfl | skip
    all_goals
      rename_i hh
      exfalso
      have hs : s = ⟨s.data.toList.toArray⟩ := by simp
      rw [hh] at hs
      first | exact h0 hs | exact h1 hs | exact h2 hs
  have e0 : (s.toList == [58, 45]) = false := toL_ne (l := [58, 45]) h0
  have e1 : (s.toList == [92, 43]) = false := toL_ne (l := [92, 43]) h1
  have e2 : (s.toList == [45]) = false := toL_ne (l := [45]) h2
  clear h0 h1 h2
  go_enter Tryz.func32, Tryz.ntmps32
  go_wp2
  refine bodyPost_ret_by (results_ct2 rfl _ _ w.heap.size 44 _ (0, 0) _ rfl (heap_alloc_new _ _) Tryz.underlying44 rfl (by kernel_rfl)) rfl ?_
  exact ⟨by rw [HN.out]; rfl, (Below.refl _ _).alloc (Nat.le_refl _) _⟩

set_option maxHeartbeats 4000000 in
theorem c_infix (s : ByteArray) (w : World) :
    Calls Tryz.prog 23 #[.string s] w fun e w' => e = .returned (.tuple #[opV (infixP s), .bool (infixP s).isSome]) ∧ Below w.heap.size w w' := by
  by_cases h0 : s = ⟨#[58, 45]⟩
  · subst h0
    go_enter Tryz.func23, Tryz.ntmps23
    go_wp2
    refine bodyPost_ret_by (results_ct2 rfl _ _ w.heap.size 44 _ (0, 0) _ rfl (heap_alloc_new _ _) Tryz.underlying44 rfl (by kernel_rfl)) rfl ?_
    exact ⟨rfl, (Below.refl _ _).alloc (Nat.le_refl _) _⟩
  by_cases h1 : s = ⟨#[45, 45, 62]⟩
  · subst h1
    go_enter Tryz.func23, Tryz.ntmps23
    go_wp2
    refine bodyPost_ret_by (results_ct2 rfl _ _ w.heap.size 44 _ (0, 0) _ rfl (heap_alloc_new _ _) Tryz.underlying44 rfl (by kernel_rfl)) rfl ?_
    exact ⟨rfl, (Below.refl _ _).alloc (Nat.le_refl _) _⟩
  by_cases h2 : s = ⟨#[59]⟩
  · subst h2
    go_enter Tryz.func23, Tryz.ntmps23
    go_wp2
    refine bodyPost_ret_by (results_ct2 rfl _ _ w.heap.size 44 _ (0, 0) _ rfl (heap_alloc_new _ _) Tryz.underlying44 rfl (by kernel_rfl)) rfl ?_
    exact ⟨rfl, (Below.refl _ _).alloc (Nat.le_refl _) _⟩
  by_cases h3 : s = ⟨#[45, 62]⟩
  · subst h3
    go_enter Tryz.func23, Tryz.ntmps23
    go_wp2
    refine bodyPost_ret_by (results_ct2 rfl _ _ w.heap.size 44 _ (0, 0) _ rfl (heap_alloc_new _ _) Tryz.underlying44 rfl (by kernel_rfl)) rfl ?_
    exact ⟨rfl, (Below.refl _ _).alloc (Nat.le_refl _) _⟩
  by_cases h4 : s = ⟨#[44]⟩
  · subst h4
    go_enter Tryz.func23, Tryz.ntmps23
    go_wp2
    refine bodyPost_ret_by (results_ct2 rfl _ _ w.heap.size 44 _ (0, 0) _ rfl (heap_alloc_new _ _) Tryz.underlying44 rfl (by kernel_rfl)) rfl ?_
    exact ⟨rfl, (Below.refl _ _).alloc (Nat.le_refl _) _⟩
  by_cases h5 : s = ⟨#[61]⟩
  · subst h5
    go_enter Tryz.func23, Tryz.ntmps23
    go_wp2
    refine bodyPost_ret_by (results_ct2 rfl _ _ w.heap.size 44 _ (0, 0) _ rfl (heap_alloc_new _ _) Tryz.underlying44 rfl (by kernel_rfl)) rfl ?_
    exact ⟨rfl, (Below.refl _ _).alloc (Nat.le_refl _) _⟩
  by_cases h6 : s = ⟨#[92, 61]⟩
  · subst h6
    go_enter Tryz.func23, Tryz.ntmps23
    go_wp2
    refine bodyPost_ret_by (results_ct2 rfl _ _ w.heap.size 44 _ (0, 0) _ rfl (heap_alloc_new _ _) Tryz.underlying44 rfl (by kernel_rfl)) rfl ?_
    exact ⟨rfl, (Below.refl _ _).alloc (Nat.le_refl _) _⟩
  by_cases h7 : s = ⟨#[61, 61]⟩
  · subst h7
    go_enter Tryz.func23, Tryz.ntmps23
    go_wp2
    refine bodyPost_ret_by (results_ct2 rfl _ _ w.heap.size 44 _ (0, 0) _ rfl (heap_alloc_new _ _) Tryz.underlying44 rfl (by kernel_rfl)) rfl ?_
    exact ⟨rfl, (Below.refl _ _).alloc (Nat.le_refl _) _⟩
  by_cases h8 : s = ⟨#[105, 115]⟩
  · subst h8
    go_enter Tryz.func23, Tryz.ntmps23
    go_wp2
    refine bodyPost_ret_by (results_ct2 rfl _ _ w.heap.size 44 _ (0, 0) _ rfl (heap_alloc_new _ _) Tryz.underlying44 rfl (by kernel_rfl)) rfl ?_
    exact ⟨rfl, (Below.refl _ _).alloc (Nat.le_refl _) _⟩
  by_cases h9 : s = ⟨#[60]⟩
  · subst h9
    go_enter Tryz.func23, Tryz.ntmps23
    go_wp2
    refine bodyPost_ret_by (results_ct2 rfl _ _ w.heap.size 44 _ (0, 0) _ rfl (heap_alloc_new _ _) Tryz.underlying44 rfl (by kernel_rfl)) rfl ?_
    exact ⟨rfl, (Below.refl _ _).alloc (Nat.le_refl _) _⟩
  by_cases h10 : s = ⟨#[61, 58, 61]⟩
  · subst h10
    go_enter Tryz.func23, Tryz.ntmps23
    go_wp2
    refine bodyPost_ret_by (results_ct2 rfl _ _ w.heap.size 44 _ (0, 0) _ rfl (heap_alloc_new _ _) Tryz.underlying44 rfl (by kernel_rfl)) rfl ?_
    exact ⟨rfl, (Below.refl _ _).alloc (Nat.le_refl _) _⟩
  by_cases h11 : s = ⟨#[43]⟩
  · subst h11
    go_enter Tryz.func23, Tryz.ntmps23
    go_wp2
    refine bodyPost_ret_by (results_ct2 rfl _ _ w.heap.size 44 _ (0, 0) _ rfl (heap_alloc_new _ _) Tryz.underlying44 rfl (by kernel_rfl)) rfl ?_
    exact ⟨rfl, (Below.refl _ _).alloc (Nat.le_refl _) _⟩
  by_cases h12 : s = ⟨#[45]⟩
  · subst h12
    go_enter Tryz.func23, Tryz.ntmps23
    go_wp2
    refine bodyPost_ret_by (results_ct2 rfl _ _ w.heap.size 44 _ (0, 0) _ rfl (heap_alloc_new _ _) Tryz.underlying44 rfl (by kernel_rfl)) rfl ?_
    exact ⟨rfl, (Below.refl _ _).alloc (Nat.le_refl _) _⟩
  by_cases h13 : s = ⟨#[42]⟩
  · subst h13
    go_enter Tryz.func23, Tryz.ntmps23
    go_wp2
    refine bodyPost_ret_by (results_ct2 rfl _ _ w.heap.size 44 _ (0, 0) _ rfl (heap_alloc_new _ _) Tryz.underlying44 rfl (by kernel_rfl)) rfl ?_
    exact ⟨rfl, (Below.refl _ _).alloc (Nat.le_refl _) _⟩
  by_cases h14 : s = ⟨#[47, 47]⟩
  · subst h14
    go_enter Tryz.func23, Tryz.ntmps23
    go_wp2
    refine bodyPost_ret_by (results_ct2 rfl _ _ w.heap.size 44 _ (0, 0) _ rfl (heap_alloc_new _ _) Tryz.underlying44 rfl (by kernel_rfl)) rfl ?_
    exact ⟨rfl, (Below.refl _ _).alloc (Nat.le_refl _) _⟩
  have HN : Hid (infixP s = none) := by
    show _ = _
    unfold infixP
    split <;> first | rfl | skip
    all_goals
      rename_i hh
      exfalso
      have hs : s = ⟨s.data.toList.toArray⟩ := by simp
      rw [hh] at hs
      first | exact h0 hs | exact h1 hs | exact h2 hs | exact h3 hs | exact h4 hs | exact h5 hs | exact h6 hs | exact h7 hs | exact h8 hs | exact h9 hs | exact h10 hs | exact h11 hs | exact h12 hs | exact h13 hs | exact h14 hs
  have e0 : (s.toList == [58, 45]) = false := toL_ne (l := [58, 45]) h0
  have e1 : (s.toList == [45, 45, 62]) = false := toL_ne (l := [45, 45, 62]) h1
  have e2 : (s.toList == [59]) = false := toL_ne (l := [59]) h2
  have e3 : (s.toList == [45, 62]) = false := toL_ne (l := [45, 62]) h3
  have e4 : (s.toList == [44]) = false := toL_ne (l := [44]) h4
  have e5 : (s.toList == [61]) = false := toL_ne (l := [61]) h5
  have e6 : (s.toList == [92, 61]) = false := toL_ne (l := [92, 61]) h6
  have e7 : (s.toList == [61, 61]) = false := toL_ne (l := [61, 61]) h7
  have e8 : (s.toList == [105, 115]) = false := toL_ne (l := [105, 115]) h8
  have e9 : (s.toList == [60]) = false := toL_ne (l := [60]) h9
  have e10 : (s.toList == [61, 58, 61]) = false := toL_ne (l := [61, 58, 61]) h10
  have e11 : (s.toList == [43]) = false := toL_ne (l := [43]) h11
  have e12 : (s.toList == [45]) = false := toL_ne (l := [45]) h12
  have e13 : (s.toList == [42]) = false := toL_ne (l := [42]) h13
  have e14 : (s.toList == [47, 47]) = false := toL_ne (l := [47, 47]) h14
  clear h0 h1 h2 h3 h4 h5 h6 h7 h8 h9 h10 h11 h12 h13 h14
  go_enter Tryz.func23, Tryz.ntmps23
  go_wp2
  refine bodyPost_ret_by (results_ct2 rfl _ _ w.heap.size 44 _ (0, 0) _ rfl (heap_alloc_new _ _) Tryz.underlying44 rfl (by kernel_rfl)) rfl ?_
  exact ⟨by rw [HN.out]; rfl, (Below.refl _ _).alloc (Nat.le_refl _) _⟩
end Go.Proofs.YtenmhpalpfppmaoGreatDoor

/- The specification's figure of a number below 16. -/
namespace Go.Proofs.YtenmhpalpfppmaoGreatDoor
open Go.RowKit

theorem figure_any (x : Int) (w : World) (h0 : 0 ≤ x) (h1 : x < 16) :
    Calls Tryz.prog 31 #[.int .i64 x] w fun e w' => e = .returned (.int .u8 ((fig x.toNat).toNat : Int)) ∧ w' = w := by
  by_cases h : x < 10
  · go_enter Tryz.func31, Tryz.ntmps31
    go_wp2
    go_ret
    refine ⟨?_, rfl⟩
    congr 2
    rw [fig_nat _ (by omega), if_pos (by omega)]
    simp; omega
  · go_enter Tryz.func31, Tryz.ntmps31
    go_wp2
    go_ret
    refine ⟨?_, rfl⟩
    congr 2
    rw [fig_nat _ (by omega), if_neg (by omega)]
    simp; omega
end Go.Proofs.YtenmhpalpfppmaoGreatDoor

/- One figure ahead of others: what the conversion and the joining of two texts give. -/
namespace Go.Proofs.YtenmhpalpfppmaoGreatDoor
open Go.RowKit

theorem conv_one (W : World) (b : UInt8) :
    (convert 61 9 (.slice (some ⟨W.heap.size, 0, none⟩) 1 1)).run Tryz.prog (W.alloc (.cells #[.int .u8 (b.toNat : Int)] 5)) = .ok (.string ⟨#[b]⟩) (W.alloc (.cells #[.int .u8 (b.toNat : Int)] 5)) := by
  refine run_convert_bytes_back (P := Tryz.prog) _ 61 9 5 ⟨W.heap.size, 0, none⟩ 1 [b] Tryz.underlying61 Tryz.underlying5 Tryz.underlying9 fun j hj => ?_
  match j, hj with
  | 0, _ => simp [Addr.add]

theorem add_one (b : UInt8) (q : List UInt8) (hq : q.length ≤ 30) (u : World) :
    (Op.stringOp .add ⟨#[b]⟩ ⟨q.toArray⟩).run Tryz.prog u = .ok (.string ⟨(b :: q).toArray⟩) u := by
  have h := run_string_add_sum (P := Tryz.prog) u ⟨#[b]⟩ ⟨q.toArray⟩ (by rw [size_mk, size_mk, List.length_singleton]; omega)
  have e : (⟨#[b]⟩ : ByteArray) ++ ⟨q.toArray⟩ = ⟨(b :: q).toArray⟩ := by rw [ByteArray.mk_append_mk]; congr 1
  rw [h, e]

theorem dec_step {m N : Nat} {q : List UInt8} (hm : 0 < m) (h : decR m ++ q = decR N) : decR (m / 10) ++ (fig (m % 10) :: q) = decR N := by
  rw [decR_pos hm] at h
  rw [← h]; simp
theorem dec_q {m N : Nat} {q : List UInt8} (hN : N ≤ 9223372036854775808) (h : decR m ++ q = decR N) : q.length ≤ 20 := by
  have h1 := decR_len 20 N (by omega)
  rw [← h, List.length_append] at h1
  omega

end Go.Proofs.YtenmhpalpfppmaoGreatDoor

/- The specification's Decimal writes decI. -/
namespace Go.Proofs.YtenmhpalpfppmaoGreatDoor
open Go.RowKit

set_option maxHeartbeats 1000000 in
theorem dec_nat (N : Nat) (w : World) (hN : N ≤ 9223372036854775807) :
    Calls Tryz.prog 18 #[.int .i64 (N : Int)] w fun e w' => e = .returned (.string ⟨(decB N).toArray⟩) ∧ Below w.heap.size w w' := by
  by_cases h0 : N = 0
  · subst h0
    go_enter Tryz.func18, Tryz.ntmps18
    go_wp2
    go_ret
    exact ⟨rfl, Below.refl _ _⟩
  · have hb0 : ((N : Int) == 0) = false := beq_eq_false_iff_ne.2 (by omega)
    have hpos : 0 < N := by omega
    rw [decB, if_neg h0]
    clear h0
    go_enter Tryz.func18, Tryz.ntmps18
    go_wp2
    go_loopw [0, 4, 5] (fun vn vs _ wr => ∃ (m : Nat) (q : List UInt8), vn = .int .i64 m ∧ vs = .string ⟨q.toArray⟩ ∧ m ≤ N ∧ q.length ≤ 20 ∧ Hid (decR m ++ q = decR N) ∧ Below w.heap.size w wr)
      (fun vn _ _ _ => (intOf vn).toNat)
    case atStart => exact ⟨N, [], rfl, rfl, Nat.le_refl _, by simp, by show _ = _; simp, Below.refl _ _⟩
    case round =>
      obtain ⟨m, q, rfl, rfl, hmN, hql, hq, hb⟩ := hrel
      have hsz := hb.size
      by_cases hm : m = 0
      · subst hm
        have hf : q = decR N := by have := hq.out; rwa [decR_zero, List.nil_append] at this
        have hF : Hid _ := hf
        clear hq hf
        go_wp2
        go_ret
        exact ⟨by rw [← hF.out]; rfl, hb⟩
      · have hne : ((m : Int) != 0) = true := by rw [bne_iff_ne]; omega
        have hadd := add_one (fig (m % 10)) q (by omega)
        have hcv := fun W => conv_one W (fig (m % 10))
        have hq' : Hid _ := dec_step (show 0 < m by omega) hq.out
        have hql' := dec_q (by omega) hq'.out
        have hmp : 0 < m := by omega
        clear hm hq
        go_wp2_with (go_at_call 31; refine (figure_any _ _ (by omega) (by omega)).mono ?_; rintro e w' ⟨rfl, rfl⟩)
        go_roundw
        case rel => exact ⟨m / 10, _, by go_num, rfl, by omega, hql', hq', hb.alloc hsz _⟩
        case measure => simp [intOf]; omega

set_option maxHeartbeats 1000000 in
theorem dec_neg (N : Nat) (w : World) (h0 : 0 < N) (hN : N ≤ 9223372036854775808) :
    Calls Tryz.prog 18 #[.int .i64 (-(N : Int))] w fun e w' => e = .returned (.string ⟨(45 :: decR N).toArray⟩) ∧ Below w.heap.size w w' := by
  have hb0 : (-(N : Int) == 0) = false := beq_eq_false_iff_ne.2 (by omega)
  have hlt : -(N : Int) < 0 := by omega
  have hfin := add_one 45 (decR N) (by have := decR_len 20 N (by omega); omega)
  go_enter Tryz.func18, Tryz.ntmps18
  go_wp2
  go_loopw [0, 4, 5] (fun vn vs _ wr => ∃ (m : Nat) (q : List UInt8), vn = .int .i64 (-(m : Int)) ∧ vs = .string ⟨q.toArray⟩ ∧ m ≤ N ∧ q.length ≤ 20 ∧ Hid (decR m ++ q = decR N) ∧ Below w.heap.size w wr)
    (fun vn _ _ _ => (- intOf vn).toNat)
  case atStart => exact ⟨N, [], rfl, rfl, Nat.le_refl _, by simp, by show _ = _; simp, Below.refl _ _⟩
  case round =>
    obtain ⟨m, q, rfl, rfl, hmN, hql, hq, hb⟩ := hrel
    have hsz := hb.size
    by_cases hm : m = 0
    · subst hm
      have hf : q = decR N := by have := hq.out; rwa [decR_zero, List.nil_append] at this
      subst hf
      clear hq
      go_wp2
      go_ret
      exact ⟨rfl, hb⟩
    · have hne : (-(m : Int) != 0) = true := by rw [bne_iff_ne]; omega
      have hq' : Hid _ := dec_step (show 0 < m by omega) hq.out
      have hql' := dec_q (by omega) hq'.out
      have hd : (-(m : Int)).tdiv 10 = -((m : Int) / 10) := by rw [Int.neg_tdiv, Int.tdiv_eq_ediv_of_nonneg (by omega)]
      have hmp : 0 < m := by omega
      clear hm hq hfin
      by_cases hz : m % 10 = 0
      · have ht : (-(m : Int)).tmod 10 = 0 := by rw [Int.neg_tmod, Int.tmod_eq_emod_of_nonneg (by omega)]; omega
        rw [hz] at hq' hql'
        have hadd := add_one (fig 0) q (by omega)
        have hcv := fun W => conv_one W (fig 0)
        clear hz
        go_wp2_with (go_at_call 31; refine (figure_any _ _ (by omega) (by omega)).mono ?_; rintro e w' ⟨rfl, rfl⟩)
        go_roundw
        case rel => exact ⟨m / 10, _, by go_num, rfl, by omega, hql', hq', hb.alloc hsz _⟩
        case measure => simp [intOf]; omega
      · have ht : (-(m : Int)).tmod 10 = -((m : Int) % 10) := by rw [Int.neg_tmod, Int.tmod_eq_emod_of_nonneg (by omega)]
        have hadd := add_one (fig (m % 10)) q (by omega)
        have hcv := fun W => conv_one W (fig (m % 10))
        go_wp2_with (go_at_call 31; refine (figure_any _ _ (by omega) (by omega)).mono ?_; rintro e w' ⟨rfl, rfl⟩)
        go_roundw
        case rel => exact ⟨m / 10, _, by go_num, rfl, by omega, hql', hq', hb.alloc hsz _⟩
        case measure => simp [intOf]; omega
end Go.Proofs.YtenmhpalpfppmaoGreatDoor

import Derived.Test.YtbkjcccbjnehbanGreatDoorRows
import Derived.Test.YtbkjcccbjnehbanGreatDoorMh1
import Derived.Laws.Rows
import Derived.Laws.NewBlocks
import Derived.Below
import Derived.ProofKit
import Derived.WalkKit
import Derived.BigQuiet
import Derived.StillTail
import Derived.Deep.QuietTactic
import Derived.Test.YtbkjcccbjnehbanGreatDoorMh4
namespace Go.Proofs.YtbkjcccbjnehbanGreatDoor
open Go.RowKit
theorem results_ct2 {P : Program} {fn : Func} {p u : Tmp} {ty : TypeId} (h : fn.results = #[.cell p ty, .tmp u]) (tmps : Array Value) (w : World) (g : Nat) (t : TypeId) (cs : Array Value) (fr : Nat × Nat) (d : TypeDesc)
   (hp : tmps.getD p undef = .pointer (some ⟨g, 0, none⟩)) (hg : w.heap[g]? = some (.cells cs t fr))
   (hu : P.underlying ty = some d) (hd : (match d with | .struct _ | .array _ _ => true | _ => false) = true) (hi : (P.info? ty).map (·.size) = some cs.size) :
   (results fn tmps).run P w = .ok (.tuple #[.agg cs, tmps.getD u undef]) w := by
 have hp' : tmps[p]?.getD undef = .pointer (some ⟨g, 0, none⟩) := by simpa using hp
 simp [results, h, hp', asAddr, run_loadVar_row w g t ty cs fr d hg hu hd hi]
def opV : Option OpP → Value
 | some o => .agg #[.string o.name, .int .i64 o.prio, .int .i64 o.left, .int .i64 o.right]
 | none => .agg #[.string ⟨#[]⟩, .int .i64 0, .int .i64 0, .int .i64 0]
theorem toL_ne {s : ByteArray} {l : List UInt8} (h : ¬ s = ⟨l.toArray⟩) : (s.toList == l) = false := by
 rw [beq_eq_false_iff_ne]
 intro e
 apply h
 rw [ByteArray.toList_eq] at e
 subst e
 simp
set_option maxHeartbeats 4000000 in
theorem c_prefix (s : ByteArray) (w : World) :
   Calls Tryz.prog 79 #[.string s] w fun e w' => e = .returned (.tuple #[opV (prefixP s), .bool (prefixP s).isSome]) ∧ Below w.heap.size w w' := by
 by_cases h0 : s = ⟨#[58, 45]⟩
 · subst h0
   go_enter Tryz.func79, Tryz.ntmps79
   go_wp2
   refine bodyPost_ret_by (results_ct2 rfl _ _ w.heap.size 72 _ (0, 0) _ rfl (heap_alloc_new _ _) Tryz.underlying72 rfl (by kernel_rfl)) rfl ?_
   exact ⟨rfl, (Below.refl _ _).alloc (Nat.le_refl _) _⟩
 by_cases h1 : s = ⟨#[92, 43]⟩
 · subst h1
   go_enter Tryz.func79, Tryz.ntmps79
   go_wp2
   refine bodyPost_ret_by (results_ct2 rfl _ _ w.heap.size 72 _ (0, 0) _ rfl (heap_alloc_new _ _) Tryz.underlying72 rfl (by kernel_rfl)) rfl ?_
   exact ⟨rfl, (Below.refl _ _).alloc (Nat.le_refl _) _⟩
 by_cases h2 : s = ⟨#[45]⟩
 · subst h2
   go_enter Tryz.func79, Tryz.ntmps79
   go_wp2
   refine bodyPost_ret_by (results_ct2 rfl _ _ w.heap.size 72 _ (0, 0) _ rfl (heap_alloc_new _ _) Tryz.underlying72 rfl (by kernel_rfl)) rfl ?_
   exact ⟨rfl, (Below.refl _ _).alloc (Nat.le_refl _) _⟩
 have HN : Hid (prefixP s = none) := by
   show _ = _
   unfold prefixP
   split <;> first | rfl | skip
   all_goals
     rename_i hh
     exfalso
     have hs : s = ⟨s.data.toList.toArray⟩ := by simp
     rw [hh] at hs
     first | exact h0 hs | exact h1 hs | exact h2 hs
 have e0 : (s.toList == [58, 45]) = false := toL_ne (l := [58, 45]) h0
 have e1 : (s.toList == [92, 43]) = false := toL_ne (l := [92, 43]) h1
 have e2 : (s.toList == [45]) = false := toL_ne (l := [45]) h2
 clear h0 h1 h2
 go_enter Tryz.func79, Tryz.ntmps79
 go_wp2
 refine bodyPost_ret_by (results_ct2 rfl _ _ w.heap.size 72 _ (0, 0) _ rfl (heap_alloc_new _ _) Tryz.underlying72 rfl (by kernel_rfl)) rfl ?_
 exact ⟨by rw [HN.out]; rfl, (Below.refl _ _).alloc (Nat.le_refl _) _⟩
set_option maxHeartbeats 4000000 in
theorem c_infix (s : ByteArray) (w : World) :
   Calls Tryz.prog 66 #[.string s] w fun e w' => e = .returned (.tuple #[opV (infixP s), .bool (infixP s).isSome]) ∧ Below w.heap.size w w' := by
 by_cases h0 : s = ⟨#[58, 45]⟩
 · subst h0
   go_enter Tryz.func66, Tryz.ntmps66
   go_wp2
   refine bodyPost_ret_by (results_ct2 rfl _ _ w.heap.size 72 _ (0, 0) _ rfl (heap_alloc_new _ _) Tryz.underlying72 rfl (by kernel_rfl)) rfl ?_
   exact ⟨rfl, (Below.refl _ _).alloc (Nat.le_refl _) _⟩
 by_cases h1 : s = ⟨#[45, 45, 62]⟩
 · subst h1
   go_enter Tryz.func66, Tryz.ntmps66
   go_wp2
   refine bodyPost_ret_by (results_ct2 rfl _ _ w.heap.size 72 _ (0, 0) _ rfl (heap_alloc_new _ _) Tryz.underlying72 rfl (by kernel_rfl)) rfl ?_
   exact ⟨rfl, (Below.refl _ _).alloc (Nat.le_refl _) _⟩
 by_cases h2 : s = ⟨#[59]⟩
 · subst h2
   go_enter Tryz.func66, Tryz.ntmps66
   go_wp2
   refine bodyPost_ret_by (results_ct2 rfl _ _ w.heap.size 72 _ (0, 0) _ rfl (heap_alloc_new _ _) Tryz.underlying72 rfl (by kernel_rfl)) rfl ?_
   exact ⟨rfl, (Below.refl _ _).alloc (Nat.le_refl _) _⟩
 by_cases h3 : s = ⟨#[45, 62]⟩
 · subst h3
   go_enter Tryz.func66, Tryz.ntmps66
   go_wp2
   refine bodyPost_ret_by (results_ct2 rfl _ _ w.heap.size 72 _ (0, 0) _ rfl (heap_alloc_new _ _) Tryz.underlying72 rfl (by kernel_rfl)) rfl ?_
   exact ⟨rfl, (Below.refl _ _).alloc (Nat.le_refl _) _⟩
 by_cases h4 : s = ⟨#[44]⟩
 · subst h4
   go_enter Tryz.func66, Tryz.ntmps66
   go_wp2
   refine bodyPost_ret_by (results_ct2 rfl _ _ w.heap.size 72 _ (0, 0) _ rfl (heap_alloc_new _ _) Tryz.underlying72 rfl (by kernel_rfl)) rfl ?_
   exact ⟨rfl, (Below.refl _ _).alloc (Nat.le_refl _) _⟩
 by_cases h5 : s = ⟨#[61]⟩
 · subst h5
   go_enter Tryz.func66, Tryz.ntmps66
   go_wp2
   refine bodyPost_ret_by (results_ct2 rfl _ _ w.heap.size 72 _ (0, 0) _ rfl (heap_alloc_new _ _) Tryz.underlying72 rfl (by kernel_rfl)) rfl ?_
   exact ⟨rfl, (Below.refl _ _).alloc (Nat.le_refl _) _⟩
 by_cases h6 : s = ⟨#[92, 61]⟩
 · subst h6
   go_enter Tryz.func66, Tryz.ntmps66
   go_wp2
   refine bodyPost_ret_by (results_ct2 rfl _ _ w.heap.size 72 _ (0, 0) _ rfl (heap_alloc_new _ _) Tryz.underlying72 rfl (by kernel_rfl)) rfl ?_
   exact ⟨rfl, (Below.refl _ _).alloc (Nat.le_refl _) _⟩
 by_cases h7 : s = ⟨#[61, 61]⟩
 · subst h7
   go_enter Tryz.func66, Tryz.ntmps66
   go_wp2
   refine bodyPost_ret_by (results_ct2 rfl _ _ w.heap.size 72 _ (0, 0) _ rfl (heap_alloc_new _ _) Tryz.underlying72 rfl (by kernel_rfl)) rfl ?_
   exact ⟨rfl, (Below.refl _ _).alloc (Nat.le_refl _) _⟩
 by_cases h8 : s = ⟨#[105, 115]⟩
 · subst h8
   go_enter Tryz.func66, Tryz.ntmps66
   go_wp2
   refine bodyPost_ret_by (results_ct2 rfl _ _ w.heap.size 72 _ (0, 0) _ rfl (heap_alloc_new _ _) Tryz.underlying72 rfl (by kernel_rfl)) rfl ?_
   exact ⟨rfl, (Below.refl _ _).alloc (Nat.le_refl _) _⟩
 by_cases h9 : s = ⟨#[60]⟩
 · subst h9
   go_enter Tryz.func66, Tryz.ntmps66
   go_wp2
   refine bodyPost_ret_by (results_ct2 rfl _ _ w.heap.size 72 _ (0, 0) _ rfl (heap_alloc_new _ _) Tryz.underlying72 rfl (by kernel_rfl)) rfl ?_
   exact ⟨rfl, (Below.refl _ _).alloc (Nat.le_refl _) _⟩
 by_cases h10 : s = ⟨#[61, 58, 61]⟩
 · subst h10
   go_enter Tryz.func66, Tryz.ntmps66
   go_wp2
   refine bodyPost_ret_by (results_ct2 rfl _ _ w.heap.size 72 _ (0, 0) _ rfl (heap_alloc_new _ _) Tryz.underlying72 rfl (by kernel_rfl)) rfl ?_
   exact ⟨rfl, (Below.refl _ _).alloc (Nat.le_refl _) _⟩
 by_cases h11 : s = ⟨#[43]⟩
 · subst h11
   go_enter Tryz.func66, Tryz.ntmps66
   go_wp2
   refine bodyPost_ret_by (results_ct2 rfl _ _ w.heap.size 72 _ (0, 0) _ rfl (heap_alloc_new _ _) Tryz.underlying72 rfl (by kernel_rfl)) rfl ?_
   exact ⟨rfl, (Below.refl _ _).alloc (Nat.le_refl _) _⟩
 by_cases h12 : s = ⟨#[45]⟩
 · subst h12
   go_enter Tryz.func66, Tryz.ntmps66
   go_wp2
   refine bodyPost_ret_by (results_ct2 rfl _ _ w.heap.size 72 _ (0, 0) _ rfl (heap_alloc_new _ _) Tryz.underlying72 rfl (by kernel_rfl)) rfl ?_
   exact ⟨rfl, (Below.refl _ _).alloc (Nat.le_refl _) _⟩
 by_cases h13 : s = ⟨#[42]⟩
 · subst h13
   go_enter Tryz.func66, Tryz.ntmps66
   go_wp2
   refine bodyPost_ret_by (results_ct2 rfl _ _ w.heap.size 72 _ (0, 0) _ rfl (heap_alloc_new _ _) Tryz.underlying72 rfl (by kernel_rfl)) rfl ?_
   exact ⟨rfl, (Below.refl _ _).alloc (Nat.le_refl _) _⟩
 by_cases h14 : s = ⟨#[47, 47]⟩
 · subst h14
   go_enter Tryz.func66, Tryz.ntmps66
   go_wp2
   refine bodyPost_ret_by (results_ct2 rfl _ _ w.heap.size 72 _ (0, 0) _ rfl (heap_alloc_new _ _) Tryz.underlying72 rfl (by kernel_rfl)) rfl ?_
   exact ⟨rfl, (Below.refl _ _).alloc (Nat.le_refl _) _⟩
 have HN : Hid (infixP s = none) := by
   show _ = _
   unfold infixP
   split <;> first | rfl | skip
   all_goals
     rename_i hh
     exfalso
     have hs : s = ⟨s.data.toList.toArray⟩ := by simp
     rw [hh] at hs
     first | exact h0 hs | exact h1 hs | exact h2 hs | exact h3 hs | exact h4 hs | exact h5 hs | exact h6 hs | exact h7 hs | exact h8 hs | exact h9 hs | exact h10 hs | exact h11 hs | exact h12 hs | exact h13 hs | exact h14 hs
 have e0 : (s.toList == [58, 45]) = false := toL_ne (l := [58, 45]) h0
 have e1 : (s.toList == [45, 45, 62]) = false := toL_ne (l := [45, 45, 62]) h1
 have e2 : (s.toList == [59]) = false := toL_ne (l := [59]) h2
 have e3 : (s.toList == [45, 62]) = false := toL_ne (l := [45, 62]) h3
 have e4 : (s.toList == [44]) = false := toL_ne (l := [44]) h4
 have e5 : (s.toList == [61]) = false := toL_ne (l := [61]) h5
 have e6 : (s.toList == [92, 61]) = false := toL_ne (l := [92, 61]) h6
 have e7 : (s.toList == [61, 61]) = false := toL_ne (l := [61, 61]) h7
 have e8 : (s.toList == [105, 115]) = false := toL_ne (l := [105, 115]) h8
 have e9 : (s.toList == [60]) = false := toL_ne (l := [60]) h9
 have e10 : (s.toList == [61, 58, 61]) = false := toL_ne (l := [61, 58, 61]) h10
 have e11 : (s.toList == [43]) = false := toL_ne (l := [43]) h11
 have e12 : (s.toList == [45]) = false := toL_ne (l := [45]) h12
 have e13 : (s.toList == [42]) = false := toL_ne (l := [42]) h13
 have e14 : (s.toList == [47, 47]) = false := toL_ne (l := [47, 47]) h14
 clear h0 h1 h2 h3 h4 h5 h6 h7 h8 h9 h10 h11 h12 h13 h14
 go_enter Tryz.func66, Tryz.ntmps66
 go_wp2
 refine bodyPost_ret_by (results_ct2 rfl _ _ w.heap.size 72 _ (0, 0) _ rfl (heap_alloc_new _ _) Tryz.underlying72 rfl (by kernel_rfl)) rfl ?_
 exact ⟨by rw [HN.out]; rfl, (Below.refl _ _).alloc (Nat.le_refl _) _⟩
end Go.Proofs.YtbkjcccbjnehbanGreatDoor

namespace Go.Proofs.YtbkjcccbjnehbanGreatDoor
open Go.RowKit
noncomputable def later (W u : World) : World := @ite _ (Below W.heap.size W u) (Classical.propDecidable _) u W
theorem later_below (W u : World) : Below W.heap.size W (later W u) := by
 unfold later
 split
 · assumption
 · exact Below.refl _ _
theorem later_of {W u : World} (h : Below W.heap.size W u) : u = later W u := by
 unfold later
 rw [if_pos h]
theorem wp_region_later {P : Program} {id : Nat} {Q : Exit → Act → World → Prop} {a : Act} {w : World} {l : List Oper} (hm : P.follows .mixedOrders = true) (hB : Region.lexB .any l.toArray = true)
   (h : wpQuiet P l.toArray (fun w' => ∃ u, w' = later w u) (fun a' => ∀ w', (∃ u, w' = later w u) → Q .normal a' w') l a) : (Code.region id l.toArray true).wp P Q a w :=
 wp_region_quiet (C := fun w' => ∃ u, w' = later w u) hm hB ⟨w.drew, later_of (Below.refl w.heap.size w).drew⟩ (by simpa using h)
theorem Calls.later_of_below {P : Program} {f : FuncId} {args : Array Value} {w u : World} {v : Value} (h : Calls P f args (later w u) fun e w' => e = .returned v ∧ Below (later w u).heap.size (later w u) w') :
   Calls P f args (later w u) fun e w' => e = .returned v ∧ ∃ u', w' = later w u' :=
 h.mono fun _ w' ⟨he, hb⟩ => ⟨he, w', later_of ((later_below w u).trans (hb.mono (later_below w u).size))⟩
end Go.Proofs.YtbkjcccbjnehbanGreatDoor

namespace Go.Proofs.YtbkjcccbjnehbanGreatDoor
open Go.RowKit
section
variable {P : Program} {ops : Array Oper} {md : Region.Mode} {C : World → Prop}
def HeadQ (P : Program) (md : Region.Mode) (ops : Array Oper) (C : World → Prop) (n : Nat) (L : Array Bool → Act → Prop) : Nat → Array Bool → Act → Prop
 | 0, listed, a => L listed a
 | f + 1, listed, a => Region.ready md ops listed ≠ [] ∧ ∀ i ∈ Region.ready md ops listed, i < n ∧ qOp P ops C i (HeadQ P md ops C n L f (listed.setIfInBounds i true)) a
theorem headQ_any {n g : Nat} {L : Array Bool → Act → Prop} {Q : Exit → Act → World → Prop} (hL : ∀ listed a, L listed a → ∀ w, C w → wpAny P md ops Q g listed a w) (f : Nat) :
   ∀ (listed : Array Bool) (a : Act), HeadQ P md ops C n L f listed a → ∀ w, C w → wpAny P md ops Q (f + g) listed a w := by
 induction f with
 | zero => intro listed a h w hw; rw [Nat.zero_add]; exact hL _ _ h w hw
 | succ f ih =>
   intro listed a h w hw
   rw [show f + 1 + g = (f + g) + 1 by omega]
   exact ⟨fun h0 => absurd h0 h.1, fun i hi => wpOp_of_qOp hw (fun a' w' hw' h' => ih _ a' h' w' hw') (h.2 i hi).2⟩
theorem headQ_first {n i : Nat} {oi : Oper} {v : Value} {L : Array Bool → Act → Prop} (hi : ops[i]? = some oi) (hsel : ∀ (j : Nat) (o : Oper) cs b, ops[j]? = some o → o.op ≠ .select cs b)
   (hs : Region.sinkB md ops n = true) (hc : Region.chainB md ops n = true) (hn : n < ops.size) (hin : i < n) (hdone : ∀ listed a, L listed a → ∀ j ∈ Region.ready md ops listed, n ≤ j) (f : Nat) :
   ∀ (listed : Array Bool) (a : Act), HeadInv md ops n listed →
     (∀ j oj, ops[j]? = some oj → j ≠ i → listed.getD j true = false → (∀ e ∈ oj.after, Region.binds md e = true → e.on ≠ i) → oi.apart ops oj = true) →
     i ∈ Region.ready md ops listed → YieldsIn P ops C oi v a → HeadQ P md ops C n L f (listed.setIfInBounds i true) (a.put oi.dst v) → HeadQ P md ops C n L (f + 1) listed a := by
 induction f with
 | zero =>
   intro listed a inv _ hr hy H
   have hun := (mem_ready.1 hr).1
   refine ⟨fun h => (by rw [h] at hr; cases hr), fun j hj => ?_⟩
   have hjn : j < n := Nat.lt_of_not_le fun h => tail_waits hs hc hn inv _ i rfl hin hun j h hj
   refine ⟨hjn, ?_⟩
   by_cases hji : j = i
   · subst hji; exact hy.qOp hi H
   · have := hdone _ _ H j (ready_mono hj hji)
     omega
 | succ f ih =>
   intro listed a inv hfree hr hy H
   have hun := (mem_ready.1 hr).1
   refine ⟨fun h => (by rw [h] at hr; cases hr), fun j hj => ?_⟩
   have hjn : j < n := Nat.lt_of_not_le fun h => tail_waits hs hc hn inv _ i rfl hin hun j h hj
   refine ⟨hjn, ?_⟩
   by_cases hji : j = i
   · subst hji; exact hy.qOp hi H
   · obtain ⟨hjun, oj, hoj, hall⟩ := mem_ready.1 hj
     have hnot : ∀ e ∈ oj.after, Region.binds md e = true → e.on ≠ i := fun e he hb heq => by
       have h1 := hall e he hb
       rw [heq, getD_both hun] at h1
       cases h1
     have h2 := qOp_put hoj (hfree j oj hoj hji hjun hnot) (fun cs b => hsel i oi cs b hi) (fun cs b => hsel j oj cs b hoj) hy (H.2 j (ready_mono hj hji)).2
     refine qOp_mono (fun a' h3 => ih _ a' (inv.set hj hjn) (fun k ok hk hki hu hno => hfree k ok hk hki ?_ hno) (ready_mono hr (Ne.symm hji)) h3.1 ?_) h2
     · by_cases hjk : j = k
       · subst hjk; exact hjun
       · rw [getD_set_ne true hjk] at hu; exact hu
     · rw [Array.setIfInBounds_comm _ _ hji]
       exact h3.2
theorem headQ_lex {n g : Nat} {R : Act → Prop} (hsel : Region.noSelect ops = true) (hs : Region.sinkB md ops n = true) (hc : Region.chainB md ops n = true) (hn : n < ops.size) (l : List Oper) :
   ∀ (k : Nat) (listed : Array Bool) (a : Act), (∀ j, j < l.length → l[j]? = ops[k + j]?) → k + l.length = n → HeadInv md ops n listed → Region.lexHead md ops g l.length k listed = true → wpQuiet P ops C R l a →
     HeadQ P md ops C n (fun listed' a' => Region.seqB md ops g n listed' = true ∧ R a') l.length listed a := by
 induction l with
 | nil =>
   intro k listed a _ hk _ hB h
   obtain rfl : k = n := by simpa using hk
   exact ⟨by simpa [Region.lexHead] using hB, h⟩
 | cons o l ih =>
   intro k listed a hl hk inv hB h
   have h0 : ops[k]? = some o := by simpa using (hl 0 (by simp)).symm
   simp only [List.length_cons, Region.lexHead, Bool.and_eq_true] at hB
   obtain ⟨⟨hr, hf⟩, hB'⟩ := hB
   have hkn : k < n := by simp only [List.length_cons] at hk; omega
   have hr' : k ∈ Region.ready md ops listed := by simpa using hr
   have hst : qOp P ops C k (wpQuiet P ops C R l) a := by unfold qOp; simp only [h0]; exact h
   obtain ⟨v, hy, hK⟩ := yieldsIn_of_qOp h0 hst
   exact headQ_first h0 (Region.noSelect_spec hsel) hs hc hn hkn (fun listed' a' hL => seqB_ready hL.1) l.length listed a inv (Region.free_spec h0 hf) hr' hy
     (ih (k + 1) _ _ (fun j hj => by have := hl (j + 1) (by simp; omega); simpa [Nat.add_assoc, Nat.add_comm 1 j] using this) (by simp only [List.length_cons] at hk; omega) (inv.set hr' hkn) hB' hK)
theorem wp_region_tail {id : Nat} {Q : Exit → Act → World → Prop} {a : Act} {w : World} {l : List Oper} (n : Nat) (hm : P.follows .mixedOrders = true) (hB : Region.lexTailB .any l.toArray n = true)
   (h : wpQuiet P l.toArray (fun w' => ∃ u, w' = later w u) (fun a' => ∀ w', (∃ u, w' = later w u) → wpList P l.toArray Q (l.drop n) a' w') (l.take n) a) : (Code.region id l.toArray true).wp P Q a w := by
 simp only [Region.lexTailB, Bool.and_eq_true, decide_eq_true_eq] at hB
 obtain ⟨⟨⟨⟨hsel, hn⟩, hs⟩, hc⟩, hlex⟩ := hB
 have hn' : n < l.length := by simpa using hn
 have htl : (l.take n).length = n := by simp; omega
 have hdl : (l.drop n).length = l.toArray.size - n := by simp
 have inv0 : HeadInv .any l.toArray n (Array.replicate l.toArray.size false) :=
   ⟨by simp, fun j oj _ hl => (by rw [getD_replicate_false] at hl; cases hl), fun t _ ht => getD_in (by simpa using ht) (getD_replicate_false _ _)⟩
 have H := headQ_lex (md := .any) (g := l.toArray.size - n) hsel hs hc hn (l.take n) 0 _ a (fun j hj => by
   have hj' : j < n := by rw [htl] at hj; exact hj
   simp [hj']) (by simpa using htl) inv0 (by rw [htl]; exact hlex) h
 refine wp_region_any hm ?_
 have := headQ_any (Q := Q) (g := l.toArray.size - n) (fun listed a' hL w' hw' => by
   have := wpAny_of_seq (md := .any) (Q' := Q) (l.drop n) n listed a' w' (fun j => by simp [List.getElem?_drop]) (by rw [hdl]; exact hL.1) (hL.2 w' hw')
   rwa [hdl] at this) _ _ _ H _ ⟨w.drew, later_of (Below.refl w.heap.size w).drew⟩
 rw [htl, show n + (l.toArray.size - n) = l.toArray.size by omega] at this
 exact this
end
end Go.Proofs.YtbkjcccbjnehbanGreatDoor

namespace Go.Proofs.YtbkjcccbjnehbanGreatDoor
open Go.RowKit
theorem opV_shape (o : Option OpP) : ∃ (s : ByteArray) (a b c : Int), opV o = .agg #[.string s, .int .i64 a, .int .i64 b, .int .i64 c] := by
 cases o with
 | none => exact ⟨_, _, _, _, rfl⟩
 | some o => exact ⟨_, _, _, _, rfl⟩
theorem isO_any {d : Nat} {x : Sg} {r : List Sg} {names : List ByteArray} {k : Int} : isO (some (d, ⟨x :: r, names⟩)) k ⟨#[]⟩ = decide (x.kind = k) := by
 have : (⟨#[]⟩ : ByteArray).toList = [] := by rw [ByteArray.toList_eq]
 simp [isO, this]
theorem cComma_ne : cComma.toList ≠ [] := by rw [ByteArray.toList_eq]; decide
def atomNext : List Sg → Bool
 | x :: _ => decide (x.kind = 1)
 | [] => false
set_option maxHeartbeats 8000000 in
theorem s_infix (g : Nat) (L : List Sg) (lv nv : Value) (d : Nat) (st : St) (w : World) (h : SRd g L lv nv w (some (d, st))) :
   Calls Tryz.prog 42 #[.pointer (some ⟨g, 0, none⟩)] w fun e w' => e = .returned (.tuple #[opV (infixO st.rest), .bool (infixO st.rest).isSome]) ∧ Below w.heap.size w w' := by
 obtain ⟨rest, names⟩ := st
 obtain ⟨W, hW⟩ : ∃ W, W = w.alloc (.cells #[.string ⟨#[]⟩, .int .i64 0, .int .i64 0, .int .i64 0] 72) := ⟨_, rfl⟩
 have bW : Below w.heap.size w W := by rw [hW]; exact (Below.refl _ _).alloc (Nat.le_refl _) _
 have sW : W.heap.size = w.heap.size + 1 := by rw [hW]; simp
 have kW : W.heap[w.heap.size]? = some (.cells #[.string ⟨#[]⟩, .int .i64 0, .int .i64 0, .int .i64 0] 72 (0, 0)) := by rw [hW]; exact heap_alloc_new _ _
 have HS : Hid (SRd g L lv nv W (some (d, ⟨rest, names⟩))) := h.keep bW
 have HM : Hid (Calls Tryz.prog 28 #[.pointer (some ⟨g, 0, none⟩), .int .i64 4, .string ⟨#[44]⟩] W fun e w' => e = .returned (.bool (mk? cComma rest).isSome) ∧ Below W.heap.size W w') := by
   have := s_is g L lv nv _ 4 cComma W HS.out
   rw [isO_mark cComma_ne] at this
   exact this
 have HI : Hid (∀ W', Below W.heap.size W W' → Calls Tryz.prog 28 #[.pointer (some ⟨g, 0, none⟩), .int .i64 1, .string ⟨#[]⟩] W' fun e w' => e = .returned (.bool (atomNext rest)) ∧ Below W'.heap.size W' w') := by
   intro W' hb
   have := s_is g L lv nv _ 1 ⟨#[]⟩ W' (HS.out.keep hb)
   cases rest with
   | nil => exact this
   | cons x r => rw [isO_any] at this; exact this
 have HK : Hid (∀ W', Below W.heap.size W W' → W'.heap[w.heap.size]? = some (.cells #[.string ⟨#[]⟩, .int .i64 0, .int .i64 0, .int .i64 0] 72 (0, 0))) := fun W' hb => (hb.block _ (by omega)).trans kW
 have HBW : Hid (Below w.heap.size w W) := bW
 have HSW : Hid (W.heap.size = w.heap.size + 1) := sW
 clear h bW sW kW
 by_cases hA : (mk? cComma rest).isSome = true
 · have HV : Hid (infixO rest = infixP cComma) := by
     obtain ⟨r', hr'⟩ := Option.isSome_iff_exists.1 hA
     obtain ⟨x, rfl, hx⟩ := mk?_cons hr'
     show _ = _
     simp only [infixO, if_pos hx]
   rw [hA] at HM
   have HP : Hid _ := fun wq => c_infix ⟨#[44]⟩ wq
   clear hA HI HS
   go_enter Tryz.func42, Tryz.ntmps42
   go_wp2_with (first | (go_at_call 28; rw [← hW]; go_loud (refine Calls.mono HM.out ?_); rintro e w1 ⟨rfl, hb⟩; have HB1 : Hid (Below W.heap.size W w1) := hb; clear hb hW) | (go_at_call 66; go_loud (refine Calls.mono (HP.out _) ?_); rintro e w2 ⟨rfl, hb⟩; have HB2 : Hid (Below w1.heap.size w1 w2) := hb; have hk := HK.out w2 (HB1.out.trans (hb.mono HB1.out.size)); obtain ⟨z0, z1, z2, z3, q0, q1, q2, q3⟩ := blk4 hk; clear hb; simp only [opV, infixP]))
   refine bodyPost_ret_by (results_ct2 rfl _ _ w.heap.size 72 _ (0, 0) _ rfl (blk4_set hk) Tryz.underlying72 rfl (by kernel_rfl)) rfl ?_
   have := HSW.out
   refine ⟨by rw [HV.out]; rfl, blk4_below (HBW.out.trans ((HB1.out.trans (HB2.out.mono HB1.out.size)).mono (by omega))) (Nat.le_refl _)⟩
 · have hA' : (mk? cComma rest).isSome = false := by simpa using hA
   rw [hA'] at HM
   have HA : Hid ((mk? cComma rest).isSome = false) := hA'
   clear hA hA'
   rcases rest with _ | ⟨x, r⟩
   · have en : atomNext [] = false := rfl
     rw [en] at HI
     clear HS en
     go_enter Tryz.func42, Tryz.ntmps42
     go_upto_region 3 with (go_at_call 28; rw [← hW]; go_loud (refine Calls.mono HM.out ?_); rintro e w1 ⟨rfl, hb⟩; have HB1 : Hid (Below W.heap.size W w1) := hb; clear hb hW)
     refine wp_region_later (by kernel_rfl) (by kernel_rfl) ?_
     repeat (go_big_quiet_step ((go_at_call 28; exact Calls.later_of_below (HI.out _ (HB1.out.trans ((later_below w1 _).mono HB1.out.size))))))
     refine wpQuiet_nil ?_
     rintro _ ⟨u, rfl⟩
     have HB2 : Hid (Below W.heap.size W (later w1 u)) := HB1.out.trans ((later_below w1 u).mono HB1.out.size)
     generalize later w1 u = w2 at *
     have hk := HK.out w2 HB2.out
     obtain ⟨z0, z1, z2, z3, q0, q1, q2, q3⟩ := blk4 hk
     go_wp2
     refine bodyPost_ret_by (results_ct2 rfl _ _ w.heap.size 72 _ (0, 0) _ rfl (blk4_set hk) Tryz.underlying72 rfl (by kernel_rfl)) rfl ?_
     have := HSW.out
     exact ⟨rfl, blk4_below (HBW.out.trans (HB2.out.mono (by omega))) (Nat.le_refl _)⟩
   · obtain ⟨p, lb, cap, rfl, hp, hd, hnm, hg, hl, hnr, k0, k1, k2, k3, k4, hlg⟩ := HS.out.sign
     obtain ⟨c0, c1, c2, c3, c4, cf⟩ := b5f hg
     obtain ⟨NL, hNL⟩ : ∃ NL, NL = L.length := ⟨_, rfl⟩
     rw [← hNL] at c0 hp
     obtain ⟨xk, xt, xn, xa, xb⟩ := x
     simp only at k0 k1 k2 k3 k4
     have HC : Hid (∀ W', Below W.heap.size W W' → W'.cell? ⟨g, 0, none⟩ = some (.slice (some ⟨lb, 0, none⟩) NL cap) ∧ W'.cell? ⟨g, 1, none⟩ = some (.int .i64 (p : Int)) ∧ W'.cell? ⟨lb, p * 5 + 1, none⟩ = some (.string xt) ∧ W'.cell? ⟨lb, p * 5 + 4, none⟩ = some (.bool xb)) :=
       fun W' hb => ⟨cell_keep c0 hb, cell_keep c1 hb, cell_keep k1 hb, cell_keep k4 hb⟩
     clear hd hnm hg hl hnr k0 k1 k2 k3 k4 hlg c0 c1 c2 c3 c4 cf hNL HS
     by_cases hk1 : xk = 1
     · subst hk1
       have en : atomNext (⟨1, xt, xn, xa, xb⟩ :: r) = true := rfl
       rw [en] at HI
       clear en
       cases xb
       · have HV : Hid (infixO (⟨1, xt, xn, xa, false⟩ :: r) = infixP xt) := by show _ = _; simp [infixO]
         obtain ⟨oo, hoo⟩ : ∃ oo, oo = infixP xt := ⟨_, rfl⟩
         have HP : Hid _ := fun wq => c_infix xt wq
         rw [← hoo] at HP HV
         obtain ⟨os, o1, o2, o3, eo⟩ := opV_shape oo
         have HO : Hid (opV oo = .agg #[.string os, .int .i64 o1, .int .i64 o2, .int .i64 o3]) := eo
         rw [eo] at HP
         obtain ⟨ob, hob⟩ : ∃ ob, ob = oo.isSome := ⟨_, rfl⟩
         have HOB : Hid (ob = oo.isSome) := hob
         rw [← hob] at HP
         clear hoo eo hob
         go_enter Tryz.func42, Tryz.ntmps42
         go_upto_region 3 with (go_at_call 28; rw [← hW]; go_loud (refine Calls.mono HM.out ?_); rintro e w1 ⟨rfl, hb⟩; have HB1 : Hid (Below W.heap.size W w1) := hb; clear hb hW)
         have HL1 : Hid (∀ u, Below W.heap.size W (later w1 u)) := fun u => HB1.out.trans ((later_below w1 u).mono HB1.out.size)
         have y0 := fun u => (HC.out _ (HL1.out u)).1
         have y1 := fun u => (HC.out _ (HL1.out u)).2.1
         have y3 := fun u => (HC.out _ (HL1.out u)).2.2.2
         refine wp_region_later (by kernel_rfl) (by kernel_rfl) ?_
         repeat (go_big_quiet_step ((go_at_call 28; exact Calls.later_of_below (HI.out _ (HL1.out _)))))
         refine wpQuiet_nil ?_
         rintro _ ⟨u, rfl⟩
         have HB2 : Hid (Below W.heap.size W (later w1 u)) := HL1.out u
         clear y0 y1 y3
         generalize later w1 u = w2 at *
         go_upto_region 4 with fail
         have HL2 : Hid (∀ u, Below W.heap.size W (later w2 u)) := fun u => HB2.out.trans ((later_below w2 u).mono HB2.out.size)
         have y0 := fun u => (HC.out _ (HL2.out u)).1
         have y1 := fun u => (HC.out _ (HL2.out u)).2.1
         have y3 := fun u => (HC.out _ (HL2.out u)).2.2.1
         refine wp_region_tail 14 (by kernel_rfl) (by kernel_rfl) ?_
         simp only [List.take_succ_cons, List.take_zero, List.drop_succ_cons, List.drop_zero]
         repeat (go_big_quiet_step ((go_at_call 66; exact Calls.later_of_below (HP.out _))))
         refine wpQuiet_nil ?_
         rintro _ ⟨u, rfl⟩
         have HB3 : Hid (Below W.heap.size W (later w2 u)) := HL2.out u
         clear y0 y1 y3
         generalize later w2 u = w3 at *
         have hk := HK.out w3 HB3.out
         obtain ⟨z0, z1, z2, z3, q0, q1, q2, q3⟩ := blk4 hk
         go_wp2
         refine bodyPost_ret_by (results_ct2 rfl _ _ w.heap.size 72 _ (0, 0) _ rfl (blk4_set hk) Tryz.underlying72 rfl (by kernel_rfl)) rfl ?_
         have := HSW.out
         exact ⟨by rw [HV.out, HO.out, ← HOB.out]; rfl, blk4_below (HBW.out.trans (HB3.out.mono (by omega))) (Nat.le_refl _)⟩
       · have HV : Hid (infixO (⟨1, xt, xn, xa, true⟩ :: r) = none) := by show _ = _; simp [infixO]
         go_enter Tryz.func42, Tryz.ntmps42
         go_upto_region 3 with (go_at_call 28; rw [← hW]; go_loud (refine Calls.mono HM.out ?_); rintro e w1 ⟨rfl, hb⟩; have HB1 : Hid (Below W.heap.size W w1) := hb; clear hb hW)
         have HL1 : Hid (∀ u, Below W.heap.size W (later w1 u)) := fun u => HB1.out.trans ((later_below w1 u).mono HB1.out.size)
         have y0 := fun u => (HC.out _ (HL1.out u)).1
         have y1 := fun u => (HC.out _ (HL1.out u)).2.1
         have y3 := fun u => (HC.out _ (HL1.out u)).2.2.2
         refine wp_region_later (by kernel_rfl) (by kernel_rfl) ?_
         repeat (go_big_quiet_step ((go_at_call 28; exact Calls.later_of_below (HI.out _ (HL1.out _)))))
         refine wpQuiet_nil ?_
         rintro _ ⟨u, rfl⟩
         have HB2 : Hid (Below W.heap.size W (later w1 u)) := HL1.out u
         clear y0 y1 y3
         generalize later w1 u = w2 at *
         have hk := HK.out w2 HB2.out
         obtain ⟨z0, z1, z2, z3, q0, q1, q2, q3⟩ := blk4 hk
         go_wp2
         refine bodyPost_ret_by (results_ct2 rfl _ _ w.heap.size 72 _ (0, 0) _ rfl (blk4_set hk) Tryz.underlying72 rfl (by kernel_rfl)) rfl ?_
         have := HSW.out
         exact ⟨by rw [HV.out]; rfl, blk4_below (HBW.out.trans (HB2.out.mono (by omega))) (Nat.le_refl _)⟩
     · have HV : Hid (infixO (⟨xk, xt, xn, xa, xb⟩ :: r) = none) := by
         show _ = _
         have := HA.out
         simp only [mk?] at this
         by_cases h4 : xk = 4 ∧ xt = cComma
         · rw [if_pos h4] at this; cases this
         · simp only [infixO]
           rw [if_neg h4, if_neg (fun h => hk1 h.1)]
       have en : atomNext (⟨xk, xt, xn, xa, xb⟩ :: r) = false := decide_eq_false hk1
       rw [en] at HI
       clear en HC hp
       go_enter Tryz.func42, Tryz.ntmps42
       go_upto_region 3 with (go_at_call 28; rw [← hW]; go_loud (refine Calls.mono HM.out ?_); rintro e w1 ⟨rfl, hb⟩; have HB1 : Hid (Below W.heap.size W w1) := hb; clear hb hW)
       refine wp_region_later (by kernel_rfl) (by kernel_rfl) ?_
       repeat (go_big_quiet_step ((go_at_call 28; exact Calls.later_of_below (HI.out _ (HB1.out.trans ((later_below w1 _).mono HB1.out.size))))))
       refine wpQuiet_nil ?_
       rintro _ ⟨u, rfl⟩
       have HB2 : Hid (Below W.heap.size W (later w1 u)) := HB1.out.trans ((later_below w1 u).mono HB1.out.size)
       generalize later w1 u = w2 at *
       have hk := HK.out w2 HB2.out
       obtain ⟨z0, z1, z2, z3, q0, q1, q2, q3⟩ := blk4 hk
       go_wp2
       refine bodyPost_ret_by (results_ct2 rfl _ _ w.heap.size 72 _ (0, 0) _ rfl (blk4_set hk) Tryz.underlying72 rfl (by kernel_rfl)) rfl ?_
       have := HSW.out
       exact ⟨by rw [HV.out]; rfl, blk4_below (HBW.out.trans (HB2.out.mono (by omega))) (Nat.le_refl _)⟩
end Go.Proofs.YtbkjcccbjnehbanGreatDoor

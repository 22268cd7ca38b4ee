/- Four texts in one. -/
import Derived.Test.YtmhmlkdoaojimapDoorMrg2
import Derived.WalkKit
import Derived.BigQuiet
import Derived.Test.YtmhmlkdoaojimapDoorRows
import Derived.Test.YtmhmlkdoaojimapDoorMrg5
import Derived.Deep.RegionWith
import Derived.Deep.DeepCutAuto
import Derived.Laws.Concat
import Derived.ProofKit
import Derived.Test.YtmhmlkdoaojimapDoorMrg4
import Derived.Test.YtmhmlkdoaojimapDoorMrg3
/- A block of four cells. Of no program. -/
namespace Go.Proofs.YtmhmlkdoaojimapDoor
open Go.RowKit

theorem blk4 {w : World} {g : Nat} {c0 c1 c2 c3 : Value} {T : TypeId} (h : w.heap[g]? = some (.cells #[c0, c1, c2, c3] T (0, 0))) :
    w.cell? ⟨g, 0, none⟩ = some c0 ∧ w.cell? ⟨g, 1, none⟩ = some c1 ∧ w.cell? ⟨g, 2, none⟩ = some c2 ∧ w.cell? ⟨g, 3, none⟩ = some c3 ∧ w.frozen? ⟨g, 0, none⟩ = false ∧ w.frozen? ⟨g, 1, none⟩ = false ∧ w.frozen? ⟨g, 2, none⟩ = false ∧ w.frozen? ⟨g, 3, none⟩ = false :=
  ⟨blk_cell (i := 0) h (by simp), blk_cell (i := 1) h (by simp), blk_cell (i := 2) h (by simp), blk_cell (i := 3) h (by simp), blk_frozen h 0, blk_frozen h 1, blk_frozen h 2, blk_frozen h 3⟩

/-- four cells of a block set, one behind the other -/
theorem blk4_set {w : World} {g : Nat} {c0 c1 c2 c3 d0 d1 d2 d3 : Value} {T : TypeId} (h : w.heap[g]? = some (.cells #[c0, c1, c2, c3] T (0, 0))) :
    ((((w.setCell ⟨g, 0, none⟩ d0).setCell ⟨g, 1, none⟩ d1).setCell ⟨g, 2, none⟩ d2).setCell ⟨g, 3, none⟩ d3).heap[g]? = some (.cells #[d0, d1, d2, d3] T (0, 0)) := by
  have := blk_set (i := 3) (blk_set (i := 2) (blk_set (i := 1) (blk_set (i := 0) h d0) d1) d2) d3
  simpa using this
theorem blk4_other {w : World} {g f : Nat} {d0 d1 d2 d3 : Value} (h : f ≠ g) :
    ((((w.setCell ⟨g, 0, none⟩ d0).setCell ⟨g, 1, none⟩ d1).setCell ⟨g, 2, none⟩ d2).setCell ⟨g, 3, none⟩ d3).heap[f]? = w.heap[f]? := by
  rw [blk_other _ h, blk_other _ h, blk_other _ h, blk_other _ h]
theorem blk4_below {B : Nat} {w w' : World} {g : Nat} {d0 d1 d2 d3 : Value} (hb : Below B w w') (hg : B ≤ g) :
    Below B w ((((w'.setCell ⟨g, 0, none⟩ d0).setCell ⟨g, 1, none⟩ d1).setCell ⟨g, 2, none⟩ d2).setCell ⟨g, 3, none⟩ d3) :=
  below_set (below_set (below_set (below_set hb hg _) hg _) hg _) hg _

end Go.Proofs.YtmhmlkdoaojimapDoor

/- A region that draws its order, reads memory, and holds calls which make memory, but whose values do not hang on what is made: walked once, in the order of the text, over all worlds that are as the first one was below its end. -/
namespace Go.Proofs.YtmhmlkdoaojimapDoor
open Go.RowKit

/-- any world that is as W was below W's end (and W itself in the place of any other) -/
noncomputable def later (W u : World) : World := @ite _ (Below W.heap.size W u) (Classical.propDecidable _) u W

theorem later_below (W u : World) : Below W.heap.size W (later W u) := by
  unfold later
  split
  · assumption
  · exact Below.refl _ _
theorem later_of {W u : World} (h : Below W.heap.size W u) : u = later W u := by
  unfold later
  rw [if_pos h]

theorem wp_region_later {P : Program} {id : Nat} {Q : Exit → Act → World → Prop} {a : Act} {w : World} {l : List Oper} (hm : P.follows .mixedOrders = true) (hB : Region.lexB .any l.toArray = true)
    (h : wpQuiet P l.toArray (fun w' => ∃ u, w' = later w u) (fun a' => ∀ w', (∃ u, w' = later w u) → Q .normal a' w') l a) : (Code.region id l.toArray true).wp P Q a w :=
  wp_region_quiet (C := fun w' => ∃ u, w' = later w u) hm hB ⟨w.drew, later_of (Below.refl w.heap.size w).drew⟩ (by simpa using h)
theorem Calls.later_of_below {P : Program} {f : FuncId} {args : Array Value} {w u : World} {v : Value} (h : Calls P f args (later w u) fun e w' => e = .returned v ∧ Below (later w u).heap.size (later w u) w') :
    Calls P f args (later w u) fun e w' => e = .returned v ∧ ∃ u', w' = later w u' :=
  h.mono fun _ w' ⟨he, hb⟩ => ⟨he, w', later_of ((later_below w u).trans (hb.mono (later_below w u).size))⟩
theorem Calls.later_of_same {P : Program} {f : FuncId} {args : Array Value} {w u : World} {v : Value} (h : Calls P f args (later w u) fun e w' => e = .returned v ∧ w' = later w u) :
    Calls P f args (later w u) fun e w' => e = .returned v ∧ ∃ u', w' = later w u' :=
  h.mono fun _ _ ⟨he, hb⟩ => ⟨he, u, hb⟩
end Go.Proofs.YtmhmlkdoaojimapDoor

/- spec.PredOf. -/
namespace Go.Proofs.YtmhmlkdoaojimapDoor
open Go.RowKit

set_option maxHeartbeats 2000000 in
theorem c_pred (t : Tm) (w : World) (v : Value) (hin : TmIn w t v) (hwt : t.wt ≤ 1048576) :
    Calls Tryd.prog 62 #[v] w fun e w' => e = .returned (.string (predB t)) ∧ Below w.heap.size w w' := by
  obtain ⟨k, s, n, ks⟩ := t
  unfold TmIn at hin
  obtain ⟨ao, cap, rfl, hk, hn, hs, hlc, hcm, _⟩ := hin
  unfold Tm.wt at hwt
  have hkl : (ks.length : Int) ≤ 1048576 := by omega
  have hss : s.size ≤ 1048576 := by omega
  obtain ⟨W, hW⟩ : ∃ W, W = w.alloc (.cells #[.int .i64 k, .string s, .int .i64 n, .slice ao ks.length cap] 46) := ⟨_, rfl⟩
  have bW : Below w.heap.size w W := by rw [hW]; exact (Below.refl _ _).alloc (Nat.le_refl _) _
  have HBW : Hid (Below w.heap.size w W) := bW
  have HD : Hid (∀ w1, Below W.heap.size W w1 → Calls Tryd.prog 87 #[.int .i64 (ks.length : Int)] w1 fun e w' => e = .returned (.string ⟨(decI (ks.length : Int)).toArray⟩) ∧ Below w1.heap.size w1 w') := fun w1 hb => dec_any _ w1 (by omega) (by omega)
  by_cases hkk : k = 2 ∨ k = 4
  · have HV : Hid (predB (.mk k s n ks) = s ++ ⟨#[47]⟩ ++ ⟨(decI (ks.length : Int)).toArray⟩) := by show _ = _; show (if k = 2 ∨ k = 4 then _ else _) = _; rw [if_pos hkk]
    obtain ⟨KL, hKL⟩ : ∃ KL, KL = ks.length := ⟨_, rfl⟩
    rw [← hKL] at hW HD HV hkl ⊢
    obtain ⟨D, hD⟩ : ∃ D : ByteArray, D = ⟨(decI (KL : Int)).toArray⟩ := ⟨_, rfl⟩
    have hDl : D.size ≤ 11 := by
      rw [hD]
      show (decI (KL : Int)).toArray.size ≤ 11
      rw [List.size_toArray]
      exact decI_le _ (by omega)
    rw [← hD] at HD HV
    have hadd1 : ∀ u, (Op.stringOp .add s ⟨#[47]⟩).run Tryd.prog u = .ok (.string (s ++ ⟨#[47]⟩)) u := fun u => run_string_add_sum u _ _ (by show _ + 1 ≤ _; omega)
    have hadd2 : ∀ u, (Op.stringOp .add (s ++ ⟨#[47]⟩) D).run Tryd.prog u = .ok (.string (s ++ ⟨#[47]⟩ ++ D)) u := fun u => run_string_add_sum u _ _ (by rw [ByteArray.size_append]; show _ + 1 + _ ≤ _; omega)
    have k0 : W.heap[w.heap.size]? = some (.cells #[.int .i64 k, .string s, .int .i64 n, .slice ao KL cap] 46 (0, 0)) := by rw [hW]; exact heap_alloc_new _ _
    have HK : Hid _ := k0
    rcases hkk with rfl | rfl
    all_goals
      clear hD hDl hKL bW k0 hlc hcm hs hk hn
      go_enter Tryd.func62, Tryd.ntmps62
      go_upto_region 3 with fail
      try rw [← hW]
      obtain ⟨c0, c1, c2, c3, _⟩ := blk4 HK.out
      clear hW
      have z1 := fun u => cell_keep c1 (later_below W u)
      have z3 := fun u => cell_keep c3 (later_below W u)
      have HC : Hid (∀ u, Calls Tryd.prog 87 #[.int .i64 (KL : Int)] (later W u) fun e w' => e = .returned (.string D) ∧ ∃ u', w' = later W u') := fun u => Calls.later_of_below (HD.out _ (later_below W u))
      clear c0 c1 c2 c3
      refine wp_region_later (by kernel_rfl) (by kernel_rfl) ?_
      repeat (go_big_quiet_step ((go_at_call 87; exact HC.out _)))
      refine wpQuiet_nil ?_
      rintro _ ⟨u3, rfl⟩
      go_wp2
      go_ret
      exact ⟨by rw [HV.out]; rfl, HBW.out.trans ((later_below W u3).mono HBW.out.size)⟩
  · have HV : Hid (predB (.mk k s n ks) = ⟨#[]⟩) := by show (if k = 2 ∨ k = 4 then _ else _) = _; rw [if_neg hkk]
    have e2 : ¬ k = 2 := fun h => hkk (Or.inl h)
    have e4 : ¬ k = 4 := fun h => hkk (Or.inr h)
    have b2 : (k != 2) = true := bne_iff_ne.2 e2
    have b4 : (k != 4) = true := bne_iff_ne.2 e4
    clear hkk hlc hcm hs hk hn
    go_enter Tryd.func62, Tryd.ntmps62
    go_wp2
    go_ret
    exact ⟨by rw [HV.out]; rfl, by rw [← hW]; exact HBW.out⟩
end Go.Proofs.YtmhmlkdoaojimapDoor

/- spec.l08Head. -/
namespace Go.Proofs.YtmhmlkdoaojimapDoor
open Go.RowKit

set_option maxHeartbeats 1000000 in
theorem s_head (t : Tm) (w : World) (v : Value) (hin : TmIn w t v) (hwt : t.wt ≤ 1048576) :
    Calls Tryd.prog 59 #[v] w fun e w' => e = .returned (.bool (mayB (predB t))) ∧ Below w.heap.size w w' := by
  obtain ⟨k, s, n, ao, len, cap, rfl⟩ := tm_shape hin
  have HBW : Hid (Below w.heap.size w (w.alloc (.cells #[.int .i64 k, .string s, .int .i64 n, .slice ao len cap] 46))) := (Below.refl _ _).alloc (Nat.le_refl _) _
  have HP0 := c_pred t _ _ (TmIn.keep HBW.out _ _ hin) hwt
  obtain ⟨p, hp⟩ : ∃ p, p = predB t := ⟨_, rfl⟩
  rw [← hp] at HP0 ⊢
  have HP : Hid _ := HP0
  have HC : Hid (∀ w, Calls Tryd.prog 86 #[.string p] w fun e w' => e = .returned (.bool (ctlB p)) ∧ Below w.heap.size w w') := fun w => c_control p w
  obtain ⟨r, hr⟩ : ∃ r, r = mayB p := ⟨_, rfl⟩
  have HV : Hid (r = mayB p) := hr
  rw [← hr]
  clear hr HP0 hin hwt hp
  by_cases h : p = ⟨#[]⟩
  · subst h
    go_enter Tryd.func59, Tryd.ntmps59
    go_wp2_with (go_at_call 62; refine (Calls.mono HP.out ?_); rintro e w1 ⟨rfl, hb⟩; have HB : Hid (Below w.heap.size w w1) := HBW.out.trans (hb.mono HBW.out.size); clear hb)
    go_ret
    exact ⟨by rw [HV.out]; rfl, HB.out⟩
  · have h1 : ¬ p.toList = [] := fun e => h (by rw [ByteArray.toList_eq] at e; exact ByteArray.ext (Array.toList_inj.1 e))
    have HE : Hid (p.toList.isEmpty = false) := by show _ = _; cases hp : p.toList with | nil => exact absurd hp h1 | cons _ _ => rfl
    have HX : Hid (mayB p = !ctlB p) := by show _ = _; unfold mayB; rw [decide_eq_true h, Bool.true_and]
    clear h
    go_enter Tryd.func59, Tryd.ntmps59
    go_wp2_with (first
      | (go_at_call 62; refine (Calls.mono HP.out ?_); rintro e w1 ⟨rfl, hb⟩; have HB : Hid (Below w.heap.size w w1) := HBW.out.trans (hb.mono HBW.out.size); clear hb)
      | (go_at_call 86; refine (Calls.mono (HC.out _) ?_); rintro e w2 ⟨rfl, hb⟩; have HB2 : Hid (Below w.heap.size w w2) := HB.out.trans (hb.mono HB.out.size); clear hb))
    go_ret
    exact ⟨by rw [HV.out, HX.out]; show Ending.returned (.bool (!p.toList.isEmpty && !ctlB p)) = _; rw [HE.out]; rfl, HB2.out⟩
end Go.Proofs.YtmhmlkdoaojimapDoor

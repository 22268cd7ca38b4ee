/- Four texts in one. -/
import Derived.Test.YtenmhpalpfppmaoGreatDoorRows
import Derived.Test.YtenmhpalpfppmaoGreatDoorMrg3
import Derived.Test.YtenmhpalpfppmaoGreatDoorMrg6
import Derived.Laws.MakeOwn
import Derived.ProofKit
import Derived.WalkKit
import Derived.BigQuiet
import Derived.Test.YtenmhpalpfppmaoGreatDoorMrg4
import Derived.Test.YtenmhpalpfppmaoGreatDoorMrg5
import Derived.Deep.DeepCutAuto
/- The laws' copy of a term: each row in a block of its own. -/
namespace Go.Proofs.YtenmhpalpfppmaoGreatDoor
open Go.RowKit

def ToOk (t : Tm) : Prop := ∀ (w : World) (v : Value), TmIn w t v → t.wt ≤ 1048576 →
  Calls Tryz.prog 6 #[v] w fun e w' => ∃ v' F, e = .returned v' ∧ Own 29 w' t v' F ∧ (∀ f ∈ F, w.heap.size ≤ f) ∧ F.Nodup ∧ Below w.heap.size w w'

theorem to_terms (ks : List Tm) (hks : ∀ t ∈ ks, ToOk t) (w : World) (ao : Option Addr) (cap : Nat) (hlen : ks.length + wts ks ≤ 1048576) (h : ks ≠ [] → ∃ b off, ao = some ⟨b, off, none⟩ ∧ TmsIn w ks b off) :
    Calls Tryz.prog 12 #[.slice ao ks.length cap] w fun e w' => ∃ sl F, e = .returned sl ∧ OwnS 29 w' ks sl F ∧ (∀ f ∈ F, w.heap.size ≤ f) ∧ F.Nodup ∧ Below w.heap.size w w' := by
  obtain ⟨M, hM, hmk⟩ := make_terms ks.length (by omega)
  go_enter Tryz.func12, Tryz.ntmps12
  go_wp2
  clear hmk
  go_loopw [4] (fun vi wr => ∃ (j : Nat) (cur : Array Value) (F : List Nat), j ≤ ks.length ∧ vi = .int .i64 (j : Int) ∧ Hid (Below w.heap.size w wr) ∧ wr.heap[w.heap.size]? = some (.cells cur 29 (0, 0)) ∧ cur.size = ks.length * 4 ∧
      Hid (OwnRow 29 wr (ks.take j) (cur.toList.take (j * 4)) F ∧ (∀ f ∈ F, w.heap.size < f) ∧ F.Nodup)) (fun i _ => ks.length - (intOf i).toNat)
  case atStart =>
    refine ⟨0, M, [], by omega, rfl, (Below.refl _ _).alloc (Nat.le_refl _) _, by rw [heap_alloc_new], hM, ?_⟩
    exact ⟨by simp [OwnRow], by simp, by simp⟩
  case round =>
    obtain ⟨j, cur, F, hj, rfl, HB, hblk, hcs, HO⟩ := hrel
    by_cases hlt : j < ks.length
    · obtain ⟨b, off, rfl, hin⟩ := h (by intro e; subst e; simp at hlt)
      obtain ⟨c0, c1, c2, c3, h0, h1, h2, h3, ht⟩ := (TmsIn.keep HB.out ks b off hin).at j hlt
      have hwj := wt_le (List.getElem_mem hlt)
      have HC : Hid _ := hks ks[j] (List.getElem_mem hlt) wr _ ht (by omega)
      have hg : w.heap.size < wr.heap.size := (Array.getElem?_eq_some_iff.1 hblk).1
      have hkeep : ∀ w1 : World, Below wr.heap.size wr w1 → w1.heap[w.heap.size]? = some (.cells cur 29 (0, 0)) := fun w1 hb => (hb.block _ hg).trans hblk
      have HK : Hid _ := hkeep
      clear hin ht h hks hkeep hblk
      go_wp2_with (go_at_call 6; refine (Calls.mono HC.out ?_); rintro e w1 ⟨v', F2, rfl, hown, hfr, hnd, hb⟩; obtain ⟨k', s', n', ao', len', cap', rfl⟩ := own_shape hown; have hg1 := HK.out w1 hb; have x0 := blk_cell (i := j * 4) hg1 (by omega); have x1 := blk_cell (i := j * 4 + 1) hg1 (by omega); have x2 := blk_cell (i := j * 4 + 2) hg1 (by omega); have x3 := blk_cell (i := j * 4 + 3) hg1 (by omega); have z0 := blk_frozen hg1 (j * 4); have z1 := blk_frozen hg1 (j * 4 + 1); have z2 := blk_frozen hg1 (j * 4 + 2); have z3 := blk_frozen hg1 (j * 4 + 3); have HOWN : Hid _ := hown; have HFR : Hid _ := hfr; have HG : Hid _ := hg1; have HBB : Hid _ := hb; clear hown hfr hg1 hb)
      go_roundw
      case rel =>
        have hsz := HB.out.size
        have hb1 := HBB.out
        have hg1 := HG.out
        obtain ⟨o1, o2, o3⟩ := HO.out
        have hlt1 := OwnRow.lt _ _ _ o1
        have hne : ∀ f, w.heap.size < f → f ≠ w.heap.size := fun f hf => by omega
        refine ⟨j + 1, _, F ++ F2, by omega, by go_num, ?_, blk_set (blk_set (blk_set (blk_set hg1 _) _) _) _, by simp; exact hcs, ?_, ?_, ?_⟩
        · exact below_set (below_set (below_set (below_set (HB.out.trans (hb1.mono hsz)) (Nat.le_refl _) _) (Nat.le_refl _) _) (Nat.le_refl _) _) (Nat.le_refl _) _
        · rw [List.take_succ_eq_append_getElem hlt, set4_take (by omega)]
          refine OwnRow.snoc (Own.keep _ _ _ HOWN.out fun f hf => ?_) _ _ _ (OwnRow.keep _ _ _ o1 fun f hf => ?_)
          · have h1 := HFR.out f hf
            rw [blk_other _ (hne f (by omega)), blk_other _ (hne f (by omega)), blk_other _ (hne f (by omega)), blk_other _ (hne f (by omega))]
          · have h1 := o2 f hf
            rw [blk_other _ (hne f h1), blk_other _ (hne f h1), blk_other _ (hne f h1), blk_other _ (hne f h1)]
            exact hb1.block f (hlt1 f hf)
        · intro f hf
          rcases List.mem_append.1 hf with hf | hf
          · exact o2 f hf
          · have := HFR.out f hf; omega
        · refine List.nodup_append.2 ⟨o3, hnd, fun a ha b hb => ?_⟩
          have h1 := hlt1 a ha
          have h2 := HFR.out b hb
          omega
      case measure => simp [intOf]; omega
    · obtain rfl : j = ks.length := by omega
      go_wp2
      go_ret
      obtain ⟨o1, o2, o3⟩ := HO.out
      rw [List.take_of_length_le (Nat.le_refl _)] at o1
      refine ⟨_, w.heap.size :: F, rfl, Or.inr ⟨w.heap.size, ks.length, cur.toList.take (ks.length * 4), F, rfl, ⟨by simp [hcs], Or.inr ⟨w.heap.size, ks.length, cur, rfl, Nat.zero_le _, hblk, Nat.le_refl _, by unfold maxLen; omega, hcs, rfl⟩⟩, rfl, o1⟩, ?_, ?_, HB.out⟩
      · intro f hf
        rcases List.mem_cons.1 hf with rfl | hf
        · exact Nat.le_refl _
        · have := o2 f hf; omega
      · refine List.nodup_cons.2 ⟨fun hf => ?_, o3⟩
        have := o2 _ hf
        omega

theorem to_term (t : Tm) : ToOk t := by
  refine tm_ind (p := ToOk) ?_ t
  clear t
  intro k s n ks hks w v hin hwt
  unfold TmIn at hin
  obtain ⟨ao, cap, rfl, hk, hn, hs, hlen, hcap, hrow⟩ := hin
  have ew : (Tm.mk k s n ks).wt = s.size + (ks.length + wts ks) := by simp [Tm.wt, wts]; omega
  rw [ew] at hwt
  have HS : Hid (∀ w', Below w.heap.size w w' → Calls Tryz.prog 12 #[.slice ao ks.length cap] w' fun e w2 => ∃ sl F, e = .returned sl ∧ OwnS 29 w2 ks sl F ∧ (∀ f ∈ F, w'.heap.size ≤ f) ∧ F.Nodup ∧ Below w'.heap.size w' w2) := fun w' hb =>
    to_terms ks hks w' ao cap (by omega) (fun h0 => by obtain ⟨b, off, e, hr⟩ := hrow h0; exact ⟨b, off, e, TmsIn.keep hb ks b off hr⟩)
  clear hks hrow ew
  go_enter Tryz.func6, Tryz.ntmps6
  go_wp2_with (fail)
  go_at_call 12
  refine (Calls.mono (HS.out _ ((((Below.refl _ _).alloc (Nat.le_refl _) _).alloc (by simp) _).alloc (by simp; omega) _)) ?_)
  rintro e w1 ⟨sl, F, rfl, hown, hfr, hnd, hb⟩
  obtain ⟨ao2, len2, cap2, rfl⟩ : ∃ ao2 len2 cap2, sl = .slice ao2 len2 cap2 := by
    rcases hown with ⟨rfl, _⟩ | ⟨g, cap, cs, F', rfl, _⟩
    · exact ⟨_, _, _, rfl⟩
    · exact ⟨_, _, _, rfl⟩
  have hb2 : w1.heap[w.heap.size + 1 + 1]? = some (.cells #[.int .i64 k, .string s, .int .i64 n, .slice none 0 0] 29 (0, 0)) := by
    rw [hb.block _ (by simp)]
    exact alloc_at _ _ (by simp)
  have hb1 : w1.heap[w.heap.size + 1]? = some (.cells #[.int .i64 0, .string ⟨#[]⟩, .int .i64 0, .slice none 0 0] 29 (0, 0)) := by
    rw [hb.block _ (by simp), alloc_old _ _ (by simp)]
    exact alloc_at _ _ (by simp)
  have HOWN : Hid _ := hown
  have HFR : Hid _ := hfr
  have HBB : Hid _ := hb
  have y0 := blk_cell (i := 0) hb2 (by simp)
  have y1 := blk_cell (i := 1) hb2 (by simp)
  have y2 := blk_cell (i := 2) hb2 (by simp)
  have y3 := blk_cell (i := 3) hb2 (by simp)
  have z3 := blk_frozen hb2 3
  have x0 := blk_cell (i := 0) hb1 (by simp)
  have x1 := blk_cell (i := 1) hb1 (by simp)
  have x2 := blk_cell (i := 2) hb1 (by simp)
  have x3 := blk_cell (i := 3) hb1 (by simp)
  have u0 := blk_frozen hb1 0
  have u1 := blk_frozen hb1 1
  have u2 := blk_frozen hb1 2
  have u3 := blk_frozen hb1 3
  simp only [List.getElem_toArray, List.getElem_cons_zero, List.getElem_cons_succ] at y0 y1 y2 y3 x0 x1 x2 x3
  have H1 : Hid _ := hb1
  clear hown hfr hb hb2 hb1 HS
  go_wp2
  have hsz := HBB.out.size
  simp at hsz
  have hbl : Below w.heap.size w w1 := ((((Below.refl _ _).alloc (Nat.le_refl _) _).alloc (by simp) _).alloc (by simp; omega) _).trans (HBB.out.mono (by simp; omega))
  have hR : (((((w1.setCell ⟨w.heap.size + 1 + 1, 3, none⟩ (.slice ao2 len2 cap2)).setCell ⟨w.heap.size + 1, 0, none⟩ (.int .i64 k)).setCell ⟨w.heap.size + 1, 1, none⟩ (.string s)).setCell ⟨w.heap.size + 1, 2, none⟩ (.int .i64 n)).setCell ⟨w.heap.size + 1, 3, none⟩ (.slice ao2 len2 cap2)).heap[w.heap.size + 1]? = some (.cells #[.int .i64 k, .string s, .int .i64 n, .slice ao2 len2 cap2] 29 (0, 0)) := by
    have := blk_set (i := 3) (blk_set (i := 2) (blk_set (i := 1) (blk_set (i := 0) ((blk_other (g := w.heap.size + 1 + 1) (i := 3) (w := w1) (.slice ao2 len2 cap2) (show w.heap.size + 1 ≠ w.heap.size + 1 + 1 by omega)).trans H1.out) (.int .i64 k)) (.string s)) (.int .i64 n)) (.slice ao2 len2 cap2)
    simpa using this
  refine bodyPost_ret_by (results_cell_row rfl _ _ (w.heap.size + 1) 29 _ (0, 0) _ rfl hR Tryz.underlying29 rfl (by kernel_rfl)) rfl ?_
  refine ⟨_, F, rfl, own_mk ?_ hk hn hs, ?_, hnd, ?_⟩
  · refine OwnS.keep HOWN.out fun f hf => ?_
    have := HFR.out f hf
    simp at this
    rw [blk_other _ (by omega), blk_other _ (by omega), blk_other _ (by omega), blk_other _ (by omega), blk_other _ (by omega)]
  · intro f hf
    have := HFR.out f hf
    simp at this
    omega
  · exact below_set (below_set (below_set (below_set (below_set hbl (by omega) _) (by omega) _) (by omega) _) (by omega) _) (by omega) _
end Go.Proofs.YtenmhpalpfppmaoGreatDoor

/- A block of four cells. Of no program. -/
namespace Go.Proofs.YtenmhpalpfppmaoGreatDoor
open Go.RowKit

theorem blk4 {w : World} {g : Nat} {c0 c1 c2 c3 : Value} {T : TypeId} (h : w.heap[g]? = some (.cells #[c0, c1, c2, c3] T (0, 0))) :
    w.cell? ⟨g, 0, none⟩ = some c0 ∧ w.cell? ⟨g, 1, none⟩ = some c1 ∧ w.cell? ⟨g, 2, none⟩ = some c2 ∧ w.cell? ⟨g, 3, none⟩ = some c3 ∧ w.frozen? ⟨g, 0, none⟩ = false ∧ w.frozen? ⟨g, 1, none⟩ = false ∧ w.frozen? ⟨g, 2, none⟩ = false ∧ w.frozen? ⟨g, 3, none⟩ = false :=
  ⟨blk_cell (i := 0) h (by simp), blk_cell (i := 1) h (by simp), blk_cell (i := 2) h (by simp), blk_cell (i := 3) h (by simp), blk_frozen h 0, blk_frozen h 1, blk_frozen h 2, blk_frozen h 3⟩

/-- four cells of a block set, one behind the other -/
theorem blk4_set {w : World} {g : Nat} {c0 c1 c2 c3 d0 d1 d2 d3 : Value} {T : TypeId} (h : w.heap[g]? = some (.cells #[c0, c1, c2, c3] T (0, 0))) :
    ((((w.setCell ⟨g, 0, none⟩ d0).setCell ⟨g, 1, none⟩ d1).setCell ⟨g, 2, none⟩ d2).setCell ⟨g, 3, none⟩ d3).heap[g]? = some (.cells #[d0, d1, d2, d3] T (0, 0)) := by
  have := blk_set (i := 3) (blk_set (i := 2) (blk_set (i := 1) (blk_set (i := 0) h d0) d1) d2) d3
  simpa using this
theorem blk4_other {w : World} {g f : Nat} {d0 d1 d2 d3 : Value} (h : f ≠ g) :
    ((((w.setCell ⟨g, 0, none⟩ d0).setCell ⟨g, 1, none⟩ d1).setCell ⟨g, 2, none⟩ d2).setCell ⟨g, 3, none⟩ d3).heap[f]? = w.heap[f]? := by
  rw [blk_other _ h, blk_other _ h, blk_other _ h, blk_other _ h]
theorem blk4_below {B : Nat} {w w' : World} {g : Nat} {d0 d1 d2 d3 : Value} (hb : Below B w w') (hg : B ≤ g) :
    Below B w ((((w'.setCell ⟨g, 0, none⟩ d0).setCell ⟨g, 1, none⟩ d1).setCell ⟨g, 2, none⟩ d2).setCell ⟨g, 3, none⟩ d3) :=
  below_set (below_set (below_set (below_set hb hg _) hg _) hg _) hg _

end Go.Proofs.YtenmhpalpfppmaoGreatDoor

/- A region that draws its order, reads memory, and holds calls which make memory, but whose values do not hang on what is made: walked once, in the order of the text, over all worlds that are as the first one was below its end. -/
namespace Go.Proofs.YtenmhpalpfppmaoGreatDoor
open Go.RowKit

/-- any world that is as W was below W's end (and W itself in the place of any other) -/
noncomputable def later (W u : World) : World := @ite _ (Below W.heap.size W u) (Classical.propDecidable _) u W

theorem later_below (W u : World) : Below W.heap.size W (later W u) := by
  unfold later
  split
  · assumption
  · exact Below.refl _ _
theorem later_of {W u : World} (h : Below W.heap.size W u) : u = later W u := by
  unfold later
  rw [if_pos h]

theorem wp_region_later {P : Program} {id : Nat} {Q : Exit → Act → World → Prop} {a : Act} {w : World} {l : List Oper} (hm : P.follows .mixedOrders = true) (hB : Region.lexB .any l.toArray = true)
    (h : wpQuiet P l.toArray (fun w' => ∃ u, w' = later w u) (fun a' => ∀ w', (∃ u, w' = later w u) → Q .normal a' w') l a) : (Code.region id l.toArray true).wp P Q a w :=
  wp_region_quiet (C := fun w' => ∃ u, w' = later w u) hm hB ⟨w.drew, later_of (Below.refl w.heap.size w).drew⟩ (by simpa using h)
theorem Calls.later_of_below {P : Program} {f : FuncId} {args : Array Value} {w u : World} {v : Value} (h : Calls P f args (later w u) fun e w' => e = .returned v ∧ Below (later w u).heap.size (later w u) w') :
    Calls P f args (later w u) fun e w' => e = .returned v ∧ ∃ u', w' = later w u' :=
  h.mono fun _ w' ⟨he, hb⟩ => ⟨he, w', later_of ((later_below w u).trans (hb.mono (later_below w u).size))⟩
theorem Calls.later_of_same {P : Program} {f : FuncId} {args : Array Value} {w u : World} {v : Value} (h : Calls P f args (later w u) fun e w' => e = .returned v ∧ w' = later w u) :
    Calls P f args (later w u) fun e w' => e = .returned v ∧ ∃ u', w' = later w u' :=
  h.mono fun _ _ ⟨he, hb⟩ => ⟨he, u, hb⟩
end Go.Proofs.YtenmhpalpfppmaoGreatDoor

/- The specification's l07Op, l03Is; what a right term is, kind by kind. -/
namespace Go.Proofs.YtenmhpalpfppmaoGreatDoor
open Go.RowKit

theorem opV_agg (o : Option OpP) : ∃ (a : ByteArray) (b c d : Int), opV o = .agg #[.string a, .int .i64 b, .int .i64 c, .int .i64 d] := by
  cases o with
  | none => exact ⟨_, _, _, _, rfl⟩
  | some o => exact ⟨_, _, _, _, rfl⟩
set_option maxHeartbeats 1000000 in
theorem s_op (s : ByteArray) (w : World) :
    Calls Tryz.prog 19 #[.string s] w fun e w' => e = .returned (.bool (isOpB s)) ∧ Below w.heap.size w w' := by
  have HI : Hid _ := fun w => c_infix s w
  have HP : Hid _ := fun w => c_prefix s w
  unfold isOpB
  obtain ⟨a0, a1, a2, a3, ea⟩ := opV_agg (infixP s)
  obtain ⟨b0, b1, b2, b3, eb⟩ := opV_agg (prefixP s)
  rw [ea] at HI
  rw [eb] at HP
  generalize (infixP s).isSome = x at *
  generalize (prefixP s).isSome = y at *
  clear ea eb
  cases x <;> cases y
  all_goals
    go_enter Tryz.func19, Tryz.ntmps19
    go_wp2_with (first
      | (go_at_call 23; refine (Calls.mono (HI.out _) ?_); rintro e w1 ⟨rfl, b1⟩; have B1 : Hid (Below w.heap.size w w1) := b1; clear b1)
      | (go_at_call 32; refine (Calls.mono (HP.out _) ?_); rintro e w2 ⟨rfl, b2⟩; have B2 : Hid (Below w.heap.size w w2) := (B1.out.alloc B1.out.size _).trans (b2.mono (by have := B1.out.size; simp; omega)); clear b2))
    go_ret
    exact ⟨rfl, B2.out.alloc B2.out.size _⟩

def isPairB (k : Int) (s : ByteArray) (l : Nat) : Bool := decide (k = 4) && decide (s = cDot) && decide (l = 2)
set_option maxHeartbeats 1000000 in
theorem s_pair (k : Int) (s : ByteArray) (n : Int) (ao : Option Addr) (l cap : Nat) (w : World) (hl : l ≤ maxLen) :
    Calls Tryz.prog 21 #[.agg #[.int .i64 k, .string s, .int .i64 n, .slice ao l cap], .string ⟨#[46]⟩, .int .i64 2] w fun e w' => e = .returned (.bool (isPairB k s l)) ∧ Below w.heap.size w w' := by
  unfold maxLen at hl
  have hb0 : Hid (Below w.heap.size w (w.alloc (.cells #[.int .i64 k, .string s, .int .i64 n, .slice ao l cap] 29))) := (Below.refl _ _).alloc (Nat.le_refl _) _
  obtain ⟨r, hr⟩ : ∃ r, r = isPairB k s l := ⟨_, rfl⟩
  have HV : Hid (r = isPairB k s l) := hr
  rw [← hr]
  clear hr
  by_cases h1 : k = 4
  · subst h1
    by_cases h2 : s = ⟨#[46]⟩
    · subst h2
      by_cases h3 : l = 2
      · subst h3
        go_enter Tryz.func21, Tryz.ntmps21
        go_wp2
        go_ret
        exact ⟨by rw [HV.out]; rfl, hb0.out⟩
      · have h3' : ((l : Int) == 2) = false := beq_eq_false_iff_ne.2 (by omega)
        have HF : Hid (isPairB 4 ⟨#[46]⟩ l = false) := by show _ = _; simp [isPairB, h3]
        clear h3
        go_enter Tryz.func21, Tryz.ntmps21
        go_wp2
        go_ret
        exact ⟨by rw [HV.out, HF.out]; rfl, hb0.out⟩
    · have h2' := toL_ne (l := [46]) h2
      have HF : Hid (isPairB 4 s l = false) := by
        have : ¬ s = cDot := h2
        show _ = _; simp [isPairB, this]
      clear h2
      go_enter Tryz.func21, Tryz.ntmps21
      go_wp2
      go_ret
      exact ⟨by rw [HV.out, HF.out]; rfl, hb0.out⟩
  · have h1' : (k == 4) = false := beq_eq_false_iff_ne.2 h1
    have HF : Hid (isPairB k s l = false) := by show _ = _; simp [isPairB, h1]
    clear h1
    go_enter Tryz.func21, Tryz.ntmps21
    go_wp2
    go_ret
    exact ⟨by rw [HV.out, HF.out]; rfl, hb0.out⟩

/-- what a right term is -/
theorem right_kinds {k : Int} {s : ByteArray} {n : Int} {ks : List Tm} {d : Nat} (h : (Tm.mk k s n ks).right d = true) :
    ((k = 1 ∨ k = 3) ∧ s.size = 0 ∧ -999999999 ≤ n ∧ n ≤ 999999999 ∧ ks = [] ∧ (k = 1 → 0 ≤ n)) ∨ (k = 2 ∧ s.size ≤ 20 ∧ n = 0 ∧ ks = []) ∨ (k = 4 ∧ s.size ≤ 20 ∧ n = 0 ∧ 1 ≤ ks.length ∧ ks.length ≤ 5) := by
  rw [right_mk, Bool.and_eq_true, Bool.and_eq_true] at h
  obtain ⟨⟨_, h⟩, _⟩ := h
  unfold oneT at h
  by_cases h1 : k = 1
  · rw [if_pos h1] at h
    simp only [Bool.and_eq_true, decide_eq_true_eq] at h
    exact Or.inl ⟨Or.inl h1, h.1.2, by omega, by omega, List.eq_nil_of_length_eq_zero h.2, fun _ => h.1.1.1⟩
  by_cases h2 : k = 2
  · rw [if_neg h1, if_pos h2] at h
    simp only [nameOk, Bool.and_eq_true, decide_eq_true_eq] at h
    exact Or.inr (Or.inl ⟨h2, by omega, h.1.2, List.eq_nil_of_length_eq_zero h.2⟩)
  by_cases h3 : k = 3
  · rw [if_neg h1, if_neg h2, if_pos h3] at h
    simp only [Bool.and_eq_true, decide_eq_true_eq] at h
    exact Or.inl ⟨Or.inr h3, h.1.2, by omega, by omega, List.eq_nil_of_length_eq_zero h.2, fun e => absurd e h1⟩
  rw [if_neg h1, if_neg h2, if_neg h3] at h
  split at h
  · rename_i h4
    simp only [nameOk, Bool.and_eq_true, decide_eq_true_eq] at h
    exact Or.inr (Or.inr ⟨h4, by omega, h.1.2, h.2.1, h.2.2⟩)
  · cases h
theorem right_kid {k : Int} {s : ByteArray} {n : Int} {ks : List Tm} {d : Nat} (h : (Tm.mk k s n ks).right d = true) {u : Tm} (hu : u ∈ ks) : u.right (d + 1) = true := by
  rw [right_mk, Bool.and_eq_true, Bool.and_eq_true, rights_all, List.all_eq_true] at h
  exact h.2 u hu
theorem n_kid {ks : List Tm} {u : Tm} (hu : u ∈ ks) : u.n ≤ ns ks := by
  induction ks with
  | nil => cases hu
  | cons a r ih =>
    have e : ns (a :: r) = a.n + ns r := by simp [ns, Tm.n.ns]
    rcases List.mem_cons.1 hu with rfl | h
    · omega
    · have := ih h; omega
theorem decI_neg {n : Int} (h : n < 0) : 45 :: decI (-n) = decI n := by
  have e : decI n = 45 :: decR n.natAbs := by rw [decI, if_pos h]
  rw [e, decI, if_neg (by omega), decB, if_neg (by omega)]
  congr 2
  omega
/-- its value's shape -/
theorem tm_open {w : World} {k : Int} {s : ByteArray} {n : Int} {ks : List Tm} {v : Value} (h : TmIn w (.mk k s n ks) v) :
    ∃ ao cap, v = .agg #[.int .i64 k, .string s, .int .i64 n, .slice ao ks.length cap] ∧ s.size ≤ maxLen ∧ ks.length ≤ cap ∧ cap ≤ maxLen ∧ (ks ≠ [] → ∃ b off, ao = some ⟨b, off, none⟩ ∧ TmsIn w ks b off) := by
  unfold TmIn at h
  obtain ⟨ao, cap, rfl, _, _, h3, h4, h5, h6⟩ := h
  exact ⟨ao, cap, rfl, h3, h4, h5, h6⟩
end Go.Proofs.YtenmhpalpfppmaoGreatDoor

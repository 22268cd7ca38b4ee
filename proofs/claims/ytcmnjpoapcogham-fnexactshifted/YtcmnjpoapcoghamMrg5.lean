/- Four texts in one. -/
import Derived.Test.YtcmnjpoapcoghamRows
import Derived.Test.YtcmnjpoapcoghamMrg2
import Derived.Laws.AppendOwn
import Derived.ProofKit
import Derived.WalkKit
import Derived.StillTail
import Derived.Test.YtcmnjpoapcoghamMrg4
import Derived.Deep.DeepCutAuto
import Derived.Test.YtcmnjpoapcoghamMrg3
import Derived.Test.YtcmnjpoapcoghamMrg1
/- spec.l34Term, spec.l34Terms: a copy in memory of its own. -/
namespace Go.Proofs.Ytcmnjpoapcogham
open Go.RowKit

def L34Ok (t : Tm) : Prop := ∀ (w : World) (v : Value), TmIn w t v → t.wt ≤ 1048576 →
  Calls Try.prog 33 #[v] w fun e w' => ∃ v' F, e = .returned v' ∧ Own 28 w' t v' F ∧ (∀ f ∈ F, w.heap.size ≤ f) ∧ F.Nodup ∧ Below w.heap.size w w'

set_option maxRecDepth 20000 in
theorem l34_terms (ks : List Tm) (hks : ∀ t ∈ ks, L34Ok t) (w : World) (ao : Option Addr) (cap : Nat) (hlen : ks.length + wts ks ≤ 1048576) (h : ks ≠ [] → ∃ b off, ao = some ⟨b, off, none⟩ ∧ TmsIn w ks b off) :
    Calls Try.prog 57 #[.slice ao ks.length cap] w fun e w' => ∃ sl F, e = .returned sl ∧ OwnS 28 w' ks sl F ∧ (∀ f ∈ F, w.heap.size ≤ f) ∧ F.Nodup ∧ Below w.heap.size w w' := by
  obtain ⟨i0, hi, hz0, hz1, hz2⟩ := info_parts infoT
  go_enter Try.func57, Try.ntmps57
  go_wp2
  go_loopw [3, 4] (fun vo vi wr => ∃ (j : Nat) (F : List Nat) (v : Value), j ≤ ks.length ∧ vi = .int .i64 (j : Int) ∧ v = vo ∧ Hid (Below w.heap.size w wr) ∧ Hid (OutS 28 wr w.heap.size (ks.take j) v F)) (fun _ i _ => ks.length - (intOf i).toNat)
  case atStart =>
    exact ⟨0, [], _, by omega, rfl, rfl, (Below.refl _ _).alloc (Nat.le_refl _) _, outS_new (Nat.le_refl _) 0 (Nat.zero_le _) _ rfl⟩
  case round =>
    obtain ⟨j, F, vo, hj, rfl, rfl, HB, HO⟩ := hrel
    by_cases hlt : j < ks.length
    · obtain ⟨b, off, rfl, hin⟩ := h (by intro e; subst e; simp at hlt)
      obtain ⟨c0, c1, c2, c3, h0, h1, h2, h3, ht⟩ := (TmsIn.keep HB.out ks b off hin).at j hlt
      have hwj := wt_le (List.getElem_mem hlt)
      have HC : Hid _ := hks ks[j] (List.getElem_mem hlt) wr _ ht (by omega)
      obtain ⟨g, cp, rfl, hBg, hgl, _, _⟩ := HO.out.shape
      have hl : (ks.take j).length = j := by rw [List.length_take]; omega
      rw [hl]
      have HK : Hid (∀ w1, Below wr.heap.size wr w1 → ∃ cs, w1.ownsRow w.heap.size 28 4 (.slice (some ⟨g, 0, none⟩) j cp) j cs ∧ OwnRow 28 w1 (ks.take j) cs F ∧ (∀ f ∈ F, w.heap.size ≤ f) ∧ (g :: F).Nodup ∧ (∀ f ∈ g :: F, f < wr.heap.size)) := fun w1 hb => by
        have hlt' := HO.out.lt
        obtain ⟨cs, g', q1, q2, q3, q4, q5, q6⟩ := HO.out.keep fun k _ hk => hb.block k hk
        obtain rfl : g = g' := by simpa [Value.ownBlock] using q2
        rw [hl] at q1
        refine ⟨cs, q1, q3, q4, q6, fun f hf => ?_⟩
        rcases List.mem_cons.1 hf with rfl | hf
        · exact hlt'.2 _ rfl
        · exact hlt'.1 f hf
      have hszw := HB.out.size
      clear hin ht h hks hl
      go_wp2_with (first
        | (go_at_call 33; refine (Calls.mono HC.out ?_); rintro e w1 ⟨v', F2, rfl, hown, hfr, hnd, hb⟩; obtain ⟨k', s', n', ao', len', cap', rfl⟩ := own_shape hown; have HOWN : Hid (Own 28 w1 ks[j] (.agg #[.int .i64 k', .string s', .int .i64 n', .slice ao' len' cap']) F2) := hown; have HFR : Hid (∀ f ∈ F2, wr.heap.size ≤ f) := hfr; have HND : Hid (F2.Nodup) := hnd; have HBB : Hid (Below wr.heap.size wr w1) := hb; have hsz1 := hb.size; obtain ⟨cs, q1, q3, q4, q6, q7⟩ := HK.out w1 hb; have Q1 : Hid (w1.ownsRow w.heap.size 28 4 (.slice (some ⟨g, 0, none⟩) j cp) j cs) := q1; have Q3 : Hid (OwnRow 28 w1 (ks.take j) cs F) := q3; have Q4 : Hid (∀ f ∈ F, w.heap.size ≤ f) := q4; have Q6 : Hid ((g :: F).Nodup) := q6; have Q7 : Hid (∀ f ∈ g :: F, f < wr.heap.size) := q7; clear q1 q3 q4 q6 q7 hown hfr hb hnd)
        | (at_builtin; go_loud (refine wpList_append_own_at _ rfl _ _ 26 rfl w.heap.size 28 i0 (.agg #[.int .i64 0, .string ⟨#[]⟩, .int .i64 0, .slice none 0 0]) 4 56 Try.underlying26 hi hz0 hz1 hz2 rfl (by decide) _ _ _ rfl (Q1.out.alloc _) ⟨w1.heap.size, 0, none⟩ 1 1 [.int .i64 k', .string s', .int .i64 n', .slice ao' len' cap'] rfl rfl ?c1 ?c2 ?c3 ?c4 ?c5 ?_)))
      case c1 =>
        intro j z hj
        match j, hj with
        | 0, hj => simp at hj; subst hj; simp [Addr.add]
        | 1, hj => simp at hj; subst hj; simp [Addr.add]
        | 2, hj => simp at hj; subst hj; simp [Addr.add]
        | 3, hj => simp at hj; subst hj; simp [Addr.add]
      case c2 => intro z hz; simp at hz; rcases hz with rfl | rfl | rfl | rfl <;> rfl
      case c3 => unfold maxLen; omega
      case c4 => omega
      case c5 => simp; omega
      · intro v' w2 hown' hgrow _ hat
        obtain ⟨W, hW⟩ : ∃ W, W = w1.alloc (.cells #[.int .i64 k', .string s', .int .i64 n', .slice ao' len' cap'] 28) := ⟨_, rfl⟩
        rw [← hW] at hgrow
        rw [show w1.heap.size + 1 = W.heap.size by rw [hW]; simp] at hat
        have bW : Below w1.heap.size w1 W := by rw [hW]; exact (Below.refl _ _).alloc (Nat.le_refl _) _
        have HFIN : Hid (OutS 28 w2 w.heap.size (ks.take j ++ [ks[j]]) v' (F ++ F2)) := by
          have q7 := Q7.out
          refine OutS.push (w1 := W) (g := g) (cs := cs) ?_ rfl (OwnRow.keep _ _ _ Q3.out fun f hf => bW.block f (OwnRow.lt _ _ _ Q3.out f hf)) Q4.out hBg Q6.out (Own.keep _ _ _ HOWN.out fun f hf => bW.block f (Own.lt _ _ _ HOWN.out f hf)) (fun f hf => by have := HFR.out f hf; omega) HND.out (fun f hf h' => by have := HFR.out f hf; have := q7 f h'; omega) ?_ hgrow hat
          · rw [List.length_take, Nat.min_eq_left hj, hW]; exact World.ownsRow.alloc Q1.out _
          · rw [List.length_take, Nat.min_eq_left hj]; exact hown'
        have HBN : Hid (Below w.heap.size w w2) := by
          have b1 : Below w.heap.size w W := (HB.out.trans (HBB.out.mono hszw)).trans (bW.mono (by omega))
          refine ⟨hgrow.os.trans b1.os, hgrow.tape.trans b1.tape, hgrow.output.trans b1.output, Nat.le_trans b1.size hgrow.size, fun k hk => ?_⟩
          rw [hgrow.block k (Nat.lt_of_lt_of_le hk b1.size) (by intro e; have : k = g := by simpa [Value.ownBlock] using e
                                                                omega)]
          exact b1.block k hk
        clear hown' hgrow hat Q1 Q3 Q4 Q6 Q7 HOWN HFR HND HBB bW hW
        go_wp2
        go_roundw
        case rel => exact ⟨j + 1, _, _, by omega, by go_num, rfl, HBN.out, by rw [List.take_succ_eq_append_getElem hlt]; exact HFIN.out⟩
        case measure => simp [intOf]; omega
    · have HE : Hid (OutS 28 wr w.heap.size ks vo F) := by
        have := HO.out
        rw [List.take_of_length_le (by omega)] at this
        exact this
      obtain ⟨g, cp, rfl, _⟩ := HE.out.shape
      clear HO
      go_wp2
      go_ret
      obtain ⟨F', q1, q2, q3⟩ := HE.out.own
      exact ⟨_, F', rfl, q1, q2, q3, HB.out⟩

set_option maxRecDepth 20000 in
theorem l34_term (t : Tm) : L34Ok t := by
  refine tm_ind (p := L34Ok) ?_ t
  clear t
  intro k s n ks hks w v hin hwt
  unfold TmIn at hin
  obtain ⟨ao, cap, rfl, hk, hn, hs, hlen, hcap, hrow⟩ := hin
  have ew : (Tm.mk k s n ks).wt = s.size + (ks.length + wts ks) := by simp [Tm.wt, wts]; omega
  rw [ew] at hwt
  obtain ⟨W, hW⟩ : ∃ W, W = (w.alloc (.cells #[.int .i64 k, .string s, .int .i64 n, .slice ao ks.length cap] 28)).alloc (.cells #[.int .i64 0, .string ⟨#[]⟩, .int .i64 0, .slice none 0 0] 28) := ⟨_, rfl⟩
  have bW : Below w.heap.size w W := by rw [hW]; exact ((Below.refl _ _).alloc (Nat.le_refl _) _).alloc (by simp) _
  have HC := l34_terms ks hks W ao cap (by omega) (fun h0 => by obtain ⟨b, off, e, hr⟩ := hrow h0; exact ⟨b, off, e, TmsIn.keep bW ks b off hr⟩)
  have k1 : W.heap[w.heap.size]? = some (.cells #[.int .i64 k, .string s, .int .i64 n, .slice ao ks.length cap] 28 (0, 0)) := by rw [hW]; exact (alloc_old _ _ (by simp)).trans (alloc_at _ _ rfl)
  have k2 : W.heap[w.heap.size + 1]? = some (.cells #[.int .i64 0, .string ⟨#[]⟩, .int .i64 0, .slice none 0 0] 28 (0, 0)) := by rw [hW]; exact alloc_at _ _ (by simp)
  have lW : W.heap.size = w.heap.size + 2 := by rw [hW]; simp
  rw [hW] at HC
  replace HC : Hid _ := HC
  have HBW : Hid (Below w.heap.size w W) := bW
  have HK : Hid (∀ w1, Below W.heap.size W w1 → w1.heap[w.heap.size]? = some (.cells #[.int .i64 k, .string s, .int .i64 n, .slice ao ks.length cap] 28 (0, 0)) ∧ w1.heap[w.heap.size + 1]? = some (.cells #[.int .i64 0, .string ⟨#[]⟩, .int .i64 0, .slice none 0 0] 28 (0, 0))) := fun w1 hb => ⟨(hb.block _ (by omega)).trans k1, (hb.block _ (by omega)).trans k2⟩
  clear hks hrow ew k1 k2 bW
  go_enter Try.func33, Try.ntmps33
  go_wp2_with (go_at_call 57; refine (Calls.mono HC.out ?_); rintro e w1 ⟨sl, F, rfl, hown, hfr, hnd, hb⟩; rw [← hW] at hfr hb; obtain ⟨ao2, len2, cap2, rfl⟩ : ∃ ao2 len2 cap2, sl = .slice ao2 len2 cap2 := (by rcases hown with ⟨rfl, _⟩ | ⟨g, cap, cs, F', rfl, _⟩ <;> exact ⟨_, _, _, rfl⟩); obtain ⟨hb2, hb1⟩ := HK.out w1 hb; have HOWN : Hid (OwnS 28 w1 ks (.slice ao2 len2 cap2) F) := hown; have HFR : Hid (∀ f ∈ F, W.heap.size ≤ f) := hfr; have HBB : Hid (Below W.heap.size W w1) := hb; have y0 := blk_cell (i := 0) hb2 (by simp); have y1 := blk_cell (i := 1) hb2 (by simp); have y2 := blk_cell (i := 2) hb2 (by simp); have y3 := blk_cell (i := 3) hb2 (by simp); have z3 := blk_frozen hb2 3; have x0 := blk_cell (i := 0) hb1 (by simp); have x1 := blk_cell (i := 1) hb1 (by simp); have x2 := blk_cell (i := 2) hb1 (by simp); have x3 := blk_cell (i := 3) hb1 (by simp); have u0 := blk_frozen hb1 0; have u1 := blk_frozen hb1 1; have u2 := blk_frozen hb1 2; have u3 := blk_frozen hb1 3; simp only [List.getElem_toArray, List.getElem_cons_zero, List.getElem_cons_succ] at y0 y1 y2 y3 x0 x1 x2 x3; have H1 : Hid (w1.heap[w.heap.size + 1]? = some (.cells #[.int .i64 0, .string ⟨#[]⟩, .int .i64 0, .slice none 0 0] 28 (0, 0))) := hb1; clear hown hfr hb hb2 hb1)
  have hsz := HBB.out.size
  have hR : (((((w1.setCell ⟨w.heap.size, 3, none⟩ (.slice ao2 len2 cap2)).setCell ⟨w.heap.size + 1, 0, none⟩ (.int .i64 k)).setCell ⟨w.heap.size + 1, 1, none⟩ (.string s)).setCell ⟨w.heap.size + 1, 2, none⟩ (.int .i64 n)).setCell ⟨w.heap.size + 1, 3, none⟩ (.slice ao2 len2 cap2)).heap[w.heap.size + 1]? = some (.cells #[.int .i64 k, .string s, .int .i64 n, .slice ao2 len2 cap2] 28 (0, 0)) := by
    have := blk_set (i := 3) (blk_set (i := 2) (blk_set (i := 1) (blk_set (i := 0) ((blk_other (g := w.heap.size) (i := 3) (w := w1) (.slice ao2 len2 cap2) (show w.heap.size + 1 ≠ w.heap.size by omega)).trans H1.out) (.int .i64 k)) (.string s)) (.int .i64 n)) (.slice ao2 len2 cap2)
    simpa using this
  have hbl : Below w.heap.size w w1 := HBW.out.trans (HBB.out.mono HBW.out.size)
  refine bodyPost_ret_by (results_cell_row rfl _ _ (w.heap.size + 1) 28 _ (0, 0) _ rfl hR Try.underlying28 rfl (by kernel_rfl)) rfl ?_
  refine ⟨_, F, rfl, own_mk ?_ hk hn hs, ?_, hnd, ?_⟩
  · refine OwnS.keep HOWN.out fun f hf => ?_
    have := HFR.out f hf
    rw [blk_other _ (by omega), blk_other _ (by omega), blk_other _ (by omega), blk_other _ (by omega), blk_other _ (by omega)]
  · intro f hf
    have := HFR.out f hf
    omega
  · exact below_set (below_set (below_set (below_set (below_set hbl (by omega) _) (by omega) _) (by omega) _) (by omega) _) (by omega) _
end Go.Proofs.Ytcmnjpoapcogham

/- A region that draws its order and makes memory: each of its first operations is shown once, over all worlds that are as the first one was below its end, with what it leaves behind for the others; what is so stays so; then the rest of the region in its own order. -/
namespace Go.Proofs.Ytcmnjpoapcogham
open Go.RowKit

def dstOf (ops : Array Oper) (i : Nat) : Nat := ((ops[i]?).bind (·.dst)).getD 0

def firstN (m n : Nat) : Array Bool := Array.ofFn (n := m) fun i => decide (i.val < n)

/-- the look at a region's text -/
def factsB (ops : Array Oper) (n : Nat) : Bool :=
  decide (n < ops.size) && Region.sinkB .any ops n && Region.chainB .any ops n && Region.seqB .any ops (ops.size - n) n (firstN ops.size n) &&
  (List.range n).all (fun i => match ops[i]? with | some o => o.guard.isNone && o.dst.isSome && o.after.all (fun e => !Region.binds .any e || decide (e.on < i)) && ((List.range i).all fun j => dstOf ops j != dstOf ops i) | none => false)

structure FrameAt (ops : Array Oper) (n : Nat) (a0 a : Act) : Prop where
  size : a.tmps.size = a0.tmps.size
  defers : a.defers = a0.defers
  same : ∀ s, (∀ i, i < n → dstOf ops i ≠ s) → a.tmps.getD s undef = a0.tmps.getD s undef

def putN (ops : Array Oper) (a0 : Act) (vals : Nat → Value) : Nat → Act
  | 0 => a0
  | k + 1 => (putN ops a0 vals k).put ((ops[k]?).bind (·.dst)) (vals k)

section
variable {P : Program} {ops : Array Oper} {Q : Exit → Act → World → Prop} {n : Nat}

theorem put_getD {a : Act} {d s : Nat} {v : Value} (hd : d < a.tmps.size) : (a.put (some d) v).tmps.getD s undef = if d = s then v else a.tmps.getD s undef := by
  unfold Act.put
  by_cases h : d = s
  · subst h; simp [hd]
  · simp [h, Array.getElem?_setIfInBounds_ne h]
theorem put_size {a : Act} {d : Nat} {v : Value} : (a.put (some d) v).tmps.size = a.tmps.size := by unfold Act.put; simp
theorem put_defers {a : Act} {d : Nat} {v : Value} : (a.put (some d) v).defers = a.defers := by unfold Act.put; rfl

structure FactsOk (ops : Array Oper) (n : Nat) : Prop where
  lt : n < ops.size
  sink : Region.sinkB .any ops n = true
  chain : Region.chainB .any ops n = true
  seq : Region.seqB .any ops (ops.size - n) n (firstN ops.size n) = true
  ops : ∀ i, i < n → ∃ o d, ops[i]? = some o ∧ o.guard = none ∧ o.dst = some d ∧ dstOf ops i = d ∧ (∀ e ∈ o.after, Region.binds .any e = true → e.on < i) ∧ ∀ j, j < i → dstOf ops j ≠ d

theorem factsOk_of (h : factsB ops n = true) : FactsOk ops n := by
  unfold factsB at h
  simp only [Bool.and_eq_true, decide_eq_true_eq] at h
  obtain ⟨⟨⟨⟨h1, h2⟩, h3⟩, h4⟩, h5⟩ := h
  refine ⟨h1, h2, h3, h4, fun i hi => ?_⟩
  have h6 := List.all_eq_true.1 h5 i (by simpa using hi)
  cases ho : ops[i]? with
  | none => rw [ho] at h6; cases h6
  | some o =>
    rw [ho] at h6
    simp only [Bool.and_eq_true] at h6
    obtain ⟨⟨⟨h7, h8⟩, h9⟩, h10⟩ := h6
    obtain ⟨d, hd⟩ := Option.isSome_iff_exists.1 h8
    have hdd : dstOf ops i = d := by unfold dstOf; rw [ho]; simp [hd]
    refine ⟨o, d, rfl, by simpa using h7, hd, hdd, fun e he hb => ?_, fun j hj => ?_⟩
    · obtain ⟨q, hq, rfl⟩ := Array.mem_iff_getElem.1 he
      have := Array.all_eq_true.1 h9 q hq
      rw [hb] at this
      simpa using this
    · have := List.all_eq_true.1 h10 j (by simpa using hj)
      rw [hdd] at this
      simpa using this

theorem putN_at (hf : FactsOk ops n) {a0 : Act} (hsz : ∀ i, i < n → dstOf ops i < a0.tmps.size) (vals : Nat → Value) : ∀ k, k ≤ n →
    (putN ops a0 vals k).tmps.size = a0.tmps.size ∧ (putN ops a0 vals k).defers = a0.defers ∧ (∀ i, i < k → (putN ops a0 vals k).tmps.getD (dstOf ops i) undef = vals i) ∧ ∀ s, (∀ i, i < k → dstOf ops i ≠ s) → (putN ops a0 vals k).tmps.getD s undef = a0.tmps.getD s undef
  | 0, _ => ⟨rfl, rfl, fun i hi => absurd hi (Nat.not_lt_zero _), fun _ _ => rfl⟩
  | k + 1, hk => by
    obtain ⟨h1, h2, h3, h4⟩ := putN_at hf hsz vals k (by omega)
    obtain ⟨o, d, ho, _, hd, hdd, _, hne⟩ := hf.ops k (by omega)
    have hlt := hsz k (by omega)
    rw [hdd] at hlt
    have e : putN ops a0 vals (k + 1) = (putN ops a0 vals k).put (some d) (vals k) := by
      show (putN ops a0 vals k).put ((ops[k]?).bind (·.dst)) (vals k) = _
      rw [ho]; simp [hd]
    rw [e]
    refine ⟨by rw [put_size]; exact h1, by rw [put_defers]; exact h2, fun i hi => ?_, fun s hs => ?_⟩
    · rw [put_getD (by omega)]
      by_cases hik : i = k
      · subst hik; rw [if_pos hdd.symm]
      · rw [if_neg (fun e => hne i (by omega) e.symm)]
        exact h3 i (by omega)
    · rw [put_getD (by omega), if_neg (fun e => hs k (by omega) (by rw [hdd]; exact e))]
      exact h4 s fun i hi => hs i (by omega)

theorem frame_putN (hf : FactsOk ops n) {a0 a : Act} (hsz : ∀ i, i < n → dstOf ops i < a0.tmps.size) (h : FrameAt ops n a0 a) : a = putN ops a0 (fun i => a.tmps.getD (dstOf ops i) undef) n := by
  obtain ⟨h1, h2, h3, h4⟩ := putN_at hf hsz (fun i => a.tmps.getD (dstOf ops i) undef) n (Nat.le_refl _)
  generalize putN ops a0 (fun i => a.tmps.getD (dstOf ops i) undef) n = b at *
  have hg : ∀ s, a.tmps.getD s undef = b.tmps.getD s undef := fun s => by
    by_cases hs : ∃ i, i < n ∧ dstOf ops i = s
    · obtain ⟨i, hi, rfl⟩ := hs
      exact (h3 i hi).symm
    · have hs' : ∀ i, i < n → dstOf ops i ≠ s := fun i hi e => hs ⟨i, hi, e⟩
      rw [h.same s hs', h4 s hs']
  obtain ⟨at', ad⟩ := a
  obtain ⟨bt, bd⟩ := b
  have e2 : ad = bd := h.defers.trans h2.symm
  have e1 : at' = bt := by
    apply Array.ext
    · exact h.size.trans h1.symm
    · intro i hi1 hi2
      have := hg i
      simpa [Array.getD, hi1, hi2] using this
  subst e1 e2
  rfl

/-- what stands when the operations that are listed have come up -/
structure FInv (ops : Array Oper) (n : Nat) (φ : Nat → Value → List Nat → World → Prop) (a0 : Act) (w0 : World) (S : Nat → List Nat) (listed : Array Bool) (a : Act) (w : World) : Prop where
  head : HeadInv .any ops n listed
  later : Below w0.heap.size w0 w
  frame : FrameAt ops n a0 a
  facts : ∀ i, i < n → listed.getD i false = true → φ i (a.tmps.getD (dstOf ops i) undef) (S i) w ∧ ∀ f ∈ S i, w0.heap.size ≤ f ∧ f < w.heap.size
  apart : ∀ i j, i < n → j < n → listed.getD i false = true → listed.getD j false = true → i ≠ j → ∀ f ∈ S i, f ∉ S j

theorem count_set {listed : Array Bool} {i : Nat} (h : listed.getD i true = false) : (listed.setIfInBounds i true).count true = listed.count true + 1 := by
  have hlt : i < listed.size := by
    rcases Nat.lt_or_ge i listed.size with h' | h'
    · exact h'
    · simp [Array.getElem?_eq_none h'] at h
  have hf : listed[i] = false := by simpa [hlt] using h
  rw [Array.setIfInBounds, dif_pos hlt, Array.count_set hlt]
  simp [hf]

theorem facts_any {φ : Nat → Value → List Nat → World → Prop} {a0 : Act} {w0 : World} (hf : FactsOk ops n) (hsz : ∀ i, i < n → dstOf ops i < a0.tmps.size)
    (stab : ∀ i v S w w', i < n → φ i v S w → Below w.heap.size w w' → φ i v S w')
    (hop : ∀ i o, i < n → ops[i]? = some o → ∀ a w, Below w0.heap.size w0 w → FrameAt ops n a0 a → (∀ e ∈ o.after, Region.binds .any e = true → ∃ S, φ e.on (a.tmps.getD (dstOf ops e.on) undef) S w) → o.wp P a w (fun a' w' => ∃ v, a' = a.put o.dst v ∧ Below w.heap.size w w' ∧ ∃ S, φ i v S w' ∧ ∀ f ∈ S, w.heap.size ≤ f ∧ f < w'.heap.size) Q)
    (l : List Oper) (hl : ops = l.toArray)
    (hend : ∀ (vals : Nat → Value) (S : Nat → List Nat) w, Below w0.heap.size w0 w → (∀ i, i < n → φ i (vals i) (S i) w ∧ ∀ f ∈ S i, w0.heap.size ≤ f ∧ f < w.heap.size) → (∀ i j, i < n → j < n → i ≠ j → ∀ f ∈ S i, f ∉ S j) → wpList P ops Q (l.drop n) (putN ops a0 vals n) w) :
    ∀ (f : Nat) (S : Nat → List Nat) (listed : Array Bool) (a : Act) (w : World), FInv ops n φ a0 w0 S listed a w → listed.count true + f = n → wpAny P .any ops Q (f + (ops.size - n)) listed a w
  | 0, S, listed, a, w, h, hc => by
    have hlen : (l.drop n).length = ops.size - n := by rw [hl]; simp
    have hall : ∀ i, i < n → listed.getD i false = true := by
      intro i hi
      cases hq : listed.getD i false with
      | true => rfl
      | false =>
        exfalso
        have hlt : i < listed.size := by rw [h.head.size]; have := hf.lt; omega
        have h1 := count_set (getD_in hlt hq)
        have h2 : (listed.setIfInBounds i true).count true ≤ n := by
          have h3 : ∀ t, n ≤ t → t < ops.size → (listed.setIfInBounds i true).getD t true = false := fun t ht ht' => by rw [getD_set_ne true (by omega)]; exact h.head.tail t ht ht'
          have hsz2 : (listed.setIfInBounds i true).size = ops.size := by simp [h.head.size]
          generalize listed.setIfInBounds i true = L at *
          have e : L.toList = L.toList.take n ++ L.toList.drop n := (List.take_append_drop n _).symm
          rw [← Array.count_toList, e, List.count_append]
          have z : (L.toList.drop n).count true = 0 := by
            rw [List.count_eq_zero]
            intro hm
            obtain ⟨q, hq1, hq2⟩ := List.getElem_of_mem hm
            rw [List.length_drop, Array.length_toList] at hq1
            rw [List.getElem_drop] at hq2
            have := h3 (n + q) (by omega) (by omega)
            have hlt2 : n + q < L.size := by omega
            simp [hlt2] at this
            simp at hq2
            rw [hq2] at this
            cases this
          have z2 := List.count_le_length (a := true) (l := L.toList.take n)
          rw [List.length_take] at z2
          omega
        omega
    have hlst : listed = firstN ops.size n := by
      apply Array.ext
      · rw [h.head.size]; simp [firstN]
      · intro i h1 h2
        simp only [firstN, Array.getElem_ofFn]
        by_cases hi : i < n
        · have := hall i hi
          simpa [h1, hi] using this
        · have := h.head.tail i (by omega) (by rw [← h.head.size]; exact h1)
          simpa [h1, hi] using this
    have hw : wpList P ops Q (l.drop n) a w := by
      rw [frame_putN hf hsz h.frame]
      exact hend _ S w h.later (fun i hi => h.facts i hi (hall i hi)) fun i j hi hj hne => h.apart i j hi hj (hall i hi) (hall j hj) hne
    have := wpAny_of_seq (md := .any) (Q' := Q) (l.drop n) n listed a w (fun j => by rw [hl]; simp [List.getElem?_drop]) (by rw [hlen, hlst]; exact hf.seq) hw
    rw [hlen] at this
    rw [Nat.zero_add]
    exact this
  | f + 1, S, listed, a, w, h, hc => by
    rw [show f + 1 + (ops.size - n) = (f + (ops.size - n)) + 1 by omega]
    -- the first that has not come up
    obtain ⟨i, hin, hiu⟩ : ∃ i, i < n ∧ listed.getD i true = false := by
      refine Classical.byContradiction fun hno => ?_
      have hall : ∀ i, i < n → listed.getD i false = true := fun i hi => by
        cases hq : listed.getD i false with
        | true => rfl
        | false => exact absurd ⟨i, hi, getD_in (by rw [h.head.size]; have := hf.lt; omega) hq⟩ hno
      have : n ≤ listed.count true := by
        have e : listed.toList = listed.toList.take n ++ listed.toList.drop n := (List.take_append_drop n _).symm
        rw [← Array.count_toList, e, List.count_append]
        have z : (listed.toList.take n).count true = (listed.toList.take n).length := by
          rw [List.count_eq_length]
          intro b hb
          obtain ⟨q, hq1, hq2⟩ := List.getElem_of_mem hb
          rw [List.length_take, Array.length_toList] at hq1
          rw [List.getElem_take] at hq2
          have := hall q (by omega)
          have hlt2 : q < listed.size := by omega
          simp [hlt2] at this
          simp at hq2
          rw [← hq2, this]
        rw [z, List.length_take, Array.length_toList, h.head.size]
        have := hf.lt
        omega
      omega
    have hleast : ∃ i, i < n ∧ listed.getD i true = false ∧ ∀ j, j < i → listed.getD j false = true := by
      induction i using Nat.strongRecOn with
      | ind i ih =>
        by_cases hj : ∃ j, j < i ∧ listed.getD j false = false
        · obtain ⟨j, hj1, hj2⟩ := hj
          exact ih j hj1 (by omega) (getD_in (by rw [h.head.size]; have := hf.lt; omega) hj2)
        · refine ⟨i, hin, hiu, fun j hji => ?_⟩
          cases hq : listed.getD j false with
          | true => rfl
          | false => exact absurd ⟨j, hji, hq⟩ hj
    obtain ⟨i0, h01, h02, h03⟩ := hleast
    obtain ⟨o0, d0, ho0, _, _, _, haf0, _⟩ := hf.ops i0 h01
    have hr0 : i0 ∈ Region.ready .any ops listed := mem_ready.2 ⟨h02, o0, ho0, fun e he hb => h03 e.on (haf0 e he hb)⟩
    refine ⟨fun hn => (by rw [hn] at hr0; cases hr0), fun j hj => ?_⟩
    have hjn : j < n := Nat.lt_of_not_le fun hh => tail_waits hf.sink hf.chain hf.lt h.head _ i0 rfl h01 h02 j hh hj
    obtain ⟨hju, oj', hoj', hjall⟩ := mem_ready.1 hj
    obtain ⟨oj, d, hoj, hg, hd, hdd, haf, _⟩ := hf.ops j hjn
    obtain rfl : oj' = oj := Option.some.inj (hoj'.symm.trans hoj)
    have hstep := hop j oj' hjn hoj a w h.later h.frame (fun e he hb => ⟨_, (h.facts e.on (Nat.lt_trans (haf e he hb) hjn) (hjall e he hb)).1⟩)
    unfold wpOp
    rw [hoj]
    simp only [Region.wanted, hg, if_true]
    refine Or.inl (Oper.wp_mono ?_ hstep)
    rintro a' w' ⟨v, rfl, hb, Sj, hφ, hSj⟩
    rw [hd]
    have hdlt : d < a.tmps.size := by rw [h.frame.size, ← hdd]; exact hsz j hjn
    have hls : ∀ k, j ≠ k → (listed.setIfInBounds j true).getD k false = true → listed.getD k false = true := fun k hk hl => by rwa [getD_set_ne false hk] at hl
    refine facts_any hf hsz stab hop l hl hend f (fun k => if k = j then Sj else S k) _ _ _ ⟨h.head.set hj hjn, h.later.trans (hb.mono h.later.size), ⟨by rw [put_size]; exact h.frame.size, by rw [put_defers]; exact h.frame.defers, fun s hs => ?_⟩, fun k hk hkl => ?_, fun k1 k2 h1 h2 hl1 hl2 hne f' hf1 hf2 => ?_⟩ (by rw [count_set hju]; omega)
    · rw [put_getD hdlt, if_neg (fun e => hs j hjn (by rw [hdd]; exact e))]
      exact h.frame.same s hs
    · by_cases hjk : j = k
      · subst hjk
        rw [put_getD hdlt, if_pos hdd.symm, if_pos rfl]
        exact ⟨hφ, fun f' hf' => ⟨Nat.le_trans h.later.size (hSj f' hf').1, (hSj f' hf').2⟩⟩
      · have hne : d ≠ dstOf ops k := by
          rcases Nat.lt_or_gt_of_ne hjk with hlt | hgt
          · obtain ⟨_, dk, _, _, _, hdk, _, hne⟩ := hf.ops k hk
            intro e
            exact hne j hlt (by rw [hdd, e, hdk])
          · obtain ⟨_, dj, _, _, hdj, hdj2, _, hne⟩ := hf.ops j hjn
            intro e
            exact hne k hgt (by rw [← e, ← hdd, hdj2])
        rw [put_getD hdlt, if_neg hne, if_neg (Ne.symm hjk)]
        obtain ⟨q1, q2⟩ := h.facts k hk (hls k hjk hkl)
        exact ⟨stab k _ _ _ _ hk q1 hb, fun f' hf' => ⟨(q2 f' hf').1, Nat.lt_of_lt_of_le (q2 f' hf').2 hb.size⟩⟩
    · by_cases e1 : k1 = j
      · rw [if_pos e1] at hf1
        rw [if_neg (fun e2 => hne (e1.trans e2.symm))] at hf2
        have := ((h.facts k2 h2 (hls k2 (fun e => hne (e1.trans e)) hl2)).2 f' hf2).2
        have := (hSj f' hf1).1
        omega
      · rw [if_neg e1] at hf1
        have hk1 := hls k1 (Ne.symm e1) hl1
        by_cases e2 : k2 = j
        · rw [if_pos e2] at hf2
          have := ((h.facts k1 h1 hk1).2 f' hf1).2
          have := (hSj f' hf2).1
          omega
        · rw [if_neg e2] at hf2
          exact h.apart k1 k2 h1 h2 hk1 (hls k2 (Ne.symm e2) hl2) hne f' hf1 hf2
end

/-- an operation waits for another one -/
def waitsOn (o : Oper) (j : Nat) : Bool := o.after.any fun e => Region.binds .any e && e.on == j

theorem wp_region_facts {P : Program} {Q : Exit → Act → World → Prop} {id : Nat} {a0 : Act} {w : World} {l : List Oper} (n : Nat) (φ : Nat → Value → List Nat → World → Prop) (hm : P.follows .mixedOrders = true) (hB : factsB l.toArray n = true)
    (N : Nat) (hN : a0.tmps.size = N) (hD : ((List.range n).all fun i => decide (dstOf l.toArray i < N)) = true)
    (stab : ∀ i v S w w', i < n → φ i v S w → Below w.heap.size w w' → φ i v S w')
    (hop : ∀ i o, i < n → l[i]? = some o → ∀ a w', Below w.heap.size w w' → (∀ s, (∀ i, i < n → dstOf l.toArray i ≠ s) → a.tmps.getD s undef = a0.tmps.getD s undef) → (∀ j, waitsOn o j = true → ∃ S, φ j (a.tmps.getD (dstOf l.toArray j) undef) S w') → o.wp P a w' (fun a' w'' => ∃ v, a' = a.put o.dst v ∧ Below w'.heap.size w' w'' ∧ ∃ S, φ i v S w'' ∧ ∀ f ∈ S, w'.heap.size ≤ f ∧ f < w''.heap.size) Q)
    (hend : ∀ (vals : Nat → Value) (S : Nat → List Nat) w', Below w.heap.size w w' → (∀ i, i < n → φ i (vals i) (S i) w' ∧ ∀ f ∈ S i, w.heap.size ≤ f ∧ f < w'.heap.size) → (∀ i j, i < n → j < n → i ≠ j → ∀ f ∈ S i, f ∉ S j) → wpList P l.toArray Q (l.drop n) (putN l.toArray a0 vals n) w') : (Code.region id l.toArray true).wp P Q a0 w := by
  have hf := factsOk_of hB
  have hsz : ∀ i, i < n → dstOf l.toArray i < a0.tmps.size := fun i hi => by
    have := List.all_eq_true.1 hD i (by simpa using hi)
    rw [hN]; simpa using this
  have hd : Below w.heap.size w w.drew := (Below.refl w.heap.size w).drew
  refine wp_region_any hm ?_
  have inv0 : HeadInv .any l.toArray n (Array.replicate l.toArray.size false) :=
    ⟨by simp, fun j oj _ hl => (by rw [getD_replicate_false] at hl; cases hl), fun t _ ht => getD_in (by simpa using ht) (getD_replicate_false _ _)⟩
  have := facts_any (P := P) (Q := Q) (φ := φ) (w0 := w) hf hsz stab (fun i o hi ho a w' hb hfr hdep => hop i o hi (by simpa using ho) a w' hb hfr.same fun j hj => by
    unfold waitsOn at hj
    obtain ⟨q, hq, he⟩ := Array.any_eq_true.1 hj
    simp only [Bool.and_eq_true, beq_iff_eq] at he
    rw [← he.2]
    exact hdep _ (Array.getElem_mem hq) he.1) l rfl hend n (fun _ => []) (Array.replicate l.toArray.size false) a0 w.drew ⟨inv0, hd, ⟨rfl, rfl, fun _ _ => rfl⟩, fun i _ hl => (by rw [getD_replicate_false] at hl; cases hl), fun i j _ _ hl => (by rw [getD_replicate_false] at hl; cases hl)⟩ (by simp [Array.count_replicate])
  rw [show n + (l.toArray.size - n) = l.toArray.size by have := hf.lt; omega] at this
  exact this

theorem fact_enter {P : Program} {o : Oper} {a : Act} {w : World} {φ : Value → World → Prop} {Q : Exit → Act → World → Prop} {f : FuncId} {args : Array Value} (h : (execOp a.eval o).run P w = .ok (.enter f args) w) (hc : Calls P f args w fun e w' => ∃ v, e = .returned v ∧ Below w.heap.size w w' ∧ φ v w') : o.wp P a w (fun a' w' => ∃ v, a' = a.put o.dst v ∧ Below w.heap.size w w' ∧ φ v w') Q := by
  unfold Oper.wp
  rw [h]
  simp only [Oper.upon]
  exact hc.mono (by rintro e w' ⟨v, rfl, hk⟩; exact ⟨v, rfl, hk⟩)
theorem fact_call {P : Program} {o : Oper} {a : Act} {w : World} {φ : Value → World → Prop} {Q : Exit → Act → World → Prop} {f : FuncId} {fn : Func} {xs : Array Operand} {ats : Array TypeId} {args : Array Value} (hop : o.op = .call { callee := .value (.func f), args := xs, argTypes := ats }) (hf : P.funcs[f]? = some fn) (hname : (fn.name == "runtime.NumGoroutine") = false) (hb : fn.body.isSome = true)
    (hargs : xs.map a.eval = args) (hc : Calls P f args w fun e w' => ∃ v, e = .returned v ∧ Below w.heap.size w w' ∧ φ v w') : o.wp P a w (fun a' w' => ∃ v, a' = a.put o.dst v ∧ Below w.heap.size w w' ∧ φ v w') Q := by
  obtain ⟨c, hb⟩ := Option.isSome_iff_exists.1 hb
  have h1 : fn.name ≠ "runtime.NumGoroutine" := by simpa using hname
  have ef : a.eval (.func f) = .func (.func f) #[] #[] := rfl
  refine fact_enter ?_ hc
  unfold execOp
  simp [hop, resolve, Deferred.ofValue, invoke, ef, hargs, callFunc, hf, h1, hb]
theorem fact_value {P : Program} {o : Oper} {a : Act} {w w' : World} {φ : Value → World → Prop} {Q : Exit → Act → World → Prop} {v : Value} (h : (execOp a.eval o).run P w = .ok (.value v) w') (hb : Below w.heap.size w w') (hk : φ v w') : o.wp P a w (fun a' w' => ∃ v, a' = a.put o.dst v ∧ Below w.heap.size w w' ∧ φ v w') Q := by
  unfold Oper.wp
  rw [h]
  exact ⟨v, rfl, hb, hk⟩
end Go.Proofs.Ytcmnjpoapcogham

/- spec.l03Shift: of a term that is right, the term with other numbers. -/
namespace Go.Proofs.Ytcmnjpoapcogham
open Go.RowKit

def ShSOk (b : Int) (t : Tm) : Prop := ∀ (w : World) (v : Value) (d : Nat), TmIn w t v → t.right d = true → t.wt ≤ 1048576 →
  Calls Try.prog 56 #[v, .int .i64 b] w fun e w' => ∃ v' F, e = .returned v' ∧ Own 28 w' (t.shift b) v' F ∧ (∀ f ∈ F, w.heap.size ≤ f) ∧ F.Nodup ∧ Below w.heap.size w w'

set_option maxHeartbeats 4000000 in
set_option maxRecDepth 20000 in
theorem l03_shift (b : Int) (hb0 : -99999 ≤ b) (hb1 : b ≤ 99999) (t : Tm) : ShSOk b t := by
  refine tm_ind (p := ShSOk b) ?_ t
  clear t
  intro k s n ks hks w v d hin hr hwt
  unfold TmIn at hin
  obtain ⟨ao, cap, rfl, hk, hn, hs, hlen, hcap, hrow⟩ := hin
  have ew : (Tm.mk k s n ks).wt = s.size + (ks.length + wts ks) := by simp [Tm.wt, wts]; omega
  rw [ew] at hwt
  rw [right_mk, Bool.and_eq_true, Bool.and_eq_true] at hr
  obtain ⟨⟨h1, h2⟩, h3⟩ := hr
  rw [rights_all, List.all_eq_true] at h3
  have hk1 : k = 1 → s.size = 0 ∧ ks.length = 0 ∧ 0 ≤ n ∧ n ≤ 99999 := by
    intro e
    unfold oneT at h2
    rw [if_pos e] at h2
    simp only [Bool.and_eq_true, decide_eq_true_eq] at h2
    omega
  obtain ⟨i0, hi, hz0, hz1, hz2⟩ := info_parts infoT
  go_enter Try.func56, Try.ntmps56
  by_cases hk0 : k = 1
  · obtain ⟨hs0, hl0, n0, n1⟩ := hk1 hk0
    subst hk0
    obtain rfl : ks = [] := List.eq_nil_of_length_eq_zero hl0
    clear hk1 h1 h2 h3 hrow hks hl0 hlen ew
    go_wp2
    refine wp_loop_rounds 1 ?_
    rw [rounds_succ]
    go_wp2
    obtain ⟨X, hX⟩ : ∃ X, X = (((w.alloc (.cells #[.int .i64 1, .string s, .int .i64 n, .slice ao 0 cap] 28)).alloc (.cells #[.int .i64 1, .string s, .int .i64 (n + b), .slice (some ⟨w.heap.size + 1 + 1 + 1, 0, none⟩) 0 0] 28)).alloc (.cells #[.int .i64 1, .string s, .int .i64 (n + b), .slice (some ⟨w.heap.size + 1 + 1 + 1, 0, none⟩) 0 0] 28)) := ⟨_, rfl⟩
    rw [← hX]
    have hz : X.heap.size = w.heap.size + 1 + 1 + 1 := by rw [hX]; simp
    have hR : (X.alloc (.cells #[] 28)).heap[w.heap.size + 1]? = some (.cells #[.int .i64 1, .string s, .int .i64 (n + b), .slice (some ⟨w.heap.size + 1 + 1 + 1, 0, none⟩) 0 0] 28 (0, 0)) := by
      rw [hX]
      exact (alloc_old _ _ (by simp)).trans ((alloc_old _ _ (by simp)).trans (alloc_at _ _ (by simp)))
    have h0 : OutS 28 (X.alloc (.cells #[] 28)) (w.heap.size + 3) [] _ [] := outS_new (by omega) 0 (Nat.zero_le _) _ rfl
    rw [hz] at h0
    obtain ⟨F', O1, O2, O3⟩ := h0.own
    refine bodyPost_ret_by (results_cell_row rfl _ _ (w.heap.size + 1) 28 _ (0, 0) _ rfl hR Try.underlying28 rfl (by kernel_rfl)) rfl ?_
    have esh : (Tm.mk 1 s n []).shift b = .mk 1 s (n + b) [] := by rw [shift_mk, if_pos ⟨rfl, hs0, rfl⟩, shifts_map]; rfl
    refine ⟨_, F', rfl, ?_, fun f hf => by have := O2 f hf; omega, O3, ?_⟩
    · rw [esh]
      exact own_mk O1 hk (by omega) hs
    · rw [hX]; exact ((((Below.refl _ _).alloc (Nat.le_refl _) _).alloc (by simp) _).alloc (by simp; omega) _).alloc (by simp; omega) _
  · have e0 : (k == 1) = false := beq_eq_false_iff_ne.2 hk0
    have hlk : (shifts b ks).length = ks.length := by rw [shifts_map]; simp
    obtain ⟨SH, hSH⟩ : ∃ SH, SH = shifts b ks := ⟨_, rfl⟩
    have HSH : Hid (SH = shifts b ks) := hSH
    have HL : Hid (SH.length = ks.length) := by show _ = _; rw [hSH]; exact hlk
    clear hSH hlk
    go_wp2
    go_loopw [6] (fun vi wr => ∃ (j g cp : Nat) (F : List Nat), j ≤ ks.length ∧ vi = .int .i64 (j : Int) ∧ Hid (Below w.heap.size w wr) ∧ Hid (wr.heap[w.heap.size]? = some (.cells #[.int .i64 k, .string s, .int .i64 n, .slice ao ks.length cap] 28 (0, 0)) ∧ wr.heap[w.heap.size + 1]? = some (.cells #[.int .i64 0, .string ⟨#[]⟩, .int .i64 0, .slice none 0 0] 28 (0, 0)) ∧ wr.heap[w.heap.size + 2]? = some (.cells #[.int .i64 k, .string s, .int .i64 n, .slice (some ⟨g, 0, none⟩) j cp] 28 (0, 0))) ∧ Hid (OutS 28 wr (w.heap.size + 3) (SH.take j) (.slice (some ⟨g, 0, none⟩) j cp) F)) (fun i _ => ks.length - (intOf i).toNat)
    case atStart =>
      refine ⟨0, w.heap.size + 1 + 1 + 1, 0, [], by omega, rfl, ?_, ?_, ?_⟩
      · exact ((((Below.refl _ _).alloc (Nat.le_refl _) _).alloc (by simp) _).alloc (by simp; omega) _).alloc (by simp; omega) _
      · refine ⟨?_, ?_, ?_⟩
        · exact (alloc_old _ _ (by simp; omega)).trans ((alloc_old _ _ (by simp; omega)).trans ((alloc_old _ _ (by simp)).trans (alloc_at _ _ rfl)))
        · exact (alloc_old _ _ (by simp)).trans ((alloc_old _ _ (by simp)).trans (alloc_at _ _ (by simp)))
        · exact (alloc_old _ _ (by simp)).trans (alloc_at _ _ (by simp))
      · obtain ⟨X, hX⟩ : ∃ X, X = (((w.alloc (.cells #[.int .i64 k, .string s, .int .i64 n, .slice ao ks.length cap] 28)).alloc (.cells #[.int .i64 0, .string ⟨#[]⟩, .int .i64 0, .slice none 0 0] 28)).alloc (.cells #[.int .i64 k, .string s, .int .i64 n, .slice (some ⟨w.heap.size + 1 + 1 + 1, 0, none⟩) 0 0] 28)) := ⟨_, rfl⟩
        have hz : X.heap.size = w.heap.size + 1 + 1 + 1 := by rw [hX]; simp
        rw [← hX, List.take_zero]
        have h0 : OutS 28 (X.alloc (.cells #[] 28)) (w.heap.size + 3) [] _ [] := outS_new (by omega) 0 (Nat.zero_le _) _ rfl
        rw [hz] at h0
        exact h0
    case round =>
      obtain ⟨j, g, cp, F, hj, rfl, HB, HK, HO⟩ := hrel
      obtain ⟨q0, q1, q2, q3, _⟩ := blk4 HK.out.1
      obtain ⟨r0, r1, r2, r3, _⟩ := blk4 HK.out.2.2
      by_cases hlt : j < ks.length
      · obtain ⟨bb, off, rfl, hin⟩ := hrow (by intro e; subst e; simp at hlt)
        have hwj := wt_le (List.getElem_mem hlt)
        have HC : Hid (∀ w1 v1, TmIn w1 ks[j] v1 → Calls Try.prog 56 #[v1, .int .i64 b] w1 fun e w' => ∃ v' F, e = .returned v' ∧ Own 28 w' (ks[j].shift b) v' F ∧ (∀ f ∈ F, w1.heap.size ≤ f) ∧ F.Nodup ∧ Below w1.heap.size w1 w') := fun w1 v1 h => hks ks[j] (List.getElem_mem hlt) w1 v1 (d + 1) h (h3 _ (List.getElem_mem hlt)) (by omega)
        obtain ⟨u, hu⟩ : ∃ u, u = ks[j].shift b := ⟨_, rfl⟩
        rw [← hu] at HC
        have HU : Hid (SH.take (j + 1) = SH.take j ++ [u]) := by
          have := HSH.out
          show _ = _
          rw [List.take_succ_eq_append_getElem (show j < SH.length by rw [HL.out]; exact hlt), hu]
          congr 2
          subst this
          simp [shifts_map]
        have HIN : Hid (∀ w1, Below wr.heap.size wr w1 → ∃ c0 c1 c2 c3, w1.cell? ⟨bb, off + j * 4, none⟩ = some c0 ∧ w1.cell? ⟨bb, off + j * 4 + 1, none⟩ = some c1 ∧ w1.cell? ⟨bb, off + j * 4 + 2, none⟩ = some c2 ∧ w1.cell? ⟨bb, off + j * 4 + 3, none⟩ = some c3 ∧ TmIn w1 ks[j] (.agg #[c0, c1, c2, c3])) := fun w1 hb1 => (TmsIn.keep (HB.out.trans (hb1.mono HB.out.size)) ks bb off hin).at j hlt
        obtain ⟨c0, c1, c2, c3, hc0, hc1, hc2, hc3, htj⟩ := HIN.out wr (Below.refl _ _)
        have HT : Hid (∀ w1, Below wr.heap.size wr w1 → w1.cell? ⟨bb, off + j * 4, none⟩ = some c0 ∧ w1.cell? ⟨bb, off + j * 4 + 1, none⟩ = some c1 ∧ w1.cell? ⟨bb, off + j * 4 + 2, none⟩ = some c2 ∧ w1.cell? ⟨bb, off + j * 4 + 3, none⟩ = some c3 ∧ TmIn w1 ks[j] (.agg #[c0, c1, c2, c3])) := fun w1 hb1 =>
          ⟨cell_keep hc0 hb1, cell_keep hc1 hb1, cell_keep hc2 hb1, cell_keep hc3 hb1, TmIn.keep hb1 _ _ htj⟩
        have HKB : Hid (∀ w1, Below wr.heap.size wr w1 → w1.heap[w.heap.size]? = some (.cells #[.int .i64 k, .string s, .int .i64 n, .slice (some ⟨bb, off, none⟩) ks.length cap] 28 (0, 0)) ∧ w1.heap[w.heap.size + 1]? = some (.cells #[.int .i64 0, .string ⟨#[]⟩, .int .i64 0, .slice none 0 0] 28 (0, 0)) ∧ w1.heap[w.heap.size + 2]? = some (.cells #[.int .i64 k, .string s, .int .i64 n, .slice (some ⟨g, 0, none⟩) j cp] 28 (0, 0))) := fun w1 hb1 =>
          ⟨(hb1.block _ (Array.getElem?_eq_some_iff.1 HK.out.1).1).trans HK.out.1, (hb1.block _ (Array.getElem?_eq_some_iff.1 HK.out.2.1).1).trans HK.out.2.1, (hb1.block _ (Array.getElem?_eq_some_iff.1 HK.out.2.2).1).trans HK.out.2.2⟩
        clear hrow hin htj hc0 hc1 hc2 hc3 HIN
        go_upto_region 8 with (fail)
        refine wp_region_facts 10 (fun i v S w' => match i with
          | 0 => v = .pointer (some ⟨w.heap.size + 1 + 1, 3, none⟩)
          | 1 => v = .slice (some ⟨g, 0, none⟩) j cp
          | 2 => v = .pointer (some ⟨w.heap.size, 3, none⟩)
          | 3 => v = .slice (some ⟨bb, off, none⟩) ks.length cap
          | 4 => v = .int .i64 j
          | 5 => v = .pointer (some ⟨bb, off + j * 4, none⟩)
          | 6 => v = .agg #[c0, c1, c2, c3]
          | 7 => v = .int .i64 b
          | 8 => ∃ F2, Own 28 w' u v F2 ∧ (∀ f ∈ F2, wr.heap.size ≤ f) ∧ F2.Nodup
          | _ => ∃ g2 k' s' n' ao' len' cap' F2, v = .slice (some ⟨g2, 0, none⟩) 1 1 ∧ w'.heap[g2]? = some (.cells #[.int .i64 k', .string s', .int .i64 n', .slice ao' len' cap'] 28 (0, 0)) ∧ wr.heap.size ≤ g2 ∧ Own 28 w' u (.agg #[.int .i64 k', .string s', .int .i64 n', .slice ao' len' cap']) F2 ∧ (∀ f ∈ F2, wr.heap.size ≤ f) ∧ F2.Nodup) (by kernel_rfl) (by kernel_rfl) 38 rfl (by kernel_rfl) ?_ ?_ ?_
        · intro i v S w w' hi h hb
          match i, hi, h with
          | 0, _, h => exact h
          | 1, _, h => exact h
          | 2, _, h => exact h
          | 3, _, h => exact h
          | 4, _, h => exact h
          | 5, _, h => exact h
          | 6, _, h => exact h
          | 7, _, h => exact h
          | 8, _, ⟨F2, h, h4, h5⟩ => exact ⟨F2, Own.keep _ _ _ h fun f hf => hb.block f (Own.lt _ _ _ h f hf), h4, h5⟩
          | 9, _, ⟨g2, k', s', n', ao', len', cap', F2, e1, h1, h2, h, h4, h5⟩ => exact ⟨g2, k', s', n', ao', len', cap', F2, e1, (hb.block g2 (Array.getElem?_eq_some_iff.1 h1).1).trans h1, h2, Own.keep _ _ _ h fun f hf => hb.block f (Own.lt _ _ _ h f hf), h4, h5⟩
        · intro i o hi ho a w' hb hfr hdep
          obtain ⟨z0, _, z2⟩ := HKB.out w' hb
          obtain ⟨x0, x1, x2, x3, _⟩ := blk4 z0
          obtain ⟨y0, y1, y2, y3, _⟩ := blk4 z2
          obtain ⟨d0, d1, d2, d3, hT⟩ := HT.out w' hb
          have u1 : a.tmps.getD 1 undef = .int .i64 b := hfr 1 (by decide)
          have u2 : a.tmps.getD 2 undef = .pointer (some ⟨w.heap.size, 0, none⟩) := hfr 2 (by decide)
          have u5 : a.tmps.getD 5 undef = .pointer (some ⟨w.heap.size + 1 + 1, 0, none⟩) := hfr 5 (by decide)
          have u6 : a.tmps.getD 6 undef = .int .i64 j := hfr 6 (by decide)
          match i, hi with
          | 0, _ =>
            obtain rfl : _ = o := by simpa using ho
            refine fact_value (w' := w') (v := .pointer (some ⟨w.heap.size + 1 + 1, 3, none⟩)) ?_ (Below.refl _ _) ⟨[], rfl, by simp⟩
            simp only [execOp, Act.eval, u5]
            go_simp
          | 1, _ =>
            obtain rfl : _ = o := by simpa using ho
            obtain ⟨_, h0⟩ : ∃ _ : List Nat, a.tmps.getD 25 undef = .pointer (some ⟨w.heap.size + 1 + 1, 3, none⟩) := hdep 0 (by kernel_rfl)
            refine fact_value (w' := w') (v := .slice (some ⟨g, 0, none⟩) j cp) ?_ (Below.refl _ _) ⟨[], rfl, by simp⟩
            simp only [execOp, Act.eval, h0]
            go_simp
          | 2, _ =>
            obtain rfl : _ = o := by simpa using ho
            refine fact_value (w' := w') (v := .pointer (some ⟨w.heap.size, 3, none⟩)) ?_ (Below.refl _ _) ⟨[], rfl, by simp⟩
            simp only [execOp, Act.eval, u2]
            go_simp
          | 3, _ =>
            obtain rfl : _ = o := by simpa using ho
            obtain ⟨_, h0⟩ : ∃ _ : List Nat, a.tmps.getD 27 undef = .pointer (some ⟨w.heap.size, 3, none⟩) := hdep 2 (by kernel_rfl)
            refine fact_value (w' := w') (v := .slice (some ⟨bb, off, none⟩) ks.length cap) ?_ (Below.refl _ _) ⟨[], rfl, by simp⟩
            simp only [execOp, Act.eval, h0]
            go_simp
          | 4, _ =>
            obtain rfl : _ = o := by simpa using ho
            refine fact_value (w' := w') (v := .int .i64 j) ?_ (Below.refl _ _) ⟨[], rfl, by simp⟩
            simp only [execOp, Act.eval, u6]
            go_simp
          | 5, _ =>
            obtain rfl : _ = o := by simpa using ho
            obtain ⟨_, h0⟩ : ∃ _ : List Nat, a.tmps.getD 28 undef = .slice (some ⟨bb, off, none⟩) ks.length cap := hdep 3 (by kernel_rfl)
            obtain ⟨_, h4⟩ : ∃ _ : List Nat, a.tmps.getD 29 undef = .int .i64 j := hdep 4 (by kernel_rfl)
            refine fact_value (w' := w') (v := .pointer (some ⟨bb, off + j * 4, none⟩)) ?_ (Below.refl _ _) ⟨[], rfl, by simp⟩
            simp only [execOp, Act.eval, h0, h4]
            go_simp
          | 6, _ =>
            obtain rfl : _ = o := by simpa using ho
            obtain ⟨_, h0⟩ : ∃ _ : List Nat, a.tmps.getD 30 undef = .pointer (some ⟨bb, off + j * 4, none⟩) := hdep 5 (by kernel_rfl)
            refine fact_value (w' := w') (v := .agg #[c0, c1, c2, c3]) ?_ (Below.refl _ _) ⟨[], rfl, by simp⟩
            simp only [execOp, Act.eval, h0]
            go_simp
          | 7, _ =>
            obtain rfl : _ = o := by simpa using ho
            refine fact_value (w' := w') (v := .int .i64 b) ?_ (Below.refl _ _) ⟨[], rfl, by simp⟩
            simp only [execOp, Act.eval, u1]
            go_simp
          | 8, _ =>
            obtain rfl : _ = o := by simpa using ho
            obtain ⟨_, h0⟩ : ∃ _ : List Nat, a.tmps.getD 31 undef = .agg #[c0, c1, c2, c3] := hdep 6 (by kernel_rfl)
            obtain ⟨_, h4⟩ : ∃ _ : List Nat, a.tmps.getD 32 undef = .int .i64 b := hdep 7 (by kernel_rfl)
            refine fact_call rfl Try.func56 (by kernel_rfl) (by kernel_rfl) (args := #[.agg #[c0, c1, c2, c3], .int .i64 b]) ?_ ?_
            · simp [Act.eval, h0, h4]
            · refine Calls.mono (HC.out w' _ hT) ?_
              rintro e w4 ⟨v4, F4, rfl, o4, f4, n4, hb4⟩
              exact ⟨_, rfl, hb4, [], ⟨F4, o4, fun f hf => Nat.le_trans hb.size (f4 f hf), n4⟩, by simp⟩
          | 9, _ =>
            obtain rfl : _ = o := by simpa using ho
            obtain ⟨_, F4, o4, f4, n4⟩ : ∃ _ : List Nat, ∃ F2, Own 28 w' u (a.tmps.getD 33 undef) F2 ∧ (∀ f ∈ F2, wr.heap.size ≤ f) ∧ F2.Nodup := hdep 8 (by kernel_rfl)
            obtain ⟨k', s', n', ao', len', cap', hv⟩ := own_shape o4
            rw [hv] at o4
            have bA : Below w'.heap.size w' (w'.alloc (.cells #[.int .i64 k', .string s', .int .i64 n', .slice ao' len' cap'] 28)) := (Below.refl _ _).alloc (Nat.le_refl _) _
            refine fact_value (w' := w'.alloc (.cells #[.int .i64 k', .string s', .int .i64 n', .slice ao' len' cap'] 28)) (v := .slice (some ⟨w'.heap.size, 0, none⟩) 1 1) ?_ bA ⟨[], ⟨w'.heap.size, k', s', n', ao', len', cap', F4, rfl, heap_alloc_new _ _, hb.size, Own.keep _ _ _ o4 fun f hf => bA.block f (Own.lt _ _ _ o4 f hf), f4, n4⟩, by simp⟩
            have e9 : (#[((0 : Nat), Operand.tmp 33)].map fun x => (x.1, a.eval x.2)) = #[(0, .agg #[.int .i64 k', .string s', .int .i64 n', .slice ao' len' cap'])] := by simp [Act.eval]; simpa using hv
            clear hdep hfr ho
            simp only [execOp, e9]
            go_simp
        · intro vals S w1 hb hf _
          have v1 : vals 1 = .slice (some ⟨g, 0, none⟩) j cp := (hf 1 (by omega)).1
          obtain ⟨g2, k', s', n', ao', len', cap', F2, v9, hg2, hgl, hO2, hF2, hN2⟩ : ∃ g2 k' s' n' ao' len' cap' F2, vals 9 = .slice (some ⟨g2, 0, none⟩) 1 1 ∧ w1.heap[g2]? = some (.cells #[.int .i64 k', .string s', .int .i64 n', .slice ao' len' cap'] 28 (0, 0)) ∧ wr.heap.size ≤ g2 ∧ Own 28 w1 u (.agg #[.int .i64 k', .string s', .int .i64 n', .slice ao' len' cap']) F2 ∧ (∀ f ∈ F2, wr.heap.size ≤ f) ∧ F2.Nodup := (hf 9 (by omega)).1
          simp only [putN, List.getElem?_toArray, List.getElem?_cons_zero, List.getElem?_cons_succ, Option.bind_some, List.drop_succ_cons, List.drop_zero, v1, v9]
          generalize vals 0 = m0
          generalize vals 2 = m2
          generalize vals 3 = m3
          generalize vals 4 = m4
          generalize vals 5 = m5
          generalize vals 6 = m6
          generalize vals 7 = m7
          generalize vals 8 = m8
          clear hf v1 v9
          have HBB : Hid (Below wr.heap.size wr w1) := hb
          have hsz1 := hb.size
          have hszw := HB.out.size
          obtain ⟨g', cp', e', hBg, hglt, _, _⟩ := HO.out.shape
          have hl : (SH.take j).length = j := by rw [List.length_take, HL.out]; omega
          obtain ⟨rfl, rfl⟩ : g = g' ∧ cp = cp' := by
            simp only [Value.slice.injEq, Option.some.injEq, Addr.mk.injEq] at e'
            exact ⟨e'.1.1, e'.2.2⟩
          have hlt' := HO.out.lt
          obtain ⟨cs, g', Q1, Q2, Q3, Q4, Q5, Q6⟩ := HO.out.keep fun k _ hk => hb.block k hk
          obtain rfl : g = g' := by simpa [Value.ownBlock] using Q2
          rw [hl] at Q1
          have Q7 : ∀ f ∈ g :: F, f < wr.heap.size := by
            intro f hf
            rcases List.mem_cons.1 hf with rfl | hf
            · exact hlt'.2 _ rfl
            · exact hlt'.1 f hf
          obtain ⟨Z0, Z1, Z2⟩ := HKB.out w1 hb
          obtain ⟨X0, X1, X2, X3, _⟩ := blk4 hg2
          have HQ1 : Hid (w1.ownsRow (w.heap.size + 3) 28 4 (.slice (some ⟨g, 0, none⟩) j cp) j cs) := Q1
          have HQ3 : Hid (OwnRow 28 w1 (SH.take j) cs F) := Q3
          have HQ4 : Hid (∀ f ∈ F, w.heap.size + 3 ≤ f) := Q4
          have HQ6 : Hid ((g :: F).Nodup) := Q6
          have HQ7 : Hid (∀ f ∈ g :: F, f < wr.heap.size) := Q7
          have HLL : Hid ((SH.take j).length = j) := hl
          have HO2 : Hid (Own 28 w1 u (.agg #[.int .i64 k', .string s', .int .i64 n', .slice ao' len' cap']) F2) := hO2
          have HF2 : Hid (∀ f ∈ F2, wr.heap.size ≤ f) := hF2
          have HN2 : Hid (F2.Nodup) := hN2
          have HZZ : Hid (w1.heap[w.heap.size]? = some (.cells #[.int .i64 k, .string s, .int .i64 n, .slice (some ⟨bb, off, none⟩) ks.length cap] 28 (0, 0)) ∧ w1.heap[w.heap.size + 1]? = some (.cells #[.int .i64 0, .string ⟨#[]⟩, .int .i64 0, .slice none 0 0] 28 (0, 0)) ∧ w1.heap[w.heap.size + 2]? = some (.cells #[.int .i64 k, .string s, .int .i64 n, .slice (some ⟨g, 0, none⟩) j cp] 28 (0, 0))) := ⟨Z0, Z1, Z2⟩
          have HX : Hid (w1.cell? ⟨g2, 0, none⟩ = some (.int .i64 k') ∧ w1.cell? ⟨g2, 1, none⟩ = some (.string s') ∧ w1.cell? ⟨g2, 2, none⟩ = some (.int .i64 n') ∧ w1.cell? ⟨g2, 3, none⟩ = some (.slice ao' len' cap')) := ⟨X0, X1, X2, X3⟩
          clear Q1 Q2 Q3 Q4 Q5 Q6 Q7 hl e' hO2 hF2 hN2 Z0 Z1 Z2 X0 X1 X2 X3 hlt' hg2 hb q0 q1 q2 q3 r0 r1 r2 r3 HC HT HKB HK HO h3 hks
          simp only [Act.put, List.setIfInBounds_toArray, List.set_cons_succ, List.set_cons_zero]
          go_wp2_with (at_builtin; go_loud (refine wpList_append_own_at _ rfl _ _ 26 rfl (w.heap.size + 3) 28 i0 (.agg #[.int .i64 0, .string ⟨#[]⟩, .int .i64 0, .slice none 0 0]) 4 56 Try.underlying26 hi hz0 hz1 hz2 rfl (by decide) _ _ _ rfl HQ1.out ⟨g2, 0, none⟩ 1 1 [.int .i64 k', .string s', .int .i64 n', .slice ao' len' cap'] rfl rfl ?c1 ?c2 ?c3 ?c4 ?c5 ?_))
          case c1 =>
            intro j z hj
            match j, hj with
            | 0, hj => simp at hj; subst hj; simpa [Addr.add] using HX.out.1
            | 1, hj => simp at hj; subst hj; simpa [Addr.add] using HX.out.2.1
            | 2, hj => simp at hj; subst hj; simpa [Addr.add] using HX.out.2.2.1
            | 3, hj => simp at hj; subst hj; simpa [Addr.add] using HX.out.2.2.2
          case c2 => intro z hz; simp at hz; rcases hz with rfl | rfl | rfl | rfl <;> rfl
          case c3 => unfold maxLen; omega
          case c4 => omega
          case c5 => omega
          intro v' w2 hown' hgrow _ hat
          have hFIN : OutS 28 w2 (w.heap.size + 3) (SH.take j ++ [u]) v' (F ++ F2) := by
            refine OutS.push (w1 := w1) (g := g) (cs := cs) ?_ rfl HQ3.out HQ4.out hBg HQ6.out HO2.out (fun f hf => by have := HF2.out f hf; omega) HN2.out (fun f hf h' => by have := HF2.out f hf; have := HQ7.out f h'; omega) ?_ hgrow hat
            · rw [HLL.out]; exact HQ1.out
            · rw [HLL.out]; exact hown'
          rw [← HU.out] at hFIN
          have hblk : ∀ k, k < w1.heap.size → k ≠ g → w2.heap[k]? = w1.heap[k]? := fun k hk hne => hgrow.block k hk (by intro e; exact hne (by simpa [Value.ownBlock] using e))
          have HBN : Hid (Below w.heap.size w w2) := by
            have b1 : Below w.heap.size w w1 := HB.out.trans (HBB.out.mono hszw)
            exact ⟨hgrow.os.trans b1.os, hgrow.tape.trans b1.tape, hgrow.output.trans b1.output, Nat.le_trans b1.size hgrow.size, fun k hk => (hblk k (Nat.lt_of_lt_of_le hk b1.size) (by omega)).trans (b1.block k hk)⟩
          obtain ⟨Z0, Z1, Z2⟩ := HZZ.out
          have Y0 := (hblk _ (Array.getElem?_eq_some_iff.1 Z0).1 (by omega)).trans Z0
          have Y1 := (hblk _ (Array.getElem?_eq_some_iff.1 Z1).1 (by omega)).trans Z1
          have Y2 := (hblk _ (Array.getElem?_eq_some_iff.1 Z2).1 (by omega)).trans Z2
          obtain ⟨g3, cp3, e3, hBg3, hg3, _, _⟩ := hFIN.shape
          have hl1 : (SH.take (j + 1)).length = j + 1 := by rw [List.length_take, HL.out]; omega
          rw [hl1] at e3
          subst e3
          have HFIN : Hid (OutS 28 w2 (w.heap.size + 3) (SH.take (j + 1)) (.slice (some ⟨g3, 0, none⟩) (j + 1) cp3) (F ++ F2)) := hFIN
          have HY : Hid (w2.heap[w.heap.size]? = some (.cells #[.int .i64 k, .string s, .int .i64 n, .slice (some ⟨bb, off, none⟩) ks.length cap] 28 (0, 0)) ∧ w2.heap[w.heap.size + 1]? = some (.cells #[.int .i64 0, .string ⟨#[]⟩, .int .i64 0, .slice none 0 0] 28 (0, 0)) ∧ w2.heap[w.heap.size + 2]? = some (.cells #[.int .i64 k, .string s, .int .i64 n, .slice (some ⟨g, 0, none⟩) j cp] 28 (0, 0))) := ⟨Y0, Y1, Y2⟩
          obtain ⟨p0, p1, p2, p3, p4, p5, p6, p7⟩ := blk4 Y2
          clear hFIN Y0 Y1 Y2 hown' hgrow hat HQ1 HQ3 HQ4 HQ6 HQ7 HO2 HF2 HN2 hgl HX Z0 Z1 Z2 HZZ hblk HBB HU HB HLL hl1
          go_wp2
          go_roundw
          case rel =>
            refine ⟨j + 1, g3, cp3, F ++ F2, by omega, by go_num, below_set HBN.out (by omega) _, ⟨?_, ?_, ?_⟩, ?_⟩
            · exact (blk_other _ (by omega)).trans HY.out.1
            · exact (blk_other _ (by omega)).trans HY.out.2.1
            · have := blk_set (i := 3) HY.out.2.2 (.slice (some ⟨g3, 0, none⟩) (j + 1) cp3)
              simpa using this
            · exact HFIN.out.keep fun f hf _ => blk_other _ (by omega)
          case measure => simp [intOf]; omega
      · skip
        obtain rfl : j = ks.length := by omega
        have HFIN : Hid (OutS 28 wr (w.heap.size + 3) SH (.slice (some ⟨g, 0, none⟩) ks.length cp) F) := by
          have := HO.out
          rw [List.take_of_length_le (by rw [HL.out]; exact Nat.le_refl _)] at this
          exact this
        have HZ : Hid (wr.heap[w.heap.size + 1]? = some (.cells #[.int .i64 0, .string ⟨#[]⟩, .int .i64 0, .slice none 0 0] 28 (0, 0))) := HK.out.2.1
        obtain ⟨p0, p1, p2, p3, p4, p5, p6, p7⟩ := blk4 HZ.out
        clear HO HK
        go_wp2
        obtain ⟨F', O1, O2, O3⟩ := HFIN.out.own
        refine bodyPost_ret_by (results_cell_row rfl _ _ (w.heap.size + 1) 28 _ (0, 0) _ rfl (blk4_set HZ.out) Try.underlying28 rfl (by kernel_rfl)) rfl ?_
        have esh : (Tm.mk k s n ks).shift b = .mk k s n SH := by rw [shift_mk, if_neg (fun e => hk0 e.1), ← HSH.out]
        refine ⟨_, F', rfl, ?_, fun f hf => by have := O2 f hf; omega, O3, blk4_below HB.out (by omega)⟩
        rw [esh]
        exact own_mk (OwnS.keep O1 fun f hf => blk4_other (by have := O2 f hf; omega)) hk hn hs
end Go.Proofs.Ytcmnjpoapcogham

/- How many terms a term has: the specification's count, down from a room, and SizeOf. -/
namespace Go.Proofs.Ytcmnjpoapcogham
open Go.RowKit

def CntOk (t : Tm) : Prop := ∀ (w : World) (v : Value) (room : Nat), TmIn w t v → room ≤ 1048576 →
  Calls Try.prog 75 #[v, .int .i64 (room : Int)] w fun e w' => e = .returned (.int .i64 (szR t.n room)) ∧ Below w.heap.size w w'

theorem count_term (t : Tm) : CntOk t := by
  refine tm_ind (p := CntOk) ?_ t
  clear t
  intro k s n ks hks w v room hin hroom
  unfold TmIn at hin
  obtain ⟨ao, cap, rfl, hk, hn, hs, hlen, hcap, hrow⟩ := hin
  unfold maxLen at hcap
  rw [n_mk]
  have hb0 : Below w.heap.size w (w.alloc (.cells #[.int .i64 k, .string s, .int .i64 n, .slice ao ks.length cap] 28)) := (Below.refl _ _).alloc (Nat.le_refl _) _
  have HC3 : Hid (∀ wr, Below (w.alloc (.cells #[.int .i64 k, .string s, .int .i64 n, .slice ao ks.length cap] 28)).heap.size (w.alloc (.cells #[.int .i64 k, .string s, .int .i64 n, .slice ao ks.length cap] 28)) wr → wr.cell? ⟨w.heap.size, 3, none⟩ = some (.slice ao ks.length cap)) := fun wr hb =>
    cell_keep (w := w.alloc _) (by simp) hb
  have HR : Hid (∀ wr, Below (w.alloc (.cells #[.int .i64 k, .string s, .int .i64 n, .slice ao ks.length cap] 28)).heap.size (w.alloc (.cells #[.int .i64 k, .string s, .int .i64 n, .slice ao ks.length cap] 28)) wr → ks ≠ [] → ∃ b off, ao = some ⟨b, off, none⟩ ∧ TmsIn wr ks b off) := fun wr hb h0 => by
    obtain ⟨b, off, e, hr⟩ := hrow h0
    exact ⟨b, off, e, TmsIn.keep hb ks b off (TmsIn.keep hb0 ks b off hr)⟩
  have HKS : Hid _ := hks
  replace hb0 : Hid _ := hb0
  clear hrow hks
  go_enter Try.func75, Try.ntmps75
  go_wp2
  generalize hW : w.alloc (.cells #[.int .i64 k, .string s, .int .i64 n, .slice ao ks.length cap] 28) = W at *
  go_loopw [1, 5] (fun vl vi wr => Hid (Below W.heap.size W wr) ∧ ∃ j : Nat, j ≤ ks.length ∧ vi = .int .i64 (j : Int) ∧ ((∃ l : Nat, vl = .int .i64 (l : Int) ∧ l ≤ 1048576 ∧ Hid (l + 1 + ns (ks.take j) = room)) ∨ (vl = .int .i64 (-1) ∧ Hid (szR (1 + ns ks) room = -1)))) (fun _ i _ => ks.length - (intOf i).toNat)
  case atStart =>
    refine ⟨Below.refl _ _, 0, by omega, rfl, ?_⟩
    by_cases h0 : room = 0
    · subst h0
      exact Or.inr ⟨rfl, by show _ = _; unfold szR; rw [if_neg (by omega)]⟩
    · exact Or.inl ⟨room - 1, by simp; omega, by omega, by show _ = _; simp [ns, Tm.n.ns]; omega⟩
  case round =>
    obtain ⟨HB, j, hj, rfl, hl⟩ := hrel
    have c3 := HC3.out wr HB.out
    rcases hl with ⟨l, rfl, hll, HL⟩ | ⟨rfl, HL⟩
    · by_cases hlt : j < ks.length
      · obtain ⟨b, off, rfl, hin⟩ := HR.out wr HB.out (by intro e; subst e; simp at hlt)
        obtain ⟨c0, c1, c2, c3', h0, h1, h2, h3, ht⟩ := hin.at j hlt
        have HC := HKS.out ks[j] (List.getElem_mem hlt) wr _ l ht hll
        have hw : ns (ks.take (j + 1)) = ns (ks.take j) + ks[j].n := by
          rw [List.take_succ_eq_append_getElem hlt, ns_append]; simp [ns, Tm.n.ns]
        have HW : Hid _ := hw
        clear hin ht hw HR HC3 HKS
        by_cases hfit : ks[j].n ≤ l
        · rw [show szR ks[j].n l = ((l - ks[j].n : Nat) : Int) from if_pos hfit] at HC
          replace HC : Hid _ := HC
          go_wp2_with (go_at_call 75; refine (Calls.mono HC.out ?_); rintro e w1 ⟨rfl, hb⟩; have HB1 : Hid (Below W.heap.size W w1) := HB.out.trans (hb.mono HB.out.size); clear hb)
          go_roundw
          case rel => exact ⟨HB1.out, j + 1, by omega, by go_num, Or.inl ⟨l - ks[j].n, rfl, by omega, by show _ = _; have := HL.out; have := HW.out; omega⟩⟩
          case measure => simp [intOf]; omega
        · rw [show szR ks[j].n l = -1 from if_neg hfit] at HC
          replace HC : Hid _ := HC
          have hr : szR (1 + ns ks) room = -1 := by
            have h1 := HL.out
            have h2 := HW.out
            have h3 : ns (ks.take (j + 1)) + ns (ks.drop (j + 1)) = ns ks := by rw [← ns_append, List.take_append_drop]
            unfold szR
            rw [if_neg (by omega)]
          have HRR : Hid _ := hr
          clear hr
          go_wp2_with (go_at_call 75; refine (Calls.mono HC.out ?_); rintro e w1 ⟨rfl, hb⟩; have HB1 : Hid (Below W.heap.size W w1) := HB.out.trans (hb.mono HB.out.size); clear hb)
          go_roundw
          case rel => exact ⟨HB1.out, j + 1, by omega, by go_num, Or.inr ⟨rfl, HRR.out⟩⟩
          case measure => simp [intOf]; omega
      · have hr : szR (1 + ns ks) room = (l : Int) := by
          have h1 := HL.out
          rw [List.take_of_length_le (by omega)] at h1
          unfold szR
          rw [if_pos (by omega)]
          omega
        have HRR : Hid _ := hr
        clear hr HR HC3 HKS
        go_wp2
        go_ret
        exact ⟨by rw [HRR.out]; rfl, hb0.out.trans (HB.out.mono hb0.out.size)⟩
    · clear HR HC3 HKS
      by_cases hlt : j < ks.length
      · go_wp2
        go_ret
        exact ⟨by rw [HL.out]; rfl, hb0.out.trans (HB.out.mono hb0.out.size)⟩
      · go_wp2
        go_ret
        exact ⟨by rw [HL.out]; rfl, hb0.out.trans (HB.out.mono hb0.out.size)⟩

end Go.Proofs.Ytcmnjpoapcogham

/- spec.l03Has, l03Vars, VarsOf: the numbers of a term. -/
import Derived.Test.YtdcphfcenaafbalRows
import Derived.Test.YtdcphfcenaafbalVarsP
import Derived.Test.YtdcphfcenaafbalTmTo
import Derived.Test.YtdcphfcenaafbalTmMarkP
import Derived.Test.YtdcphfcenaafbalTmOkP
import Derived.Maps.AppendAt
import Derived.ProofKit
namespace Go.Proofs.Ytdcphfcenaafbal
open Go.RowKit

abbrev ints (out : List Int) : List Value := out.map (fun x => Value.int .i64 x)
theorem infoN : (Try.prog.info? 3).map (fun i => (i.zero, i.size, i.bytes)) = some (some (.int .i64 0), 1, 8) := by kernel_rfl

/-- a row of numbers in a block of its own, above B -/
def NumRow (w : World) (B : Nat) (out : List Int) (v : Value) : Prop := w.ownsRow B 3 1 v out.length (ints out) ∧ (∀ x ∈ out, -9223372036854775808 ≤ x ∧ x ≤ 9223372036854775807)

theorem NumRow.open {w : World} {B : Nat} {out : List Int} {v : Value} (h : NumRow w B out v) : ∃ ao cap, v = .slice ao out.length cap ∧ out.length ≤ cap ∧ cap ≤ maxLen ∧ ∀ j (hj : j < out.length), ∃ g, ao = some ⟨g, 0, none⟩ ∧ w.cell? ⟨g, j, none⟩ = some (.int .i64 out[j]) := by
  rcases h.1.2 with ⟨rfl, h0⟩ | ⟨g, cap, cur, rfl, hb, hh, h1, h2, h3, h4⟩
  · refine ⟨none, 0, by rw [h0], by omega, Nat.zero_le _, fun j hj => by omega⟩
  · refine ⟨_, cap, rfl, h1, h2, fun j hj => ⟨g, rfl, ?_⟩⟩
    have := h.1.cellAt j (by omega)
    rw [this]
    simp [hj]

theorem NumRow.keep {w w' : World} {B : Nat} {out : List Int} {v : Value} (h : NumRow w B out v) (hb : Below w.heap.size w w') : NumRow w' B out v := by
  refine ⟨⟨h.1.1, ?_⟩, h.2⟩
  rcases h.1.2 with hn | ⟨g, cap, cur, e, h1, h2, h3⟩
  · exact Or.inl hn
  · exact Or.inr ⟨g, cap, cur, e, h1, (hb.block g (Array.getElem?_eq_some_iff.1 h2).1).trans h2, h3⟩

theorem has_any (out : List Int) (n : Int) (w : World) (B : Nat) (v : Value) (h : NumRow w B out v) :
    Calls Try.prog 53 #[v, .int .i64 n] w fun e w' => e = .returned (.bool (decide (n ∈ out))) ∧ w' = w := by
  obtain ⟨ao, cap, rfl, h1, h2, h3⟩ := h.open
  obtain ⟨R, hR⟩ : ∃ R, R = decide (n ∈ out) := ⟨_, rfl⟩
  rw [← hR]
  have HV : Hid (R = decide (n ∈ out)) := hR
  unfold maxLen at h2
  clear hR h
  go_enter Try.func53, Try.ntmps53
  go_wp2
  go_loopw [5] (fun vi wr => ∃ (j : Nat), j ≤ out.length ∧ vi = .int .i64 (j : Int) ∧ Hid (n ∉ out.take j) ∧ wr = w) (fun i _ => out.length - (intOf i).toNat)
  case atStart => exact ⟨0, by omega, rfl, (by show n ∉ _; simp), rfl⟩
  case round =>
    obtain ⟨j, hj, rfl, HN, rfl⟩ := hrel
    by_cases hlt : j < out.length
    · obtain ⟨g, rfl, hc⟩ := h3 j hlt
      generalize hx : out[j] = x at hc
      by_cases hxn : x = n
      · have HT : Hid (R = true) := by
          show R = true
          rw [HV.out]
          exact decide_eq_true (by rw [← hxn, ← hx]; exact List.getElem_mem hlt)
        subst hxn
        go_wp2
        go_ret
        exact ⟨by rw [HT.out]; rfl, by first | rfl | trivial⟩
      · have hb : (x == n) = false := by simpa using hxn
        go_wp2
        go_roundw
        case rel =>
          refine ⟨j + 1, by omega, by go_num, ?_, by first | rfl | trivial⟩
          show n ∉ _
          rw [List.take_succ_eq_append_getElem hlt]
          intro hm
          rcases List.mem_append.1 hm with hm | hm
          · exact HN.out hm
          · rw [List.mem_singleton, hx] at hm; exact hxn hm.symm
        case measure => simp [intOf]; omega
    · have HF : Hid (R = false) := by
        show R = false
        rw [HV.out]
        refine decide_eq_false ?_
        have := HN.out
        rwa [List.take_of_length_le (by omega)] at this
      go_wp2
      go_ret
      exact ⟨by rw [HF.out]; rfl, by first | rfl | trivial⟩

theorem NumRow.lt {w : World} {B : Nat} {out : List Int} {v : Value} (h : NumRow w B out v) {b : Nat} (hb : v.ownBlock = some b) : B ≤ b ∧ b < w.heap.size := h.1.lt b hb

theorem NumRow.turn {w w' : World} {B : Nat} {out : List Int} {v : Value} (h : NumRow w B out v) (hb : ∀ b, v.ownBlock = some b → w'.heap[b]? = w.heap[b]?) : NumRow w' B out v := by
  refine ⟨⟨h.1.1, ?_⟩, h.2⟩
  rcases h.1.2 with hn | ⟨g, cap, cur, e, h1, h2, h3⟩
  · exact Or.inl hn
  · exact Or.inr ⟨g, cap, cur, e, h1, (hb g (by rw [e]; rfl)).trans h2, h3⟩

/-- what became of a row: it stayed where it was, or came to a new block -/
def Moved (w : World) (v v' : Value) : Prop := v'.ownBlock = v.ownBlock ∨ ∃ z, v'.ownBlock = some z ∧ w.heap.size ≤ z

theorem out_row {W wr w' : World} {v0 v : Value} (h : Out v0.ownBlock.toList W wr) (hm : Moved W v0 v) (h2 : Out v.ownBlock.toList wr w') : Out v0.ownBlock.toList W w' := by
  refine ⟨h2.os.trans h.os, h2.tape.trans h.tape, h2.output.trans h.output, Nat.le_trans h.size h2.size, fun k hk hn => ?_⟩
  rw [h2.block k (Nat.lt_of_lt_of_le hk h.size) ?_]
  · exact h.block k hk hn
  · intro hk'
    rcases hm with e | ⟨z, e, hz⟩
    · rw [e] at hk'; exact hn hk'
    · rw [e] at hk'; simp at hk'; omega
theorem moved_trans {W wr : World} {v0 v v' : Value} (h : Moved W v0 v) (hs : W.heap.size ≤ wr.heap.size) (h2 : Moved wr v v') : Moved W v0 v' := by
  rcases h2 with e | ⟨z, e, hz⟩
  · rcases h with e1 | ⟨z, e1, hz⟩
    · exact Or.inl (e.trans e1)
    · exact Or.inr ⟨z, e.trans e1, hz⟩
  · exact Or.inr ⟨z, e, by omega⟩
theorem out_below {B : Nat} {w w' : World} {out : List Int} {v : Value} (h : NumRow w B out v) (ho : Out v.ownBlock.toList w w') (hB : B ≤ w.heap.size) : Below B w w' :=
  ho.below (fun f hf => by
    cases e : v.ownBlock with
    | none => rw [e] at hf; cases hf
    | some b => rw [e] at hf; simp at hf; subst hf; exact (h.lt e).1) hB

def VarsOk (t : Tm) : Prop := ∀ (w0 w : World) (B : Nat) (v vo : Value) (out : List Int), TmIn w0 t v → Below w0.heap.size w0 w → w0.heap.size ≤ B → B ≤ w.heap.size → NumRow w B out vo → out.length + t.n ≤ 4194304 →
  Calls Try.prog 38 #[v, vo] w fun e w' => ∃ vo', e = .returned vo' ∧ NumRow w' B (t.vars out) vo' ∧ Out vo.ownBlock.toList w w' ∧ Moved w vo vo'

set_option maxHeartbeats 4000000 in
set_option maxRecDepth 20000 in
theorem vars_spec (t : Tm) : VarsOk t := by
  refine tm_ind (p := VarsOk) ?_ t
  clear t
  intro k s n ks hks w0 w B v vo out hin hbw hB0 hBw hrow hlen
  unfold TmIn at hin
  obtain ⟨ao, cap, rfl, hk, hn, hs, hl, hcap, hkr⟩ := hin
  obtain ⟨qo, qc, rfl, hq1, hq2, hq3⟩ := hrow.open
  rw [n_mk] at hlen
  rw [vars_mk]
  obtain ⟨W, hW⟩ : ∃ W, W = w.alloc (.cells #[.int .i64 k, .string s, .int .i64 n, .slice ao ks.length cap] 29) := ⟨_, rfl⟩
  have bW : Below w.heap.size w W := by rw [hW]; exact (Below.refl _ _).alloc (Nat.le_refl _) _
  have lW : W.heap.size = w.heap.size + 1 := by rw [hW]; simp
  have kW : W.heap[w.heap.size]? = some (.cells #[.int .i64 k, .string s, .int .i64 n, .slice ao ks.length cap] 29 (0, 0)) := by rw [hW]; exact heap_alloc_new w _
  have hrowW : NumRow W B out (.slice qo out.length qc) := hrow.keep bW
  have HCELL : Hid (∀ w', Out (Value.ownBlock (.slice qo out.length qc)).toList W w' → w'.cell? ⟨w.heap.size, 0, none⟩ = some (.int .i64 k) ∧ w'.cell? ⟨w.heap.size, 2, none⟩ = some (.int .i64 n) ∧ w'.cell? ⟨w.heap.size, 3, none⟩ = some (.slice ao ks.length cap)) := fun w' ho => by
    have hk' := (ho.block w.heap.size (by omega) (fun hf => by
      cases e : Value.ownBlock (.slice qo out.length qc) with
      | none => rw [e] at hf; cases hf
      | some b => rw [e] at hf; simp at hf; have := (hrow.lt e).2; omega)).trans kW
    exact ⟨blk_cell (i := 0) hk' (by simp), blk_cell (i := 2) hk' (by simp), blk_cell (i := 3) hk' (by simp)⟩
  obtain ⟨i0, hi, hz0, hz1, hz2⟩ := info_parts infoN
  have HHAS : Hid _ := has_any out n W B _ hrowW
  have HOUTW : Hid (∀ w', Out (Value.ownBlock (.slice qo out.length qc)).toList W w' → Out (Value.ownBlock (.slice qo out.length qc)).toList w w') := fun w' ho => (Out.of_below bW).trans ho
  have HKS : Hid (∀ t ∈ ks, VarsOk t) := hks
  have HKR : Hid (ks ≠ [] → ∃ b off, ao = some ⟨b, off, none⟩ ∧ TmsIn w0 ks b off) := hkr
  have HB0 : Hid (∀ w', Out (Value.ownBlock (.slice qo out.length qc)).toList W w' → Below w0.heap.size w0 w') := fun w' ho => by
    have h1 : Below w0.heap.size w0 W := hbw.trans (bW.mono hbw.size)
    have h2 := out_below hrowW ho (by omega)
    exact h1.trans (h2.mono hB0)
  have hBW : B ≤ W.heap.size := by omega
  have HLEN : Hid (out.length + (1 + ns ks) ≤ 4194304) := hlen
  have HMVW : Hid (∀ v, Moved W (.slice qo out.length qc) v → Moved w (.slice qo out.length qc) v) := fun v h => by
    rcases h with e | ⟨z, e, hz⟩
    · exact Or.inl e
    · exact Or.inr ⟨z, e, by omega⟩
  have hl20 : ks.length ≤ 9223372036854775807 := by unfold maxLen at hcap; omega
  unfold maxLen at hcap hq2
  clear hks hkr hrow hlen hbw hBw
  obtain ⟨x0, x2, x3⟩ := HCELL.out W (Out.refl _ _)
  rw [hW] at x0 x2 x3
  by_cases hk1 : k = 1
  · subst hk1
    rw [if_pos rfl]
    by_cases hm : n ∈ out
    · rw [decide_eq_true hm, hW] at HHAS
      have e1 : addN n out = out := by unfold addN; rw [if_pos hm]
      rw [e1]
      replace HHAS : Hid _ := HHAS
      have HNR : Hid (NumRow W B (varsL (ks.take 0) out) (.slice qo out.length qc)) := hrowW
      have HOU : Hid (Out (Value.ownBlock (.slice qo out.length qc)).toList W W) := Out.refl _ _
      have HMV : Hid (Moved W (.slice qo out.length qc) (.slice qo out.length qc)) := Or.inl rfl
      clear hrowW bW kW
      go_enter Try.func38, Try.ntmps38
      go_wp2_with (go_at_call 53; refine (Calls.mono HHAS.out ?_); rintro e w2 ⟨rfl, rfl⟩)
      rw [← hW]
      clear hW x0 x2 x3 lW HHAS
      go_loopw [1, 5] (fun vo vi wr => ∃ (j : Nat) (v : Value), j ≤ ks.length ∧ vi = .int .i64 (j : Int) ∧ v = vo ∧ Hid (NumRow wr B (varsL (ks.take j) out) v) ∧ Hid (Out (Value.ownBlock (.slice qo out.length qc)).toList W wr) ∧ Hid (Moved W (.slice qo out.length qc) v)) (fun _ i _ => ks.length - (intOf i).toNat)
      case atStart => exact ⟨0, _, by omega, rfl, rfl, HNR.out, HOU.out, HMV.out⟩
      case round =>
        obtain ⟨j, vv, hj, rfl, rfl, HNR2, HOU2, HMV2⟩ := hrel
        obtain ⟨c0, c2, c3⟩ := HCELL.out wr HOU2.out
        by_cases hlt : j < ks.length
        · obtain ⟨b, off, rfl, hrw⟩ := HKR.out (by intro e; subst e; simp at hlt)
          have hb0 : Below w0.heap.size w0 wr := HB0.out wr HOU2.out
          obtain ⟨d0, d1, d2, d3, h0, h1, h2, h3, ht⟩ := (TmsIn.keep hb0 ks b off hrw).at j hlt
          have ht0 := (hrw.at j hlt)
          obtain ⟨e0, e1', e2, e3, g0, g1, g2, g3, ht1⟩ := ht0
          have q0 := cell_keep g0 hb0
          have q1 := cell_keep g1 hb0
          have q2 := cell_keep g2 hb0
          have q3 := cell_keep g3 hb0
          rw [h0] at q0
          rw [h1] at q1
          rw [h2] at q2
          rw [h3] at q3
          obtain rfl : d0 = e0 := by simpa using q0
          obtain rfl : d1 = e1' := by simpa using q1
          obtain rfl : d2 = e2 := by simpa using q2
          obtain rfl : d3 = e3 := by simpa using q3
          obtain ⟨kj, sj, nj, aj, lj, cj, hsj⟩ := tm_shape ht1
          obtain ⟨rfl, rfl, rfl, rfl⟩ : d0 = .int .i64 kj ∧ d1 = .string sj ∧ d2 = .int .i64 nj ∧ d3 = .slice aj lj cj := by simpa using hsj
          obtain ⟨vao, vcap, rfl, _⟩ := HNR2.out.open
          have hBr : B ≤ wr.heap.size := Nat.le_trans hBW HOU2.out.size
          have hlenj : (varsL (ks.take j) out).length + ks[j].n ≤ 4194304 := by
            have h5 := varsL_len (ks.take j) out
            have h6 := HLEN.out
            have h7 : ns (ks.take j) + ks[j].n ≤ ns ks := by
              have := ns_take_le ks (j + 1)
              rw [List.take_succ_eq_append_getElem hlt, ns_append] at this
              simp only [ns, Tm.n.ns] at this ⊢
              omega
            omega
          have HC : Hid _ := HKS.out ks[j] (List.getElem_mem hlt) w0 wr B _ _ _ ht1 hb0 hB0 hBr HNR2.out hlenj
          clear q0 q1 q2 q3 g0 g1 g2 g3 hrw ht ht1 hsj hlenj
          go_wp2_with (go_at_call 38; refine (Calls.mono HC.out ?_); rintro e w2 ⟨vo', rfl, hr2, ho2, hm2⟩; have HR3 : Hid (NumRow w2 B (ks[j].vars (varsL (ks.take j) out)) vo') := hr2; have HO3 : Hid (Out (Value.ownBlock (.slice qo out.length qc)).toList W w2) := out_row HOU2.out HMV2.out ho2; have HM3 : Hid (Moved W (.slice qo out.length qc) vo') := moved_trans HMV2.out HOU2.out.size hm2; clear hr2 ho2 hm2)
          go_roundw
          case rel => exact ⟨j + 1, vo', by omega, by go_num, rfl, (by rw [varsL_take hlt]; exact HR3.out), HO3.out, HM3.out⟩
          case measure => simp [intOf]; omega
        · have HF : Hid (NumRow wr B (varsL ks out) vv) := by
            have := HNR2.out
            rwa [List.take_of_length_le (by omega)] at this
          clear HNR2
          go_wp2
          go_ret
          exact ⟨vv, rfl, HF.out, HOUTW.out wr HOU2.out, HMVW.out vv HMV2.out⟩
    · rw [decide_eq_false hm, hW] at HHAS
      have e1 : addN n out = out ++ [n] := by unfold addN; rw [if_neg hm]
      rw [e1]
      replace HHAS : Hid _ := HHAS
      obtain ⟨X, hX⟩ : ∃ X, X = W.alloc (.cells #[.int .i64 n] 3) := ⟨_, rfl⟩
      have bX : Below W.heap.size W X := by rw [hX]; exact (Below.refl _ _).alloc (Nat.le_refl _) _
      have lX : X.heap.size = W.heap.size + 1 := by rw [hX]; simp
      have HOWN := (hrowW.keep bX).1
      have hnew := cell_one_new W (.int .i64 n) 3
      have HFIN : Hid (∀ v' w1, w1.ownsRow B 3 1 v' (out.length + 1) (ints out ++ [.int .i64 n]) → X.grownBy w1 (Value.ownBlock (.slice qo out.length qc)) → (v'.ownBlock = Value.ownBlock (.slice qo out.length qc) ∨ v'.ownBlock = some X.heap.size) → (∃ a' c', v' = .slice a' (out.length + 1) c') ∧ NumRow w1 B (varsL (ks.take 0) (out ++ [n])) v' ∧ Out (Value.ownBlock (.slice qo out.length qc)).toList W w1 ∧ Moved W (.slice qo out.length qc) v') := by
        intro v' w1 h1 h2 h3
        refine ⟨?_, ⟨?_, fun x hx => ?_⟩, ⟨h2.os.trans bX.os, h2.tape.trans bX.tape, h2.output.trans bX.output, Nat.le_trans bX.size h2.size, fun k' hk' hn' => (h2.block k' (by omega) fun e => hn' (by simp [← e])).trans (bX.block k' hk')⟩, ?_⟩
        · rcases h1.2 with ⟨_, h⟩ | ⟨_, _, _, rfl, _⟩
          · omega
          · exact ⟨_, _, rfl⟩
        · show w1.ownsRow B 3 1 v' (out ++ [n]).length (ints (out ++ [n]))
          have e9 : ints (out ++ [n]) = ints out ++ [.int .i64 n] := by simp
          rw [List.length_append, e9]
          exact h1
        · rcases List.mem_append.1 hx with hx | hx
          · exact hrowW.2 x hx
          · rw [List.mem_singleton] at hx; subst hx; exact hn
        · rcases h3 with e | e
          · exact Or.inl e
          · exact Or.inr ⟨_, e, by omega⟩
      rw [hX, hW] at HOWN
      rw [hW] at hnew
      replace HOWN : Hid _ := HOWN
      replace hnew : Hid _ := hnew
      have HLX : Hid (X.heap.size = W.heap.size + 1 ∧ X = W.alloc (.cells #[.int .i64 n] 3)) := ⟨lX, hX⟩
      have hlo : out.length ≤ 4194304 := by have := HLEN.out; omega
      clear hrowW bW kW bX lX hX
      go_enter Try.func38, Try.ntmps38
      go_wp2_with (first | (go_at_call 53; refine (Calls.mono HHAS.out ?_); rintro e w2 ⟨rfl, rfl⟩) | (at_builtin; refine wpList_append_own_at _ rfl _ _ 36 rfl B 3 i0 (.int .i64 0) 1 8 Try.underlying36 hi hz0 hz1 hz2 rfl (by decide) _ _ _ rfl HOWN.out ⟨w.heap.size + 1, 0, none⟩ 1 1 [.int .i64 n] rfl rfl ?c1 ?c2 ?c3 ?c4 ?c5 ?_))
      case c1 => simpa using hnew.out
      case c2 => intro z hz; simp at hz; subst hz; rfl
      case c3 => unfold maxLen; omega
      case c4 => omega
      case c5 => simp; omega
      intro v' w1 hown' hgrow _ hat
      rw [← hW, ← HLX.out.2] at hgrow
      rw [show w.heap.size + 1 + 1 = X.heap.size by rw [HLX.out.1, lW]] at hat
      obtain ⟨⟨a', c', rfl⟩, hnr, hou, hmv⟩ := HFIN.out v' w1 hown' hgrow hat
      have HNR : Hid (NumRow w1 B (varsL (ks.take 0) (out ++ [n])) (.slice a' (out.length + 1) c')) := hnr
      have HOU : Hid (Out (Value.ownBlock (.slice qo out.length qc)).toList W w1) := hou
      have HMV : Hid (Moved W (.slice qo out.length qc) (.slice a' (out.length + 1) c')) := hmv
      clear hnr hou hmv hown' hgrow hat HFIN HOWN hnew HLX x0 x2 x3 lW HHAS hW
      go_wp2
      go_loopw [1, 5] (fun vo vi wr => ∃ (j : Nat) (v : Value), j ≤ ks.length ∧ vi = .int .i64 (j : Int) ∧ v = vo ∧ Hid (NumRow wr B (varsL (ks.take j) (out ++ [n])) v) ∧ Hid (Out (Value.ownBlock (.slice qo out.length qc)).toList W wr) ∧ Hid (Moved W (.slice qo out.length qc) v)) (fun _ i _ => ks.length - (intOf i).toNat)
      case atStart => exact ⟨0, _, by omega, rfl, rfl, HNR.out, HOU.out, HMV.out⟩
      case round =>
        obtain ⟨j, vv, hj, rfl, rfl, HNR2, HOU2, HMV2⟩ := hrel
        obtain ⟨c0, c2, c3⟩ := HCELL.out wr HOU2.out
        by_cases hlt : j < ks.length
        · obtain ⟨b, off, rfl, hrw⟩ := HKR.out (by intro e; subst e; simp at hlt)
          have hb0 : Below w0.heap.size w0 wr := HB0.out wr HOU2.out
          obtain ⟨d0, d1, d2, d3, h0, h1, h2, h3, ht⟩ := (TmsIn.keep hb0 ks b off hrw).at j hlt
          have ht0 := (hrw.at j hlt)
          obtain ⟨e0, e1', e2, e3, g0, g1, g2, g3, ht1⟩ := ht0
          have q0 := cell_keep g0 hb0
          have q1 := cell_keep g1 hb0
          have q2 := cell_keep g2 hb0
          have q3 := cell_keep g3 hb0
          rw [h0] at q0
          rw [h1] at q1
          rw [h2] at q2
          rw [h3] at q3
          obtain rfl : d0 = e0 := by simpa using q0
          obtain rfl : d1 = e1' := by simpa using q1
          obtain rfl : d2 = e2 := by simpa using q2
          obtain rfl : d3 = e3 := by simpa using q3
          obtain ⟨kj, sj, nj, aj, lj, cj, hsj⟩ := tm_shape ht1
          obtain ⟨rfl, rfl, rfl, rfl⟩ : d0 = .int .i64 kj ∧ d1 = .string sj ∧ d2 = .int .i64 nj ∧ d3 = .slice aj lj cj := by simpa using hsj
          obtain ⟨vao, vcap, rfl, _⟩ := HNR2.out.open
          have hBr : B ≤ wr.heap.size := Nat.le_trans hBW HOU2.out.size
          have hlenj : (varsL (ks.take j) (out ++ [n])).length + ks[j].n ≤ 4194304 := by
            have h5 := varsL_len (ks.take j) (out ++ [n])
            have h6 := HLEN.out
            have h8 : (out ++ [n]).length = out.length + 1 := by simp
            have h7 : ns (ks.take j) + ks[j].n ≤ ns ks := by
              have := ns_take_le ks (j + 1)
              rw [List.take_succ_eq_append_getElem hlt, ns_append] at this
              simp only [ns, Tm.n.ns] at this ⊢
              omega
            omega
          have HC : Hid _ := HKS.out ks[j] (List.getElem_mem hlt) w0 wr B _ _ _ ht1 hb0 hB0 hBr HNR2.out hlenj
          clear q0 q1 q2 q3 g0 g1 g2 g3 hrw ht ht1 hsj hlenj
          go_wp2_with (go_at_call 38; refine (Calls.mono HC.out ?_); rintro e w2 ⟨vo', rfl, hr2, ho2, hm2⟩; have HR3 : Hid (NumRow w2 B (ks[j].vars (varsL (ks.take j) (out ++ [n]))) vo') := hr2; have HO3 : Hid (Out (Value.ownBlock (.slice qo out.length qc)).toList W w2) := out_row HOU2.out HMV2.out ho2; have HM3 : Hid (Moved W (.slice qo out.length qc) vo') := moved_trans HMV2.out HOU2.out.size hm2; clear hr2 ho2 hm2)
          go_roundw
          case rel => exact ⟨j + 1, vo', by omega, by go_num, rfl, (by rw [varsL_take hlt]; exact HR3.out), HO3.out, HM3.out⟩
          case measure => simp [intOf]; omega
        · have HF : Hid (NumRow wr B (varsL ks (out ++ [n])) vv) := by
            have := HNR2.out
            rwa [List.take_of_length_le (by omega)] at this
          clear HNR2
          go_wp2
          go_ret
          exact ⟨vv, rfl, HF.out, HOUTW.out wr HOU2.out, HMVW.out vv HMV2.out⟩
  · rw [if_neg hk1]
    have hkb : (k == 1) = false := by simpa using hk1
    have HNR : Hid (NumRow W B (varsL (ks.take 0) out) (.slice qo out.length qc)) := hrowW
    have HOU : Hid (Out (Value.ownBlock (.slice qo out.length qc)).toList W W) := Out.refl _ _
    have HMV : Hid (Moved W (.slice qo out.length qc) (.slice qo out.length qc)) := Or.inl rfl
    clear hrowW bW kW
    go_enter Try.func38, Try.ntmps38
    go_wp2
    rw [← hW]
    clear hW x0 x2 x3 lW HHAS
    go_loopw [1, 5] (fun vo vi wr => ∃ (j : Nat) (v : Value), j ≤ ks.length ∧ vi = .int .i64 (j : Int) ∧ v = vo ∧ Hid (NumRow wr B (varsL (ks.take j) out) v) ∧ Hid (Out (Value.ownBlock (.slice qo out.length qc)).toList W wr) ∧ Hid (Moved W (.slice qo out.length qc) v)) (fun _ i _ => ks.length - (intOf i).toNat)
    case atStart => exact ⟨0, _, by omega, rfl, rfl, HNR.out, HOU.out, HMV.out⟩
    case round =>
      obtain ⟨j, vv, hj, rfl, rfl, HNR2, HOU2, HMV2⟩ := hrel
      obtain ⟨c0, c2, c3⟩ := HCELL.out wr HOU2.out
      by_cases hlt : j < ks.length
      · obtain ⟨b, off, rfl, hrw⟩ := HKR.out (by intro e; subst e; simp at hlt)
        have hb0 : Below w0.heap.size w0 wr := HB0.out wr HOU2.out
        obtain ⟨d0, d1, d2, d3, h0, h1, h2, h3, ht⟩ := (TmsIn.keep hb0 ks b off hrw).at j hlt
        have ht0 := (hrw.at j hlt)
        obtain ⟨e0, e1', e2, e3, g0, g1, g2, g3, ht1⟩ := ht0
        have q0 := cell_keep g0 hb0
        have q1 := cell_keep g1 hb0
        have q2 := cell_keep g2 hb0
        have q3 := cell_keep g3 hb0
        rw [h0] at q0
        rw [h1] at q1
        rw [h2] at q2
        rw [h3] at q3
        obtain rfl : d0 = e0 := by simpa using q0
        obtain rfl : d1 = e1' := by simpa using q1
        obtain rfl : d2 = e2 := by simpa using q2
        obtain rfl : d3 = e3 := by simpa using q3
        obtain ⟨kj, sj, nj, aj, lj, cj, hsj⟩ := tm_shape ht1
        obtain ⟨rfl, rfl, rfl, rfl⟩ : d0 = .int .i64 kj ∧ d1 = .string sj ∧ d2 = .int .i64 nj ∧ d3 = .slice aj lj cj := by simpa using hsj
        obtain ⟨vao, vcap, rfl, _⟩ := HNR2.out.open
        have hBr : B ≤ wr.heap.size := Nat.le_trans hBW HOU2.out.size
        have hlenj : (varsL (ks.take j) out).length + ks[j].n ≤ 4194304 := by
          have h5 := varsL_len (ks.take j) out
          have h6 := HLEN.out
          have h7 : ns (ks.take j) + ks[j].n ≤ ns ks := by
            have := ns_take_le ks (j + 1)
            rw [List.take_succ_eq_append_getElem hlt, ns_append] at this
            simp only [ns, Tm.n.ns] at this ⊢
            omega
          omega
        have HC : Hid _ := HKS.out ks[j] (List.getElem_mem hlt) w0 wr B _ _ _ ht1 hb0 hB0 hBr HNR2.out hlenj
        clear q0 q1 q2 q3 g0 g1 g2 g3 hrw ht ht1 hsj hlenj
        go_wp2_with (go_at_call 38; refine (Calls.mono HC.out ?_); rintro e w2 ⟨vo', rfl, hr2, ho2, hm2⟩; have HR3 : Hid (NumRow w2 B (ks[j].vars (varsL (ks.take j) out)) vo') := hr2; have HO3 : Hid (Out (Value.ownBlock (.slice qo out.length qc)).toList W w2) := out_row HOU2.out HMV2.out ho2; have HM3 : Hid (Moved W (.slice qo out.length qc) vo') := moved_trans HMV2.out HOU2.out.size hm2; clear hr2 ho2 hm2)
        go_roundw
        case rel => exact ⟨j + 1, vo', by omega, by go_num, rfl, (by rw [varsL_take hlt]; exact HR3.out), HO3.out, HM3.out⟩
        case measure => simp [intOf]; omega
      · have HF : Hid (NumRow wr B (varsL ks out) vv) := by
          have := HNR2.out
          rwa [List.take_of_length_le (by omega)] at this
        clear HNR2
        go_wp2
        go_ret
        exact ⟨vv, rfl, HF.out, HOUTW.out wr HOU2.out, HMVW.out vv HMV2.out⟩
end Go.Proofs.Ytdcphfcenaafbal

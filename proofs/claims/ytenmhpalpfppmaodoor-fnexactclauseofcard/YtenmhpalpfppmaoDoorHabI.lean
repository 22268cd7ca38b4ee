/- impl.headAndBody. -/
import Derived.Test.YtenmhpalpfppmaoDoorMkI
import Derived.Test.YtenmhpalpfppmaoDoorIsI
import Derived.Test.YtenmhpalpfppmaoDoorMrg8
import Derived.Test.YtenmhpalpfppmaoDoorMrg9
import Derived.Test.YtenmhpalpfppmaoDoorRegFactC
import Derived.Deep.RegionWith
import Derived.Deep.DeepCutAuto
namespace Go.Proofs.YtenmhpalpfppmaoDoor
open Go.RowKit

theorem results_tt {P : Program} {fn : Func} {p q : Tmp} {ty : TypeId} (h : fn.results = #[.cell p ty, .cell q ty]) (tmps : Array Value) (w : World) (g g2 : Nat) (cs cs2 : Array Value) (d : TypeDesc)
    (hp : tmps.getD p undef = .pointer (some ⟨g, 0, none⟩)) (hg : w.heap[g]? = some (.cells cs ty (0, 0)))
    (hq : tmps.getD q undef = .pointer (some ⟨g2, 0, none⟩)) (hg2 : w.heap[g2]? = some (.cells cs2 ty (0, 0)))
    (hu : P.underlying ty = some d) (hd : (match d with | .struct _ | .array _ _ => true | _ => false) = true) (hi : (P.info? ty).map (·.size) = some cs.size) (hi2 : (P.info? ty).map (·.size) = some cs2.size) :
    (results fn tmps).run P w = .ok (.tuple #[.agg cs, .agg cs2]) w := by
  have hp' : tmps[p]?.getD undef = .pointer (some ⟨g, 0, none⟩) := by simpa using hp
  have hq' : tmps[q]?.getD undef = .pointer (some ⟨g2, 0, none⟩) := by simpa using hq
  simp [results, h, hp', hq', asAddr, run_loadVar_row w g ty ty cs (0, 0) d hg hu hd hi, run_loadVar_row w g2 ty ty cs2 (0, 0) d hg2 hu hd hi2]
abbrev st4 (w : World) (g : Nat) (d0 d1 d2 d3 : Value) : World := (((w.setCell ⟨g, 0, none⟩ d0).setCell ⟨g, 1, none⟩ d1).setCell ⟨g, 2, none⟩ d2).setCell ⟨g, 3, none⟩ d3
theorem tmIn_true (w : World) : TmIn w (.mk 2 cTrue 0 []) (.agg #[.int .i64 2, .string cTrue, .int .i64 0, .slice none 0 0]) :=
  ⟨none, 0, rfl, by omega, by omega, by show 4 ≤ maxLen; unfold maxLen; omega, Nat.le_refl _, Nat.zero_le _, fun h => absurd rfl h⟩
/-- head and body, wherever they lie -/
def HabOut (t : Tm) (w : World) (e : Ending) (w' : World) : Prop :=
  ∃ k s n ao l c k' s' n' ao' l' c', e = .returned (.tuple #[.agg #[.int .i64 k, .string s, .int .i64 n, .slice ao l c], .agg #[.int .i64 k', .string s', .int .i64 n', .slice ao' l' c']]) ∧ TmIn w' (cutC t).1 (.agg #[.int .i64 k, .string s, .int .i64 n, .slice ao l c]) ∧ TmIn w' (cutC t).2 (.agg #[.int .i64 k', .string s', .int .i64 n', .slice ao' l' c']) ∧ Below w.heap.size w w'

set_option maxHeartbeats 4000000 in
set_option maxRecDepth 20000 in
theorem i_hab (t : Tm) (v : Value) (w : World) (hin : TmIn w t v) : Calls Tryd.prog 30 #[v] w (HabOut t w) := by
  obtain ⟨k, s, n, ks⟩ := t
  have hin0 := hin
  unfold TmIn at hin
  obtain ⟨ao, cap, rfl, hk, hn, hs, hlen, hcap, hrow⟩ := hin
  obtain ⟨l, hl⟩ : ∃ l, l = ks.length := ⟨_, rfl⟩
  rw [← hl] at hlen hin0 ⊢
  obtain ⟨W, hW⟩ : ∃ W, W = ((w.alloc (.cells #[.int .i64 k, .string s, .int .i64 n, .slice ao l cap] 31)).alloc (.cells #[.int .i64 0, .string ⟨#[]⟩, .int .i64 0, .slice none 0 0] 31)).alloc (.cells #[.int .i64 0, .string ⟨#[]⟩, .int .i64 0, .slice none 0 0] 31) := ⟨_, rfl⟩
  have bW : Below w.heap.size w W := by rw [hW]; exact (((Below.refl _ _).alloc (Nat.le_refl _) _).alloc (by simp) _).alloc (by simp; omega) _
  have lW : W.heap.size = w.heap.size + 3 := by rw [hW]; simp
  have k1 : W.heap[w.heap.size]? = some (.cells #[.int .i64 k, .string s, .int .i64 n, .slice ao l cap] 31 (0, 0)) := by rw [hW]; exact (alloc_old _ _ (by simp; omega)).trans ((alloc_old _ _ (by simp)).trans (alloc_at _ _ rfl))
  have k2 : W.heap[w.heap.size + 1]? = some (.cells #[.int .i64 0, .string ⟨#[]⟩, .int .i64 0, .slice none 0 0] 31 (0, 0)) := by rw [hW]; exact (alloc_old _ _ (by simp)).trans (alloc_at _ _ (by simp))
  have k3 : W.heap[w.heap.size + 2]? = some (.cells #[.int .i64 0, .string ⟨#[]⟩, .int .i64 0, .slice none 0 0] 31 (0, 0)) := by rw [hW]; exact alloc_at _ _ (by simp)
  have HK : Hid (∀ w1, Below W.heap.size W w1 → w1.heap[w.heap.size]? = some (.cells #[.int .i64 k, .string s, .int .i64 n, .slice ao l cap] 31 (0, 0)) ∧ w1.heap[w.heap.size + 1]? = some (.cells #[.int .i64 0, .string ⟨#[]⟩, .int .i64 0, .slice none 0 0] 31 (0, 0)) ∧ w1.heap[w.heap.size + 2]? = some (.cells #[.int .i64 0, .string ⟨#[]⟩, .int .i64 0, .slice none 0 0] 31 (0, 0))) := fun w1 hb => ⟨(hb.block _ (by omega)).trans k1, (hb.block _ (by omega)).trans k2, (hb.block _ (by omega)).trans k3⟩
  have HIN : Hid (∀ w1, Below W.heap.size W w1 → TmIn w1 (.mk k s n ks) (.agg #[.int .i64 k, .string s, .int .i64 n, .slice ao l cap])) := fun w1 hb => TmIn.keep hb _ _ (TmIn.keep bW _ _ hin0)
  have HIN0 : Hid (TmIn w (.mk k s n ks) (.agg #[.int .i64 k, .string s, .int .i64 n, .slice ao l cap])) := hin0
  have HIS0 := i_isS k s n ao l cap ⟨#[58, 45]⟩ 2 W
  have HAT : Hid (∀ w1, Calls Tryd.prog 50 #[.string cTrue] w1 fun e w' => e = .returned (.agg #[.int .i64 2, .string cTrue, .int .i64 0, .slice none 0 0]) ∧ Below w1.heap.size w1 w') := fun w1 => m_atomOf cTrue w1 (by show 4 ≤ 1048576; omega)
  have HST : Hid (∀ b w1, Calls Tryd.prog 51 #[.string cCall, .slice (some ⟨b, 0, none⟩) 1 1] w1 fun e w' => e = .returned (.agg #[.int .i64 4, .string cCall, .int .i64 0, .slice (some ⟨b, 0, none⟩) 1 1]) ∧ Below w1.heap.size w1 w') := fun b w1 => m_structOf cCall _ 1 1 w1 (by show 4 ≤ 1048576; omega)
  have HBW : Hid (Below w.heap.size w W) := bW
  have HSZ0 : Hid (W.heap.size = w.heap.size + 3) := lW
  unfold maxLen at hcap
  cases hc : isSB k s l cIf 2 with
  | false =>
    have hcut : Hid (cutC (.mk k s n ks) = (.mk k s n ks, .mk 2 cTrue 0 [])) := cutC_no n (by rw [← hl]; exact hc)
    rw [show isSB k s l ⟨#[58, 45]⟩ 2 = false from hc, hW] at HIS0
    have HIS : Hid _ := HIS0
    clear hk hn hs hlen hrow hin0 k1 k2 k3 bW lW HST hl hc HIS0
    unfold HabOut
    rw [hcut.out]
    go_enter Tryd.func30, Tryd.ntmps30
    go_upto_region 2 with (go_at_call 49; refine (Calls.mono HIS.out ?_); rintro e w1 ⟨rfl, hb⟩; rw [← hW] at hb; have HB1 : Hid (Below W.heap.size W w1) := hb; clear hb)
    clear hW HIS
    obtain ⟨p, hp⟩ : ∃ p, p = w.heap.size := ⟨_, rfl⟩
    rw [← hp] at HK HSZ0 ⊢
    have HPP : Hid (p = w.heap.size) := hp
    clear hp
    have HPN : Hid (∀ u, FS.But (p + 1) w1 u → u.heap[p]? = some (.cells #[.int .i64 k, .string s, .int .i64 n, .slice ao l cap] 31 (0, 0))) := fun u hu => (hu.block p (Array.getElem?_eq_some_iff.1 (HK.out w1 HB1.out).1).1 (by omega)).trans (HK.out w1 HB1.out).1
    refine FS.wp_region_factsS 3 2 (p + 1) (fun i v S w' => match i with
      | 0 => v = (.agg #[.int .i64 k, .string s, .int .i64 n, .slice ao l cap])
      | 1 => v = (.agg #[.int .i64 2, .string cTrue, .int .i64 0, .slice none 0 0])
      | _ => w'.heap[p + 1]? = some (.cells #[.int .i64 k, .string s, .int .i64 n, .slice ao l cap] 31 (0, 0))) (by kernel_rfl) (by kernel_rfl) 28 rfl (by kernel_rfl) ?_ ?_ ?_
    · intro i j v S w w' hi hne h hl
      match i, hi, h with
      | 0, _, h => exact h
      | 1, _, h => exact h
      | 2, _, h => exact ((hl.1 hne).block _ (Array.getElem?_eq_some_iff.1 h).1).trans h
      | k9 + 3, hh, _ => omega
    · intro i o hi ho a w' hb hfr hdep
      obtain ⟨q0, q1, q2, q3, _⟩ := blk4 (HPN.out w' hb)
      have u1 : a.tmps.getD 1 undef = (.pointer (some ⟨p, 0, none⟩)) := hfr 1 (by decide)
      have u2 : a.tmps.getD 2 undef = (.pointer (some ⟨p + 1, 0, none⟩)) := hfr 2 (by decide)
      match i, hi with
      | 0, _ =>
        obtain rfl : _ = o := by simpa using ho
        refine FS.fact_valueS (w' := w') (v := (.agg #[.int .i64 k, .string s, .int .i64 n, .slice ao l cap])) rfl ?_ (Below.refl _ _) ⟨[], rfl, by simp⟩
        simp only [execOp, Act.eval, u1]
        go_simp
      | 1, _ =>
        obtain rfl : _ = o := by simpa using ho
        refine FS.fact_callS rfl rfl Tryd.func50 (by kernel_rfl) (by kernel_rfl) (args := #[.string cTrue]) ?_ ?_
        · simp [Act.eval, cTrue]
        · refine Calls.mono (HAT.out w') ?_
          rintro e w4 ⟨rfl, hb4⟩
          exact ⟨_, rfl, hb4, [], rfl, by simp⟩
      | 2, _ =>
        obtain rfl : _ = o := by simpa using ho
        obtain ⟨_, h0⟩ : ∃ _ : List Nat, a.tmps.getD 9 undef = (.agg #[.int .i64 k, .string s, .int .i64 n, .slice ao l cap]) := hdep 0 (by kernel_rfl)
        obtain ⟨cs, kb9, hcs⟩ := hb.form _ _ ⟨_, (HK.out w1 HB1.out).2.1, rfl⟩
        obtain ⟨e0, e1, e2, e3, rfl⟩ := FS.four_of hcs
        obtain ⟨m0, m1, m2, m3, f0, f1, f2, f3⟩ := blk4 kb9
        refine FS.fact_storeS (w' := ((((w'.setCell ⟨p + 1, 0, none⟩ (.int .i64 k)).setCell ⟨p + 1, 1, none⟩ (.string s)).setCell ⟨p + 1, 2, none⟩ (.int .i64 n)).setCell ⟨p + 1, 3, none⟩ (.slice ao l cap))) rfl ?_ ?_ ⟨[], blk4_set kb9, by simp⟩
        · simp only [execOp, Act.eval, h0, u2]
          go_simp
        · exact FS.but4 kb9 (fun k9 hk9 => blk4_other hk9) (blk4_set kb9)
    intro vals S w2 hb hf _
    have e1 : vals 1 = .agg #[.int .i64 2, .string cTrue, .int .i64 0, .slice none 0 0] := (hf 1 (by omega)).1
    have HZ1 : Hid (w2.heap[p + 1]? = some (.cells #[.int .i64 k, .string s, .int .i64 n, .slice ao l cap] 31 (0, 0))) := (hf 2 (by omega)).1
    simp only [FS.putN, List.getElem?_toArray, List.getElem?_cons_zero, List.getElem?_cons_succ, Option.bind_some, List.drop_succ_cons, List.drop_zero, e1]
    generalize vals 0 = m0
    generalize vals 2 = m2
    simp only [Act.put, List.setIfInBounds_toArray, List.set_cons_succ, List.set_cons_zero]
    have hz2 : w2.heap[p + 2]? = _ := (hb.block _ (Array.getElem?_eq_some_iff.1 (HK.out w1 HB1.out).2.2).1 (by omega)).trans (HK.out w1 HB1.out).2.2
    have HZ2 : Hid _ := hz2
    have HB2 : Hid (FS.But (p + 1) w1 w2) := hb
    obtain ⟨y0, y1, y2, y3, h0, h1, h2, h3⟩ := blk4 hz2
    clear hf e1 hz2 hb
    go_wp2
    refine bodyPost_ret_by (results_tt rfl _ _ (p + 1) (p + 2) #[.int .i64 k, .string s, .int .i64 n, .slice ao l cap] #[.int .i64 2, .string cTrue, .int .i64 0, .slice none 0 0] _ rfl ((blk4_other (by omega)).trans HZ1.out) rfl (blk4_set HZ2.out) Tryd.underlying31 rfl (by kernel_rfl) (by kernel_rfl)) rfl ?_
    have hend : ∀ d4 d5 d6 d7, Below w.heap.size w (st4 w2 (p + 2) d4 d5 d6 d7) := fun d4 d5 d6 d7 => blk4_below ((HBW.out.trans (HB1.out.mono HBW.out.size)).trans (HB2.out.below (by have := HPP.out; omega) (by have := HB1.out.size; have := HBW.out.size; omega))) (by have := HPP.out; omega)
    exact ⟨_, _, _, _, _, _, _, _, _, _, _, _, rfl, TmIn.keep (hend _ _ _ _) _ _ HIN0.out, tmIn_true _, hend _ _ _ _⟩
  | true =>
    obtain ⟨rfl, rfl, x, y, rfl⟩ := isSB_yes (by rw [hl] at hc; exact hc)
    obtain rfl : l = 2 := hl
    obtain ⟨kb, ko, rfl, hr⟩ := hrow (by simp)
    obtain ⟨⟨cx0, cx1, cx2, cx3, hx0, hx1, hx2, hx3, tx⟩, ⟨cy0, cy1, cy2, cy3, hy0, hy1, hy2, hy3, ty⟩, _⟩ := hr
    obtain ⟨k0, s0, n0, a0, l0, c0, ex⟩ := tm_shape tx
    obtain ⟨kk, s1, n1, a1, l1, c1, ey⟩ := tm_shape ty
    obtain ⟨rfl, rfl, rfl, rfl⟩ : cx0 = .int .i64 k0 ∧ cx1 = .string s0 ∧ cx2 = .int .i64 n0 ∧ cx3 = .slice a0 l0 c0 := by simpa using ex
    obtain ⟨rfl, rfl, rfl, rfl⟩ : cy0 = .int .i64 kk ∧ cy1 = .string s1 ∧ cy2 = .int .i64 n1 ∧ cy3 = .slice a1 l1 c1 := by simpa using ey
    have hcut : Hid (cutC (.mk 4 cIf n [x, y]) = (x, if kk = 1 then .mk 4 cCall 0 [y] else y)) := by
      have e : y.kd = kk := by
        obtain ⟨k9, s9, n9, ks9⟩ := y
        unfold TmIn at ty
        obtain ⟨ao9, cap9, e9, _⟩ := ty
        have : kk = k9 ∧ s1 = s9 ∧ n1 = n9 ∧ a1 = ao9 ∧ l1 = ks9.length ∧ c1 = cap9 := by simpa using e9
        exact this.1.symm
      rw [← e]
      exact cutC_yes n x y
    have HR : Hid (∀ w1, Below W.heap.size W w1 → w1.cell? ⟨kb, ko, none⟩ = some (.int .i64 k0) ∧ w1.cell? ⟨kb, ko + 1, none⟩ = some (.string s0) ∧ w1.cell? ⟨kb, ko + 2, none⟩ = some (.int .i64 n0) ∧ w1.cell? ⟨kb, ko + 3, none⟩ = some (.slice a0 l0 c0) ∧ w1.cell? ⟨kb, ko + 4, none⟩ = some (.int .i64 kk) ∧ w1.cell? ⟨kb, ko + 4 + 1, none⟩ = some (.string s1) ∧ w1.cell? ⟨kb, ko + 4 + 2, none⟩ = some (.int .i64 n1) ∧ w1.cell? ⟨kb, ko + 4 + 3, none⟩ = some (.slice a1 l1 c1)) := fun w1 hb => by
      have hB := bW.trans (hb.mono bW.size)
      exact ⟨cell_keep hx0 hB, cell_keep hx1 hB, cell_keep hx2 hB, cell_keep hx3 hB, cell_keep hy0 hB, cell_keep hy1 hB, cell_keep hy2 hB, cell_keep hy3 hB⟩
    have HTX : Hid (TmIn w x (.agg #[.int .i64 k0, .string s0, .int .i64 n0, .slice a0 l0 c0])) := tx
    have HTY : Hid (TmIn w y (.agg #[.int .i64 kk, .string s1, .int .i64 n1, .slice a1 l1 c1])) := ty
    rw [show isSB 4 cIf 2 ⟨#[58, 45]⟩ 2 = true from hc, hW] at HIS0
    have HIS : Hid _ := HIS0
    clear hk hn hs hlen hrow hin0 k3 k2 bW lW HAT hc HIS0 HIN HIN0 hx0 hx1 hx2 hx3 hy0 hy1 hy2 hy3 tx ty ex ey k1
    unfold HabOut
    rw [hcut.out]
    obtain ⟨R2, hR2⟩ : ∃ R2, R2 = (if kk = 1 then Tm.mk 4 cCall 0 [y] else y) := ⟨_, rfl⟩
    have HR2 : Hid (R2 = (if kk = 1 then Tm.mk 4 cCall 0 [y] else y)) := hR2
    rw [← hR2]
    clear hR2 hcut
    go_enter Tryd.func30, Tryd.ntmps30
    go_upto_region 3 with (go_at_call 49; refine (Calls.mono HIS.out ?_); rintro e w1 ⟨rfl, hb⟩; rw [← hW] at hb; have HB1 : Hid (Below W.heap.size W w1) := hb; clear hb)
    clear hW HIS
    obtain ⟨p, hp⟩ : ∃ p, p = w.heap.size := ⟨_, rfl⟩
    rw [← hp] at HK HSZ0 ⊢
    have HPP : Hid (p = w.heap.size) := hp
    have HSZ : Hid (W.heap.size = p + 3) := HSZ0.out
    clear hp HSZ0
    have hbb := HB1.out
    obtain ⟨q0, q1, q2, q3, _⟩ := blk4 (HK.out w1 hbb).1
    obtain ⟨x0, x1, x2, x3, y0, y1, y2, y3⟩ := HR.out w1 hbb
    have hkb : kb < w1.heap.size := cell_blk x0
    have hpb : p < w1.heap.size := cell_blk q0
    clear hbb
    go_region
    · obtain ⟨V, hV⟩ : ∃ V, V = ((w1.alloc (.cells #[.int .i64 k0, .string s0, .int .i64 n0, .slice a0 l0 c0] 31)).alloc (.cells #[.int .i64 kk, .string s1, .int .i64 n1, .slice a1 l1 c1] 31)).drew := ⟨_, rfl⟩
      obtain ⟨bx, hbx⟩ : ∃ bx, bx = w1.heap.size := ⟨_, rfl⟩
      obtain ⟨by_, hby⟩ : ∃ by_, by_ = w1.heap.size + 1 := ⟨_, rfl⟩
      rw [← hV]
      first | rw [← hby, ← hbx] | rw [← hbx, ← hby]
      have hs1 := HB1.out.size
      have hsz := HSZ.out
      have hV1 : Below w1.heap.size w1 V := by rw [hV]; exact (((Below.refl _ _).alloc (Nat.le_refl _) _).alloc (by simp) _).drew
      have hVB : Below W.heap.size W V := HB1.out.trans (hV1.mono hs1)
      have HNE : Hid (bx ≠ by_ ∧ p + 3 ≤ bx ∧ p + 3 ≤ by_ ∧ bx < V.heap.size ∧ by_ < V.heap.size) := by
        have : V.heap.size = w1.heap.size + 2 := by rw [hV]; show ((w1.alloc _).alloc _).heap.size = _; simp
        exact ⟨by omega, by omega, by omega, by omega, by omega⟩
      have hVx : V.heap[bx]? = some (.cells #[.int .i64 k0, .string s0, .int .i64 n0, .slice a0 l0 c0] 31 (0, 0)) := by rw [hV, hbx]; show ((w1.alloc _).alloc _).heap[_]? = _; first | exact alloc_at _ _ (by simp) | exact (alloc_old _ _ (by simp)).trans (alloc_at _ _ rfl)
      have hVy : V.heap[by_]? = some (.cells #[.int .i64 kk, .string s1, .int .i64 n1, .slice a1 l1 c1] 31 (0, 0)) := by rw [hV, hby]; show ((w1.alloc _).alloc _).heap[_]? = _; first | exact alloc_at _ _ (by simp) | exact (alloc_old _ _ (by simp)).trans (alloc_at _ _ rfl)
      have HXY : Hid (∀ w', Below V.heap.size V w' → w'.heap[bx]? = some (.cells #[.int .i64 k0, .string s0, .int .i64 n0, .slice a0 l0 c0] 31 (0, 0)) ∧ w'.heap[by_]? = some (.cells #[.int .i64 kk, .string s1, .int .i64 n1, .slice a1 l1 c1] 31 (0, 0)) ∧ w'.heap[p + 1]? = some (.cells #[.int .i64 0, .string ⟨#[]⟩, .int .i64 0, .slice none 0 0] 31 (0, 0)) ∧ w'.heap[p + 2]? = some (.cells #[.int .i64 0, .string ⟨#[]⟩, .int .i64 0, .slice none 0 0] 31 (0, 0))) := fun w' hb =>
        have hk := HK.out w' (hVB.trans (hb.mono hVB.size))
        ⟨below_hp hb hVx, below_hp hb hVy, hk.2.1, hk.2.2⟩
      have HVN : Hid (∀ u, FS.But (p + 1) V u → u.heap[bx]? = some (.cells #[.int .i64 k0, .string s0, .int .i64 n0, .slice a0 l0 c0] 31 (0, 0)) ∧ u.heap[by_]? = some (.cells #[.int .i64 kk, .string s1, .int .i64 n1, .slice a1 l1 c1] 31 (0, 0)) ∧ u.heap[p + 2]? = some (.cells #[.int .i64 0, .string ⟨#[]⟩, .int .i64 0, .slice none 0 0] 31 (0, 0))) := fun u hu =>
        have hk := HXY.out V (Below.refl _ _)
        have hne := HNE.out
        ⟨(hu.block bx hne.2.2.2.1 (by omega)).trans hk.1, (hu.block by_ hne.2.2.2.2 (by omega)).trans hk.2.1, (hu.block _ (Array.getElem?_eq_some_iff.1 hk.2.2.2).1 (by omega)).trans hk.2.2.2⟩
      have HVW : Hid (Below w.heap.size w V) := HBW.out.trans (hVB.mono HBW.out.size)
      have HVP : Hid (p + 3 ≤ V.heap.size) := by have := hVB.size; show _ ≤ _; omega
      clear hV hVB hVx hVy hV1 hs1 hsz hbx hby q0 q1 q2 q3 x0 x1 x2 x3 y0 y1 y2 y3 hkb hpb
      obtain ⟨y0, y1, y2, y3, _⟩ := blk4 (HXY.out V (Below.refl _ _)).2.1
      by_cases hk1 : kk = 1
      · subst hk1
        have HRR : Hid (R2 = Tm.mk 4 cCall 0 [y]) := HR2.out.trans (if_pos rfl)
        go_upto_region 5 with fail
        clear y0 y1 y2 y3
        refine FS.wp_region_factsS 5 4 (p + 1) (fun i v S w' => match i with
          | 0 => v = (.agg #[.int .i64 k0, .string s0, .int .i64 n0, .slice a0 l0 c0])
          | 1 => v = (.agg #[.int .i64 1, .string s1, .int .i64 n1, .slice a1 l1 c1])
          | 2 => ∃ b, v = .slice (some ⟨b, 0, none⟩) 1 1 ∧ w'.heap[b]? = some (.cells #[.int .i64 1, .string s1, .int .i64 n1, .slice a1 l1 c1] 31 (0, 0)) ∧ V.heap.size ≤ b
          | 3 => ∃ b, v = .agg #[.int .i64 4, .string cCall, .int .i64 0, .slice (some ⟨b, 0, none⟩) 1 1] ∧ w'.heap[b]? = some (.cells #[.int .i64 1, .string s1, .int .i64 n1, .slice a1 l1 c1] 31 (0, 0)) ∧ V.heap.size ≤ b
          | _ => w'.heap[p + 1]? = some (.cells #[.int .i64 k0, .string s0, .int .i64 n0, .slice a0 l0 c0] 31 (0, 0))) (by kernel_rfl) (by kernel_rfl) 28 rfl (by kernel_rfl) ?_ ?_ ?_
        · intro i j v S w w' hi hne h hl
          match i, hi, h with
          | 0, _, h => exact h
          | 1, _, h => exact h
          | 2, _, ⟨b, h1, h2, h3⟩ => exact ⟨b, h1, (hl.2.block b (Array.getElem?_eq_some_iff.1 h2).1 (by have := HVP.out; omega)).trans h2, h3⟩
          | 3, _, ⟨b, h1, h2, h3⟩ => exact ⟨b, h1, (hl.2.block b (Array.getElem?_eq_some_iff.1 h2).1 (by have := HVP.out; omega)).trans h2, h3⟩
          | 4, _, h => exact ((hl.1 hne).block _ (Array.getElem?_eq_some_iff.1 h).1).trans h
          | k9 + 5, hh, _ => omega
        · intro i o hi ho a w' hb hfr hdep
          obtain ⟨x0, x1, x2, x3, _⟩ := blk4 (HVN.out w' hb).1
          obtain ⟨y0, y1, y2, y3, _⟩ := blk4 (HVN.out w' hb).2.1
          have u2 : a.tmps.getD 2 undef = (.pointer (some ⟨p + 1, 0, none⟩)) := hfr 2 (by decide)
          have u4 : a.tmps.getD 4 undef = (.pointer (some ⟨bx, 0, none⟩)) := hfr 4 (by decide)
          have u5 : a.tmps.getD 5 undef = (.pointer (some ⟨by_, 0, none⟩)) := hfr 5 (by decide)
          match i, hi with
          | 0, _ =>
            obtain rfl : _ = o := by simpa using ho
            refine FS.fact_valueS (w' := w') (v := (.agg #[.int .i64 k0, .string s0, .int .i64 n0, .slice a0 l0 c0])) rfl ?_ (Below.refl _ _) ⟨[], rfl, by simp⟩
            simp only [execOp, Act.eval, u4]
            go_simp
          | 1, _ =>
            obtain rfl : _ = o := by simpa using ho
            refine FS.fact_valueS (w' := w') (v := (.agg #[.int .i64 1, .string s1, .int .i64 n1, .slice a1 l1 c1])) rfl ?_ (Below.refl _ _) ⟨[], rfl, by simp⟩
            simp only [execOp, Act.eval, u5]
            go_simp
          | 2, _ =>
            obtain rfl : _ = o := by simpa using ho
            obtain ⟨_, h1⟩ : ∃ _ : List Nat, a.tmps.getD 23 undef = (.agg #[.int .i64 1, .string s1, .int .i64 n1, .slice a1 l1 c1]) := hdep 1 (by kernel_rfl)
            have e9 : (#[((0 : Nat), Operand.tmp 23)].map fun x => (x.1, a.eval x.2)) = #[(0, .agg #[.int .i64 1, .string s1, .int .i64 n1, .slice a1 l1 c1])] := by simp [Act.eval]; simpa using h1
            refine FS.fact_valueS (w' := w'.alloc (.cells #[.int .i64 1, .string s1, .int .i64 n1, .slice a1 l1 c1] 31)) (v := .slice (some ⟨w'.heap.size, 0, none⟩) 1 1) rfl ?_ ((Below.refl _ _).alloc (Nat.le_refl _) _) ⟨[], ⟨w'.heap.size, rfl, heap_alloc_new _ _, hb.size⟩, by simp⟩
            clear hdep hfr ho
            simp only [execOp, e9]
            go_simp
          | 3, _ =>
            obtain rfl : _ = o := by simpa using ho
            obtain ⟨_, b, hv2, hk2, hb2⟩ : ∃ S : List Nat, ∃ b, a.tmps.getD 24 undef = .slice (some ⟨b, 0, none⟩) 1 1 ∧ w'.heap[b]? = some (.cells #[.int .i64 1, .string s1, .int .i64 n1, .slice a1 l1 c1] 31 (0, 0)) ∧ V.heap.size ≤ b := hdep 2 (by kernel_rfl)
            refine FS.fact_callS rfl rfl Tryd.func51 (by kernel_rfl) (by kernel_rfl) (args := #[.string cCall, .slice (some ⟨b, 0, none⟩) 1 1]) (by simp [Act.eval, cCall]; simpa using hv2) ?_
            refine Calls.mono (HST.out b w') ?_
            rintro e w4 ⟨rfl, hb4⟩
            exact ⟨_, rfl, hb4, [], ⟨b, rfl, (hb4.block b (Array.getElem?_eq_some_iff.1 hk2).1).trans hk2, hb2⟩, by simp⟩
          | 4, _ =>
            obtain rfl : _ = o := by simpa using ho
            obtain ⟨_, h0⟩ : ∃ _ : List Nat, a.tmps.getD 22 undef = (.agg #[.int .i64 k0, .string s0, .int .i64 n0, .slice a0 l0 c0]) := hdep 0 (by kernel_rfl)
            obtain ⟨cs, kb9, hcs⟩ := hb.form _ _ ⟨_, (HXY.out V (Below.refl _ _)).2.2.1, rfl⟩
            obtain ⟨e0, e1, e2, e3, rfl⟩ := FS.four_of hcs
            obtain ⟨m0, m1, m2, m3, f0, f1, f2, f3⟩ := blk4 kb9
            refine FS.fact_storeS (w' := ((((w'.setCell ⟨p + 1, 0, none⟩ (.int .i64 k0)).setCell ⟨p + 1, 1, none⟩ (.string s0)).setCell ⟨p + 1, 2, none⟩ (.int .i64 n0)).setCell ⟨p + 1, 3, none⟩ (.slice a0 l0 c0))) rfl ?_ ?_ ⟨[], blk4_set kb9, by simp⟩
            · simp only [execOp, Act.eval, h0, u2]
              go_simp
            · exact FS.but4 kb9 (fun k9 hk9 => blk4_other hk9) (blk4_set kb9)
        intro vals S w3 hb hf _
        obtain ⟨b, e3, hkb, hbV⟩ := (hf 3 (by omega)).1
        have HZ1 : Hid (w3.heap[p + 1]? = some (.cells #[.int .i64 k0, .string s0, .int .i64 n0, .slice a0 l0 c0] 31 (0, 0))) := (hf 4 (by omega)).1
        simp only [FS.putN, List.getElem?_toArray, List.getElem?_cons_zero, List.getElem?_cons_succ, Option.bind_some, List.drop_succ_cons, List.drop_zero, e3]
        generalize vals 0 = m0
        generalize vals 1 = m1
        generalize vals 2 = m2
        generalize vals 4 = m4
        simp only [Act.put, List.setIfInBounds_toArray, List.set_cons_succ, List.set_cons_zero]
        have hz2 := (HVN.out w3 hb).2.2
        have HZ2 : Hid _ := hz2
        have HBB : Hid (FS.But (p + 1) V w3) := hb
        have HKB : Hid _ := hkb
        obtain ⟨y0, y1, y2, y3, h0, h1, h2, h3⟩ := blk4 hz2
        have HBV : Hid (V.heap.size ≤ b) := hbV
        clear hf e3 hz2 hb hkb hbV
        go_wp2
        refine bodyPost_ret_by (results_tt rfl _ _ (p + 1) (p + 2) #[.int .i64 k0, .string s0, .int .i64 n0, .slice a0 l0 c0] #[.int .i64 4, .string cCall, .int .i64 0, .slice (some ⟨b, 0, none⟩) 1 1] _ rfl ((blk4_other (by omega)).trans HZ1.out) rfl (blk4_set HZ2.out) Tryd.underlying31 rfl (by kernel_rfl) (by kernel_rfl)) rfl ?_
        have hend : ∀ d4 d5 d6 d7, Below w.heap.size w (st4 w3 (p + 2) d4 d5 d6 d7) := fun d4 d5 d6 d7 => blk4_below (HVW.out.trans (HBB.out.below (by have := HPP.out; omega) HVW.out.size)) (by have := HPP.out; omega)
        have hrow : ∀ d4 d5 d6 d7, (st4 w3 (p + 2) d4 d5 d6 d7).heap[b]? = some (.cells #[.int .i64 1, .string s1, .int .i64 n1, .slice a1 l1 c1] 31 (0, 0)) := fun d4 d5 d6 d7 => (blk4_other (by have := HBV.out; have := HVP.out; omega)).trans HKB.out
        rw [HRR.out]
        refine ⟨_, _, _, _, _, _, _, _, _, _, _, _, rfl, TmIn.keep (hend _ _ _ _) _ _ HTX.out, ?_, hend _ _ _ _⟩
        obtain ⟨q0, q1, q2, q3, _⟩ := blk4 (hrow (.int .i64 4) (.string cCall) (.int .i64 0) (.slice (some ⟨b, 0, none⟩) 1 1))
        exact ⟨some ⟨b, 0, none⟩, 1, rfl, by omega, by omega, by show 4 ≤ maxLen; unfold maxLen; omega, Nat.le_refl _, by unfold maxLen; omega, fun _ => ⟨b, 0, rfl, ⟨_, _, _, _, q0, q1, q2, q3, TmIn.keep (hend _ _ _ _) _ _ HTY.out⟩, trivial⟩⟩
      · have HRR : Hid (R2 = y) := HR2.out.trans (if_neg hk1)
        have hk1' : (kk == 1) = false := beq_eq_false_iff_ne.2 hk1
        clear hk1
        go_upto_region 6 with fail
        clear y0 y1 y2 y3 hk1'
        refine FS.wp_region_factsS 3 2 (p + 1) (fun i v S w' => match i with
          | 0 => v = (.agg #[.int .i64 k0, .string s0, .int .i64 n0, .slice a0 l0 c0])
          | 1 => v = (.agg #[.int .i64 kk, .string s1, .int .i64 n1, .slice a1 l1 c1])
          | _ => w'.heap[p + 1]? = some (.cells #[.int .i64 k0, .string s0, .int .i64 n0, .slice a0 l0 c0] 31 (0, 0))) (by kernel_rfl) (by kernel_rfl) 28 rfl (by kernel_rfl) ?_ ?_ ?_
        · intro i j v S w w' hi hne h hl
          match i, hi, h with
          | 0, _, h => exact h
          | 1, _, h => exact h
          | 2, _, h => exact ((hl.1 hne).block _ (Array.getElem?_eq_some_iff.1 h).1).trans h
          | k9 + 3, hh, _ => omega
        · intro i o hi ho a w' hb hfr hdep
          obtain ⟨x0, x1, x2, x3, _⟩ := blk4 (HVN.out w' hb).1
          obtain ⟨y0, y1, y2, y3, _⟩ := blk4 (HVN.out w' hb).2.1
          have u2 : a.tmps.getD 2 undef = (.pointer (some ⟨p + 1, 0, none⟩)) := hfr 2 (by decide)
          have u4 : a.tmps.getD 4 undef = (.pointer (some ⟨bx, 0, none⟩)) := hfr 4 (by decide)
          have u5 : a.tmps.getD 5 undef = (.pointer (some ⟨by_, 0, none⟩)) := hfr 5 (by decide)
          match i, hi with
          | 0, _ =>
            obtain rfl : _ = o := by simpa using ho
            refine FS.fact_valueS (w' := w') (v := (.agg #[.int .i64 k0, .string s0, .int .i64 n0, .slice a0 l0 c0])) rfl ?_ (Below.refl _ _) ⟨[], rfl, by simp⟩
            simp only [execOp, Act.eval, u4]
            go_simp
          | 1, _ =>
            obtain rfl : _ = o := by simpa using ho
            refine FS.fact_valueS (w' := w') (v := (.agg #[.int .i64 kk, .string s1, .int .i64 n1, .slice a1 l1 c1])) rfl ?_ (Below.refl _ _) ⟨[], rfl, by simp⟩
            simp only [execOp, Act.eval, u5]
            go_simp
          | 2, _ =>
            obtain rfl : _ = o := by simpa using ho
            obtain ⟨_, h0⟩ : ∃ _ : List Nat, a.tmps.getD 26 undef = (.agg #[.int .i64 k0, .string s0, .int .i64 n0, .slice a0 l0 c0]) := hdep 0 (by kernel_rfl)
            obtain ⟨cs, kb9, hcs⟩ := hb.form _ _ ⟨_, (HXY.out V (Below.refl _ _)).2.2.1, rfl⟩
            obtain ⟨e0, e1, e2, e3, rfl⟩ := FS.four_of hcs
            obtain ⟨m0, m1, m2, m3, f0, f1, f2, f3⟩ := blk4 kb9
            refine FS.fact_storeS (w' := ((((w'.setCell ⟨p + 1, 0, none⟩ (.int .i64 k0)).setCell ⟨p + 1, 1, none⟩ (.string s0)).setCell ⟨p + 1, 2, none⟩ (.int .i64 n0)).setCell ⟨p + 1, 3, none⟩ (.slice a0 l0 c0))) rfl ?_ ?_ ⟨[], blk4_set kb9, by simp⟩
            · simp only [execOp, Act.eval, h0, u2]
              go_simp
            · exact FS.but4 kb9 (fun k9 hk9 => blk4_other hk9) (blk4_set kb9)
        intro vals S w3 hb hf _
        have e1 : vals 1 = .agg #[.int .i64 kk, .string s1, .int .i64 n1, .slice a1 l1 c1] := (hf 1 (by omega)).1
        have HZ1 : Hid (w3.heap[p + 1]? = some (.cells #[.int .i64 k0, .string s0, .int .i64 n0, .slice a0 l0 c0] 31 (0, 0))) := (hf 2 (by omega)).1
        simp only [FS.putN, List.getElem?_toArray, List.getElem?_cons_zero, List.getElem?_cons_succ, Option.bind_some, List.drop_succ_cons, List.drop_zero, e1]
        generalize vals 0 = m0
        generalize vals 2 = m2
        simp only [Act.put, List.setIfInBounds_toArray, List.set_cons_succ, List.set_cons_zero]
        have hz2 := (HVN.out w3 hb).2.2
        have HZ2 : Hid _ := hz2
        have HBB : Hid (FS.But (p + 1) V w3) := hb
        obtain ⟨y0, y1, y2, y3, h0, h1, h2, h3⟩ := blk4 hz2
        clear hf e1 hz2 hb
        go_wp2
        refine bodyPost_ret_by (results_tt rfl _ _ (p + 1) (p + 2) #[.int .i64 k0, .string s0, .int .i64 n0, .slice a0 l0 c0] #[.int .i64 kk, .string s1, .int .i64 n1, .slice a1 l1 c1] _ rfl ((blk4_other (by omega)).trans HZ1.out) rfl (blk4_set HZ2.out) Tryd.underlying31 rfl (by kernel_rfl) (by kernel_rfl)) rfl ?_
        have hend : ∀ d4 d5 d6 d7, Below w.heap.size w (st4 w3 (p + 2) d4 d5 d6 d7) := fun d4 d5 d6 d7 => blk4_below (HVW.out.trans (HBB.out.below (by have := HPP.out; omega) HVW.out.size)) (by have := HPP.out; omega)
        rw [HRR.out]
        exact ⟨_, _, _, _, _, _, _, _, _, _, _, _, rfl, TmIn.keep (hend _ _ _ _) _ _ HTX.out, TmIn.keep (hend _ _ _ _) _ _ HTY.out, hend _ _ _ _⟩
    · obtain ⟨V, hV⟩ : ∃ V, V = ((w1.alloc (.cells #[.int .i64 kk, .string s1, .int .i64 n1, .slice a1 l1 c1] 31)).alloc (.cells #[.int .i64 k0, .string s0, .int .i64 n0, .slice a0 l0 c0] 31)).drew := ⟨_, rfl⟩
      obtain ⟨bx, hbx⟩ : ∃ bx, bx = w1.heap.size + 1 := ⟨_, rfl⟩
      obtain ⟨by_, hby⟩ : ∃ by_, by_ = w1.heap.size := ⟨_, rfl⟩
      rw [← hV]
      first | rw [← hby, ← hbx] | rw [← hbx, ← hby]
      have hs1 := HB1.out.size
      have hsz := HSZ.out
      have hV1 : Below w1.heap.size w1 V := by rw [hV]; exact (((Below.refl _ _).alloc (Nat.le_refl _) _).alloc (by simp) _).drew
      have hVB : Below W.heap.size W V := HB1.out.trans (hV1.mono hs1)
      have HNE : Hid (bx ≠ by_ ∧ p + 3 ≤ bx ∧ p + 3 ≤ by_ ∧ bx < V.heap.size ∧ by_ < V.heap.size) := by
        have : V.heap.size = w1.heap.size + 2 := by rw [hV]; show ((w1.alloc _).alloc _).heap.size = _; simp
        exact ⟨by omega, by omega, by omega, by omega, by omega⟩
      have hVx : V.heap[bx]? = some (.cells #[.int .i64 k0, .string s0, .int .i64 n0, .slice a0 l0 c0] 31 (0, 0)) := by rw [hV, hbx]; show ((w1.alloc _).alloc _).heap[_]? = _; first | exact alloc_at _ _ (by simp) | exact (alloc_old _ _ (by simp)).trans (alloc_at _ _ rfl)
      have hVy : V.heap[by_]? = some (.cells #[.int .i64 kk, .string s1, .int .i64 n1, .slice a1 l1 c1] 31 (0, 0)) := by rw [hV, hby]; show ((w1.alloc _).alloc _).heap[_]? = _; first | exact alloc_at _ _ (by simp) | exact (alloc_old _ _ (by simp)).trans (alloc_at _ _ rfl)
      have HXY : Hid (∀ w', Below V.heap.size V w' → w'.heap[bx]? = some (.cells #[.int .i64 k0, .string s0, .int .i64 n0, .slice a0 l0 c0] 31 (0, 0)) ∧ w'.heap[by_]? = some (.cells #[.int .i64 kk, .string s1, .int .i64 n1, .slice a1 l1 c1] 31 (0, 0)) ∧ w'.heap[p + 1]? = some (.cells #[.int .i64 0, .string ⟨#[]⟩, .int .i64 0, .slice none 0 0] 31 (0, 0)) ∧ w'.heap[p + 2]? = some (.cells #[.int .i64 0, .string ⟨#[]⟩, .int .i64 0, .slice none 0 0] 31 (0, 0))) := fun w' hb =>
        have hk := HK.out w' (hVB.trans (hb.mono hVB.size))
        ⟨below_hp hb hVx, below_hp hb hVy, hk.2.1, hk.2.2⟩
      have HVN : Hid (∀ u, FS.But (p + 1) V u → u.heap[bx]? = some (.cells #[.int .i64 k0, .string s0, .int .i64 n0, .slice a0 l0 c0] 31 (0, 0)) ∧ u.heap[by_]? = some (.cells #[.int .i64 kk, .string s1, .int .i64 n1, .slice a1 l1 c1] 31 (0, 0)) ∧ u.heap[p + 2]? = some (.cells #[.int .i64 0, .string ⟨#[]⟩, .int .i64 0, .slice none 0 0] 31 (0, 0))) := fun u hu =>
        have hk := HXY.out V (Below.refl _ _)
        have hne := HNE.out
        ⟨(hu.block bx hne.2.2.2.1 (by omega)).trans hk.1, (hu.block by_ hne.2.2.2.2 (by omega)).trans hk.2.1, (hu.block _ (Array.getElem?_eq_some_iff.1 hk.2.2.2).1 (by omega)).trans hk.2.2.2⟩
      have HVW : Hid (Below w.heap.size w V) := HBW.out.trans (hVB.mono HBW.out.size)
      have HVP : Hid (p + 3 ≤ V.heap.size) := by have := hVB.size; show _ ≤ _; omega
      clear hV hVB hVx hVy hV1 hs1 hsz hbx hby q0 q1 q2 q3 x0 x1 x2 x3 y0 y1 y2 y3 hkb hpb
      obtain ⟨y0, y1, y2, y3, _⟩ := blk4 (HXY.out V (Below.refl _ _)).2.1
      by_cases hk1 : kk = 1
      · subst hk1
        have HRR : Hid (R2 = Tm.mk 4 cCall 0 [y]) := HR2.out.trans (if_pos rfl)
        go_upto_region 5 with fail
        clear y0 y1 y2 y3
        refine FS.wp_region_factsS 5 4 (p + 1) (fun i v S w' => match i with
          | 0 => v = (.agg #[.int .i64 k0, .string s0, .int .i64 n0, .slice a0 l0 c0])
          | 1 => v = (.agg #[.int .i64 1, .string s1, .int .i64 n1, .slice a1 l1 c1])
          | 2 => ∃ b, v = .slice (some ⟨b, 0, none⟩) 1 1 ∧ w'.heap[b]? = some (.cells #[.int .i64 1, .string s1, .int .i64 n1, .slice a1 l1 c1] 31 (0, 0)) ∧ V.heap.size ≤ b
          | 3 => ∃ b, v = .agg #[.int .i64 4, .string cCall, .int .i64 0, .slice (some ⟨b, 0, none⟩) 1 1] ∧ w'.heap[b]? = some (.cells #[.int .i64 1, .string s1, .int .i64 n1, .slice a1 l1 c1] 31 (0, 0)) ∧ V.heap.size ≤ b
          | _ => w'.heap[p + 1]? = some (.cells #[.int .i64 k0, .string s0, .int .i64 n0, .slice a0 l0 c0] 31 (0, 0))) (by kernel_rfl) (by kernel_rfl) 28 rfl (by kernel_rfl) ?_ ?_ ?_
        · intro i j v S w w' hi hne h hl
          match i, hi, h with
          | 0, _, h => exact h
          | 1, _, h => exact h
          | 2, _, ⟨b, h1, h2, h3⟩ => exact ⟨b, h1, (hl.2.block b (Array.getElem?_eq_some_iff.1 h2).1 (by have := HVP.out; omega)).trans h2, h3⟩
          | 3, _, ⟨b, h1, h2, h3⟩ => exact ⟨b, h1, (hl.2.block b (Array.getElem?_eq_some_iff.1 h2).1 (by have := HVP.out; omega)).trans h2, h3⟩
          | 4, _, h => exact ((hl.1 hne).block _ (Array.getElem?_eq_some_iff.1 h).1).trans h
          | k9 + 5, hh, _ => omega
        · intro i o hi ho a w' hb hfr hdep
          obtain ⟨x0, x1, x2, x3, _⟩ := blk4 (HVN.out w' hb).1
          obtain ⟨y0, y1, y2, y3, _⟩ := blk4 (HVN.out w' hb).2.1
          have u2 : a.tmps.getD 2 undef = (.pointer (some ⟨p + 1, 0, none⟩)) := hfr 2 (by decide)
          have u4 : a.tmps.getD 4 undef = (.pointer (some ⟨bx, 0, none⟩)) := hfr 4 (by decide)
          have u5 : a.tmps.getD 5 undef = (.pointer (some ⟨by_, 0, none⟩)) := hfr 5 (by decide)
          match i, hi with
          | 0, _ =>
            obtain rfl : _ = o := by simpa using ho
            refine FS.fact_valueS (w' := w') (v := (.agg #[.int .i64 k0, .string s0, .int .i64 n0, .slice a0 l0 c0])) rfl ?_ (Below.refl _ _) ⟨[], rfl, by simp⟩
            simp only [execOp, Act.eval, u4]
            go_simp
          | 1, _ =>
            obtain rfl : _ = o := by simpa using ho
            refine FS.fact_valueS (w' := w') (v := (.agg #[.int .i64 1, .string s1, .int .i64 n1, .slice a1 l1 c1])) rfl ?_ (Below.refl _ _) ⟨[], rfl, by simp⟩
            simp only [execOp, Act.eval, u5]
            go_simp
          | 2, _ =>
            obtain rfl : _ = o := by simpa using ho
            obtain ⟨_, h1⟩ : ∃ _ : List Nat, a.tmps.getD 23 undef = (.agg #[.int .i64 1, .string s1, .int .i64 n1, .slice a1 l1 c1]) := hdep 1 (by kernel_rfl)
            have e9 : (#[((0 : Nat), Operand.tmp 23)].map fun x => (x.1, a.eval x.2)) = #[(0, .agg #[.int .i64 1, .string s1, .int .i64 n1, .slice a1 l1 c1])] := by simp [Act.eval]; simpa using h1
            refine FS.fact_valueS (w' := w'.alloc (.cells #[.int .i64 1, .string s1, .int .i64 n1, .slice a1 l1 c1] 31)) (v := .slice (some ⟨w'.heap.size, 0, none⟩) 1 1) rfl ?_ ((Below.refl _ _).alloc (Nat.le_refl _) _) ⟨[], ⟨w'.heap.size, rfl, heap_alloc_new _ _, hb.size⟩, by simp⟩
            clear hdep hfr ho
            simp only [execOp, e9]
            go_simp
          | 3, _ =>
            obtain rfl : _ = o := by simpa using ho
            obtain ⟨_, b, hv2, hk2, hb2⟩ : ∃ S : List Nat, ∃ b, a.tmps.getD 24 undef = .slice (some ⟨b, 0, none⟩) 1 1 ∧ w'.heap[b]? = some (.cells #[.int .i64 1, .string s1, .int .i64 n1, .slice a1 l1 c1] 31 (0, 0)) ∧ V.heap.size ≤ b := hdep 2 (by kernel_rfl)
            refine FS.fact_callS rfl rfl Tryd.func51 (by kernel_rfl) (by kernel_rfl) (args := #[.string cCall, .slice (some ⟨b, 0, none⟩) 1 1]) (by simp [Act.eval, cCall]; simpa using hv2) ?_
            refine Calls.mono (HST.out b w') ?_
            rintro e w4 ⟨rfl, hb4⟩
            exact ⟨_, rfl, hb4, [], ⟨b, rfl, (hb4.block b (Array.getElem?_eq_some_iff.1 hk2).1).trans hk2, hb2⟩, by simp⟩
          | 4, _ =>
            obtain rfl : _ = o := by simpa using ho
            obtain ⟨_, h0⟩ : ∃ _ : List Nat, a.tmps.getD 22 undef = (.agg #[.int .i64 k0, .string s0, .int .i64 n0, .slice a0 l0 c0]) := hdep 0 (by kernel_rfl)
            obtain ⟨cs, kb9, hcs⟩ := hb.form _ _ ⟨_, (HXY.out V (Below.refl _ _)).2.2.1, rfl⟩
            obtain ⟨e0, e1, e2, e3, rfl⟩ := FS.four_of hcs
            obtain ⟨m0, m1, m2, m3, f0, f1, f2, f3⟩ := blk4 kb9
            refine FS.fact_storeS (w' := ((((w'.setCell ⟨p + 1, 0, none⟩ (.int .i64 k0)).setCell ⟨p + 1, 1, none⟩ (.string s0)).setCell ⟨p + 1, 2, none⟩ (.int .i64 n0)).setCell ⟨p + 1, 3, none⟩ (.slice a0 l0 c0))) rfl ?_ ?_ ⟨[], blk4_set kb9, by simp⟩
            · simp only [execOp, Act.eval, h0, u2]
              go_simp
            · exact FS.but4 kb9 (fun k9 hk9 => blk4_other hk9) (blk4_set kb9)
        intro vals S w3 hb hf _
        obtain ⟨b, e3, hkb, hbV⟩ := (hf 3 (by omega)).1
        have HZ1 : Hid (w3.heap[p + 1]? = some (.cells #[.int .i64 k0, .string s0, .int .i64 n0, .slice a0 l0 c0] 31 (0, 0))) := (hf 4 (by omega)).1
        simp only [FS.putN, List.getElem?_toArray, List.getElem?_cons_zero, List.getElem?_cons_succ, Option.bind_some, List.drop_succ_cons, List.drop_zero, e3]
        generalize vals 0 = m0
        generalize vals 1 = m1
        generalize vals 2 = m2
        generalize vals 4 = m4
        simp only [Act.put, List.setIfInBounds_toArray, List.set_cons_succ, List.set_cons_zero]
        have hz2 := (HVN.out w3 hb).2.2
        have HZ2 : Hid _ := hz2
        have HBB : Hid (FS.But (p + 1) V w3) := hb
        have HKB : Hid _ := hkb
        obtain ⟨y0, y1, y2, y3, h0, h1, h2, h3⟩ := blk4 hz2
        have HBV : Hid (V.heap.size ≤ b) := hbV
        clear hf e3 hz2 hb hkb hbV
        go_wp2
        refine bodyPost_ret_by (results_tt rfl _ _ (p + 1) (p + 2) #[.int .i64 k0, .string s0, .int .i64 n0, .slice a0 l0 c0] #[.int .i64 4, .string cCall, .int .i64 0, .slice (some ⟨b, 0, none⟩) 1 1] _ rfl ((blk4_other (by omega)).trans HZ1.out) rfl (blk4_set HZ2.out) Tryd.underlying31 rfl (by kernel_rfl) (by kernel_rfl)) rfl ?_
        have hend : ∀ d4 d5 d6 d7, Below w.heap.size w (st4 w3 (p + 2) d4 d5 d6 d7) := fun d4 d5 d6 d7 => blk4_below (HVW.out.trans (HBB.out.below (by have := HPP.out; omega) HVW.out.size)) (by have := HPP.out; omega)
        have hrow : ∀ d4 d5 d6 d7, (st4 w3 (p + 2) d4 d5 d6 d7).heap[b]? = some (.cells #[.int .i64 1, .string s1, .int .i64 n1, .slice a1 l1 c1] 31 (0, 0)) := fun d4 d5 d6 d7 => (blk4_other (by have := HBV.out; have := HVP.out; omega)).trans HKB.out
        rw [HRR.out]
        refine ⟨_, _, _, _, _, _, _, _, _, _, _, _, rfl, TmIn.keep (hend _ _ _ _) _ _ HTX.out, ?_, hend _ _ _ _⟩
        obtain ⟨q0, q1, q2, q3, _⟩ := blk4 (hrow (.int .i64 4) (.string cCall) (.int .i64 0) (.slice (some ⟨b, 0, none⟩) 1 1))
        exact ⟨some ⟨b, 0, none⟩, 1, rfl, by omega, by omega, by show 4 ≤ maxLen; unfold maxLen; omega, Nat.le_refl _, by unfold maxLen; omega, fun _ => ⟨b, 0, rfl, ⟨_, _, _, _, q0, q1, q2, q3, TmIn.keep (hend _ _ _ _) _ _ HTY.out⟩, trivial⟩⟩
      · have HRR : Hid (R2 = y) := HR2.out.trans (if_neg hk1)
        have hk1' : (kk == 1) = false := beq_eq_false_iff_ne.2 hk1
        clear hk1
        go_upto_region 6 with fail
        clear y0 y1 y2 y3 hk1'
        refine FS.wp_region_factsS 3 2 (p + 1) (fun i v S w' => match i with
          | 0 => v = (.agg #[.int .i64 k0, .string s0, .int .i64 n0, .slice a0 l0 c0])
          | 1 => v = (.agg #[.int .i64 kk, .string s1, .int .i64 n1, .slice a1 l1 c1])
          | _ => w'.heap[p + 1]? = some (.cells #[.int .i64 k0, .string s0, .int .i64 n0, .slice a0 l0 c0] 31 (0, 0))) (by kernel_rfl) (by kernel_rfl) 28 rfl (by kernel_rfl) ?_ ?_ ?_
        · intro i j v S w w' hi hne h hl
          match i, hi, h with
          | 0, _, h => exact h
          | 1, _, h => exact h
          | 2, _, h => exact ((hl.1 hne).block _ (Array.getElem?_eq_some_iff.1 h).1).trans h
          | k9 + 3, hh, _ => omega
        · intro i o hi ho a w' hb hfr hdep
          obtain ⟨x0, x1, x2, x3, _⟩ := blk4 (HVN.out w' hb).1
          obtain ⟨y0, y1, y2, y3, _⟩ := blk4 (HVN.out w' hb).2.1
          have u2 : a.tmps.getD 2 undef = (.pointer (some ⟨p + 1, 0, none⟩)) := hfr 2 (by decide)
          have u4 : a.tmps.getD 4 undef = (.pointer (some ⟨bx, 0, none⟩)) := hfr 4 (by decide)
          have u5 : a.tmps.getD 5 undef = (.pointer (some ⟨by_, 0, none⟩)) := hfr 5 (by decide)
          match i, hi with
          | 0, _ =>
            obtain rfl : _ = o := by simpa using ho
            refine FS.fact_valueS (w' := w') (v := (.agg #[.int .i64 k0, .string s0, .int .i64 n0, .slice a0 l0 c0])) rfl ?_ (Below.refl _ _) ⟨[], rfl, by simp⟩
            simp only [execOp, Act.eval, u4]
            go_simp
          | 1, _ =>
            obtain rfl : _ = o := by simpa using ho
            refine FS.fact_valueS (w' := w') (v := (.agg #[.int .i64 kk, .string s1, .int .i64 n1, .slice a1 l1 c1])) rfl ?_ (Below.refl _ _) ⟨[], rfl, by simp⟩
            simp only [execOp, Act.eval, u5]
            go_simp
          | 2, _ =>
            obtain rfl : _ = o := by simpa using ho
            obtain ⟨_, h0⟩ : ∃ _ : List Nat, a.tmps.getD 26 undef = (.agg #[.int .i64 k0, .string s0, .int .i64 n0, .slice a0 l0 c0]) := hdep 0 (by kernel_rfl)
            obtain ⟨cs, kb9, hcs⟩ := hb.form _ _ ⟨_, (HXY.out V (Below.refl _ _)).2.2.1, rfl⟩
            obtain ⟨e0, e1, e2, e3, rfl⟩ := FS.four_of hcs
            obtain ⟨m0, m1, m2, m3, f0, f1, f2, f3⟩ := blk4 kb9
            refine FS.fact_storeS (w' := ((((w'.setCell ⟨p + 1, 0, none⟩ (.int .i64 k0)).setCell ⟨p + 1, 1, none⟩ (.string s0)).setCell ⟨p + 1, 2, none⟩ (.int .i64 n0)).setCell ⟨p + 1, 3, none⟩ (.slice a0 l0 c0))) rfl ?_ ?_ ⟨[], blk4_set kb9, by simp⟩
            · simp only [execOp, Act.eval, h0, u2]
              go_simp
            · exact FS.but4 kb9 (fun k9 hk9 => blk4_other hk9) (blk4_set kb9)
        intro vals S w3 hb hf _
        have e1 : vals 1 = .agg #[.int .i64 kk, .string s1, .int .i64 n1, .slice a1 l1 c1] := (hf 1 (by omega)).1
        have HZ1 : Hid (w3.heap[p + 1]? = some (.cells #[.int .i64 k0, .string s0, .int .i64 n0, .slice a0 l0 c0] 31 (0, 0))) := (hf 2 (by omega)).1
        simp only [FS.putN, List.getElem?_toArray, List.getElem?_cons_zero, List.getElem?_cons_succ, Option.bind_some, List.drop_succ_cons, List.drop_zero, e1]
        generalize vals 0 = m0
        generalize vals 2 = m2
        simp only [Act.put, List.setIfInBounds_toArray, List.set_cons_succ, List.set_cons_zero]
        have hz2 := (HVN.out w3 hb).2.2
        have HZ2 : Hid _ := hz2
        have HBB : Hid (FS.But (p + 1) V w3) := hb
        obtain ⟨y0, y1, y2, y3, h0, h1, h2, h3⟩ := blk4 hz2
        clear hf e1 hz2 hb
        go_wp2
        refine bodyPost_ret_by (results_tt rfl _ _ (p + 1) (p + 2) #[.int .i64 k0, .string s0, .int .i64 n0, .slice a0 l0 c0] #[.int .i64 kk, .string s1, .int .i64 n1, .slice a1 l1 c1] _ rfl ((blk4_other (by omega)).trans HZ1.out) rfl (blk4_set HZ2.out) Tryd.underlying31 rfl (by kernel_rfl) (by kernel_rfl)) rfl ?_
        have hend : ∀ d4 d5 d6 d7, Below w.heap.size w (st4 w3 (p + 2) d4 d5 d6 d7) := fun d4 d5 d6 d7 => blk4_below (HVW.out.trans (HBB.out.below (by have := HPP.out; omega) HVW.out.size)) (by have := HPP.out; omega)
        rw [HRR.out]
        exact ⟨_, _, _, _, _, _, _, _, _, _, _, _, rfl, TmIn.keep (hend _ _ _ _) _ _ HTX.out, TmIn.keep (hend _ _ _ _) _ _ HTY.out, hend _ _ _ _⟩
end Go.Proofs.YtenmhpalpfppmaoDoor

/- impl.shiftedRight: a copy with other numbers. -/
import Derived.Test.YtmhmlkdoaojimapFormI
import Derived.Test.YtmhmlkdoaojimapRightI
import Derived.Test.YtmhmlkdoaojimapShiftP
import Derived.Test.YtmhmlkdoaojimapMrg17
import Derived.Test.YtmhmlkdoaojimapMrg4
import Derived.Test.YtmhmlkdoaojimapRegTail
import Derived.BigQuiet
import Derived.ProofKit
namespace Go.Proofs.Ytmhmlkdoaojimap
open Go.RowKit

def ShOk (b : Int) (t : Tm) : Prop := ∀ (w : World) (v : Value), TmIn w t v → t.wt ≤ 1048576 → t.shp b →
  Calls Try.prog 51 #[v, .int .i64 b] w fun e w' => ∃ v' F, e = .returned v' ∧ Own 54 w' (t.shift b) v' F ∧ (∀ f ∈ F, w.heap.size ≤ f) ∧ F.Nodup ∧ Below w.heap.size w w'

set_option maxHeartbeats 1000000 in
set_option maxRecDepth 20000 in
theorem shifted_right (b : Int) (t : Tm) : ShOk b t := by
  refine tm_ind (p := ShOk b) ?_ t
  clear t
  intro k s n ks hks w v hin hwt hsh
  unfold TmIn at hin
  obtain ⟨ao, cap, rfl, hk, hn, hs, hlen, hcap, hrow⟩ := hin
  have ew : (Tm.mk k s n ks).wt = s.size + (ks.length + wts ks) := by simp [Tm.wt, wts]; omega
  rw [ew] at hwt
  rw [shp_mk] at hsh
  obtain ⟨hb1, hsh, hkids⟩ := hsh
  obtain ⟨W, hW⟩ : ∃ W, W = (w.alloc (.cells #[.int .i64 k, .string s, .int .i64 n, .slice ao ks.length cap] 54)).alloc (.cells #[.int .i64 0, .string ⟨#[]⟩, .int .i64 0, .slice none 0 0] 54) := ⟨_, rfl⟩
  have bW : Below w.heap.size w W := by rw [hW]; exact ((Below.refl _ _).alloc (Nat.le_refl _) _).alloc (by simp) _
  have k1 : W.heap[w.heap.size]? = some (.cells #[.int .i64 k, .string s, .int .i64 n, .slice ao ks.length cap] 54 (0, 0)) := by rw [hW]; exact (alloc_old _ _ (by simp)).trans (alloc_at _ _ rfl)
  have k2 : W.heap[w.heap.size + 1]? = some (.cells #[.int .i64 0, .string ⟨#[]⟩, .int .i64 0, .slice none 0 0] 54 (0, 0)) := by rw [hW]; exact alloc_at _ _ (by simp)
  have lW : W.heap.size = w.heap.size + 2 := by rw [hW]; simp
  have HK : Hid (∀ w1, Below W.heap.size W w1 → w1.heap[w.heap.size]? = some (.cells #[.int .i64 k, .string s, .int .i64 n, .slice ao ks.length cap] 54 (0, 0)) ∧ w1.heap[w.heap.size + 1]? = some (.cells #[.int .i64 0, .string ⟨#[]⟩, .int .i64 0, .slice none 0 0] 54 (0, 0))) := fun w1 hb => ⟨(hb.block _ (by omega)).trans k1, (hb.block _ (by omega)).trans k2⟩
  have HBW : Hid (Below w.heap.size w W) := bW
  have HFM := implForm k s n ao ks.length cap (Nat.le_trans hlen hcap) W
  clear k1 k2
  by_cases hstr : k = 4 ∧ n = 0
  · obtain ⟨rfl, rfl⟩ := hstr
    have hf : formV 4 s 0 ao ks.length cap = .iface 91 (.agg #[.string s, .slice ao ks.length cap]) := by simp [formV]
    rw [hf, hW] at HFM
    replace HFM : Hid _ := HFM
    obtain ⟨M, hM, hmk⟩ := make_terms ks.length (by omega)
    have HKS : Hid (∀ t ∈ ks, ShOk b t) := hks
    have HSP : Hid (∀ t ∈ ks, t.shp b) := (shps_all b ks).1 hkids
    have HROW : Hid (ks ≠ [] → ∃ b off, ao = some ⟨b, off, none⟩ ∧ TmsIn w ks b off) := hrow
    have HCL : Hid (∀ w, Calls Try.prog 19 #[.string s] w fun e w' => e = .returned (.string s) ∧ Below w.heap.size w w') := fun w => clone_any s w (by omega)
    have HSH : Hid ((Tm.mk 4 s 0 ks).shift b = .mk 4 s 0 (ks.map (Tm.shift b))) := by
      show _ = _
      rw [shift_mk, shifts_map, if_neg (by omega)]
    have HSS : Hid (s.size ≤ maxLen) := hs
    have HM : Hid (M.size = ks.length * 4) := hM
    have HWT : Hid (∀ t ∈ ks, t.wt ≤ 1048576) := fun t ht => by have := wt_le ht; omega
    have hl20 : ks.length ≤ 1048576 := by omega
    clear hf hks hrow hkids hsh bW ew hwt hb1 hs hM hk hn
    go_enter Try.func51, Try.ntmps51
    go_wp2_with (first | (go_at_call 54; refine (Calls.mono HFM.out ?_); rintro e w1 ⟨rfl, hb⟩; rw [← hW] at hb; have HB1 : Hid (Below W.heap.size W w1) := hb; clear hb) | fail)
    clear hmk
    have hszW := HB1.out.size
    obtain ⟨V, hV⟩ : ∃ V, V = (w1.alloc (.cells #[.string s, .slice ao ks.length cap] 91)).alloc (.cells M 54) := ⟨_, rfl⟩
    have bV : Below w1.heap.size w1 V := by rw [hV]; exact ((Below.refl _ _).alloc (Nat.le_refl _) _).alloc (by simp) _
    have v1 : V.heap[w1.heap.size]? = some (.cells #[.string s, .slice ao ks.length cap] 91 (0, 0)) := by rw [hV]; exact (alloc_old _ _ (by simp)).trans (alloc_at _ _ rfl)
    have v2 : V.heap[w1.heap.size + 1]? = some (.cells M 54 (0, 0)) := by rw [hV]; exact alloc_at _ _ (by simp)
    have HBV : Hid (Below W.heap.size W V) := HB1.out.trans (bV.mono HB1.out.size)
    have HV1 : Hid (V.heap[w1.heap.size]? = some (.cells #[.string s, .slice ao ks.length cap] 91 (0, 0))) := v1
    have HV2 : Hid (V.heap[w1.heap.size + 1]? = some (.cells M 54 (0, 0))) := v2
    rw [← hV]
    clear hV bV v1 v2 HFM
    generalize w1.heap.size = g6 at *
    go_loopw [39] (fun vi wr => ∃ (j : Nat) (cur : Array Value) (F : List Nat), j ≤ ks.length ∧ vi = .int .i64 (j : Int) ∧ Hid (Below W.heap.size W wr) ∧ Hid (wr.heap[g6]? = some (.cells #[.string s, .slice ao ks.length cap] 91 (0, 0))) ∧ Hid (wr.heap[(g6 + 1)]? = some (.cells cur 54 (0, 0))) ∧ cur.size = ks.length * 4 ∧
      Hid (OwnRow 54 wr ((ks.map (Tm.shift b)).take j) (cur.toList.take (j * 4)) F ∧ (∀ f ∈ F, (g6 + 1) < f) ∧ F.Nodup)) (fun i _ => ks.length - (intOf i).toNat)
    case atStart => exact ⟨0, M, [], by omega, rfl, HBV.out, HV1.out, HV2.out, HM.out, by simp [OwnRow], by simp, by simp⟩
    case round =>
      obtain ⟨j, cur, F, hj, rfl, HB, HX, HG, hcs, HO⟩ := hrel
      by_cases hlt : j < ks.length
      · obtain ⟨b7, off, rfl, hin⟩ := HROW.out (by intro e; subst e; simp at hlt)
        have hbw : Below w.heap.size w wr := HBW.out.trans (HB.out.mono HBW.out.size)
        obtain ⟨c0, c1, c2, c3, h0, h1, h2, h3, ht⟩ := (TmsIn.keep hbw ks b7 off hin).at j hlt
        obtain ⟨kj, sj, nj, aj, lj, cj, hsj⟩ := tm_shape ht
        obtain ⟨rfl, rfl, rfl, rfl⟩ : c0 = .int .i64 kj ∧ c1 = .string sj ∧ c2 = .int .i64 nj ∧ c3 = .slice aj lj cj := by simpa using hsj
        obtain ⟨U, hU⟩ : ∃ U, U = wr.alloc (.cells #[.int .i64 kj, .string sj, .int .i64 nj, .slice aj lj cj] 54) := ⟨_, rfl⟩
        have bU : Below wr.heap.size wr U := by rw [hU]; exact (Below.refl _ _).alloc (Nat.le_refl _) _
        have HC := HKS.out ks[j] (List.getElem_mem hlt) U _ (TmIn.keep bU _ _ ht) (HWT.out _ (List.getElem_mem hlt)) (HSP.out _ (List.getElem_mem hlt))
        rw [hU] at HC
        replace HC : Hid _ := HC
        have hgl : (g6 + 1) < wr.heap.size := (Array.getElem?_eq_some_iff.1 HG.out).1
        have HAF : Hid (∀ w2, Below U.heap.size U w2 → Below W.heap.size W w2 ∧ w2.heap[g6]? = some (.cells #[.string s, .slice (some ⟨b7, off, none⟩) ks.length cap] 91 (0, 0)) ∧ w2.heap[(g6 + 1)]? = some (.cells cur 54 (0, 0)) ∧ OwnRow 54 w2 ((ks.map (Tm.shift b)).take j) (cur.toList.take (j * 4)) F ∧ (∀ f ∈ F, f < U.heap.size)) := fun w2 hb => by
          have hb2 : Below wr.heap.size wr w2 := bU.trans (hb.mono bU.size)
          refine ⟨HB.out.trans (hb2.mono HB.out.size), (hb2.block _ (by omega)).trans HX.out, (hb2.block _ hgl).trans HG.out, OwnRow.keep _ _ _ HO.out.1 fun f hf => hb2.block f (OwnRow.lt _ _ _ HO.out.1 f hf), fun f hf => ?_⟩
          have := OwnRow.lt _ _ _ HO.out.1 f hf
          have := bU.size
          omega
        have HO2 : Hid ((∀ f ∈ F, (g6 + 1) < f) ∧ F.Nodup) := HO.out.2
        have hUs : wr.heap.size ≤ U.heap.size := bU.size
        clear hin ht hsj bU HO
        go_wp2_with (go_at_call 51; refine (Calls.mono HC.out ?_); rintro e w2 ⟨v', F2, rfl, hown, hfr, hnd, hb⟩; rw [← hU] at hfr hb; obtain ⟨k', s', n', ao', len', cap', rfl⟩ := own_shape hown; obtain ⟨p1, p2, p3, p4, p5⟩ := HAF.out w2 hb; have x0 := blk_cell (i := j * 4) p3 (by omega); have x1 := blk_cell (i := j * 4 + 1) p3 (by omega); have x2 := blk_cell (i := j * 4 + 2) p3 (by omega); have x3 := blk_cell (i := j * 4 + 3) p3 (by omega); have z0 := blk_frozen p3 (j * 4); have z1 := blk_frozen p3 (j * 4 + 1); have z2 := blk_frozen p3 (j * 4 + 2); have z3 := blk_frozen p3 (j * 4 + 3); have HOWN : Hid (Own 54 w2 (ks[j].shift b) (.agg #[.int .i64 k', .string s', .int .i64 n', .slice ao' len' cap']) F2) := hown; have HFR : Hid (∀ f ∈ F2, U.heap.size ≤ f) := hfr; have HND : Hid F2.Nodup := hnd; have P1 : Hid (Below W.heap.size W w2) := p1; have P2 : Hid (w2.heap[g6]? = some (.cells #[.string s, .slice (some ⟨b7, off, none⟩) ks.length cap] 91 (0, 0))) := p2; have P3 : Hid (w2.heap[(g6 + 1)]? = some (.cells cur 54 (0, 0))) := p3; have P4 : Hid (OwnRow 54 w2 ((ks.map (Tm.shift b)).take j) (cur.toList.take (j * 4)) F) := p4; have P5 : Hid (∀ f ∈ F, f < U.heap.size) := p5; clear hown hfr hb hnd p1 p2 p3 p4 p5)
        go_roundw
        case rel =>
          obtain ⟨o2, o3⟩ := HO2.out
          have hne : ∀ f, (g6 + 1) < f → f ≠ (g6 + 1) := fun f hf => by omega
          have hml : j < (ks.map (Tm.shift b)).length := by simpa using hlt
          refine ⟨j + 1, _, F ++ F2, by omega, by go_num, ?_, ?_, blk_set (blk_set (blk_set (blk_set P3.out _) _) _) _, by simp; exact hcs, ?_, ?_, ?_⟩
          · exact below_set (below_set (below_set (below_set P1.out (by omega) _) (by omega) _) (by omega) _) (by omega) _
          · rw [blk_other _ (by omega), blk_other _ (by omega), blk_other _ (by omega), blk_other _ (by omega)]; exact P2.out
          · rw [List.take_succ_eq_append_getElem hml, set4_take (by omega)]
            refine OwnRow.snoc (Own.keep _ _ _ (by rw [List.getElem_map]; exact HOWN.out) fun f hf => ?_) _ _ _ (OwnRow.keep _ _ _ P4.out fun f hf => ?_)
            · have h1 := HFR.out f hf
              rw [blk_other _ (hne f (by omega)), blk_other _ (hne f (by omega)), blk_other _ (hne f (by omega)), blk_other _ (hne f (by omega))]
            · have h1 := o2 f hf
              rw [blk_other _ (hne f h1), blk_other _ (hne f h1), blk_other _ (hne f h1), blk_other _ (hne f h1)]
          · intro f hf
            rcases List.mem_append.1 hf with hf | hf
            · exact o2 f hf
            · have := HFR.out f hf; omega
          · refine List.nodup_append.2 ⟨o3, HND.out, fun a ha b hb => ?_⟩
            have h1 := P5.out a ha
            have h2 := HFR.out b hb
            omega
        case measure => simp [intOf]; omega
      · have x0 : wr.cell? ⟨g6, 0, none⟩ = some (.string s) := blk_cell (i := 0) HX.out (by simp)
        have HE : Hid (OwnS 54 wr (ks.map (Tm.shift b)) (.slice (some ⟨g6 + 1, 0, none⟩) ks.length ks.length) ((g6 + 1) :: F)) := by
          obtain ⟨o1, o2, o3⟩ := HO.out
          obtain rfl : j = ks.length := by omega
          rw [List.take_of_length_le (by simp)] at o1
          refine Or.inr ⟨g6 + 1, ks.length, cur.toList.take (ks.length * 4), F, by simp, ⟨by simp [hcs], Or.inr ⟨g6 + 1, ks.length, cur, by simp, Nat.zero_le _, HG.out, by simp, by unfold maxLen; omega, hcs, by simp⟩⟩, rfl, o1⟩
        have HF : Hid ((∀ f ∈ (g6 + 1) :: F, g6 < f ∧ f < wr.heap.size) ∧ ((g6 + 1) :: F).Nodup) := by
          obtain ⟨o1, o2, o3⟩ := HO.out
          have hgl := (Array.getElem?_eq_some_iff.1 HG.out).1
          refine ⟨fun f hf => ?_, List.nodup_cons.2 ⟨fun hf => ?_, o3⟩⟩
          · rcases List.mem_cons.1 hf with rfl | hf
            · exact ⟨by omega, hgl⟩
            · have := o2 f hf; exact ⟨by omega, OwnRow.lt _ _ _ o1 f hf⟩
          · have := o2 _ hf; omega
        clear HO HG
        go_wp2_with (go_at_call 19; refine (Calls.mono (HCL.out _) ?_); rintro e w2 ⟨rfl, hb⟩; have P1 : Hid (Below W.heap.size W w2) := HB.out.trans (hb.mono HB.out.size); obtain ⟨_, hz⟩ := HK.out w2 P1.out; obtain ⟨y0, y1, y2, y3, z0, z1, z2, z3⟩ := blk4 hz; have HZ : Hid (w2.heap[w.heap.size + 1]? = some (.cells #[.int .i64 0, .string ⟨#[]⟩, .int .i64 0, .slice none 0 0] 54 (0, 0))) := hz; have HE2 : Hid (OwnS 54 w2 (ks.map (Tm.shift b)) (.slice (some ⟨g6 + 1, 0, none⟩) ks.length ks.length) ((g6 + 1) :: F)) := OwnS.keep HE.out (fun f hf => hb.block f (HF.out.1 f hf).2); clear hb hz)
        refine bodyPost_ret_by (results_cell_row rfl _ _ (w.heap.size + 1) 54 _ (0, 0) _ rfl (blk4_set HZ.out) Try.underlying54 rfl (by kernel_rfl)) rfl ?_
        have hbl : Below w.heap.size w w2 := HBW.out.trans (P1.out.mono HBW.out.size)
        refine ⟨_, (g6 + 1) :: F, rfl, ?_, fun f hf => ?_, HF.out.2, blk4_below hbl (by omega)⟩
        · rw [HSH.out]
          refine own_mk (OwnS.keep HE2.out fun f hf => blk4_other ?_) (by omega) (by omega) HSS.out
          have := (HF.out.1 f hf).1; omega
        · have := (HF.out.1 f hf).1; omega
  · have hks0 : ks = [] := by rcases hsh with h | h; exact h; exact absurd h hstr
    subst hks0
    by_cases hv : k = 1 ∧ s.size = 0
    · obtain ⟨rfl, hs0⟩ := hv
      obtain rfl := empty_of hs0
      have hf : formV 1 ⟨#[]⟩ n ao ([] : List Tm).length cap = .iface 89 (.agg #[.int .i64 n]) := by unfold formV; rw [if_pos ⟨rfl, rfl, rfl⟩]
      rw [hf, hW] at HFM
      replace HFM : Hid _ := HFM
      obtain ⟨hb2, hb3⟩ := hb1 rfl
      clear hf hks hrow hkids hsh hstr bW hs0 ew
      go_enter Try.func51, Try.ntmps51
      go_wp2_with (first | (go_at_call 54; refine (Calls.mono HFM.out ?_); rintro e w1 ⟨rfl, hb⟩; rw [← hW] at hb; obtain ⟨hx, hz⟩ := HK.out w1 hb; obtain ⟨y0, y1, y2, y3, z0, z1, z2, z3⟩ := blk4 hz; have HB1 : Hid (Below W.heap.size W w1) := hb; have hsz := hb.size; have hlt1 : w.heap.size + 1 < w1.heap.size := (by omega); have HZ : Hid (w1.heap[w.heap.size + 1]? = some (.cells #[.int .i64 0, .string ⟨#[]⟩, .int .i64 0, .slice none 0 0] 54 (0, 0))) := hz; clear hb hx hz) | fail)
      have hz2 : ((((w1.setCell ⟨w.heap.size + 1, 0, none⟩ (.int .i64 1)).setCell ⟨w.heap.size + 1, 1, none⟩ (.string ⟨#[]⟩)).setCell ⟨w.heap.size + 1, 2, none⟩ (.int .i64 (n + b))).setCell ⟨w.heap.size + 1, 3, none⟩ (.slice none 0 0)).heap[w.heap.size + 1]? = some (.cells #[.int .i64 1, .string ⟨#[]⟩, .int .i64 (n + b), .slice none 0 0] 54 (0, 0)) := blk4_set HZ.out
      refine bodyPost_ret_by (results_cell_row rfl _ _ (w.heap.size + 1) 54 _ (0, 0) _ rfl ((alloc_old _ _ (by simp [World.setCell]; omega)).trans hz2) Try.underlying54 rfl (by kernel_rfl)) rfl ?_
      have hbl : Below w.heap.size w w1 := HBW.out.trans (HB1.out.mono HBW.out.size)
      refine ⟨_, [], rfl, ?_, by simp, by simp, (blk4_below hbl (by omega)).alloc (by simp [World.setCell]; omega) _⟩
      rw [shift_mk, if_pos ⟨rfl, rfl, rfl⟩]
      exact own_mk (Or.inl ⟨rfl, rfl, rfl⟩) (by omega) ⟨hb2, hb3⟩ (Nat.zero_le _)
    · obtain ⟨ft, fv, hf, hft⟩ : ∃ ft fv, formV k s n ao ([] : List Tm).length cap = .iface ft fv ∧ (ft = 98 ∨ ft = 100 ∨ ft = 102) := by
        unfold formV
        rw [if_neg (fun h => hv ⟨h.1, h.2.1⟩)]
        split
        · exact ⟨_, _, rfl, Or.inl rfl⟩
        · split
          · exact ⟨_, _, rfl, Or.inr (Or.inl rfl)⟩
          · exact ⟨_, _, rfl, Or.inr (Or.inr rfl)⟩
      rw [hf, hW] at HFM
      replace HFM : Hid _ := HFM
      have HSH : Hid ((Tm.mk k s n []).shift b = .mk k s n []) := by
        show _ = _
        rw [shift_mk, if_neg (fun h => hv ⟨h.1, h.2.1⟩)]
        rfl
      have hsl : s.size ≤ 1048576 := by omega
      have HBD : Hid ((-9223372036854775808 ≤ k ∧ k ≤ 9223372036854775807) ∧ (-9223372036854775808 ≤ n ∧ n ≤ 9223372036854775807) ∧ s.size ≤ maxLen) := ⟨hk, hn, hs⟩
      have HCL : Hid (∀ w, Calls Try.prog 19 #[.string s] w fun e w' => e = .returned (.string s) ∧ Below w.heap.size w w') := fun w => clone_any s w hsl
      clear hf hks hrow hkids hsh hstr bW hv ew hwt hb1 hk hn hs hcap hlen hsl
      rcases hft with rfl | rfl | rfl
      all_goals
        go_enter Try.func51, Try.ntmps51
        go_wp2_with (first | (go_at_call 54; refine (Calls.mono HFM.out ?_); rintro e w1 ⟨rfl, hb⟩; rw [← hW] at hb; have HB1 : Hid (Below W.heap.size W w1) := hb; clear hb) | fail)
        have HL : Hid (∀ u, Below W.heap.size W (later w1 u)) := fun u => HB1.out.trans ((later_below w1 u).mono HB1.out.size)
        have x0 : ∀ u, (later w1 u).cell? ⟨w.heap.size, 0, none⟩ = some (.int .i64 k) := fun u => (blk4 (HK.out _ (HL.out u)).1).1
        have x1 : ∀ u, (later w1 u).cell? ⟨w.heap.size, 1, none⟩ = some (.string s) := fun u => (blk4 (HK.out _ (HL.out u)).1).2.1
        have x2 : ∀ u, (later w1 u).cell? ⟨w.heap.size, 2, none⟩ = some (.int .i64 n) := fun u => (blk4 (HK.out _ (HL.out u)).1).2.2.1
        refine wp_region_tail 7 (by kernel_rfl) (by kernel_rfl) ?_
        simp only [List.take_succ_cons, List.take_zero, List.drop_succ_cons, List.drop_zero]
        repeat (go_big_quiet_step ((go_at_call 19; exact Calls.later_of_below (HCL.out _))))
        refine wpQuiet_nil ?_
        rintro _ ⟨u, rfl⟩
        have D2 : Hid (Below W.heap.size W (later w1 u)) := HL.out u
        generalize later w1 u = w2 at *
        obtain ⟨b0, b1, b2, b3, e0, e1, e2, e3⟩ := blk4 (HK.out w2 D2.out).2
        clear x0 x1 x2
        go_wp2
        refine bodyPost_ret_by (results_cell_row rfl _ _ (w.heap.size + 1) 54 _ (0, 0) _ rfl (blk4_set (HK.out w2 D2.out).2) Try.underlying54 rfl (by kernel_rfl)) rfl ?_
        have hbl : Below w.heap.size w w2 := HBW.out.trans (D2.out.mono HBW.out.size)
        refine ⟨_, [], rfl, ?_, by simp, by simp, blk4_below hbl (by omega)⟩
        rw [HSH.out]
        exact own_mk (Or.inl ⟨rfl, rfl, rfl⟩) HBD.out.1 HBD.out.2.1 HBD.out.2.2
end Go.Proofs.Ytmhmlkdoaojimap

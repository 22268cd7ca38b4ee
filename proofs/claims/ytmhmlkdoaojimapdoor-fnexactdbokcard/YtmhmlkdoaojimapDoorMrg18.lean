/- Four texts in one. -/
import Derived.Test.YtmhmlkdoaojimapDoorMrg16
import Derived.Test.YtmhmlkdoaojimapDoorMrg17
import Derived.Test.YtmhmlkdoaojimapDoorMrg15
import Derived.Test.YtmhmlkdoaojimapDoorMrg8
import Derived.Test.YtmhmlkdoaojimapDoorMrg6
import Derived.BigQuiet
import Derived.ProofKit
import Derived.Test.YtmhmlkdoaojimapDoorMrg3
/- impl.shiftedRight: a copy with other numbers. -/
namespace Go.Proofs.YtmhmlkdoaojimapDoor
open Go.RowKit

def ShOk (b : Int) (t : Tm) : Prop := ∀ (w : World) (v : Value), TmIn w t v → t.wt ≤ 1048576 → t.shp b →
  Calls Tryd.prog 55 #[v, .int .i64 b] w fun e w' => ∃ v' F, e = .returned v' ∧ Own 46 w' (t.shift b) v' F ∧ (∀ f ∈ F, w.heap.size ≤ f) ∧ F.Nodup ∧ Below w.heap.size w w'

set_option maxHeartbeats 1000000 in
set_option maxRecDepth 20000 in
theorem shifted_right (b : Int) (t : Tm) : ShOk b t := by
  refine tm_ind (p := ShOk b) ?_ t
  clear t
  intro k s n ks hks w v hin hwt hsh
  unfold TmIn at hin
  obtain ⟨ao, cap, rfl, hk, hn, hs, hlen, hcap, hrow⟩ := hin
  have ew : (Tm.mk k s n ks).wt = s.size + (ks.length + wts ks) := by simp [Tm.wt, wts]; omega
  rw [ew] at hwt
  rw [shp_mk] at hsh
  obtain ⟨hb1, hsh, hkids⟩ := hsh
  obtain ⟨W, hW⟩ : ∃ W, W = (w.alloc (.cells #[.int .i64 k, .string s, .int .i64 n, .slice ao ks.length cap] 46)).alloc (.cells #[.int .i64 0, .string ⟨#[]⟩, .int .i64 0, .slice none 0 0] 46) := ⟨_, rfl⟩
  have bW : Below w.heap.size w W := by rw [hW]; exact ((Below.refl _ _).alloc (Nat.le_refl _) _).alloc (by simp) _
  have k1 : W.heap[w.heap.size]? = some (.cells #[.int .i64 k, .string s, .int .i64 n, .slice ao ks.length cap] 46 (0, 0)) := by rw [hW]; exact (alloc_old _ _ (by simp)).trans (alloc_at _ _ rfl)
  have k2 : W.heap[w.heap.size + 1]? = some (.cells #[.int .i64 0, .string ⟨#[]⟩, .int .i64 0, .slice none 0 0] 46 (0, 0)) := by rw [hW]; exact alloc_at _ _ (by simp)
  have lW : W.heap.size = w.heap.size + 2 := by rw [hW]; simp
  have HK : Hid (∀ w1, Below W.heap.size W w1 → w1.heap[w.heap.size]? = some (.cells #[.int .i64 k, .string s, .int .i64 n, .slice ao ks.length cap] 46 (0, 0)) ∧ w1.heap[w.heap.size + 1]? = some (.cells #[.int .i64 0, .string ⟨#[]⟩, .int .i64 0, .slice none 0 0] 46 (0, 0))) := fun w1 hb => ⟨(hb.block _ (by omega)).trans k1, (hb.block _ (by omega)).trans k2⟩
  have HBW : Hid (Below w.heap.size w W) := bW
  have HFM := implForm k s n ao ks.length cap (Nat.le_trans hlen hcap) W
  clear k1 k2
  by_cases hstr : k = 4 ∧ n = 0
  · obtain ⟨rfl, rfl⟩ := hstr
    have hf : formV 4 s 0 ao ks.length cap = .iface 122 (.agg #[.string s, .slice ao ks.length cap]) := by simp [formV]
    rw [hf, hW] at HFM
    replace HFM : Hid _ := HFM
    obtain ⟨M, hM, hmk⟩ := make_terms ks.length (by omega)
    have HKS : Hid (∀ t ∈ ks, ShOk b t) := hks
    have HSP : Hid (∀ t ∈ ks, t.shp b) := (shps_all b ks).1 hkids
    have HROW : Hid (ks ≠ [] → ∃ b off, ao = some ⟨b, off, none⟩ ∧ TmsIn w ks b off) := hrow
    have HCL : Hid (∀ w, Calls Tryd.prog 83 #[.string s] w fun e w' => e = .returned (.string s) ∧ Below w.heap.size w w') := fun w => clone_any s w (by omega)
    have HSH : Hid ((Tm.mk 4 s 0 ks).shift b = .mk 4 s 0 (ks.map (Tm.shift b))) := by
      show _ = _
      rw [shift_mk, shifts_map, if_neg (by omega)]
    have HSS : Hid (s.size ≤ maxLen) := hs
    have HM : Hid (M.size = ks.length * 4) := hM
    have HWT : Hid (∀ t ∈ ks, t.wt ≤ 1048576) := fun t ht => by have := wt_le ht; omega
    have hl20 : ks.length ≤ 1048576 := by omega
    clear hf hks hrow hkids hsh bW ew hwt hb1 hs hM hk hn
    go_enter Tryd.func55, Tryd.ntmps55
    go_wp2_with (first | (go_at_call 82; refine (Calls.mono HFM.out ?_); rintro e w1 ⟨rfl, hb⟩; rw [← hW] at hb; have HB1 : Hid (Below W.heap.size W w1) := hb; clear hb) | fail)
    clear hmk
    have hszW := HB1.out.size
    obtain ⟨V, hV⟩ : ∃ V, V = (w1.alloc (.cells #[.string s, .slice ao ks.length cap] 122)).alloc (.cells M 46) := ⟨_, rfl⟩
    have bV : Below w1.heap.size w1 V := by rw [hV]; exact ((Below.refl _ _).alloc (Nat.le_refl _) _).alloc (by simp) _
    have v1 : V.heap[w1.heap.size]? = some (.cells #[.string s, .slice ao ks.length cap] 122 (0, 0)) := by rw [hV]; exact (alloc_old _ _ (by simp)).trans (alloc_at _ _ rfl)
    have v2 : V.heap[w1.heap.size + 1]? = some (.cells M 46 (0, 0)) := by rw [hV]; exact alloc_at _ _ (by simp)
    have HBV : Hid (Below W.heap.size W V) := HB1.out.trans (bV.mono HB1.out.size)
    have HV1 : Hid (V.heap[w1.heap.size]? = some (.cells #[.string s, .slice ao ks.length cap] 122 (0, 0))) := v1
    have HV2 : Hid (V.heap[w1.heap.size + 1]? = some (.cells M 46 (0, 0))) := v2
    rw [← hV]
    clear hV bV v1 v2 HFM
    generalize w1.heap.size = g6 at *
    go_loopw [39] (fun vi wr => ∃ (j : Nat) (cur : Array Value) (F : List Nat), j ≤ ks.length ∧ vi = .int .i64 (j : Int) ∧ Hid (Below W.heap.size W wr) ∧ Hid (wr.heap[g6]? = some (.cells #[.string s, .slice ao ks.length cap] 122 (0, 0))) ∧ Hid (wr.heap[(g6 + 1)]? = some (.cells cur 46 (0, 0))) ∧ cur.size = ks.length * 4 ∧
      Hid (OwnRow 46 wr ((ks.map (Tm.shift b)).take j) (cur.toList.take (j * 4)) F ∧ (∀ f ∈ F, (g6 + 1) < f) ∧ F.Nodup)) (fun i _ => ks.length - (intOf i).toNat)
    case atStart => exact ⟨0, M, [], by omega, rfl, HBV.out, HV1.out, HV2.out, HM.out, by simp [OwnRow], by simp, by simp⟩
    case round =>
      obtain ⟨j, cur, F, hj, rfl, HB, HX, HG, hcs, HO⟩ := hrel
      by_cases hlt : j < ks.length
      · obtain ⟨b7, off, rfl, hin⟩ := HROW.out (by intro e; subst e; simp at hlt)
        have hbw : Below w.heap.size w wr := HBW.out.trans (HB.out.mono HBW.out.size)
        obtain ⟨c0, c1, c2, c3, h0, h1, h2, h3, ht⟩ := (TmsIn.keep hbw ks b7 off hin).at j hlt
        obtain ⟨kj, sj, nj, aj, lj, cj, hsj⟩ := tm_shape ht
        obtain ⟨rfl, rfl, rfl, rfl⟩ : c0 = .int .i64 kj ∧ c1 = .string sj ∧ c2 = .int .i64 nj ∧ c3 = .slice aj lj cj := by simpa using hsj
        obtain ⟨U, hU⟩ : ∃ U, U = wr.alloc (.cells #[.int .i64 kj, .string sj, .int .i64 nj, .slice aj lj cj] 46) := ⟨_, rfl⟩
        have bU : Below wr.heap.size wr U := by rw [hU]; exact (Below.refl _ _).alloc (Nat.le_refl _) _
        have HC := HKS.out ks[j] (List.getElem_mem hlt) U _ (TmIn.keep bU _ _ ht) (HWT.out _ (List.getElem_mem hlt)) (HSP.out _ (List.getElem_mem hlt))
        rw [hU] at HC
        replace HC : Hid _ := HC
        have hgl : (g6 + 1) < wr.heap.size := (Array.getElem?_eq_some_iff.1 HG.out).1
        have HAF : Hid (∀ w2, Below U.heap.size U w2 → Below W.heap.size W w2 ∧ w2.heap[g6]? = some (.cells #[.string s, .slice (some ⟨b7, off, none⟩) ks.length cap] 122 (0, 0)) ∧ w2.heap[(g6 + 1)]? = some (.cells cur 46 (0, 0)) ∧ OwnRow 46 w2 ((ks.map (Tm.shift b)).take j) (cur.toList.take (j * 4)) F ∧ (∀ f ∈ F, f < U.heap.size)) := fun w2 hb => by
          have hb2 : Below wr.heap.size wr w2 := bU.trans (hb.mono bU.size)
          refine ⟨HB.out.trans (hb2.mono HB.out.size), (hb2.block _ (by omega)).trans HX.out, (hb2.block _ hgl).trans HG.out, OwnRow.keep _ _ _ HO.out.1 fun f hf => hb2.block f (OwnRow.lt _ _ _ HO.out.1 f hf), fun f hf => ?_⟩
          have := OwnRow.lt _ _ _ HO.out.1 f hf
          have := bU.size
          omega
        have HO2 : Hid ((∀ f ∈ F, (g6 + 1) < f) ∧ F.Nodup) := HO.out.2
        have hUs : wr.heap.size ≤ U.heap.size := bU.size
        clear hin ht hsj bU HO
        go_wp2_with (go_at_call 55; refine (Calls.mono HC.out ?_); rintro e w2 ⟨v', F2, rfl, hown, hfr, hnd, hb⟩; rw [← hU] at hfr hb; obtain ⟨k', s', n', ao', len', cap', rfl⟩ := own_shape hown; obtain ⟨p1, p2, p3, p4, p5⟩ := HAF.out w2 hb; have x0 := blk_cell (i := j * 4) p3 (by omega); have x1 := blk_cell (i := j * 4 + 1) p3 (by omega); have x2 := blk_cell (i := j * 4 + 2) p3 (by omega); have x3 := blk_cell (i := j * 4 + 3) p3 (by omega); have z0 := blk_frozen p3 (j * 4); have z1 := blk_frozen p3 (j * 4 + 1); have z2 := blk_frozen p3 (j * 4 + 2); have z3 := blk_frozen p3 (j * 4 + 3); have HOWN : Hid (Own 46 w2 (ks[j].shift b) (.agg #[.int .i64 k', .string s', .int .i64 n', .slice ao' len' cap']) F2) := hown; have HFR : Hid (∀ f ∈ F2, U.heap.size ≤ f) := hfr; have HND : Hid F2.Nodup := hnd; have P1 : Hid (Below W.heap.size W w2) := p1; have P2 : Hid (w2.heap[g6]? = some (.cells #[.string s, .slice (some ⟨b7, off, none⟩) ks.length cap] 122 (0, 0))) := p2; have P3 : Hid (w2.heap[(g6 + 1)]? = some (.cells cur 46 (0, 0))) := p3; have P4 : Hid (OwnRow 46 w2 ((ks.map (Tm.shift b)).take j) (cur.toList.take (j * 4)) F) := p4; have P5 : Hid (∀ f ∈ F, f < U.heap.size) := p5; clear hown hfr hb hnd p1 p2 p3 p4 p5)
        go_roundw
        case rel =>
          obtain ⟨o2, o3⟩ := HO2.out
          have hne : ∀ f, (g6 + 1) < f → f ≠ (g6 + 1) := fun f hf => by omega
          have hml : j < (ks.map (Tm.shift b)).length := by simpa using hlt
          refine ⟨j + 1, _, F ++ F2, by omega, by go_num, ?_, ?_, blk_set (blk_set (blk_set (blk_set P3.out _) _) _) _, by simp; exact hcs, ?_, ?_, ?_⟩
          · exact below_set (below_set (below_set (below_set P1.out (by omega) _) (by omega) _) (by omega) _) (by omega) _
          · rw [blk_other _ (by omega), blk_other _ (by omega), blk_other _ (by omega), blk_other _ (by omega)]; exact P2.out
          · rw [List.take_succ_eq_append_getElem hml, set4_take (by omega)]
            refine OwnRow.snoc (Own.keep _ _ _ (by rw [List.getElem_map]; exact HOWN.out) fun f hf => ?_) _ _ _ (OwnRow.keep _ _ _ P4.out fun f hf => ?_)
            · have h1 := HFR.out f hf
              rw [blk_other _ (hne f (by omega)), blk_other _ (hne f (by omega)), blk_other _ (hne f (by omega)), blk_other _ (hne f (by omega))]
            · have h1 := o2 f hf
              rw [blk_other _ (hne f h1), blk_other _ (hne f h1), blk_other _ (hne f h1), blk_other _ (hne f h1)]
          · intro f hf
            rcases List.mem_append.1 hf with hf | hf
            · exact o2 f hf
            · have := HFR.out f hf; omega
          · refine List.nodup_append.2 ⟨o3, HND.out, fun a ha b hb => ?_⟩
            have h1 := P5.out a ha
            have h2 := HFR.out b hb
            omega
        case measure => simp [intOf]; omega
      · have x0 : wr.cell? ⟨g6, 0, none⟩ = some (.string s) := blk_cell (i := 0) HX.out (by simp)
        have HE : Hid (OwnS 46 wr (ks.map (Tm.shift b)) (.slice (some ⟨g6 + 1, 0, none⟩) ks.length ks.length) ((g6 + 1) :: F)) := by
          obtain ⟨o1, o2, o3⟩ := HO.out
          obtain rfl : j = ks.length := by omega
          rw [List.take_of_length_le (by simp)] at o1
          refine Or.inr ⟨g6 + 1, ks.length, cur.toList.take (ks.length * 4), F, by simp, ⟨by simp [hcs], Or.inr ⟨g6 + 1, ks.length, cur, by simp, Nat.zero_le _, HG.out, by simp, by unfold maxLen; omega, hcs, by simp⟩⟩, rfl, o1⟩
        have HF : Hid ((∀ f ∈ (g6 + 1) :: F, g6 < f ∧ f < wr.heap.size) ∧ ((g6 + 1) :: F).Nodup) := by
          obtain ⟨o1, o2, o3⟩ := HO.out
          have hgl := (Array.getElem?_eq_some_iff.1 HG.out).1
          refine ⟨fun f hf => ?_, List.nodup_cons.2 ⟨fun hf => ?_, o3⟩⟩
          · rcases List.mem_cons.1 hf with rfl | hf
            · exact ⟨by omega, hgl⟩
            · have := o2 f hf; exact ⟨by omega, OwnRow.lt _ _ _ o1 f hf⟩
          · have := o2 _ hf; omega
        clear HO HG
        go_wp2_with (go_at_call 83; refine (Calls.mono (HCL.out _) ?_); rintro e w2 ⟨rfl, hb⟩; have P1 : Hid (Below W.heap.size W w2) := HB.out.trans (hb.mono HB.out.size); obtain ⟨_, hz⟩ := HK.out w2 P1.out; obtain ⟨y0, y1, y2, y3, z0, z1, z2, z3⟩ := blk4 hz; have HZ : Hid (w2.heap[w.heap.size + 1]? = some (.cells #[.int .i64 0, .string ⟨#[]⟩, .int .i64 0, .slice none 0 0] 46 (0, 0))) := hz; have HE2 : Hid (OwnS 46 w2 (ks.map (Tm.shift b)) (.slice (some ⟨g6 + 1, 0, none⟩) ks.length ks.length) ((g6 + 1) :: F)) := OwnS.keep HE.out (fun f hf => hb.block f (HF.out.1 f hf).2); clear hb hz)
        refine bodyPost_ret_by (results_cell_row rfl _ _ (w.heap.size + 1) 46 _ (0, 0) _ rfl (blk4_set HZ.out) Tryd.underlying46 rfl (by kernel_rfl)) rfl ?_
        have hbl : Below w.heap.size w w2 := HBW.out.trans (P1.out.mono HBW.out.size)
        refine ⟨_, (g6 + 1) :: F, rfl, ?_, fun f hf => ?_, HF.out.2, blk4_below hbl (by omega)⟩
        · rw [HSH.out]
          refine own_mk (OwnS.keep HE2.out fun f hf => blk4_other ?_) (by omega) (by omega) HSS.out
          have := (HF.out.1 f hf).1; omega
        · have := (HF.out.1 f hf).1; omega
  · have hks0 : ks = [] := by rcases hsh with h | h; exact h; exact absurd h hstr
    subst hks0
    by_cases hv : k = 1 ∧ s.size = 0
    · obtain ⟨rfl, hs0⟩ := hv
      obtain rfl := empty_of hs0
      have hf : formV 1 ⟨#[]⟩ n ao ([] : List Tm).length cap = .iface 120 (.agg #[.int .i64 n]) := by unfold formV; rw [if_pos ⟨rfl, rfl, rfl⟩]
      rw [hf, hW] at HFM
      replace HFM : Hid _ := HFM
      obtain ⟨hb2, hb3⟩ := hb1 rfl
      clear hf hks hrow hkids hsh hstr bW hs0 ew
      go_enter Tryd.func55, Tryd.ntmps55
      go_wp2_with (first | (go_at_call 82; refine (Calls.mono HFM.out ?_); rintro e w1 ⟨rfl, hb⟩; rw [← hW] at hb; obtain ⟨hx, hz⟩ := HK.out w1 hb; obtain ⟨y0, y1, y2, y3, z0, z1, z2, z3⟩ := blk4 hz; have HB1 : Hid (Below W.heap.size W w1) := hb; have hsz := hb.size; have hlt1 : w.heap.size + 1 < w1.heap.size := (by omega); have HZ : Hid (w1.heap[w.heap.size + 1]? = some (.cells #[.int .i64 0, .string ⟨#[]⟩, .int .i64 0, .slice none 0 0] 46 (0, 0))) := hz; clear hb hx hz) | fail)
      have hz2 : ((((w1.setCell ⟨w.heap.size + 1, 0, none⟩ (.int .i64 1)).setCell ⟨w.heap.size + 1, 1, none⟩ (.string ⟨#[]⟩)).setCell ⟨w.heap.size + 1, 2, none⟩ (.int .i64 (n + b))).setCell ⟨w.heap.size + 1, 3, none⟩ (.slice none 0 0)).heap[w.heap.size + 1]? = some (.cells #[.int .i64 1, .string ⟨#[]⟩, .int .i64 (n + b), .slice none 0 0] 46 (0, 0)) := blk4_set HZ.out
      refine bodyPost_ret_by (results_cell_row rfl _ _ (w.heap.size + 1) 46 _ (0, 0) _ rfl ((alloc_old _ _ (by simp [World.setCell]; omega)).trans hz2) Tryd.underlying46 rfl (by kernel_rfl)) rfl ?_
      have hbl : Below w.heap.size w w1 := HBW.out.trans (HB1.out.mono HBW.out.size)
      refine ⟨_, [], rfl, ?_, by simp, by simp, (blk4_below hbl (by omega)).alloc (by simp [World.setCell]; omega) _⟩
      rw [shift_mk, if_pos ⟨rfl, rfl, rfl⟩]
      exact own_mk (Or.inl ⟨rfl, rfl, rfl⟩) (by omega) ⟨hb2, hb3⟩ (Nat.zero_le _)
    · obtain ⟨ft, fv, hf, hft⟩ : ∃ ft fv, formV k s n ao ([] : List Tm).length cap = .iface ft fv ∧ (ft = 143 ∨ ft = 145 ∨ ft = 146) := by
        unfold formV
        rw [if_neg (fun h => hv ⟨h.1, h.2.1⟩)]
        split
        · exact ⟨_, _, rfl, Or.inl rfl⟩
        · split
          · exact ⟨_, _, rfl, Or.inr (Or.inl rfl)⟩
          · exact ⟨_, _, rfl, Or.inr (Or.inr rfl)⟩
      rw [hf, hW] at HFM
      replace HFM : Hid _ := HFM
      have HSH : Hid ((Tm.mk k s n []).shift b = .mk k s n []) := by
        show _ = _
        rw [shift_mk, if_neg (fun h => hv ⟨h.1, h.2.1⟩)]
        rfl
      have hsl : s.size ≤ 1048576 := by omega
      have HBD : Hid ((-9223372036854775808 ≤ k ∧ k ≤ 9223372036854775807) ∧ (-9223372036854775808 ≤ n ∧ n ≤ 9223372036854775807) ∧ s.size ≤ maxLen) := ⟨hk, hn, hs⟩
      have HCL : Hid (∀ w, Calls Tryd.prog 83 #[.string s] w fun e w' => e = .returned (.string s) ∧ Below w.heap.size w w') := fun w => clone_any s w hsl
      clear hf hks hrow hkids hsh hstr bW hv ew hwt hb1 hk hn hs hcap hlen hsl
      rcases hft with rfl | rfl | rfl
      all_goals
        go_enter Tryd.func55, Tryd.ntmps55
        go_wp2_with (first | (go_at_call 82; refine (Calls.mono HFM.out ?_); rintro e w1 ⟨rfl, hb⟩; rw [← hW] at hb; have HB1 : Hid (Below W.heap.size W w1) := hb; clear hb) | fail)
        have HL : Hid (∀ u, Below W.heap.size W (later w1 u)) := fun u => HB1.out.trans ((later_below w1 u).mono HB1.out.size)
        have x0 : ∀ u, (later w1 u).cell? ⟨w.heap.size, 0, none⟩ = some (.int .i64 k) := fun u => (blk4 (HK.out _ (HL.out u)).1).1
        have x1 : ∀ u, (later w1 u).cell? ⟨w.heap.size, 1, none⟩ = some (.string s) := fun u => (blk4 (HK.out _ (HL.out u)).1).2.1
        have x2 : ∀ u, (later w1 u).cell? ⟨w.heap.size, 2, none⟩ = some (.int .i64 n) := fun u => (blk4 (HK.out _ (HL.out u)).1).2.2.1
        refine wp_region_tail 7 (by kernel_rfl) (by kernel_rfl) ?_
        simp only [List.take_succ_cons, List.take_zero, List.drop_succ_cons, List.drop_zero]
        repeat (go_big_quiet_step ((go_at_call 83; exact Calls.later_of_below (HCL.out _))))
        refine wpQuiet_nil ?_
        rintro _ ⟨u, rfl⟩
        have D2 : Hid (Below W.heap.size W (later w1 u)) := HL.out u
        generalize later w1 u = w2 at *
        obtain ⟨b0, b1, b2, b3, e0, e1, e2, e3⟩ := blk4 (HK.out w2 D2.out).2
        clear x0 x1 x2
        go_wp2
        refine bodyPost_ret_by (results_cell_row rfl _ _ (w.heap.size + 1) 46 _ (0, 0) _ rfl (blk4_set (HK.out w2 D2.out).2) Tryd.underlying46 rfl (by kernel_rfl)) rfl ?_
        have hbl : Below w.heap.size w w2 := HBW.out.trans (D2.out.mono HBW.out.size)
        refine ⟨_, [], rfl, ?_, by simp, by simp, blk4_below hbl (by omega)⟩
        rw [HSH.out]
        exact own_mk (Or.inl ⟨rfl, rfl, rfl⟩) HBD.out.1 HBD.out.2.1 HBD.out.2.2
end Go.Proofs.YtmhmlkdoaojimapDoor

/- What is right may be shifted a little. Of no program. -/
namespace Go.Proofs.YtmhmlkdoaojimapDoor
open Go.RowKit

theorem right_shp (b : Int) (hb : -100000 ≤ b ∧ b ≤ 100000) (t : Tm) : ∀ d, t.right d = true → t.shp b := by
  refine tm_ind (p := fun t => ∀ d, t.right d = true → t.shp b) ?_ t
  intro k s n ks hks d h
  rw [right_mk, Bool.and_eq_true, Bool.and_eq_true] at h
  obtain ⟨⟨_, h2⟩, h3⟩ := h
  rw [rights_all, List.all_eq_true] at h3
  rw [shp_mk, shps_all]
  unfold oneT at h2
  refine ⟨fun hk => ?_, ?_, fun t ht => hks t ht _ (h3 t ht)⟩
  · subst hk
    simp at h2
    omega
  · split at h2
    · simp at h2; exact Or.inl h2.2
    · split at h2
      · simp at h2; exact Or.inl h2.2
      · split at h2
        · simp at h2; exact Or.inl h2.2
        · split at h2
          · rename_i h4; simp at h2; exact Or.inr ⟨h4, h2.1.2⟩
          · simp at h2

end Go.Proofs.YtmhmlkdoaojimapDoor

/- (*copier).copyOf: a copy in memory of its own. -/
namespace Go.Proofs.YtmhmlkdoaojimapDoor
open Go.RowKit

theorem Cop.call {w0 w : World} {R0 : List Row} {gc m : Nat} {osl : Value} {C : List (Ent × Nat)} {O : List Ent} {P : List Row} {b n cap : Nat} {cs : List Value} {ks : List Tm} {R : List Row} (h : Cop w0 R0 w gc m osl C O (((b, n, cs) :: R) ++ P)) (h0 : Rows0 w0 R0 gc m) (hk : ks.length = n) (hs : SrcRow 46 w0 ks cs R)
    (hrow : w0.ownsRow 0 46 4 (.slice (some ⟨b, 0, none⟩) n cap) n cs) :
    Calls Tryd.prog 104 #[.pointer (some ⟨gc, 0, none⟩), .slice (some ⟨b, 0, none⟩) n cap] w fun e w' => ∃ g cap' osl', e = .returned (.slice (some ⟨g, 0, none⟩) n cap') ∧ Cop w0 R0 w' gc m osl' C (O ++ [⟨b, n, cs, g, cap', ks, R⟩]) P := by
  have hmem : (b, n, cs) ∈ R0 := h.perm.mem_iff.1 (by simp)
  have hn := h0.pos _ hmem
  have hcs := h0.cells _ hmem
  have hns := h.ns
  have hsum := h0.sum
  have hlen := h.len
  have hl0 := rows_len R0 h0.pos
  have hne := h0.ne _ hmem
  have hn2 : n ≤ 2097152 := by
    simp only [List.map_append, List.map_cons, List.sum_append, List.sum_cons, List.cons_append] at hns
    omega
  have hT : ((C.map (·.1) ++ O).map (·.n)).sum ≤ 2097152 := by omega
  have hD : b ∉ (C.map (·.1) ++ O).map (·.b) := fun hb => by
    have hnd := h.bs.nodup_iff.2 h0.nd
    exact (List.nodup_append.1 hnd).2.2 b hb b (by simp) rfl
  have hkeep : ∀ r ∈ R0, w.heap[r.1]? = w0.heap[r.1]? := fun r hr => by
    obtain ⟨c, hc⟩ := h0.rin r hr
    exact h.out.block r.1 (hc.lt r.1 rfl).2 (by have := h0.ne r hr; simp [this])
  have hDP : DPB w ((C.map (·.1) ++ O).map (·.b)) := fun f hf => by
    obtain ⟨x, hx, rfl⟩ := List.mem_map.1 hf
    have hr : x.row ∈ R0 := h.perm.mem_iff.1 (List.mem_append_left _ (List.mem_map_of_mem hx))
    obtain ⟨c, hc⟩ := h0.rin _ hr
    rcases hc.2 with ⟨e, _⟩ | ⟨g, c', cur, e, _, hh, _⟩
    · cases e
    · cases e; exact ⟨cur, _, (hkeep _ hr).trans hh⟩
  have ho1 : osl.ownBlock ≠ some gc := fun e => by have := h.ofr _ e; have := h.gm.2.1; omega
  have ho2 : osl.ownBlock ≠ some m := fun e => by have := h.ofr _ e; have := h.gm.2.2; omega
  refine Calls.mono (list_copied w gc m b n cap 1048576 O.length _ osl _ cs (O.map Ent.sl) h.cop h.map hD hDP (row_keep hrow (hkeep _ hmem)) hcs (Nat.le_refl _) hn (by omega) ⟨by omega, by omega⟩ h.stack (by omega) h.gm.1 ho1 ho2) ?_
  rintro e w' ⟨g, cap', osl', rfl, r1, r2, r3, r4, r5, r6, r7⟩
  exact ⟨g, cap', osl', rfl, h.push h0 hk hn hs r1 r2 r3 r4 r5 r6 r7⟩

def QC (w0 : World) (R0 : List Row) (gc m bs g0 : Nat) (wr : World) (N : Nat) : Prop := ∃ C O osl, Cop w0 R0 wr gc m osl C O [] ∧ (∀ p ∈ C, p.2 = p.1.n) ∧ (∃ y ∈ C.map (·.1) ++ O, y.b = bs ∧ y.g = g0) ∧ R0.length - C.length = N

/-- at first: nothing is copied yet -/
theorem cop_start {t : Tm} {w : World} {v : Value} {R : List Row} {F : List Nat} {gc m bs clk : Nat} {cs0 : List Value} (hs : Src 46 w t v R) (hwt : t.wt ≤ 1048576) (hv : ∃ c0 c1 c2 c3, v = .agg #[c0, c1, c2, c3] ∧ cs0 = [c0, c1, c2, c3]) (hsub : (R.map (·.1)).Sublist F) (hnd : F.Nodup) (hF : ∀ f ∈ F, f ≠ gc ∧ f ≠ m ∧ f < bs) (hb : bs ≠ gc ∧ bs ≠ m)
    (hc : w.heap[gc]? = some (.cells #[.map (some m), .int .i64 0, .slice none 0 0] 95 (0, 0))) (hm : w.heap[m]? = some (.map #[] clk)) (hgm : gc ≠ m) (hbs : w.heap[bs]? = some (.cells cs0.toArray 46 (0, 0))) :
    Rows0 w ((bs, 1, cs0) :: R) gc m ∧ Cop w ((bs, 1, cs0) :: R) w gc m (.slice none 0 0) [] [] (((bs, 1, cs0) :: R) ++ []) ∧ w.ownsRow 0 46 4 (.slice (some ⟨bs, 0, none⟩) 1 1) 1 cs0 ∧ SrcRow 46 w [t] cs0 R := by
  obtain ⟨c0, c1, c2, c3, rfl, rfl⟩ := hv
  have hown : w.ownsRow 0 46 4 (.slice (some ⟨bs, 0, none⟩) 1 1) 1 [c0, c1, c2, c3] := ⟨rfl, Or.inr ⟨bs, 1, #[c0, c1, c2, c3], rfl, Nat.zero_le _, hbs, Nat.le_refl _, by unfold maxLen; omega, rfl, rfl⟩⟩
  have hsr : SrcRow 46 w [t] [c0, c1, c2, c3] R := by
    unfold SrcRow
    exact ⟨c0, c1, c2, c3, [], R, [], rfl, by simp, hs, by unfold SrcRow; exact ⟨rfl, rfl⟩⟩
  obtain ⟨s1, s2⟩ := Src.rows t _ R hs
  have s3 := Src.all 1048576 t _ R hs hwt
  have s4 : CellsOk [c0, c1, c2, c3] 1 1048576 := srcRow_cells 1048576 [t] _ R hsr (by simp [wts, Tm.wt.wts]; omega)
  have hR : ∀ r ∈ R, r.1 ∈ F := fun r hr => hsub.subset (List.mem_map_of_mem hr)
  refine ⟨⟨?_, ?_, ?_, ?_, ?_, ?_⟩, ⟨Out.refl _ _, ⟨hgm, (Array.getElem?_eq_some_iff.1 hc).1, (Array.getElem?_eq_some_iff.1 hm).1⟩, fun x hx => (by cases hx), by simp, by simp, fun x hx => (by cases hx), fun z hz => (by cases hz), fun p hp => (by cases hp), fun x hx => (by cases hx), by simpa using hc, ⟨#[], clk, hm, fun e he => (by cases he)⟩, ⟨by simp, Or.inl ⟨rfl, rfl⟩⟩⟩, hown, hsr⟩
  · rw [List.map_cons, List.nodup_cons]
    refine ⟨fun h => ?_, hsub.nodup hnd⟩
    have := (hF _ (hsub.subset h)).2.2
    simp at this
  · intro r hr
    rcases List.mem_cons.1 hr with rfl | hr
    · exact ⟨1, hown⟩
    · exact s1 r hr
  · intro r hr
    rcases List.mem_cons.1 hr with rfl | hr
    · exact hb
    · exact ⟨(hF _ (hR r hr)).1, (hF _ (hR r hr)).2.1⟩
  · intro r hr
    rcases List.mem_cons.1 hr with rfl | hr
    · exact s4
    · exact (s3 r hr).1
  · simp only [List.map_cons, List.sum_cons]; omega
  · intro r hr
    rcases List.mem_cons.1 hr with rfl | hr
    · show 0 < 1; omega
    · exact (s3 r hr).2
end Go.Proofs.YtmhmlkdoaojimapDoor

/- The copier used again: one list copied, what stands at first and at the end. -/
namespace Go.Proofs.YtmhmlkdoaojimapDoor
open Go.RowKit

theorem Kop.call {w0 w : World} {R0 : List Row} {T0 : Nat} {D0 Z : List Nat} {gc m : Nat} {osl : Value} {C : List (Ent × Nat)} {O : List Ent} {P : List Row} {b n cap : Nat} {cs : List Value} {ks : List Tm} {R : List Row} (h : Kop w0 R0 T0 D0 Z w gc m osl C O (((b, n, cs) :: R) ++ P)) (h0 : Rows1 w0 R0 gc m T0 D0 Z) (hk : ks.length = n) (hs : SrcRow 46 w0 ks cs R)
    (hrow : w0.ownsRow 0 46 4 (.slice (some ⟨b, 0, none⟩) n cap) n cs) :
    Calls Tryd.prog 104 #[.pointer (some ⟨gc, 0, none⟩), .slice (some ⟨b, 0, none⟩) n cap] w fun e w' => ∃ g cap' osl', e = .returned (.slice (some ⟨g, 0, none⟩) n cap') ∧ Kop w0 R0 T0 D0 Z w' gc m osl' C (O ++ [⟨b, n, cs, g, cap', ks, R⟩]) P := by
  have hmem : (b, n, cs) ∈ R0 := h.perm.mem_iff.1 (by simp)
  have hn := h0.pos _ hmem
  have hcs := h0.cells _ hmem
  have hns := h.ns
  have hsum := h0.sum
  have hlen := h.len
  have hl0 := rows_len R0 h0.pos
  have hne := h0.ne _ hmem
  have hn2 : n ≤ 2097152 := by
    simp only [List.map_append, List.map_cons, List.sum_append, List.sum_cons, List.cons_append] at hns
    omega
  have hT : T0 + ((C.map (·.1) ++ O).map (·.n)).sum ≤ 4194304 := by have := h0.tb; omega
  have hD : b ∉ (C.map (·.1) ++ O).map (·.b) ++ D0 := fun hb => by
    rcases List.mem_append.1 hb with hb | hb
    · have hnd := h.bs.nodup_iff.2 h0.nd
      exact (List.nodup_append.1 hnd).2.2 b hb b (by simp) rfl
    · exact h0.dj _ hmem hb
  have hkeep : ∀ r ∈ R0, w.heap[r.1]? = w0.heap[r.1]? := fun r hr => by
    obtain ⟨c, hc⟩ := h0.rin r hr
    exact h.out.block r.1 (hc.lt r.1 rfl).2 (by have := h0.ne r hr; simp [this])
  have hDP : DPB w ((C.map (·.1) ++ O).map (·.b) ++ D0) := fun f hf => by
    rcases List.mem_append.1 hf with hf | hf
    case inr =>
      obtain ⟨cur, T', hh⟩ := h0.dp f hf
      exact ⟨cur, T', (h.out.block f (Array.getElem?_eq_some_iff.1 hh).1 (by have := h0.dk f hf; simp [this])).trans hh⟩
    obtain ⟨x, hx, rfl⟩ := List.mem_map.1 hf
    have hr : x.row ∈ R0 := h.perm.mem_iff.1 (List.mem_append_left _ (List.mem_map_of_mem hx))
    obtain ⟨c, hc⟩ := h0.rin _ hr
    rcases hc.2 with ⟨e, _⟩ | ⟨g, c', cur, e, _, hh, _⟩
    · cases e
    · cases e; exact ⟨cur, _, (hkeep _ hr).trans hh⟩
  have ho1 : osl.ownBlock ≠ some gc := fun e => (h.ofr _ e).elim (fun h9 => by have := h.gm.2.1; omega) fun h9 => (h.gm.2.2.2 _ h9).1 rfl
  have ho2 : osl.ownBlock ≠ some m := fun e => (h.ofr _ e).elim (fun h9 => by have := h.gm.2.2.1; omega) fun h9 => (h.gm.2.2.2 _ h9).2.1 rfl
  refine Calls.mono (list_copied w gc m b n cap 1048576 O.length _ osl _ cs (O.map Ent.sl) h.cop h.map hD hDP (row_keep hrow (hkeep _ hmem)) hcs (Nat.le_refl _) hn (by omega) ⟨by omega, by omega⟩ h.stack (by omega) h.gm.1 ho1 ho2) ?_
  rintro e w' ⟨g, cap', osl', rfl, r1, r2, r3, r4, r5, r6, r7⟩
  exact ⟨g, cap', osl', rfl, h.push h0 hk hn hs r1 r2 r3 r4 r5 r6 r7⟩

/-- the copier between two terms -/
structure KSt (w : World) (gc m T0 : Nat) (D0 : List Nat) (osl : Value) : Prop where
  gm : gc ≠ m
  cop : w.heap[gc]? = some (.cells #[.map (some m), .int .i64 (T0 : Int), osl] 95 (0, 0))
  map : CMapAt w m D0
  dp : DPB w D0
  dk : ∀ d ∈ D0, d ≠ gc ∧ d ≠ m ∧ osl.ownBlock ≠ some d
  stack : w.ownsRow 0 44 1 osl 0 []
  zz : ∀ z, osl.ownBlock = some z → z ≠ gc ∧ z ≠ m
theorem KSt.turn {w w' : World} {gc m T0 : Nat} {D0 : List Nat} {osl : Value} (h : KSt w gc m T0 D0 osl) (hb : ∀ k, (k = gc ∨ k = m ∨ k ∈ D0 ∨ osl.ownBlock = some k) → w'.heap[k]? = w.heap[k]?) : KSt w' gc m T0 D0 osl :=
  ⟨h.gm, (hb _ (Or.inl rfl)).trans h.cop, by obtain ⟨es, cl, h1, h2⟩ := h.map; exact ⟨es, cl, (hb _ (Or.inr (Or.inl rfl))).trans h1, h2⟩,
    fun f hf => by obtain ⟨cur, T, hh⟩ := h.dp f hf; exact ⟨cur, T, (hb f (Or.inr (Or.inr (Or.inl hf)))).trans hh⟩, h.dk, row_turn0 h.stack fun b e => hb b (Or.inr (Or.inr (Or.inr e))), h.zz⟩
theorem KSt.lt {w : World} {gc m T0 : Nat} {D0 : List Nat} {osl : Value} (h : KSt w gc m T0 D0 osl) : ∀ k, (k = gc ∨ k = m ∨ k ∈ D0 ∨ osl.ownBlock = some k) → k < w.heap.size := fun k hk => by
  rcases hk with rfl | rfl | hk | hk
  · exact (Array.getElem?_eq_some_iff.1 h.cop).1
  · obtain ⟨es, cl, h1, h2⟩ := h.map; exact (Array.getElem?_eq_some_iff.1 h1).1
  · obtain ⟨cur, T, hh⟩ := h.dp k hk; exact (Array.getElem?_eq_some_iff.1 hh).1
  · exact row_lt0 h.stack hk
theorem KSt.keep {w w' : World} {gc m T0 : Nat} {D0 : List Nat} {osl : Value} (h : KSt w gc m T0 D0 osl) (hb : Below w.heap.size w w') : KSt w' gc m T0 D0 osl := h.turn fun k hk => hb.block k (h.lt k hk)
/-- a new copier -/
theorem kst_new {w : World} {gc m clk : Nat} (hc : w.heap[gc]? = some (.cells #[.map (some m), .int .i64 0, .slice none 0 0] 95 (0, 0))) (hm : w.heap[m]? = some (.map #[] clk)) (hgm : gc ≠ m) : KSt w gc m 0 [] (.slice none 0 0) :=
  ⟨hgm, by simpa using hc, ⟨#[], clk, hm, fun e he => (by cases he)⟩, fun f hf => (by cases hf), fun d hd => (by cases hd), ⟨by simp, Or.inl ⟨rfl, rfl⟩⟩, fun z hz => (by cases hz)⟩

def QK (w0 : World) (R0 : List Row) (T0 : Nat) (D0 Z : List Nat) (gc m bs g0 : Nat) (wr : World) (N : Nat) : Prop := ∃ C O osl, Kop w0 R0 T0 D0 Z wr gc m osl C O [] ∧ (∀ p ∈ C, p.2 = p.1.n) ∧ (∃ y ∈ C.map (·.1) ++ O, y.b = bs ∧ y.g = g0) ∧ R0.length - C.length = N

/-- at first: nothing of the term is copied yet -/
theorem kop_start {t : Tm} {w : World} {v : Value} {R : List Row} {F : List Nat} {gc m bs T0 : Nat} {D0 : List Nat} {osl : Value} {cs0 : List Value} (hs : Src 46 w t v R) (hwt : t.wt ≤ 1048576) (hv : ∃ c0 c1 c2 c3, v = .agg #[c0, c1, c2, c3] ∧ cs0 = [c0, c1, c2, c3]) (hsub : (R.map (·.1)).Sublist F) (hnd : F.Nodup) (hF : ∀ f ∈ F, f ≠ gc ∧ f ≠ m ∧ f < bs ∧ osl.ownBlock ≠ some f ∧ f ∉ D0) (hb : bs ≠ gc ∧ bs ≠ m ∧ osl.ownBlock ≠ some bs ∧ bs ∉ D0)
    (hk : KSt w gc m T0 D0 osl) (hT : T0 ≤ 2097152) (hbs : w.heap[bs]? = some (.cells cs0.toArray 46 (0, 0))) :
    Rows1 w ((bs, 1, cs0) :: R) gc m T0 D0 osl.ownBlock.toList ∧ Kop w ((bs, 1, cs0) :: R) T0 D0 osl.ownBlock.toList w gc m osl [] [] (((bs, 1, cs0) :: R) ++ []) ∧ w.ownsRow 0 46 4 (.slice (some ⟨bs, 0, none⟩) 1 1) 1 cs0 ∧ SrcRow 46 w [t] cs0 R := by
  obtain ⟨c0, c1, c2, c3, rfl, rfl⟩ := hv
  have hown : w.ownsRow 0 46 4 (.slice (some ⟨bs, 0, none⟩) 1 1) 1 [c0, c1, c2, c3] := ⟨rfl, Or.inr ⟨bs, 1, #[c0, c1, c2, c3], rfl, Nat.zero_le _, hbs, Nat.le_refl _, by unfold maxLen; omega, rfl, rfl⟩⟩
  have hsr : SrcRow 46 w [t] [c0, c1, c2, c3] R := by
    unfold SrcRow
    exact ⟨c0, c1, c2, c3, [], R, [], rfl, by simp, hs, by unfold SrcRow; exact ⟨rfl, rfl⟩⟩
  obtain ⟨s1, s2⟩ := Src.rows t _ R hs
  have s3 := Src.all 1048576 t _ R hs hwt
  have s4 : CellsOk [c0, c1, c2, c3] 1 1048576 := srcRow_cells 1048576 [t] _ R hsr (by simp [wts, Tm.wt.wts]; omega)
  have hR : ∀ r ∈ R, r.1 ∈ F := fun r hr => hsub.subset (List.mem_map_of_mem hr)
  have hz : ∀ z ∈ osl.ownBlock.toList, osl.ownBlock = some z := fun z hz => by simpa using hz
  refine ⟨⟨?_, ?_, ?_, ?_, ?_, ?_, ?_, hk.dp, ?_, hT⟩, ⟨Out.refl _ _, ⟨hk.gm, hk.lt _ (Or.inl rfl), hk.lt _ (Or.inr (Or.inl rfl)), fun z h => ⟨(hk.zz z (hz z h)).1, (hk.zz z (hz z h)).2, hk.lt _ (Or.inr (Or.inr (Or.inr (hz z h))))⟩⟩, fun x hx => (by cases hx), by simp, by simp, fun x hx => (by cases hx), fun z h => Or.inr (by simpa using h), fun p hp => (by cases hp), fun x hx => (by cases hx), by simpa using hk.cop, by simpa using hk.map, by simpa using hk.stack⟩, hown, hsr⟩
  · rw [List.map_cons, List.nodup_cons]
    refine ⟨fun h => ?_, hsub.nodup hnd⟩
    have := (hF _ (hsub.subset h)).2.2.1
    simp at this
  · intro r hr
    rcases List.mem_cons.1 hr with rfl | hr
    · exact ⟨1, hown⟩
    · exact s1 r hr
  · intro r hr
    rcases List.mem_cons.1 hr with rfl | hr
    · exact ⟨hb.1, hb.2.1, fun h => hb.2.2.1 (hz _ h)⟩
    · have h1 := hF _ (hR r hr)
      exact ⟨h1.1, h1.2.1, fun h => h1.2.2.2.1 (hz _ h)⟩
  · intro r hr
    rcases List.mem_cons.1 hr with rfl | hr
    · exact s4
    · exact (s3 r hr).1
  · simp only [List.map_cons, List.sum_cons]; omega
  · intro r hr
    rcases List.mem_cons.1 hr with rfl | hr
    · show 0 < 1; omega
    · exact (s3 r hr).2
  · intro r hr
    rcases List.mem_cons.1 hr with rfl | hr
    · exact hb.2.2.2
    · exact (hF _ (hR r hr)).2.2.2.2
  · exact fun d hd => ⟨(hk.dk d hd).1, (hk.dk d hd).2.1, fun h => (hk.dk d hd).2.2 (hz _ h)⟩

/-- at the end: the copier between two terms again -/
theorem kop_end {w0 w : World} {R0 : List Row} {T0 : Nat} {D0 Z : List Nat} {gc m : Nat} {osl : Value} {C : List (Ent × Nat)} (h : Kop w0 R0 T0 D0 Z w gc m osl C [] []) (h0 : Rows1 w0 R0 gc m T0 D0 Z) :
    KSt w gc m (T0 + (R0.map (·.2.1)).sum) ((C.map (·.1)).map (·.b) ++ D0) osl ∧ ∀ d ∈ (C.map (·.1)).map (·.b) ++ D0, d ∈ D0 ∨ d ∈ R0.map (·.1) := by
  have hns := h.ns
  simp only [List.append_nil, List.flatMap_nil, List.map_nil, List.sum_nil, Nat.add_zero] at hns
  have hbs := h.bs
  simp only [List.append_nil, List.flatMap_nil, List.map_nil] at hbs
  have hin : ∀ d ∈ (C.map (·.1)).map (·.b), d ∈ R0.map (·.1) := fun d hd => hbs.mem_iff.1 hd
  have hc := h.cop
  have hm := h.map
  simp only [List.append_nil] at hc hm
  rw [hns] at hc
  have hblk : ∀ d ∈ R0.map (·.1), ∃ cur T, w0.heap[d]? = some (.cells cur T (0, 0)) := fun d hd => by
    obtain ⟨r, hr, rfl⟩ := List.mem_map.1 hd
    obtain ⟨c, hc⟩ := h0.rin r hr
    rcases hc.2 with ⟨e, _⟩ | ⟨g, c', cur, e, _, hh, _⟩
    · cases e
    · cases e; exact ⟨cur, _, hh⟩
  have hnz : ∀ d ∈ R0.map (·.1), d ≠ gc ∧ d ≠ m ∧ d ∉ Z := fun d hd => by
    obtain ⟨r, hr, rfl⟩ := List.mem_map.1 hd
    exact h0.ne r hr
  have hall : ∀ d ∈ (C.map (·.1)).map (·.b) ++ D0, (∃ cur T, w0.heap[d]? = some (.cells cur T (0, 0))) ∧ d ≠ gc ∧ d ≠ m ∧ d ∉ Z := fun d hd => by
    rcases List.mem_append.1 hd with hd | hd
    · exact ⟨hblk d (hin d hd), hnz d (hin d hd)⟩
    · exact ⟨h0.dp d hd, h0.dk d hd⟩
  refine ⟨⟨h.gm.1, hc, hm, fun d hd => ?_, fun d hd => ?_, h.stack, fun z hz => ?_⟩, fun d hd => ?_⟩
  · obtain ⟨⟨cur, T, hh⟩, h1, h2, h3⟩ := hall d hd
    exact ⟨cur, T, (h.out.block d (Array.getElem?_eq_some_iff.1 hh).1 (by simp [h1, h2, h3])).trans hh⟩
  · obtain ⟨⟨cur, T, hh⟩, h1, h2, h3⟩ := hall d hd
    refine ⟨h1, h2, fun e => ?_⟩
    rcases h.ofr d e with h9 | h9
    · have := (Array.getElem?_eq_some_iff.1 hh).1; omega
    · exact h3 h9
  · rcases h.ofr z hz with h9 | h9
    · exact ⟨by have := h.gm.2.1; omega, by have := h.gm.2.2.1; omega⟩
    · exact ⟨(h.gm.2.2.2 z h9).1, (h.gm.2.2.2 z h9).2.1⟩
  · rcases List.mem_append.1 hd with hd | hd
    · exact Or.inr (hin d hd)
    · exact Or.inl hd
end Go.Proofs.YtmhmlkdoaojimapDoor

/- sameShape: the walk over pairs of lists. -/
import Derived.Test.YtgkchpjincmjfalShapeI
namespace Go.Proofs.Ytgkchpjincmjfal
open Go.RowKit

theorem info108 : (Try.prog.info? 75).map (fun i => (i.zero, i.size, i.bytes)) = some (some (.agg #[.slice none 0 0, .slice none 0 0]), 2, 48) := by kernel_rfl

def QN (Z : Nat → Prop) (w0 : World) (g : Nat) (R : Bool) (M : Nat) (vl : Value) (wr : World) (N : Nat) : Prop := ∃ L mo S, Inv Z w0 wr g R vl L [] mo S ∧ wgt L = N ∧ N ≤ M

set_option maxHeartbeats 8000000 in
set_option maxRecDepth 20000 in
theorem shape_any (t u : Tm) (w : World) (va vb : Value) (hA : TmZ (· < w.heap.size) w t va) (hB : TmZ (· < w.heap.size) w u vb) (hn : t.n ≤ 1099511627776) :
    Calls Try.prog 35 #[va, vb, .iface 49 (.agg #[])] w fun e w' => e = .returned (.bool (t.same u)) ∧ Below w.heap.size w w' := by
  obtain ⟨ka, sa, na, aoa, la, ca, rfl⟩ : ∃ k s n ao l c, va = .agg #[.int .i64 k, .string s, .int .i64 n, .slice ao l c] := by
    obtain ⟨k, s, n, ks⟩ := t
    unfold TmZ at hA
    obtain ⟨ao, cap, rfl, _⟩ := hA
    exact ⟨_, _, _, _, _, _, rfl⟩
  obtain ⟨kb, sb, nb, aob, lb, cb, rfl⟩ : ∃ k s n ao l c, vb = .agg #[.int .i64 k, .string s, .int .i64 n, .slice ao l c] := by
    obtain ⟨k, s, n, ks⟩ := u
    unfold TmZ at hB
    obtain ⟨ao, cap, rfl, _⟩ := hB
    exact ⟨_, _, _, _, _, _, rfl⟩
  obtain ⟨W6, hW6⟩ : ∃ W6, W6 = ((((((w.alloc (.cells #[.int .i64 ka, .string sa, .int .i64 na, .slice aoa la ca] 29)).alloc (.cells #[.int .i64 kb, .string sb, .int .i64 nb, .slice aob lb cb] 29)).alloc (.cells #[.int .i64 0, .map none] 54)).alloc (.cells #[.int .i64 ka, .string sa, .int .i64 na, .slice aoa la ca] 29)).alloc (.cells #[.int .i64 kb, .string sb, .int .i64 nb, .slice aob lb cb] 29)).alloc (.cells #[.slice (some ⟨w.heap.size + 1 + 1 + 1, 0, none⟩) 1 1, .slice (some ⟨w.heap.size + 1 + 1 + 1 + 1, 0, none⟩) 1 1] 75)) := ⟨_, rfl⟩
  obtain ⟨h0, hb6, hs6⟩ := shape_start t u w ka na kb nb sa sb aoa aob la ca lb cb hA hB W6 hW6
  obtain ⟨R, hR⟩ : ∃ R, R = t.same u := ⟨_, rfl⟩
  rw [← hR] at h0 ⊢
  have hq0 : QN (zoneOf w.heap.size) W6 (w.heap.size + 1 + 1) R (1 + t.n) (.slice (some ⟨w.heap.size + 1 + 1 + 1 + 1 + 1, 0, none⟩) 1 1) W6 (1 + t.n) := ⟨_, _, _, h0, by rw [wgt_one]; simp [ns, Tm.n.ns], Nat.le_refl _⟩
  obtain ⟨M, hM⟩ : ∃ M, M = 1 + t.n := ⟨_, rfl⟩
  rw [← hM] at hq0
  have hMb : M ≤ 1099511627777 := by omega
  have HZ : Hid (∀ k, zoneOf w.heap.size k → k < W6.heap.size) := fun k hk => by unfold zoneOf at hk; omega
  have HZG : Hid (¬ zoneOf w.heap.size (w.heap.size + 1 + 1)) := fun h => by unfold zoneOf at h; omega
  have HQ0 : Hid _ := hq0
  have HB6 : Hid _ := hb6
  have HBZ : Hid (∀ wr vl L D mo S, Inv (zoneOf w.heap.size) W6 wr (w.heap.size + 1 + 1) R vl L D mo S → Below w.heap.size w wr) := fun wr vl L D mo S h =>
    ⟨h.mem.os.trans hb6.os, h.mem.tape.trans hb6.tape, h.mem.output.trans hb6.output, Nat.le_trans hb6.size h.mem.size, fun k hk => (h.mem.zone k (Or.inl hk)).trans (hb6.block k hk)⟩
  clear hA hB h0 hq0 hb6 hR hM hn
  go_enter Try.func35, Try.ntmps35
  go_wp2
  rw [← hW6]
  clear hW6
  generalize hgg : w.heap.size + 1 + 1 = g at *
  obtain ⟨Z, hZ⟩ : ∃ Z, Z = zoneOf w.heap.size := ⟨_, rfl⟩
  rw [← hZ] at HZ HZG HQ0 HBZ
  clear hZ
  go_loopw [8] (fun vl wr => ∃ ao n cap, vl = .slice ao n cap ∧ Hid (∃ N, QN Z W6 g R M vl wr N)) (fun vl wr => least (QN Z W6 g R M vl wr))
  case atStart => exact ⟨_, _, _, rfl, _, HQ0.out⟩
  case round =>
    obtain ⟨ao, nl, cap, rfl, hrel⟩ := hrel
    obtain ⟨L, mo, S, hI, hN, hNM⟩ := least_is hrel.out
    obtain ⟨cs, hrow, hcs⟩ := hI.mem.row
    have hnl : nl = L.length := by
      rcases hrow.2 with ⟨e, h⟩ | ⟨b, c, cur, e, _⟩
      · cases e; exact h.symm
      · cases e; rfl
    subst hnl
    by_cases hL : 0 < L.length
    · obtain ⟨Lr, p, rfl⟩ := snoc_of L hL
      obtain ⟨va, vb, hva, hvb, hra, hrb, hll⟩ := hcs.2 Lr.length (by simp)
      have hget : (Lr ++ [p])[Lr.length]'(by simp) = p := by simp
      rw [hget] at hra hrb hll
      obtain ⟨p1, p2⟩ := p
      obtain ⟨aoA, cA, rfl, hlA, hmA, hrA⟩ := hra
      obtain ⟨aoB, cB, rfl, hlB, hmB, hrB⟩ := hrb
      rcases hrow.2 with ⟨_, h⟩ | ⟨b, cap', cur, e, hz0, hblk, hnc, hcm, hsz, htk⟩
      · simp at h
      cases e
      have hlen : (Lr ++ [(p1, p2)]).length = Lr.length + 1 := by simp
      rw [hlen] at hnc htk
      have hcur : ∀ i, i < 2 → cur[Lr.length * 2 + i]? = cs[Lr.length * 2 + i]? := fun i hi => by
        rw [← htk, List.getElem?_take_of_lt (by omega)]; simp
      have d0 : wr.cell? ⟨b, Lr.length * 2, none⟩ = some (.slice aoA p1.length cA) := by
        have := hcur 0 (by omega)
        unfold World.cell?; rw [hblk]
        show cur[Lr.length * 2]? = _
        rw [← hva]; simpa using this
      have d1 : wr.cell? ⟨b, Lr.length * 2 + 1, none⟩ = some (.slice aoB p2.length cB) := by
        have := hcur 1 (by omega)
        unfold World.cell?; rw [hblk]
        show cur[Lr.length * 2 + 1]? = _
        rw [← hvb]; exact this
      have hll' : p2.length = p1.length := hll
      have HLL : Hid _ := hll'
      rw [hll'] at d1 hlB
      obtain ⟨W1, hW1⟩ : ∃ W1, W1 = wr.alloc (.cells #[.slice aoA p1.length cA, .slice aoB p1.length cB] 75) := ⟨_, rfl⟩
      unfold maxLen at hmA hmB hcm
      have hb1 : Below wr.heap.size wr W1 := by rw [hW1]; exact (Below.refl _ _).alloc (Nat.le_refl _) _
      have hblkb : b < wr.heap.size := (Array.getElem?_eq_some_iff.1 hblk).1
      have HNB : Hid (wgt Lr + ns p1 < least (QN Z W6 g R M (.slice (some ⟨b, 0, none⟩) (Lr ++ [(p1, p2)]).length cap) wr) ∧ wgt Lr + ns p1 ≤ M) := by
        rw [wgt_append, wgt_one] at hN
        change wgt Lr + (1 + ns p1) = _ at hN
        rw [← hN] at hNM ⊢
        exact ⟨by omega, by omega⟩
      have hgl : g < wr.heap.size := by obtain ⟨⟨u', _, h2⟩, _⟩ := hI.mem.met; exact (Array.getElem?_eq_some_iff.1 h2).1
      have hml : mo ≠ some wr.heap.size := fun e => by
        obtain ⟨_, h3⟩ := hI.mem.met
        obtain ⟨_, es, clock, h5, _⟩ := h3 _ e
        have := (Array.getElem?_eq_some_iff.1 h5).1
        omega
      have HI1 : Hid (∃ L mo S, Inv Z W6 W1 g R (.slice (some ⟨b, 0, none⟩) Lr.length cap) L ((p1.zip p2).drop 0) mo S ∧ wgt L + ns (p1.drop 0) ≤ wgt Lr + ns p1 ∧ W1.heap[wr.heap.size]? = some (.cells #[.slice aoA p1.length cA, .slice aoB p1.length cB] 75 (0, 0)) ∧ wr.heap.size ≠ g ∧ mo ≠ some wr.heap.size ∧ Value.ownBlock (.slice (some ⟨b, 0, none⟩) Lr.length cap) ≠ some wr.heap.size) := by
        refine ⟨Lr, mo, S, ?_, by simp, by rw [hW1]; exact alloc_here _ _ rfl, by omega, hml, by simp [Value.ownBlock]; omega⟩
        have h1 := hI.below HZ.out hb1
        refine ⟨⟨h1.mem.os, h1.mem.tape, h1.mem.output, h1.mem.size, h1.mem.zone, ⟨cs.take (Lr.length * 2), ⟨?_, Or.inr ⟨b, cap, cur, rfl, Nat.zero_le _, (hb1.block b hblkb).trans hblk, by omega, hcm, hsz, ?_⟩⟩, ?_⟩, h1.mem.met, ?_, ?_, h1.mem.mz, h1.mem.keys⟩, ?_, ?_⟩
        · have := hcs.1
          rw [List.length_take, this, hlen]; omega
        · rw [← htk, List.take_take]; congr 1; omega
        · have hc1 := hcs.1
          refine ⟨by rw [List.length_take, hc1, hlen]; omega, fun i hi => ?_⟩
          obtain ⟨x1, x2, e1, e2, e3⟩ := hcs.2 i (by rw [hlen]; omega)
          rw [List.getElem_append_left hi] at e3
          exact ⟨x1, x2, by rw [List.getElem?_take_of_lt (by omega)]; exact e1, by rw [List.getElem?_take_of_lt (by omega)]; exact e2, e3⟩
        · exact h1.mem.vg
        · exact h1.mem.vz
        · have := h1.sem
          rwa [pend_append, pend_one, List.append_nil] at this
        · have := h1.marks
          rwa [pend_append, pend_one, List.append_nil] at this
      rw [hlen]
      rw [hlen] at HNB
      clear hcur hblk htk hrow hcs hva hvb hI hget hll hz0 hll' hN hNM hgl hml hblkb hb1 hrel hlen
      obtain ⟨NB, hNB⟩ : ∃ NB, NB = wgt Lr + ns p1 := ⟨_, rfl⟩
      rw [← hNB] at HI1 HNB
      clear hNB
      go_wp2
      rw [← hW1]
      clear hW1 d0 d1
      generalize wr.heap.size = lastb at *
      go_loopw [8, 37] (fun vl vi wr => ∃ ao n cap2 i, vl = .slice ao n cap2 ∧ vi = .int .i64 ((i : Nat) : Int) ∧ i ≤ p1.length ∧ Hid (∃ L mo S, Inv Z W6 wr g R vl L ((p1.zip p2).drop i) mo S ∧ wgt L + ns (p1.drop i) ≤ NB ∧ wr.heap[lastb]? = some (.cells #[.slice aoA p1.length cA, .slice aoB p1.length cB] 75 (0, 0)) ∧ lastb ≠ g ∧ mo ≠ some lastb ∧ vl.ownBlock ≠ some lastb)) (fun _ i _ => p1.length - (intOf i).toNat)
      case atStart => exact ⟨_, _, _, 0, rfl, rfl, by omega, HI1.out⟩
      case round =>
        obtain ⟨aoL, nL, capL, i, rfl, rfl, hi, hrel⟩ := hrel
        obtain ⟨L, mo, S, hI, hW, hlb, hlg, hlm, hlv⟩ := hrel.out
        by_cases hlt : i < p1.length
        · have hlt2 : i < p2.length := by rw [HLL.out]; exact hlt
          obtain ⟨b1, off1, rfl, hz1, hp1, hin1⟩ := hrA (by intro e; subst e; simp at hlt)
          obtain ⟨b2, off2, rfl, hz2, hp2, hin2⟩ := hrB (by intro e; subst e; simp at hlt2)
          obtain ⟨c0, c1, c2, c3, h0, h1, h2, h3, ht⟩ := hin1.at i hlt
          obtain ⟨e0, e1, e2, e3, g0, g1, g2, g3, gt⟩ := hin2.at i hlt2
          obtain ⟨x, hx⟩ : ∃ x, x = p1[i] := ⟨_, rfl⟩
          obtain ⟨y, hy⟩ : ∃ y, y = p2[i] := ⟨_, rfl⟩
          rw [← hx] at ht
          rw [← hy] at gt
          obtain ⟨kx, sx, nx, xs⟩ := x
          obtain ⟨ky, sy, ny, ys⟩ := y
          unfold TmZ at ht gt
          obtain ⟨aox, capx, hex, _, _, _, hlx, hmx, hrx⟩ := ht
          obtain ⟨aoy, capy, hey, _, _, _, hly, hmy, hry⟩ := gt
          obtain ⟨rfl, rfl, rfl, rfl⟩ : c0 = .int .i64 kx ∧ c1 = .string sx ∧ c2 = .int .i64 nx ∧ c3 = .slice aox xs.length capx := by simpa using hex
          obtain ⟨rfl, rfl, rfl, rfl⟩ : e0 = .int .i64 ky ∧ e1 = .string sy ∧ e2 = .int .i64 ny ∧ e3 = .slice aoy ys.length capy := by simpa using hey
          clear hex hey
          replace h0 := cell_turn h0 (hI.mem.zone b1 hz1)
          replace h1 := cell_turn h1 (hI.mem.zone b1 hz1)
          replace h2 := cell_turn h2 (hI.mem.zone b1 hz1)
          replace h3 := cell_turn h3 (hI.mem.zone b1 hz1)
          obtain ⟨A1, hA1⟩ : ∃ A1, A1 = wr.alloc (.cells #[.int .i64 kx, .string sx, .int .i64 nx, .slice aox xs.length capx] 29) := ⟨_, rfl⟩
          have hbA1 : Below wr.heap.size wr A1 := by rw [hA1]; exact (Below.refl _ _).alloc (Nat.le_refl _) _
          replace g0 := cell_keep (cell_turn g0 (hI.mem.zone b2 hz2)) hbA1
          replace g1 := cell_keep (cell_turn g1 (hI.mem.zone b2 hz2)) hbA1
          replace g2 := cell_keep (cell_turn g2 (hI.mem.zone b2 hz2)) hbA1
          replace g3 := cell_keep (cell_turn g3 (hI.mem.zone b2 hz2)) hbA1
          have l1 : A1.cell? ⟨lastb, 1, none⟩ = some (.slice (some ⟨b2, off2, none⟩) p1.length cB) := cell_keep (blk_cell (i := 1) hlb (by simp)) hbA1
          obtain ⟨A2, hA2⟩ : ∃ A2, A2 = A1.alloc (.cells #[.int .i64 ky, .string sy, .int .i64 ny, .slice aoy ys.length capy] 29) := ⟨_, rfl⟩
          have hsA : A2.heap.size = wr.heap.size + 2 := by rw [hA2, hA1]; simp
          have hbA2 : Below wr.heap.size wr A2 := by rw [hA2, hA1]; exact ((Below.refl _ _).alloc (Nat.le_refl _) _).alloc (by simp) _
          have hkx : ∀ w3, Below A2.heap.size A2 w3 → w3.cell? ⟨wr.heap.size, 3, none⟩ = some (.slice aox xs.length capx) ∧ w3.cell? ⟨wr.heap.size + 1, 3, none⟩ = some (.slice aoy ys.length capy) := fun w3 hb =>
            ⟨cell_keep (w := A2) (by rw [hA2, hA1]; simp) hb, cell_keep (w := A2) (by rw [hA2, hA1]; simp) hb⟩
          have HKX : Hid _ := hkx
          have hml : ys.length ≤ maxLen := by omega
          have HSB : Hid _ := sameBut_any kx sx nx aox xs.length capx ky sy ny aoy ys.length capy hml
          have hzd := zip_drop hlt hlt2
          rw [← hx, ← hy] at hzd
          rw [hzd] at hI
          have hnd : ns (p1.drop i) = (1 + ns xs) + ns (p1.drop (i + 1)) := by
            rw [List.drop_eq_getElem_cons hlt, show ∀ (a : Tm) l, ns (a :: l) = a.n + ns l from fun a l => by simp [ns, Tm.n.ns], ← hx, n_mk]
          rw [hnd] at hW
          have hgw := hI.mem.met.lt g (by simp [metF])
          have hmw : ∀ m, mo = some m → m < wr.heap.size := fun m e => hI.mem.met.lt m (by simp [metF, e])
          have hlbw : lastb < wr.heap.size := (Array.getElem?_eq_some_iff.1 hlb).1
          cases hhd : headEq kx sx nx xs.length ky sy ny ys.length with
          | false =>
            have HRF : Hid (R = false) := by
              show R = false
              cases hRR : R with
              | false => rfl
              | true =>
                have := hI.sem.1 hRR (Tm.mk kx sx nx xs, Tm.mk ky sy ny ys) (by simp)
                unfold same2 at this
                rw [head_other hhd] at this
                cases this
            have HBR : Hid _ := HBZ.out _ _ _ _ _ _ (hI.below HZ.out hbA2)
            rw [hhd] at HSB
            replace HSB : Hid _ := HSB
            rw [hA1] at g0 g1 g2 g3 l1
            clear hI hW hlb hlg hlm hlv hrel hkx HKX hin1 hin2 hp1 hp2 hrx hry hx hy hzd hnd hmw hrA hrB HI1 HNB HZ HZG HQ0 HBZ hhd
            go_wp2_with (go_at_call 46; refine (Calls.mono (HSB.out _) ?_); rintro e w3 ⟨rfl, hb⟩; rw [← hA1, ← hA2] at hb; have HB3 : Hid (Below w.heap.size w w3) := HBR.out.trans (hb.mono HBR.out.size); clear hb)
            go_ret
            exact ⟨by rw [HRF.out]; rfl, HB3.out⟩
          | true =>
            have hyl : ys.length = xs.length := by
              unfold headEq at hhd
              simp only [Bool.and_eq_true, decide_eq_true_eq] at hhd
              exact hhd.2.symm
            have hhs := head_same hhd
            rw [hhd] at HSB
            replace HSB : Hid _ := HSB
            have hI2 := hI.below HZ.out hbA2
            by_cases hpos : 0 < xs.length
            · obtain ⟨bx, offx, rfl, hzx, hpx, hinx⟩ := hrx (by intro e; subst e; simp at hpos)
              obtain ⟨by_, offy, rfl, hzy, hpy, hiny⟩ := hry (by intro e; subst e; simp at hyl; omega)
              have hposy : 0 < ys.length := by omega
              have hpbz : ∀ w3, Below A2.heap.size A2 w3 → ∀ x : Addr, Z x.block → PB W6 x → PB w3.drew x := fun w3 hb x hx ⟨c, T, h⟩ => ⟨c, T, ((hI2.mem.below HZ.out hb.drew).zone _ hx).trans h⟩
              have HGO : Hid (∀ w3, Below A2.heap.size A2 w3 → Calls Try.prog 39 #[.pointer (some ⟨g, 0, none⟩), .agg #[.pointer (some ⟨bx, offx, none⟩), .pointer (some ⟨by_, offy, none⟩), .int .i64 (xs.length : Int)]] w3.drew fun e w' =>
                  ∃ r mo', e = .returned (.bool r) ∧ MetAt w' g mo' (((⟨bx, offx, none⟩ : Addr), (⟨by_, offy, none⟩ : Addr), (xs.length : Int)) :: S) ∧ (r = false → ((⟨bx, offx, none⟩ : Addr), (⟨by_, offy, none⟩ : Addr), (xs.length : Int)) ∈ S) ∧ Out (metF g mo) w3.drew w' ∧ (mo' = mo ∨ ∃ m, mo' = some m ∧ w3.drew.heap.size ≤ m)) := fun w3 hb =>
                go_into w3.drew g mo S (hI2.mem.below HZ.out hb.drew).met _ _ _ (hpbz w3 hb _ hzx hpx) (hpbz w3 hb _ hzy hpy) (fun x hx => by
                  obtain ⟨k1, k2, k3, k4⟩ := hI2.mem.keys x hx
                  exact ⟨hpbz w3 hb _ k1 k3, hpbz w3 hb _ k2 k4⟩) (fun e => HZG.out (by rw [← e]; exact hzx)) (fun e => HZG.out (by rw [← e]; exact hzy))
              have hlf : lastb ∉ metF g mo := fun h => by
                simp only [metF, List.mem_cons] at h
                rcases h with h | h
                · exact hlg h
                · cases mo with
                  | none => cases h
                  | some m => simp at h; exact hlm (by rw [h])
              have HMEM : Hid (∀ w3, Below A2.heap.size A2 w3 → ∀ w4 mo', MetAt w4 g mo' (((⟨bx, offx, none⟩ : Addr), (⟨by_, offy, none⟩ : Addr), (xs.length : Int)) :: S) → Out (metF g mo) w3.drew w4 → (mo' = mo ∨ ∃ m, mo' = some m ∧ w3.drew.heap.size ≤ m) → MemI Z W6 w4 g (.slice aoL nL capL) L mo' (((⟨bx, offx, none⟩ : Addr), (⟨by_, offy, none⟩ : Addr), (xs.length : Int)) :: S) ∧ w4.heap[lastb]? = some (.cells #[.slice (some ⟨b1, off1, none⟩) p1.length cA, .slice (some ⟨b2, off2, none⟩) p1.length cB] 75 (0, 0)) ∧ mo' ≠ some lastb) := fun w3 hb w4 mo' hmet ho hmo => by
                refine ⟨(hI2.mem.below HZ.out hb.drew).into HZ.out HZG.out ho hmet hmo ⟨hzx, hzy, hpx, hpy⟩, ?_, ?_⟩
                · have hs3 := hb.drew.size
                  exact (ho.block lastb (by omega) hlf).trans ((hb.drew.block lastb (by omega)).trans ((hbA2.block lastb hlbw).trans hlb))
                · rcases hmo with rfl | ⟨m, rfl, hm⟩
                  · exact hlm
                  · intro e; cases e; have := hb.drew.size; omega
              have HFALSE : Hid (∀ w3, Below A2.heap.size A2 w3 → ∀ W' mo', MetAt W' g mo' (((⟨bx, offx, none⟩ : Addr), (⟨by_, offy, none⟩ : Addr), (xs.length : Int)) :: S) → ((⟨bx, offx, none⟩ : Addr), (⟨by_, offy, none⟩ : Addr), (xs.length : Int)) ∈ S → Out (metF g mo) w3.drew W' → (mo' = mo ∨ ∃ m, mo' = some m ∧ w3.drew.heap.size ≤ m) → ∃ L mo S, Inv Z W6 W' g R (.slice aoL nL capL) L ((p1.zip p2).drop (i + 1)) mo S ∧ wgt L + ns (p1.drop (i + 1)) ≤ NB ∧ W'.heap[lastb]? = some (.cells #[.slice (some ⟨b1, off1, none⟩) p1.length cA, .slice (some ⟨b2, off2, none⟩) p1.length cB] 75 (0, 0)) ∧ lastb ≠ g ∧ mo ≠ some lastb ∧ Value.ownBlock (.slice aoL nL capL) ≠ some lastb) := fun w3 hb W' mo' hmet hkey ho hmo => by
                obtain ⟨m1, m2, m3⟩ := HMEM.out w3 hb W' mo' hmet ho hmo
                obtain ⟨s1, s2⟩ := sem_skip hI2.sem hI2.marks hhs (fun h => hI2.marks _ _ _ hkey xs ys hinx hiny rfl hyl fun q hq hle => by
                  simp only [List.mem_append, List.mem_cons] at hq
                  rcases hq with hq | rfl | hq
                  · exact h q (by simp [hq]) hle
                  · simp only [n_mk] at hle; omega
                  · exact h q (by simp [hq]) hle)
                refine ⟨L, mo', _, ⟨m1, s1, fun a' b' n' hab => ?_⟩, by omega, m2, hlg, m3, hlv⟩
                rcases List.mem_cons.1 hab with e | hab
                · rw [← e] at hkey; exact s2 a' b' n' hkey
                · exact s2 a' b' n' hab
              have HTRUE : Hid (∀ w4 w5 v' mo' cs, MemI Z W6 w4 g (.slice aoL nL capL) L mo' (((⟨bx, offx, none⟩ : Addr), (⟨by_, offy, none⟩ : Addr), (xs.length : Int)) :: S) → w4.heap[lastb]? = some (.cells #[.slice (some ⟨b1, off1, none⟩) p1.length cA, .slice (some ⟨b2, off2, none⟩) p1.length cB] 75 (0, 0)) → mo' ≠ some lastb → CellsAt Z W6 L cs → w5.ownsRow 0 75 2 v' (L.length + 1) (cs ++ [.slice (some ⟨bx, offx, none⟩) xs.length capx, .slice (some ⟨by_, offy, none⟩) ys.length capy]) → w4.grownBy w5 (Value.ownBlock (.slice aoL nL capL)) → (v'.ownBlock = Value.ownBlock (.slice aoL nL capL) ∨ v'.ownBlock = some w4.heap.size) → ∀ W', W' = w5 → ∃ L mo S, Inv Z W6 W' g R v' L ((p1.zip p2).drop (i + 1)) mo S ∧ wgt L + ns (p1.drop (i + 1)) ≤ NB ∧ W'.heap[lastb]? = some (.cells #[.slice (some ⟨b1, off1, none⟩) p1.length cA, .slice (some ⟨b2, off2, none⟩) p1.length cB] 75 (0, 0)) ∧ lastb ≠ g ∧ mo ≠ some lastb ∧ Value.ownBlock v' ≠ some lastb) := fun w4 w5 v' mo' cs m1 m2 m3 hcs hr hg hat W' hW' => by
                subst hW'
                have mem5 := m1.push HZ.out hcs (xs := xs) (ys := ys) ⟨_, _, rfl, hlx, hmx, fun _ => ⟨bx, offx, rfl, hzx, hpx, hinx⟩⟩ ⟨_, _, rfl, hly, hmy, fun _ => ⟨by_, offy, rfl, hzy, hpy, hiny⟩⟩ hyl hr hg hat
                have hl4 : lastb < w4.heap.size := (Array.getElem?_eq_some_iff.1 m2).1
                obtain ⟨s1, s2⟩ := sem_push (a := ⟨bx, offx, none⟩) (b := ⟨by_, offy, none⟩) hI2.sem hI2.marks hhs hinx hiny hyl
                refine ⟨L ++ [(xs, ys)], mo', _, ⟨mem5, s1, s2⟩, ?_, (hg.block lastb hl4 (fun e => hlv e.symm)).trans m2, hlg, m3, ?_⟩
                · rw [wgt_append, wgt_one]
                  change wgt L + (1 + ns xs) + _ ≤ _
                  omega
                · rcases hat with e | e <;> rw [e]
                  · exact hlv
                  · intro e'; injection e' with e'; omega
              have hLb : L.length ≤ 1099511627777 := by have := len_le_wgt L; have := HNB.out.2; omega
              have HCX : Hid (∀ w3, Below A2.heap.size A2 w3 → ∀ w4, Out (metF g mo) w3.drew w4 → w4.cell? ⟨wr.heap.size, 3, none⟩ = some (.slice (some ⟨bx, offx, none⟩) xs.length capx) ∧ w4.cell? ⟨wr.heap.size + 1, 3, none⟩ = some (.slice (some ⟨by_, offy, none⟩) ys.length capy)) := fun w3 hb w4 ho => by
                obtain ⟨k1, k2⟩ := hkx w3.drew hb.drew
                have hs3 := hb.drew.size
                have hnf : ∀ k, wr.heap.size ≤ k → k ∉ metF g mo := fun k hk h => by
                  have := hI.mem.met.lt k h; omega
                exact ⟨cell_turn k1 (ho.block _ (by show wr.heap.size < _; omega) (hnf _ (Nat.le_refl _))), cell_turn k2 (ho.block _ (by show wr.heap.size + 1 < _; omega) (hnf _ (by show _ ≤ wr.heap.size + 1; omega)))⟩
              have HKD : Hid (∀ w3, Below A2.heap.size A2 w3 → w3.drew.cell? ⟨wr.heap.size, 3, none⟩ = some (.slice (some ⟨bx, offx, none⟩) xs.length capx) ∧ w3.drew.cell? ⟨wr.heap.size + 1, 3, none⟩ = some (.slice (some ⟨by_, offy, none⟩) ys.length capy)) := fun w3 hb => hkx w3.drew hb.drew
              rw [hA1] at g0 g1 g2 g3 l1
              clear hI hI2 hW hlb hlg hlm hlv hrel hin1 hin2 hp1 hp2 hx hy hzd hnd hmw hrA hrB HI1 HNB HZG HQ0 HBZ hhd hhs hkx hpbz hinx hiny hpx hpy hzx hzy hlf hrx hry hyl
              go_wp2_with (go_at_call 46; refine (Calls.mono (HSB.out _) ?_); rintro e w3 ⟨rfl, hb⟩; rw [← hA1, ← hA2] at hb; have HB3 : Hid (Below A2.heap.size A2 w3) := hb; obtain ⟨r1, r2⟩ := HKX.out w3 hb; obtain ⟨t1, t2⟩ := HKD.out w3 hb; clear hb)
              go_region_with (go_at_call 39; refine (Calls.mono (HGO.out w3 HB3.out) ?_); rintro e w4 ⟨r, mo', rfl, hmet, hr0, ho, hmo⟩; have HME : Hid _ := hmet; have HR0 : Hid _ := hr0; have HOU : Hid _ := ho; have HMO : Hid _ := hmo; clear hmet hr0 ho hmo)
              all_goals
                cases r with
                | false =>
                  go_wp2
                  go_roundw
                  case rel => exact ⟨_, _, _, i + 1, rfl, by go_num, by omega, HFALSE.out w3 HB3.out _ mo' HME.out (HR0.out rfl) HOU.out HMO.out⟩
                  case measure => simp [intOf]; omega
                | true =>
                  obtain ⟨u1, u2⟩ := HCX.out w3 HB3.out w4 HOU.out
                  obtain ⟨m1, m2, m3⟩ := HMEM.out w3 HB3.out w4 mo' HME.out HOU.out HMO.out
                  obtain ⟨cs, hrow4, hcs4⟩ := m1.row
                  obtain ⟨B1, hB1⟩ : ∃ B1, B1 = w4.alloc (.cells #[.slice (some ⟨bx, offx, none⟩) xs.length capx, .slice (some ⟨by_, offy, none⟩) ys.length capy] 75) := ⟨_, rfl⟩
                  have hbB : Below w4.heap.size w4 B1 := by rw [hB1]; exact (Below.refl _ _).alloc (Nat.le_refl _) _
                  have HM1 : Hid _ := m1.below HZ.out hbB
                  have HM2 : Hid _ := (hbB.block lastb (Array.getElem?_eq_some_iff.1 m2).1).trans m2
                  have HM3 : Hid _ := m3
                  have HCS : Hid _ := hcs4
                  have hown := row_turn (w' := B1) hrow4 (fun b e => hbB.block b (row_lt hrow4 e))
                  rw [hB1] at hown
                  have HOWN : Hid _ := hown
                  obtain ⟨i0, hi, hz0, hz1, hz2⟩ := info_parts info108
                  clear m1 m2 m3 hcs4 hown hrow4 r1 r2 t1 t2 hbB
                  go_wp2_with (at_builtin; refine wpList_append_own_at _ rfl _ _ 76 rfl 0 75 i0 (.agg #[.slice none 0 0, .slice none 0 0]) 2 48 Try.underlying76 hi hz0 hz1 hz2 rfl (by decide) _ _ _ rfl HOWN.out ⟨w4.heap.size, 0, none⟩ 1 1 [.slice (some ⟨bx, offx, none⟩) xs.length capx, .slice (some ⟨by_, offy, none⟩) ys.length capy] rfl rfl ?c1 ?c2 ?c3 ?c4 ?c5 ?_)
                  case c1 =>
                    intro j z hj
                    match j, hj with
                    | 0, hj => simp at hj; subst hj; simp [Addr.add]
                    | 1, hj => simp at hj; subst hj; simp [Addr.add]
                  case c2 => intro z hz; simp at hz; rcases hz with rfl | rfl <;> rfl
                  case c3 => unfold maxLen; omega
                  case c4 => omega
                  case c5 => omega
                  · intro v' w5 hown' hgrow _ hat
                    rw [← hB1] at hgrow
                    rw [show w4.heap.size + 1 = B1.heap.size by rw [hB1]; simp] at hat
                    have HFIN : Hid _ := HTRUE.out B1 w5 v' mo' cs HM1.out HM2.out HM3.out HCS.out hown' hgrow hat w5 rfl
                    obtain ⟨ao', cap', rfl⟩ : ∃ ao' cap', v' = .slice ao' (L.length + 1) cap' := by
                      rcases hown'.2 with ⟨_, h⟩ | ⟨_, _, _, rfl, _⟩
                      · omega
                      · exact ⟨_, _, rfl⟩
                    clear hown' hgrow hat
                    go_wp2
                    go_roundw
                    case rel => exact ⟨_, _, _, i + 1, rfl, by go_num, by omega, HFIN.out⟩
                    case measure => simp [intOf]; omega
            · have hxs : xs = [] := List.eq_nil_of_length_eq_zero (by omega)
              have HREL : Hid (∀ w3, Below A2.heap.size A2 w3 → ∀ W', W' = w3.drew → ∃ L mo S, Inv Z W6 W' g R (.slice aoL nL capL) L ((p1.zip p2).drop (i + 1)) mo S ∧ wgt L + ns (p1.drop (i + 1)) ≤ NB ∧ W'.heap[lastb]? = some (.cells #[.slice (some ⟨b1, off1, none⟩) p1.length cA, .slice (some ⟨b2, off2, none⟩) p1.length cB] 75 (0, 0)) ∧ lastb ≠ g ∧ mo ≠ some lastb ∧ Value.ownBlock (.slice aoL nL capL) ≠ some lastb) := fun w3 hb W' hW' => by
                obtain ⟨s1, s2⟩ := sem_skip hI2.sem hI2.marks hhs (fun _ => by show sames xs ys = true; rw [hxs]; exact sames_nil _)
                have hb' : Below A2.heap.size A2 W' := by rw [hW']; exact hb.drew
                exact ⟨L, mo, S, ⟨hI2.mem.below HZ.out hb', s1, s2⟩, by omega, (hb'.block lastb (by omega)).trans ((hbA2.block lastb hlbw).trans hlb), hlg, hlm, hlv⟩
              have hx0 : xs.length = 0 := by omega
              have hy0 : ys.length = 0 := by omega
              rw [hx0] at h3 hA1 HSB HKX
              rw [hy0] at g3 hA2 HSB HKX
              replace HSB : Hid _ := HSB
              replace HKX : Hid _ := HKX
              rw [hA1] at g0 g1 g2 g3 l1
              clear hI hI2 hW hlb hlg hlm hlv hrel hin1 hin2 hp1 hp2 hrx hry hx hy hzd hnd hmw hrA hrB HI1 HNB HZ HZG HQ0 HBZ hhd hhs hkx hxs hx0 hy0 hyl hpos hlx hly hml
              go_wp2_with (go_at_call 46; refine (Calls.mono (HSB.out _) ?_); rintro e w3 ⟨rfl, hb⟩; rw [← hA1, ← hA2] at hb; have HB3 : Hid (Below A2.heap.size A2 w3) := hb; obtain ⟨r1, r2⟩ := HKX.out w3 hb; clear hb)
              go_region
              go_wp2
              go_roundw
              case rel => exact ⟨_, _, _, i + 1, rfl, by go_num, by omega, HREL.out w3 HB3.out _ rfl⟩
              case measure => simp [intOf]; omega
        · have HE : Hid (∃ N, QN Z W6 g R M (.slice aoL nL capL) wr N ∧ N ≤ NB) := by
            rw [List.drop_eq_nil_of_le (by rw [List.length_zip]; omega)] at hI
            exact ⟨wgt L, ⟨L, mo, S, hI, rfl, by have := HNB.out.2; omega⟩, by omega⟩
          clear hI hW hlb hlg hlm hlv hrel hrA hrB HI1 HZ HZG HQ0 HBZ
          go_wp2
          go_roundw
          case rel =>
            obtain ⟨N, hN, _⟩ := HE.out
            exact ⟨_, _, _, rfl, N, hN⟩
          case measure =>
            obtain ⟨N, hN, hle⟩ := HE.out
            have h1 := least_le hN
            have h2 := HNB.out.1
            omega
    · have hL0 : L = [] := List.eq_nil_of_length_eq_zero (by omega)
      subst hL0
      have HT : Hid (R = true) := hI.sem.2 (by simp [pend])
      have HBR : Hid _ := HBZ.out _ _ _ _ _ _ hI
      clear hrow hcs hN hNM hrel hI
      go_wp2
      go_ret
      exact ⟨by rw [HT.out]; rfl, HBR.out⟩

theorem implSame (t u : Tm) (w : World) (va vb : Value) (hA : TmZ (· < w.heap.size) w t va) (hB : TmZ (· < w.heap.size) w u vb) (hn : t.n ≤ 1099511627776) :
    Calls Try.prog 17 #[va, vb] w fun e w' => e = .returned (.bool (t.same u)) ∧ Below w.heap.size w w' := by
  obtain ⟨ka, sa, na, aoa, la, ca, rfl⟩ : ∃ k s n ao l c, va = .agg #[.int .i64 k, .string s, .int .i64 n, .slice ao l c] := by
    obtain ⟨k, s, n, ks⟩ := t
    unfold TmZ at hA
    obtain ⟨ao, cap, rfl, _⟩ := hA
    exact ⟨_, _, _, _, _, _, rfl⟩
  obtain ⟨kb, sb, nb, aob, lb, cb, rfl⟩ : ∃ k s n ao l c, vb = .agg #[.int .i64 k, .string s, .int .i64 n, .slice ao l c] := by
    obtain ⟨k, s, n, ks⟩ := u
    unfold TmZ at hB
    obtain ⟨ao, cap, rfl, _⟩ := hB
    exact ⟨_, _, _, _, _, _, rfl⟩
  obtain ⟨W, hW⟩ : ∃ W, W = (w.alloc (.cells #[.int .i64 ka, .string sa, .int .i64 na, .slice aoa la ca] 29)).alloc (.cells #[.int .i64 kb, .string sb, .int .i64 nb, .slice aob lb cb] 29) := ⟨_, rfl⟩
  have hb : Below w.heap.size w W := by rw [hW]; exact ((Below.refl _ _).alloc (Nat.le_refl _) _).alloc (by simp) _
  have HC := shape_any t u W _ _ (TmZ.mono (fun k (hk : k < w.heap.size) => Nat.lt_of_lt_of_le hk hb.size) _ _ (TmZ.turn (fun k hk => hb.block k hk) _ _ hA)) (TmZ.mono (fun k (hk : k < w.heap.size) => Nat.lt_of_lt_of_le hk hb.size) _ _ (TmZ.turn (fun k hk => hb.block k hk) _ _ hB)) hn
  rw [hW] at HC
  replace HC : Hid _ := HC
  have HB : Hid _ := hb
  clear hA hB hb
  go_enter Try.func17, Try.ntmps17
  go_wp2_with (go_at_call 35; refine (Calls.mono HC.out ?_); rintro e w1 ⟨rfl, hb1⟩; rw [← hW] at hb1; have HB1 : Hid (Below w.heap.size w w1) := HB.out.trans (hb1.mono HB.out.size); clear hb1)
  go_ret
  exact ⟨rfl, HB1.out⟩
end Go.Proofs.Ytgkchpjincmjfal

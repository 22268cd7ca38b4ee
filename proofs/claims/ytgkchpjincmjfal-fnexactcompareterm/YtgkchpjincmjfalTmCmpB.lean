/- The specification's comparison of right terms. -/
import Derived.Test.YtgkchpjincmjfalTmCmp
namespace Go.Proofs.Ytgkchpjincmjfal
open Go.RowKit

set_option maxHeartbeats 2000000 in
theorem cmp_term (t : Tm) : CmpOk t := by
  refine tm_ind (p := CmpOk) ?_ t
  clear t
  intro k s n ks hks w u va vb d d' hin hin' hrt hru
  obtain ⟨k', s', n', us⟩ := u
  unfold TmIn at hin hin'
  obtain ⟨ao, ca, rfl, hk, hn, hs, hlen, hcap, hrow⟩ := hin
  obtain ⟨bo, cb, rfl, hk', hn', hs', hlen', hcap', hrow'⟩ := hin'
  obtain ⟨hkk, hkr⟩ := right_kind hrt
  obtain ⟨hkk', hkr'⟩ := right_kind hru
  unfold maxLen at *
  rw [cmp_mk]
  obtain ⟨R, hR⟩ : ∃ R, R = thenC (cmpI (rank k) (rank k')) (thenC (cmpI ks.length us.length) (thenC (cmpI n n') (thenC (cmpS s s') (cmps ks us)))) := ⟨_, rfl⟩
  rw [← hR]
  obtain ⟨W, hW⟩ : ∃ W, W = ((w.alloc (.cells #[.int .i64 k, .string s, .int .i64 n, .slice ao ks.length ca] 29)).alloc (.cells #[.int .i64 k', .string s', .int .i64 n', .slice bo us.length cb] 29)) := ⟨_, rfl⟩
  have hb0 : Below w.heap.size w W := by rw [hW]; exact ((Below.refl _ _).alloc (Nat.le_refl _) _).alloc (by simp) _
  have HA : Hid (∀ wr, Below W.heap.size W wr → wr.cell? ⟨w.heap.size, 0, none⟩ = some (.int .i64 k) ∧ wr.cell? ⟨w.heap.size, 1, none⟩ = some (.string s) ∧ wr.cell? ⟨w.heap.size, 2, none⟩ = some (.int .i64 n) ∧ wr.cell? ⟨w.heap.size, 3, none⟩ = some (.slice ao ks.length ca)) := fun wr hb =>
    ⟨cell_keep (w := W) (by rw [hW]; simp) hb, cell_keep (w := W) (by rw [hW]; simp) hb, cell_keep (w := W) (by rw [hW]; simp) hb, cell_keep (w := W) (by rw [hW]; simp) hb⟩
  have HB' : Hid (∀ wr, Below W.heap.size W wr → wr.cell? ⟨w.heap.size + 1, 0, none⟩ = some (.int .i64 k') ∧ wr.cell? ⟨w.heap.size + 1, 1, none⟩ = some (.string s') ∧ wr.cell? ⟨w.heap.size + 1, 2, none⟩ = some (.int .i64 n') ∧ wr.cell? ⟨w.heap.size + 1, 3, none⟩ = some (.slice bo us.length cb)) := fun wr hb =>
    ⟨cell_keep (w := W) (by rw [hW]; simp) hb, cell_keep (w := W) (by rw [hW]; simp) hb, cell_keep (w := W) (by rw [hW]; simp) hb, cell_keep (w := W) (by rw [hW]; simp) hb⟩
  have HRA : Hid (∀ wr, Below W.heap.size W wr → ks ≠ [] → ∃ b off, ao = some ⟨b, off, none⟩ ∧ TmsIn wr ks b off) := fun wr hb h0 => by
    obtain ⟨b, off, e, hr⟩ := hrow h0
    exact ⟨b, off, e, TmsIn.keep hb ks b off (TmsIn.keep hb0 ks b off hr)⟩
  have HRB : Hid (∀ wr, Below W.heap.size W wr → us ≠ [] → ∃ b off, bo = some ⟨b, off, none⟩ ∧ TmsIn wr us b off) := fun wr hb h0 => by
    obtain ⟨b, off, e, hr⟩ := hrow' h0
    exact ⟨b, off, e, TmsIn.keep hb us b off (TmsIn.keep hb0 us b off hr)⟩
  have HKS : Hid (∀ (t : Tm), t ∈ ks → ∀ (w : World) (u : Tm) (va vb : Value), TmIn w t va → TmIn w u vb → u ∈ us → Calls Try.prog 36 #[va, vb] w fun e w' => e = .returned (.int .i64 (t.cmp u)) ∧ Below w.heap.size w w') := fun t ht w u va vb h1 h2 hu =>
    hks t ht w u va vb (d + 1) (d' + 1) h1 h2 (hkr t ht) (hkr' u hu)
  have HI : Hid (∀ (a b : Int) (w : World), Calls Try.prog 47 #[.int .i64 a, .int .i64 b] w fun e w' => e = .returned (.int .i64 (cmpI a b)) ∧ w' = w) := specInt
  have HR : Hid (∀ (x : Int), (x = 1 ∨ x = 2 ∨ x = 3 ∨ x = 4) → ∀ (w : World), Calls Try.prog 48 #[.int .i64 x] w fun e w' => e = .returned (.int .i64 (rank x)) ∧ Below w.heap.size w w') := specRank
  have r1 : Hid _ := hkk
  have r2 : Hid _ := hkk'
  have a0 : ∀ u, (later W u).cell? ⟨w.heap.size, 0, none⟩ = some (.int .i64 k) := fun u => (HA.out _ (later_below W u)).1
  have b0 : ∀ u, (later W u).cell? ⟨w.heap.size + 1, 0, none⟩ = some (.int .i64 k') := fun u => (HB'.out _ (later_below W u)).1
  replace hb0 : Hid _ := hb0
  clear hrow hrow' hks hrt hru hkr hkr' hkk hkk'
  go_enter Try.func36, Try.ntmps36
  go_wp2
  rw [← hW]
  clear hW
  refine wp_region_later (by kernel_rfl) (by kernel_rfl) ?_
  repeat (go_big_quiet_step ((first | (go_at_call 48; refine Calls.later_of_below (HR.out _ ?_ _); first | exact r1.out | exact r2.out) | (go_at_call 47; exact Calls.later_of_same (HI.out _ _ _)))))
  refine wpQuiet_nil ?_
  rintro _ ⟨u, rfl⟩
  have HB1 : Hid (Below W.heap.size W (later W u)) := later_below W u
  generalize later W u = w1 at *
  clear a0 b0 HR r1 r2
  generalize cmpI (rank k) (rank k') = c1 at *
  by_cases h1 : c1 = 0
  · subst h1
    rw [thenC_zero] at hR
    obtain ⟨x0, x1, x2, x3⟩ := HA.out w1 HB1.out
    obtain ⟨y0, y1, y2, y3⟩ := HB'.out w1 HB1.out
    by_cases h2 : cmpI (ks.length : Int) (us.length : Int) = 0
    · rw [h2, thenC_zero] at hR
      have H4 : Hid (ks.length = us.length) := by have := cmpI_zero h2; exact Int.ofNat.inj this
      by_cases h3 : cmpI n n' = 0
      · rw [h3, thenC_zero] at hR
        have HC4 : Hid (∀ w, Calls Try.prog 49 #[.string s, .string s'] w fun e w' => e = .returned (.int .i64 (cmpS s s')) ∧ w' = w) := specText _ _
        generalize cmpS s s' = c4 at *
        have HV : Hid _ := hR
        clear hR
        go_wp2_with (first | (go_at_call 49; refine (Calls.mono (HC4.out _) ?_); rintro e w2 ⟨rfl, rfl⟩) | (go_at_call 47; refine (Calls.mono (HI.out _ _ _) ?_); rintro e w2 ⟨rfl, rfl⟩))
        clear HI HC4 x0 x1 x2 x3 y0 y1 y2 y3 h2 h3
        go_loopw [5, 6] (fun vc vi wr => Hid (Below W.heap.size W wr) ∧ ∃ (j : Nat) (c : Int), j ≤ ks.length ∧ vi = .int .i64 (j : Int) ∧ vc = .int .i64 c ∧ Hid (R = thenC c (cmps (ks.drop j) (us.drop j)))) (fun _ i _ => ks.length - (intOf i).toNat)
        case atStart => exact ⟨HB1.out, 0, c4, by omega, rfl, rfl, HV.out⟩
        case round =>
          obtain ⟨HB, j, c, hj, rfl, rfl, HL⟩ := hrel
          have c3 := (HA.out wr HB.out).2.2.2
          by_cases hlt : j < ks.length
          · by_cases hc : c = 0
            · subst hc
              have hlu : j < us.length := by rw [← H4.out]; exact hlt
              obtain ⟨b, off, rfl, hin⟩ := HRA.out wr HB.out (by intro e; subst e; simp at hlt)
              obtain ⟨b', off', rfl, hin'⟩ := HRB.out wr HB.out (by intro e; subst e; simp at hlu)
              obtain ⟨c0, c1, c2, d3, h0, h1, h2', h3, ht⟩ := hin.at j hlt
              obtain ⟨e0, e1, e2, e3, g0, g1, g2, g3, gt⟩ := hin'.at j hlu
              have HC : Hid (∀ u, Calls Try.prog 36 #[.agg #[c0, c1, c2, d3], .agg #[e0, e1, e2, e3]] (later wr u) fun e w' => e = .returned (.int .i64 (ks[j].cmp us[j])) ∧ Below (later wr u).heap.size (later wr u) w') := fun u =>
                HKS.out ks[j] (List.getElem_mem hlt) (later wr u) us[j] _ _ (TmIn.keep (later_below wr u) _ _ ht) (TmIn.keep (later_below wr u) _ _ gt) (List.getElem_mem hlu)
              have m3 : ∀ u, (later wr u).cell? ⟨w.heap.size, 3, none⟩ = some (.slice (some ⟨b, off, none⟩) ks.length ca) := fun u => cell_keep c3 (later_below wr u)
              have n3 : ∀ u, (later wr u).cell? ⟨w.heap.size + 1, 3, none⟩ = some (.slice (some ⟨b', off', none⟩) us.length cb) := fun u => cell_keep (HB'.out wr HB.out).2.2.2 (later_below wr u)
              have k0 : ∀ u, (later wr u).cell? ⟨b, off + j * 4, none⟩ = some c0 := fun u => cell_keep h0 (later_below wr u)
              have k1 : ∀ u, (later wr u).cell? ⟨b, off + j * 4 + 1, none⟩ = some c1 := fun u => cell_keep h1 (later_below wr u)
              have k2 : ∀ u, (later wr u).cell? ⟨b, off + j * 4 + 2, none⟩ = some c2 := fun u => cell_keep h2' (later_below wr u)
              have k3 : ∀ u, (later wr u).cell? ⟨b, off + j * 4 + 3, none⟩ = some d3 := fun u => cell_keep h3 (later_below wr u)
              have l0 : ∀ u, (later wr u).cell? ⟨b', off' + j * 4, none⟩ = some e0 := fun u => cell_keep g0 (later_below wr u)
              have l1 : ∀ u, (later wr u).cell? ⟨b', off' + j * 4 + 1, none⟩ = some e1 := fun u => cell_keep g1 (later_below wr u)
              have l2 : ∀ u, (later wr u).cell? ⟨b', off' + j * 4 + 2, none⟩ = some e2 := fun u => cell_keep g2 (later_below wr u)
              have l3 : ∀ u, (later wr u).cell? ⟨b', off' + j * 4 + 3, none⟩ = some e3 := fun u => cell_keep g3 (later_below wr u)
              have HL' : Hid (R = thenC (ks[j].cmp us[j]) (cmps (ks.drop (j + 1)) (us.drop (j + 1)))) := by
                have := HL.out
                rw [thenC_zero, cmps_drop hlt hlu] at this
                exact this
              clear hin hin' ht gt h0 h1 h2' h3 g0 g1 g2 g3 HRA HRB HKS HA HB' HL HV
              generalize ks[j].cmp us[j] = c' at *
              go_wp2
              refine wp_region_later (by kernel_rfl) (by kernel_rfl) ?_
              repeat (go_big_quiet_step ((go_at_call 36; exact Calls.later_of_below (HC.out _))))
              refine wpQuiet_nil ?_
              rintro _ ⟨u, rfl⟩
              have hb2 := later_below wr u
              clear k0 k1 k2 k3 l0 l1 l2 l3 m3 n3
              go_wp2
              go_roundw
              case rel => exact ⟨HB.out.trans (hb2.mono HB.out.size), j + 1, c', by omega, by go_num, rfl, HL'.out⟩
              case measure => simp [intOf]; omega
            · have hf := HL.out
              rw [thenC_ne _ hc] at hf
              have HF : Hid _ := hf
              have ec : (c == 0) = false := beq_eq_false_iff_ne.2 hc
              clear HL hf HRA HRB HKS HA HB' HV
              go_wp2
              go_ret
              exact ⟨by rw [HF.out]; rfl, hb0.out.trans (HB.out.mono hb0.out.size)⟩
          · have hf := HL.out
            rw [cmps_end hlt] at hf
            have hf2 : R = c := by
              rw [hf]
              unfold thenC
              split
              · rename_i h; exact h.symm
              · rfl
            have HF : Hid _ := hf2
            clear HL hf hf2 HRA HRB HKS HA HB' HV
            go_wp2
            go_ret
            exact ⟨by rw [HF.out]; rfl, hb0.out.trans (HB.out.mono hb0.out.size)⟩
      · rw [thenC_ne _ h3] at hR
        have e1 : (cmpI n n' == 0) = false := beq_eq_false_iff_ne.2 h3
        have HV : Hid _ := hR
        clear hR
        go_wp2_with (go_at_call 47; refine (Calls.mono (HI.out _ _ _) ?_); rintro e w2 ⟨rfl, rfl⟩)
        refine wp_loop_rounds 1 ?_
        rw [rounds_succ]
        by_cases hz : 0 < ks.length
        · go_wp2
          go_ret
          exact ⟨by rw [HV.out]; rfl, hb0.out.trans (HB1.out.mono hb0.out.size)⟩
        · go_wp2
          go_ret
          exact ⟨by rw [HV.out]; rfl, hb0.out.trans (HB1.out.mono hb0.out.size)⟩
    · rw [thenC_ne _ h2] at hR
      have e1 : (cmpI (ks.length : Int) (us.length : Int) == 0) = false := beq_eq_false_iff_ne.2 h2
      have HV : Hid _ := hR
      clear hR
      go_wp2_with (go_at_call 47; refine (Calls.mono (HI.out _ _ _) ?_); rintro e w2 ⟨rfl, rfl⟩)
      refine wp_loop_rounds 1 ?_
      rw [rounds_succ]
      by_cases hz : 0 < ks.length
      · go_wp2
        go_ret
        exact ⟨by rw [HV.out]; rfl, hb0.out.trans (HB1.out.mono hb0.out.size)⟩
      · go_wp2
        go_ret
        exact ⟨by rw [HV.out]; rfl, hb0.out.trans (HB1.out.mono hb0.out.size)⟩
  · rw [thenC_ne _ h1] at hR
    have HV : Hid _ := hR
    have e1 : (c1 == 0) = false := beq_eq_false_iff_ne.2 h1
    clear hR
    go_wp2
    go_ret
    exact ⟨by rw [HV.out]; rfl, hb0.out.trans (HB1.out.mono hb0.out.size)⟩
end Go.Proofs.Ytgkchpjincmjfal

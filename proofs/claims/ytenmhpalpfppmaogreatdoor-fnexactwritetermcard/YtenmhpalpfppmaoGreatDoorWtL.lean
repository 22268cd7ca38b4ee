/- The code's writtenStruct. -/
import Derived.Test.YtenmhpalpfppmaoGreatDoorWtK
import Derived.Test.YtenmhpalpfppmaoGreatDoorRegTail
namespace Go.Proofs.YtenmhpalpfppmaoGreatDoor
open Go.RowKit

set_option maxHeartbeats 4000000 in
set_option maxRecDepth 20000 in
theorem i_struct (s : ByteArray) (n : Int) (ks : List Tm) (IH : ∀ u : Tm, SizeOf.sizeOf u < SizeOf.sizeOf (Tm.mk 4 s n ks) → WiOk u) (w : World) (v : Value) (d : Nat) (hin : TmIn w (.mk 4 s n ks) v) (hr : (Tm.mk 4 s n ks).right d = true) (hn : (Tm.mk 4 s n ks).n ≤ 400) (hT : TabsW w) :
    Calls Tryz.prog 29 #[v] w fun e w' => e = .returned (.string ⟨(Tm.mk 4 s n ks).wr.toArray⟩) ∧ Below w.heap.size w w' := by
  have hRL := (wp_len _ d hr).1
  obtain ⟨R, eR⟩ : ∃ R, R = (Tm.mk 4 s n ks).wr := ⟨_, rfl⟩
  rw [← eR] at hRL ⊢
  have HRL : Hid (R.length ≤ 30000) := by show _ ≤ _; omega
  clear hRL
  have hk4 : s.size ≤ 20 ∧ 1 ≤ ks.length ∧ ks.length ≤ 5 := by rcases right_kinds hr with h | h | h <;> omega
  obtain ⟨hs20, hl1, hl5⟩ := hk4
  obtain ⟨ao, cap, rfl, hs, hlen, hcap, hrow⟩ := tm_open hin
  obtain ⟨NL, hNL⟩ : ∃ NL, NL = ks.length := ⟨_, rfl⟩
  have HNL : Hid (ks.length = NL) := hNL.symm
  rw [← hNL] at hl1 hl5 hlen hin ⊢
  clear hNL
  have hal := atomL_len s
  have HT : Hid (TabsW w) := hT
  have HA1 : Hid (∀ w', Below w.heap.size w w' → Calls Tryz.prog 41 #[.string s] w' fun e w2 => e = .returned (.string ⟨(atomL s).toArray⟩) ∧ Below w'.heap.size w' w2) := fun w' hb => i_atom s w' (by omega) (hT.keep hb).utf
  have HI1 : Hid (∀ w', Below w.heap.size w w' → Calls Tryz.prog 44 #[.string s] w' fun e w2 => e = .returned (.string ⟨(signL s).toArray⟩) ∧ Below w'.heap.size w' w2) := fun w' hb => i_infixText s w' hs20 (hT.keep hb)
  obtain ⟨W, hW⟩ : ∃ W, W = w.alloc (.cells #[.int .i64 4, .string s, .int .i64 n, .slice ao NL cap] 29) := ⟨_, rfl⟩
  have bW : Below w.heap.size w W := by rw [hW]; exact (Below.refl _ _).alloc (Nat.le_refl _) _
  have HKW : Hid (∀ wr, Below W.heap.size W wr → wr.heap[w.heap.size]? = some (.cells #[.int .i64 4, .string s, .int .i64 n, .slice ao NL cap] 29 (0, 0))) := fun wr hb => by
    have h0 : W.heap[w.heap.size]? = some (.cells #[.int .i64 4, .string s, .int .i64 n, .slice ao NL cap] 29 (0, 0)) := by rw [hW]; exact heap_alloc_new w _
    exact (hb.block _ (Array.getElem?_eq_some_iff.1 h0).1).trans h0
  have HBW : Hid (Below w.heap.size w W) := bW
  have HW : Hid (W = w.alloc (.cells #[.int .i64 4, .string s, .int .i64 n, .slice ao NL cap] 29)) := hW
  have HLW : Hid (w.heap.size < W.heap.size) := by show _ < _; rw [hW]; simp
  have HP : Hid (∀ wr, Calls Tryz.prog 42 #[.agg #[.int .i64 4, .string s, .int .i64 n, .slice ao NL cap]] wr fun e w' => e = .returned (.bool (isPairB 4 s NL)) ∧ Below wr.heap.size wr w') := fun wr => i_pair 4 s n ao NL cap wr (by omega)
  have HIN : Hid (∀ w, Calls Tryz.prog 39 #[.string s] w fun e w' => e = .returned (.tuple #[opV (infixP s), .bool (infixP s).isSome]) ∧ Below w.heap.size w w') := fun w => i_infix s w (by omega)
  obtain ⟨o0, o1, o2, o3, eo⟩ := opV_agg (infixP s)
  rw [eo] at HIN
  clear eo hT
  cases hpr : isPairB 4 s NL with
  | true =>
    rw [hpr] at HP
    simp only [isPairB, Bool.and_eq_true, decide_eq_true_eq] at hpr
    obtain ⟨⟨_, rfl⟩, rfl⟩ := hpr
    obtain ⟨x2, y2, rfl⟩ := two_of HNL.out
    have HRW : Hid (∀ V, Below w.heap.size w V → Calls Tryz.prog 43 #[.agg #[.int .i64 4, .string cDot, .int .i64 n, .slice ao 2 cap]] V fun e w' => e = .returned (.string ⟨R.toArray⟩) ∧ Below V.heap.size V w') := fun V hb => by rw [eR]; exact i_list _ x2 y2 n rfl IH V _ d (TmIn.keep hb _ _ hin) hr hn (HT.out.keep hb)
    generalize (infixP cDot).isSome = bi at *
    clear hrow hr hn hal hs20 HA1 HI1 IH hl1 hl5 eR hlen hin bW
    unfold maxLen at hcap
    go_enter Tryz.func29, Tryz.ntmps29
    go_upto_region 1 with (fail)
    rw [← HW.out]
    clear hW
    obtain ⟨q0, q1, q2, q3, _⟩ := blk4 (HKW.out W (Below.refl _ _))
    go_wp2_with (first
      | (go_at_call 39; refine (Calls.mono (HIN.out _) ?_); rintro e w1 ⟨rfl, b1⟩; have B1 : Hid (Below W.heap.size W w1) := b1; obtain ⟨p0, p1, p2, p3, _⟩ := blk4 (HKW.out w1 b1); have hlt1 : w.heap.size < w1.heap.size := Nat.lt_of_lt_of_le HLW.out b1.size; clear b1)
      | (go_at_call 42; refine (Calls.mono (HP.out _) ?_); rintro e w2 ⟨rfl, b2⟩; have B2 : Hid (Below W.heap.size W w2) := (B1.out.alloc B1.out.size _).trans (b2.mono (by have := B1.out.size; simp; omega)); obtain ⟨r0, r1, r2, r3, _⟩ := blk4 (HKW.out w2 B2.out); clear b2)
      | (go_at_call 43; refine (Calls.mono (HRW.out _ (HBW.out.trans (B2.out.mono HBW.out.size))) ?_); rintro e w3 ⟨rfl, b3⟩; have B3 : Hid (Below W.heap.size W w3) := B2.out.trans (b3.mono B2.out.size); clear b3))
    go_ret
    exact ⟨rfl, HBW.out.trans (B3.out.mono HBW.out.size)⟩
  | false =>
    rw [hpr] at HP
    have hnp : NL = 2 → ¬ s = cDot := fun h e => by simp [isPairB, h, e] at hpr
    have hkid : ∀ u ∈ ks, ∀ V v, Below w.heap.size w V → TmIn V u v → Calls Tryz.prog 14 #[v] V fun e w' => e = .returned (.string ⟨u.wr.toArray⟩) ∧ Below V.heap.size V w' := fun u hu V v hb h => by
      have := n_kid hu
      rw [n_mk] at hn
      exact IH u (tm_kid_lt hu) V v (d + 1) h (right_kid hr hu) (by omega) (HT.out.keep hb)
    have HKID : Hid _ := hkid
    obtain ⟨b, off, rfl, hks⟩ := hrow (by intro e; subst e; have := HNL.out; simp at this; omega)
    have HKS : Hid (∀ V, Below w.heap.size w V → TmsIn V ks b off) := fun V hb => TmsIn.keep hb _ _ _ hks
    clear hkid hks hrow hpr
    by_cases hinf : NL = 2 ∧ (infixP s).isSome = true
    · obtain ⟨rfl, hi⟩ := hinf
      obtain ⟨x2, y2, rfl⟩ := two_of HNL.out
      rw [wr_infix (hnp rfl) hi] at eR
      rw [hi] at HIN
      obtain ⟨c0, c1, c2, c3, d0, d1, d2, d3, hx, hy⟩ := two_at (HKS.out w (Below.refl _ _))
      have hsl := signL_len s
      have HXL : Hid (x2.wr.length + (signL s).length + y2.wr.length + 4 = R.length) := by show _ = _; rw [eR]; simp only [List.length_cons, List.length_append, List.length_nil]; omega
      have HKX : Hid (∀ u, Below W.heap.size W u → u.cell? ⟨b, off, none⟩ = some c0 ∧ u.cell? ⟨b, off + 1, none⟩ = some c1 ∧ u.cell? ⟨b, off + 2, none⟩ = some c2 ∧ u.cell? ⟨b, off + 3, none⟩ = some c3 ∧ TmIn u x2 (.agg #[c0, c1, c2, c3])) := fun u hb => by
        have hb2 := HBW.out.trans (hb.mono HBW.out.size)
        exact ⟨cell_keep hx.1 hb2, cell_keep hx.2.1 hb2, cell_keep hx.2.2.1 hb2, cell_keep hx.2.2.2.1 hb2, TmIn.keep hb2 _ _ hx.2.2.2.2⟩
      have HKY : Hid (∀ u, Below W.heap.size W u → u.cell? ⟨b, off + 4, none⟩ = some d0 ∧ u.cell? ⟨b, off + 4 + 1, none⟩ = some d1 ∧ u.cell? ⟨b, off + 4 + 2, none⟩ = some d2 ∧ u.cell? ⟨b, off + 4 + 3, none⟩ = some d3 ∧ TmIn u y2 (.agg #[d0, d1, d2, d3])) := fun u hb => by
        have hb2 := HBW.out.trans (hb.mono HBW.out.size)
        exact ⟨cell_keep hy.1 hb2, cell_keep hy.2.1 hb2, cell_keep hy.2.2.1 hb2, cell_keep hy.2.2.2.1 hb2, TmIn.keep hb2 _ _ hy.2.2.2.2⟩
      have HCX : Hid (∀ V, Below W.heap.size W V → Calls Tryz.prog 14 #[.agg #[c0, c1, c2, c3]] V fun e w' => e = .returned (.string ⟨x2.wr.toArray⟩) ∧ Below V.heap.size V w') := fun V hb => HKID.out x2 (by simp) V _ (HBW.out.trans (hb.mono HBW.out.size)) (HKX.out V hb).2.2.2.2
      have HCY : Hid (∀ V, Below W.heap.size W V → Calls Tryz.prog 14 #[.agg #[d0, d1, d2, d3]] V fun e w' => e = .returned (.string ⟨y2.wr.toArray⟩) ∧ Below V.heap.size V w') := fun V hb => HKID.out y2 (by simp) V _ (HBW.out.trans (hb.mono HBW.out.size)) (HKY.out V hb).2.2.2.2
      have HCI : Hid (∀ V, Below W.heap.size W V → Calls Tryz.prog 44 #[.string s] V fun e w2 => e = .returned (.string ⟨(signL s).toArray⟩) ∧ Below V.heap.size V w2) := fun V hb => HI1.out V (HBW.out.trans (hb.mono HBW.out.size))
      have HER : Hid (R = 40 :: (x2.wr ++ (32 :: (signL s ++ (32 :: (y2.wr ++ [41])))))) := eR
      clear HKS HKID hx hy eR hnp hr hn hs20 hal IH hl1 hl5 bW hi hsl hlen HA1 HI1 hin
      generalize x2.wr = X at *
      generalize y2.wr = Y at *
      generalize signL s = SG at *
      have HTG : Hid (∀ V, _) := tog7 [40] X [32] SG [32] Y [41] (by have := HXL.out; have := HRL.out; simp only [List.length_cons, List.length_nil]; omega)
      unfold maxLen at hcap
      go_enter Tryz.func29, Tryz.ntmps29
      go_upto_region 1 with (fail)
      rw [← HW.out]
      clear hW
      obtain ⟨q0, q1, q2, q3, _⟩ := blk4 (HKW.out W (Below.refl _ _))
      go_upto_region 5 with (first
        | (go_at_call 39; refine (Calls.mono (HIN.out _) ?_); rintro e w1 ⟨rfl, b1⟩; have B1 : Hid (Below W.heap.size W w1) := b1; obtain ⟨p0, p1, p2, p3, _⟩ := blk4 (HKW.out w1 b1); have hlt1 : w.heap.size < w1.heap.size := Nat.lt_of_lt_of_le HLW.out b1.size; clear b1)
        | (go_at_call 42; refine (Calls.mono (HP.out _) ?_); rintro e w2 ⟨rfl, b2⟩; have B2 : Hid (Below W.heap.size W w2) := (B1.out.alloc B1.out.size _).trans (b2.mono (by have := B1.out.size; simp; omega)); obtain ⟨r0, r1, r2, r3, _⟩ := blk4 (HKW.out w2 B2.out); clear b2))
      have BL : Hid (∀ u, Below W.heap.size W (later w2 u)) := fun u => B2.out.trans ((later_below w2 u).mono B2.out.size)
      have hc1 : ∀ u, (later w2 u).cell? ⟨w.heap.size, 1, none⟩ = some (.string s) := fun u => (blk4 (HKW.out _ (BL.out u))).2.1
      have hc3 : ∀ u, (later w2 u).cell? ⟨w.heap.size, 3, none⟩ = some (.slice (some ⟨b, off, none⟩) 2 cap) := fun u => (blk4 (HKW.out _ (BL.out u))).2.2.2.1
      have hx0 := fun u => (HKX.out _ (BL.out u)).1
      have hx1 := fun u => (HKX.out _ (BL.out u)).2.1
      have hx2 := fun u => (HKX.out _ (BL.out u)).2.2.1
      have hx3 := fun u => (HKX.out _ (BL.out u)).2.2.2.1
      have hy0 := fun u => (HKY.out _ (BL.out u)).1
      have hy1 := fun u => (HKY.out _ (BL.out u)).2.1
      have hy2 := fun u => (HKY.out _ (BL.out u)).2.2.1
      have hy3 := fun u => (HKY.out _ (BL.out u)).2.2.2.1
      refine wp_region_tail 13 (by kernel_rfl) (by kernel_rfl) ?_
      simp only [List.take_succ_cons, List.take_zero, List.drop_succ_cons, List.drop_zero]
      iterate 5 (go_big_quiet_step ((go_at_call 14; exact Calls.later_of_below (HCX.out _ (BL.out _)))))
      iterate 3 (go_big_quiet_step ((go_at_call 44; exact Calls.later_of_below (HCI.out _ (BL.out _)))))
      repeat (go_big_quiet_step ((go_at_call 14; exact Calls.later_of_below (HCY.out _ (BL.out _)))))
      refine wpQuiet_nil ?_
      rintro _ ⟨u3, rfl⟩
      have HB3 : Hid (Below W.heap.size W (later w2 u3)) := BL.out u3
      clear hc1 hc3 hx0 hx1 hx2 hx3 hy0 hy1 hy2 hy3 BL
      generalize later w2 u3 = w3 at *
      go_wp2_with (go_at_call 26; refine (Calls.mono (HTG.out _) ?_); rintro e w4 ⟨rfl, b4⟩; have B4 : Hid (Below W.heap.size W w4) := HB3.out.trans (b4.mono HB3.out.size); clear b4)
      go_ret
      exact ⟨by rw [HER.out]; simp, HBW.out.trans (B4.out.mono HBW.out.size)⟩
    · rw [wr_struct fun h => ⟨hnp (HNL.out ▸ h), by
        cases hi : (infixP s).isSome with
        | false => rfl
        | true => exact absurd ⟨HNL.out ▸ h, hi⟩ hinf⟩] at eR
      obtain ⟨C, hC⟩ : ∃ C, C = commaL (ks.map Tm.wr) := ⟨_, rfl⟩
      have HML : Hid ((ks.map Tm.wr).length = NL) := by show _ = _; rw [List.length_map]; exact HNL.out
      have HER : Hid (R = atomL s ++ (40 :: (C ++ [41]))) := by show _ = _; rw [hC]; exact eR
      have HXL : Hid ((atomL s).length + C.length + 2 = R.length) := by show _ = _; rw [HER.out]; simp only [List.length_cons, List.length_append, List.length_nil]; omega
      have HPT : Hid (∀ V g, TxtAt V g 0 (ks.map Tm.wr) → Calls Tryz.prog 45 #[.string ⟨#[44]⟩, .slice (some ⟨g, 0, none⟩) NL NL] V fun e w' => e = .returned (.string ⟨C.toArray⟩) ∧ Below V.heap.size V w') := fun V g h => by
        rw [hC]; exact parted_any (ks.map Tm.wr) g 0 NL NL V HML.out h (Nat.le_refl _) (by unfold maxLen; omega) (by rw [← hC]; have := HXL.out; have := HRL.out; omega)
      have HALLW : Hid (∀ V, Below W.heap.size W V → Calls Tryz.prog 46 #[.slice (some ⟨b, off, none⟩) NL cap] V fun e w' => ∃ g, e = .returned (.slice (some ⟨g, 0, none⟩) NL NL) ∧ TxtAt w' g 0 (ks.map Tm.wr) ∧ Below V.heap.size V w') := fun V hb => by
        have hb2 := HBW.out.trans (hb.mono HBW.out.size)
        exact all_any ks V b off NL cap HNL.out (by omega) (HKS.out V hb2) fun u hu V2 v2 hb3 h => HKID.out u hu V2 v2 (hb2.trans (hb3.mono hb2.size)) h
      have HCA : Hid (∀ V, Below W.heap.size W V → Calls Tryz.prog 41 #[.string s] V fun e w2 => e = .returned (.string ⟨(atomL s).toArray⟩) ∧ Below V.heap.size V w2) := fun V hb => HA1.out V (HBW.out.trans (hb.mono HBW.out.size))
      have HTG : Hid (∀ V, _) := tog4 (atomL s) [40] C [41] (by have := HXL.out; have := HRL.out; simp only [List.length_cons, List.length_nil]; omega)
      cases hi : (infixP s).isSome with
      | true =>
        rw [hi] at HIN
        have hn2 : ((NL : Int) == 2) = false := beq_eq_false_iff_ne.2 (by intro e; exact hinf ⟨by omega, hi⟩)
        clear hC eR hnp hinf hi hr hn hs20 hal IH bW hin HA1 HI1 HML
        generalize atomL s = A at *
        unfold maxLen at hcap
        go_enter Tryz.func29, Tryz.ntmps29
        go_upto_region 1 with (fail)
        rw [← HW.out]
        clear hW
        obtain ⟨q0, q1, q2, q3, _⟩ := blk4 (HKW.out W (Below.refl _ _))
        go_upto_region 6 with (first
          | (go_at_call 39; refine (Calls.mono (HIN.out _) ?_); rintro e w1 ⟨rfl, b1⟩; have B1 : Hid (Below W.heap.size W w1) := b1; obtain ⟨p0, p1, p2, p3, _⟩ := blk4 (HKW.out w1 b1); have hlt1 : w.heap.size < w1.heap.size := Nat.lt_of_lt_of_le HLW.out b1.size; clear b1)
          | (go_at_call 42; refine (Calls.mono (HP.out _) ?_); rintro e w2 ⟨rfl, b2⟩; have B2 : Hid (Below W.heap.size W w2) := (B1.out.alloc B1.out.size _).trans (b2.mono (by have := B1.out.size; simp; omega)); obtain ⟨r0, r1, r2, r3, _⟩ := blk4 (HKW.out w2 B2.out); clear b2))
        have BL : Hid (∀ u, Below W.heap.size W (later w2 u)) := fun u => B2.out.trans ((later_below w2 u).mono B2.out.size)
        have hc1 : ∀ u, (later w2 u).cell? ⟨w.heap.size, 1, none⟩ = some (.string s) := fun u => (blk4 (HKW.out _ (BL.out u))).2.1
        have hc3 : ∀ u, (later w2 u).cell? ⟨w.heap.size, 3, none⟩ = some (.slice (some ⟨b, off, none⟩) NL cap) := fun u => (blk4 (HKW.out _ (BL.out u))).2.2.2.1
        refine wp_region_tail 5 (by kernel_rfl) (by kernel_rfl) ?_
        simp only [List.take_succ_cons, List.take_zero, List.drop_succ_cons, List.drop_zero]
        repeat (go_big_quiet_step ((go_at_call 41; exact Calls.later_of_below (HCA.out _ (BL.out _)))))
        refine wpQuiet_nil ?_
        rintro _ ⟨u3, rfl⟩
        have HB3 : Hid (Below W.heap.size W (later w2 u3)) := BL.out u3
        clear hc1 hc3 BL
        generalize later w2 u3 = w3 at *
        have HALL : Hid _ := HALLW.out w3 HB3.out
        go_wp2_with (first
          | (go_at_call 46; refine (Calls.mono HALL.out ?_); rintro e w4 ⟨g, rfl, ht, b4⟩; have HTX : Hid _ := ht; have B4 : Hid (Below W.heap.size W w4) := HB3.out.trans (b4.mono HB3.out.size); clear ht b4)
          | (go_at_call 45; refine (Calls.mono (HPT.out _ _ HTX.out) ?_); rintro e w5 ⟨rfl, b5⟩; have B5 : Hid (Below W.heap.size W w5) := B4.out.trans (b5.mono B4.out.size); clear b5)
          | (go_at_call 26; refine (Calls.mono (HTG.out _) ?_); rintro e w6 ⟨rfl, b6⟩; have B6 : Hid (Below W.heap.size W w6) := B5.out.trans (b6.mono B5.out.size); clear b6))
        go_ret
        exact ⟨by rw [HER.out]; simp, HBW.out.trans (B6.out.mono HBW.out.size)⟩
      | false =>
        rw [hi] at HIN
        clear hC eR hnp hinf hi hr hn hs20 hal IH bW hin HA1 HI1 HML
        generalize atomL s = A at *
        unfold maxLen at hcap
        go_enter Tryz.func29, Tryz.ntmps29
        go_upto_region 1 with (fail)
        rw [← HW.out]
        clear hW
        obtain ⟨q0, q1, q2, q3, _⟩ := blk4 (HKW.out W (Below.refl _ _))
        go_upto_region 6 with (first
          | (go_at_call 39; refine (Calls.mono (HIN.out _) ?_); rintro e w1 ⟨rfl, b1⟩; have B1 : Hid (Below W.heap.size W w1) := b1; obtain ⟨p0, p1, p2, p3, _⟩ := blk4 (HKW.out w1 b1); have hlt1 : w.heap.size < w1.heap.size := Nat.lt_of_lt_of_le HLW.out b1.size; clear b1)
          | (go_at_call 42; refine (Calls.mono (HP.out _) ?_); rintro e w2 ⟨rfl, b2⟩; have B2 : Hid (Below W.heap.size W w2) := (B1.out.alloc B1.out.size _).trans (b2.mono (by have := B1.out.size; simp; omega)); obtain ⟨r0, r1, r2, r3, _⟩ := blk4 (HKW.out w2 B2.out); clear b2))
        have BL : Hid (∀ u, Below W.heap.size W (later w2 u)) := fun u => B2.out.trans ((later_below w2 u).mono B2.out.size)
        have hc1 : ∀ u, (later w2 u).cell? ⟨w.heap.size, 1, none⟩ = some (.string s) := fun u => (blk4 (HKW.out _ (BL.out u))).2.1
        have hc3 : ∀ u, (later w2 u).cell? ⟨w.heap.size, 3, none⟩ = some (.slice (some ⟨b, off, none⟩) NL cap) := fun u => (blk4 (HKW.out _ (BL.out u))).2.2.2.1
        refine wp_region_tail 5 (by kernel_rfl) (by kernel_rfl) ?_
        simp only [List.take_succ_cons, List.take_zero, List.drop_succ_cons, List.drop_zero]
        repeat (go_big_quiet_step ((go_at_call 41; exact Calls.later_of_below (HCA.out _ (BL.out _)))))
        refine wpQuiet_nil ?_
        rintro _ ⟨u3, rfl⟩
        have HB3 : Hid (Below W.heap.size W (later w2 u3)) := BL.out u3
        clear hc1 hc3 BL
        generalize later w2 u3 = w3 at *
        have HALL : Hid _ := HALLW.out w3 HB3.out
        go_wp2_with (first
          | (go_at_call 46; refine (Calls.mono HALL.out ?_); rintro e w4 ⟨g, rfl, ht, b4⟩; have HTX : Hid _ := ht; have B4 : Hid (Below W.heap.size W w4) := HB3.out.trans (b4.mono HB3.out.size); clear ht b4)
          | (go_at_call 45; refine (Calls.mono (HPT.out _ _ HTX.out) ?_); rintro e w5 ⟨rfl, b5⟩; have B5 : Hid (Below W.heap.size W w5) := B4.out.trans (b5.mono B4.out.size); clear b5)
          | (go_at_call 26; refine (Calls.mono (HTG.out _) ?_); rintro e w6 ⟨rfl, b6⟩; have B6 : Hid (Below W.heap.size W w6) := B5.out.trans (b6.mono B5.out.size); clear b6))
        go_ret
        exact ⟨by rw [HER.out]; simp, HBW.out.trans (B6.out.mono HBW.out.size)⟩
end Go.Proofs.YtenmhpalpfppmaoGreatDoor

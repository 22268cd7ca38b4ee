import Derived.Test.YtbkjcccbjnehbanGreatDoorMh48
import Derived.Test.YtbkjcccbjnehbanGreatDoorMh32
namespace Go.Proofs.YtbkjcccbjnehbanGreatDoor
open Go.RowKit
theorem sgsF_sok {t : ByteArray} (ht : t.size ≤ 3000) : ∀ (n i : Nat), ∀ x ∈ sgsF t n i, SOk x := by
 intro n
 induction n with
 | zero => intro i x hx; simp [sgsF] at hx
 | succ n ih =>
   intro i x hx
   unfold sgsF at hx
   split at hx
   · rename_i hi
     rcases List.mem_append.1 hx with h | h
     · unfold stepAt at h
       split at h
       · simp at h
       · split at h
         · simp at h
         · obtain ⟨k, y, m, e, hs, hy, hm⟩ := MkOk.sign t i
           simp only [hs, Option.toList_some, List.mem_singleton] at h
           subst h
           refine ⟨?_, ?_, hm.1, hm.2⟩
           · show y.size ≤ 3000; omega
           · show i ≤ 3000; omega
     · exact ih _ x h
   · simp at hx
theorem signs_sok (t : ByteArray) : ∀ x ∈ (signsR t).1, SOk x := by
 unfold signsR
 split
 · exact sgsF_sok (by omega) _ _
 · intro x hx; cases hx
theorem rsR_le {L : List Sg} {a : Nat} (ha : a ≤ L.length) : (rsR L a).nx ≤ L.length := by
 by_cases h : a < L.length
 · exact (rsR_nx h).2
 · rw [rsR_none (fun h2 => absurd h2 h)]
   show a + behindC (L.drop a) ≤ L.length
   have := behindC_le (L.drop a)
   rw [List.length_drop] at this
   omega
def RtOutI (o : Option (Tm × List ByteArray)) (w : World) (e : Ending) (w' : World) : Prop :=
 ∃ tv nv F, e = .returned (.tuple #[tv, nv, .bool o.isSome]) ∧ TOk 24 (fun _ => False) w.heap.size w' (rtT o) tv F ∧ NRow w' w.heap.size (rtN o) nv ∧ (∀ b, nv.ownBlock = some b → b ∉ F) ∧ (rtN o).length ≤ 3000 ∧ Below w.heap.size w w'
set_option maxHeartbeats 4000000 in
set_option maxRecDepth 20000 in
theorem i_readTerm (t : ByteArray) (w : World) (hT : Lib.Utf8Tabs 0 1 w) : Calls Tryz.prog 6 #[.string t] w (RtOutI (rtR t) w) := by
 have HSG : Hid (∀ w1, Below w.heap.size w w1 → Calls Tryz.prog 20 #[.string t] w1 fun e w' => ∃ v, e = .returned (.tuple #[v, .bool (signsR t).2]) ∧ SgRow w' w1.heap.size (signsR t).1 v ∧ Below w1.heap.size w1 w') := fun w1 hb => impl_all t w1 (tabs_keep hT hb)
 have HLEN : Hid ((signsR t).1.length ≤ 3000) := signsR_len t
 have HOK : Hid (∀ x ∈ (signsR t).1, SOk x) := signs_sok t
 have HRT : Hid (rtR t = if (rsR (signsR t).1 0).ok = true ∧ (rsR (signsR t).1 0).nx = (signsR t).1.length then some ((rsR (signsR t).1 0).t, (rsR (signsR t).1 0).names) else none) := rfl
 generalize (signsR t).1 = L at *
 generalize (signsR t).2 = bb at *
 generalize rtR t = O at *
 obtain ⟨W, hW⟩ : ∃ W, W = w.alloc (.cells #[.int .i64 0, .string ⟨#[]⟩, .int .i64 0, .slice none 0 0] 24) := ⟨_, rfl⟩
 have bW : Below w.heap.size w W := by rw [hW]; exact (Below.refl _ _).alloc (Nat.le_refl _) _
 have HKW : Hid (W.heap[w.heap.size]? = some (.cells #[.int .i64 0, .string ⟨#[]⟩, .int .i64 0, .slice none 0 0] 24 (0, 0))) := by rw [hW]; exact heap_alloc_new _ _
 have HSW : Hid (W.heap.size = w.heap.size + 1) := by show _ = _; rw [hW]; simp
 have HBW : Hid (Below w.heap.size w W) := bW
 have HW : Hid (W = w.alloc (.cells #[.int .i64 0, .string ⟨#[]⟩, .int .i64 0, .slice none 0 0] 24)) := hW
 clear bW
 go_enter Tryz.func6, Tryz.ntmps6
 go_upto_region 1 with (fail)
 rw [← HW.out]
 clear hW
 go_upto_region 2 with (go_at_call 20; refine (Calls.mono (HSG.out _ HBW.out) ?_); rintro e w1 ⟨v1, rfl, r1, b1⟩; obtain ⟨ao, cap, rfl, hcap, hlc⟩ := r1.shape; have R1 : Hid (SgRow w1 W.heap.size L (.slice ao L.length cap)) := r1; have B1 : Hid (Below W.heap.size W w1) := b1; clear r1 b1)
 have HR0 : Hid (SgRow w1 0 L (.slice ao L.length cap)) := ⟨R1.out.1, by
   rcases R1.out.2 with hn | ⟨g, cap', cur, e, _, h2, h3⟩
   · exact Or.inl hn
   · exact Or.inr ⟨g, cap', cur, e, Nat.zero_le _, h2, h3⟩⟩
 have HRS := i_readSigns L (.slice ao L.length cap) 0 w1 (Nat.zero_le _) HLEN.out HOK.out HR0.out
 have hl3 : (L.length : Int) ≤ 3000 := by have := HLEN.out; omega
 obtain ⟨NL, hNL⟩ : ∃ NL, NL = L.length := ⟨_, rfl⟩
 rw [← hNL] at HRS hl3 HRT ⊢
 unfold RsOutI at HRS
 obtain ⟨RR, hRR⟩ : ∃ RR, RR = rsR L 0 := ⟨_, rfl⟩
 have hnxb : (rsR L 0).nx ≤ NL := by rw [hNL]; exact rsR_le (Nat.zero_le _)
 rw [← hRR] at HRS HRT hnxb
 obtain ⟨ok, t0, names, nx⟩ := RR
 have HNXB : Hid (nx ≤ NL) := hnxb
 clear hnxb
 replace HRS : Hid _ := HRS
 clear hRR hNL hlc R1 HR0 HSG HOK HLEN
 unfold maxLen at hcap
 go_upto_region 3 with (go_at_call 21; refine (Calls.mono HRS.out ?_); rintro e w2 ⟨tv, nv, F, rfl, ht, hnr, hdj, hnl, hb⟩; have HNL9 : Hid (names.length ≤ 3000) := hnl; clear hnl; have HDJ : Hid (∀ b, nv.ownBlock = some b → b ∉ F) := hdj; clear hdj; obtain ⟨tk, ts, tn, ta, tl, tc, rfl⟩ := ht.form; have HT2 : Hid (TOk 24 (fun _ => False) w1.heap.size w2 t0 (.agg #[.int .i64 tk, .string ts, .int .i64 tn, .slice ta tl tc]) F) := ht; have HN2 : Hid (NRow w2 w1.heap.size names nv) := hnr; have B2 : Hid (Below w1.heap.size w1 w2) := hb; clear ht hnr hb)
 have HBW2 : Hid (Below w.heap.size w w2) := by
   have h1 := HBW.out.trans (B1.out.mono HBW.out.size)
   exact h1.trans (B2.out.mono h1.size)
 obtain ⟨V, hV⟩ : ∃ V, V = w2.alloc (.cells #[.int .i64 tk, .string ts, .int .i64 tn, .slice ta tl tc] 24) := ⟨_, rfl⟩
 have bV : Below w2.heap.size w2 V := by rw [hV]; exact (Below.refl _ _).alloc (Nat.le_refl _) _
 have HK7 : Hid (V.heap[w2.heap.size]? = some (.cells #[.int .i64 tk, .string ts, .int .i64 tn, .slice ta tl tc] 24 (0, 0))) := by rw [hV]; exact heap_alloc_new _ _
 have HBV : Hid (Below w.heap.size w V) := HBW2.out.trans (bV.mono HBW2.out.size)
 have HLT : Hid (w.heap.size < w2.heap.size ∧ w.heap.size < w1.heap.size) := by have h0 := HSW.out; have h1 := B1.out.size; have h2 := B2.out.size; exact ⟨by omega, by omega⟩
 have HKV : Hid (V.heap[w.heap.size]? = some (.cells #[.int .i64 0, .string ⟨#[]⟩, .int .i64 0, .slice none 0 0] 24 (0, 0))) := by
   have h0 := HSW.out
   have h1 := (B1.out.block w.heap.size (by omega)).trans HKW.out
   have h2 := (B2.out.block w.heap.size HLT.out.2).trans h1
   exact (bV.block w.heap.size HLT.out.1).trans h2
 have HTV : Hid (TOk 24 (fun _ => False) w1.heap.size V t0 (.agg #[.int .i64 tk, .string ts, .int .i64 tn, .slice ta tl tc]) F) := HT2.out.step (FX.of_below bV)
 have HNV : Hid (NRow V w1.heap.size names nv) := nrow_keep HN2.out bV
 have hltV : w.heap.size < V.heap.size := (Array.getElem?_eq_some_iff.1 HKV.out).1
 rw [← hV]
 clear hV bV HT2 HN2 HKW HRS
 cases ok with
 | false =>
   have HON : Hid (O = none) := by show _ = _; rw [HRT.out, if_neg (by simp)]
   clear HRT
   go_upto_region 4 with (fail)
   obtain ⟨q0, q1, q2, q3, z0, z1, z2, z3⟩ := blk4 HKV.out
   go_wp2
   refine bodyPost_ret_by (results_c2 rfl _ _ w.heap.size 24 _ (0, 0) _ rfl (blk4_set HKV.out) Tryz.underlying24 rfl (by kernel_rfl)) rfl ?_
   exact ⟨_, _, [], by rw [HON.out]; rfl, by rw [HON.out]; exact tok_zero _ _, by rw [HON.out]; exact ⟨rfl, Or.inl ⟨rfl, rfl⟩⟩, (fun b hb => by cases hb), by rw [HON.out]; exact Nat.zero_le _, blk4_below HBV.out (Nat.le_refl _)⟩
 | true =>
   by_cases hnx : nx = NL
   · subst hnx
     have HON : Hid (O = some (t0, names)) := by show _ = _; rw [HRT.out, if_pos ⟨rfl, rfl⟩]
     clear HRT
     go_upto_region 5 with (fail)
     obtain ⟨q0, q1, q2, q3, z0, z1, z2, z3⟩ := blk4 HKV.out
     obtain ⟨y0, y1, y2, y3, _⟩ := blk4 HK7.out
     have hne : ¬ w.heap.size = w2.heap.size := by have := HLT.out.1; omega
     go_wp2
     refine bodyPost_ret_by (results_c2 rfl _ _ w.heap.size 24 _ (0, 0) _ rfl (blk4_set HKV.out) Tryz.underlying24 rfl (by kernel_rfl)) rfl ?_
     have h1 := HLT.out
     refine ⟨_, nv, F, by rw [HON.out]; rfl, ?_, ?_, HDJ.out, by rw [HON.out]; exact HNL9.out, blk4_below HBV.out (Nat.le_refl _)⟩
     · rw [HON.out]
       exact ⟨Own.keep _ _ _ HTV.out.own fun f hf => blk4_other (by have := (HTV.out.out f hf).1; omega), HTV.out.nd, fun f hf => ⟨by have := (HTV.out.out f hf).1; omega, fun h => h⟩⟩
     · rw [HON.out]
       exact nrow_base (B := w1.heap.size) (HNV.out.turn fun b hb => blk4_other (by have := (HNV.out.lt b hb).1; omega)) (by omega)
   · have HON : Hid (O = none) := by show _ = _; rw [HRT.out, if_neg (fun h => hnx h.2)]
     have hnb : (nx : Int) < (NL : Int) := by have h9 := HNXB.out; omega
     clear HRT hnx
     go_upto_region 4 with (fail)
     obtain ⟨q0, q1, q2, q3, z0, z1, z2, z3⟩ := blk4 HKV.out
     go_wp2
     refine bodyPost_ret_by (results_c2 rfl _ _ w.heap.size 24 _ (0, 0) _ rfl (blk4_set HKV.out) Tryz.underlying24 rfl (by kernel_rfl)) rfl ?_
     exact ⟨_, _, [], by rw [HON.out]; rfl, by rw [HON.out]; exact tok_zero _ _, by rw [HON.out]; exact ⟨rfl, Or.inl ⟨rfl, rfl⟩⟩, (fun b hb => by cases hb), by rw [HON.out]; exact Nat.zero_le _, blk4_below HBV.out (Nat.le_refl _)⟩
set_option maxHeartbeats 8000000 in
set_option maxRecDepth 20000 in
theorem i_readAll (t : ByteArray) (w : World) (hT : Lib.Utf8Tabs 0 1 w) : Calls Tryz.prog 14 #[.string t] w (RaOut (raR t) w) := by
 obtain ⟨i0, hi, hz0, hz1, hz2⟩ := info_partsS infoT
 have HSG : Hid (∀ w1, Below w.heap.size w w1 → Calls Tryz.prog 20 #[.string t] w1 fun e w' => ∃ v, e = .returned (.tuple #[v, .bool (signsR t).2]) ∧ SgRow w' w1.heap.size (signsR t).1 v ∧ Below w1.heap.size w1 w') := fun w1 hb => impl_all t w1 (tabs_keep hT hb)
 have HLEN : Hid ((signsR t).1.length ≤ 3000) := signsR_len t
 have HOK : Hid (∀ x ∈ (signsR t).1, SOk x) := signs_sok t
 have HRA : Hid (raL (signsR t).1 0 [] 0 = raR t) := rfl
 generalize (signsR t).1 = L at *
 generalize (signsR t).2 = bb at *
 generalize raR t = O at *
 have HBW : Hid (Below w.heap.size w w) := Below.refl _ _
 have HRW : Hid (ROk 24 (fun _ => False) w.heap.size w [] (.slice none 0 0) []) := ROk.nil
 obtain ⟨NL, hNL⟩ : ∃ NL, NL = L.length := ⟨_, rfl⟩
 have HNL : Hid (L.length = NL) := hNL.symm
 have hl3 : (NL : Int) ≤ 3000 := by have := HLEN.out; omega
 clear hNL
 go_enter Tryz.func14, Tryz.ntmps14
 go_upto_region 3 with (fail)
 go_wp2_with (go_at_call 20; refine (Calls.mono (HSG.out _ HBW.out) ?_); rintro e w1 ⟨v1, rfl, r1, b1⟩; obtain ⟨ao, cap, rfl, hcap, hlc⟩ := r1.shape; have R1 : Hid (SgRow w1 w.heap.size L (.slice ao L.length cap)) := r1; have B1 : Hid (Below w.heap.size w w1) := b1; rw [HNL.out] at R1 hlc ⊢; clear r1 b1)
 have HLV0 : Hid (SgRow w1 0 L (.slice ao NL cap)) := ⟨R1.out.1, by
   rcases R1.out.2 with hn | ⟨g, cap', cur, e, _, h2, h3⟩
   · exact Or.inl hn
   · exact Or.inr ⟨g, cap', cur, e, Nat.zero_le _, h2, h3⟩⟩
 have HLB0 : Hid (∀ b, (Value.slice ao NL cap).ownBlock = some b → w.heap.size ≤ b ∧ b < w1.heap.size) := fun b hb => by
   rcases R1.out.2 with ⟨e, _⟩ | ⟨g, cap', cur, e, h1, h2, _⟩
   · rw [e] at hb; cases hb
   · rw [e] at hb; simp only [Value.ownBlock, Option.some.injEq] at hb; subst hb; exact ⟨h1, (Array.getElem?_eq_some_iff.1 h2).1⟩
 have HR0 : Hid (ROk 24 (fun _ => False) w.heap.size w1 [] (.slice none 0 0) []) := HRW.out.step (FX.of_below B1.out)
 clear HRW R1 hlc
 unfold maxLen at hcap
 go_loopw [4, 5, 8] (fun v4 v5 v8 wr => ∃ (a b KN : Nat) (ks : List Tm) (F : List Nat) (ao4 : Option Addr) (cap4 : Nat), a ≤ NL ∧ v8 = .int .i64 (a : Int) ∧ v5 = .int .i64 (b : Int) ∧ v4 = .slice ao4 KN cap4 ∧ b ≤ a ∧ KN ≤ a ∧ Hid (ks.length = KN) ∧ Hid (raL L a ks b = O) ∧ Hid (ROk 24 (fun _ => False) w.heap.size wr ks (.slice ao4 KN cap4) F) ∧ Hid (∀ f ∈ F, (Value.slice ao NL cap).ownBlock ≠ some f) ∧ Hid (SgRow wr 0 L (.slice ao NL cap)) ∧ Hid (Below w.heap.size w wr)) (fun _ _ v8 _ => NL - (intOf v8).toNat)
 case atStart => exact ⟨0, 0, 0, [], [], _, _, Nat.zero_le _, rfl, rfl, rfl, Nat.le_refl _, Nat.le_refl _, rfl, HRA.out, HR0.out, (fun f hf e => by cases hf), HLV0.out, HBW.out.trans (B1.out.mono HBW.out.size)⟩
 case round =>
   clear HLV0 HR0 HRA HLB0
   obtain ⟨a, b, KN, ks, F, ao4, cap4, ha, rfl, rfl, rfl, hba, hka, HKN, HRL, HRO, HFL, HLV, HB⟩ := hrel
   by_cases hlt : a < NL
   · have hltL : a < L.length := by have := HNL.out; omega
     have HRS := i_readSigns L (.slice ao NL cap) a wr (Nat.le_of_lt hltL) HLEN.out HOK.out HLV.out
     have hnx := rsR_nx hltL
     unfold RsOutI at HRS
     have HOKY : Hid ((rsR L a).ok = true → raL L (rsR L a).nx (ks ++ [(rsR L a).t]) b = O) := fun h => by rw [← HRL.out, raL_ok hltL h]
     have HNOY : Hid ((rsR L a).ok = false → raL L (rsR L a).nx ks (b + 1) = O) := fun h => by rw [← HRL.out, raL_no hltL h]
     rw [HNL.out] at hnx
     generalize rsR L a = RR at *
     obtain ⟨ok, t0, names, nx⟩ := RR
     simp only at hnx
     replace HRS : Hid _ := HRS
     have hlv : ∀ k, (Value.slice ao NL cap).ownBlock = some k → k < wr.heap.size := fun k hk => by
       rcases HLV.out.2 with ⟨e, _⟩ | ⟨g, cap', cur, e, _, hh, _⟩
       · rw [e] at hk; cases hk
       · rw [e] at hk; simp only [Value.ownBlock, Option.some.injEq] at hk; subst hk; exact (Array.getElem?_eq_some_iff.1 hh).1
     have HLVB : Hid _ := hlv
     clear hltL HRL hlv
     go_upto_region 7 with (go_at_call 21; refine (Calls.mono HRS.out ?_); rintro e w2 ⟨tv, nv, F2, rfl, ht, hnr, _, _, hb⟩; obtain ⟨tk, ts, tn, ta, tl, tc, rfl⟩ := ht.form; have HT2 : Hid (TOk 24 (fun _ => False) wr.heap.size w2 t0 (.agg #[.int .i64 tk, .string ts, .int .i64 tn, .slice ta tl tc]) F2) := ht; have B2 : Hid (Below wr.heap.size wr w2) := hb; obtain ⟨aon, capn, rfl, _⟩ := hnr.cells; clear ht hnr hb)
     obtain ⟨V, hV⟩ : ∃ V, V = w2.alloc (.cells #[.int .i64 tk, .string ts, .int .i64 tn, .slice ta tl tc] 24) := ⟨_, rfl⟩
     have bV : Below w2.heap.size w2 V := by rw [hV]; exact (Below.refl _ _).alloc (Nat.le_refl _) _
     have HK7 : Hid (V.heap[w2.heap.size]? = some (.cells #[.int .i64 tk, .string ts, .int .i64 tn, .slice ta tl tc] 24 (0, 0))) := by rw [hV]; exact heap_alloc_new _ _
     have HTV : Hid (TOk 24 (fun _ => False) wr.heap.size V t0 (.agg #[.int .i64 tk, .string ts, .int .i64 tn, .slice ta tl tc]) F2) := HT2.out.step (FX.of_below bV)
     have HBV : Hid (Below wr.heap.size wr V) := B2.out.trans (bV.mono B2.out.size)
     have HWV : Hid (w2.heap.size < V.heap.size) := by show _ < _; rw [hV]; simp
     rw [← hV]
     clear hV bV HT2 HRS B2
     have HROV : Hid (ROk 24 (fun _ => False) w.heap.size V ks (.slice ao4 KN cap4) F) := HRO.out.step (FX.of_below HBV.out)
     have HLVV : Hid (SgRow V 0 L (.slice ao NL cap)) := HLV.out.keep HBV.out
     have HBWV : Hid (Below w.heap.size w V) := HB.out.trans (HBV.out.mono HB.out.size)
     cases ok with
     | false =>
       have HRF : Hid _ := HNOY.out rfl
       clear HNOY HOKY
       go_wp2
       go_roundw
       case rel => exact ⟨nx, b + 1, KN, ks, F, ao4, cap4, hnx.2, rfl, by go_num, rfl, by omega, by omega, HKN.out, HRF.out, HROV.out, HFL.out, HLVV.out, HBWV.out⟩
       case measure => simp [intOf]; omega
     | true =>
       have HRF : Hid _ := HOKY.out rfl
       clear HNOY HOKY
       obtain ⟨y0, y1, y2, y3, _⟩ := blk4 HK7.out
       obtain ⟨w5, hw5⟩ : ∃ w5, w5 = V.alloc (.cells #[.int .i64 tk, .string ts, .int .i64 tn, .slice ta tl tc] 24) := ⟨_, rfl⟩
       have b5 : Below V.heap.size V w5 := by rw [hw5]; exact (Below.refl _ _).alloc (Nat.le_refl _) _
       have HRO5 : Hid (ROk 24 (fun _ => False) w.heap.size w5 ks (.slice ao4 KN cap4) F) := HROV.out.step (FX.of_below b5)
       obtain ⟨cs, F0, p1, p2, p3, p4, p5⟩ := HRO5.out.row
       rw [HKN.out, hw5] at p1
       have HP1 : Hid _ := p1
       have HP2 : Hid _ := p2
       have HP3 : Hid _ := p3
       have HP4 : Hid _ := p4
       have HP5 : Hid _ := p5
       have HW5 : Hid (w5 = V.alloc (.cells #[.int .i64 tk, .string ts, .int .i64 tn, .slice ta tl tc] 24)) := hw5
       have HB5 : Hid _ := b5
       clear p1 p2 p3 p4 p5 hw5 b5
       have hszV := HBWV.out.size
       go_wp2_with (at_builtin; go_loud (refine wpList_append_own_at _ rfl _ _ 22 rfl 0 24 i0 (.agg #[.int .i64 0, .string ⟨#[]⟩, .int .i64 0, .slice none 0 0]) 4 56 Tryz.underlying22 hi hz0 hz1 hz2 rfl (by decide) _ _ _ rfl HP1.out ⟨V.heap.size, 0, none⟩ 1 1 [.int .i64 tk, .string ts, .int .i64 tn, .slice ta tl tc] rfl rfl ?c1 ?c2 ?c3 ?c4 ?c5 ?_))
       case c1 =>
         intro q z hq
         match q, hq with
         | 0, hq => simp at hq; subst hq; simp [Addr.add]
         | 1, hq => simp at hq; subst hq; simp [Addr.add]
         | 2, hq => simp at hq; subst hq; simp [Addr.add]
         | 3, hq => simp at hq; subst hq; simp [Addr.add]
       case c2 => intro z hz; simp at hz; rcases hz with rfl | rfl | rfl | rfl <;> rfl
       case c3 => unfold maxLen; omega
       case c4 => omega
       case c5 => omega
       intro v' w6 hown' hgrow _ hat
       rw [← HW5.out] at hgrow
       have hat5 : v'.ownBlock = (Value.slice ao4 KN cap4).ownBlock ∨ v'.ownBlock = some w5.heap.size := by rw [HW5.out]; simpa using hat
       have hbw := HB.out.size
       obtain ⟨⟨F', hF1, hF2⟩, hbel⟩ := row_push (W := w) HRO5.out ((HTV.out.lo_le hbw).step (FX.of_below HB5.out)) (fun f hf g' hg' => by have := HRO.out.lt f hf; have := (HTV.out.out g' hg').1; omega) HP2.out HP3.out HP4.out HP5.out (by rw [HKN.out]; exact hown') hgrow hat5 (HBWV.out.trans (HB5.out.mono hszV))
       obtain ⟨a6, c6, rfl⟩ : ∃ ao cap, v' = .slice ao (KN + 1) cap := by
         rcases hown'.2 with ⟨e, h0⟩ | ⟨g, cap', cur, e, _⟩
         · omega
         · exact ⟨_, _, e⟩
       have HF1 : Hid (ROk 24 (fun _ => False) w.heap.size w6 (ks ++ [t0]) (.slice a6 (KN + 1) c6) F') := hF1
       have HF2 : Hid (∀ f ∈ F', (Value.slice ao NL cap).ownBlock ≠ some f) := fun f hf e => by
         have h1 := HLVB.out f e
         rcases hF2 f hf with h | h | h
         · exact HFL.out f h e
         · have := (HTV.out.out f h).1; omega
         · have := HB5.out.size; have := HBV.out.size; omega
       have HLV6 : Hid (SgRow w6 0 L (.slice ao NL cap)) := (HLVV.out.keep HB5.out).turn fun b hb => hgrow.block b (by have := HLVB.out b hb; have := HB5.out.size; have := HBV.out.size; omega) (fun e => HFL.out b (HP5.out b e.symm) hb)
       have HB6 : Hid (Below w.heap.size w w6) := hbel
       have HKN6 : Hid ((ks ++ [t0]).length = KN + 1) := by show _ = _; rw [List.length_append, HKN.out]; rfl
       clear hown' hgrow hat hat5 hF1 hF2 hbel HP1 HP2 HP3 HP4 HP5 y0 y1 y2 y3
       go_wp2
       go_roundw
       case rel => exact ⟨nx, b, KN + 1, ks ++ [t0], F', a6, c6, hnx.2, rfl, rfl, by go_num, by omega, by omega, HKN6.out, HRF.out, HF1.out, HF2.out, HLV6.out, HB6.out⟩
       case measure => simp [intOf]; omega
   · obtain rfl : a = NL := by omega
     have HE : Hid (O = (ks, b)) := by show _ = _; rw [← HRL.out, raL_end (by rw [HNL.out]; exact hlt)]
     clear HRL
     go_wp2
     go_ret2
     exact ⟨_, F, by rw [HE.out]; rfl, by rw [HE.out]; exact HRO.out, HB.out⟩
end Go.Proofs.YtbkjcccbjnehbanGreatDoor

import Derived.Test.YtbkjcccbjnehbanGreatDoorMh16
namespace Go.Proofs.YtbkjcccbjnehbanGreatDoor
open Go.RowKit
def contO (f : Nat) (most : Int) (t : Tm) (os : ByteArray) (o1 : Int) (R : Option (Tm × St)) : Option (Tm × St) := match R with | none => none | some (y, s1) => infO (termO true f) most (structTm os [t, y]) o1 s1
def afterP (f : Nat) (most : Int) (RP : Option (Tm × Int × St)) : Option (Tm × St) := match RP with | none => none | some (t, prio, s1) => infO (termO true f) most t prio s1
set_option maxHeartbeats 8000000 in
theorem s_term_zero (g : Nat) (L : List Sg) (lv : Value) : TermC 0 g L lv := by
 intro dd most st0 nv w hdd h
 have e : termO true 0 most st0 = none := rfl
 rw [e]
 clear e
 obtain rfl : dd = 130 := by omega
 clear hdd
 obtain ⟨W, hW⟩ : ∃ W, W = w.alloc (.cells #[.int .i64 0, .string ⟨#[]⟩, .int .i64 0, .slice none 0 0] 24) := ⟨_, rfl⟩
 have bW : Below w.heap.size w W := by rw [hW]; exact (Below.refl _ _).alloc (Nat.le_refl _) _
 have sW : W.heap.size = w.heap.size + 1 := by rw [hW]; simp
 have kW : W.heap[w.heap.size]? = some (.cells #[.int .i64 0, .string ⟨#[]⟩, .int .i64 0, .slice none 0 0] 24 (0, 0)) := by rw [hW]; exact heap_alloc_new _ _
 have HS0 : Hid (SRd g L lv nv w (some (130, st0))) := h
 have HSWW : Hid (SRd g L lv nv W (some (130, st0))) := h.keep bW
 have HKW : Hid (W.heap[w.heap.size]? = some (.cells #[.int .i64 0, .string ⟨#[]⟩, .int .i64 0, .slice none 0 0] 24 (0, 0))) := kW
 have HBW : Hid (Below w.heap.size w W) := bW
 have HSW : Hid (W.heap.size = w.heap.size + 1) := sW
 obtain ⟨ga, gbad, gdv, gnm, hg0, _, _, hgb, hgd, _⟩ := HSWW.out.ex
 subst hgb hgd
 obtain ⟨c0, c1, c2, c3, c4, cf⟩ := b5f hg0
 have f3 := cf 3
 have f2 := cf 2
 clear h bW sW kW hg0 cf
 go_enter Tryz.func27, Tryz.ntmps27
 go_upto_region 1 with fail
 rw [← hW]
 clear hW
 go_upto_region 2 with fail
 obtain ⟨V1, hV1⟩ : ∃ V1, V1 = W.setCell ⟨g, 3, none⟩ (.int .i64 (131)) := ⟨_, rfl⟩
 rw [← hV1]
 have HS1 : Hid (SRd g L lv nv V1 (some (130 + 1, st0))) := by rw [hV1]; exact HSWW.out.setDeep (by omega)
 have HX1 : Hid (FX (XS g nv) (XS g nv) W V1) := by rw [hV1]; exact FX.set_g _
 obtain ⟨ga1, gbad1, gdv1, gnm1, hg1, _, _, hgb1, hgd1, _⟩ := HS1.out.ex
 subst hgb1 hgd1
 clear c0 c1 c2 c3 c4 f2 f3
 obtain ⟨c0, c1, c2, c3, c4, cf⟩ := b5f hg1
 have f2 := cf 2
 clear hV1 hg1 cf
 go_upto_region 4 with fail
 obtain ⟨V, hV⟩ : ∃ V, V = V1.setCell ⟨g, 2, none⟩ (.bool true) := ⟨_, rfl⟩
 rw [← hV]
 have HSZ : Hid (SRd g L lv nv V none) := by rw [hV]; exact HS1.out.fall
 have HXT : Hid (FX (XS g nv) (XS g nv) W V) := by rw [hV]; exact HX1.out.trans (FX.set_g _)
 have hk := res_keep HS0.out HSW.out HXT.out HKW.out
 obtain ⟨z0, z1, z2, z3, q0, q1, q2, q3⟩ := blk4 hk
 have HK9 : Hid _ := hk
 clear hk hV c0 c1 c2 c3 c4 f2
 go_wp2
 refine bodyPost_ret_by (results_cell_row rfl _ _ w.heap.size 24 _ (0, 0) _ rfl (blk4_set HK9.out) Tryz.underlying24 rfl (by kernel_rfl)) rfl ?_
 exact ⟨_, rfl, TmR.fin HS0.out HBW.out HSW.out HXT.out (t := noTm) (TOk.leaf (by decide) (by decide) (by decide)) (fun y hy => by cases hy) HSZ.out⟩
set_option maxHeartbeats 16000000 in
set_option maxRecDepth 20000 in
theorem s_term_succ (f g : Nat) (L : List Sg) (lv : Value) (hL : L.length ≤ 3000) (hO : LOk L) (HT : TermC f g L lv) : TermC (f + 1) g L lv := by
 intro dd most st0 nv w hdd h
 obtain ⟨T, hT⟩ : ∃ T, T = termO true (f + 1) most st0 := ⟨_, rfl⟩
 rw [← hT]
 have hf1 : (dd + 1) + f = 130 := by omega
 obtain ⟨RP, hRP⟩ : ∃ RP, RP = primO true (termO true f) most st0 := ⟨_, rfl⟩
 have HTP : Hid (T = afterP f most RP) := by
   show _ = _
   rw [hT, hRP]; rfl
 have HPR : Hid (∀ nv' W', SRd g L lv nv' W' (some (dd + 1, st0)) → Calls Tryz.prog 41 #[.pointer (some ⟨g, 0, none⟩), .int .i64 most] W' fun e w' => PrR g L lv nv' W' e w' RP (dd + 1)) := by
   intro nv' W' hs
   have := s_prim f g L lv nv' (dd + 1) most st0 W' hf1 hL hO HT hs
   rw [← hRP] at this
   exact this
 have HTT : Hid (∀ m nv' W' st, SRd g L lv nv' W' (some (dd + 1, st)) → Calls Tryz.prog 27 #[.pointer (some ⟨g, 0, none⟩), .int .i64 m] W' fun e w' => ∃ v, e = .returned v ∧ TmR g L lv nv' W' v w' (termO true f m st) (dd + 1)) := fun m nv' W' st hs => HT (dd + 1) m st nv' W' hf1 hs
 have HL : Hid (L.length ≤ 3000) := hL
 have hd3 : (dd : Int) ≤ 129 := by omega
 have d130 : decide ((130 : Int) < (dd : Int) + 1) = false := decide_eq_false (by omega)
 clear hT hRP HT hO hL hdd hf1
 obtain ⟨W, hW⟩ : ∃ W, W = w.alloc (.cells #[.int .i64 0, .string ⟨#[]⟩, .int .i64 0, .slice none 0 0] 24) := ⟨_, rfl⟩
 have bW : Below w.heap.size w W := by rw [hW]; exact (Below.refl _ _).alloc (Nat.le_refl _) _
 have sW : W.heap.size = w.heap.size + 1 := by rw [hW]; simp
 have kW : W.heap[w.heap.size]? = some (.cells #[.int .i64 0, .string ⟨#[]⟩, .int .i64 0, .slice none 0 0] 24 (0, 0)) := by rw [hW]; exact heap_alloc_new _ _
 have HS0 : Hid (SRd g L lv nv w (some (dd, st0))) := h
 have HSWW : Hid (SRd g L lv nv W (some (dd, st0))) := h.keep bW
 have HKW : Hid (W.heap[w.heap.size]? = some (.cells #[.int .i64 0, .string ⟨#[]⟩, .int .i64 0, .slice none 0 0] 24 (0, 0))) := kW
 have HBW : Hid (Below w.heap.size w W) := bW
 have HSW : Hid (W.heap.size = w.heap.size + 1) := sW
 obtain ⟨ga, gbad, gdv, gnm, hg0, _, _, hgb, hgd, _⟩ := HSWW.out.ex
 subst hgb hgd
 obtain ⟨c0, c1, c2, c3, c4, cf⟩ := b5f hg0
 have f3 := cf 3
 have f2 := cf 2
 clear h bW sW kW hg0 cf
 go_enter Tryz.func27, Tryz.ntmps27
 go_upto_region 1 with fail
 rw [← hW]
 clear hW
 go_upto_region 2 with fail
 obtain ⟨V1, hV1⟩ : ∃ V1, V1 = W.setCell ⟨g, 3, none⟩ (.int .i64 ((dd : Int) + 1)) := ⟨_, rfl⟩
 rw [← hV1]
 have HS1 : Hid (SRd g L lv nv V1 (some (dd + 1, st0))) := by rw [hV1]; exact HSWW.out.setDeep (by omega)
 have HX1 : Hid (FX (XS g nv) (XS g nv) W V1) := by rw [hV1]; exact FX.set_g _
 obtain ⟨ga1, gbad1, gdv1, gnm1, hg1, _, _, hgb1, hgd1, _⟩ := HS1.out.ex
 subst hgb1 hgd1
 clear c0 c1 c2 c3 c4 f2 f3
 obtain ⟨c0, c1, c2, c3, c4, cf⟩ := b5f hg1
 have f2 := cf 2
 clear hV1 hg1 cf
 have HPW : Hid _ := HPR.out nv V1 HS1.out
 go_upto_region 5 with fail
 go_wp2_with (go_at_call 41; go_loud (refine Calls.mono HPW.out ?_); rintro e w5 ⟨v, pr0, rfl, ⟨t0, F0, nv0, ht, hR, hs, hx⟩, hpr⟩; have HT5 : Hid (TOk 24 (XS g nv0) V1.heap.size w5 t0 v F0) := ht; have HR5 : Hid (∀ y, (RP.map fun y => (y.1, y.2.2)) = some y → t0 = y.1) := hR; have HS5 : Hid (SRd g L lv nv0 w5 ((RP.map fun y => (y.1, y.2.2)).map fun y => (dd + 1, y.2))) := hs; have HX5 : Hid (FX (XS g nv) (XS g nv0) V1 w5) := hx; have HPP : Hid (∀ y, RP = some y → pr0 = y.2.1) := hpr; obtain ⟨j1, j2, j3, j4, j5, j6, rfl⟩ := ht.form; clear ht hR hs hx hpr)
 obtain ⟨W6, hW6⟩ : ∃ W6, W6 = w5.alloc (.cells #[.int .i64 j1, .string j2, .int .i64 j3, .slice j4 j5 j6] 24) := ⟨_, rfl⟩
 rw [← hW6]
 obtain ⟨B5, hB5⟩ : ∃ B5, B5 = w5.heap.size := ⟨_, rfl⟩
 rw [← hB5]
 have b6 : Below w5.heap.size w5 W6 := by rw [hW6]; exact (Below.refl _ _).alloc (Nat.le_refl _) _
 have HK6 : Hid (W6.heap[B5]? = some (.cells #[.int .i64 j1, .string j2, .int .i64 j3, .slice j4 j5 j6] 24 (0, 0))) := by rw [hW6, hB5]; exact heap_alloc_new _ _
 have hxs1 := HX1.out.size
 have hxs5 := HX5.out.size
 have HB5 : Hid (W.heap.size ≤ B5) := by show _ ≤ _; omega
 have HN6 : Hid (¬ XS g nv0 B5) := HS5.out.xnew _ (by omega)
 have HT6 : Hid (TOk 24 (XB g nv0 B5) W.heap.size W6 t0 (.agg #[.int .i64 j1, .string j2, .int .i64 j3, .slice j4 j5 j6]) F0) := by
   have h5 : TOk 24 (XB g nv0 B5) W.heap.size w5 t0 (.agg #[.int .i64 j1, .string j2, .int .i64 j3, .slice j4 j5 j6]) F0 := ⟨HT5.out.own, HT5.out.nd, fun f hf => ⟨by have := (HT5.out.out f hf).1; omega, fun hx => hx.elim (HT5.out.out f hf).2 (fun e => by have := HT5.out.lt f hf; omega)⟩⟩
   exact h5.step (FX.of_below b6)
 have HS6 : Hid (SRd g L lv nv0 W6 (RP.map fun y => (dd + 1, y.2.2))) := by
   have := HS5.out.keep b6
   rw [Option.map_map] at this
   exact this
 have HX6 : Hid (FX (XS g nv) (XS g nv0) W W6) := (HX1.out.trans HX5.out).trans (FX.of_below b6)
 have HI6 : Hid (TermI f (dd + 1) most (RP.map fun y => (dd + 1, y.2.2)) t0 pr0 T) := by
   have e := HTP.out
   have h1 := HR5.out
   have h2 := HPP.out
   cases RP with
   | none => exact Or.inl ⟨rfl, e⟩
   | some y =>
     refine Or.inr ⟨y.2.2, rfl, ?_⟩
     rw [h1 (y.1, y.2.2) rfl, h2 y rfl, e]
     rfl
 clear hW6 hB5 b6 hxs1 hxs5 HT5 HR5 HS5 HPP HPW HPR HTP c0 c1 c2 c3 c4 f2 d130
 go_loopw [6] (fun vp wr => ∃ (nv' : Value) (t : Tm) (pr : Int) (i1 : Int) (i2 : ByteArray) (i3 : Int) (i4 : Option Addr) (i5 i6 : Nat) (F : List Nat) (o : Option (Nat × St)), vp = .int .i64 pr ∧ Hid (wr.heap[B5]? = some (.cells #[.int .i64 i1, .string i2, .int .i64 i3, .slice i4 i5 i6] 24 (0, 0))) ∧ Hid (TOk 24 (XB g nv' B5) W.heap.size wr t (.agg #[.int .i64 i1, .string i2, .int .i64 i3, .slice i4 i5 i6]) F) ∧ Hid (SRd g L lv nv' wr o) ∧ Hid (FX (XS g nv) (XS g nv') W wr) ∧ Hid (¬ XS g nv' B5) ∧ Hid (TermI f (dd + 1) most o t pr T)) (fun _ wr => msr g L.length wr)
 case atStart => exact ⟨nv0, t0, pr0, j1, j2, j3, j4, j5, j6, F0, _, rfl, HK6.out, HT6.out, HS6.out, HX6.out, HN6.out, HI6.out⟩
 case round =>
   obtain ⟨nv', t, pr, i1, i2, i3, i4, i5, i6, F, o, rfl, HK, HTT1, HS, HX, HN, HI⟩ := hrel
   clear HK6 HT6 HS6 HX6 HN6 HI6
   rcases HI.out with ⟨rfl, hTn⟩ | ⟨st, rfl, hTs⟩
   · have HSZ : Hid (SRd g L lv nv' wr none) := HS.out
     have HTZ : Hid (T = none) := hTn
     have HKZ : Hid _ := HK.out
     have HTLZ : Hid _ := HTT1.out
     have HXZ : Hid _ := HX.out
     clear hTn
     obtain ⟨ga2, dv2, hg2⟩ := HSZ.out.bad
     obtain ⟨c0, c1, c2, c3, c4, cf⟩ := b5f hg2
     have f3 := cf 3
     clear hg2 cf
     go_upto_region 14 with fail
     obtain ⟨V, hV⟩ : ∃ V, V = wr.setCell ⟨g, 3, none⟩ (.int .i64 (wrap64 (dv2 - 1))) := ⟨_, rfl⟩
     rw [← hV]
     have hBg : B5 ≠ g := by have := HB5.out; have := HSWW.out.lt; omega
     have HSV : Hid (SRd g L lv nv' V (T.map fun y => (dd, y.2))) := by rw [hV, HTZ.out]; exact HSZ.out.setDeepB _
     have HKV : Hid (V.heap[B5]? = some (.cells #[.int .i64 i1, .string i2, .int .i64 i3, .slice i4 i5 i6] 24 (0, 0))) := by rw [hV, set_oth5 _ hBg]; exact HKZ.out
     have HTV : Hid (TOk 24 (XS g nv') W.heap.size V t (.agg #[.int .i64 i1, .string i2, .int .i64 i3, .slice i4 i5 i6]) F) := by rw [hV]; exact HTLZ.out.weak.step (FX.set_g _)
     have HXT : Hid (FX (XS g nv) (XS g nv') W V) := by rw [hV]; exact HXZ.out.trans (FX.set_g _)
     have hk := res_keep HS0.out HSW.out HXT.out HKW.out
     obtain ⟨z0, z1, z2, z3, q0, q1, q2, q3⟩ := blk4 hk
     obtain ⟨b0, b1, b2, b3, _⟩ := blk4 HKV.out
     have HK9 : Hid _ := hk
     clear hk hV c0 c1 c2 c3 c4 f3
     go_wp2
     refine bodyPost_ret_by (results_cell_row rfl _ _ w.heap.size 24 _ (0, 0) _ rfl (blk4_set HK9.out) Tryz.underlying24 rfl (by kernel_rfl)) rfl ?_
     exact ⟨_, rfl, TmR.fin HS0.out HBW.out HSW.out HXT.out HTV.out (by intro y hy; rw [HTZ.out] at hy; cases hy) HSV.out⟩
   · obtain ⟨io, hio⟩ : ∃ io, io = infixO st.rest := ⟨_, rfl⟩
     have HIF := s_infix g L lv nv' (dd + 1) st wr HS.out
     rw [← hio] at HIF
     obtain ⟨os, o1, o2, o3, eo⟩ := opV_shape io
     rw [eo] at HIF
     obtain ⟨ob, hob⟩ : ∃ ob, ob = io.isSome := ⟨_, rfl⟩
     rw [← hob] at HIF
     have HIF : Hid _ := HIF
     rw [infO_step, ← hio] at hTs
     obtain ⟨ga, gbad, gdv, gnm, hg0, _, _, hgb, _⟩ := HS.out.ex
     subst hgb
     obtain ⟨c0, c1, c2, c3, c4, cf⟩ := b5f hg0
     have HMS : Hid (msr g L.length wr = st.rest.length + 1) := msr_some HS.out
     clear hg0 cf c0 c1 c3 c4
     have HO : Hid (opV io = .agg #[.string os, .int .i64 o1, .int .i64 o2, .int .i64 o3]) := eo
     have HIO : Hid (io = infixO st.rest) := hio
     have HC : Hid ((ob = false ∧ T = some (t, st)) ∨ (ob = true ∧ ((most < o1 ∧ T = some (t, st)) ∨ (¬ most < o1 ∧ o2 < pr ∧ T = some (t, st)) ∨ (¬ most < o1 ∧ ¬ o2 < pr ∧ os.size ≤ maxLen ∧ (∃ x r', st.rest = x :: r') ∧ T = contO f most t os o1 (termO true f o3 ⟨st.rest.tail, st.names⟩))))) := by
       cases io with
       | none => exact Or.inl ⟨hob, hTs.symm⟩
       | some op =>
         obtain ⟨p0, p1, p2, p3⟩ := op
         simp [opV] at eo
         obtain ⟨rfl, rfl, rfl, rfl⟩ := eo
         refine Or.inr ⟨hob, ?_⟩
         simp only at hTs
         by_cases h1 : most < p1
         · rw [if_pos (Or.inl h1)] at hTs; exact Or.inl ⟨h1, hTs.symm⟩
         · by_cases h2 : p2 < pr
           · rw [if_pos (Or.inr h2)] at hTs; exact Or.inr (Or.inl ⟨h1, h2, hTs.symm⟩)
           · rw [if_neg (fun h => h.elim h1 h2)] at hTs
             obtain ⟨h3, h4⟩ := infixO_small hio.symm
             exact Or.inr (Or.inr ⟨h1, h2, h3, h4, hTs.symm⟩)
     clear hTs hio eo hob HIO HO
     rcases HC.out with ⟨rfl, hTb⟩ | ⟨rfl, ⟨h1, hTb⟩ | ⟨h1, h2, hTb⟩ | ⟨h1, h2, h3, h4, hTb⟩⟩
     · have HTZ : Hid (T = some (t, st)) := hTb
       clear hTb HC
       go_upto_region 8 with (go_at_call 42; go_loud (refine Calls.mono HIF.out ?_); rintro e w7 ⟨rfl, hb⟩; have HB7 : Hid (Below wr.heap.size wr w7) := hb; clear hb)
       obtain ⟨W7, hW7⟩ : ∃ W7, W7 = w7.alloc (.cells #[.string os, .int .i64 o1, .int .i64 o2, .int .i64 o3] 72) := ⟨_, rfl⟩
       rw [← hW7]
       obtain ⟨B7, hB7⟩ : ∃ B7, B7 = w7.heap.size := ⟨_, rfl⟩
       rw [← hB7]
       have b7 : Below wr.heap.size wr W7 := HB7.out.trans (by rw [hW7]; exact ((Below.refl _ _).alloc (Nat.le_refl _) _).mono HB7.out.size)
       have HBB7 : Hid (wr.heap.size ≤ B7) := by show _ ≤ _; rw [hB7]; exact HB7.out.size
       have HK7 : Hid (W7.heap[B7]? = some (.cells #[.string os, .int .i64 o1, .int .i64 o2, .int .i64 o3] 72 (0, 0))) := by rw [hW7, hB7]; exact heap_alloc_new _ _
       have HKZ : Hid (W7.heap[B5]? = some (.cells #[.int .i64 i1, .string i2, .int .i64 i3, .slice i4 i5 i6] 24 (0, 0))) := (b7.block B5 (Array.getElem?_eq_some_iff.1 HK.out).1).trans HK.out
       have HTLZ : Hid (TOk 24 (XB g nv' B5) W.heap.size W7 t (.agg #[.int .i64 i1, .string i2, .int .i64 i3, .slice i4 i5 i6]) F) := HTT1.out.step (FX.of_below b7)
       have HSZ : Hid (SRd g L lv nv' W7 (some (dd + 1, st))) := HS.out.keep b7
       have HXZ : Hid (FX (XS g nv) (XS g nv') W W7) := HX.out.trans (FX.of_below b7)
       clear hW7 hB7 b7 c2
       obtain ⟨p0, p1, p2, p3, _⟩ := blk4 HK7.out
       go_upto_region 13 with fail
       obtain ⟨ga2, gbad2, gdv2, gnm2, hg2, _, _, hgb2, hgd2, _⟩ := HSZ.out.ex
       subst hgb2 hgd2
       obtain ⟨c0, c1, c2, c3, c4, cf⟩ := b5f hg2
       obtain ⟨d1, hd1⟩ : ∃ d1, d1 = dd + 1 := ⟨_, rfl⟩
       rw [← hd1] at c3
       have hsubd : (d1 : Int) - 1 = (dd : Int) := by omega
       have hd13 : (d1 : Int) ≤ 130 := by omega
       have f3 := cf 3
       clear hg2 cf hd1
       go_upto_region 14 with fail
       obtain ⟨V, hV⟩ : ∃ V, V = W7.setCell ⟨g, 3, none⟩ (.int .i64 (dd : Int)) := ⟨_, rfl⟩
       rw [← hV]
       have hBg : B5 ≠ g := by have := HB5.out; have := HSWW.out.lt; omega
       have HSV : Hid (SRd g L lv nv' V (T.map fun y => (dd, y.2))) := by rw [hV, HTZ.out]; exact HSZ.out.setDeep rfl
       have HKV : Hid (V.heap[B5]? = some (.cells #[.int .i64 i1, .string i2, .int .i64 i3, .slice i4 i5 i6] 24 (0, 0))) := by rw [hV, set_oth5 _ hBg]; exact HKZ.out
       have HTV : Hid (TOk 24 (XS g nv') W.heap.size V t (.agg #[.int .i64 i1, .string i2, .int .i64 i3, .slice i4 i5 i6]) F) := by rw [hV]; exact HTLZ.out.weak.step (FX.set_g _)
       have HXT : Hid (FX (XS g nv) (XS g nv') W V) := by rw [hV]; exact HXZ.out.trans (FX.set_g _)
       have hk := res_keep HS0.out HSW.out HXT.out HKW.out
       obtain ⟨z0, z1, z2, z3, q0, q1, q2, q3⟩ := blk4 hk
       obtain ⟨b0, b1, b2, b3, _⟩ := blk4 HKV.out
       have HK9 : Hid _ := hk
       clear hk hV c0 c1 c2 c3 c4 f3
       go_wp2
       refine bodyPost_ret_by (results_cell_row rfl _ _ w.heap.size 24 _ (0, 0) _ rfl (blk4_set HK9.out) Tryz.underlying24 rfl (by kernel_rfl)) rfl ?_
       exact ⟨_, rfl, TmR.fin HS0.out HBW.out HSW.out HXT.out HTV.out (by intro y hy; rw [HTZ.out] at hy; cases hy; rfl) HSV.out⟩
     · have HTZ : Hid (T = some (t, st)) := hTb
       have e1 : decide (most < o1) = true := decide_eq_true h1
       clear hTb HC h1
       go_upto_region 8 with (go_at_call 42; go_loud (refine Calls.mono HIF.out ?_); rintro e w7 ⟨rfl, hb⟩; have HB7 : Hid (Below wr.heap.size wr w7) := hb; clear hb)
       obtain ⟨W7, hW7⟩ : ∃ W7, W7 = w7.alloc (.cells #[.string os, .int .i64 o1, .int .i64 o2, .int .i64 o3] 72) := ⟨_, rfl⟩
       rw [← hW7]
       obtain ⟨B7, hB7⟩ : ∃ B7, B7 = w7.heap.size := ⟨_, rfl⟩
       rw [← hB7]
       have b7 : Below wr.heap.size wr W7 := HB7.out.trans (by rw [hW7]; exact ((Below.refl _ _).alloc (Nat.le_refl _) _).mono HB7.out.size)
       have HBB7 : Hid (wr.heap.size ≤ B7) := by show _ ≤ _; rw [hB7]; exact HB7.out.size
       have HK7 : Hid (W7.heap[B7]? = some (.cells #[.string os, .int .i64 o1, .int .i64 o2, .int .i64 o3] 72 (0, 0))) := by rw [hW7, hB7]; exact heap_alloc_new _ _
       have HKZ : Hid (W7.heap[B5]? = some (.cells #[.int .i64 i1, .string i2, .int .i64 i3, .slice i4 i5 i6] 24 (0, 0))) := (b7.block B5 (Array.getElem?_eq_some_iff.1 HK.out).1).trans HK.out
       have HTLZ : Hid (TOk 24 (XB g nv' B5) W.heap.size W7 t (.agg #[.int .i64 i1, .string i2, .int .i64 i3, .slice i4 i5 i6]) F) := HTT1.out.step (FX.of_below b7)
       have HSZ : Hid (SRd g L lv nv' W7 (some (dd + 1, st))) := HS.out.keep b7
       have HXZ : Hid (FX (XS g nv) (XS g nv') W W7) := HX.out.trans (FX.of_below b7)
       clear hW7 hB7 b7 c2
       obtain ⟨p0, p1, p2, p3, _⟩ := blk4 HK7.out
       go_upto_region 13 with fail
       obtain ⟨ga2, gbad2, gdv2, gnm2, hg2, _, _, hgb2, hgd2, _⟩ := HSZ.out.ex
       subst hgb2 hgd2
       obtain ⟨c0, c1, c2, c3, c4, cf⟩ := b5f hg2
       obtain ⟨d1, hd1⟩ : ∃ d1, d1 = dd + 1 := ⟨_, rfl⟩
       rw [← hd1] at c3
       have hsubd : (d1 : Int) - 1 = (dd : Int) := by omega
       have hd13 : (d1 : Int) ≤ 130 := by omega
       have f3 := cf 3
       clear hg2 cf hd1
       go_upto_region 14 with fail
       obtain ⟨V, hV⟩ : ∃ V, V = W7.setCell ⟨g, 3, none⟩ (.int .i64 (dd : Int)) := ⟨_, rfl⟩
       rw [← hV]
       have hBg : B5 ≠ g := by have := HB5.out; have := HSWW.out.lt; omega
       have HSV : Hid (SRd g L lv nv' V (T.map fun y => (dd, y.2))) := by rw [hV, HTZ.out]; exact HSZ.out.setDeep rfl
       have HKV : Hid (V.heap[B5]? = some (.cells #[.int .i64 i1, .string i2, .int .i64 i3, .slice i4 i5 i6] 24 (0, 0))) := by rw [hV, set_oth5 _ hBg]; exact HKZ.out
       have HTV : Hid (TOk 24 (XS g nv') W.heap.size V t (.agg #[.int .i64 i1, .string i2, .int .i64 i3, .slice i4 i5 i6]) F) := by rw [hV]; exact HTLZ.out.weak.step (FX.set_g _)
       have HXT : Hid (FX (XS g nv) (XS g nv') W V) := by rw [hV]; exact HXZ.out.trans (FX.set_g _)
       have hk := res_keep HS0.out HSW.out HXT.out HKW.out
       obtain ⟨z0, z1, z2, z3, q0, q1, q2, q3⟩ := blk4 hk
       obtain ⟨b0, b1, b2, b3, _⟩ := blk4 HKV.out
       have HK9 : Hid _ := hk
       clear hk hV c0 c1 c2 c3 c4 f3
       go_wp2
       refine bodyPost_ret_by (results_cell_row rfl _ _ w.heap.size 24 _ (0, 0) _ rfl (blk4_set HK9.out) Tryz.underlying24 rfl (by kernel_rfl)) rfl ?_
       exact ⟨_, rfl, TmR.fin HS0.out HBW.out HSW.out HXT.out HTV.out (by intro y hy; rw [HTZ.out] at hy; cases hy; rfl) HSV.out⟩
     · have HTZ : Hid (T = some (t, st)) := hTb
       have e1 : decide (most < o1) = false := decide_eq_false h1
       have e2 : decide (o2 < pr) = true := decide_eq_true h2
       clear hTb HC h1 h2
       go_upto_region 8 with (go_at_call 42; go_loud (refine Calls.mono HIF.out ?_); rintro e w7 ⟨rfl, hb⟩; have HB7 : Hid (Below wr.heap.size wr w7) := hb; clear hb)
       obtain ⟨W7, hW7⟩ : ∃ W7, W7 = w7.alloc (.cells #[.string os, .int .i64 o1, .int .i64 o2, .int .i64 o3] 72) := ⟨_, rfl⟩
       rw [← hW7]
       obtain ⟨B7, hB7⟩ : ∃ B7, B7 = w7.heap.size := ⟨_, rfl⟩
       rw [← hB7]
       have b7 : Below wr.heap.size wr W7 := HB7.out.trans (by rw [hW7]; exact ((Below.refl _ _).alloc (Nat.le_refl _) _).mono HB7.out.size)
       have HBB7 : Hid (wr.heap.size ≤ B7) := by show _ ≤ _; rw [hB7]; exact HB7.out.size
       have HK7 : Hid (W7.heap[B7]? = some (.cells #[.string os, .int .i64 o1, .int .i64 o2, .int .i64 o3] 72 (0, 0))) := by rw [hW7, hB7]; exact heap_alloc_new _ _
       have HKZ : Hid (W7.heap[B5]? = some (.cells #[.int .i64 i1, .string i2, .int .i64 i3, .slice i4 i5 i6] 24 (0, 0))) := (b7.block B5 (Array.getElem?_eq_some_iff.1 HK.out).1).trans HK.out
       have HTLZ : Hid (TOk 24 (XB g nv' B5) W.heap.size W7 t (.agg #[.int .i64 i1, .string i2, .int .i64 i3, .slice i4 i5 i6]) F) := HTT1.out.step (FX.of_below b7)
       have HSZ : Hid (SRd g L lv nv' W7 (some (dd + 1, st))) := HS.out.keep b7
       have HXZ : Hid (FX (XS g nv) (XS g nv') W W7) := HX.out.trans (FX.of_below b7)
       clear hW7 hB7 b7 c2
       obtain ⟨p0, p1, p2, p3, _⟩ := blk4 HK7.out
       go_upto_region 13 with fail
       obtain ⟨ga2, gbad2, gdv2, gnm2, hg2, _, _, hgb2, hgd2, _⟩ := HSZ.out.ex
       subst hgb2 hgd2
       obtain ⟨c0, c1, c2, c3, c4, cf⟩ := b5f hg2
       obtain ⟨d1, hd1⟩ : ∃ d1, d1 = dd + 1 := ⟨_, rfl⟩
       rw [← hd1] at c3
       have hsubd : (d1 : Int) - 1 = (dd : Int) := by omega
       have hd13 : (d1 : Int) ≤ 130 := by omega
       have f3 := cf 3
       clear hg2 cf hd1
       go_upto_region 14 with fail
       obtain ⟨V, hV⟩ : ∃ V, V = W7.setCell ⟨g, 3, none⟩ (.int .i64 (dd : Int)) := ⟨_, rfl⟩
       rw [← hV]
       have hBg : B5 ≠ g := by have := HB5.out; have := HSWW.out.lt; omega
       have HSV : Hid (SRd g L lv nv' V (T.map fun y => (dd, y.2))) := by rw [hV, HTZ.out]; exact HSZ.out.setDeep rfl
       have HKV : Hid (V.heap[B5]? = some (.cells #[.int .i64 i1, .string i2, .int .i64 i3, .slice i4 i5 i6] 24 (0, 0))) := by rw [hV, set_oth5 _ hBg]; exact HKZ.out
       have HTV : Hid (TOk 24 (XS g nv') W.heap.size V t (.agg #[.int .i64 i1, .string i2, .int .i64 i3, .slice i4 i5 i6]) F) := by rw [hV]; exact HTLZ.out.weak.step (FX.set_g _)
       have HXT : Hid (FX (XS g nv) (XS g nv') W V) := by rw [hV]; exact HXZ.out.trans (FX.set_g _)
       have hk := res_keep HS0.out HSW.out HXT.out HKW.out
       obtain ⟨z0, z1, z2, z3, q0, q1, q2, q3⟩ := blk4 hk
       obtain ⟨b0, b1, b2, b3, _⟩ := blk4 HKV.out
       have HK9 : Hid _ := hk
       clear hk hV c0 c1 c2 c3 c4 f3
       go_wp2
       refine bodyPost_ret_by (results_cell_row rfl _ _ w.heap.size 24 _ (0, 0) _ rfl (blk4_set HK9.out) Tryz.underlying24 rfl (by kernel_rfl)) rfl ?_
       exact ⟨_, rfl, TmR.fin HS0.out HBW.out HSW.out HXT.out HTV.out (by intro y hy; rw [HTZ.out] at hy; cases hy; rfl) HSV.out⟩
     · obtain ⟨R1, hR1⟩ : ∃ R1, R1 = termO true f o3 ⟨st.rest.tail, st.names⟩ := ⟨_, rfl⟩
       have HTC : Hid (T = contO f most t os o1 R1) := by rw [hR1]; exact hTb
       have HTM : Hid (∀ W', SRd g L lv nv' W' (some (dd + 1, ⟨st.rest.tail, st.names⟩)) → Calls Tryz.prog 27 #[.pointer (some ⟨g, 0, none⟩), .int .i64 o3] W' fun e w' => ∃ v, e = .returned v ∧ TmR g L lv nv' W' v w' R1 (dd + 1)) := by
         intro W' hs
         have := HTT.out o3 nv' W' _ hs
         rw [← hR1] at this
         exact this
       have HSH : Hid (∀ y, R1 = some y → y.2.rest.length < st.rest.length) := by
         intro y hy
         rw [hR1] at hy
         have := termO_short true f _ _ y.1 y.2 hy
         simp only [List.length_tail] at this
         omega
       have HOS : Hid (os.size ≤ maxLen) := h3
       have HCO : Hid (∃ x r', st.rest = x :: r') := h4
       have e1 : decide (most < o1) = false := decide_eq_false h1
       have e2 : decide (o2 < pr) = false := decide_eq_false h2
       clear hTb HC h1 h2 h3 h4 hR1
       go_upto_region 8 with (go_at_call 42; go_loud (refine Calls.mono HIF.out ?_); rintro e w7 ⟨rfl, hb⟩; have HB7 : Hid (Below wr.heap.size wr w7) := hb; clear hb)
       obtain ⟨W7, hW7⟩ : ∃ W7, W7 = w7.alloc (.cells #[.string os, .int .i64 o1, .int .i64 o2, .int .i64 o3] 72) := ⟨_, rfl⟩
       rw [← hW7]
       obtain ⟨B7, hB7⟩ : ∃ B7, B7 = w7.heap.size := ⟨_, rfl⟩
       rw [← hB7]
       have b7 : Below wr.heap.size wr W7 := HB7.out.trans (by rw [hW7]; exact ((Below.refl _ _).alloc (Nat.le_refl _) _).mono HB7.out.size)
       have HBB7 : Hid (wr.heap.size ≤ B7) := by show _ ≤ _; rw [hB7]; exact HB7.out.size
       have HK7 : Hid (W7.heap[B7]? = some (.cells #[.string os, .int .i64 o1, .int .i64 o2, .int .i64 o3] 72 (0, 0))) := by rw [hW7, hB7]; exact heap_alloc_new _ _
       have HKZ : Hid (W7.heap[B5]? = some (.cells #[.int .i64 i1, .string i2, .int .i64 i3, .slice i4 i5 i6] 24 (0, 0))) := (b7.block B5 (Array.getElem?_eq_some_iff.1 HK.out).1).trans HK.out
       have HTLZ : Hid (TOk 24 (XB g nv' B5) W.heap.size W7 t (.agg #[.int .i64 i1, .string i2, .int .i64 i3, .slice i4 i5 i6]) F) := HTT1.out.step (FX.of_below b7)
       have HSZ : Hid (SRd g L lv nv' W7 (some (dd + 1, st))) := HS.out.keep b7
       have HXZ : Hid (FX (XS g nv) (XS g nv') W W7) := HX.out.trans (FX.of_below b7)
       clear hW7 hB7 b7 c2
       obtain ⟨p0, p1, p2, p3, _⟩ := blk4 HK7.out
       obtain ⟨x, r', hxr⟩ := HCO.out
       have S7 := HSZ.out
       obtain ⟨rest, names⟩ := st
       simp only at hxr
       subst hxr
       obtain ⟨p, lb, cap, hlv, hp, hd, hnm, hg7, hl7, hn7, _⟩ := S7.sign
       obtain ⟨c0, c1, c2, c3, c4, cf⟩ := b5f hg7
       have f1 := cf 1
       have hp3 : (p : Int) ≤ 3000 := by have := HL.out; omega
       have HRAW : Hid (W7.heap[g]? = some (.cells #[lv, .int .i64 (p : Int), .bool false, .int .i64 ((dd + 1 : Nat) : Int), nv'] 52 (0, 0)) ∧ LIn W7 g L lv ∧ NRow W7 (g + 1) names nv' ∧ p < L.length ∧ L.drop (p + 1) = r' ∧ names.length ≤ p) := ⟨hg7, hl7, hn7, hp, hd, hnm⟩
       clear S7 hlv hp hd hnm hg7 hl7 hn7 cf c0 c2 c3 c4
       go_upto_region 10 with fail
       obtain ⟨V10, hV10⟩ : ∃ V10, V10 = W7.setCell ⟨g, 1, none⟩ (.int .i64 ((p : Int) + 1)) := ⟨_, rfl⟩
       rw [← hV10]
       obtain ⟨r1, r2, r3, r4, r5, r6⟩ := HRAW.out
       have S10 : SRd g L lv nv' V10 (some (dd + 1, ⟨r', names⟩)) := by rw [hV10]; exact SRd.go 1 r1 r2 r3 (by omega) r5 r6 (by omega)
       have hgW := HSWW.out.lt
       have hB5 := HB5.out
       have hwr := HX.out.size
       have hB7 := HBB7.out
       have HX10 : Hid (FX (XS g nv') (XS g nv') W7 V10) := by rw [hV10]; exact FX.set_g _
       have HK107 : Hid (V10.heap[B7]? = some (.cells #[.string os, .int .i64 o1, .int .i64 o2, .int .i64 o3] 72 (0, 0))) := by rw [hV10, set_oth5 _ (by omega)]; exact HK7.out
       have HK105 : Hid (V10.heap[B5]? = some (.cells #[.int .i64 i1, .string i2, .int .i64 i3, .slice i4 i5 i6] 24 (0, 0))) := by rw [hV10, set_oth5 _ (by omega)]; exact HKZ.out
       have HTW : Hid _ := HTM.out V10 S10
       have HN7 : Hid (¬ XS g nv' B7) := HS.out.xnew _ hB7
       obtain ⟨p0, p1, p2, p3, _⟩ := blk4 HK107.out
       clear hV10 S10 r1 r2 r3 r4 r5 r6 c1 f1 hgW hB5 hwr hB7
       go_upto_region 11 with (go_at_call 27; go_loud (refine Calls.mono HTW.out ?_); rintro e w11 ⟨v, rfl, y, Fy, nv2, ht, hR, hs, hx⟩; have HT11 : Hid (TOk 24 (XS g nv2) V10.heap.size w11 y v Fy) := ht; have HR11 : Hid (∀ z, R1 = some z → y = z.1) := hR; have HS11 : Hid (SRd g L lv nv2 w11 (R1.map fun z => (dd + 1, z.2))) := hs; have HX11 : Hid (FX (XS g nv') (XS g nv2) V10 w11) := hx; obtain ⟨y1, y2, y3, y4, y5, y6, rfl⟩ := ht.form; clear ht hR hs hx)
       obtain ⟨W11, hW11⟩ : ∃ W11, W11 = w11.alloc (.cells #[.int .i64 y1, .string y2, .int .i64 y3, .slice y4 y5 y6] 24) := ⟨_, rfl⟩
       rw [← hW11]
       obtain ⟨B9, hB9⟩ : ∃ B9, B9 = w11.heap.size := ⟨_, rfl⟩
       rw [← hB9]
       have b11 : Below w11.heap.size w11 W11 := by rw [hW11]; exact (Below.refl _ _).alloc (Nat.le_refl _) _
       have l7 : B7 < V10.heap.size := (Array.getElem?_eq_some_iff.1 HK107.out).1
       have l5 : B5 < V10.heap.size := (Array.getElem?_eq_some_iff.1 HK105.out).1
       have hx11 := HX11.out.size
       have k9 : W11.heap[B9]? = some (.cells #[.int .i64 y1, .string y2, .int .i64 y3, .slice y4 y5 y6] 24 (0, 0)) := by rw [hW11, hB9]; exact heap_alloc_new _ _
       have HK7b : Hid (W11.heap[B7]? = some (.cells #[.string os, .int .i64 o1, .int .i64 o2, .int .i64 o3] 72 (0, 0))) := (b11.block B7 (by omega)).trans ((HX11.out.block B7 l7 HN7.out).trans HK107.out)
       have HK5b : Hid (W11.heap[B5]? = some (.cells #[.int .i64 i1, .string i2, .int .i64 i3, .slice i4 i5 i6] 24 (0, 0))) := (b11.block B5 (by omega)).trans ((HX11.out.block B5 l5 HN.out).trans HK105.out)
       have HNb : Hid (¬ XS g nv2 B5) := XS_keep HN.out HX11.out l5
       have HNb7 : Hid (¬ XS g nv2 B7) := XS_keep HN7.out HX11.out l7
       have x7 : FX (XS g nv') (XS g nv2) W7 W11 := (HX10.out.trans HX11.out).trans (FX.of_below b11)
       have HTt : Hid (TOk 24 (XB g nv2 B5) W.heap.size W11 t (.agg #[.int .i64 i1, .string i2, .int .i64 i3, .slice i4 i5 i6]) F) := HTLZ.out.step x7.lift
       have hxz := HXZ.out.size
       have hx10 := HX10.out.size
       have HTy : Hid (TOk 24 (XB g nv2 B5) W.heap.size W11 y (.agg #[.int .i64 y1, .string y2, .int .i64 y3, .slice y4 y5 y6]) Fy) := ((HT11.out.lift l5).lo_le (by omega)).step (FX.of_below b11)
       have HDD : Hid (∀ f ∈ F, ∀ h ∈ Fy, f ≠ h) := fun f hf h hh => by have := HTLZ.out.lt f hf; have := (HT11.out.out h hh).1; omega
       have HSb : Hid (SRd g L lv nv2 W11 (R1.map fun z => (dd + 1, z.2))) := HS11.out.keep b11
       have HXb : Hid (FX (XS g nv) (XS g nv2) W W11) := HXZ.out.trans x7
       have HTWO : Hid _ := s_two (XB g nv2 B5) W.heap.size os t y _ _ F Fy W11 HTt.out HTy.out HDD.out HXb.out.size (fun k hk hx => hx.elim (HSb.out.xnew k hk) (fun e => by have := (Array.getElem?_eq_some_iff.1 HK5b.out).1; omega)) HOS.out
       obtain ⟨n0, n1, n2, n3, _⟩ := blk4 k9
       obtain ⟨b0, b1, b2, b3, fb0, fb1, fb2, fb3⟩ := blk4 HK5b.out
       obtain ⟨p0, p1, p2, p3, _⟩ := blk4 HK7b.out
       have hB57 : B5 ≠ B7 := by have := (Array.getElem?_eq_some_iff.1 HK.out).1; have := HBB7.out; omega
       clear hW11 hB9 b11 l7 l5 hx11 k9 x7 hxz hx10
       go_upto_region 12 with (go_at_call 43; go_loud (refine Calls.mono HTWO.out ?_); rintro e w12 ⟨v, Fn, rfl, ht, hsub, hb⟩; have HTn : Hid (TOk 24 (XB g nv2 B5) W.heap.size w12 (structTm os [t, y]) v Fn) := ht; have HB12 : Hid (Below W11.heap.size W11 w12) := hb; obtain ⟨h1, h2, h3, h4, h5, h6, rfl⟩ := ht.form; have hk5 := (hb.block B5 (Array.getElem?_eq_some_iff.1 HK5b.out).1).trans HK5b.out; obtain ⟨m0, m1, m2, m3, fm0, fm1, fm2, fm3⟩ := blk4 hk5; have HK12 : Hid _ := hk5; clear ht hsub hb hk5)
       obtain ⟨V12, hV12⟩ : ∃ V12, V12 = (((w12.setCell ⟨B5, 0, none⟩ (.int .i64 h1)).setCell ⟨B5, 1, none⟩ (.string h2)).setCell ⟨B5, 2, none⟩ (.int .i64 h3)).setCell ⟨B5, 3, none⟩ (.slice h4 h5 h6) := ⟨_, rfl⟩
       rw [← hV12]
       have hgB : g ≤ B5 := by have := HB5.out; have := HSWW.out.lt; omega
       have kv5 : V12.heap[B5]? = some (.cells #[.int .i64 h1, .string h2, .int .i64 h3, .slice h4 h5 h6] 24 (0, 0)) := by rw [hV12]; exact blk4_set HK12.out
       have kv7 : V12.heap[B7]? = some (.cells #[.string os, .int .i64 o1, .int .i64 o2, .int .i64 o3] 72 (0, 0)) := by rw [hV12]; exact (blk4_other (Ne.symm hB57)).trans ((HB12.out.block B7 (Array.getElem?_eq_some_iff.1 HK7b.out).1).trans HK7b.out)
       have HTV : Hid (TOk 24 (XB g nv2 B5) W.heap.size V12 (structTm os [t, y]) (.agg #[.int .i64 h1, .string h2, .int .i64 h3, .slice h4 h5 h6]) Fn) := by rw [hV12]; exact HTn.out.turn fun k hk hx => blk4_other (fun e => hx (Or.inr e))
       have HSV : Hid (SRd g L lv nv2 V12 (R1.map fun z => (dd + 1, z.2))) := by
         have s4 := HSb.out.keep HB12.out
         rw [hV12]; exact (((s4.setB HNb.out hgB _).setB HNb.out hgB _).setB HNb.out hgB _).setB HNb.out hgB _
       have HXV : Hid (FX (XS g nv) (XS g nv2) W V12) := by
         have hB5 := HB5.out
         rw [hV12]; exact ((((HXb.out.trans (FX.of_below HB12.out)).set (Or.inr hB5) _).set (Or.inr hB5) _).set (Or.inr hB5) _).set (Or.inr hB5) _
       obtain ⟨p0, p1, p2, p3, _⟩ := blk4 kv7
       have HK5V : Hid _ := kv5
       clear hV12 kv5 kv7 m0 m1 m2 m3 fm0 fm1 fm2 fm3 b0 b1 b2 b3 fb0 fb1 fb2 fb3 n0 n1 n2 n3 hgB hB57
       go_wp2
       go_roundw
       case rel =>
         refine ⟨nv2, structTm os [t, y], o1, h1, h2, h3, h4, h5, h6, Fn, _, rfl, HK5V.out, HTV.out, HSV.out, HXV.out, HNb.out, ?_⟩
         have e := HTC.out
         have hh := HR11.out
         cases R1 with
         | none => exact Or.inl ⟨rfl, e⟩
         | some z =>
           refine Or.inr ⟨z.2, rfl, ?_⟩
           rw [hh z rfl, e]
           rfl
       case measure =>
         rw [HMS.out]
         have hs := HSV.out
         have hsh := HSH.out
         cases R1 with
         | none => rw [msr_none _ hs]; omega
         | some z => rw [msr_some hs]; have := hsh z rfl; omega
theorem s_term (g : Nat) (L : List Sg) (lv : Value) (hL : L.length ≤ 3000) (hO : LOk L) : ∀ f, TermC f g L lv
 | 0 => s_term_zero g L lv
 | f + 1 => s_term_succ f g L lv hL hO (s_term g L lv hL hO f)
end Go.Proofs.YtbkjcccbjnehbanGreatDoor

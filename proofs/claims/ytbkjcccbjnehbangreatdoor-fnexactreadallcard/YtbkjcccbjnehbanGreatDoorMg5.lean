import Derived.Test.YtbkjcccbjnehbanGreatDoorMg4
namespace Go.Proofs.YtbkjcccbjnehbanGreatDoor
open Go.RowKit
theorem c40_ne : (⟨#[40]⟩ : ByteArray).toList ≠ [] := by rw [ByteArray.toList_eq]; decide
theorem c91_ne : (⟨#[91]⟩ : ByteArray).toList ≠ [] := by rw [ByteArray.toList_eq]; decide
theorem mm1 (R : Option (Tm × St)) : (R.map fun y => (y.1, (0 : Int), y.2)).map (fun y => (y.1, y.2.2)) = R := by cases R <;> rfl
def PrR (g : Nat) (L : List Sg) (lv nv : Value) (w : World) (e : Ending) (w' : World) (R : Option (Tm × Int × St)) (d : Nat) : Prop :=
 ∃ v pr, e = .returned (.tuple #[v, .int .i64 pr]) ∧ TmR g L lv nv w v w' (R.map fun y => (y.1, y.2.2)) d ∧ (∀ y, R = some y → pr = y.2.1)
theorem s_at (f g : Nat) (L : List Sg) (lv nv : Value) (e0 : Nat) (most : Int) (xk : Int) (xt : ByteArray) (xn : Int) (xa : Nat) (xb : Bool) (r : List Sg) (names : List ByteArray) (w : World) (hf : e0 + f = 130) (hL : L.length ≤ 3000) (HT : TermC f g L lv) (hxs : xt.size ≤ maxLen) (hxa : xa ≤ 100000) (h : SRd g L lv nv w (some (e0, ⟨⟨xk, xt, xn, xa, xb⟩ :: r, names⟩))) (hnear : xb = true → ∃ r', mk? cLpar r = some r') :
   Calls Tryz.prog 60 #[.pointer (some ⟨g, 0, none⟩), .int .i64 most] w fun e w' => ∃ v pr, e = .returned (.tuple #[v, .int .i64 pr]) ∧ TmR g L lv nv w v w' ((atomO true (termO true f) most ⟨xk, xt, xn, xa, xb⟩ r names).map fun y => (y.1, y.2.2)) e0 ∧ (∀ y, atomO true (termO true f) most ⟨xk, xt, xn, xa, xb⟩ r names = some y → pr = y.2.1) := by
 cases hb : xb with
 | true =>
   subst hb
   exact s_at_near f g L lv nv e0 most xk xt xn xa true r names w hf hL HT hxs h rfl (hnear rfl)
 | false =>
   subst hb
   by_cases hmin : xt = cMinus ∧ nearO ⟨xk, xt, xn, xa, false⟩ r = true
   · exact s_at_minus f g L lv nv e0 most xk xt xn xa false r names w hL hxa h rfl hmin.1 hmin.2
   · have hM : (xt = cMinus ∧ nearO ⟨xk, xt, xn, xa, false⟩ r = false) ∨ xt ≠ cMinus := by
       by_cases h1 : xt = cMinus
       · refine Or.inl ⟨h1, ?_⟩
         cases hn : nearO ⟨xk, xt, xn, xa, false⟩ r with
         | false => rfl
         | true => exact absurd ⟨h1, hn⟩ hmin
       · exact Or.inr h1
     cases hop : prefixP xt with
     | some op =>
       by_cases hpr : op.prio ≤ most
       · exact s_at_prefix f g L lv nv e0 most xk xt xn xa false r names w hf hL HT hxs hxa h rfl hM op hop hpr
       · exact s_at_bad1 f g L lv nv e0 most xk xt xn xa false r names w hL hxa h rfl hM op hop hpr
     | none =>
       cases hin : infixP xt with
       | some ip => exact s_at_bad2 f g L lv nv e0 most xk xt xn xa false r names w hL hxa h rfl hM hop (by rw [hin]; rfl)
       | none => exact s_at_plain f g L lv nv e0 most xk xt xn xa false r names w hL hxs hxa h rfl hM hop hin
set_option maxHeartbeats 8000000 in
set_option maxRecDepth 20000 in
theorem s_pr_bad (f g : Nat) (L : List Sg) (lv nv : Value) (e0 : Nat) (most : Int) (rest : List Sg) (names : List ByteArray) (w : World) (hL : L.length ≤ 3000) (h : SRd g L lv nv w (some (e0, ⟨rest, names⟩))) (hk1 : isO (some (e0, ⟨rest, names⟩)) 1 ⟨#[]⟩ = false) (hm40 : mk? ⟨#[40]⟩ rest = none) (hm91 : mk? ⟨#[91]⟩ rest = none) (hk3 : isO (some (e0, ⟨rest, names⟩)) 3 ⟨#[]⟩ = false) (hk2 : isO (some (e0, ⟨rest, names⟩)) 2 ⟨#[]⟩ = false) (hno : primO true (termO true f) most ⟨rest, names⟩ = none) :
   Calls Tryz.prog 41 #[.pointer (some ⟨g, 0, none⟩), .int .i64 most] w fun e w' => PrR g L lv nv w e w' (primO true (termO true f) most ⟨rest, names⟩) e0 := by
 rw [hno]
 clear hno
 obtain ⟨W, hW⟩ : ∃ W, W = w.alloc (.cells #[.int .i64 0, .string ⟨#[]⟩, .int .i64 0, .slice none 0 0] 24) := ⟨_, rfl⟩
 have bW : Below w.heap.size w W := by rw [hW]; exact (Below.refl _ _).alloc (Nat.le_refl _) _
 have sW : W.heap.size = w.heap.size + 1 := by rw [hW]; simp
 have kW : W.heap[w.heap.size]? = some (.cells #[.int .i64 0, .string ⟨#[]⟩, .int .i64 0, .slice none 0 0] 24 (0, 0)) := by rw [hW]; exact heap_alloc_new _ _
 have HS0 : Hid (SRd g L lv nv w (some (e0, ⟨rest, names⟩))) := h
 have HSWW : Hid (SRd g L lv nv W (some (e0, ⟨rest, names⟩))) := h.keep bW
 have HKW : Hid (W.heap[w.heap.size]? = some (.cells #[.int .i64 0, .string ⟨#[]⟩, .int .i64 0, .slice none 0 0] 24 (0, 0))) := kW
 have HBW : Hid (Below w.heap.size w W) := bW
 have HSW : Hid (W.heap.size = w.heap.size + 1) := sW
 have HL : Hid (L.length ≤ 3000) := hL
 have HI : Hid (∀ k W', Below W.heap.size W W' → Calls Tryz.prog 28 #[.pointer (some ⟨g, 0, none⟩), .int .i64 k, .string ⟨#[]⟩] W' fun e w' => e = .returned (.bool (isO (some (e0, ⟨rest, names⟩)) k ⟨#[]⟩)) ∧ Below W'.heap.size W' w') := fun k W' hb => s_is g L lv nv _ k ⟨#[]⟩ W' (HSWW.out.keep hb)
 have HM : Hid (∀ (l : ByteArray) W', l.toList ≠ [] → mk? l rest = none → Below W.heap.size W W' → Calls Tryz.prog 61 #[.pointer (some ⟨g, 0, none⟩), .string l] W' fun e w' => e = .returned (.bool false) ∧ Below W'.heap.size W' w') := fun l W' hl hr hb => s_mark_no g L lv nv _ l W' hl (HSWW.out.keep hb) (fun d st e => by cases e; exact hr)
 clear h bW sW kW hL
 go_enter Tryz.func41, Tryz.ntmps41
 have HI1 := HI.out 1 W (Below.refl _ _)
 rw [hk1] at HI1
 have HI1 : Hid _ := HI1
 go_upto_region 3 with (go_at_call 28; rw [← hW]; go_loud (refine Calls.mono HI1.out ?_); rintro e w1 ⟨rfl, hb⟩; have HBw1 : Hid (Below W.heap.size W w1) := hb; clear hb hW)
 have HM40 : Hid _ := HM.out ⟨#[40]⟩ w1 c40_ne hm40 HBw1.out
 go_upto_region 5 with (go_at_call 61; go_loud (refine Calls.mono HM40.out ?_); rintro e w2 ⟨rfl, hb⟩; have HBw2 : Hid (Below W.heap.size W w2) := HBw1.out.trans (hb.mono HBw1.out.size); clear hb)
 have HM91 : Hid _ := HM.out ⟨#[91]⟩ w2 c91_ne hm91 HBw2.out
 go_upto_region 7 with (go_at_call 61; go_loud (refine Calls.mono HM91.out ?_); rintro e w3 ⟨rfl, hb⟩; have HBw3 : Hid (Below W.heap.size W w3) := HBw2.out.trans (hb.mono HBw2.out.size); clear hb)
 have HI3 := HI.out 3 w3 HBw3.out
 rw [hk3] at HI3
 have HI3 : Hid _ := HI3
 go_upto_region 10 with (go_at_call 28; go_loud (refine Calls.mono HI3.out ?_); rintro e w4 ⟨rfl, hb⟩; have HBw4 : Hid (Below W.heap.size W w4) := HBw3.out.trans (hb.mono HBw3.out.size); clear hb)
 have HI2 := HI.out 2 w4 HBw4.out
 rw [hk2] at HI2
 have HI2 : Hid _ := HI2
 go_upto_region 13 with (go_at_call 28; go_loud (refine Calls.mono HI2.out ?_); rintro e w5 ⟨rfl, hb⟩; have HBw5 : Hid (Below W.heap.size W w5) := HBw4.out.trans (hb.mono HBw4.out.size); clear hb)
 have HG := HSWW.out.keep HBw5.out
 obtain ⟨ga, gbad, gdv, gnm, hg0, _⟩ := HG.ex
 obtain ⟨c0, c1, c2, c3, c4, cf⟩ := b5f hg0
 have f2 := cf 2
 have HG5 : Hid _ := HG
 clear HG hg0 cf
 go_upto_region 14 with fail
 obtain ⟨V, hV⟩ : ∃ V, V = w5.setCell ⟨g, 2, none⟩ (.bool true) := ⟨_, rfl⟩
 rw [← hV]
 have HSZ : Hid (SRd g L lv nv V none) := by rw [hV]; exact HG5.out.fall
 have HXT : Hid (FX (XS g nv) (XS g nv) W V) := by rw [hV]; exact (FX.of_below HBw5.out).trans (FX.set_g _)
 have hk := res_keep HS0.out HSW.out HXT.out HKW.out
 obtain ⟨z0, z1, z2, z3, q0, q1, q2, q3⟩ := blk4 hk
 have HK9 : Hid _ := hk
 clear hk hV c0 c1 c2 c3 c4 f2
 go_wp2
 have hk := HK9.out
 refine bodyPost_ret_by (results_ct2 rfl _ _ w.heap.size 24 _ (0, 0) _ rfl (blk4_set hk) Tryz.underlying24 rfl (by kernel_rfl)) rfl ?_
 exact ⟨_, 0, rfl, TmR.fin HS0.out HBW.out HSW.out HXT.out (t := noTm) (TOk.leaf (by decide) (by decide) (by decide)) (fun y hy => by cases hy) HSZ.out, fun y hy => by cases hy⟩
set_option maxHeartbeats 8000000 in
set_option maxRecDepth 20000 in
theorem s_pr_round (f g : Nat) (L : List Sg) (lv nv : Value) (e0 : Nat) (most : Int) (rest : List Sg) (names : List ByteArray) (w : World) (hL : L.length ≤ 3000) (h : SRd g L lv nv w (some (e0, ⟨rest, names⟩))) (hf : e0 + f = 130) (HT : TermC f g L lv) (r : List Sg) (hsz : ∀ x ∈ r, x.text.size ≤ maxLen) (hk1 : isO (some (e0, ⟨rest, names⟩)) 1 ⟨#[]⟩ = false) (hmy : mk? ⟨#[40]⟩ rest = some r) (hno : primO true (termO true f) most ⟨rest, names⟩ = (roundO (termO true f) r names).map fun y => (y.1, 0, y.2)) :
   Calls Tryz.prog 41 #[.pointer (some ⟨g, 0, none⟩), .int .i64 most] w fun e w' => PrR g L lv nv w e w' (primO true (termO true f) most ⟨rest, names⟩) e0 := by
 rw [hno]
 have HRR : Hid (∀ W', SRd g L lv nv W' (some (e0, ⟨r, names⟩)) → _) := fun W' hs => s_round f g L lv nv e0 r names W' hf hL HT hsz hs
 clear hf HT hsz hno
 obtain ⟨W, hW⟩ : ∃ W, W = w.alloc (.cells #[.int .i64 0, .string ⟨#[]⟩, .int .i64 0, .slice none 0 0] 24) := ⟨_, rfl⟩
 have bW : Below w.heap.size w W := by rw [hW]; exact (Below.refl _ _).alloc (Nat.le_refl _) _
 have sW : W.heap.size = w.heap.size + 1 := by rw [hW]; simp
 have kW : W.heap[w.heap.size]? = some (.cells #[.int .i64 0, .string ⟨#[]⟩, .int .i64 0, .slice none 0 0] 24 (0, 0)) := by rw [hW]; exact heap_alloc_new _ _
 have HS0 : Hid (SRd g L lv nv w (some (e0, ⟨rest, names⟩))) := h
 have HSWW : Hid (SRd g L lv nv W (some (e0, ⟨rest, names⟩))) := h.keep bW
 have HKW : Hid (W.heap[w.heap.size]? = some (.cells #[.int .i64 0, .string ⟨#[]⟩, .int .i64 0, .slice none 0 0] 24 (0, 0))) := kW
 have HBW : Hid (Below w.heap.size w W) := bW
 have HSW : Hid (W.heap.size = w.heap.size + 1) := sW
 have HL : Hid (L.length ≤ 3000) := hL
 have HI : Hid (∀ k W', Below W.heap.size W W' → Calls Tryz.prog 28 #[.pointer (some ⟨g, 0, none⟩), .int .i64 k, .string ⟨#[]⟩] W' fun e w' => e = .returned (.bool (isO (some (e0, ⟨rest, names⟩)) k ⟨#[]⟩)) ∧ Below W'.heap.size W' w') := fun k W' hb => s_is g L lv nv _ k ⟨#[]⟩ W' (HSWW.out.keep hb)
 have HM : Hid (∀ (l : ByteArray) W', l.toList ≠ [] → mk? l rest = none → Below W.heap.size W W' → Calls Tryz.prog 61 #[.pointer (some ⟨g, 0, none⟩), .string l] W' fun e w' => e = .returned (.bool false) ∧ Below W'.heap.size W' w') := fun l W' hl hr hb => s_mark_no g L lv nv _ l W' hl (HSWW.out.keep hb) (fun d st e => by cases e; exact hr)
 clear h bW sW kW hL
 go_enter Tryz.func41, Tryz.ntmps41
 have HI1 := HI.out 1 W (Below.refl _ _)
 rw [hk1] at HI1
 have HI1 : Hid _ := HI1
 go_upto_region 3 with (go_at_call 28; rw [← hW]; go_loud (refine Calls.mono HI1.out ?_); rintro e w1 ⟨rfl, hb⟩; have HBw1 : Hid (Below W.heap.size W w1) := hb; clear hb hW)
 have HMY : Hid _ := s_mark_yes g L lv nv e0 ⟨rest, names⟩ ⟨#[40]⟩ r w1 HL.out c40_ne (HSWW.out.keep HBw1.out) hmy
 go_upto_region 4 with (go_at_call 61; go_loud (refine Calls.mono HMY.out ?_); rintro e w2 ⟨rfl, hs2, hx2⟩; have HS2 : Hid (SRd g L lv nv w2 (some (e0, ⟨r, names⟩))) := hs2; have HX2 : Hid (FX (XS g nv) (XS g nv) W w2) := (FX.of_below HBw1.out).trans hx2; clear hs2 hx2)
 have HRW : Hid _ := HRR.out w2 HS2.out
 clear HRR
 go_wp2_with (go_at_call 62; go_loud (refine Calls.mono HRW.out ?_); rintro e w9 ⟨v, rfl, t, F, nv', ht, hR, hs, hx⟩; have HT9 : Hid (TOk 24 (XS g nv') w2.heap.size w9 t v F) := ht; have HR9 : Hid _ := hR; have HS9 : Hid _ := hs; have HXT : Hid (FX (XS g nv) (XS g nv') W w9) := HX2.out.trans hx; obtain ⟨h1, h2, h3, h4, h5, h6, rfl⟩ := ht.form; have hk := res_keep HS0.out HSW.out HXT.out HKW.out; obtain ⟨z0, z1, z2, z3, q0, q1, q2, q3⟩ := blk4 hk; clear ht hR hs hx)
 refine bodyPost_ret_by (results_ct2 rfl _ _ w.heap.size 24 _ (0, 0) _ rfl (blk4_set hk) Tryz.underlying24 rfl (by kernel_rfl)) rfl ?_
 exact ⟨_, 0, rfl, TmR.fin HS0.out HBW.out HSW.out HXT.out (HT9.out.lo_le HX2.out.size) (by rw [mm1]; exact HR9.out) (by rw [mm1]; exact HS9.out), fun y hy => by obtain ⟨z, _, rfl⟩ := Option.map_eq_some_iff.1 hy; rfl⟩
set_option maxHeartbeats 8000000 in
set_option maxRecDepth 20000 in
theorem s_pr_row (f g : Nat) (L : List Sg) (lv nv : Value) (e0 : Nat) (most : Int) (rest : List Sg) (names : List ByteArray) (w : World) (hL : L.length ≤ 3000) (h : SRd g L lv nv w (some (e0, ⟨rest, names⟩))) (hf : e0 + f = 130) (HT : TermC f g L lv) (r : List Sg) (hk1 : isO (some (e0, ⟨rest, names⟩)) 1 ⟨#[]⟩ = false) (hm40 : mk? ⟨#[40]⟩ rest = none) (hmy : mk? ⟨#[91]⟩ rest = some r) (hno : primO true (termO true f) most ⟨rest, names⟩ = (listO (termO true f) r names).map fun y => (y.1, 0, y.2)) :
   Calls Tryz.prog 41 #[.pointer (some ⟨g, 0, none⟩), .int .i64 most] w fun e w' => PrR g L lv nv w e w' (primO true (termO true f) most ⟨rest, names⟩) e0 := by
 rw [hno]
 have HRR : Hid (∀ W', SRd g L lv nv W' (some (e0, ⟨r, names⟩)) → _) := fun W' hs => s_row f g L lv nv e0 r names W' hf hL HT hs
 clear hf HT hno
 obtain ⟨W, hW⟩ : ∃ W, W = w.alloc (.cells #[.int .i64 0, .string ⟨#[]⟩, .int .i64 0, .slice none 0 0] 24) := ⟨_, rfl⟩
 have bW : Below w.heap.size w W := by rw [hW]; exact (Below.refl _ _).alloc (Nat.le_refl _) _
 have sW : W.heap.size = w.heap.size + 1 := by rw [hW]; simp
 have kW : W.heap[w.heap.size]? = some (.cells #[.int .i64 0, .string ⟨#[]⟩, .int .i64 0, .slice none 0 0] 24 (0, 0)) := by rw [hW]; exact heap_alloc_new _ _
 have HS0 : Hid (SRd g L lv nv w (some (e0, ⟨rest, names⟩))) := h
 have HSWW : Hid (SRd g L lv nv W (some (e0, ⟨rest, names⟩))) := h.keep bW
 have HKW : Hid (W.heap[w.heap.size]? = some (.cells #[.int .i64 0, .string ⟨#[]⟩, .int .i64 0, .slice none 0 0] 24 (0, 0))) := kW
 have HBW : Hid (Below w.heap.size w W) := bW
 have HSW : Hid (W.heap.size = w.heap.size + 1) := sW
 have HL : Hid (L.length ≤ 3000) := hL
 have HI : Hid (∀ k W', Below W.heap.size W W' → Calls Tryz.prog 28 #[.pointer (some ⟨g, 0, none⟩), .int .i64 k, .string ⟨#[]⟩] W' fun e w' => e = .returned (.bool (isO (some (e0, ⟨rest, names⟩)) k ⟨#[]⟩)) ∧ Below W'.heap.size W' w') := fun k W' hb => s_is g L lv nv _ k ⟨#[]⟩ W' (HSWW.out.keep hb)
 have HM : Hid (∀ (l : ByteArray) W', l.toList ≠ [] → mk? l rest = none → Below W.heap.size W W' → Calls Tryz.prog 61 #[.pointer (some ⟨g, 0, none⟩), .string l] W' fun e w' => e = .returned (.bool false) ∧ Below W'.heap.size W' w') := fun l W' hl hr hb => s_mark_no g L lv nv _ l W' hl (HSWW.out.keep hb) (fun d st e => by cases e; exact hr)
 clear h bW sW kW hL
 go_enter Tryz.func41, Tryz.ntmps41
 have HI1 := HI.out 1 W (Below.refl _ _)
 rw [hk1] at HI1
 have HI1 : Hid _ := HI1
 go_upto_region 3 with (go_at_call 28; rw [← hW]; go_loud (refine Calls.mono HI1.out ?_); rintro e w1 ⟨rfl, hb⟩; have HBw1 : Hid (Below W.heap.size W w1) := hb; clear hb hW)
 have HM40 : Hid _ := HM.out ⟨#[40]⟩ w1 c40_ne hm40 HBw1.out
 go_upto_region 5 with (go_at_call 61; go_loud (refine Calls.mono HM40.out ?_); rintro e w1b ⟨rfl, hb⟩; have HBw1b : Hid (Below W.heap.size W w1b) := HBw1.out.trans (hb.mono HBw1.out.size); clear hb)
 have HMY : Hid _ := s_mark_yes g L lv nv e0 ⟨rest, names⟩ ⟨#[91]⟩ r w1b HL.out c91_ne (HSWW.out.keep HBw1b.out) hmy
 go_upto_region 6 with (go_at_call 61; go_loud (refine Calls.mono HMY.out ?_); rintro e w2 ⟨rfl, hs2, hx2⟩; have HS2 : Hid (SRd g L lv nv w2 (some (e0, ⟨r, names⟩))) := hs2; have HX2 : Hid (FX (XS g nv) (XS g nv) W w2) := (FX.of_below HBw1b.out).trans hx2; clear hs2 hx2)
 have HRW : Hid _ := HRR.out w2 HS2.out
 clear HRR
 go_wp2_with (go_at_call 63; go_loud (refine Calls.mono HRW.out ?_); rintro e w9 ⟨v, rfl, t, F, nv', ht, hR, hs, hx⟩; have HT9 : Hid (TOk 24 (XS g nv') w2.heap.size w9 t v F) := ht; have HR9 : Hid _ := hR; have HS9 : Hid _ := hs; have HXT : Hid (FX (XS g nv) (XS g nv') W w9) := HX2.out.trans hx; obtain ⟨h1, h2, h3, h4, h5, h6, rfl⟩ := ht.form; have hk := res_keep HS0.out HSW.out HXT.out HKW.out; obtain ⟨z0, z1, z2, z3, q0, q1, q2, q3⟩ := blk4 hk; clear ht hR hs hx)
 refine bodyPost_ret_by (results_ct2 rfl _ _ w.heap.size 24 _ (0, 0) _ rfl (blk4_set hk) Tryz.underlying24 rfl (by kernel_rfl)) rfl ?_
 exact ⟨_, 0, rfl, TmR.fin HS0.out HBW.out HSW.out HXT.out (HT9.out.lo_le HX2.out.size) (by rw [mm1]; exact HR9.out) (by rw [mm1]; exact HS9.out), fun y hy => by obtain ⟨z, _, rfl⟩ := Option.map_eq_some_iff.1 hy; rfl⟩
set_option maxHeartbeats 8000000 in
set_option maxRecDepth 20000 in
theorem s_pr_atom (f g : Nat) (L : List Sg) (lv nv : Value) (e0 : Nat) (most : Int) (rest : List Sg) (names : List ByteArray) (w : World) (hL : L.length ≤ 3000) (h : SRd g L lv nv w (some (e0, ⟨rest, names⟩))) (hf : e0 + f = 130) (HT : TermC f g L lv) (xk : Int) (xt : ByteArray) (xn : Int) (xa : Nat) (xb : Bool) (r : List Sg) (hrest : rest = ⟨xk, xt, xn, xa, xb⟩ :: r) (hxs : xt.size ≤ maxLen) (hxa : xa ≤ 100000) (hnear : xb = true → ∃ r', mk? cLpar r = some r') (hk1 : isO (some (e0, ⟨rest, names⟩)) 1 ⟨#[]⟩ = true) (hno : primO true (termO true f) most ⟨rest, names⟩ = atomO true (termO true f) most ⟨xk, xt, xn, xa, xb⟩ r names) :
   Calls Tryz.prog 41 #[.pointer (some ⟨g, 0, none⟩), .int .i64 most] w fun e w' => PrR g L lv nv w e w' (primO true (termO true f) most ⟨rest, names⟩) e0 := by
 obtain ⟨RA, hRA⟩ : ∃ RA, RA = atomO true (termO true f) most ⟨xk, xt, xn, xa, xb⟩ r names := ⟨_, rfl⟩
 rw [hno, ← hRA]
 have HRR : Hid (∀ W', SRd g L lv nv W' (some (e0, ⟨rest, names⟩)) → Calls Tryz.prog 60 #[.pointer (some ⟨g, 0, none⟩), .int .i64 most] W' fun e w' => ∃ v pr, e = .returned (.tuple #[v, .int .i64 pr]) ∧ TmR g L lv nv W' v w' (RA.map fun y => (y.1, y.2.2)) e0 ∧ (∀ y, RA = some y → pr = y.2.1)) := by
   intro W' hs
   rw [hrest] at hs
   have := s_at f g L lv nv e0 most xk xt xn xa xb r names W' hf hL HT hxs hxa hs hnear
   rw [← hRA] at this
   exact this
 clear hf HT hno hrest hxs hxa hnear hRA
 obtain ⟨W, hW⟩ : ∃ W, W = w.alloc (.cells #[.int .i64 0, .string ⟨#[]⟩, .int .i64 0, .slice none 0 0] 24) := ⟨_, rfl⟩
 have bW : Below w.heap.size w W := by rw [hW]; exact (Below.refl _ _).alloc (Nat.le_refl _) _
 have sW : W.heap.size = w.heap.size + 1 := by rw [hW]; simp
 have kW : W.heap[w.heap.size]? = some (.cells #[.int .i64 0, .string ⟨#[]⟩, .int .i64 0, .slice none 0 0] 24 (0, 0)) := by rw [hW]; exact heap_alloc_new _ _
 have HS0 : Hid (SRd g L lv nv w (some (e0, ⟨rest, names⟩))) := h
 have HSWW : Hid (SRd g L lv nv W (some (e0, ⟨rest, names⟩))) := h.keep bW
 have HKW : Hid (W.heap[w.heap.size]? = some (.cells #[.int .i64 0, .string ⟨#[]⟩, .int .i64 0, .slice none 0 0] 24 (0, 0))) := kW
 have HBW : Hid (Below w.heap.size w W) := bW
 have HSW : Hid (W.heap.size = w.heap.size + 1) := sW
 have HL : Hid (L.length ≤ 3000) := hL
 have HI : Hid (∀ k W', Below W.heap.size W W' → Calls Tryz.prog 28 #[.pointer (some ⟨g, 0, none⟩), .int .i64 k, .string ⟨#[]⟩] W' fun e w' => e = .returned (.bool (isO (some (e0, ⟨rest, names⟩)) k ⟨#[]⟩)) ∧ Below W'.heap.size W' w') := fun k W' hb => s_is g L lv nv _ k ⟨#[]⟩ W' (HSWW.out.keep hb)
 have HM : Hid (∀ (l : ByteArray) W', l.toList ≠ [] → mk? l rest = none → Below W.heap.size W W' → Calls Tryz.prog 61 #[.pointer (some ⟨g, 0, none⟩), .string l] W' fun e w' => e = .returned (.bool false) ∧ Below W'.heap.size W' w') := fun l W' hl hr hb => s_mark_no g L lv nv _ l W' hl (HSWW.out.keep hb) (fun d st e => by cases e; exact hr)
 clear h bW sW kW hL
 go_enter Tryz.func41, Tryz.ntmps41
 have HI1 := HI.out 1 W (Below.refl _ _)
 rw [hk1] at HI1
 have HI1 : Hid _ := HI1
 go_upto_region 2 with (go_at_call 28; rw [← hW]; go_loud (refine Calls.mono HI1.out ?_); rintro e w2 ⟨rfl, hb⟩; have HBw2 : Hid (Below W.heap.size W w2) := hb; clear hb hW)
 have HX2 : Hid (FX (XS g nv) (XS g nv) W w2) := FX.of_below HBw2.out
 have HRW : Hid _ := HRR.out w2 (HSWW.out.keep HBw2.out)
 clear HRR
 go_wp2_with (go_at_call 60; go_loud (refine Calls.mono HRW.out ?_); rintro e w9 ⟨v, pr, rfl, ⟨t, F, nv', ht, hR, hs, hx⟩, hpr⟩; have HPR : Hid _ := hpr; have HT9 : Hid (TOk 24 (XS g nv') w2.heap.size w9 t v F) := ht; have HR9 : Hid _ := hR; have HS9 : Hid _ := hs; have HXT : Hid (FX (XS g nv) (XS g nv') W w9) := HX2.out.trans hx; obtain ⟨h1, h2, h3, h4, h5, h6, rfl⟩ := ht.form; have hk := res_keep HS0.out HSW.out HXT.out HKW.out; obtain ⟨z0, z1, z2, z3, q0, q1, q2, q3⟩ := blk4 hk; clear ht hR hs hx hpr)
 refine bodyPost_ret_by (results_ct2 rfl _ _ w.heap.size 24 _ (0, 0) _ rfl (blk4_set hk) Tryz.underlying24 rfl (by kernel_rfl)) rfl ?_
 exact ⟨_, pr, rfl, TmR.fin HS0.out HBW.out HSW.out HXT.out (HT9.out.lo_le HX2.out.size) HR9.out HS9.out, HPR.out⟩
end Go.Proofs.YtbkjcccbjnehbanGreatDoor

namespace Go.Proofs.YtbkjcccbjnehbanGreatDoor
open Go.RowKit
set_option maxHeartbeats 8000000 in
set_option maxRecDepth 20000 in
theorem s_pr_num (f g : Nat) (L : List Sg) (lv nv : Value) (e0 : Nat) (most : Int) (rest : List Sg) (names : List ByteArray) (w : World) (hL : L.length ≤ 3000) (h : SRd g L lv nv w (some (e0, ⟨rest, names⟩))) (xk : Int) (xt : ByteArray) (xn : Int) (xa : Nat) (xb : Bool) (r : List Sg) (hrest : rest = ⟨xk, xt, xn, xa, xb⟩ :: r) (hxn : -9223372036854775808 ≤ xn ∧ xn ≤ 9223372036854775807) (hk1 : isO (some (e0, ⟨rest, names⟩)) 1 ⟨#[]⟩ = false) (hm40 : mk? ⟨#[40]⟩ rest = none) (hm91 : mk? ⟨#[91]⟩ rest = none) (hk3 : isO (some (e0, ⟨rest, names⟩)) 3 ⟨#[]⟩ = true) (hno : primO true (termO true f) most ⟨rest, names⟩ = some (intTm xn, 0, ⟨r, names⟩)) :
   Calls Tryz.prog 41 #[.pointer (some ⟨g, 0, none⟩), .int .i64 most] w fun e w' => PrR g L lv nv w e w' (primO true (termO true f) most ⟨rest, names⟩) e0 := by
 rw [hno]
 clear hno
 subst hrest
 have HXN : Hid (-9223372036854775808 ≤ xn ∧ xn ≤ 9223372036854775807) := hxn
 clear hxn
 obtain ⟨W, hW⟩ : ∃ W, W = w.alloc (.cells #[.int .i64 0, .string ⟨#[]⟩, .int .i64 0, .slice none 0 0] 24) := ⟨_, rfl⟩
 have bW : Below w.heap.size w W := by rw [hW]; exact (Below.refl _ _).alloc (Nat.le_refl _) _
 have sW : W.heap.size = w.heap.size + 1 := by rw [hW]; simp
 have kW : W.heap[w.heap.size]? = some (.cells #[.int .i64 0, .string ⟨#[]⟩, .int .i64 0, .slice none 0 0] 24 (0, 0)) := by rw [hW]; exact heap_alloc_new _ _
 have HS0 : Hid (SRd g L lv nv w (some (e0, ⟨⟨xk, xt, xn, xa, xb⟩ :: r, names⟩))) := h
 have HSWW : Hid (SRd g L lv nv W (some (e0, ⟨⟨xk, xt, xn, xa, xb⟩ :: r, names⟩))) := h.keep bW
 have HKW : Hid (W.heap[w.heap.size]? = some (.cells #[.int .i64 0, .string ⟨#[]⟩, .int .i64 0, .slice none 0 0] 24 (0, 0))) := kW
 have HBW : Hid (Below w.heap.size w W) := bW
 have HSW : Hid (W.heap.size = w.heap.size + 1) := sW
 have HL : Hid (L.length ≤ 3000) := hL
 have HI : Hid (∀ k W', Below W.heap.size W W' → Calls Tryz.prog 28 #[.pointer (some ⟨g, 0, none⟩), .int .i64 k, .string ⟨#[]⟩] W' fun e w' => e = .returned (.bool (isO (some (e0, ⟨⟨xk, xt, xn, xa, xb⟩ :: r, names⟩)) k ⟨#[]⟩)) ∧ Below W'.heap.size W' w') := fun k W' hb => s_is g L lv nv _ k ⟨#[]⟩ W' (HSWW.out.keep hb)
 have HM : Hid (∀ (l : ByteArray) W', l.toList ≠ [] → mk? l (⟨xk, xt, xn, xa, xb⟩ :: r) = none → Below W.heap.size W W' → Calls Tryz.prog 61 #[.pointer (some ⟨g, 0, none⟩), .string l] W' fun e w' => e = .returned (.bool false) ∧ Below W'.heap.size W' w') := fun l W' hl hr hb => s_mark_no g L lv nv _ l W' hl (HSWW.out.keep hb) (fun d st e => by cases e; exact hr)
 clear h bW sW kW hL
 go_enter Tryz.func41, Tryz.ntmps41
 have HI1 := HI.out 1 W (Below.refl _ _)
 rw [hk1] at HI1
 have HI1 : Hid _ := HI1
 go_upto_region 3 with (go_at_call 28; rw [← hW]; go_loud (refine Calls.mono HI1.out ?_); rintro e w1 ⟨rfl, hb⟩; have HBw1 : Hid (Below W.heap.size W w1) := hb; clear hb hW)
 have HM40 : Hid _ := HM.out ⟨#[40]⟩ w1 c40_ne hm40 HBw1.out
 go_upto_region 5 with (go_at_call 61; go_loud (refine Calls.mono HM40.out ?_); rintro e w2 ⟨rfl, hb⟩; have HBw2 : Hid (Below W.heap.size W w2) := HBw1.out.trans (hb.mono HBw1.out.size); clear hb)
 have HM91 : Hid _ := HM.out ⟨#[91]⟩ w2 c91_ne hm91 HBw2.out
 go_upto_region 7 with (go_at_call 61; go_loud (refine Calls.mono HM91.out ?_); rintro e w3 ⟨rfl, hb⟩; have HBw3 : Hid (Below W.heap.size W w3) := HBw2.out.trans (hb.mono HBw2.out.size); clear hb)
 have HI3 := HI.out 3 w3 HBw3.out
 rw [hk3] at HI3
 have HI3 : Hid _ := HI3
 go_upto_region 8 with (go_at_call 28; go_loud (refine Calls.mono HI3.out ?_); rintro e wZ ⟨rfl, hb⟩; have HBwZ : Hid (Below W.heap.size W wZ) := HBw3.out.trans (hb.mono HBw3.out.size); clear hb)
 obtain ⟨p, lb, cap, rfl, hp, hd, hnm, hg, hl, hnr, k0, k1, k2, k3, k4, hlg⟩ := (HSWW.out.keep HBwZ.out).sign
 obtain ⟨c0, c1, c2, c3, c4, cf⟩ := b5f hg
 have f1 := cf 1
 have hp3 : (p : Int) ≤ 3000 := by have := HL.out; omega
 have HQ : Hid (∃ L', L' = L ∧ wZ.heap[g]? = some (.cells #[.slice (some ⟨lb, 0, none⟩) L'.length cap, .int .i64 (p : Int), .bool false, .int .i64 (e0 : Int), nv] 52 (0, 0)) ∧ LIn wZ g L' (.slice (some ⟨lb, 0, none⟩) L'.length cap) ∧ NRow wZ (g + 1) names nv ∧ p < L'.length ∧ L'.drop (p + 1) = r ∧ names.length ≤ p) := ⟨L, rfl, hg, hl, hnr, hp, hd, hnm⟩
 have Hk2 : Hid (wZ.cell? ⟨lb, p * 5 + 2, none⟩ = some (.int .i64 xn) ∧ lb ≠ g) := ⟨k2, by omega⟩
 clear hp hd hnm hg hl hnr k0 k1 k2 k3 k4 hlg cf c0 c2 c3 c4
 go_upto_region 9 with fail
 obtain ⟨V, hV⟩ : ∃ V, V = wZ.setCell ⟨g, 1, none⟩ (.int .i64 ((p : Int) + 1)) := ⟨_, rfl⟩
 rw [← hV]
 obtain ⟨L', hL', hgq, hlq, hnq, hp, hd, hnm⟩ := HQ.out
 subst hL'
 have SV : SRd g L' (.slice (some ⟨lb, 0, none⟩) L'.length cap) nv V (some (e0, ⟨r, names⟩)) := by rw [hV]; exact SRd.go 1 hgq hlq hnq (by omega) hd hnm (by omega)
 have HXV : Hid (FX (XS g nv) (XS g nv) W V) := by rw [hV]; exact (FX.of_below HBwZ.out).trans (FX.set_g _)
 have gV : V.heap[g]? = some (.cells #[.slice (some ⟨lb, 0, none⟩) L'.length cap, .int .i64 (((p + 1 : Nat)) : Int), .bool false, .int .i64 (e0 : Int), nv] 52 (0, 0)) := by
   rw [hV]; have := set_at5 (i := 1) hgq (.int .i64 ((p : Int) + 1)); simpa using this
 obtain ⟨NL, hNL⟩ : ∃ NL, NL = L'.length := ⟨_, rfl⟩
 obtain ⟨c0, c1, _, _, _, _⟩ := b5f gV
 rw [← hNL] at c0
 obtain ⟨p1, hp1⟩ : ∃ p1, p1 = p + 1 := ⟨_, rfl⟩
 rw [← hp1] at c1
 have kV : V.cell? ⟨lb, p * 5 + 2, none⟩ = some (.int .i64 xn) := by rw [hV, World.cell?_of_block (set_oth5 _ Hk2.out.2)]; exact Hk2.out.1
 have hpN : p < NL := by omega
 have hsub : (p1 : Int) - 1 = (p : Int) := by omega
 have HSV : Hid _ := SV
 have HRAW : Hid (V.heap[g]? = some (.cells #[.slice (some ⟨lb, 0, none⟩) L'.length cap, .int .i64 (((p + 1 : Nat)) : Int), .bool false, .int .i64 (e0 : Int), nv] 52 (0, 0)) ∧ LIn V g L' (.slice (some ⟨lb, 0, none⟩) L'.length cap) ∧ NRow V (g + 1) names nv ∧ p + 1 ≤ L'.length ∧ L'.drop (p + 1) = r ∧ names.length ≤ p) := ⟨gV, hlq.turn fun k hk => by rw [hV]; exact set_oth5 _ (by omega), hnq.turn fun b e => by rw [hV]; exact set_oth5 _ (by have := (hnq.lt b e).1; omega), by omega, hd, hnm⟩
 have y0 := fun u => cell_keep c0 (later_below V u)
 have y1 := fun u => cell_keep c1 (later_below V u)
 have y2 := fun u => cell_keep kV (later_below V u)
 clear hgq hlq hnq hp hd hnm SV gV c0 c1 kV hV hNL hp1 f1
 have HA : Hid _ := fun wq => s_num (XS g nv) xn wq HXN.out
 refine wp_region_tail 12 (by kernel_rfl) (by kernel_rfl) ?_
 simp only [List.take_succ_cons, List.take_zero, List.drop_succ_cons, List.drop_zero]
 repeat (go_big_quiet_step (skip))
 refine wpQuiet_nil ?_
 rintro _ ⟨u3, rfl⟩
 have HB3 : Hid (Below V.heap.size V (later V u3)) := later_below V u3
 clear y0 y1 y2
 generalize later V u3 = w3b at *
 go_wp2_with (go_at_call 64; go_loud (refine Calls.mono (HA.out _) ?_); rintro e w9 ⟨v, rfl, ht, hb⟩; have HT9 : Hid (TOk 24 (XS g nv) w3b.heap.size w9 (intTm xn) v []) := ht; have HB9 : Hid (Below w3b.heap.size w3b w9) := hb; have HXT : Hid (FX (XS g nv) (XS g nv) W w9) := (HXV.out.trans (FX.of_below HB3.out)).trans (FX.of_below hb); obtain ⟨h1, h2, h3, h4, h5, h6, rfl⟩ := ht.form; have hk := res_keep HS0.out HSW.out HXT.out HKW.out; obtain ⟨z0, z1, z2, z3, q0, q1, q2, q3⟩ := blk4 hk; clear ht hb)
 refine bodyPost_ret_by (results_ct2 rfl _ _ w.heap.size 24 _ (0, 0) _ rfl (blk4_set hk) Tryz.underlying24 rfl (by kernel_rfl)) rfl ?_
 exact ⟨_, 0, rfl, TmR.fin HS0.out HBW.out HSW.out HXT.out (HT9.out.lo_le (Nat.le_trans HXV.out.size HB3.out.size)) (fun y hy => by cases hy; rfl) ((HSV.out.keep HB3.out).keep HB9.out), fun y hy => by cases hy; rfl⟩
set_option maxHeartbeats 8000000 in
set_option maxRecDepth 20000 in
theorem s_pr_var (f g : Nat) (L : List Sg) (lv nv : Value) (e0 : Nat) (most : Int) (rest : List Sg) (names : List ByteArray) (w : World) (hL : L.length ≤ 3000) (h : SRd g L lv nv w (some (e0, ⟨rest, names⟩))) (xk : Int) (xt : ByteArray) (xn : Int) (xa : Nat) (xb : Bool) (r : List Sg) (hrest : rest = ⟨xk, xt, xn, xa, xb⟩ :: r) (hk1 : isO (some (e0, ⟨rest, names⟩)) 1 ⟨#[]⟩ = false) (hm40 : mk? ⟨#[40]⟩ rest = none) (hm91 : mk? ⟨#[91]⟩ rest = none) (hk3 : isO (some (e0, ⟨rest, names⟩)) 3 ⟨#[]⟩ = false) (hk2 : isO (some (e0, ⟨rest, names⟩)) 2 ⟨#[]⟩ = true) (hno : primO true (termO true f) most ⟨rest, names⟩ = some (varTm (varO xt names).1, 0, ⟨r, (varO xt names).2⟩)) :
   Calls Tryz.prog 41 #[.pointer (some ⟨g, 0, none⟩), .int .i64 most] w fun e w' => PrR g L lv nv w e w' (primO true (termO true f) most ⟨rest, names⟩) e0 := by
 rw [hno]
 clear hno
 subst hrest
 obtain ⟨W, hW⟩ : ∃ W, W = w.alloc (.cells #[.int .i64 0, .string ⟨#[]⟩, .int .i64 0, .slice none 0 0] 24) := ⟨_, rfl⟩
 have bW : Below w.heap.size w W := by rw [hW]; exact (Below.refl _ _).alloc (Nat.le_refl _) _
 have sW : W.heap.size = w.heap.size + 1 := by rw [hW]; simp
 have kW : W.heap[w.heap.size]? = some (.cells #[.int .i64 0, .string ⟨#[]⟩, .int .i64 0, .slice none 0 0] 24 (0, 0)) := by rw [hW]; exact heap_alloc_new _ _
 have HS0 : Hid (SRd g L lv nv w (some (e0, ⟨⟨xk, xt, xn, xa, xb⟩ :: r, names⟩))) := h
 have HSWW : Hid (SRd g L lv nv W (some (e0, ⟨⟨xk, xt, xn, xa, xb⟩ :: r, names⟩))) := h.keep bW
 have HKW : Hid (W.heap[w.heap.size]? = some (.cells #[.int .i64 0, .string ⟨#[]⟩, .int .i64 0, .slice none 0 0] 24 (0, 0))) := kW
 have HBW : Hid (Below w.heap.size w W) := bW
 have HSW : Hid (W.heap.size = w.heap.size + 1) := sW
 have HL : Hid (L.length ≤ 3000) := hL
 have HI : Hid (∀ k W', Below W.heap.size W W' → Calls Tryz.prog 28 #[.pointer (some ⟨g, 0, none⟩), .int .i64 k, .string ⟨#[]⟩] W' fun e w' => e = .returned (.bool (isO (some (e0, ⟨⟨xk, xt, xn, xa, xb⟩ :: r, names⟩)) k ⟨#[]⟩)) ∧ Below W'.heap.size W' w') := fun k W' hb => s_is g L lv nv _ k ⟨#[]⟩ W' (HSWW.out.keep hb)
 have HM : Hid (∀ (l : ByteArray) W', l.toList ≠ [] → mk? l (⟨xk, xt, xn, xa, xb⟩ :: r) = none → Below W.heap.size W W' → Calls Tryz.prog 61 #[.pointer (some ⟨g, 0, none⟩), .string l] W' fun e w' => e = .returned (.bool false) ∧ Below W'.heap.size W' w') := fun l W' hl hr hb => s_mark_no g L lv nv _ l W' hl (HSWW.out.keep hb) (fun d st e => by cases e; exact hr)
 clear h bW sW kW hL
 go_enter Tryz.func41, Tryz.ntmps41
 have HI1 := HI.out 1 W (Below.refl _ _)
 rw [hk1] at HI1
 have HI1 : Hid _ := HI1
 go_upto_region 3 with (go_at_call 28; rw [← hW]; go_loud (refine Calls.mono HI1.out ?_); rintro e w1 ⟨rfl, hb⟩; have HBw1 : Hid (Below W.heap.size W w1) := hb; clear hb hW)
 have HM40 : Hid _ := HM.out ⟨#[40]⟩ w1 c40_ne hm40 HBw1.out
 go_upto_region 5 with (go_at_call 61; go_loud (refine Calls.mono HM40.out ?_); rintro e w2 ⟨rfl, hb⟩; have HBw2 : Hid (Below W.heap.size W w2) := HBw1.out.trans (hb.mono HBw1.out.size); clear hb)
 have HM91 : Hid _ := HM.out ⟨#[91]⟩ w2 c91_ne hm91 HBw2.out
 go_upto_region 7 with (go_at_call 61; go_loud (refine Calls.mono HM91.out ?_); rintro e w3 ⟨rfl, hb⟩; have HBw3 : Hid (Below W.heap.size W w3) := HBw2.out.trans (hb.mono HBw2.out.size); clear hb)
 have HI3 := HI.out 3 w3 HBw3.out
 rw [hk3] at HI3
 have HI3 : Hid _ := HI3
 go_upto_region 10 with (go_at_call 28; go_loud (refine Calls.mono HI3.out ?_); rintro e w4 ⟨rfl, hb⟩; have HBw4 : Hid (Below W.heap.size W w4) := HBw3.out.trans (hb.mono HBw3.out.size); clear hb)
 have HI2 := HI.out 2 w4 HBw4.out
 rw [hk2] at HI2
 have HI2 : Hid _ := HI2
 go_upto_region 11 with (go_at_call 28; go_loud (refine Calls.mono HI2.out ?_); rintro e wZ ⟨rfl, hb⟩; have HBwZ : Hid (Below W.heap.size W wZ) := HBw4.out.trans (hb.mono HBw4.out.size); clear hb)
 obtain ⟨p, lb, cap, rfl, hp, hd, hnm, hg, hl, hnr, k0, k1, k2, k3, k4, hlg⟩ := (HSWW.out.keep HBwZ.out).sign
 obtain ⟨c0, c1, c2, c3, c4, cf⟩ := b5f hg
 have f1 := cf 1
 have hp3 : (p : Int) ≤ 3000 := by have := HL.out; omega
 have HQ : Hid (∃ L', L' = L ∧ wZ.heap[g]? = some (.cells #[.slice (some ⟨lb, 0, none⟩) L'.length cap, .int .i64 (p : Int), .bool false, .int .i64 (e0 : Int), nv] 52 (0, 0)) ∧ LIn wZ g L' (.slice (some ⟨lb, 0, none⟩) L'.length cap) ∧ NRow wZ (g + 1) names nv ∧ p < L'.length ∧ L'.drop (p + 1) = r ∧ names.length ≤ p) := ⟨L, rfl, hg, hl, hnr, hp, hd, hnm⟩
 have Hk1 : Hid (wZ.cell? ⟨lb, p * 5 + 1, none⟩ = some (.string xt) ∧ lb ≠ g) := ⟨k1, by omega⟩
 clear hp hd hnm hg hl hnr k0 k1 k2 k3 k4 hlg cf c0 c2 c3 c4
 go_upto_region 12 with fail
 obtain ⟨V, hV⟩ : ∃ V, V = wZ.setCell ⟨g, 1, none⟩ (.int .i64 ((p : Int) + 1)) := ⟨_, rfl⟩
 rw [← hV]
 obtain ⟨L', hL', hgq, hlq, hnq, hp, hd, hnm⟩ := HQ.out
 subst hL'
 have SV : SRd g L' (.slice (some ⟨lb, 0, none⟩) L'.length cap) nv V (some (e0, ⟨r, names⟩)) := by rw [hV]; exact SRd.go 1 hgq hlq hnq (by omega) hd hnm (by omega)
 have HXV : Hid (FX (XS g nv) (XS g nv) W V) := by rw [hV]; exact (FX.of_below HBwZ.out).trans (FX.set_g _)
 have gV : V.heap[g]? = some (.cells #[.slice (some ⟨lb, 0, none⟩) L'.length cap, .int .i64 (((p + 1 : Nat)) : Int), .bool false, .int .i64 (e0 : Int), nv] 52 (0, 0)) := by
   rw [hV]; have := set_at5 (i := 1) hgq (.int .i64 ((p : Int) + 1)); simpa using this
 obtain ⟨NL, hNL⟩ : ∃ NL, NL = L'.length := ⟨_, rfl⟩
 obtain ⟨c0, c1, _, _, _, _⟩ := b5f gV
 rw [← hNL] at c0
 obtain ⟨p1, hp1⟩ : ∃ p1, p1 = p + 1 := ⟨_, rfl⟩
 rw [← hp1] at c1
 have kV : V.cell? ⟨lb, p * 5 + 1, none⟩ = some (.string xt) := by rw [hV, World.cell?_of_block (set_oth5 _ Hk1.out.2)]; exact Hk1.out.1
 have hpN : p < NL := by omega
 have hsub : (p1 : Int) - 1 = (p : Int) := by omega
 have HSV : Hid _ := SV
 have HRAW : Hid (V.heap[g]? = some (.cells #[.slice (some ⟨lb, 0, none⟩) L'.length cap, .int .i64 (((p + 1 : Nat)) : Int), .bool false, .int .i64 (e0 : Int), nv] 52 (0, 0)) ∧ LIn V g L' (.slice (some ⟨lb, 0, none⟩) L'.length cap) ∧ NRow V (g + 1) names nv ∧ p + 1 ≤ L'.length ∧ L'.drop (p + 1) = r ∧ names.length ≤ p) := ⟨gV, hlq.turn fun k hk => by rw [hV]; exact set_oth5 _ (by omega), hnq.turn fun b e => by rw [hV]; exact set_oth5 _ (by have := (hnq.lt b e).1; omega), by omega, hd, hnm⟩
 have y0 := fun u => cell_keep c0 (later_below V u)
 have y1 := fun u => cell_keep c1 (later_below V u)
 have y2 := fun u => cell_keep kV (later_below V u)
 clear hgq hlq hnq hp hd hnm SV gV c0 c1 kV hV hNL hp1 f1
 refine wp_region_tail 13 (by kernel_rfl) (by kernel_rfl) ?_
 simp only [List.take_succ_cons, List.take_zero, List.drop_succ_cons, List.drop_zero]
 repeat (go_big_quiet_step (skip))
 refine wpQuiet_nil ?_
 rintro _ ⟨u3, rfl⟩
 have HB3 : Hid (Below V.heap.size V (later V u3)) := later_below V u3
 clear y0 y1 y2
 generalize later V u3 = w3b at *
 obtain ⟨r1, r2, r3, r4, r5, r6⟩ := HRAW.out
 have hgV : g < V.heap.size := (Array.getElem?_eq_some_iff.1 r1).1
 have HVA : Hid _ := s_variable g L' _ nv e0 (p + 1) r names xt w3b HL.out ((HB3.out.block g hgV).trans r1) (r2.turn fun k hk => HB3.out.block k (by omega)) (r3.turn fun b e => HB3.out.block b (r3.lt b e).2) r4 r5 (by omega)
 clear r1 r2 r3 r4 r5 r6 hgV
 go_wp2_with (go_at_call 65; go_loud (refine Calls.mono HVA.out ?_); rintro e w9 ⟨v, rfl, t, F, nv', ht, hR, hs, hx⟩; have HT9 : Hid (TOk 24 (XS g nv') w3b.heap.size w9 t v F) := ht; have HR9 : Hid _ := hR; have HS9 : Hid _ := hs; have HXT : Hid (FX (XS g nv) (XS g nv') W w9) := (HXV.out.trans (FX.of_below HB3.out)).trans hx; obtain ⟨h1, h2, h3, h4, h5, h6, rfl⟩ := ht.form; have hk := res_keep HS0.out HSW.out HXT.out HKW.out; obtain ⟨z0, z1, z2, z3, q0, q1, q2, q3⟩ := blk4 hk; clear ht hR hs hx)
 refine bodyPost_ret_by (results_ct2 rfl _ _ w.heap.size 24 _ (0, 0) _ rfl (blk4_set hk) Tryz.underlying24 rfl (by kernel_rfl)) rfl ?_
 exact ⟨_, 0, rfl, TmR.fin HS0.out HBW.out HSW.out HXT.out (HT9.out.lo_le (Nat.le_trans HXV.out.size HB3.out.size)) HR9.out HS9.out, fun y hy => by cases hy; rfl⟩
end Go.Proofs.YtbkjcccbjnehbanGreatDoor

namespace Go.Proofs.YtbkjcccbjnehbanGreatDoor
open Go.RowKit
def SgOk (x : Sg) (r : List Sg) : Prop := x.text.size ≤ maxLen ∧ (-9223372036854775808 ≤ x.num ∧ x.num ≤ 9223372036854775807) ∧ x.at_ ≤ 100000 ∧ (x.kind = 1 → x.near = true → ∃ r', mk? cLpar r = some r')
def LOk : List Sg → Prop
 | [] => True
 | x :: r => SgOk x r ∧ LOk r
theorem LOk.drop : ∀ {L : List Sg} (p : Nat), LOk L → LOk (L.drop p)
 | [], _, _ => by simp [LOk]
 | _ :: _, 0, h => h
 | _ :: r, p + 1, h => LOk.drop (L := r) p h.2
theorem LOk.texts : ∀ {L : List Sg}, LOk L → ∀ x ∈ L, x.text.size ≤ maxLen
 | [], _, x, hx => by cases hx
 | y :: r, h, x, hx => by
   rcases List.mem_cons.1 hx with rfl | hx
   · exact h.1.1
   · exact LOk.texts h.2 x hx
theorem SRd.rest {g : Nat} {L : List Sg} {lv nv : Value} {w : World} {d : Nat} {st : St} (h : SRd g L lv nv w (some (d, st))) (hL : LOk L) : LOk st.rest := by
 obtain ⟨_, _, _, _, _, _, _, _, _, _, p, _, _, hd, _⟩ := h.ex
 rw [← hd]; exact hL.drop p
theorem s_prim (f g : Nat) (L : List Sg) (lv nv : Value) (e0 : Nat) (most : Int) (st : St) (w : World) (hf : e0 + f = 130) (hL : L.length ≤ 3000) (hO : LOk L) (HT : TermC f g L lv) (h : SRd g L lv nv w (some (e0, st))) :
   Calls Tryz.prog 41 #[.pointer (some ⟨g, 0, none⟩), .int .i64 most] w fun e w' => PrR g L lv nv w e w' (primO true (termO true f) most st) e0 := by
 have hok := h.rest hO
 obtain ⟨rest, names⟩ := st
 cases rest with
 | nil => exact s_pr_bad f g L lv nv e0 most [] names w hL h rfl rfl rfl rfl rfl rfl
 | cons x r =>
   obtain ⟨xk, xt, xn, xa, xb⟩ := x
   obtain ⟨⟨o1, o2, o3, o4⟩, hr⟩ := hok
   simp only at o1 o2 o3 o4
   have hi : ∀ k, isO (some (e0, ⟨⟨xk, xt, xn, xa, xb⟩ :: r, names⟩)) k ⟨#[]⟩ = decide (xk = k) := fun k => isO_any
   by_cases h1 : xk = 1
   · exact s_pr_atom f g L lv nv e0 most _ names w hL h hf HT xk xt xn xa xb r rfl o1 o3 (o4 h1) (by rw [hi, decide_eq_true h1]) (by simp only [primO, h1, if_true])
   · by_cases h4 : xk = 4 ∧ xt = cLpar
     · exact s_pr_round f g L lv nv e0 most _ names w hL h hf HT r (LOk.texts hr) (by rw [hi, decide_eq_false h1]) (by simp only [mk?]; exact if_pos h4) (by simp only [primO]; rw [if_neg h1, if_pos h4])
     · have hm40 : mk? ⟨#[40]⟩ (⟨xk, xt, xn, xa, xb⟩ :: r) = none := by simp only [mk?]; exact if_neg h4
       by_cases h5 : xk = 4 ∧ xt = cLbr
       · exact s_pr_row f g L lv nv e0 most _ names w hL h hf HT r (by rw [hi, decide_eq_false h1]) hm40 (by simp only [mk?]; exact if_pos h5) (by simp only [primO]; rw [if_neg h1, if_neg h4, if_pos h5])
       · have hm91 : mk? ⟨#[91]⟩ (⟨xk, xt, xn, xa, xb⟩ :: r) = none := by simp only [mk?]; exact if_neg h5
         by_cases h3 : xk = 3
         · exact s_pr_num f g L lv nv e0 most _ names w hL h xk xt xn xa xb r rfl o2 (by rw [hi, decide_eq_false h1]) hm40 hm91 (by rw [hi, decide_eq_true h3]) (by simp only [primO]; rw [if_neg h1, if_neg h4, if_neg h5, if_pos h3])
         · by_cases h2 : xk = 2
           · exact s_pr_var f g L lv nv e0 most _ names w hL h xk xt xn xa xb r rfl (by rw [hi, decide_eq_false h1]) hm40 hm91 (by rw [hi, decide_eq_false h3]) (by rw [hi, decide_eq_true h2]) (by simp only [primO]; rw [if_neg h1, if_neg h4, if_neg h5, if_neg h3, if_pos h2])
           · exact s_pr_bad f g L lv nv e0 most _ names w hL h (by rw [hi, decide_eq_false h1]) hm40 hm91 (by rw [hi, decide_eq_false h3]) (by rw [hi, decide_eq_false h2]) (by simp only [primO]; rw [if_neg h1, if_neg h4, if_neg h5, if_neg h3, if_neg h2])
theorem infixP_small {s : ByteArray} {op : OpP} (h : infixP s = some op) : op.name.size ≤ maxLen := by
 unfold infixP at h
 split at h
 all_goals first | cases h | skip
 all_goals
   rename_i hh
   have e : s.size = s.data.toList.length := rfl
   show s.size ≤ maxLen
   rw [e, hh]
   decide
theorem infixO_small {r : List Sg} {op : OpP} (h : infixO r = some op) : op.name.size ≤ maxLen ∧ ∃ x r', r = x :: r' := by
 unfold infixO at h
 split at h
 · cases h
 · split at h
   · exact ⟨infixP_small h, _, _, rfl⟩
   · split at h
     · exact ⟨infixP_small h, _, _, rfl⟩
     · cases h
theorem infO_step {f : Nat} {most : Int} {t : Tm} {pr : Int} {st : St} : infO (termO true f) most t pr st = match infixO st.rest with
   | none => some (t, st)
   | some op => if most < op.prio ∨ op.left < pr then some (t, st) else match termO true f op.right ⟨st.rest.tail, st.names⟩ with
     | none => none
     | some (y, s1) => infO (termO true f) most (structTm op.name [t, y]) op.prio s1 := by
 rw [infO]
 cases h : infixO st.rest with
 | none => rfl
 | some op =>
   simp only
   split
   · rfl
   · cases hy : termO true f op.right ⟨st.rest.tail, st.names⟩ with
     | none => rfl
     | some y =>
       obtain ⟨y, s1⟩ := y
       have hs := termO_short true f _ _ _ _ hy
       simp only at hs ⊢
       rw [dif_pos (by simp only [List.length_tail] at hs; omega)]
theorem SRd.setDeep {g : Nat} {L : List Sg} {lv nv : Value} {w : World} {d d' : Nat} {st : St} {z : Int} (h : SRd g L lv nv w (some (d, st))) (hz : z = (d' : Int)) : SRd g L lv nv (w.setCell ⟨g, 3, none⟩ (.int .i64 z)) (some (d', st)) := by
 subst hz
 obtain ⟨a, bad, dv, nms, h1, h2, h3, h4⟩ := h.ex
 obtain ⟨rfl, rfl, rfl, hp⟩ := h4
 refine SRd.mk' (w := w) (bad' := false) (a' := a) (dv' := (d' : Int)) (nms := st.names) ?_ h2 h3 (fun k hk => set_oth5 _ hk) ⟨rfl, rfl, rfl, hp⟩
 have := set_at5 (i := 3) h1 (.int .i64 (d' : Int))
 simpa using this
theorem SRd.setDeepB {g : Nat} {L : List Sg} {lv nv : Value} {w : World} (z : Int) (h : SRd g L lv nv w none) : SRd g L lv nv (w.setCell ⟨g, 3, none⟩ (.int .i64 z)) none := by
 obtain ⟨a, bad, dv, nms, h1, h2, h3, h4⟩ := h.ex
 refine SRd.mk' (w := w) (bad' := bad) (a' := a) (dv' := z) (nms := nms) ?_ h2 h3 (fun k hk => set_oth5 _ hk) h4
 have := set_at5 (i := 3) h1 (.int .i64 z)
 simpa using this
def TermI (f e0 : Nat) (most : Int) (o : Option (Nat × St)) (t : Tm) (pr : Int) (T : Option (Tm × St)) : Prop := (o = none ∧ T = none) ∨ ∃ st, o = some (e0, st) ∧ infO (termO true f) most t pr st = T
end Go.Proofs.YtbkjcccbjnehbanGreatDoor

namespace Go.Proofs.YtbkjcccbjnehbanGreatDoor
open Go.RowKit
def contO (f : Nat) (most : Int) (t : Tm) (os : ByteArray) (o1 : Int) (R : Option (Tm × St)) : Option (Tm × St) := match R with | none => none | some (y, s1) => infO (termO true f) most (structTm os [t, y]) o1 s1
def afterP (f : Nat) (most : Int) (RP : Option (Tm × Int × St)) : Option (Tm × St) := match RP with | none => none | some (t, prio, s1) => infO (termO true f) most t prio s1
set_option maxHeartbeats 8000000 in
theorem s_term_zero (g : Nat) (L : List Sg) (lv : Value) : TermC 0 g L lv := by
 intro dd most st0 nv w hdd h
 have e : termO true 0 most st0 = none := rfl
 rw [e]
 clear e
 obtain rfl : dd = 130 := by omega
 clear hdd
 obtain ⟨W, hW⟩ : ∃ W, W = w.alloc (.cells #[.int .i64 0, .string ⟨#[]⟩, .int .i64 0, .slice none 0 0] 24) := ⟨_, rfl⟩
 have bW : Below w.heap.size w W := by rw [hW]; exact (Below.refl _ _).alloc (Nat.le_refl _) _
 have sW : W.heap.size = w.heap.size + 1 := by rw [hW]; simp
 have kW : W.heap[w.heap.size]? = some (.cells #[.int .i64 0, .string ⟨#[]⟩, .int .i64 0, .slice none 0 0] 24 (0, 0)) := by rw [hW]; exact heap_alloc_new _ _
 have HS0 : Hid (SRd g L lv nv w (some (130, st0))) := h
 have HSWW : Hid (SRd g L lv nv W (some (130, st0))) := h.keep bW
 have HKW : Hid (W.heap[w.heap.size]? = some (.cells #[.int .i64 0, .string ⟨#[]⟩, .int .i64 0, .slice none 0 0] 24 (0, 0))) := kW
 have HBW : Hid (Below w.heap.size w W) := bW
 have HSW : Hid (W.heap.size = w.heap.size + 1) := sW
 obtain ⟨ga, gbad, gdv, gnm, hg0, _, _, hgb, hgd, _⟩ := HSWW.out.ex
 subst hgb hgd
 obtain ⟨c0, c1, c2, c3, c4, cf⟩ := b5f hg0
 have f3 := cf 3
 have f2 := cf 2
 clear h bW sW kW hg0 cf
 go_enter Tryz.func27, Tryz.ntmps27
 go_upto_region 1 with fail
 rw [← hW]
 clear hW
 go_upto_region 2 with fail
 obtain ⟨V1, hV1⟩ : ∃ V1, V1 = W.setCell ⟨g, 3, none⟩ (.int .i64 (131)) := ⟨_, rfl⟩
 rw [← hV1]
 have HS1 : Hid (SRd g L lv nv V1 (some (130 + 1, st0))) := by rw [hV1]; exact HSWW.out.setDeep (by omega)
 have HX1 : Hid (FX (XS g nv) (XS g nv) W V1) := by rw [hV1]; exact FX.set_g _
 obtain ⟨ga1, gbad1, gdv1, gnm1, hg1, _, _, hgb1, hgd1, _⟩ := HS1.out.ex
 subst hgb1 hgd1
 clear c0 c1 c2 c3 c4 f2 f3
 obtain ⟨c0, c1, c2, c3, c4, cf⟩ := b5f hg1
 have f2 := cf 2
 clear hV1 hg1 cf
 go_upto_region 4 with fail
 obtain ⟨V, hV⟩ : ∃ V, V = V1.setCell ⟨g, 2, none⟩ (.bool true) := ⟨_, rfl⟩
 rw [← hV]
 have HSZ : Hid (SRd g L lv nv V none) := by rw [hV]; exact HS1.out.fall
 have HXT : Hid (FX (XS g nv) (XS g nv) W V) := by rw [hV]; exact HX1.out.trans (FX.set_g _)
 have hk := res_keep HS0.out HSW.out HXT.out HKW.out
 obtain ⟨z0, z1, z2, z3, q0, q1, q2, q3⟩ := blk4 hk
 have HK9 : Hid _ := hk
 clear hk hV c0 c1 c2 c3 c4 f2
 go_wp2
 refine bodyPost_ret_by (results_cell_row rfl _ _ w.heap.size 24 _ (0, 0) _ rfl (blk4_set HK9.out) Tryz.underlying24 rfl (by kernel_rfl)) rfl ?_
 exact ⟨_, rfl, TmR.fin HS0.out HBW.out HSW.out HXT.out (t := noTm) (TOk.leaf (by decide) (by decide) (by decide)) (fun y hy => by cases hy) HSZ.out⟩
set_option maxHeartbeats 16000000 in
set_option maxRecDepth 20000 in
theorem s_term_succ (f g : Nat) (L : List Sg) (lv : Value) (hL : L.length ≤ 3000) (hO : LOk L) (HT : TermC f g L lv) : TermC (f + 1) g L lv := by
 intro dd most st0 nv w hdd h
 obtain ⟨T, hT⟩ : ∃ T, T = termO true (f + 1) most st0 := ⟨_, rfl⟩
 rw [← hT]
 have hf1 : (dd + 1) + f = 130 := by omega
 obtain ⟨RP, hRP⟩ : ∃ RP, RP = primO true (termO true f) most st0 := ⟨_, rfl⟩
 have HTP : Hid (T = afterP f most RP) := by
   show _ = _
   rw [hT, hRP]; rfl
 have HPR : Hid (∀ nv' W', SRd g L lv nv' W' (some (dd + 1, st0)) → Calls Tryz.prog 41 #[.pointer (some ⟨g, 0, none⟩), .int .i64 most] W' fun e w' => PrR g L lv nv' W' e w' RP (dd + 1)) := by
   intro nv' W' hs
   have := s_prim f g L lv nv' (dd + 1) most st0 W' hf1 hL hO HT hs
   rw [← hRP] at this
   exact this
 have HTT : Hid (∀ m nv' W' st, SRd g L lv nv' W' (some (dd + 1, st)) → Calls Tryz.prog 27 #[.pointer (some ⟨g, 0, none⟩), .int .i64 m] W' fun e w' => ∃ v, e = .returned v ∧ TmR g L lv nv' W' v w' (termO true f m st) (dd + 1)) := fun m nv' W' st hs => HT (dd + 1) m st nv' W' hf1 hs
 have HL : Hid (L.length ≤ 3000) := hL
 have hd3 : (dd : Int) ≤ 129 := by omega
 have d130 : decide ((130 : Int) < (dd : Int) + 1) = false := decide_eq_false (by omega)
 clear hT hRP HT hO hL hdd hf1
 obtain ⟨W, hW⟩ : ∃ W, W = w.alloc (.cells #[.int .i64 0, .string ⟨#[]⟩, .int .i64 0, .slice none 0 0] 24) := ⟨_, rfl⟩
 have bW : Below w.heap.size w W := by rw [hW]; exact (Below.refl _ _).alloc (Nat.le_refl _) _
 have sW : W.heap.size = w.heap.size + 1 := by rw [hW]; simp
 have kW : W.heap[w.heap.size]? = some (.cells #[.int .i64 0, .string ⟨#[]⟩, .int .i64 0, .slice none 0 0] 24 (0, 0)) := by rw [hW]; exact heap_alloc_new _ _
 have HS0 : Hid (SRd g L lv nv w (some (dd, st0))) := h
 have HSWW : Hid (SRd g L lv nv W (some (dd, st0))) := h.keep bW
 have HKW : Hid (W.heap[w.heap.size]? = some (.cells #[.int .i64 0, .string ⟨#[]⟩, .int .i64 0, .slice none 0 0] 24 (0, 0))) := kW
 have HBW : Hid (Below w.heap.size w W) := bW
 have HSW : Hid (W.heap.size = w.heap.size + 1) := sW
 obtain ⟨ga, gbad, gdv, gnm, hg0, _, _, hgb, hgd, _⟩ := HSWW.out.ex
 subst hgb hgd
 obtain ⟨c0, c1, c2, c3, c4, cf⟩ := b5f hg0
 have f3 := cf 3
 have f2 := cf 2
 clear h bW sW kW hg0 cf
 go_enter Tryz.func27, Tryz.ntmps27
 go_upto_region 1 with fail
 rw [← hW]
 clear hW
 go_upto_region 2 with fail
 obtain ⟨V1, hV1⟩ : ∃ V1, V1 = W.setCell ⟨g, 3, none⟩ (.int .i64 ((dd : Int) + 1)) := ⟨_, rfl⟩
 rw [← hV1]
 have HS1 : Hid (SRd g L lv nv V1 (some (dd + 1, st0))) := by rw [hV1]; exact HSWW.out.setDeep (by omega)
 have HX1 : Hid (FX (XS g nv) (XS g nv) W V1) := by rw [hV1]; exact FX.set_g _
 obtain ⟨ga1, gbad1, gdv1, gnm1, hg1, _, _, hgb1, hgd1, _⟩ := HS1.out.ex
 subst hgb1 hgd1
 clear c0 c1 c2 c3 c4 f2 f3
 obtain ⟨c0, c1, c2, c3, c4, cf⟩ := b5f hg1
 have f2 := cf 2
 clear hV1 hg1 cf
 have HPW : Hid _ := HPR.out nv V1 HS1.out
 go_upto_region 5 with fail
 go_wp2_with (go_at_call 41; go_loud (refine Calls.mono HPW.out ?_); rintro e w5 ⟨v, pr0, rfl, ⟨t0, F0, nv0, ht, hR, hs, hx⟩, hpr⟩; have HT5 : Hid (TOk 24 (XS g nv0) V1.heap.size w5 t0 v F0) := ht; have HR5 : Hid (∀ y, (RP.map fun y => (y.1, y.2.2)) = some y → t0 = y.1) := hR; have HS5 : Hid (SRd g L lv nv0 w5 ((RP.map fun y => (y.1, y.2.2)).map fun y => (dd + 1, y.2))) := hs; have HX5 : Hid (FX (XS g nv) (XS g nv0) V1 w5) := hx; have HPP : Hid (∀ y, RP = some y → pr0 = y.2.1) := hpr; obtain ⟨j1, j2, j3, j4, j5, j6, rfl⟩ := ht.form; clear ht hR hs hx hpr)
 obtain ⟨W6, hW6⟩ : ∃ W6, W6 = w5.alloc (.cells #[.int .i64 j1, .string j2, .int .i64 j3, .slice j4 j5 j6] 24) := ⟨_, rfl⟩
 rw [← hW6]
 obtain ⟨B5, hB5⟩ : ∃ B5, B5 = w5.heap.size := ⟨_, rfl⟩
 rw [← hB5]
 have b6 : Below w5.heap.size w5 W6 := by rw [hW6]; exact (Below.refl _ _).alloc (Nat.le_refl _) _
 have HK6 : Hid (W6.heap[B5]? = some (.cells #[.int .i64 j1, .string j2, .int .i64 j3, .slice j4 j5 j6] 24 (0, 0))) := by rw [hW6, hB5]; exact heap_alloc_new _ _
 have hxs1 := HX1.out.size
 have hxs5 := HX5.out.size
 have HB5 : Hid (W.heap.size ≤ B5) := by show _ ≤ _; omega
 have HN6 : Hid (¬ XS g nv0 B5) := HS5.out.xnew _ (by omega)
 have HT6 : Hid (TOk 24 (XB g nv0 B5) W.heap.size W6 t0 (.agg #[.int .i64 j1, .string j2, .int .i64 j3, .slice j4 j5 j6]) F0) := by
   have h5 : TOk 24 (XB g nv0 B5) W.heap.size w5 t0 (.agg #[.int .i64 j1, .string j2, .int .i64 j3, .slice j4 j5 j6]) F0 := ⟨HT5.out.own, HT5.out.nd, fun f hf => ⟨by have := (HT5.out.out f hf).1; omega, fun hx => hx.elim (HT5.out.out f hf).2 (fun e => by have := HT5.out.lt f hf; omega)⟩⟩
   exact h5.step (FX.of_below b6)
 have HS6 : Hid (SRd g L lv nv0 W6 (RP.map fun y => (dd + 1, y.2.2))) := by
   have := HS5.out.keep b6
   rw [Option.map_map] at this
   exact this
 have HX6 : Hid (FX (XS g nv) (XS g nv0) W W6) := (HX1.out.trans HX5.out).trans (FX.of_below b6)
 have HI6 : Hid (TermI f (dd + 1) most (RP.map fun y => (dd + 1, y.2.2)) t0 pr0 T) := by
   have e := HTP.out
   have h1 := HR5.out
   have h2 := HPP.out
   cases RP with
   | none => exact Or.inl ⟨rfl, e⟩
   | some y =>
     refine Or.inr ⟨y.2.2, rfl, ?_⟩
     rw [h1 (y.1, y.2.2) rfl, h2 y rfl, e]
     rfl
 clear hW6 hB5 b6 hxs1 hxs5 HT5 HR5 HS5 HPP HPW HPR HTP c0 c1 c2 c3 c4 f2 d130
 go_loopw [6] (fun vp wr => ∃ (nv' : Value) (t : Tm) (pr : Int) (i1 : Int) (i2 : ByteArray) (i3 : Int) (i4 : Option Addr) (i5 i6 : Nat) (F : List Nat) (o : Option (Nat × St)), vp = .int .i64 pr ∧ Hid (wr.heap[B5]? = some (.cells #[.int .i64 i1, .string i2, .int .i64 i3, .slice i4 i5 i6] 24 (0, 0))) ∧ Hid (TOk 24 (XB g nv' B5) W.heap.size wr t (.agg #[.int .i64 i1, .string i2, .int .i64 i3, .slice i4 i5 i6]) F) ∧ Hid (SRd g L lv nv' wr o) ∧ Hid (FX (XS g nv) (XS g nv') W wr) ∧ Hid (¬ XS g nv' B5) ∧ Hid (TermI f (dd + 1) most o t pr T)) (fun _ wr => msr g L.length wr)
 case atStart => exact ⟨nv0, t0, pr0, j1, j2, j3, j4, j5, j6, F0, _, rfl, HK6.out, HT6.out, HS6.out, HX6.out, HN6.out, HI6.out⟩
 case round =>
   obtain ⟨nv', t, pr, i1, i2, i3, i4, i5, i6, F, o, rfl, HK, HTT1, HS, HX, HN, HI⟩ := hrel
   clear HK6 HT6 HS6 HX6 HN6 HI6
   rcases HI.out with ⟨rfl, hTn⟩ | ⟨st, rfl, hTs⟩
   · have HSZ : Hid (SRd g L lv nv' wr none) := HS.out
     have HTZ : Hid (T = none) := hTn
     have HKZ : Hid _ := HK.out
     have HTLZ : Hid _ := HTT1.out
     have HXZ : Hid _ := HX.out
     clear hTn
     obtain ⟨ga2, dv2, hg2⟩ := HSZ.out.bad
     obtain ⟨c0, c1, c2, c3, c4, cf⟩ := b5f hg2
     have f3 := cf 3
     clear hg2 cf
     go_upto_region 14 with fail
     obtain ⟨V, hV⟩ : ∃ V, V = wr.setCell ⟨g, 3, none⟩ (.int .i64 (wrap64 (dv2 - 1))) := ⟨_, rfl⟩
     rw [← hV]
     have hBg : B5 ≠ g := by have := HB5.out; have := HSWW.out.lt; omega
     have HSV : Hid (SRd g L lv nv' V (T.map fun y => (dd, y.2))) := by rw [hV, HTZ.out]; exact HSZ.out.setDeepB _
     have HKV : Hid (V.heap[B5]? = some (.cells #[.int .i64 i1, .string i2, .int .i64 i3, .slice i4 i5 i6] 24 (0, 0))) := by rw [hV, set_oth5 _ hBg]; exact HKZ.out
     have HTV : Hid (TOk 24 (XS g nv') W.heap.size V t (.agg #[.int .i64 i1, .string i2, .int .i64 i3, .slice i4 i5 i6]) F) := by rw [hV]; exact HTLZ.out.weak.step (FX.set_g _)
     have HXT : Hid (FX (XS g nv) (XS g nv') W V) := by rw [hV]; exact HXZ.out.trans (FX.set_g _)
     have hk := res_keep HS0.out HSW.out HXT.out HKW.out
     obtain ⟨z0, z1, z2, z3, q0, q1, q2, q3⟩ := blk4 hk
     obtain ⟨b0, b1, b2, b3, _⟩ := blk4 HKV.out
     have HK9 : Hid _ := hk
     clear hk hV c0 c1 c2 c3 c4 f3
     go_wp2
     refine bodyPost_ret_by (results_cell_row rfl _ _ w.heap.size 24 _ (0, 0) _ rfl (blk4_set HK9.out) Tryz.underlying24 rfl (by kernel_rfl)) rfl ?_
     exact ⟨_, rfl, TmR.fin HS0.out HBW.out HSW.out HXT.out HTV.out (by intro y hy; rw [HTZ.out] at hy; cases hy) HSV.out⟩
   · obtain ⟨io, hio⟩ : ∃ io, io = infixO st.rest := ⟨_, rfl⟩
     have HIF := s_infix g L lv nv' (dd + 1) st wr HS.out
     rw [← hio] at HIF
     obtain ⟨os, o1, o2, o3, eo⟩ := opV_shape io
     rw [eo] at HIF
     obtain ⟨ob, hob⟩ : ∃ ob, ob = io.isSome := ⟨_, rfl⟩
     rw [← hob] at HIF
     have HIF : Hid _ := HIF
     rw [infO_step, ← hio] at hTs
     obtain ⟨ga, gbad, gdv, gnm, hg0, _, _, hgb, _⟩ := HS.out.ex
     subst hgb
     obtain ⟨c0, c1, c2, c3, c4, cf⟩ := b5f hg0
     have HMS : Hid (msr g L.length wr = st.rest.length + 1) := msr_some HS.out
     clear hg0 cf c0 c1 c3 c4
     have HO : Hid (opV io = .agg #[.string os, .int .i64 o1, .int .i64 o2, .int .i64 o3]) := eo
     have HIO : Hid (io = infixO st.rest) := hio
     have HC : Hid ((ob = false ∧ T = some (t, st)) ∨ (ob = true ∧ ((most < o1 ∧ T = some (t, st)) ∨ (¬ most < o1 ∧ o2 < pr ∧ T = some (t, st)) ∨ (¬ most < o1 ∧ ¬ o2 < pr ∧ os.size ≤ maxLen ∧ (∃ x r', st.rest = x :: r') ∧ T = contO f most t os o1 (termO true f o3 ⟨st.rest.tail, st.names⟩))))) := by
       cases io with
       | none => exact Or.inl ⟨hob, hTs.symm⟩
       | some op =>
         obtain ⟨p0, p1, p2, p3⟩ := op
         simp [opV] at eo
         obtain ⟨rfl, rfl, rfl, rfl⟩ := eo
         refine Or.inr ⟨hob, ?_⟩
         simp only at hTs
         by_cases h1 : most < p1
         · rw [if_pos (Or.inl h1)] at hTs; exact Or.inl ⟨h1, hTs.symm⟩
         · by_cases h2 : p2 < pr
           · rw [if_pos (Or.inr h2)] at hTs; exact Or.inr (Or.inl ⟨h1, h2, hTs.symm⟩)
           · rw [if_neg (fun h => h.elim h1 h2)] at hTs
             obtain ⟨h3, h4⟩ := infixO_small hio.symm
             exact Or.inr (Or.inr ⟨h1, h2, h3, h4, hTs.symm⟩)
     clear hTs hio eo hob HIO HO
     rcases HC.out with ⟨rfl, hTb⟩ | ⟨rfl, ⟨h1, hTb⟩ | ⟨h1, h2, hTb⟩ | ⟨h1, h2, h3, h4, hTb⟩⟩
     · have HTZ : Hid (T = some (t, st)) := hTb
       clear hTb HC
       go_upto_region 8 with (go_at_call 42; go_loud (refine Calls.mono HIF.out ?_); rintro e w7 ⟨rfl, hb⟩; have HB7 : Hid (Below wr.heap.size wr w7) := hb; clear hb)
       obtain ⟨W7, hW7⟩ : ∃ W7, W7 = w7.alloc (.cells #[.string os, .int .i64 o1, .int .i64 o2, .int .i64 o3] 72) := ⟨_, rfl⟩
       rw [← hW7]
       obtain ⟨B7, hB7⟩ : ∃ B7, B7 = w7.heap.size := ⟨_, rfl⟩
       rw [← hB7]
       have b7 : Below wr.heap.size wr W7 := HB7.out.trans (by rw [hW7]; exact ((Below.refl _ _).alloc (Nat.le_refl _) _).mono HB7.out.size)
       have HBB7 : Hid (wr.heap.size ≤ B7) := by show _ ≤ _; rw [hB7]; exact HB7.out.size
       have HK7 : Hid (W7.heap[B7]? = some (.cells #[.string os, .int .i64 o1, .int .i64 o2, .int .i64 o3] 72 (0, 0))) := by rw [hW7, hB7]; exact heap_alloc_new _ _
       have HKZ : Hid (W7.heap[B5]? = some (.cells #[.int .i64 i1, .string i2, .int .i64 i3, .slice i4 i5 i6] 24 (0, 0))) := (b7.block B5 (Array.getElem?_eq_some_iff.1 HK.out).1).trans HK.out
       have HTLZ : Hid (TOk 24 (XB g nv' B5) W.heap.size W7 t (.agg #[.int .i64 i1, .string i2, .int .i64 i3, .slice i4 i5 i6]) F) := HTT1.out.step (FX.of_below b7)
       have HSZ : Hid (SRd g L lv nv' W7 (some (dd + 1, st))) := HS.out.keep b7
       have HXZ : Hid (FX (XS g nv) (XS g nv') W W7) := HX.out.trans (FX.of_below b7)
       clear hW7 hB7 b7 c2
       obtain ⟨p0, p1, p2, p3, _⟩ := blk4 HK7.out
       go_upto_region 13 with fail
       obtain ⟨ga2, gbad2, gdv2, gnm2, hg2, _, _, hgb2, hgd2, _⟩ := HSZ.out.ex
       subst hgb2 hgd2
       obtain ⟨c0, c1, c2, c3, c4, cf⟩ := b5f hg2
       obtain ⟨d1, hd1⟩ : ∃ d1, d1 = dd + 1 := ⟨_, rfl⟩
       rw [← hd1] at c3
       have hsubd : (d1 : Int) - 1 = (dd : Int) := by omega
       have hd13 : (d1 : Int) ≤ 130 := by omega
       have f3 := cf 3
       clear hg2 cf hd1
       go_upto_region 14 with fail
       obtain ⟨V, hV⟩ : ∃ V, V = W7.setCell ⟨g, 3, none⟩ (.int .i64 (dd : Int)) := ⟨_, rfl⟩
       rw [← hV]
       have hBg : B5 ≠ g := by have := HB5.out; have := HSWW.out.lt; omega
       have HSV : Hid (SRd g L lv nv' V (T.map fun y => (dd, y.2))) := by rw [hV, HTZ.out]; exact HSZ.out.setDeep rfl
       have HKV : Hid (V.heap[B5]? = some (.cells #[.int .i64 i1, .string i2, .int .i64 i3, .slice i4 i5 i6] 24 (0, 0))) := by rw [hV, set_oth5 _ hBg]; exact HKZ.out
       have HTV : Hid (TOk 24 (XS g nv') W.heap.size V t (.agg #[.int .i64 i1, .string i2, .int .i64 i3, .slice i4 i5 i6]) F) := by rw [hV]; exact HTLZ.out.weak.step (FX.set_g _)
       have HXT : Hid (FX (XS g nv) (XS g nv') W V) := by rw [hV]; exact HXZ.out.trans (FX.set_g _)
       have hk := res_keep HS0.out HSW.out HXT.out HKW.out
       obtain ⟨z0, z1, z2, z3, q0, q1, q2, q3⟩ := blk4 hk
       obtain ⟨b0, b1, b2, b3, _⟩ := blk4 HKV.out
       have HK9 : Hid _ := hk
       clear hk hV c0 c1 c2 c3 c4 f3
       go_wp2
       refine bodyPost_ret_by (results_cell_row rfl _ _ w.heap.size 24 _ (0, 0) _ rfl (blk4_set HK9.out) Tryz.underlying24 rfl (by kernel_rfl)) rfl ?_
       exact ⟨_, rfl, TmR.fin HS0.out HBW.out HSW.out HXT.out HTV.out (by intro y hy; rw [HTZ.out] at hy; cases hy; rfl) HSV.out⟩
     · have HTZ : Hid (T = some (t, st)) := hTb
       have e1 : decide (most < o1) = true := decide_eq_true h1
       clear hTb HC h1
       go_upto_region 8 with (go_at_call 42; go_loud (refine Calls.mono HIF.out ?_); rintro e w7 ⟨rfl, hb⟩; have HB7 : Hid (Below wr.heap.size wr w7) := hb; clear hb)
       obtain ⟨W7, hW7⟩ : ∃ W7, W7 = w7.alloc (.cells #[.string os, .int .i64 o1, .int .i64 o2, .int .i64 o3] 72) := ⟨_, rfl⟩
       rw [← hW7]
       obtain ⟨B7, hB7⟩ : ∃ B7, B7 = w7.heap.size := ⟨_, rfl⟩
       rw [← hB7]
       have b7 : Below wr.heap.size wr W7 := HB7.out.trans (by rw [hW7]; exact ((Below.refl _ _).alloc (Nat.le_refl _) _).mono HB7.out.size)
       have HBB7 : Hid (wr.heap.size ≤ B7) := by show _ ≤ _; rw [hB7]; exact HB7.out.size
       have HK7 : Hid (W7.heap[B7]? = some (.cells #[.string os, .int .i64 o1, .int .i64 o2, .int .i64 o3] 72 (0, 0))) := by rw [hW7, hB7]; exact heap_alloc_new _ _
       have HKZ : Hid (W7.heap[B5]? = some (.cells #[.int .i64 i1, .string i2, .int .i64 i3, .slice i4 i5 i6] 24 (0, 0))) := (b7.block B5 (Array.getElem?_eq_some_iff.1 HK.out).1).trans HK.out
       have HTLZ : Hid (TOk 24 (XB g nv' B5) W.heap.size W7 t (.agg #[.int .i64 i1, .string i2, .int .i64 i3, .slice i4 i5 i6]) F) := HTT1.out.step (FX.of_below b7)
       have HSZ : Hid (SRd g L lv nv' W7 (some (dd + 1, st))) := HS.out.keep b7
       have HXZ : Hid (FX (XS g nv) (XS g nv') W W7) := HX.out.trans (FX.of_below b7)
       clear hW7 hB7 b7 c2
       obtain ⟨p0, p1, p2, p3, _⟩ := blk4 HK7.out
       go_upto_region 13 with fail
       obtain ⟨ga2, gbad2, gdv2, gnm2, hg2, _, _, hgb2, hgd2, _⟩ := HSZ.out.ex
       subst hgb2 hgd2
       obtain ⟨c0, c1, c2, c3, c4, cf⟩ := b5f hg2
       obtain ⟨d1, hd1⟩ : ∃ d1, d1 = dd + 1 := ⟨_, rfl⟩
       rw [← hd1] at c3
       have hsubd : (d1 : Int) - 1 = (dd : Int) := by omega
       have hd13 : (d1 : Int) ≤ 130 := by omega
       have f3 := cf 3
       clear hg2 cf hd1
       go_upto_region 14 with fail
       obtain ⟨V, hV⟩ : ∃ V, V = W7.setCell ⟨g, 3, none⟩ (.int .i64 (dd : Int)) := ⟨_, rfl⟩
       rw [← hV]
       have hBg : B5 ≠ g := by have := HB5.out; have := HSWW.out.lt; omega
       have HSV : Hid (SRd g L lv nv' V (T.map fun y => (dd, y.2))) := by rw [hV, HTZ.out]; exact HSZ.out.setDeep rfl
       have HKV : Hid (V.heap[B5]? = some (.cells #[.int .i64 i1, .string i2, .int .i64 i3, .slice i4 i5 i6] 24 (0, 0))) := by rw [hV, set_oth5 _ hBg]; exact HKZ.out
       have HTV : Hid (TOk 24 (XS g nv') W.heap.size V t (.agg #[.int .i64 i1, .string i2, .int .i64 i3, .slice i4 i5 i6]) F) := by rw [hV]; exact HTLZ.out.weak.step (FX.set_g _)
       have HXT : Hid (FX (XS g nv) (XS g nv') W V) := by rw [hV]; exact HXZ.out.trans (FX.set_g _)
       have hk := res_keep HS0.out HSW.out HXT.out HKW.out
       obtain ⟨z0, z1, z2, z3, q0, q1, q2, q3⟩ := blk4 hk
       obtain ⟨b0, b1, b2, b3, _⟩ := blk4 HKV.out
       have HK9 : Hid _ := hk
       clear hk hV c0 c1 c2 c3 c4 f3
       go_wp2
       refine bodyPost_ret_by (results_cell_row rfl _ _ w.heap.size 24 _ (0, 0) _ rfl (blk4_set HK9.out) Tryz.underlying24 rfl (by kernel_rfl)) rfl ?_
       exact ⟨_, rfl, TmR.fin HS0.out HBW.out HSW.out HXT.out HTV.out (by intro y hy; rw [HTZ.out] at hy; cases hy; rfl) HSV.out⟩
     · have HTZ : Hid (T = some (t, st)) := hTb
       have e1 : decide (most < o1) = false := decide_eq_false h1
       have e2 : decide (o2 < pr) = true := decide_eq_true h2
       clear hTb HC h1 h2
       go_upto_region 8 with (go_at_call 42; go_loud (refine Calls.mono HIF.out ?_); rintro e w7 ⟨rfl, hb⟩; have HB7 : Hid (Below wr.heap.size wr w7) := hb; clear hb)
       obtain ⟨W7, hW7⟩ : ∃ W7, W7 = w7.alloc (.cells #[.string os, .int .i64 o1, .int .i64 o2, .int .i64 o3] 72) := ⟨_, rfl⟩
       rw [← hW7]
       obtain ⟨B7, hB7⟩ : ∃ B7, B7 = w7.heap.size := ⟨_, rfl⟩
       rw [← hB7]
       have b7 : Below wr.heap.size wr W7 := HB7.out.trans (by rw [hW7]; exact ((Below.refl _ _).alloc (Nat.le_refl _) _).mono HB7.out.size)
       have HBB7 : Hid (wr.heap.size ≤ B7) := by show _ ≤ _; rw [hB7]; exact HB7.out.size
       have HK7 : Hid (W7.heap[B7]? = some (.cells #[.string os, .int .i64 o1, .int .i64 o2, .int .i64 o3] 72 (0, 0))) := by rw [hW7, hB7]; exact heap_alloc_new _ _
       have HKZ : Hid (W7.heap[B5]? = some (.cells #[.int .i64 i1, .string i2, .int .i64 i3, .slice i4 i5 i6] 24 (0, 0))) := (b7.block B5 (Array.getElem?_eq_some_iff.1 HK.out).1).trans HK.out
       have HTLZ : Hid (TOk 24 (XB g nv' B5) W.heap.size W7 t (.agg #[.int .i64 i1, .string i2, .int .i64 i3, .slice i4 i5 i6]) F) := HTT1.out.step (FX.of_below b7)
       have HSZ : Hid (SRd g L lv nv' W7 (some (dd + 1, st))) := HS.out.keep b7
       have HXZ : Hid (FX (XS g nv) (XS g nv') W W7) := HX.out.trans (FX.of_below b7)
       clear hW7 hB7 b7 c2
       obtain ⟨p0, p1, p2, p3, _⟩ := blk4 HK7.out
       go_upto_region 13 with fail
       obtain ⟨ga2, gbad2, gdv2, gnm2, hg2, _, _, hgb2, hgd2, _⟩ := HSZ.out.ex
       subst hgb2 hgd2
       obtain ⟨c0, c1, c2, c3, c4, cf⟩ := b5f hg2
       obtain ⟨d1, hd1⟩ : ∃ d1, d1 = dd + 1 := ⟨_, rfl⟩
       rw [← hd1] at c3
       have hsubd : (d1 : Int) - 1 = (dd : Int) := by omega
       have hd13 : (d1 : Int) ≤ 130 := by omega
       have f3 := cf 3
       clear hg2 cf hd1
       go_upto_region 14 with fail
       obtain ⟨V, hV⟩ : ∃ V, V = W7.setCell ⟨g, 3, none⟩ (.int .i64 (dd : Int)) := ⟨_, rfl⟩
       rw [← hV]
       have hBg : B5 ≠ g := by have := HB5.out; have := HSWW.out.lt; omega
       have HSV : Hid (SRd g L lv nv' V (T.map fun y => (dd, y.2))) := by rw [hV, HTZ.out]; exact HSZ.out.setDeep rfl
       have HKV : Hid (V.heap[B5]? = some (.cells #[.int .i64 i1, .string i2, .int .i64 i3, .slice i4 i5 i6] 24 (0, 0))) := by rw [hV, set_oth5 _ hBg]; exact HKZ.out
       have HTV : Hid (TOk 24 (XS g nv') W.heap.size V t (.agg #[.int .i64 i1, .string i2, .int .i64 i3, .slice i4 i5 i6]) F) := by rw [hV]; exact HTLZ.out.weak.step (FX.set_g _)
       have HXT : Hid (FX (XS g nv) (XS g nv') W V) := by rw [hV]; exact HXZ.out.trans (FX.set_g _)
       have hk := res_keep HS0.out HSW.out HXT.out HKW.out
       obtain ⟨z0, z1, z2, z3, q0, q1, q2, q3⟩ := blk4 hk
       obtain ⟨b0, b1, b2, b3, _⟩ := blk4 HKV.out
       have HK9 : Hid _ := hk
       clear hk hV c0 c1 c2 c3 c4 f3
       go_wp2
       refine bodyPost_ret_by (results_cell_row rfl _ _ w.heap.size 24 _ (0, 0) _ rfl (blk4_set HK9.out) Tryz.underlying24 rfl (by kernel_rfl)) rfl ?_
       exact ⟨_, rfl, TmR.fin HS0.out HBW.out HSW.out HXT.out HTV.out (by intro y hy; rw [HTZ.out] at hy; cases hy; rfl) HSV.out⟩
     · obtain ⟨R1, hR1⟩ : ∃ R1, R1 = termO true f o3 ⟨st.rest.tail, st.names⟩ := ⟨_, rfl⟩
       have HTC : Hid (T = contO f most t os o1 R1) := by rw [hR1]; exact hTb
       have HTM : Hid (∀ W', SRd g L lv nv' W' (some (dd + 1, ⟨st.rest.tail, st.names⟩)) → Calls Tryz.prog 27 #[.pointer (some ⟨g, 0, none⟩), .int .i64 o3] W' fun e w' => ∃ v, e = .returned v ∧ TmR g L lv nv' W' v w' R1 (dd + 1)) := by
         intro W' hs
         have := HTT.out o3 nv' W' _ hs
         rw [← hR1] at this
         exact this
       have HSH : Hid (∀ y, R1 = some y → y.2.rest.length < st.rest.length) := by
         intro y hy
         rw [hR1] at hy
         have := termO_short true f _ _ y.1 y.2 hy
         simp only [List.length_tail] at this
         omega
       have HOS : Hid (os.size ≤ maxLen) := h3
       have HCO : Hid (∃ x r', st.rest = x :: r') := h4
       have e1 : decide (most < o1) = false := decide_eq_false h1
       have e2 : decide (o2 < pr) = false := decide_eq_false h2
       clear hTb HC h1 h2 h3 h4 hR1
       go_upto_region 8 with (go_at_call 42; go_loud (refine Calls.mono HIF.out ?_); rintro e w7 ⟨rfl, hb⟩; have HB7 : Hid (Below wr.heap.size wr w7) := hb; clear hb)
       obtain ⟨W7, hW7⟩ : ∃ W7, W7 = w7.alloc (.cells #[.string os, .int .i64 o1, .int .i64 o2, .int .i64 o3] 72) := ⟨_, rfl⟩
       rw [← hW7]
       obtain ⟨B7, hB7⟩ : ∃ B7, B7 = w7.heap.size := ⟨_, rfl⟩
       rw [← hB7]
       have b7 : Below wr.heap.size wr W7 := HB7.out.trans (by rw [hW7]; exact ((Below.refl _ _).alloc (Nat.le_refl _) _).mono HB7.out.size)
       have HBB7 : Hid (wr.heap.size ≤ B7) := by show _ ≤ _; rw [hB7]; exact HB7.out.size
       have HK7 : Hid (W7.heap[B7]? = some (.cells #[.string os, .int .i64 o1, .int .i64 o2, .int .i64 o3] 72 (0, 0))) := by rw [hW7, hB7]; exact heap_alloc_new _ _
       have HKZ : Hid (W7.heap[B5]? = some (.cells #[.int .i64 i1, .string i2, .int .i64 i3, .slice i4 i5 i6] 24 (0, 0))) := (b7.block B5 (Array.getElem?_eq_some_iff.1 HK.out).1).trans HK.out
       have HTLZ : Hid (TOk 24 (XB g nv' B5) W.heap.size W7 t (.agg #[.int .i64 i1, .string i2, .int .i64 i3, .slice i4 i5 i6]) F) := HTT1.out.step (FX.of_below b7)
       have HSZ : Hid (SRd g L lv nv' W7 (some (dd + 1, st))) := HS.out.keep b7
       have HXZ : Hid (FX (XS g nv) (XS g nv') W W7) := HX.out.trans (FX.of_below b7)
       clear hW7 hB7 b7 c2
       obtain ⟨p0, p1, p2, p3, _⟩ := blk4 HK7.out
       obtain ⟨x, r', hxr⟩ := HCO.out
       have S7 := HSZ.out
       obtain ⟨rest, names⟩ := st
       simp only at hxr
       subst hxr
       obtain ⟨p, lb, cap, hlv, hp, hd, hnm, hg7, hl7, hn7, _⟩ := S7.sign
       obtain ⟨c0, c1, c2, c3, c4, cf⟩ := b5f hg7
       have f1 := cf 1
       have hp3 : (p : Int) ≤ 3000 := by have := HL.out; omega
       have HRAW : Hid (W7.heap[g]? = some (.cells #[lv, .int .i64 (p : Int), .bool false, .int .i64 ((dd + 1 : Nat) : Int), nv'] 52 (0, 0)) ∧ LIn W7 g L lv ∧ NRow W7 (g + 1) names nv' ∧ p < L.length ∧ L.drop (p + 1) = r' ∧ names.length ≤ p) := ⟨hg7, hl7, hn7, hp, hd, hnm⟩
       clear S7 hlv hp hd hnm hg7 hl7 hn7 cf c0 c2 c3 c4
       go_upto_region 10 with fail
       obtain ⟨V10, hV10⟩ : ∃ V10, V10 = W7.setCell ⟨g, 1, none⟩ (.int .i64 ((p : Int) + 1)) := ⟨_, rfl⟩
       rw [← hV10]
       obtain ⟨r1, r2, r3, r4, r5, r6⟩ := HRAW.out
       have S10 : SRd g L lv nv' V10 (some (dd + 1, ⟨r', names⟩)) := by rw [hV10]; exact SRd.go 1 r1 r2 r3 (by omega) r5 r6 (by omega)
       have hgW := HSWW.out.lt
       have hB5 := HB5.out
       have hwr := HX.out.size
       have hB7 := HBB7.out
       have HX10 : Hid (FX (XS g nv') (XS g nv') W7 V10) := by rw [hV10]; exact FX.set_g _
       have HK107 : Hid (V10.heap[B7]? = some (.cells #[.string os, .int .i64 o1, .int .i64 o2, .int .i64 o3] 72 (0, 0))) := by rw [hV10, set_oth5 _ (by omega)]; exact HK7.out
       have HK105 : Hid (V10.heap[B5]? = some (.cells #[.int .i64 i1, .string i2, .int .i64 i3, .slice i4 i5 i6] 24 (0, 0))) := by rw [hV10, set_oth5 _ (by omega)]; exact HKZ.out
       have HTW : Hid _ := HTM.out V10 S10
       have HN7 : Hid (¬ XS g nv' B7) := HS.out.xnew _ hB7
       obtain ⟨p0, p1, p2, p3, _⟩ := blk4 HK107.out
       clear hV10 S10 r1 r2 r3 r4 r5 r6 c1 f1 hgW hB5 hwr hB7
       go_upto_region 11 with (go_at_call 27; go_loud (refine Calls.mono HTW.out ?_); rintro e w11 ⟨v, rfl, y, Fy, nv2, ht, hR, hs, hx⟩; have HT11 : Hid (TOk 24 (XS g nv2) V10.heap.size w11 y v Fy) := ht; have HR11 : Hid (∀ z, R1 = some z → y = z.1) := hR; have HS11 : Hid (SRd g L lv nv2 w11 (R1.map fun z => (dd + 1, z.2))) := hs; have HX11 : Hid (FX (XS g nv') (XS g nv2) V10 w11) := hx; obtain ⟨y1, y2, y3, y4, y5, y6, rfl⟩ := ht.form; clear ht hR hs hx)
       obtain ⟨W11, hW11⟩ : ∃ W11, W11 = w11.alloc (.cells #[.int .i64 y1, .string y2, .int .i64 y3, .slice y4 y5 y6] 24) := ⟨_, rfl⟩
       rw [← hW11]
       obtain ⟨B9, hB9⟩ : ∃ B9, B9 = w11.heap.size := ⟨_, rfl⟩
       rw [← hB9]
       have b11 : Below w11.heap.size w11 W11 := by rw [hW11]; exact (Below.refl _ _).alloc (Nat.le_refl _) _
       have l7 : B7 < V10.heap.size := (Array.getElem?_eq_some_iff.1 HK107.out).1
       have l5 : B5 < V10.heap.size := (Array.getElem?_eq_some_iff.1 HK105.out).1
       have hx11 := HX11.out.size
       have k9 : W11.heap[B9]? = some (.cells #[.int .i64 y1, .string y2, .int .i64 y3, .slice y4 y5 y6] 24 (0, 0)) := by rw [hW11, hB9]; exact heap_alloc_new _ _
       have HK7b : Hid (W11.heap[B7]? = some (.cells #[.string os, .int .i64 o1, .int .i64 o2, .int .i64 o3] 72 (0, 0))) := (b11.block B7 (by omega)).trans ((HX11.out.block B7 l7 HN7.out).trans HK107.out)
       have HK5b : Hid (W11.heap[B5]? = some (.cells #[.int .i64 i1, .string i2, .int .i64 i3, .slice i4 i5 i6] 24 (0, 0))) := (b11.block B5 (by omega)).trans ((HX11.out.block B5 l5 HN.out).trans HK105.out)
       have HNb : Hid (¬ XS g nv2 B5) := XS_keep HN.out HX11.out l5
       have HNb7 : Hid (¬ XS g nv2 B7) := XS_keep HN7.out HX11.out l7
       have x7 : FX (XS g nv') (XS g nv2) W7 W11 := (HX10.out.trans HX11.out).trans (FX.of_below b11)
       have HTt : Hid (TOk 24 (XB g nv2 B5) W.heap.size W11 t (.agg #[.int .i64 i1, .string i2, .int .i64 i3, .slice i4 i5 i6]) F) := HTLZ.out.step x7.lift
       have hxz := HXZ.out.size
       have hx10 := HX10.out.size
       have HTy : Hid (TOk 24 (XB g nv2 B5) W.heap.size W11 y (.agg #[.int .i64 y1, .string y2, .int .i64 y3, .slice y4 y5 y6]) Fy) := ((HT11.out.lift l5).lo_le (by omega)).step (FX.of_below b11)
       have HDD : Hid (∀ f ∈ F, ∀ h ∈ Fy, f ≠ h) := fun f hf h hh => by have := HTLZ.out.lt f hf; have := (HT11.out.out h hh).1; omega
       have HSb : Hid (SRd g L lv nv2 W11 (R1.map fun z => (dd + 1, z.2))) := HS11.out.keep b11
       have HXb : Hid (FX (XS g nv) (XS g nv2) W W11) := HXZ.out.trans x7
       have HTWO : Hid _ := s_two (XB g nv2 B5) W.heap.size os t y _ _ F Fy W11 HTt.out HTy.out HDD.out HXb.out.size (fun k hk hx => hx.elim (HSb.out.xnew k hk) (fun e => by have := (Array.getElem?_eq_some_iff.1 HK5b.out).1; omega)) HOS.out
       obtain ⟨n0, n1, n2, n3, _⟩ := blk4 k9
       obtain ⟨b0, b1, b2, b3, fb0, fb1, fb2, fb3⟩ := blk4 HK5b.out
       obtain ⟨p0, p1, p2, p3, _⟩ := blk4 HK7b.out
       have hB57 : B5 ≠ B7 := by have := (Array.getElem?_eq_some_iff.1 HK.out).1; have := HBB7.out; omega
       clear hW11 hB9 b11 l7 l5 hx11 k9 x7 hxz hx10
       go_upto_region 12 with (go_at_call 43; go_loud (refine Calls.mono HTWO.out ?_); rintro e w12 ⟨v, Fn, rfl, ht, hsub, hb⟩; have HTn : Hid (TOk 24 (XB g nv2 B5) W.heap.size w12 (structTm os [t, y]) v Fn) := ht; have HB12 : Hid (Below W11.heap.size W11 w12) := hb; obtain ⟨h1, h2, h3, h4, h5, h6, rfl⟩ := ht.form; have hk5 := (hb.block B5 (Array.getElem?_eq_some_iff.1 HK5b.out).1).trans HK5b.out; obtain ⟨m0, m1, m2, m3, fm0, fm1, fm2, fm3⟩ := blk4 hk5; have HK12 : Hid _ := hk5; clear ht hsub hb hk5)
       obtain ⟨V12, hV12⟩ : ∃ V12, V12 = (((w12.setCell ⟨B5, 0, none⟩ (.int .i64 h1)).setCell ⟨B5, 1, none⟩ (.string h2)).setCell ⟨B5, 2, none⟩ (.int .i64 h3)).setCell ⟨B5, 3, none⟩ (.slice h4 h5 h6) := ⟨_, rfl⟩
       rw [← hV12]
       have hgB : g ≤ B5 := by have := HB5.out; have := HSWW.out.lt; omega
       have kv5 : V12.heap[B5]? = some (.cells #[.int .i64 h1, .string h2, .int .i64 h3, .slice h4 h5 h6] 24 (0, 0)) := by rw [hV12]; exact blk4_set HK12.out
       have kv7 : V12.heap[B7]? = some (.cells #[.string os, .int .i64 o1, .int .i64 o2, .int .i64 o3] 72 (0, 0)) := by rw [hV12]; exact (blk4_other (Ne.symm hB57)).trans ((HB12.out.block B7 (Array.getElem?_eq_some_iff.1 HK7b.out).1).trans HK7b.out)
       have HTV : Hid (TOk 24 (XB g nv2 B5) W.heap.size V12 (structTm os [t, y]) (.agg #[.int .i64 h1, .string h2, .int .i64 h3, .slice h4 h5 h6]) Fn) := by rw [hV12]; exact HTn.out.turn fun k hk hx => blk4_other (fun e => hx (Or.inr e))
       have HSV : Hid (SRd g L lv nv2 V12 (R1.map fun z => (dd + 1, z.2))) := by
         have s4 := HSb.out.keep HB12.out
         rw [hV12]; exact (((s4.setB HNb.out hgB _).setB HNb.out hgB _).setB HNb.out hgB _).setB HNb.out hgB _
       have HXV : Hid (FX (XS g nv) (XS g nv2) W V12) := by
         have hB5 := HB5.out
         rw [hV12]; exact ((((HXb.out.trans (FX.of_below HB12.out)).set (Or.inr hB5) _).set (Or.inr hB5) _).set (Or.inr hB5) _).set (Or.inr hB5) _
       obtain ⟨p0, p1, p2, p3, _⟩ := blk4 kv7
       have HK5V : Hid _ := kv5
       clear hV12 kv5 kv7 m0 m1 m2 m3 fm0 fm1 fm2 fm3 b0 b1 b2 b3 fb0 fb1 fb2 fb3 n0 n1 n2 n3 hgB hB57
       go_wp2
       go_roundw
       case rel =>
         refine ⟨nv2, structTm os [t, y], o1, h1, h2, h3, h4, h5, h6, Fn, _, rfl, HK5V.out, HTV.out, HSV.out, HXV.out, HNb.out, ?_⟩
         have e := HTC.out
         have hh := HR11.out
         cases R1 with
         | none => exact Or.inl ⟨rfl, e⟩
         | some z =>
           refine Or.inr ⟨z.2, rfl, ?_⟩
           rw [hh z rfl, e]
           rfl
       case measure =>
         rw [HMS.out]
         have hs := HSV.out
         have hsh := HSH.out
         cases R1 with
         | none => rw [msr_none _ hs]; omega
         | some z => rw [msr_some hs]; have := hsh z rfl; omega
theorem s_term (g : Nat) (L : List Sg) (lv : Value) (hL : L.length ≤ 3000) (hO : LOk L) : ∀ f, TermC f g L lv
 | 0 => s_term_zero g L lv
 | f + 1 => s_term_succ f g L lv hL hO (s_term g L lv hL hO f)
end Go.Proofs.YtbkjcccbjnehbanGreatDoor

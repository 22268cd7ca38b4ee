import Derived.Test.YtbkjcccbjnehbanGreatDoorMh12
import Derived.Test.YtbkjcccbjnehbanGreatDoorMh13
namespace Go.Proofs.YtbkjcccbjnehbanGreatDoor
open Go.RowKit
theorem c40_ne : (⟨#[40]⟩ : ByteArray).toList ≠ [] := by rw [ByteArray.toList_eq]; decide
theorem c91_ne : (⟨#[91]⟩ : ByteArray).toList ≠ [] := by rw [ByteArray.toList_eq]; decide
theorem mm1 (R : Option (Tm × St)) : (R.map fun y => (y.1, (0 : Int), y.2)).map (fun y => (y.1, y.2.2)) = R := by cases R <;> rfl
def PrR (g : Nat) (L : List Sg) (lv nv : Value) (w : World) (e : Ending) (w' : World) (R : Option (Tm × Int × St)) (d : Nat) : Prop :=
 ∃ v pr, e = .returned (.tuple #[v, .int .i64 pr]) ∧ TmR g L lv nv w v w' (R.map fun y => (y.1, y.2.2)) d ∧ (∀ y, R = some y → pr = y.2.1)
theorem s_at (f g : Nat) (L : List Sg) (lv nv : Value) (e0 : Nat) (most : Int) (xk : Int) (xt : ByteArray) (xn : Int) (xa : Nat) (xb : Bool) (r : List Sg) (names : List ByteArray) (w : World) (hf : e0 + f = 130) (hL : L.length ≤ 3000) (HT : TermC f g L lv) (hxs : xt.size ≤ maxLen) (hxa : xa ≤ 100000) (h : SRd g L lv nv w (some (e0, ⟨⟨xk, xt, xn, xa, xb⟩ :: r, names⟩))) (hnear : xb = true → ∃ r', mk? cLpar r = some r') :
   Calls Tryz.prog 60 #[.pointer (some ⟨g, 0, none⟩), .int .i64 most] w fun e w' => ∃ v pr, e = .returned (.tuple #[v, .int .i64 pr]) ∧ TmR g L lv nv w v w' ((atomO true (termO true f) most ⟨xk, xt, xn, xa, xb⟩ r names).map fun y => (y.1, y.2.2)) e0 ∧ (∀ y, atomO true (termO true f) most ⟨xk, xt, xn, xa, xb⟩ r names = some y → pr = y.2.1) := by
 cases hb : xb with
 | true =>
   subst hb
   exact s_at_near f g L lv nv e0 most xk xt xn xa true r names w hf hL HT hxs h rfl (hnear rfl)
 | false =>
   subst hb
   by_cases hmin : xt = cMinus ∧ nearO ⟨xk, xt, xn, xa, false⟩ r = true
   · exact s_at_minus f g L lv nv e0 most xk xt xn xa false r names w hL hxa h rfl hmin.1 hmin.2
   · have hM : (xt = cMinus ∧ nearO ⟨xk, xt, xn, xa, false⟩ r = false) ∨ xt ≠ cMinus := by
       by_cases h1 : xt = cMinus
       · refine Or.inl ⟨h1, ?_⟩
         cases hn : nearO ⟨xk, xt, xn, xa, false⟩ r with
         | false => rfl
         | true => exact absurd ⟨h1, hn⟩ hmin
       · exact Or.inr h1
     cases hop : prefixP xt with
     | some op =>
       by_cases hpr : op.prio ≤ most
       · exact s_at_prefix f g L lv nv e0 most xk xt xn xa false r names w hf hL HT hxs hxa h rfl hM op hop hpr
       · exact s_at_bad1 f g L lv nv e0 most xk xt xn xa false r names w hL hxa h rfl hM op hop hpr
     | none =>
       cases hin : infixP xt with
       | some ip => exact s_at_bad2 f g L lv nv e0 most xk xt xn xa false r names w hL hxa h rfl hM hop (by rw [hin]; rfl)
       | none => exact s_at_plain f g L lv nv e0 most xk xt xn xa false r names w hL hxs hxa h rfl hM hop hin
set_option maxHeartbeats 8000000 in
set_option maxRecDepth 20000 in
theorem s_pr_bad (f g : Nat) (L : List Sg) (lv nv : Value) (e0 : Nat) (most : Int) (rest : List Sg) (names : List ByteArray) (w : World) (hL : L.length ≤ 3000) (h : SRd g L lv nv w (some (e0, ⟨rest, names⟩))) (hk1 : isO (some (e0, ⟨rest, names⟩)) 1 ⟨#[]⟩ = false) (hm40 : mk? ⟨#[40]⟩ rest = none) (hm91 : mk? ⟨#[91]⟩ rest = none) (hk3 : isO (some (e0, ⟨rest, names⟩)) 3 ⟨#[]⟩ = false) (hk2 : isO (some (e0, ⟨rest, names⟩)) 2 ⟨#[]⟩ = false) (hno : primO true (termO true f) most ⟨rest, names⟩ = none) :
   Calls Tryz.prog 41 #[.pointer (some ⟨g, 0, none⟩), .int .i64 most] w fun e w' => PrR g L lv nv w e w' (primO true (termO true f) most ⟨rest, names⟩) e0 := by
 rw [hno]
 clear hno
 obtain ⟨W, hW⟩ : ∃ W, W = w.alloc (.cells #[.int .i64 0, .string ⟨#[]⟩, .int .i64 0, .slice none 0 0] 24) := ⟨_, rfl⟩
 have bW : Below w.heap.size w W := by rw [hW]; exact (Below.refl _ _).alloc (Nat.le_refl _) _
 have sW : W.heap.size = w.heap.size + 1 := by rw [hW]; simp
 have kW : W.heap[w.heap.size]? = some (.cells #[.int .i64 0, .string ⟨#[]⟩, .int .i64 0, .slice none 0 0] 24 (0, 0)) := by rw [hW]; exact heap_alloc_new _ _
 have HS0 : Hid (SRd g L lv nv w (some (e0, ⟨rest, names⟩))) := h
 have HSWW : Hid (SRd g L lv nv W (some (e0, ⟨rest, names⟩))) := h.keep bW
 have HKW : Hid (W.heap[w.heap.size]? = some (.cells #[.int .i64 0, .string ⟨#[]⟩, .int .i64 0, .slice none 0 0] 24 (0, 0))) := kW
 have HBW : Hid (Below w.heap.size w W) := bW
 have HSW : Hid (W.heap.size = w.heap.size + 1) := sW
 have HL : Hid (L.length ≤ 3000) := hL
 have HI : Hid (∀ k W', Below W.heap.size W W' → Calls Tryz.prog 28 #[.pointer (some ⟨g, 0, none⟩), .int .i64 k, .string ⟨#[]⟩] W' fun e w' => e = .returned (.bool (isO (some (e0, ⟨rest, names⟩)) k ⟨#[]⟩)) ∧ Below W'.heap.size W' w') := fun k W' hb => s_is g L lv nv _ k ⟨#[]⟩ W' (HSWW.out.keep hb)
 have HM : Hid (∀ (l : ByteArray) W', l.toList ≠ [] → mk? l rest = none → Below W.heap.size W W' → Calls Tryz.prog 61 #[.pointer (some ⟨g, 0, none⟩), .string l] W' fun e w' => e = .returned (.bool false) ∧ Below W'.heap.size W' w') := fun l W' hl hr hb => s_mark_no g L lv nv _ l W' hl (HSWW.out.keep hb) (fun d st e => by cases e; exact hr)
 clear h bW sW kW hL
 go_enter Tryz.func41, Tryz.ntmps41
 have HI1 := HI.out 1 W (Below.refl _ _)
 rw [hk1] at HI1
 have HI1 : Hid _ := HI1
 go_upto_region 3 with (go_at_call 28; rw [← hW]; go_loud (refine Calls.mono HI1.out ?_); rintro e w1 ⟨rfl, hb⟩; have HBw1 : Hid (Below W.heap.size W w1) := hb; clear hb hW)
 have HM40 : Hid _ := HM.out ⟨#[40]⟩ w1 c40_ne hm40 HBw1.out
 go_upto_region 5 with (go_at_call 61; go_loud (refine Calls.mono HM40.out ?_); rintro e w2 ⟨rfl, hb⟩; have HBw2 : Hid (Below W.heap.size W w2) := HBw1.out.trans (hb.mono HBw1.out.size); clear hb)
 have HM91 : Hid _ := HM.out ⟨#[91]⟩ w2 c91_ne hm91 HBw2.out
 go_upto_region 7 with (go_at_call 61; go_loud (refine Calls.mono HM91.out ?_); rintro e w3 ⟨rfl, hb⟩; have HBw3 : Hid (Below W.heap.size W w3) := HBw2.out.trans (hb.mono HBw2.out.size); clear hb)
 have HI3 := HI.out 3 w3 HBw3.out
 rw [hk3] at HI3
 have HI3 : Hid _ := HI3
 go_upto_region 10 with (go_at_call 28; go_loud (refine Calls.mono HI3.out ?_); rintro e w4 ⟨rfl, hb⟩; have HBw4 : Hid (Below W.heap.size W w4) := HBw3.out.trans (hb.mono HBw3.out.size); clear hb)
 have HI2 := HI.out 2 w4 HBw4.out
 rw [hk2] at HI2
 have HI2 : Hid _ := HI2
 go_upto_region 13 with (go_at_call 28; go_loud (refine Calls.mono HI2.out ?_); rintro e w5 ⟨rfl, hb⟩; have HBw5 : Hid (Below W.heap.size W w5) := HBw4.out.trans (hb.mono HBw4.out.size); clear hb)
 have HG := HSWW.out.keep HBw5.out
 obtain ⟨ga, gbad, gdv, gnm, hg0, _⟩ := HG.ex
 obtain ⟨c0, c1, c2, c3, c4, cf⟩ := b5f hg0
 have f2 := cf 2
 have HG5 : Hid _ := HG
 clear HG hg0 cf
 go_upto_region 14 with fail
 obtain ⟨V, hV⟩ : ∃ V, V = w5.setCell ⟨g, 2, none⟩ (.bool true) := ⟨_, rfl⟩
 rw [← hV]
 have HSZ : Hid (SRd g L lv nv V none) := by rw [hV]; exact HG5.out.fall
 have HXT : Hid (FX (XS g nv) (XS g nv) W V) := by rw [hV]; exact (FX.of_below HBw5.out).trans (FX.set_g _)
 have hk := res_keep HS0.out HSW.out HXT.out HKW.out
 obtain ⟨z0, z1, z2, z3, q0, q1, q2, q3⟩ := blk4 hk
 have HK9 : Hid _ := hk
 clear hk hV c0 c1 c2 c3 c4 f2
 go_wp2
 have hk := HK9.out
 refine bodyPost_ret_by (results_ct2 rfl _ _ w.heap.size 24 _ (0, 0) _ rfl (blk4_set hk) Tryz.underlying24 rfl (by kernel_rfl)) rfl ?_
 exact ⟨_, 0, rfl, TmR.fin HS0.out HBW.out HSW.out HXT.out (t := noTm) (TOk.leaf (by decide) (by decide) (by decide)) (fun y hy => by cases hy) HSZ.out, fun y hy => by cases hy⟩
set_option maxHeartbeats 8000000 in
set_option maxRecDepth 20000 in
theorem s_pr_round (f g : Nat) (L : List Sg) (lv nv : Value) (e0 : Nat) (most : Int) (rest : List Sg) (names : List ByteArray) (w : World) (hL : L.length ≤ 3000) (h : SRd g L lv nv w (some (e0, ⟨rest, names⟩))) (hf : e0 + f = 130) (HT : TermC f g L lv) (r : List Sg) (hsz : ∀ x ∈ r, x.text.size ≤ maxLen) (hk1 : isO (some (e0, ⟨rest, names⟩)) 1 ⟨#[]⟩ = false) (hmy : mk? ⟨#[40]⟩ rest = some r) (hno : primO true (termO true f) most ⟨rest, names⟩ = (roundO (termO true f) r names).map fun y => (y.1, 0, y.2)) :
   Calls Tryz.prog 41 #[.pointer (some ⟨g, 0, none⟩), .int .i64 most] w fun e w' => PrR g L lv nv w e w' (primO true (termO true f) most ⟨rest, names⟩) e0 := by
 rw [hno]
 have HRR : Hid (∀ W', SRd g L lv nv W' (some (e0, ⟨r, names⟩)) → _) := fun W' hs => s_round f g L lv nv e0 r names W' hf hL HT hsz hs
 clear hf HT hsz hno
 obtain ⟨W, hW⟩ : ∃ W, W = w.alloc (.cells #[.int .i64 0, .string ⟨#[]⟩, .int .i64 0, .slice none 0 0] 24) := ⟨_, rfl⟩
 have bW : Below w.heap.size w W := by rw [hW]; exact (Below.refl _ _).alloc (Nat.le_refl _) _
 have sW : W.heap.size = w.heap.size + 1 := by rw [hW]; simp
 have kW : W.heap[w.heap.size]? = some (.cells #[.int .i64 0, .string ⟨#[]⟩, .int .i64 0, .slice none 0 0] 24 (0, 0)) := by rw [hW]; exact heap_alloc_new _ _
 have HS0 : Hid (SRd g L lv nv w (some (e0, ⟨rest, names⟩))) := h
 have HSWW : Hid (SRd g L lv nv W (some (e0, ⟨rest, names⟩))) := h.keep bW
 have HKW : Hid (W.heap[w.heap.size]? = some (.cells #[.int .i64 0, .string ⟨#[]⟩, .int .i64 0, .slice none 0 0] 24 (0, 0))) := kW
 have HBW : Hid (Below w.heap.size w W) := bW
 have HSW : Hid (W.heap.size = w.heap.size + 1) := sW
 have HL : Hid (L.length ≤ 3000) := hL
 have HI : Hid (∀ k W', Below W.heap.size W W' → Calls Tryz.prog 28 #[.pointer (some ⟨g, 0, none⟩), .int .i64 k, .string ⟨#[]⟩] W' fun e w' => e = .returned (.bool (isO (some (e0, ⟨rest, names⟩)) k ⟨#[]⟩)) ∧ Below W'.heap.size W' w') := fun k W' hb => s_is g L lv nv _ k ⟨#[]⟩ W' (HSWW.out.keep hb)
 have HM : Hid (∀ (l : ByteArray) W', l.toList ≠ [] → mk? l rest = none → Below W.heap.size W W' → Calls Tryz.prog 61 #[.pointer (some ⟨g, 0, none⟩), .string l] W' fun e w' => e = .returned (.bool false) ∧ Below W'.heap.size W' w') := fun l W' hl hr hb => s_mark_no g L lv nv _ l W' hl (HSWW.out.keep hb) (fun d st e => by cases e; exact hr)
 clear h bW sW kW hL
 go_enter Tryz.func41, Tryz.ntmps41
 have HI1 := HI.out 1 W (Below.refl _ _)
 rw [hk1] at HI1
 have HI1 : Hid _ := HI1
 go_upto_region 3 with (go_at_call 28; rw [← hW]; go_loud (refine Calls.mono HI1.out ?_); rintro e w1 ⟨rfl, hb⟩; have HBw1 : Hid (Below W.heap.size W w1) := hb; clear hb hW)
 have HMY : Hid _ := s_mark_yes g L lv nv e0 ⟨rest, names⟩ ⟨#[40]⟩ r w1 HL.out c40_ne (HSWW.out.keep HBw1.out) hmy
 go_upto_region 4 with (go_at_call 61; go_loud (refine Calls.mono HMY.out ?_); rintro e w2 ⟨rfl, hs2, hx2⟩; have HS2 : Hid (SRd g L lv nv w2 (some (e0, ⟨r, names⟩))) := hs2; have HX2 : Hid (FX (XS g nv) (XS g nv) W w2) := (FX.of_below HBw1.out).trans hx2; clear hs2 hx2)
 have HRW : Hid _ := HRR.out w2 HS2.out
 clear HRR
 go_wp2_with (go_at_call 62; go_loud (refine Calls.mono HRW.out ?_); rintro e w9 ⟨v, rfl, t, F, nv', ht, hR, hs, hx⟩; have HT9 : Hid (TOk 24 (XS g nv') w2.heap.size w9 t v F) := ht; have HR9 : Hid _ := hR; have HS9 : Hid _ := hs; have HXT : Hid (FX (XS g nv) (XS g nv') W w9) := HX2.out.trans hx; obtain ⟨h1, h2, h3, h4, h5, h6, rfl⟩ := ht.form; have hk := res_keep HS0.out HSW.out HXT.out HKW.out; obtain ⟨z0, z1, z2, z3, q0, q1, q2, q3⟩ := blk4 hk; clear ht hR hs hx)
 refine bodyPost_ret_by (results_ct2 rfl _ _ w.heap.size 24 _ (0, 0) _ rfl (blk4_set hk) Tryz.underlying24 rfl (by kernel_rfl)) rfl ?_
 exact ⟨_, 0, rfl, TmR.fin HS0.out HBW.out HSW.out HXT.out (HT9.out.lo_le HX2.out.size) (by rw [mm1]; exact HR9.out) (by rw [mm1]; exact HS9.out), fun y hy => by obtain ⟨z, _, rfl⟩ := Option.map_eq_some_iff.1 hy; rfl⟩
set_option maxHeartbeats 8000000 in
set_option maxRecDepth 20000 in
theorem s_pr_row (f g : Nat) (L : List Sg) (lv nv : Value) (e0 : Nat) (most : Int) (rest : List Sg) (names : List ByteArray) (w : World) (hL : L.length ≤ 3000) (h : SRd g L lv nv w (some (e0, ⟨rest, names⟩))) (hf : e0 + f = 130) (HT : TermC f g L lv) (r : List Sg) (hk1 : isO (some (e0, ⟨rest, names⟩)) 1 ⟨#[]⟩ = false) (hm40 : mk? ⟨#[40]⟩ rest = none) (hmy : mk? ⟨#[91]⟩ rest = some r) (hno : primO true (termO true f) most ⟨rest, names⟩ = (listO (termO true f) r names).map fun y => (y.1, 0, y.2)) :
   Calls Tryz.prog 41 #[.pointer (some ⟨g, 0, none⟩), .int .i64 most] w fun e w' => PrR g L lv nv w e w' (primO true (termO true f) most ⟨rest, names⟩) e0 := by
 rw [hno]
 have HRR : Hid (∀ W', SRd g L lv nv W' (some (e0, ⟨r, names⟩)) → _) := fun W' hs => s_row f g L lv nv e0 r names W' hf hL HT hs
 clear hf HT hno
 obtain ⟨W, hW⟩ : ∃ W, W = w.alloc (.cells #[.int .i64 0, .string ⟨#[]⟩, .int .i64 0, .slice none 0 0] 24) := ⟨_, rfl⟩
 have bW : Below w.heap.size w W := by rw [hW]; exact (Below.refl _ _).alloc (Nat.le_refl _) _
 have sW : W.heap.size = w.heap.size + 1 := by rw [hW]; simp
 have kW : W.heap[w.heap.size]? = some (.cells #[.int .i64 0, .string ⟨#[]⟩, .int .i64 0, .slice none 0 0] 24 (0, 0)) := by rw [hW]; exact heap_alloc_new _ _
 have HS0 : Hid (SRd g L lv nv w (some (e0, ⟨rest, names⟩))) := h
 have HSWW : Hid (SRd g L lv nv W (some (e0, ⟨rest, names⟩))) := h.keep bW
 have HKW : Hid (W.heap[w.heap.size]? = some (.cells #[.int .i64 0, .string ⟨#[]⟩, .int .i64 0, .slice none 0 0] 24 (0, 0))) := kW
 have HBW : Hid (Below w.heap.size w W) := bW
 have HSW : Hid (W.heap.size = w.heap.size + 1) := sW
 have HL : Hid (L.length ≤ 3000) := hL
 have HI : Hid (∀ k W', Below W.heap.size W W' → Calls Tryz.prog 28 #[.pointer (some ⟨g, 0, none⟩), .int .i64 k, .string ⟨#[]⟩] W' fun e w' => e = .returned (.bool (isO (some (e0, ⟨rest, names⟩)) k ⟨#[]⟩)) ∧ Below W'.heap.size W' w') := fun k W' hb => s_is g L lv nv _ k ⟨#[]⟩ W' (HSWW.out.keep hb)
 have HM : Hid (∀ (l : ByteArray) W', l.toList ≠ [] → mk? l rest = none → Below W.heap.size W W' → Calls Tryz.prog 61 #[.pointer (some ⟨g, 0, none⟩), .string l] W' fun e w' => e = .returned (.bool false) ∧ Below W'.heap.size W' w') := fun l W' hl hr hb => s_mark_no g L lv nv _ l W' hl (HSWW.out.keep hb) (fun d st e => by cases e; exact hr)
 clear h bW sW kW hL
 go_enter Tryz.func41, Tryz.ntmps41
 have HI1 := HI.out 1 W (Below.refl _ _)
 rw [hk1] at HI1
 have HI1 : Hid _ := HI1
 go_upto_region 3 with (go_at_call 28; rw [← hW]; go_loud (refine Calls.mono HI1.out ?_); rintro e w1 ⟨rfl, hb⟩; have HBw1 : Hid (Below W.heap.size W w1) := hb; clear hb hW)
 have HM40 : Hid _ := HM.out ⟨#[40]⟩ w1 c40_ne hm40 HBw1.out
 go_upto_region 5 with (go_at_call 61; go_loud (refine Calls.mono HM40.out ?_); rintro e w1b ⟨rfl, hb⟩; have HBw1b : Hid (Below W.heap.size W w1b) := HBw1.out.trans (hb.mono HBw1.out.size); clear hb)
 have HMY : Hid _ := s_mark_yes g L lv nv e0 ⟨rest, names⟩ ⟨#[91]⟩ r w1b HL.out c91_ne (HSWW.out.keep HBw1b.out) hmy
 go_upto_region 6 with (go_at_call 61; go_loud (refine Calls.mono HMY.out ?_); rintro e w2 ⟨rfl, hs2, hx2⟩; have HS2 : Hid (SRd g L lv nv w2 (some (e0, ⟨r, names⟩))) := hs2; have HX2 : Hid (FX (XS g nv) (XS g nv) W w2) := (FX.of_below HBw1b.out).trans hx2; clear hs2 hx2)
 have HRW : Hid _ := HRR.out w2 HS2.out
 clear HRR
 go_wp2_with (go_at_call 63; go_loud (refine Calls.mono HRW.out ?_); rintro e w9 ⟨v, rfl, t, F, nv', ht, hR, hs, hx⟩; have HT9 : Hid (TOk 24 (XS g nv') w2.heap.size w9 t v F) := ht; have HR9 : Hid _ := hR; have HS9 : Hid _ := hs; have HXT : Hid (FX (XS g nv) (XS g nv') W w9) := HX2.out.trans hx; obtain ⟨h1, h2, h3, h4, h5, h6, rfl⟩ := ht.form; have hk := res_keep HS0.out HSW.out HXT.out HKW.out; obtain ⟨z0, z1, z2, z3, q0, q1, q2, q3⟩ := blk4 hk; clear ht hR hs hx)
 refine bodyPost_ret_by (results_ct2 rfl _ _ w.heap.size 24 _ (0, 0) _ rfl (blk4_set hk) Tryz.underlying24 rfl (by kernel_rfl)) rfl ?_
 exact ⟨_, 0, rfl, TmR.fin HS0.out HBW.out HSW.out HXT.out (HT9.out.lo_le HX2.out.size) (by rw [mm1]; exact HR9.out) (by rw [mm1]; exact HS9.out), fun y hy => by obtain ⟨z, _, rfl⟩ := Option.map_eq_some_iff.1 hy; rfl⟩
set_option maxHeartbeats 8000000 in
set_option maxRecDepth 20000 in
theorem s_pr_atom (f g : Nat) (L : List Sg) (lv nv : Value) (e0 : Nat) (most : Int) (rest : List Sg) (names : List ByteArray) (w : World) (hL : L.length ≤ 3000) (h : SRd g L lv nv w (some (e0, ⟨rest, names⟩))) (hf : e0 + f = 130) (HT : TermC f g L lv) (xk : Int) (xt : ByteArray) (xn : Int) (xa : Nat) (xb : Bool) (r : List Sg) (hrest : rest = ⟨xk, xt, xn, xa, xb⟩ :: r) (hxs : xt.size ≤ maxLen) (hxa : xa ≤ 100000) (hnear : xb = true → ∃ r', mk? cLpar r = some r') (hk1 : isO (some (e0, ⟨rest, names⟩)) 1 ⟨#[]⟩ = true) (hno : primO true (termO true f) most ⟨rest, names⟩ = atomO true (termO true f) most ⟨xk, xt, xn, xa, xb⟩ r names) :
   Calls Tryz.prog 41 #[.pointer (some ⟨g, 0, none⟩), .int .i64 most] w fun e w' => PrR g L lv nv w e w' (primO true (termO true f) most ⟨rest, names⟩) e0 := by
 obtain ⟨RA, hRA⟩ : ∃ RA, RA = atomO true (termO true f) most ⟨xk, xt, xn, xa, xb⟩ r names := ⟨_, rfl⟩
 rw [hno, ← hRA]
 have HRR : Hid (∀ W', SRd g L lv nv W' (some (e0, ⟨rest, names⟩)) → Calls Tryz.prog 60 #[.pointer (some ⟨g, 0, none⟩), .int .i64 most] W' fun e w' => ∃ v pr, e = .returned (.tuple #[v, .int .i64 pr]) ∧ TmR g L lv nv W' v w' (RA.map fun y => (y.1, y.2.2)) e0 ∧ (∀ y, RA = some y → pr = y.2.1)) := by
   intro W' hs
   rw [hrest] at hs
   have := s_at f g L lv nv e0 most xk xt xn xa xb r names W' hf hL HT hxs hxa hs hnear
   rw [← hRA] at this
   exact this
 clear hf HT hno hrest hxs hxa hnear hRA
 obtain ⟨W, hW⟩ : ∃ W, W = w.alloc (.cells #[.int .i64 0, .string ⟨#[]⟩, .int .i64 0, .slice none 0 0] 24) := ⟨_, rfl⟩
 have bW : Below w.heap.size w W := by rw [hW]; exact (Below.refl _ _).alloc (Nat.le_refl _) _
 have sW : W.heap.size = w.heap.size + 1 := by rw [hW]; simp
 have kW : W.heap[w.heap.size]? = some (.cells #[.int .i64 0, .string ⟨#[]⟩, .int .i64 0, .slice none 0 0] 24 (0, 0)) := by rw [hW]; exact heap_alloc_new _ _
 have HS0 : Hid (SRd g L lv nv w (some (e0, ⟨rest, names⟩))) := h
 have HSWW : Hid (SRd g L lv nv W (some (e0, ⟨rest, names⟩))) := h.keep bW
 have HKW : Hid (W.heap[w.heap.size]? = some (.cells #[.int .i64 0, .string ⟨#[]⟩, .int .i64 0, .slice none 0 0] 24 (0, 0))) := kW
 have HBW : Hid (Below w.heap.size w W) := bW
 have HSW : Hid (W.heap.size = w.heap.size + 1) := sW
 have HL : Hid (L.length ≤ 3000) := hL
 have HI : Hid (∀ k W', Below W.heap.size W W' → Calls Tryz.prog 28 #[.pointer (some ⟨g, 0, none⟩), .int .i64 k, .string ⟨#[]⟩] W' fun e w' => e = .returned (.bool (isO (some (e0, ⟨rest, names⟩)) k ⟨#[]⟩)) ∧ Below W'.heap.size W' w') := fun k W' hb => s_is g L lv nv _ k ⟨#[]⟩ W' (HSWW.out.keep hb)
 have HM : Hid (∀ (l : ByteArray) W', l.toList ≠ [] → mk? l rest = none → Below W.heap.size W W' → Calls Tryz.prog 61 #[.pointer (some ⟨g, 0, none⟩), .string l] W' fun e w' => e = .returned (.bool false) ∧ Below W'.heap.size W' w') := fun l W' hl hr hb => s_mark_no g L lv nv _ l W' hl (HSWW.out.keep hb) (fun d st e => by cases e; exact hr)
 clear h bW sW kW hL
 go_enter Tryz.func41, Tryz.ntmps41
 have HI1 := HI.out 1 W (Below.refl _ _)
 rw [hk1] at HI1
 have HI1 : Hid _ := HI1
 go_upto_region 2 with (go_at_call 28; rw [← hW]; go_loud (refine Calls.mono HI1.out ?_); rintro e w2 ⟨rfl, hb⟩; have HBw2 : Hid (Below W.heap.size W w2) := hb; clear hb hW)
 have HX2 : Hid (FX (XS g nv) (XS g nv) W w2) := FX.of_below HBw2.out
 have HRW : Hid _ := HRR.out w2 (HSWW.out.keep HBw2.out)
 clear HRR
 go_wp2_with (go_at_call 60; go_loud (refine Calls.mono HRW.out ?_); rintro e w9 ⟨v, pr, rfl, ⟨t, F, nv', ht, hR, hs, hx⟩, hpr⟩; have HPR : Hid _ := hpr; have HT9 : Hid (TOk 24 (XS g nv') w2.heap.size w9 t v F) := ht; have HR9 : Hid _ := hR; have HS9 : Hid _ := hs; have HXT : Hid (FX (XS g nv) (XS g nv') W w9) := HX2.out.trans hx; obtain ⟨h1, h2, h3, h4, h5, h6, rfl⟩ := ht.form; have hk := res_keep HS0.out HSW.out HXT.out HKW.out; obtain ⟨z0, z1, z2, z3, q0, q1, q2, q3⟩ := blk4 hk; clear ht hR hs hx hpr)
 refine bodyPost_ret_by (results_ct2 rfl _ _ w.heap.size 24 _ (0, 0) _ rfl (blk4_set hk) Tryz.underlying24 rfl (by kernel_rfl)) rfl ?_
 exact ⟨_, pr, rfl, TmR.fin HS0.out HBW.out HSW.out HXT.out (HT9.out.lo_le HX2.out.size) HR9.out HS9.out, HPR.out⟩
end Go.Proofs.YtbkjcccbjnehbanGreatDoor

import Derived.Test.YtbkjcccbjnehbanGreatDoorMh14
namespace Go.Proofs.YtbkjcccbjnehbanGreatDoor
open Go.RowKit
set_option maxHeartbeats 8000000 in
set_option maxRecDepth 20000 in
theorem s_pr_num (f g : Nat) (L : List Sg) (lv nv : Value) (e0 : Nat) (most : Int) (rest : List Sg) (names : List ByteArray) (w : World) (hL : L.length ≤ 3000) (h : SRd g L lv nv w (some (e0, ⟨rest, names⟩))) (xk : Int) (xt : ByteArray) (xn : Int) (xa : Nat) (xb : Bool) (r : List Sg) (hrest : rest = ⟨xk, xt, xn, xa, xb⟩ :: r) (hxn : -9223372036854775808 ≤ xn ∧ xn ≤ 9223372036854775807) (hk1 : isO (some (e0, ⟨rest, names⟩)) 1 ⟨#[]⟩ = false) (hm40 : mk? ⟨#[40]⟩ rest = none) (hm91 : mk? ⟨#[91]⟩ rest = none) (hk3 : isO (some (e0, ⟨rest, names⟩)) 3 ⟨#[]⟩ = true) (hno : primO true (termO true f) most ⟨rest, names⟩ = some (intTm xn, 0, ⟨r, names⟩)) :
   Calls Tryz.prog 41 #[.pointer (some ⟨g, 0, none⟩), .int .i64 most] w fun e w' => PrR g L lv nv w e w' (primO true (termO true f) most ⟨rest, names⟩) e0 := by
 rw [hno]
 clear hno
 subst hrest
 have HXN : Hid (-9223372036854775808 ≤ xn ∧ xn ≤ 9223372036854775807) := hxn
 clear hxn
 obtain ⟨W, hW⟩ : ∃ W, W = w.alloc (.cells #[.int .i64 0, .string ⟨#[]⟩, .int .i64 0, .slice none 0 0] 24) := ⟨_, rfl⟩
 have bW : Below w.heap.size w W := by rw [hW]; exact (Below.refl _ _).alloc (Nat.le_refl _) _
 have sW : W.heap.size = w.heap.size + 1 := by rw [hW]; simp
 have kW : W.heap[w.heap.size]? = some (.cells #[.int .i64 0, .string ⟨#[]⟩, .int .i64 0, .slice none 0 0] 24 (0, 0)) := by rw [hW]; exact heap_alloc_new _ _
 have HS0 : Hid (SRd g L lv nv w (some (e0, ⟨⟨xk, xt, xn, xa, xb⟩ :: r, names⟩))) := h
 have HSWW : Hid (SRd g L lv nv W (some (e0, ⟨⟨xk, xt, xn, xa, xb⟩ :: r, names⟩))) := h.keep bW
 have HKW : Hid (W.heap[w.heap.size]? = some (.cells #[.int .i64 0, .string ⟨#[]⟩, .int .i64 0, .slice none 0 0] 24 (0, 0))) := kW
 have HBW : Hid (Below w.heap.size w W) := bW
 have HSW : Hid (W.heap.size = w.heap.size + 1) := sW
 have HL : Hid (L.length ≤ 3000) := hL
 have HI : Hid (∀ k W', Below W.heap.size W W' → Calls Tryz.prog 28 #[.pointer (some ⟨g, 0, none⟩), .int .i64 k, .string ⟨#[]⟩] W' fun e w' => e = .returned (.bool (isO (some (e0, ⟨⟨xk, xt, xn, xa, xb⟩ :: r, names⟩)) k ⟨#[]⟩)) ∧ Below W'.heap.size W' w') := fun k W' hb => s_is g L lv nv _ k ⟨#[]⟩ W' (HSWW.out.keep hb)
 have HM : Hid (∀ (l : ByteArray) W', l.toList ≠ [] → mk? l (⟨xk, xt, xn, xa, xb⟩ :: r) = none → Below W.heap.size W W' → Calls Tryz.prog 61 #[.pointer (some ⟨g, 0, none⟩), .string l] W' fun e w' => e = .returned (.bool false) ∧ Below W'.heap.size W' w') := fun l W' hl hr hb => s_mark_no g L lv nv _ l W' hl (HSWW.out.keep hb) (fun d st e => by cases e; exact hr)
 clear h bW sW kW hL
 go_enter Tryz.func41, Tryz.ntmps41
 have HI1 := HI.out 1 W (Below.refl _ _)
 rw [hk1] at HI1
 have HI1 : Hid _ := HI1
 go_upto_region 3 with (go_at_call 28; rw [← hW]; go_loud (refine Calls.mono HI1.out ?_); rintro e w1 ⟨rfl, hb⟩; have HBw1 : Hid (Below W.heap.size W w1) := hb; clear hb hW)
 have HM40 : Hid _ := HM.out ⟨#[40]⟩ w1 c40_ne hm40 HBw1.out
 go_upto_region 5 with (go_at_call 61; go_loud (refine Calls.mono HM40.out ?_); rintro e w2 ⟨rfl, hb⟩; have HBw2 : Hid (Below W.heap.size W w2) := HBw1.out.trans (hb.mono HBw1.out.size); clear hb)
 have HM91 : Hid _ := HM.out ⟨#[91]⟩ w2 c91_ne hm91 HBw2.out
 go_upto_region 7 with (go_at_call 61; go_loud (refine Calls.mono HM91.out ?_); rintro e w3 ⟨rfl, hb⟩; have HBw3 : Hid (Below W.heap.size W w3) := HBw2.out.trans (hb.mono HBw2.out.size); clear hb)
 have HI3 := HI.out 3 w3 HBw3.out
 rw [hk3] at HI3
 have HI3 : Hid _ := HI3
 go_upto_region 8 with (go_at_call 28; go_loud (refine Calls.mono HI3.out ?_); rintro e wZ ⟨rfl, hb⟩; have HBwZ : Hid (Below W.heap.size W wZ) := HBw3.out.trans (hb.mono HBw3.out.size); clear hb)
 obtain ⟨p, lb, cap, rfl, hp, hd, hnm, hg, hl, hnr, k0, k1, k2, k3, k4, hlg⟩ := (HSWW.out.keep HBwZ.out).sign
 obtain ⟨c0, c1, c2, c3, c4, cf⟩ := b5f hg
 have f1 := cf 1
 have hp3 : (p : Int) ≤ 3000 := by have := HL.out; omega
 have HQ : Hid (∃ L', L' = L ∧ wZ.heap[g]? = some (.cells #[.slice (some ⟨lb, 0, none⟩) L'.length cap, .int .i64 (p : Int), .bool false, .int .i64 (e0 : Int), nv] 52 (0, 0)) ∧ LIn wZ g L' (.slice (some ⟨lb, 0, none⟩) L'.length cap) ∧ NRow wZ (g + 1) names nv ∧ p < L'.length ∧ L'.drop (p + 1) = r ∧ names.length ≤ p) := ⟨L, rfl, hg, hl, hnr, hp, hd, hnm⟩
 have Hk2 : Hid (wZ.cell? ⟨lb, p * 5 + 2, none⟩ = some (.int .i64 xn) ∧ lb ≠ g) := ⟨k2, by omega⟩
 clear hp hd hnm hg hl hnr k0 k1 k2 k3 k4 hlg cf c0 c2 c3 c4
 go_upto_region 9 with fail
 obtain ⟨V, hV⟩ : ∃ V, V = wZ.setCell ⟨g, 1, none⟩ (.int .i64 ((p : Int) + 1)) := ⟨_, rfl⟩
 rw [← hV]
 obtain ⟨L', hL', hgq, hlq, hnq, hp, hd, hnm⟩ := HQ.out
 subst hL'
 have SV : SRd g L' (.slice (some ⟨lb, 0, none⟩) L'.length cap) nv V (some (e0, ⟨r, names⟩)) := by rw [hV]; exact SRd.go 1 hgq hlq hnq (by omega) hd hnm (by omega)
 have HXV : Hid (FX (XS g nv) (XS g nv) W V) := by rw [hV]; exact (FX.of_below HBwZ.out).trans (FX.set_g _)
 have gV : V.heap[g]? = some (.cells #[.slice (some ⟨lb, 0, none⟩) L'.length cap, .int .i64 (((p + 1 : Nat)) : Int), .bool false, .int .i64 (e0 : Int), nv] 52 (0, 0)) := by
   rw [hV]; have := set_at5 (i := 1) hgq (.int .i64 ((p : Int) + 1)); simpa using this
 obtain ⟨NL, hNL⟩ : ∃ NL, NL = L'.length := ⟨_, rfl⟩
 obtain ⟨c0, c1, _, _, _, _⟩ := b5f gV
 rw [← hNL] at c0
 obtain ⟨p1, hp1⟩ : ∃ p1, p1 = p + 1 := ⟨_, rfl⟩
 rw [← hp1] at c1
 have kV : V.cell? ⟨lb, p * 5 + 2, none⟩ = some (.int .i64 xn) := by rw [hV, World.cell?_of_block (set_oth5 _ Hk2.out.2)]; exact Hk2.out.1
 have hpN : p < NL := by omega
 have hsub : (p1 : Int) - 1 = (p : Int) := by omega
 have HSV : Hid _ := SV
 have HRAW : Hid (V.heap[g]? = some (.cells #[.slice (some ⟨lb, 0, none⟩) L'.length cap, .int .i64 (((p + 1 : Nat)) : Int), .bool false, .int .i64 (e0 : Int), nv] 52 (0, 0)) ∧ LIn V g L' (.slice (some ⟨lb, 0, none⟩) L'.length cap) ∧ NRow V (g + 1) names nv ∧ p + 1 ≤ L'.length ∧ L'.drop (p + 1) = r ∧ names.length ≤ p) := ⟨gV, hlq.turn fun k hk => by rw [hV]; exact set_oth5 _ (by omega), hnq.turn fun b e => by rw [hV]; exact set_oth5 _ (by have := (hnq.lt b e).1; omega), by omega, hd, hnm⟩
 have y0 := fun u => cell_keep c0 (later_below V u)
 have y1 := fun u => cell_keep c1 (later_below V u)
 have y2 := fun u => cell_keep kV (later_below V u)
 clear hgq hlq hnq hp hd hnm SV gV c0 c1 kV hV hNL hp1 f1
 have HA : Hid _ := fun wq => s_num (XS g nv) xn wq HXN.out
 refine wp_region_tail 12 (by kernel_rfl) (by kernel_rfl) ?_
 simp only [List.take_succ_cons, List.take_zero, List.drop_succ_cons, List.drop_zero]
 repeat (go_big_quiet_step (skip))
 refine wpQuiet_nil ?_
 rintro _ ⟨u3, rfl⟩
 have HB3 : Hid (Below V.heap.size V (later V u3)) := later_below V u3
 clear y0 y1 y2
 generalize later V u3 = w3b at *
 go_wp2_with (go_at_call 64; go_loud (refine Calls.mono (HA.out _) ?_); rintro e w9 ⟨v, rfl, ht, hb⟩; have HT9 : Hid (TOk 24 (XS g nv) w3b.heap.size w9 (intTm xn) v []) := ht; have HB9 : Hid (Below w3b.heap.size w3b w9) := hb; have HXT : Hid (FX (XS g nv) (XS g nv) W w9) := (HXV.out.trans (FX.of_below HB3.out)).trans (FX.of_below hb); obtain ⟨h1, h2, h3, h4, h5, h6, rfl⟩ := ht.form; have hk := res_keep HS0.out HSW.out HXT.out HKW.out; obtain ⟨z0, z1, z2, z3, q0, q1, q2, q3⟩ := blk4 hk; clear ht hb)
 refine bodyPost_ret_by (results_ct2 rfl _ _ w.heap.size 24 _ (0, 0) _ rfl (blk4_set hk) Tryz.underlying24 rfl (by kernel_rfl)) rfl ?_
 exact ⟨_, 0, rfl, TmR.fin HS0.out HBW.out HSW.out HXT.out (HT9.out.lo_le (Nat.le_trans HXV.out.size HB3.out.size)) (fun y hy => by cases hy; rfl) ((HSV.out.keep HB3.out).keep HB9.out), fun y hy => by cases hy; rfl⟩
set_option maxHeartbeats 8000000 in
set_option maxRecDepth 20000 in
theorem s_pr_var (f g : Nat) (L : List Sg) (lv nv : Value) (e0 : Nat) (most : Int) (rest : List Sg) (names : List ByteArray) (w : World) (hL : L.length ≤ 3000) (h : SRd g L lv nv w (some (e0, ⟨rest, names⟩))) (xk : Int) (xt : ByteArray) (xn : Int) (xa : Nat) (xb : Bool) (r : List Sg) (hrest : rest = ⟨xk, xt, xn, xa, xb⟩ :: r) (hk1 : isO (some (e0, ⟨rest, names⟩)) 1 ⟨#[]⟩ = false) (hm40 : mk? ⟨#[40]⟩ rest = none) (hm91 : mk? ⟨#[91]⟩ rest = none) (hk3 : isO (some (e0, ⟨rest, names⟩)) 3 ⟨#[]⟩ = false) (hk2 : isO (some (e0, ⟨rest, names⟩)) 2 ⟨#[]⟩ = true) (hno : primO true (termO true f) most ⟨rest, names⟩ = some (varTm (varO xt names).1, 0, ⟨r, (varO xt names).2⟩)) :
   Calls Tryz.prog 41 #[.pointer (some ⟨g, 0, none⟩), .int .i64 most] w fun e w' => PrR g L lv nv w e w' (primO true (termO true f) most ⟨rest, names⟩) e0 := by
 rw [hno]
 clear hno
 subst hrest
 obtain ⟨W, hW⟩ : ∃ W, W = w.alloc (.cells #[.int .i64 0, .string ⟨#[]⟩, .int .i64 0, .slice none 0 0] 24) := ⟨_, rfl⟩
 have bW : Below w.heap.size w W := by rw [hW]; exact (Below.refl _ _).alloc (Nat.le_refl _) _
 have sW : W.heap.size = w.heap.size + 1 := by rw [hW]; simp
 have kW : W.heap[w.heap.size]? = some (.cells #[.int .i64 0, .string ⟨#[]⟩, .int .i64 0, .slice none 0 0] 24 (0, 0)) := by rw [hW]; exact heap_alloc_new _ _
 have HS0 : Hid (SRd g L lv nv w (some (e0, ⟨⟨xk, xt, xn, xa, xb⟩ :: r, names⟩))) := h
 have HSWW : Hid (SRd g L lv nv W (some (e0, ⟨⟨xk, xt, xn, xa, xb⟩ :: r, names⟩))) := h.keep bW
 have HKW : Hid (W.heap[w.heap.size]? = some (.cells #[.int .i64 0, .string ⟨#[]⟩, .int .i64 0, .slice none 0 0] 24 (0, 0))) := kW
 have HBW : Hid (Below w.heap.size w W) := bW
 have HSW : Hid (W.heap.size = w.heap.size + 1) := sW
 have HL : Hid (L.length ≤ 3000) := hL
 have HI : Hid (∀ k W', Below W.heap.size W W' → Calls Tryz.prog 28 #[.pointer (some ⟨g, 0, none⟩), .int .i64 k, .string ⟨#[]⟩] W' fun e w' => e = .returned (.bool (isO (some (e0, ⟨⟨xk, xt, xn, xa, xb⟩ :: r, names⟩)) k ⟨#[]⟩)) ∧ Below W'.heap.size W' w') := fun k W' hb => s_is g L lv nv _ k ⟨#[]⟩ W' (HSWW.out.keep hb)
 have HM : Hid (∀ (l : ByteArray) W', l.toList ≠ [] → mk? l (⟨xk, xt, xn, xa, xb⟩ :: r) = none → Below W.heap.size W W' → Calls Tryz.prog 61 #[.pointer (some ⟨g, 0, none⟩), .string l] W' fun e w' => e = .returned (.bool false) ∧ Below W'.heap.size W' w') := fun l W' hl hr hb => s_mark_no g L lv nv _ l W' hl (HSWW.out.keep hb) (fun d st e => by cases e; exact hr)
 clear h bW sW kW hL
 go_enter Tryz.func41, Tryz.ntmps41
 have HI1 := HI.out 1 W (Below.refl _ _)
 rw [hk1] at HI1
 have HI1 : Hid _ := HI1
 go_upto_region 3 with (go_at_call 28; rw [← hW]; go_loud (refine Calls.mono HI1.out ?_); rintro e w1 ⟨rfl, hb⟩; have HBw1 : Hid (Below W.heap.size W w1) := hb; clear hb hW)
 have HM40 : Hid _ := HM.out ⟨#[40]⟩ w1 c40_ne hm40 HBw1.out
 go_upto_region 5 with (go_at_call 61; go_loud (refine Calls.mono HM40.out ?_); rintro e w2 ⟨rfl, hb⟩; have HBw2 : Hid (Below W.heap.size W w2) := HBw1.out.trans (hb.mono HBw1.out.size); clear hb)
 have HM91 : Hid _ := HM.out ⟨#[91]⟩ w2 c91_ne hm91 HBw2.out
 go_upto_region 7 with (go_at_call 61; go_loud (refine Calls.mono HM91.out ?_); rintro e w3 ⟨rfl, hb⟩; have HBw3 : Hid (Below W.heap.size W w3) := HBw2.out.trans (hb.mono HBw2.out.size); clear hb)
 have HI3 := HI.out 3 w3 HBw3.out
 rw [hk3] at HI3
 have HI3 : Hid _ := HI3
 go_upto_region 10 with (go_at_call 28; go_loud (refine Calls.mono HI3.out ?_); rintro e w4 ⟨rfl, hb⟩; have HBw4 : Hid (Below W.heap.size W w4) := HBw3.out.trans (hb.mono HBw3.out.size); clear hb)
 have HI2 := HI.out 2 w4 HBw4.out
 rw [hk2] at HI2
 have HI2 : Hid _ := HI2
 go_upto_region 11 with (go_at_call 28; go_loud (refine Calls.mono HI2.out ?_); rintro e wZ ⟨rfl, hb⟩; have HBwZ : Hid (Below W.heap.size W wZ) := HBw4.out.trans (hb.mono HBw4.out.size); clear hb)
 obtain ⟨p, lb, cap, rfl, hp, hd, hnm, hg, hl, hnr, k0, k1, k2, k3, k4, hlg⟩ := (HSWW.out.keep HBwZ.out).sign
 obtain ⟨c0, c1, c2, c3, c4, cf⟩ := b5f hg
 have f1 := cf 1
 have hp3 : (p : Int) ≤ 3000 := by have := HL.out; omega
 have HQ : Hid (∃ L', L' = L ∧ wZ.heap[g]? = some (.cells #[.slice (some ⟨lb, 0, none⟩) L'.length cap, .int .i64 (p : Int), .bool false, .int .i64 (e0 : Int), nv] 52 (0, 0)) ∧ LIn wZ g L' (.slice (some ⟨lb, 0, none⟩) L'.length cap) ∧ NRow wZ (g + 1) names nv ∧ p < L'.length ∧ L'.drop (p + 1) = r ∧ names.length ≤ p) := ⟨L, rfl, hg, hl, hnr, hp, hd, hnm⟩
 have Hk1 : Hid (wZ.cell? ⟨lb, p * 5 + 1, none⟩ = some (.string xt) ∧ lb ≠ g) := ⟨k1, by omega⟩
 clear hp hd hnm hg hl hnr k0 k1 k2 k3 k4 hlg cf c0 c2 c3 c4
 go_upto_region 12 with fail
 obtain ⟨V, hV⟩ : ∃ V, V = wZ.setCell ⟨g, 1, none⟩ (.int .i64 ((p : Int) + 1)) := ⟨_, rfl⟩
 rw [← hV]
 obtain ⟨L', hL', hgq, hlq, hnq, hp, hd, hnm⟩ := HQ.out
 subst hL'
 have SV : SRd g L' (.slice (some ⟨lb, 0, none⟩) L'.length cap) nv V (some (e0, ⟨r, names⟩)) := by rw [hV]; exact SRd.go 1 hgq hlq hnq (by omega) hd hnm (by omega)
 have HXV : Hid (FX (XS g nv) (XS g nv) W V) := by rw [hV]; exact (FX.of_below HBwZ.out).trans (FX.set_g _)
 have gV : V.heap[g]? = some (.cells #[.slice (some ⟨lb, 0, none⟩) L'.length cap, .int .i64 (((p + 1 : Nat)) : Int), .bool false, .int .i64 (e0 : Int), nv] 52 (0, 0)) := by
   rw [hV]; have := set_at5 (i := 1) hgq (.int .i64 ((p : Int) + 1)); simpa using this
 obtain ⟨NL, hNL⟩ : ∃ NL, NL = L'.length := ⟨_, rfl⟩
 obtain ⟨c0, c1, _, _, _, _⟩ := b5f gV
 rw [← hNL] at c0
 obtain ⟨p1, hp1⟩ : ∃ p1, p1 = p + 1 := ⟨_, rfl⟩
 rw [← hp1] at c1
 have kV : V.cell? ⟨lb, p * 5 + 1, none⟩ = some (.string xt) := by rw [hV, World.cell?_of_block (set_oth5 _ Hk1.out.2)]; exact Hk1.out.1
 have hpN : p < NL := by omega
 have hsub : (p1 : Int) - 1 = (p : Int) := by omega
 have HSV : Hid _ := SV
 have HRAW : Hid (V.heap[g]? = some (.cells #[.slice (some ⟨lb, 0, none⟩) L'.length cap, .int .i64 (((p + 1 : Nat)) : Int), .bool false, .int .i64 (e0 : Int), nv] 52 (0, 0)) ∧ LIn V g L' (.slice (some ⟨lb, 0, none⟩) L'.length cap) ∧ NRow V (g + 1) names nv ∧ p + 1 ≤ L'.length ∧ L'.drop (p + 1) = r ∧ names.length ≤ p) := ⟨gV, hlq.turn fun k hk => by rw [hV]; exact set_oth5 _ (by omega), hnq.turn fun b e => by rw [hV]; exact set_oth5 _ (by have := (hnq.lt b e).1; omega), by omega, hd, hnm⟩
 have y0 := fun u => cell_keep c0 (later_below V u)
 have y1 := fun u => cell_keep c1 (later_below V u)
 have y2 := fun u => cell_keep kV (later_below V u)
 clear hgq hlq hnq hp hd hnm SV gV c0 c1 kV hV hNL hp1 f1
 refine wp_region_tail 13 (by kernel_rfl) (by kernel_rfl) ?_
 simp only [List.take_succ_cons, List.take_zero, List.drop_succ_cons, List.drop_zero]
 repeat (go_big_quiet_step (skip))
 refine wpQuiet_nil ?_
 rintro _ ⟨u3, rfl⟩
 have HB3 : Hid (Below V.heap.size V (later V u3)) := later_below V u3
 clear y0 y1 y2
 generalize later V u3 = w3b at *
 obtain ⟨r1, r2, r3, r4, r5, r6⟩ := HRAW.out
 have hgV : g < V.heap.size := (Array.getElem?_eq_some_iff.1 r1).1
 have HVA : Hid _ := s_variable g L' _ nv e0 (p + 1) r names xt w3b HL.out ((HB3.out.block g hgV).trans r1) (r2.turn fun k hk => HB3.out.block k (by omega)) (r3.turn fun b e => HB3.out.block b (r3.lt b e).2) r4 r5 (by omega)
 clear r1 r2 r3 r4 r5 r6 hgV
 go_wp2_with (go_at_call 65; go_loud (refine Calls.mono HVA.out ?_); rintro e w9 ⟨v, rfl, t, F, nv', ht, hR, hs, hx⟩; have HT9 : Hid (TOk 24 (XS g nv') w3b.heap.size w9 t v F) := ht; have HR9 : Hid _ := hR; have HS9 : Hid _ := hs; have HXT : Hid (FX (XS g nv) (XS g nv') W w9) := (HXV.out.trans (FX.of_below HB3.out)).trans hx; obtain ⟨h1, h2, h3, h4, h5, h6, rfl⟩ := ht.form; have hk := res_keep HS0.out HSW.out HXT.out HKW.out; obtain ⟨z0, z1, z2, z3, q0, q1, q2, q3⟩ := blk4 hk; clear ht hR hs hx)
 refine bodyPost_ret_by (results_ct2 rfl _ _ w.heap.size 24 _ (0, 0) _ rfl (blk4_set hk) Tryz.underlying24 rfl (by kernel_rfl)) rfl ?_
 exact ⟨_, 0, rfl, TmR.fin HS0.out HBW.out HSW.out HXT.out (HT9.out.lo_le (Nat.le_trans HXV.out.size HB3.out.size)) HR9.out HS9.out, fun y hy => by cases hy; rfl⟩
end Go.Proofs.YtbkjcccbjnehbanGreatDoor

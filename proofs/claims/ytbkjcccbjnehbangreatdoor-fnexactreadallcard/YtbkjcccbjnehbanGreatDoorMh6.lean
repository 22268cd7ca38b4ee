import Derived.Test.YtbkjcccbjnehbanGreatDoorMh5
namespace Go.Proofs.YtbkjcccbjnehbanGreatDoor
open Go.RowKit
def TermC (f : Nat) (g : Nat) (L : List Sg) (lv : Value) : Prop := ∀ (dd : Nat) (most : Int) (st : St) (nv : Value) (w : World), dd + f = 130 → SRd g L lv nv w (some (dd, st)) →
 Calls Tryz.prog 27 #[.pointer (some ⟨g, 0, none⟩), .int .i64 most] w fun e w' => ∃ v, e = .returned v ∧ TmR g L lv nv w v w' (termO true f most st) dd
theorem SRd.xnew {g : Nat} {L : List Sg} {lv nv : Value} {w : World} {o : Option (Nat × St)} (h : SRd g L lv nv w o) : ∀ k, w.heap.size ≤ k → ¬ XS g nv k := by
 obtain ⟨a, bad, dv, nms, h1, h2, h3, h4⟩ := h.ex
 have hg : g < w.heap.size := (Array.getElem?_eq_some_iff.1 h1).1
 rintro k hk (rfl | e)
 · omega
 · have := (h3.lt k e).2; omega
theorem SRd.turn {g : Nat} {L : List Sg} {lv nv : Value} {w w' : World} {o : Option (Nat × St)} (h : SRd g L lv nv w o) (hb : ∀ k, (k < g ∨ XS g nv k) → w'.heap[k]? = w.heap[k]?) : SRd g L lv nv w' o := by
 obtain ⟨a, bad, dv, nms, h1, h2, h3, h4⟩ := h.ex
 exact ⟨a, bad, dv, nms, (hb g (Or.inr (Or.inl rfl))).trans h1, h2.turn fun k hk => hb k (Or.inl hk), h3.turn fun b e => hb b (Or.inr (Or.inr e)), h4⟩
theorem TmR.fin {g : Nat} {L : List Sg} {lv nv nv' : Value} {w W wz : World} {t : Tm} {F : List Nat} {R : Option (Tm × St)} {d : Nat} {o : Option (Nat × St)} {c0 c1 c2 c3 : Value}
   (hS : SRd g L lv nv w o) (bW : Below w.heap.size w W) (sW : W.heap.size = w.heap.size + 1) (hF : FX (XS g nv) (XS g nv') W wz) (hT : TOk 24 (XS g nv') W.heap.size wz t (.agg #[c0, c1, c2, c3]) F) (hR : ∀ y, R = some y → t = y.1)
   (hZ : SRd g L lv nv' wz (R.map fun y => (d, y.2))) :
   TmR g L lv nv w (.agg #[c0, c1, c2, c3]) ((((wz.setCell ⟨w.heap.size, 0, none⟩ c0).setCell ⟨w.heap.size, 1, none⟩ c1).setCell ⟨w.heap.size, 2, none⟩ c2).setCell ⟨w.heap.size, 3, none⟩ c3) R d := by
 have hx : ¬ XS g nv' w.heap.size := fun hx => (hF.new _ hx).elim (hS.xnew _ (Nat.le_refl _)) (fun h => by omega)
 have hgl := hS.lt
 refine ⟨t, F, nv', ⟨Own.keep t _ F hT.own fun f hf => blk4_other (by have := (hT.out f hf).1; omega), hT.nd, fun f hf => ⟨by have := (hT.out f hf).1; omega, (hT.out f hf).2⟩⟩, hR, ?_, ?_⟩
 · refine hZ.turn fun k hk => blk4_other ?_
   rintro rfl
   rcases hk with hk | hk
   · omega
   · exact hx hk
 · have h1 : FX (XS g nv) (XS g nv') w wz := (FX.of_below bW).trans hF
   exact (((h1.set (Or.inr (Nat.le_refl _)) _).set (Or.inr (Nat.le_refl _)) _).set (Or.inr (Nat.le_refl _)) _).set (Or.inr (Nat.le_refl _)) _
theorem res_keep {g : Nat} {L : List Sg} {lv nv nv' : Value} {w W wz : World} {o : Option (Nat × St)} {x : Obj} (hS : SRd g L lv nv w o) (sW : W.heap.size = w.heap.size + 1) (hF : FX (XS g nv) (XS g nv') W wz) (hk : W.heap[w.heap.size]? = some x) : wz.heap[w.heap.size]? = some x :=
 (hF.block _ (by omega) (hS.xnew _ (Nat.le_refl _))).trans hk
end Go.Proofs.YtbkjcccbjnehbanGreatDoor

namespace Go.Proofs.YtbkjcccbjnehbanGreatDoor
open Go.RowKit
theorem cRpar_ne : (⟨#[41]⟩ : ByteArray).toList ≠ [] := by rw [ByteArray.toList_eq]; decide
theorem toL41 {s : ByteArray} (h : ¬ s = cRpar) : (s.toList == [41]) = false := toL_ne (l := [41]) h
theorem toL41' {s : ByteArray} (h : s = cRpar) : (s.toList == [41]) = true := by subst h; rw [ByteArray.toList_eq]; rfl
theorem s_wants (g : Nat) (L : List Sg) (lv nv : Value) (o : Option (Nat × St)) (l : ByteArray) (w : World) (hL : L.length ≤ 3000) (hl : l.toList ≠ []) (h : SRd g L lv nv w o) :
   Calls Tryz.prog 81 #[.pointer (some ⟨g, 0, none⟩), .string l] w fun e w' => (∃ x, e = .returned x) ∧ SRd g L lv nv w' (markO o l) ∧ FX (XS g nv) (XS g nv) w w' := by
 rcases o with _ | ⟨d, st⟩
 · exact s_wants_no g L lv nv none l w hl h (fun _ _ e => by cases e)
 · cases hr : mk? l st.rest with
   | none =>
     have := s_wants_no g L lv nv _ l w hl h (fun d' st' e => by cases e; exact hr)
     simp only [markO, hr, Option.map_none]
     exact this
   | some r =>
     have := s_wants_yes g L lv nv d st l r w hL hl h hr
     simp only [markO, hr, Option.map_some]
     exact this
def closeO (R : Option (Tm × St)) : Option (Tm × St) := match R with | none => none | some (t, s) => (mk? cRpar s.rest).map fun r' => (t, ⟨r', s.names⟩)
theorem roundO_no {tm : Int → St → Option (Tm × St)} {r : List Sg} {names : List ByteArray} (h : aloneO r = none) : roundO tm r names = closeO (tm 1200 ⟨r, names⟩) := by
 unfold roundO closeO
 rw [h]
 cases tm 1200 ⟨r, names⟩ with
 | none => rfl
 | some y => obtain ⟨t, s⟩ := y; simp only; cases mk? cRpar s.rest <;> rfl
theorem closeO_mark (R : Option (Tm × St)) (e0 : Nat) : markO (R.map fun y => (e0, y.2)) cRpar = (closeO R).map fun y => (e0, y.2) := by
 cases R with
 | none => rfl
 | some y => obtain ⟨t, s⟩ := y; simp only [markO, closeO, Option.map_some]; cases mk? cRpar s.rest <;> rfl
theorem closeO_fst {R : Option (Tm × St)} {y : Tm × St} (h : closeO R = some y) : ∃ z, R = some z ∧ z.1 = y.1 := by
 cases R with
 | none => cases h
 | some z => obtain ⟨t, s⟩ := z; simp only [closeO] at h; obtain ⟨r', _, rfl⟩ := Option.map_eq_some_iff.1 h; exact ⟨_, rfl, rfl⟩
set_option maxHeartbeats 8000000 in
theorem s_round_no (f g : Nat) (L : List Sg) (lv nv : Value) (e0 : Nat) (r : List Sg) (names : List ByteArray) (w : World) (hf : e0 + f = 130) (hL : L.length ≤ 3000) (HT : TermC f g L lv) (h : SRd g L lv nv w (some (e0, ⟨r, names⟩))) (ha : aloneO r = none) :
   Calls Tryz.prog 62 #[.pointer (some ⟨g, 0, none⟩)] w fun e w' => ∃ v, e = .returned v ∧ TmR g L lv nv w v w' (roundO (termO true f) r names) e0 := by
 obtain ⟨W, hW⟩ : ∃ W, W = w.alloc (.cells #[.int .i64 0, .string ⟨#[]⟩, .int .i64 0, .slice none 0 0] 24) := ⟨_, rfl⟩
 have bW : Below w.heap.size w W := by rw [hW]; exact (Below.refl _ _).alloc (Nat.le_refl _) _
 have sW : W.heap.size = w.heap.size + 1 := by rw [hW]; simp
 have kW : W.heap[w.heap.size]? = some (.cells #[.int .i64 0, .string ⟨#[]⟩, .int .i64 0, .slice none 0 0] 24 (0, 0)) := by rw [hW]; exact heap_alloc_new _ _
 have HS0 : Hid (SRd g L lv nv w (some (e0, ⟨r, names⟩))) := h
 have HS : Hid (SRd g L lv nv W (some (e0, ⟨r, names⟩))) := h.keep bW
 have HI : Hid (∀ W', Below W.heap.size W W' → Calls Tryz.prog 28 #[.pointer (some ⟨g, 0, none⟩), .int .i64 1, .string ⟨#[]⟩] W' fun e w' => e = .returned (.bool (atomNext r)) ∧ Below W'.heap.size W' w') := by
   intro W' hb
   have := s_is g L lv nv _ 1 ⟨#[]⟩ W' (HS.out.keep hb)
   cases r with
   | nil => exact this
   | cons x r => rw [isO_any] at this; exact this
 have HKW : Hid (W.heap[w.heap.size]? = some (.cells #[.int .i64 0, .string ⟨#[]⟩, .int .i64 0, .slice none 0 0] 24 (0, 0))) := kW
 have HBW : Hid (Below w.heap.size w W) := bW
 have HSW : Hid (W.heap.size = w.heap.size + 1) := sW
 have HTT : Hid (∀ W', Below W.heap.size W W' → Calls Tryz.prog 27 #[.pointer (some ⟨g, 0, none⟩), .int .i64 1200] W' fun e w' => ∃ v, e = .returned v ∧ TmR g L lv nv W' v w' (termO true f 1200 ⟨r, names⟩) e0) := fun W' hb => HT e0 1200 _ nv W' hf (HS.out.keep hb)
 obtain ⟨R1, hR1⟩ : ∃ R1, R1 = termO true f 1200 ⟨r, names⟩ := ⟨_, rfl⟩
 rw [← hR1] at HTT
 rw [roundO_no ha, ← hR1]
 have HWW : Hid (∀ nv' W', SRd g L lv nv' W' (R1.map fun y => (e0, y.2)) → Calls Tryz.prog 81 #[.pointer (some ⟨g, 0, none⟩), .string ⟨#[41]⟩] W' fun e w' => (∃ x, e = .returned x) ∧ SRd g L lv nv' w' ((closeO R1).map fun y => (e0, y.2)) ∧ FX (XS g nv') (XS g nv') W' w') :=
   fun nv' W' hs => closeO_mark R1 e0 ▸ s_wants g L lv nv' _ _ W' hL cRpar_ne hs
 have HG : Hid (atomNext r = false ∨ ∃ (p lb cap NL : Nat), lv = .slice (some ⟨lb, 0, none⟩) NL cap ∧ (p : Int) ≤ 3000 ∧ p < NL ∧ (∀ W', Below W.heap.size W W' → W'.cell? ⟨g, 0, none⟩ = some (.slice (some ⟨lb, 0, none⟩) NL cap) ∧ W'.cell? ⟨g, 1, none⟩ = some (.int .i64 (p : Int))) ∧ atomNext r = true ∧
     ((p + 1 = NL) ∨ ∃ (q : Nat) (uk : Int) (ut : ByteArray), p + 1 = q ∧ q < NL ∧ (∀ W', Below W.heap.size W W' → W'.cell? ⟨lb, q * 5, none⟩ = some (.int .i64 uk) ∧ W'.cell? ⟨lb, q * 5 + 1, none⟩ = some (.string ut)) ∧ (uk ≠ 4 ∨ (uk = 4 ∧ (ut.toList == [41]) = false)))) := by
   rcases r with _ | ⟨x, _ | ⟨u, r⟩⟩
   · exact Or.inl rfl
   · by_cases hk : x.kind = 1
     · right
       obtain ⟨p, lb, cap, e, hp, hd, hnm, hg, _⟩ := HS.out.sign
       obtain ⟨c0, c1, _⟩ := b5f hg
       rw [e] at c0
       refine ⟨p, lb, cap, L.length, e, by omega, hp, fun W' hb => ⟨cell_keep c0 hb, cell_keep c1 hb⟩, decide_eq_true hk, Or.inl ?_⟩
       have := congrArg List.length hd
       simp at this; omega
     · exact Or.inl (decide_eq_false hk)
   · by_cases hk : x.kind = 1
     · right
       obtain ⟨p, q, lb, cap, hq, e, hqL, _, _, _, hg, _, _, k0, k1, k2, k3, k4, m0, m1, m2, m3, m4, _⟩ := HS.out.sign2
       obtain ⟨c0, c1, _⟩ := b5f hg
       rw [e] at c0
       refine ⟨p, lb, cap, L.length, e, by omega, by omega, fun W' hb => ⟨cell_keep c0 hb, cell_keep c1 hb⟩, decide_eq_true hk, Or.inr ⟨q, u.kind, u.text, hq.symm, hqL, fun W' hb => ⟨cell_keep m0 hb, cell_keep m1 hb⟩, ?_⟩⟩
       by_cases hu : u.kind = 4
       · refine Or.inr ⟨hu, toL41 fun ht => ?_⟩
         simp [aloneO, hk, hu, ht] at ha
       · exact Or.inl hu
     · exact Or.inl (decide_eq_false hk)
 clear h bW sW kW hR1 ha hL HT HS
 go_enter Tryz.func62, Tryz.ntmps62
 go_upto_region 1 with fail
 rw [← hW]
 clear hW
 have HL0 : Hid (∀ u, Below W.heap.size W (later W u)) := fun u => later_below W u
 rcases HG.out with hat | ⟨p, lb, cap, NL, rfl, hp3, hpN, hc, hat, hpe | ⟨q, uk, ut, hq, hqN, hu, huk | ⟨huk, hut⟩⟩⟩
 · rw [hat] at HI
   clear hat HG
   refine wp_region_later (by kernel_rfl) (by kernel_rfl) ?_
   repeat (go_big_quiet_step ((go_at_call 28; exact Calls.later_of_below (HI.out _ (HL0.out _)))))
   refine wpQuiet_nil ?_
   rintro _ ⟨u2, rfl⟩
   have HB2 : Hid (Below W.heap.size W (later W u2)) := HL0.out u2
   generalize later W u2 = w2 at *
   go_wp2_with (first
     | (go_at_call 27; go_loud (refine Calls.mono (HTT.out _ HB2.out) ?_); rintro e w3 ⟨v, rfl, t, F, nv', ht, hR, hs, hx⟩; have HT3 : Hid (TOk 24 (XS g nv') w2.heap.size w3 t v F) := ht; have HR3 : Hid (∀ y, R1 = some y → t = y.1) := hR; have HS3 : Hid (SRd g _ _ nv' w3 (R1.map fun y => (e0, y.2))) := hs; have HX3 : Hid (FX (XS g nv) (XS g nv') w2 w3) := hx; obtain ⟨k1, s1, n1, ao1, ln1, cp1, rfl⟩ := ht.form; clear ht hR hs hx)
     | (go_at_call 81; go_loud (refine Calls.mono (HWW.out nv' _ (HS3.out.keep ((Below.refl _ _).alloc (Nat.le_refl _) _))) ?_); rintro e w5 ⟨⟨x5, rfl⟩, hs5, hx5⟩; have HS5 : Hid (SRd g _ _ nv' w5 ((closeO R1).map fun y => (e0, y.2))) := hs5; have HX5 : Hid (FX (XS g nv') (XS g nv') (w3.alloc (.cells #[.int .i64 k1, .string s1, .int .i64 n1, .slice ao1 ln1 cp1] 24)) w5) := hx5;
        have HXT : Hid (FX (XS g nv) (XS g nv') W w5) := ((FX.of_below HB2.out).trans (HX3.out.alloc _)).trans hx5;
        have hk3 := (hx5.block w3.heap.size (by simp) (HS3.out.xnew _ (Nat.le_refl _))).trans (heap_alloc_new _ _); obtain ⟨a0, a1, a2, a3, _⟩ := blk4 hk3;
        have hk := res_keep HS0.out HSW.out HXT.out HKW.out; obtain ⟨z0, z1, z2, z3, q0, q1, q2, q3⟩ := blk4 hk; clear hs5 hx5 hk3))
   refine bodyPost_ret_by (results_cell_row rfl _ _ w.heap.size 24 _ (0, 0) _ rfl (blk4_set hk) Tryz.underlying24 rfl (by kernel_rfl)) rfl ?_
   refine ⟨_, rfl, TmR.fin HS0.out HBW.out HSW.out HXT.out (((HT3.out.step (FX.of_below ((Below.refl _ _).alloc (Nat.le_refl _) _))).step HX5.out).lo_le HB2.out.size) ?_ HS5.out⟩
   intro y hy
   obtain ⟨z, hz, e⟩ := closeO_fst hy
   rw [← e]; exact HR3.out z hz
 · rw [hat] at HI
   have hpn : (p : Int) + 1 = (NL : Int) := by omega
   have d1 : decide ((NL : Int) < (NL : Int)) = false := decide_eq_false (by omega)
   have y0 := fun u => (hc _ (HL0.out u)).1
   have y1 := fun u => (hc _ (HL0.out u)).2
   clear hat HG hc hpe
   refine wp_region_later (by kernel_rfl) (by kernel_rfl) ?_
   repeat (go_big_quiet_step ((go_at_call 28; exact Calls.later_of_below (HI.out _ (HL0.out _)))))
   refine wpQuiet_nil ?_
   rintro _ ⟨u2, rfl⟩
   have HB2 : Hid (Below W.heap.size W (later W u2)) := HL0.out u2
   clear y0 y1
   generalize later W u2 = w2 at *
   go_wp2_with (first
     | (go_at_call 27; go_loud (refine Calls.mono (HTT.out _ HB2.out) ?_); rintro e w3 ⟨v, rfl, t, F, nv', ht, hR, hs, hx⟩; have HT3 : Hid (TOk 24 (XS g nv') w2.heap.size w3 t v F) := ht; have HR3 : Hid (∀ y, R1 = some y → t = y.1) := hR; have HS3 : Hid (SRd g _ _ nv' w3 (R1.map fun y => (e0, y.2))) := hs; have HX3 : Hid (FX (XS g nv) (XS g nv') w2 w3) := hx; obtain ⟨k1, s1, n1, ao1, ln1, cp1, rfl⟩ := ht.form; clear ht hR hs hx)
     | (go_at_call 81; go_loud (refine Calls.mono (HWW.out nv' _ (HS3.out.keep ((Below.refl _ _).alloc (Nat.le_refl _) _))) ?_); rintro e w5 ⟨⟨x5, rfl⟩, hs5, hx5⟩; have HS5 : Hid (SRd g _ _ nv' w5 ((closeO R1).map fun y => (e0, y.2))) := hs5; have HX5 : Hid (FX (XS g nv') (XS g nv') (w3.alloc (.cells #[.int .i64 k1, .string s1, .int .i64 n1, .slice ao1 ln1 cp1] 24)) w5) := hx5;
        have HXT : Hid (FX (XS g nv) (XS g nv') W w5) := ((FX.of_below HB2.out).trans (HX3.out.alloc _)).trans hx5;
        have hk3 := (hx5.block w3.heap.size (by simp) (HS3.out.xnew _ (Nat.le_refl _))).trans (heap_alloc_new _ _); obtain ⟨a0, a1, a2, a3, _⟩ := blk4 hk3;
        have hk := res_keep HS0.out HSW.out HXT.out HKW.out; obtain ⟨z0, z1, z2, z3, q0, q1, q2, q3⟩ := blk4 hk; clear hs5 hx5 hk3))
   refine bodyPost_ret_by (results_cell_row rfl _ _ w.heap.size 24 _ (0, 0) _ rfl (blk4_set hk) Tryz.underlying24 rfl (by kernel_rfl)) rfl ?_
   refine ⟨_, rfl, TmR.fin HS0.out HBW.out HSW.out HXT.out (((HT3.out.step (FX.of_below ((Below.refl _ _).alloc (Nat.le_refl _) _))).step HX5.out).lo_le HB2.out.size) ?_ HS5.out⟩
   intro y hy
   obtain ⟨z, hz, e⟩ := closeO_fst hy
   rw [← e]; exact HR3.out z hz
 · rw [hat] at HI
   have hsum : (p : Int) + 1 = (q : Int) := by omega
   have d1 : decide ((q : Int) < (NL : Int)) = true := decide_eq_true (by omega)
   have d1' : decide (q < NL) = true := decide_eq_true hqN
   have huk2 : (uk == 4) = false := by simpa using huk
   have y0 := fun u => (hc _ (HL0.out u)).1
   have y1 := fun u => (hc _ (HL0.out u)).2
   have y2 := fun u => (hu _ (HL0.out u)).1
   have y3 := fun u => (hu _ (HL0.out u)).2
   clear hat HG hc hu hq
   refine wp_region_later (by kernel_rfl) (by kernel_rfl) ?_
   repeat (go_big_quiet_step ((go_at_call 28; exact Calls.later_of_below (HI.out _ (HL0.out _)))))
   refine wpQuiet_nil ?_
   rintro _ ⟨u2, rfl⟩
   have HB2 : Hid (Below W.heap.size W (later W u2)) := HL0.out u2
   clear y0 y1 y2 y3
   generalize later W u2 = w2 at *
   go_wp2_with (first
     | (go_at_call 27; go_loud (refine Calls.mono (HTT.out _ HB2.out) ?_); rintro e w3 ⟨v, rfl, t, F, nv', ht, hR, hs, hx⟩; have HT3 : Hid (TOk 24 (XS g nv') w2.heap.size w3 t v F) := ht; have HR3 : Hid (∀ y, R1 = some y → t = y.1) := hR; have HS3 : Hid (SRd g _ _ nv' w3 (R1.map fun y => (e0, y.2))) := hs; have HX3 : Hid (FX (XS g nv) (XS g nv') w2 w3) := hx; obtain ⟨k1, s1, n1, ao1, ln1, cp1, rfl⟩ := ht.form; clear ht hR hs hx)
     | (go_at_call 81; go_loud (refine Calls.mono (HWW.out nv' _ (HS3.out.keep ((Below.refl _ _).alloc (Nat.le_refl _) _))) ?_); rintro e w5 ⟨⟨x5, rfl⟩, hs5, hx5⟩; have HS5 : Hid (SRd g _ _ nv' w5 ((closeO R1).map fun y => (e0, y.2))) := hs5; have HX5 : Hid (FX (XS g nv') (XS g nv') (w3.alloc (.cells #[.int .i64 k1, .string s1, .int .i64 n1, .slice ao1 ln1 cp1] 24)) w5) := hx5;
        have HXT : Hid (FX (XS g nv) (XS g nv') W w5) := ((FX.of_below HB2.out).trans (HX3.out.alloc _)).trans hx5;
        have hk3 := (hx5.block w3.heap.size (by simp) (HS3.out.xnew _ (Nat.le_refl _))).trans (heap_alloc_new _ _); obtain ⟨a0, a1, a2, a3, _⟩ := blk4 hk3;
        have hk := res_keep HS0.out HSW.out HXT.out HKW.out; obtain ⟨z0, z1, z2, z3, q0, q1, q2, q3⟩ := blk4 hk; clear hs5 hx5 hk3))
   refine bodyPost_ret_by (results_cell_row rfl _ _ w.heap.size 24 _ (0, 0) _ rfl (blk4_set hk) Tryz.underlying24 rfl (by kernel_rfl)) rfl ?_
   refine ⟨_, rfl, TmR.fin HS0.out HBW.out HSW.out HXT.out (((HT3.out.step (FX.of_below ((Below.refl _ _).alloc (Nat.le_refl _) _))).step HX5.out).lo_le HB2.out.size) ?_ HS5.out⟩
   intro y hy
   obtain ⟨z, hz, e⟩ := closeO_fst hy
   rw [← e]; exact HR3.out z hz
 · rw [hat] at HI
   have hsum : (p : Int) + 1 = (q : Int) := by omega
   have d1 : decide ((q : Int) < (NL : Int)) = true := decide_eq_true (by omega)
   have d1' : decide (q < NL) = true := decide_eq_true hqN
   subst huk
   have y0 := fun u => (hc _ (HL0.out u)).1
   have y1 := fun u => (hc _ (HL0.out u)).2
   have y2 := fun u => (hu _ (HL0.out u)).1
   have y3 := fun u => (hu _ (HL0.out u)).2
   clear hat HG hc hu hq
   refine wp_region_later (by kernel_rfl) (by kernel_rfl) ?_
   repeat (go_big_quiet_step ((go_at_call 28; exact Calls.later_of_below (HI.out _ (HL0.out _)))))
   refine wpQuiet_nil ?_
   rintro _ ⟨u2, rfl⟩
   have HB2 : Hid (Below W.heap.size W (later W u2)) := HL0.out u2
   clear y0 y1 y2 y3
   generalize later W u2 = w2 at *
   go_wp2_with (first
     | (go_at_call 27; go_loud (refine Calls.mono (HTT.out _ HB2.out) ?_); rintro e w3 ⟨v, rfl, t, F, nv', ht, hR, hs, hx⟩; have HT3 : Hid (TOk 24 (XS g nv') w2.heap.size w3 t v F) := ht; have HR3 : Hid (∀ y, R1 = some y → t = y.1) := hR; have HS3 : Hid (SRd g _ _ nv' w3 (R1.map fun y => (e0, y.2))) := hs; have HX3 : Hid (FX (XS g nv) (XS g nv') w2 w3) := hx; obtain ⟨k1, s1, n1, ao1, ln1, cp1, rfl⟩ := ht.form; clear ht hR hs hx)
     | (go_at_call 81; go_loud (refine Calls.mono (HWW.out nv' _ (HS3.out.keep ((Below.refl _ _).alloc (Nat.le_refl _) _))) ?_); rintro e w5 ⟨⟨x5, rfl⟩, hs5, hx5⟩; have HS5 : Hid (SRd g _ _ nv' w5 ((closeO R1).map fun y => (e0, y.2))) := hs5; have HX5 : Hid (FX (XS g nv') (XS g nv') (w3.alloc (.cells #[.int .i64 k1, .string s1, .int .i64 n1, .slice ao1 ln1 cp1] 24)) w5) := hx5;
        have HXT : Hid (FX (XS g nv) (XS g nv') W w5) := ((FX.of_below HB2.out).trans (HX3.out.alloc _)).trans hx5;
        have hk3 := (hx5.block w3.heap.size (by simp) (HS3.out.xnew _ (Nat.le_refl _))).trans (heap_alloc_new _ _); obtain ⟨a0, a1, a2, a3, _⟩ := blk4 hk3;
        have hk := res_keep HS0.out HSW.out HXT.out HKW.out; obtain ⟨z0, z1, z2, z3, q0, q1, q2, q3⟩ := blk4 hk; clear hs5 hx5 hk3))
   refine bodyPost_ret_by (results_cell_row rfl _ _ w.heap.size 24 _ (0, 0) _ rfl (blk4_set hk) Tryz.underlying24 rfl (by kernel_rfl)) rfl ?_
   refine ⟨_, rfl, TmR.fin HS0.out HBW.out HSW.out HXT.out (((HT3.out.step (FX.of_below ((Below.refl _ _).alloc (Nat.le_refl _) _))).step HX5.out).lo_le HB2.out.size) ?_ HS5.out⟩
   intro y hy
   obtain ⟨z, hz, e⟩ := closeO_fst hy
   rw [← e]; exact HR3.out z hz
end Go.Proofs.YtbkjcccbjnehbanGreatDoor

namespace Go.Proofs.YtbkjcccbjnehbanGreatDoor
open Go.RowKit
theorem aloneO_form {r r' : List Sg} {a : ByteArray} (h : aloneO r = some (a, r')) : ∃ x u, r = x :: u :: r' ∧ x.kind = 1 ∧ u.kind = 4 ∧ u.text = cRpar ∧ a = x.text := by
 unfold aloneO at h
 split at h
 · split at h
   · rename_i hh; cases h; exact ⟨_, _, rfl, hh.1, hh.2.1, hh.2.2, rfl⟩
   · cases h
 · cases h
set_option maxHeartbeats 8000000 in
theorem s_round_yes (f g : Nat) (L : List Sg) (lv nv : Value) (e0 : Nat) (r r' : List Sg) (a : ByteArray) (names : List ByteArray) (w : World) (hL : L.length ≤ 3000) (hsz : ∀ x ∈ r, x.text.size ≤ maxLen) (h : SRd g L lv nv w (some (e0, ⟨r, names⟩))) (ha : aloneO r = some (a, r')) :
   Calls Tryz.prog 62 #[.pointer (some ⟨g, 0, none⟩)] w fun e w' => ∃ v, e = .returned v ∧ TmR g L lv nv w v w' (roundO (termO true f) r names) e0 := by
 have eR : roundO (termO true f) r names = some (atomTm a, ⟨r', names⟩) := by unfold roundO; rw [ha]
 rw [eR]
 clear eR
 obtain ⟨x, u, rfl, hxk, huk, hut, rfl⟩ := aloneO_form ha
 clear ha
 obtain ⟨W, hW⟩ : ∃ W, W = w.alloc (.cells #[.int .i64 0, .string ⟨#[]⟩, .int .i64 0, .slice none 0 0] 24) := ⟨_, rfl⟩
 have bW : Below w.heap.size w W := by rw [hW]; exact (Below.refl _ _).alloc (Nat.le_refl _) _
 have sW : W.heap.size = w.heap.size + 1 := by rw [hW]; simp
 have kW : W.heap[w.heap.size]? = some (.cells #[.int .i64 0, .string ⟨#[]⟩, .int .i64 0, .slice none 0 0] 24 (0, 0)) := by rw [hW]; exact heap_alloc_new _ _
 have HS0 : Hid (SRd g L lv nv w (some (e0, ⟨x :: u :: r', names⟩))) := h
 have HS : Hid (SRd g L lv nv W (some (e0, ⟨x :: u :: r', names⟩))) := h.keep bW
 have HI : Hid (∀ W', Below W.heap.size W W' → Calls Tryz.prog 28 #[.pointer (some ⟨g, 0, none⟩), .int .i64 1, .string ⟨#[]⟩] W' fun e w' => e = .returned (.bool true) ∧ Below W'.heap.size W' w') := by
   intro W' hb
   have := s_is g L lv nv _ 1 ⟨#[]⟩ W' (HS.out.keep hb)
   rw [isO_any, decide_eq_true hxk] at this; exact this
 have HKW : Hid (W.heap[w.heap.size]? = some (.cells #[.int .i64 0, .string ⟨#[]⟩, .int .i64 0, .slice none 0 0] 24 (0, 0))) := kW
 have HBW : Hid (Below w.heap.size w W) := bW
 have HSW : Hid (W.heap.size = w.heap.size + 1) := sW
 obtain ⟨p, q, lb, cap, hq, rfl, hqL, hd2, _, hnm, hg, hl, hnr, k0, k1, k2, k3, k4, m0, m1, m2, m3, m4, _⟩ := HS.out.sign2
 obtain ⟨c0, c1, c2, c3, c4, cf⟩ := b5f hg
 obtain ⟨NL, hNL⟩ : ∃ NL, NL = L.length := ⟨_, rfl⟩
 rw [← hNL] at c0
 have hqN : q < NL := by omega
 have hpN : p < NL := by omega
 have hp3 : (p : Int) ≤ 3000 := by omega
 have hsum : (p : Int) + 1 = (q : Int) := by omega
 have d1 : decide ((q : Int) < (NL : Int)) = true := decide_eq_true (by omega)
 have d1' : decide (q < NL) = true := decide_eq_true hqN
 have hxs := hsz x (by simp)
 obtain ⟨xk, xt, xn, xa, xb⟩ := x
 obtain ⟨uk, ut, un, ua, ub⟩ := u
 simp only at k0 k1 k2 k3 k4 m0 m1 m2 m3 m4 hxk huk hut hxs
 have et := toL41' hut
 subst huk
 have HC : Hid (∀ W', Below W.heap.size W W' → W'.cell? ⟨g, 0, none⟩ = some (.slice (some ⟨lb, 0, none⟩) NL cap) ∧ W'.cell? ⟨g, 1, none⟩ = some (.int .i64 (p : Int)) ∧ W'.cell? ⟨lb, q * 5, none⟩ = some (.int .i64 4) ∧ W'.cell? ⟨lb, q * 5 + 1, none⟩ = some (.string ut)) :=
   fun W' hb => ⟨cell_keep c0 hb, cell_keep c1 hb, cell_keep m0 hb, cell_keep m1 hb⟩
 have HQ : Hid (∃ L', L' = L ∧ W.heap[g]? = some (.cells #[.slice (some ⟨lb, 0, none⟩) L'.length cap, .int .i64 (p : Int), .bool false, .int .i64 (e0 : Int), nv] 52 (0, 0)) ∧ LIn W g L' (.slice (some ⟨lb, 0, none⟩) L'.length cap) ∧ NRow W (g + 1) names nv ∧ q < L'.length ∧ L'.drop (q + 1) = r' ∧ names.length ≤ p ∧ NL = L'.length) := ⟨L, rfl, hg, hl, hnr, hqL, hd2, hnm, hNL⟩
 have HX1 : Hid (W.cell? ⟨lb, p * 5 + 1, none⟩ = some (.string xt) ∧ lb ≠ g) := ⟨k1, by have := hl.2 lb rfl; omega⟩
 have HA : Hid _ := fun wq => s_atom (XS g nv) xt wq hxs
 have HPQ : Hid (q = p + 1) := hq
 clear h bW sW kW hNL hqL hd2 hnm hg hl hnr k0 k1 k2 k3 k4 m0 m1 m2 m3 m4 c0 c1 c2 c3 c4 cf hq hsz hxs hut HS hL
 go_enter Tryz.func62, Tryz.ntmps62
 go_upto_region 1 with fail
 rw [← hW]
 clear hW
 have HL0 : Hid (∀ u, Below W.heap.size W (later W u)) := fun u => later_below W u
 have y0 := fun u => (HC.out _ (HL0.out u)).1
 have y1 := fun u => (HC.out _ (HL0.out u)).2.1
 have y2 := fun u => (HC.out _ (HL0.out u)).2.2.1
 have y3 := fun u => (HC.out _ (HL0.out u)).2.2.2
 refine wp_region_later (by kernel_rfl) (by kernel_rfl) ?_
 repeat (go_big_quiet_step ((go_at_call 28; exact Calls.later_of_below (HI.out _ (HL0.out _)))))
 refine wpQuiet_nil ?_
 rintro _ ⟨u2, rfl⟩
 have HB2 : Hid (Below W.heap.size W (later W u2)) := HL0.out u2
 clear y0 y1 y2 y3
 generalize later W u2 = w2 at *
 obtain ⟨L', hL', hgW, hlW, hnW, hqL, hd2, hnm, hNL⟩ := HQ.out
 subst hL'
 have hgl : g < W.heap.size := (Array.getElem?_eq_some_iff.1 hgW).1
 have hg2 := (HB2.out.block g hgl).trans hgW
 obtain ⟨c0, c1, c2, c3, c4, cf⟩ := b5f hg2
 have f1 := cf 1
 have HG2 : Hid _ := hg2
 have HN2 : Hid _ := hNL
 clear cf c2 c3 c4 hg2 hlW hnW hqL hd2 hnm hgW HC hNL c0
 go_upto_region 3 with fail
 obtain ⟨V, hV⟩ : ∃ V, V = w2.setCell ⟨g, 1, none⟩ (.int .i64 ((p : Int) + 2)) := ⟨_, rfl⟩
 rw [← hV]
 obtain ⟨L', hL', hgW, hlW, hnW, hqL, hd2, hnm, hNL⟩ := HQ.out
 subst hL'
 have hpq := HPQ.out
 have sV : SRd g L' (.slice (some ⟨lb, 0, none⟩) L'.length cap) nv V (some (e0, ⟨r', names⟩)) := by
   rw [hV]
   exact SRd.go 2 HG2.out (hlW.turn fun k hk => HB2.out.block k (by omega)) (hnW.turn fun b e => HB2.out.block b (hnW.lt b e).2) (by omega) (by rw [← hd2]; congr 1; omega) hnm (by omega)
 have xV : FX (XS g nv) (XS g nv) W V := by rw [hV]; exact (FX.of_below HB2.out).trans (FX.set_g _)
 have gV : V.heap[g]? = some (.cells #[.slice (some ⟨lb, 0, none⟩) L'.length cap, .int .i64 ((p : Int) + 2), .bool false, .int .i64 (e0 : Int), nv] 52 (0, 0)) := by
   rw [hV]; have := set_at5 (i := 1) HG2.out (.int .i64 ((p : Int) + 2)); simpa using this
 obtain ⟨c0, c1, _, _, _, _⟩ := b5f gV
 rw [← hNL] at c0
 have k1 : V.cell? ⟨lb, p * 5 + 1, none⟩ = some (.string xt) := by
   rw [hV, World.cell?_of_block (set_oth5 _ HX1.out.2)]; exact cell_keep HX1.out.1 HB2.out
 have HSV : Hid (SRd g L' (.slice (some ⟨lb, 0, none⟩) L'.length cap) nv V (some (e0, ⟨r', names⟩))) := sV
 have HXV : Hid (FX (XS g nv) (XS g nv) W V) := xV
 have hsub : ((p : Int) + 2) - 2 = (p : Int) := by omega
 have y0 := fun u => cell_keep c0 (later_below V u)
 have y1 := fun u => cell_keep c1 (later_below V u)
 have y2 := fun u => cell_keep k1 (later_below V u)
 clear c0 c1 k1 gV sV xV hV HG2 HB2 HQ HX1 HN2 HI HL0 f1 hgW hlW hnW hqL hd2 hnm hNL hpq HPQ
 refine wp_region_tail 12 (by kernel_rfl) (by kernel_rfl) ?_
 simp only [List.take_succ_cons, List.take_zero, List.drop_succ_cons, List.drop_zero]
 repeat (go_big_quiet_step (skip))
 refine wpQuiet_nil ?_
 rintro _ ⟨u3, rfl⟩
 have HB3 : Hid (Below V.heap.size V (later V u3)) := later_below V u3
 clear y0 y1 y2
 generalize later V u3 = w3 at *
 go_wp2_with (go_at_call 80; go_loud (refine Calls.mono (HA.out _) ?_); rintro e w4 ⟨v, rfl, ht, hb⟩; have HT4 : Hid (TOk 24 (XS g nv) w3.heap.size w4 (atomTm xt) v []) := ht; have HB4 : Hid (Below w3.heap.size w3 w4) := hb; have HXT : Hid (FX (XS g nv) (XS g nv) W w4) := (HXV.out.trans (FX.of_below HB3.out)).trans (FX.of_below hb); obtain ⟨k1, s1, n1, ao1, ln1, cp1, rfl⟩ := ht.form; have hk := res_keep HS0.out HSW.out HXT.out HKW.out; obtain ⟨z0, z1, z2, z3, q0, q1, q2, q3⟩ := blk4 hk; clear ht hb)
 refine bodyPost_ret_by (results_cell_row rfl _ _ w.heap.size 24 _ (0, 0) _ rfl (blk4_set hk) Tryz.underlying24 rfl (by kernel_rfl)) rfl ?_
 refine ⟨_, rfl, TmR.fin HS0.out HBW.out HSW.out HXT.out (HT4.out.lo_le ?_) (fun y hy => by cases hy; rfl) ((HSV.out.keep HB3.out).keep HB4.out)⟩
 have := HXV.out.size
 have := HB3.out.size
 omega
theorem s_round (f g : Nat) (L : List Sg) (lv nv : Value) (e0 : Nat) (r : List Sg) (names : List ByteArray) (w : World) (hf : e0 + f = 130) (hL : L.length ≤ 3000) (HT : TermC f g L lv) (hsz : ∀ x ∈ r, x.text.size ≤ maxLen) (h : SRd g L lv nv w (some (e0, ⟨r, names⟩))) :
   Calls Tryz.prog 62 #[.pointer (some ⟨g, 0, none⟩)] w fun e w' => ∃ v, e = .returned v ∧ TmR g L lv nv w v w' (roundO (termO true f) r names) e0 := by
 cases ha : aloneO r with
 | none => exact s_round_no f g L lv nv e0 r names w hf hL HT h ha
 | some y => exact s_round_yes f g L lv nv e0 r y.2 y.1 names w hL hsz h ha
end Go.Proofs.YtbkjcccbjnehbanGreatDoor

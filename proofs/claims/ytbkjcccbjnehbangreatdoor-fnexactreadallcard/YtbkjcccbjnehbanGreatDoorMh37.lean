import Derived.Test.YtbkjcccbjnehbanGreatDoorMh36
import Derived.Test.YtbkjcccbjnehbanGreatDoorMh8
namespace Go.Proofs.YtbkjcccbjnehbanGreatDoor
open Go.RowKit
def XJ (g m : Nat) (nv : Value) (B : Nat) : Nat → Prop := fun k => XI g m nv k ∨ k = B
theorem FX.liftJ {g m B : Nat} {nv nv' : Value} {w w' : World} (h : FX (XI g m nv) (XI g m nv') w w') : FX (XJ g m nv B) (XJ g m nv' B) w w' :=
 ⟨h.os, h.tape, h.output, h.size, fun k hk hx => h.block k hk (fun hh => hx (Or.inl hh)), fun k hk => hk.elim (fun h1 => (h.new k h1).elim (fun h2 => Or.inl (Or.inl h2)) Or.inr) (fun e => Or.inl (Or.inr e))⟩
theorem TOk.weakJ {e : TypeId} {g m B : Nat} {nv : Value} {lo : Nat} {w : World} {t : Tm} {v : Value} {F : List Nat} (h : TOk e (XJ g m nv B) lo w t v F) : TOk e (XI g m nv) lo w t v F :=
 ⟨h.own, h.nd, fun f hf => ⟨(h.out f hf).1, fun hh => (h.out f hf).2 (Or.inl hh)⟩⟩
theorem TOk.toJ {e : TypeId} {g m B : Nat} {nv : Value} {lo : Nat} {w : World} {t : Tm} {v : Value} {F : List Nat} (h : TOk e (XI g m nv) lo w t v F) (hB : ∀ f ∈ F, f ≠ B) : TOk e (XJ g m nv B) lo w t v F :=
 ⟨h.own, h.nd, fun f hf => ⟨(h.out f hf).1, fun hh => hh.elim (h.out f hf).2 (hB f hf)⟩⟩
theorem ROk.toJ {e : TypeId} {g m B : Nat} {nv : Value} {lo : Nat} {w : World} {ks : List Tm} {sl : Value} {F : List Nat} (h : ROk e (XI g m nv) lo w ks sl F) (hB : ∀ f ∈ F, f ≠ B) : ROk e (XJ g m nv B) lo w ks sl F :=
 ⟨h.own, h.nd, fun f hf => ⟨(h.out f hf).1, fun hh => hh.elim (h.out f hf).2 (hB f hf)⟩⟩
theorem ROk.lo_le {e : TypeId} {X : Nat → Prop} {lo lo' : Nat} {w : World} {ks : List Tm} {sl : Value} {F : List Nat} (h : ROk e X lo w ks sl F) (hl : lo' ≤ lo) : ROk e X lo' w ks sl F :=
 ⟨h.own, h.nd, fun f hm => ⟨Nat.le_trans hl (h.out f hm).1, (h.out f hm).2⟩⟩
def itemsO (tm : Int → St → Option (Tm × St)) (r : List Sg) (names : List ByteArray) : Option (Tm × St) := match termsO tm [] ⟨r, names⟩ with
 | none => none
 | some y => match mk? cBar y.2.rest with
   | some r1 => (match tm 999 ⟨r1, y.2.names⟩ with
     | none => none
     | some z => match mk? cRbr z.2.rest with
       | some r2 => some (consTm y.1 z.1, ⟨r2, z.2.names⟩)
       | none => none)
   | none => match mk? cRbr y.2.rest with
     | some r2 => some (consTm y.1 nilTm, ⟨r2, y.2.names⟩)
     | none => none
set_option maxHeartbeats 16000000 in
set_option maxRecDepth 20000 in
theorem i_list (f g m : Nat) (L : List Sg) (lv nv : Value) (d : Nat) (x : Sg) (r : List Sg) (names : List ByteArray) (w : World) (hL : L.length ≤ 3000) (hf : d + f = 130) (hT : TermCI f g m L lv) (h : IRd g m L lv nv w d ⟨x :: r, names⟩) :
   Calls Tryz.prog 91 #[.pointer (some ⟨g, 0, none⟩)] w fun e w' => EndI g m L lv nv w d (itemsO (termO false f) r names) e w' := by
 obtain ⟨W, hW⟩ : ∃ W, W = w.alloc (.cells #[.int .i64 0, .string ⟨#[]⟩, .int .i64 0, .slice none 0 0] 24) := ⟨_, rfl⟩
 have bW : Below w.heap.size w W := by rw [hW]; exact (Below.refl _ _).alloc (Nat.le_refl _) _
 have sW : W.heap.size = w.heap.size + 1 := by rw [hW]; simp
 have kW : W.heap[w.heap.size]? = some (.cells #[.int .i64 0, .string ⟨#[]⟩, .int .i64 0, .slice none 0 0] 24 (0, 0)) := by rw [hW]; exact heap_alloc_new _ _
 have HH : Hid (IRd g m L lv nv w d ⟨x :: r, names⟩) := h
 have hlt := h.lt
 obtain ⟨p, c1, hp, f1, hI⟩ := (h.keep bW).step
 have hwr : IntKind.i64.wrap ((p : Int) + 1) = ((p + 1 : Nat) : Int) := by rw [IntKind.wrap_i64]; omega
 obtain ⟨V, hV⟩ : ∃ V, V = W.setCell ⟨g, 1, none⟩ (.int .i64 ((p + 1 : Nat) : Int)) := ⟨_, rfl⟩
 rw [← hV] at hI
 have hc : ((p + 1 : Nat) : Int) = (p : Int) + 1 := by omega
 rw [hc] at hwr hV
 clear hc
 have HFV : Hid (FX (XI g m nv) (XI g m nv) w V) := by rw [hV]; exact (FX.of_below bW).set (Or.inl (Or.inl rfl)) _
 have HKV : Hid (V.heap[w.heap.size]? = some (.cells #[.int .i64 0, .string ⟨#[]⟩, .int .i64 0, .slice none 0 0] 24 (0, 0))) := by
   show _ = _
   rw [hV, blk_other _ (by omega)]; exact kW
 have HSV : Hid (V.heap.size = w.heap.size + 1) := by show _ = _; rw [hV, ← sW]; simp [World.setCell]
 have HIV : Hid (IRd g m L lv nv V d ⟨r, names⟩) := hI
 have HL : Hid (L.length ≤ 3000) := hL
 have HTC : Hid (TermCI f g m L lv) := hT
 have HF : Hid (d + f = 130) := hf
 clear hI hT hlt h bW sW kW hf hL
 obtain ⟨N, hN⟩ : ∃ N, N = itemsO (termO false f) r names := ⟨_, rfl⟩
 rw [← hN]
 unfold itemsO at hN
 have HT := i_terms f g m L lv nv d ⟨r, names⟩ V HL.out HF.out HTC.out HIV.out
 go_enter Tryz.func91, Tryz.ntmps91
 go_upto_region 1 with fail
 rw [← hW]
 clear hW
 go_upto_region 2 with fail
 rw [← hV]
 clear hV hwr c1 f1 hp
 cases ht : termsO (termO false f) [] ⟨r, names⟩ with
 | none =>
   rw [ht] at HT hN
   have HN : Hid (N = none) := hN
   replace HT : Hid _ := HT
   clear ht hN
   go_wp2_with (go_at_call 101; refine (Calls.mono HT.out ?_); rintro e w2 ⟨rfl, nv2, hx⟩; have HX2 : Hid (FX (XI g m nv) (XI g m nv2) V w2) := hx; clear hx)
   rw [HN.out]
   exact ⟨rfl, rfl, _, HFV.out.trans HX2.out⟩
 | some y =>
   obtain ⟨ks, s0⟩ := y
   rw [ht] at HT hN
   simp only at hN
   unfold EndTs at HT
   simp only at HT
   replace HT : Hid _ := HT
   obtain ⟨KN, hKN⟩ : ∃ KN, KN = ks.length := ⟨_, rfl⟩
   rw [← hKN] at HT
   have HKN : Hid (KN = ks.length) := hKN
   clear ht hKN
   go_upto_region 3 with (go_at_call 101; refine (Calls.mono HT.out ?_); rintro e w1 ⟨ao, cap, F, nv1, rfl, _, hk3, hr, hi, hx⟩; have HX1 : Hid (FX (XI g m nv) (XI g m nv1) V w1) := hx; have HI1 : Hid (IRd g m L lv nv1 w1 d s0) := hi; have HR1 : Hid (ROk 24 (XI g m nv1) V.heap.size w1 ks (.slice ao KN cap) F) := hr; have HK3 : Hid ((KN : Int) ≤ 3000) := (by show _ ≤ _; have := HL.out; omega); clear hx hi hr hk3)
   have HAT : Hid _ := i_atomOf ⟨#[91, 93]⟩ w1 (by decide)
   go_upto_region 4 with (go_at_call 89; refine (Calls.mono HAT.out ?_); rintro e w2 ⟨rfl, hb⟩; have HB2 : Hid (Below w1.heap.size w1 w2) := hb; clear hb)
   obtain ⟨W2, hW2⟩ : ∃ W2, W2 = w2.alloc (.cells #[.int .i64 2, .string ⟨#[91, 93]⟩, .int .i64 0, .slice none 0 0] 24) := ⟨_, rfl⟩
   rw [← hW2]
   obtain ⟨B4, hB4⟩ : ∃ B4, B4 = w2.heap.size := ⟨_, rfl⟩
   rw [← hB4]
   have bW2 : Below w2.heap.size w2 W2 := by rw [hW2]; exact (Below.refl _ _).alloc (Nat.le_refl _) _
   have HBW2 : Hid (Below w1.heap.size w1 W2) := HB2.out.trans (bW2.mono HB2.out.size)
   have HS2 : Hid (B4 + 1 = W2.heap.size ∧ w1.heap.size ≤ B4) := ⟨by rw [hW2, hB4]; simp, by rw [hB4]; exact HB2.out.size⟩
   have HKB2 : Hid (W2.heap[B4]? = some (.cells #[.int .i64 2, .string ⟨#[91, 93]⟩, .int .i64 0, .slice none 0 0] 24 (0, 0))) := by rw [hW2, hB4]; exact heap_alloc_new _ _
   have HI2 : Hid (IRd g m L lv nv1 W2 d s0) := HI1.out.keep HBW2.out
   have HNB : Hid (¬ XI g m nv1 B4) := fun hh => by have := HI1.out.lt.2.2 _ hh; have := HS2.out.2; omega
   have HB4W : Hid (w.heap.size < B4) := by show _ < _; have := HS2.out.2; have := HX1.out.size; have := HSV.out; omega
   have HFB : Hid (∀ f ∈ F, f ≠ B4 ∧ f < B4) := fun f hf => by have := HR1.out.lt f hf; have := HS2.out.2; omega
   have HPA := i_passed g m L lv nv1 d s0 ⟨#[124]⟩ W2 HL.out HI2.out
   clear hW2 hB4 bW2 HAT HB2
   cases hk : mk? cBar s0.rest with
   | some r1 =>
     have hk' : mk? ⟨#[124]⟩ s0.rest = some r1 := hk
     unfold PassR at HPA
     rw [hk'] at HPA
     rw [hk] at hN
     simp only at hN
     replace HPA : Hid _ := HPA
     clear hk hk'
     go_upto_region 5 with (go_at_call 102; refine (Calls.mono HPA.out ?_); rintro e w3 ⟨rfl, hi, hx⟩; have HI3 : Hid (IRd g m L lv nv1 w3 d ⟨r1, s0.names⟩) := hi; have HX3 : Hid (FX (XI g m nv1) (XI g m nv1) W2 w3) := hx; clear hi hx)
     have HT3 := HTC.out d 999 ⟨r1, s0.names⟩ nv1 w3 HF.out HI3.out
     cases ht : termO false f 999 ⟨r1, s0.names⟩ with
     | none =>
       rw [ht] at HT3 hN
       have HN : Hid (N = none) := hN
       replace HT3 : Hid _ := HT3
       clear ht hN
       go_wp2_with (go_at_call 56; refine (Calls.mono HT3.out ?_); rintro e w4 ⟨rfl, nv4, hx⟩; have HX4 : Hid (FX (XI g m nv1) (XI g m nv4) w3 w4) := hx; clear hx)
       rw [HN.out]
       exact ⟨rfl, rfl, _, (((HFV.out.trans HX1.out).trans (FX.of_below HBW2.out)).trans HX3.out).trans HX4.out⟩
     | some z =>
       obtain ⟨tz, s4⟩ := z
       rw [ht] at HT3 hN
       simp only at hN
       replace HT3 : Hid _ := HT3
       clear ht
       have HKB3 : Hid (w3.heap[B4]? = some (.cells #[.int .i64 2, .string ⟨#[91, 93]⟩, .int .i64 0, .slice none 0 0] 24 (0, 0))) := (HX3.out.block B4 (by have := HS2.out.1; omega) HNB.out).trans HKB2.out
       have HB3L : Hid (B4 < w3.heap.size) := (Array.getElem?_eq_some_iff.1 HKB3.out).1
       go_upto_region 6 with (go_at_call 56; refine (Calls.mono HT3.out ?_); rintro e w4 ⟨v, rfl, Ftz, nvz, ht, hi, hx⟩; have HX4 : Hid (FX (XI g m nv1) (XI g m nvz) w3 w4) := hx; have HI4 : Hid (IRd g m L lv nvz w4 d s4) := hi; obtain ⟨k1, s1, n1, ao1, ln1, cp1, rfl⟩ := ht.form; have HT4 : Hid (TOk 24 (XI g m nvz) w3.heap.size w4 tz (.agg #[.int .i64 k1, .string s1, .int .i64 n1, .slice ao1 ln1 cp1]) Ftz) := ht; have hkb := (hx.block B4 HB3L.out HNB.out).trans HKB3.out; obtain ⟨g0, g1, g2, g3, fg0, fg1, fg2, fg3⟩ := blk4 hkb; have HKB4 : Hid _ := hkb; clear ht hi hx hkb)
       obtain ⟨W4, hW4⟩ : ∃ W4, W4 = (((w4.setCell ⟨B4, 0, none⟩ (.int .i64 k1)).setCell ⟨B4, 1, none⟩ (.string s1)).setCell ⟨B4, 2, none⟩ (.int .i64 n1)).setCell ⟨B4, 3, none⟩ (.slice ao1 ln1 cp1) := ⟨_, rfl⟩
       rw [← hW4]
       have hNz : ¬ XI g m nvz B4 := fun hh => (HX4.out.new B4 hh).elim HNB.out (fun h1 => by have := HB3L.out; omega)
       have oE : ∀ k, k ≠ B4 → W4.heap[k]? = w4.heap[k]? := fun k hk => by rw [hW4]; exact blk4_other hk
       have HNZ : Hid (¬ XI g m nvz B4) := hNz
       have hgB : g < B4 := by have := HH.out.lt.1; have := HB4W.out; omega
       have hI4 : IRd g m L lv nvz W4 d s4 := HI4.out.turn fun k hk => oE k (fun e => by
         rcases hk with hk | hk
         · omega
         · rw [e] at hk; exact hNz hk)
       have x04 : FX (XI g m nv) (XI g m nvz) w w4 := (((HFV.out.trans HX1.out).trans (FX.of_below HBW2.out)).trans HX3.out).trans HX4.out
       have HX04 : Hid (FX (XI g m nv) (XI g m nvz) w W4) := by
         have hbw := HB4W.out
         rw [hW4]
         exact (((x04.set (Or.inr (by omega)) _).set (Or.inr (by omega)) _).set (Or.inr (by omega)) _).set (Or.inr (by omega)) _
       have HKB5 : Hid (W4.heap[B4]? = some (.cells #[.int .i64 k1, .string s1, .int .i64 n1, .slice ao1 ln1 cp1] 24 (0, 0))) := by rw [hW4]; exact blk4_set HKB4.out
       have hfz : ∀ f ∈ Ftz, f ≠ B4 := fun f hf => by have := (HT4.out.out f hf).1; have := HB3L.out; omega
       have HT5 : Hid (TOk 24 (XJ g m nvz B4) (w.heap.size + 1) W4 tz (.agg #[.int .i64 k1, .string s1, .int .i64 n1, .slice ao1 ln1 cp1]) Ftz) := ((HT4.out.toJ hfz).turn fun k hk hx => oE k (fun e => hx (Or.inr e))).lo_le (by have := HB3L.out; have := HB4W.out; omega)
       have HR5 : Hid (ROk 24 (XJ g m nvz B4) (w.heap.size + 1) W4 ks (.slice ao KN cap) F) := (((((HR1.out.step (FX.of_below HBW2.out)).step HX3.out).step HX4.out).toJ (fun f hf => (HFB.out f hf).1)).turn fun k hk hx => oE k (fun e => hx (Or.inr e))).lo_le (by have := HSV.out; omega)
       have HD5 : Hid (∀ f ∈ F, ∀ h ∈ Ftz, f ≠ h) := fun f hf h hh e => by have := (HT4.out.out h hh).1; have := (HFB.out f hf).2; have := HB3L.out; omega
       have HI5 : Hid (IRd g m L lv nvz W4 d s4) := hI4
       have HP5 : Hid (¬ XI g m nvz w.heap.size ∧ W4.heap[w.heap.size]? = some (.cells #[.int .i64 0, .string ⟨#[]⟩, .int .i64 0, .slice none 0 0] 24 (0, 0))) := by
         have h1 := fin_keep HH.out (by have := HSV.out; omega) (((HX1.out.trans (FX.of_below HBW2.out)).trans HX3.out).trans HX4.out)
         exact ⟨h1.1, (oE _ (by have := HB4W.out; omega)).trans (h1.2.trans HKV.out)⟩
       have HMP := i_mustPass g m L lv nvz d s4 ⟨#[93]⟩ W4 HL.out hI4
       clear hW4 hNz oE hgB hI4 x04 hfz g0 g1 g2 g3 fg0 fg1 fg2 fg3
       cases hk : mk? cRbr s4.rest with
       | none =>
         have hk' : mk? ⟨#[93]⟩ s4.rest = none := hk
         rw [hk'] at HMP
         rw [hk] at hN
         have HN : Hid (N = none) := hN
         replace HMP : Hid _ := HMP
         clear hk hk' hN
         go_wp2_with (go_at_call 100; refine (Calls.mono HMP.out ?_); rintro e w5 ⟨hx, rfl⟩; have HX5 : Hid (FX (XI g m nvz) (XI g m nvz) W4 w5) := hx; clear hx)
         rw [HN.out]
         exact ⟨rfl, rfl, _, HX04.out.trans HX5.out⟩
       | some r2 =>
         have hk' : mk? ⟨#[93]⟩ s4.rest = some r2 := hk
         rw [hk'] at HMP
         rw [hk] at hN
         have HRES : Hid (N = some (consTm ks tz, ⟨r2, s4.names⟩)) := hN
         replace HMP : Hid _ := HMP
         clear hk hk' hN
         go_upto_region 7 with (go_at_call 100; refine (Calls.mono HMP.out ?_); rintro e wz ⟨hx, rfl, hi⟩; have HX5 : Hid (FX (XI g m nvz) (XI g m nvz) W4 wz) := hx; have HIZ : Hid (IRd g m L lv nvz wz d ⟨r2, s4.names⟩) := hi; clear hx hi)
         have hB5 : B4 < W4.heap.size := (Array.getElem?_eq_some_iff.1 HKB5.out).1
         have HXZ : Hid (FX (XI g m nv) (XI g m nvz) w wz) := HX04.out.trans HX5.out
         have HKZ : Hid (wz.heap[B4]? = _) := (HX5.out.block B4 hB5 HNZ.out).trans HKB5.out
         have HTZ : Hid _ := HT5.out.step HX5.out.liftJ
         have HRZ : Hid _ := HR5.out.step HX5.out.liftJ
         have HDZ : Hid _ := HD5.out
         have HPZ : Hid (¬ XI g m nvz w.heap.size ∧ wz.heap[w.heap.size]? = some (.cells #[.int .i64 0, .string ⟨#[]⟩, .int .i64 0, .slice none 0 0] 24 (0, 0))) := ⟨HP5.out.1, (HX5.out.block _ (by have := HB4W.out; omega) HP5.out.1).trans HP5.out.2⟩
         clear hB5
         have hKN3 : (KN : Int) ≤ 3000 := HK3.out
         obtain ⟨FJ, hj1, hj2, hj3, hj4⟩ := RJ.first HRZ.out
         have HJZ : Hid (RJ 24 wz ks (.slice ao KN cap) KN FJ ∧ FJ.Nodup ∧ (∀ f ∈ FJ, f ∈ F) ∧ (∀ b, (Value.slice ao KN cap).ownBlock = some b → b ∈ F)) := by
           rw [← HKN.out] at hj1
           exact ⟨hj1, hj2, hj3, hj4⟩
         clear hj1 hj2 hj3 hj4
         have HFZ : Hid (∀ f ∈ F, w.heap.size + 1 ≤ f ∧ ¬ XJ g m nvz B4 f) := HRZ.out.out
         have HOZ : Hid (∀ b, (Value.slice ao KN cap).ownBlock = some b → b ∈ F) := HJZ.out.2.2.2
         go_wp2
         go_loopw [5] (fun vi wq => ∃ (j : Nat) (z : Int) (Fj Ft : List Nat) (tt : Tm) (m1 : Int) (m2 : ByteArray) (m3 : Int) (m4 : Option Addr) (m5 m6 : Nat), j ≤ KN ∧ vi = .int .i64 z ∧ Hid (z = (j : Int) - 1) ∧ Hid (RJ 24 wq ks (.slice ao KN cap) j Fj ∧ Fj.Nodup ∧ ∀ f ∈ Fj, f ∈ F) ∧ Hid (wq.heap[B4]? = some (.cells #[.int .i64 m1, .string m2, .int .i64 m3, .slice m4 m5 m6] 24 (0, 0))) ∧ Hid (TOk 24 (XJ g m nvz B4) (w.heap.size + 1) wq tt (.agg #[.int .i64 m1, .string m2, .int .i64 m3, .slice m4 m5 m6]) Ft) ∧ Hid (∀ f ∈ Fj, ∀ h ∈ Ft, f ≠ h) ∧ Hid (IRd g m L lv nvz wq d ⟨r2, s4.names⟩) ∧ Hid (FX (XI g m nv) (XI g m nvz) w wq) ∧ Hid (consTm (ks.take j) tt = consTm ks tz) ∧ Hid (∀ f ∈ F, f < wq.heap.size) ∧ Hid (wq.heap[w.heap.size]? = some (.cells #[.int .i64 0, .string ⟨#[]⟩, .int .i64 0, .slice none 0 0] 24 (0, 0)))) (fun i _ => (intOf i + 1).toNat)
         case atStart => exact ⟨KN, _, FJ, Ftz, tz, k1, s1, n1, ao1, ln1, cp1, Nat.le_refl _, rfl, rfl, ⟨HJZ.out.1, HJZ.out.2.1, HJZ.out.2.2.1⟩, HKZ.out, HTZ.out, (fun f hf h hh => HDZ.out f (HJZ.out.2.2.1 f hf) h hh), HIZ.out, HXZ.out, (by show _ = _; rw [HKN.out, List.take_length]), HRZ.out.lt, HPZ.out.2⟩
         case round =>
           obtain ⟨j, z, Fj, Ft, tt, m1, m2, m3, m4, m5, m6, hjK, rfl, HZ, HRJ, HKB, HTT2, HDD, HSS, HXX, HCC, HFF, HPP⟩ := hrel
           rcases j with _ | i
           · obtain rfl : z = -1 := by have := HZ.out; simpa using this
             have hk := HPP.out
             obtain ⟨z0, z1, z2, z3, q0, q1, q2, q3⟩ := blk4 hk
             obtain ⟨g0, g1, g2, g3, _⟩ := blk4 HKB.out
             have HK9 : Hid _ := hk
             clear hk
             go_wp2
             refine bodyPost_ret_by (results_cell_row rfl _ _ w.heap.size 24 _ (0, 0) _ rfl (blk4_set HK9.out) Tryz.underlying24 rfl (by kernel_rfl)) rfl ?_
             rw [HRES.out]
             have hc := HCC.out
             rw [List.take_zero] at hc
             have ht9 := HTT2.out.weakJ
             have e9 : tt = consTm ks tz := hc
             rw [e9] at ht9
             exact ⟨_, rfl, TmRI.fin HH.out HXX.out HPZ.out.1 ht9 HSS.out rfl⟩
           · obtain rfl : z = (i : Int) := by have := HZ.out; omega
             have hiK : i < KN := by omega
             have hil : i < ks.length := by have := HKN.out; omega
             obtain ⟨gb, x1, x2, x3, x4, x5, x6, F1, F2, hao, t0, t1, t2, t3, hown, hFj, hRJ1⟩ := RJ.item HRJ.out.1 hil
             obtain ⟨g0, g1, g2, g3, _⟩ := blk4 HKB.out
             obtain ⟨kt, hkt⟩ : ∃ kt, kt = ks[i] := ⟨_, rfl⟩
             have hnd := HRJ.out.2.1
             rw [hFj] at hnd
             obtain ⟨hn1, hn2, hn3⟩ := List.nodup_append.1 hnd
             have hF12 : ∀ f, f ∈ F1 ∨ f ∈ F2 → f ∈ F := fun f hf => HRJ.out.2.2 f (by rw [hFj]; exact List.mem_append.2 hf)
             have HIT : Hid (TOk 24 (XJ g m nvz B4) (w.heap.size + 1) wr kt (.agg #[.int .i64 x1, .string x2, .int .i64 x3, .slice x4 x5 x6]) F2) := ⟨by rw [hkt]; exact hown, hn2, fun f hf => HFZ.out f (hF12 f (Or.inr hf))⟩
             have HRJ1 : Hid (RJ 24 wr ks (.slice ao KN cap) i F1 ∧ F1.Nodup ∧ ∀ f ∈ F1, f ∈ F) := ⟨hRJ1, hn1, fun f hf => hF12 f (Or.inl hf)⟩
             have HD2 : Hid (∀ f ∈ F2, ∀ h ∈ Ft, f ≠ h) := fun f hf h hh => HDD.out f (by rw [hFj]; exact List.mem_append.2 (Or.inr hf)) h hh
             have HD1 : Hid (∀ f ∈ F1, f ∉ F2 ∧ f ∉ Ft) := fun f hf => ⟨fun h2 => hn3 f hf f h2 rfl, fun h2 => HDD.out f (by rw [hFj]; exact List.mem_append.2 (Or.inl hf)) f h2 rfl⟩
             have HCN : Hid (consTm (ks.take i) (structTm ⟨#[46]⟩ [kt, tt]) = consTm ks tz) := by
               have := HCC.out
               rw [List.take_succ_eq_append_getElem hil, consTm_snoc, ← hkt] at this
               exact this
             have HBLT : Hid (B4 < wr.heap.size) := (Array.getElem?_eq_some_iff.1 HKB.out).1
             subst hao
             have y0 := fun u => cell_keep t0 (later_below wr u)
             have y1 := fun u => cell_keep t1 (later_below wr u)
             have y2 := fun u => cell_keep t2 (later_below wr u)
             have y3 := fun u => cell_keep t3 (later_below wr u)
             have y4 := fun u => cell_keep g0 (later_below wr u)
             have y5 := fun u => cell_keep g1 (later_below wr u)
             have y6 := fun u => cell_keep g2 (later_below wr u)
             have y7 := fun u => cell_keep g3 (later_below wr u)
             clear t0 t1 t2 t3 g0 g1 g2 g3 hown hFj hRJ1 hnd hn1 hn2 hn3 hF12 HRJ HDD HCC hkt hil HZ hjK
             go_upto_region 10 with fail
             refine wp_region_tail 5 (by kernel_rfl) (by kernel_rfl) ?_
             simp only [List.take_succ_cons, List.take_zero, List.drop_succ_cons, List.drop_zero]
             repeat (go_big_quiet_step (skip))
             refine wpQuiet_nil ?_
             rintro _ ⟨u3, rfl⟩
             have HB3 : Hid (Below wr.heap.size wr (later wr u3)) := later_below wr u3
             clear y0 y1 y2 y3 y4 y5 y6 y7
             generalize later wr u3 = w3 at *
             have R3 := ROk.two (HIT.out.step (FX.of_below HB3.out)) (HTT2.out.step (FX.of_below HB3.out)) HD2.out (by have := HXX.out.size; have := HB3.out.size; have := HB4W.out; have := HBLT.out; omega) (fun hx => hx.elim (XI_new (HSS.out.keep HB3.out)) (fun e => by have := HBLT.out; have := HB3.out.size; omega))
             obtain ⟨V3, hV3⟩ : ∃ V3, V3 = w3.alloc (.cells #[.int .i64 x1, .string x2, .int .i64 x3, .slice x4 x5 x6, .int .i64 m1, .string m2, .int .i64 m3, .slice m4 m5 m6] 24) := ⟨_, rfl⟩
             have bV3 : Below w3.heap.size w3 V3 := by rw [hV3]; exact (Below.refl _ _).alloc (Nat.le_refl _) _
             rw [← hV3] at R3
             have HR3 : Hid _ := R3
             have HBV3 : Hid (Below wr.heap.size wr V3) := HB3.out.trans (bV3.mono HB3.out.size)
             have HSO := i_structOf ⟨#[46]⟩ (some ⟨w3.heap.size, 0, none⟩) 2 2 V3 (by decide)
             rw [hV3] at HSO
             replace HSO : Hid _ := HSO
             clear R3 bV3
             go_wp2_with (go_at_call 75; refine (Calls.mono HSO.out ?_); rintro e w4 ⟨rfl, hb⟩; rw [← hV3] at hb; have HBX : Hid (Below V3.heap.size V3 w4) := hb; have HB4' : Hid (Below wr.heap.size wr w4) := HBV3.out.trans (hb.mono HBV3.out.size); have hkb := (HB4'.out.block B4 HBLT.out).trans HKB.out; obtain ⟨g0, g1, g2, g3, fg0, fg1, fg2, fg3⟩ := blk4 hkb; have HKB4 : Hid _ := hkb; clear hb hkb)
             go_roundw
             case rel =>
               have hb34 := HB4'.out
               have hBlt := HBLT.out
               have hB4W := HB4W.out
               have hgW := HH.out.lt.1
               have x4' : FX (XI g m nvz) (XI g m nvz) wr w4 := FX.of_below hb34
               have hoth : ∀ f ∈ F, (((((w4.setCell ⟨B4, 0, none⟩ (.int .i64 4)).setCell ⟨B4, 1, none⟩ (.string ⟨#[46]⟩)).setCell ⟨B4, 2, none⟩ (.int .i64 0)).setCell ⟨B4, 3, none⟩ (.slice (some ⟨w3.heap.size, 0, none⟩) 2 2))).heap[f]? = wr.heap[f]? := fun f hf => (blk4_other (fun e => (HFZ.out f hf).2 (Or.inr e))).trans (hb34.block f (HFF.out f hf))
               have TN := ((HR3.out.step (FX.of_below HBX.out)).tm (s := ⟨#[46]⟩) (by decide))
               refine ⟨i, (i : Int) - 1, F1, _, structTm ⟨#[46]⟩ [kt, tt], 4, ⟨#[46]⟩, 0, some ⟨w3.heap.size, 0, none⟩, 2, 2, by omega, by go_num, rfl, ?_, ?_, TN.turn fun k hk hx => blk4_other (fun e => hx (Or.inr e)), ?_, ?_, ?_, HCN.out, ?_, ?_⟩
               · exact ⟨HRJ1.out.1.turn (fun b hb => hoth b (HOZ.out b hb)) (fun f hf => hoth f (HRJ1.out.2.2 f hf)), HRJ1.out.2.1, HRJ1.out.2.2⟩
               · exact blk4_set HKB4.out
               · intro f hf h hh e
                 subst e
                 have h1 := HFF.out f (HRJ1.out.2.2 f hf)
                 have h2 := HB3.out.size
                 rcases List.mem_cons.1 hh with h' | h'
                 · omega
                 · rcases List.mem_append.1 h' with h' | h'
                   · exact (HD1.out f hf).1 h'
                   · exact (HD1.out f hf).2 h'
               · exact (HSS.out.keep hb34).turn fun k hk => blk4_other (fun e => by
                   rcases hk with hk | hk
                   · omega
                   · rw [e] at hk; exact HNZ.out hk)
               · exact ((((HXX.out.trans x4').set (Or.inr (by omega)) _).set (Or.inr (by omega)) _).set (Or.inr (by omega)) _).set (Or.inr (by omega)) _
               · intro f hf
                 have := HFF.out f hf
                 have := hb34.size
                 simp [World.setCell]; omega
               · exact (blk4_other (by omega)).trans ((hb34.block _ (by omega)).trans HPP.out)
             case measure => simp [intOf]
   | none =>
     have hk' : mk? ⟨#[124]⟩ s0.rest = none := hk
     unfold PassR at HPA
     rw [hk'] at HPA
     rw [hk] at hN
     simp only at hN
     replace HPA : Hid _ := HPA
     clear hk hk'
     go_upto_region 6 with (go_at_call 102; refine (Calls.mono HPA.out ?_); rintro e W4 ⟨rfl, hi, hx⟩; have HI5 : Hid (IRd g m L lv nv1 W4 d s0) := hi; have HX3 : Hid (FX (XI g m nv1) (XI g m nv1) W2 W4) := hx; clear hi hx)
     have HX04 : Hid (FX (XI g m nv) (XI g m nv1) w W4) := ((HFV.out.trans HX1.out).trans (FX.of_below HBW2.out)).trans HX3.out
     have HNZ : Hid (¬ XI g m nv1 B4) := HNB.out
     have HKB5 : Hid (W4.heap[B4]? = some (.cells #[.int .i64 2, .string ⟨#[91, 93]⟩, .int .i64 0, .slice none 0 0] 24 (0, 0))) := (HX3.out.block B4 (by have := HS2.out.1; omega) HNB.out).trans HKB2.out
     have HT5 : Hid (TOk 24 (XJ g m nv1 B4) (w.heap.size + 1) W4 nilTm (.agg #[.int .i64 2, .string ⟨#[91, 93]⟩, .int .i64 0, .slice none 0 0]) []) := TOk.leaf (by omega) (by omega) (by decide)
     have HR5 : Hid (ROk 24 (XJ g m nv1 B4) (w.heap.size + 1) W4 ks (.slice ao KN cap) F) := (((HR1.out.step (FX.of_below HBW2.out)).step HX3.out).toJ (fun f hf => (HFB.out f hf).1)).lo_le (by have := HSV.out; omega)
     have HD5 : Hid (∀ f ∈ F, ∀ h ∈ ([] : List Nat), f ≠ h) := fun f hf h hh => by cases hh
     have HP5 : Hid (¬ XI g m nv1 w.heap.size ∧ W4.heap[w.heap.size]? = some (.cells #[.int .i64 0, .string ⟨#[]⟩, .int .i64 0, .slice none 0 0] 24 (0, 0))) := by
       have h1 := fin_keep HH.out (by have := HSV.out; omega) ((HX1.out.trans (FX.of_below HBW2.out)).trans HX3.out)
       exact ⟨h1.1, h1.2.trans HKV.out⟩
     have HMP := i_mustPass g m L lv nv1 d s0 ⟨#[93]⟩ W4 HL.out HI5.out
     cases hk : mk? cRbr s0.rest with
     | none =>
       have hk' : mk? ⟨#[93]⟩ s0.rest = none := hk
       rw [hk'] at HMP
       rw [hk] at hN
       have HN : Hid (N = none) := hN
       replace HMP : Hid _ := HMP
       clear hk hk' hN
       go_wp2_with (go_at_call 100; refine (Calls.mono HMP.out ?_); rintro e w5 ⟨hx, rfl⟩; have HX5 : Hid (FX (XI g m nv1) (XI g m nv1) W4 w5) := hx; clear hx)
       rw [HN.out]
       exact ⟨rfl, rfl, _, HX04.out.trans HX5.out⟩
     | some r2 =>
       have hk' : mk? ⟨#[93]⟩ s0.rest = some r2 := hk
       rw [hk'] at HMP
       rw [hk] at hN
       have HRES : Hid (N = some (consTm ks nilTm, ⟨r2, s0.names⟩)) := hN
       replace HMP : Hid _ := HMP
       clear hk hk' hN
       go_upto_region 7 with (go_at_call 100; refine (Calls.mono HMP.out ?_); rintro e wz ⟨hx, rfl, hi⟩; have HX5 : Hid (FX (XI g m nv1) (XI g m nv1) W4 wz) := hx; have HIZ : Hid (IRd g m L lv nv1 wz d ⟨r2, s0.names⟩) := hi; clear hx hi)
       have hB5 : B4 < W4.heap.size := (Array.getElem?_eq_some_iff.1 HKB5.out).1
       have HXZ : Hid (FX (XI g m nv) (XI g m nv1) w wz) := HX04.out.trans HX5.out
       have HKZ : Hid (wz.heap[B4]? = _) := (HX5.out.block B4 hB5 HNZ.out).trans HKB5.out
       have HTZ : Hid _ := HT5.out.step HX5.out.liftJ
       have HRZ : Hid _ := HR5.out.step HX5.out.liftJ
       have HDZ : Hid _ := HD5.out
       have HPZ : Hid (¬ XI g m nv1 w.heap.size ∧ wz.heap[w.heap.size]? = some (.cells #[.int .i64 0, .string ⟨#[]⟩, .int .i64 0, .slice none 0 0] 24 (0, 0))) := ⟨HP5.out.1, (HX5.out.block _ (by have := HB4W.out; omega) HP5.out.1).trans HP5.out.2⟩
       clear hB5
       have hKN3 : (KN : Int) ≤ 3000 := HK3.out
       obtain ⟨FJ, hj1, hj2, hj3, hj4⟩ := RJ.first HRZ.out
       have HJZ : Hid (RJ 24 wz ks (.slice ao KN cap) KN FJ ∧ FJ.Nodup ∧ (∀ f ∈ FJ, f ∈ F) ∧ (∀ b, (Value.slice ao KN cap).ownBlock = some b → b ∈ F)) := by
         rw [← HKN.out] at hj1
         exact ⟨hj1, hj2, hj3, hj4⟩
       clear hj1 hj2 hj3 hj4
       have HFZ : Hid (∀ f ∈ F, w.heap.size + 1 ≤ f ∧ ¬ XJ g m nv1 B4 f) := HRZ.out.out
       have HOZ : Hid (∀ b, (Value.slice ao KN cap).ownBlock = some b → b ∈ F) := HJZ.out.2.2.2
       go_wp2
       go_loopw [5] (fun vi wq => ∃ (j : Nat) (z : Int) (Fj Ft : List Nat) (tt : Tm) (m1 : Int) (m2 : ByteArray) (m3 : Int) (m4 : Option Addr) (m5 m6 : Nat), j ≤ KN ∧ vi = .int .i64 z ∧ Hid (z = (j : Int) - 1) ∧ Hid (RJ 24 wq ks (.slice ao KN cap) j Fj ∧ Fj.Nodup ∧ ∀ f ∈ Fj, f ∈ F) ∧ Hid (wq.heap[B4]? = some (.cells #[.int .i64 m1, .string m2, .int .i64 m3, .slice m4 m5 m6] 24 (0, 0))) ∧ Hid (TOk 24 (XJ g m nv1 B4) (w.heap.size + 1) wq tt (.agg #[.int .i64 m1, .string m2, .int .i64 m3, .slice m4 m5 m6]) Ft) ∧ Hid (∀ f ∈ Fj, ∀ h ∈ Ft, f ≠ h) ∧ Hid (IRd g m L lv nv1 wq d ⟨r2, s0.names⟩) ∧ Hid (FX (XI g m nv) (XI g m nv1) w wq) ∧ Hid (consTm (ks.take j) tt = consTm ks nilTm) ∧ Hid (∀ f ∈ F, f < wq.heap.size) ∧ Hid (wq.heap[w.heap.size]? = some (.cells #[.int .i64 0, .string ⟨#[]⟩, .int .i64 0, .slice none 0 0] 24 (0, 0)))) (fun i _ => (intOf i + 1).toNat)
       case atStart => exact ⟨KN, _, FJ, [], nilTm, 2, ⟨#[91, 93]⟩, 0, none, 0, 0, Nat.le_refl _, rfl, rfl, ⟨HJZ.out.1, HJZ.out.2.1, HJZ.out.2.2.1⟩, HKZ.out, HTZ.out, (fun f hf h hh => HDZ.out f (HJZ.out.2.2.1 f hf) h hh), HIZ.out, HXZ.out, (by show _ = _; rw [HKN.out, List.take_length]), HRZ.out.lt, HPZ.out.2⟩
       case round =>
         obtain ⟨j, z, Fj, Ft, tt, m1, m2, m3, m4, m5, m6, hjK, rfl, HZ, HRJ, HKB, HTT2, HDD, HSS, HXX, HCC, HFF, HPP⟩ := hrel
         rcases j with _ | i
         · obtain rfl : z = -1 := by have := HZ.out; simpa using this
           have hk := HPP.out
           obtain ⟨z0, z1, z2, z3, q0, q1, q2, q3⟩ := blk4 hk
           obtain ⟨g0, g1, g2, g3, _⟩ := blk4 HKB.out
           have HK9 : Hid _ := hk
           clear hk
           go_wp2
           refine bodyPost_ret_by (results_cell_row rfl _ _ w.heap.size 24 _ (0, 0) _ rfl (blk4_set HK9.out) Tryz.underlying24 rfl (by kernel_rfl)) rfl ?_
           rw [HRES.out]
           have hc := HCC.out
           rw [List.take_zero] at hc
           have ht9 := HTT2.out.weakJ
           have e9 : tt = consTm ks nilTm := hc
           rw [e9] at ht9
           exact ⟨_, rfl, TmRI.fin HH.out HXX.out HPZ.out.1 ht9 HSS.out rfl⟩
         · obtain rfl : z = (i : Int) := by have := HZ.out; omega
           have hiK : i < KN := by omega
           have hil : i < ks.length := by have := HKN.out; omega
           obtain ⟨gb, x1, x2, x3, x4, x5, x6, F1, F2, hao, t0, t1, t2, t3, hown, hFj, hRJ1⟩ := RJ.item HRJ.out.1 hil
           obtain ⟨g0, g1, g2, g3, _⟩ := blk4 HKB.out
           obtain ⟨kt, hkt⟩ : ∃ kt, kt = ks[i] := ⟨_, rfl⟩
           have hnd := HRJ.out.2.1
           rw [hFj] at hnd
           obtain ⟨hn1, hn2, hn3⟩ := List.nodup_append.1 hnd
           have hF12 : ∀ f, f ∈ F1 ∨ f ∈ F2 → f ∈ F := fun f hf => HRJ.out.2.2 f (by rw [hFj]; exact List.mem_append.2 hf)
           have HIT : Hid (TOk 24 (XJ g m nv1 B4) (w.heap.size + 1) wr kt (.agg #[.int .i64 x1, .string x2, .int .i64 x3, .slice x4 x5 x6]) F2) := ⟨by rw [hkt]; exact hown, hn2, fun f hf => HFZ.out f (hF12 f (Or.inr hf))⟩
           have HRJ1 : Hid (RJ 24 wr ks (.slice ao KN cap) i F1 ∧ F1.Nodup ∧ ∀ f ∈ F1, f ∈ F) := ⟨hRJ1, hn1, fun f hf => hF12 f (Or.inl hf)⟩
           have HD2 : Hid (∀ f ∈ F2, ∀ h ∈ Ft, f ≠ h) := fun f hf h hh => HDD.out f (by rw [hFj]; exact List.mem_append.2 (Or.inr hf)) h hh
           have HD1 : Hid (∀ f ∈ F1, f ∉ F2 ∧ f ∉ Ft) := fun f hf => ⟨fun h2 => hn3 f hf f h2 rfl, fun h2 => HDD.out f (by rw [hFj]; exact List.mem_append.2 (Or.inl hf)) f h2 rfl⟩
           have HCN : Hid (consTm (ks.take i) (structTm ⟨#[46]⟩ [kt, tt]) = consTm ks nilTm) := by
             have := HCC.out
             rw [List.take_succ_eq_append_getElem hil, consTm_snoc, ← hkt] at this
             exact this
           have HBLT : Hid (B4 < wr.heap.size) := (Array.getElem?_eq_some_iff.1 HKB.out).1
           subst hao
           have y0 := fun u => cell_keep t0 (later_below wr u)
           have y1 := fun u => cell_keep t1 (later_below wr u)
           have y2 := fun u => cell_keep t2 (later_below wr u)
           have y3 := fun u => cell_keep t3 (later_below wr u)
           have y4 := fun u => cell_keep g0 (later_below wr u)
           have y5 := fun u => cell_keep g1 (later_below wr u)
           have y6 := fun u => cell_keep g2 (later_below wr u)
           have y7 := fun u => cell_keep g3 (later_below wr u)
           clear t0 t1 t2 t3 g0 g1 g2 g3 hown hFj hRJ1 hnd hn1 hn2 hn3 hF12 HRJ HDD HCC hkt hil HZ hjK
           go_upto_region 10 with fail
           refine wp_region_tail 5 (by kernel_rfl) (by kernel_rfl) ?_
           simp only [List.take_succ_cons, List.take_zero, List.drop_succ_cons, List.drop_zero]
           repeat (go_big_quiet_step (skip))
           refine wpQuiet_nil ?_
           rintro _ ⟨u3, rfl⟩
           have HB3 : Hid (Below wr.heap.size wr (later wr u3)) := later_below wr u3
           clear y0 y1 y2 y3 y4 y5 y6 y7
           generalize later wr u3 = w3 at *
           have R3 := ROk.two (HIT.out.step (FX.of_below HB3.out)) (HTT2.out.step (FX.of_below HB3.out)) HD2.out (by have := HXX.out.size; have := HB3.out.size; have := HB4W.out; have := HBLT.out; omega) (fun hx => hx.elim (XI_new (HSS.out.keep HB3.out)) (fun e => by have := HBLT.out; have := HB3.out.size; omega))
           obtain ⟨V3, hV3⟩ : ∃ V3, V3 = w3.alloc (.cells #[.int .i64 x1, .string x2, .int .i64 x3, .slice x4 x5 x6, .int .i64 m1, .string m2, .int .i64 m3, .slice m4 m5 m6] 24) := ⟨_, rfl⟩
           have bV3 : Below w3.heap.size w3 V3 := by rw [hV3]; exact (Below.refl _ _).alloc (Nat.le_refl _) _
           rw [← hV3] at R3
           have HR3 : Hid _ := R3
           have HBV3 : Hid (Below wr.heap.size wr V3) := HB3.out.trans (bV3.mono HB3.out.size)
           have HSO := i_structOf ⟨#[46]⟩ (some ⟨w3.heap.size, 0, none⟩) 2 2 V3 (by decide)
           rw [hV3] at HSO
           replace HSO : Hid _ := HSO
           clear R3 bV3
           go_wp2_with (go_at_call 75; refine (Calls.mono HSO.out ?_); rintro e w4 ⟨rfl, hb⟩; rw [← hV3] at hb; have HBX : Hid (Below V3.heap.size V3 w4) := hb; have HB4' : Hid (Below wr.heap.size wr w4) := HBV3.out.trans (hb.mono HBV3.out.size); have hkb := (HB4'.out.block B4 HBLT.out).trans HKB.out; obtain ⟨g0, g1, g2, g3, fg0, fg1, fg2, fg3⟩ := blk4 hkb; have HKB4 : Hid _ := hkb; clear hb hkb)
           go_roundw
           case rel =>
             have hb34 := HB4'.out
             have hBlt := HBLT.out
             have hB4W := HB4W.out
             have hgW := HH.out.lt.1
             have x4' : FX (XI g m nv1) (XI g m nv1) wr w4 := FX.of_below hb34
             have hoth : ∀ f ∈ F, (((((w4.setCell ⟨B4, 0, none⟩ (.int .i64 4)).setCell ⟨B4, 1, none⟩ (.string ⟨#[46]⟩)).setCell ⟨B4, 2, none⟩ (.int .i64 0)).setCell ⟨B4, 3, none⟩ (.slice (some ⟨w3.heap.size, 0, none⟩) 2 2))).heap[f]? = wr.heap[f]? := fun f hf => (blk4_other (fun e => (HFZ.out f hf).2 (Or.inr e))).trans (hb34.block f (HFF.out f hf))
             have TN := ((HR3.out.step (FX.of_below HBX.out)).tm (s := ⟨#[46]⟩) (by decide))
             refine ⟨i, (i : Int) - 1, F1, _, structTm ⟨#[46]⟩ [kt, tt], 4, ⟨#[46]⟩, 0, some ⟨w3.heap.size, 0, none⟩, 2, 2, by omega, by go_num, rfl, ?_, ?_, TN.turn fun k hk hx => blk4_other (fun e => hx (Or.inr e)), ?_, ?_, ?_, HCN.out, ?_, ?_⟩
             · exact ⟨HRJ1.out.1.turn (fun b hb => hoth b (HOZ.out b hb)) (fun f hf => hoth f (HRJ1.out.2.2 f hf)), HRJ1.out.2.1, HRJ1.out.2.2⟩
             · exact blk4_set HKB4.out
             · intro f hf h hh e
               subst e
               have h1 := HFF.out f (HRJ1.out.2.2 f hf)
               have h2 := HB3.out.size
               rcases List.mem_cons.1 hh with h' | h'
               · omega
               · rcases List.mem_append.1 h' with h' | h'
                 · exact (HD1.out f hf).1 h'
                 · exact (HD1.out f hf).2 h'
             · exact (HSS.out.keep hb34).turn fun k hk => blk4_other (fun e => by
                 rcases hk with hk | hk
                 · omega
                 · rw [e] at hk; exact HNZ.out hk)
             · exact ((((HXX.out.trans x4').set (Or.inr (by omega)) _).set (Or.inr (by omega)) _).set (Or.inr (by omega)) _).set (Or.inr (by omega)) _
             · intro f hf
               have := HFF.out f hf
               have := hb34.size
               simp [World.setCell]; omega
             · exact (blk4_other (by omega)).trans ((hb34.block _ (by omega)).trans HPP.out)
           case measure => simp [intOf]
end Go.Proofs.YtbkjcccbjnehbanGreatDoor

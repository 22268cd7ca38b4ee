import Derived.Test.YtbkjcccbjnehbanGreatDoorMh17
import Derived.Test.YtbkjcccbjnehbanGreatDoorMh18
import Derived.Test.YtbkjcccbjnehbanGreatDoorMh20
import Derived.Test.YtbkjcccbjnehbanGreatDoorMh21
import Derived.ArgAppend
import Derived.Laws.OwnMore
namespace Go.Proofs.YtbkjcccbjnehbanGreatDoor
open Go.RowKit
theorem results_c3 {P : Program} {fn : Func} {p u x y : Tmp} {ty : TypeId} (h : fn.results = #[.cell p ty, .tmp u, .tmp x, .tmp y]) (tmps : Array Value) (w : World) (g : Nat) (t : TypeId) (cs : Array Value) (fr : Nat × Nat) (d : TypeDesc)
   (hp : tmps.getD p undef = .pointer (some ⟨g, 0, none⟩)) (hg : w.heap[g]? = some (.cells cs t fr))
   (hu : P.underlying ty = some d) (hd : (match d with | .struct _ | .array _ _ => true | _ => false) = true) (hi : (P.info? ty).map (·.size) = some cs.size) :
   (results fn tmps).run P w = .ok (.tuple #[.agg cs, tmps.getD u undef, tmps.getD x undef, tmps.getD y undef]) w := by
 have hp' : tmps[p]?.getD undef = .pointer (some ⟨g, 0, none⟩) := by simpa using hp
 simp [results, h, hp', asAddr, run_loadVar_row w g t ty cs fr d hg hu hd hi]
structure RsRes where
 ok : Bool
 t : Tm
 names : List ByteArray
 nx : Nat
def rsR (L : List Sg) (a : Nat) : RsRes :=
 match (if a < L.length then readS (L.drop a) else none) with
 | some (t, names, r) => ⟨true, t, names, L.length - r.length⟩
 | none => ⟨false, noTm, [], a + behindC (L.drop a)⟩
theorem rsR_none {L : List Sg} {a : Nat} (h : a < L.length → readS (L.drop a) = none) : rsR L a = ⟨false, noTm, [], a + behindC (L.drop a)⟩ := by
 unfold rsR
 by_cases hl : a < L.length
 · rw [if_pos hl, h hl]
 · rw [if_neg hl]
def RsOut (L : List Sg) (a : Nat) (w : World) (e : Ending) (w' : World) : Prop :=
 ∃ tv nv F, e = .returned (.tuple #[tv, nv, .int .i64 ((rsR L a).nx : Int), .bool (rsR L a).ok]) ∧ TOk 24 (fun _ => False) w.heap.size w' (rsR L a).t tv F ∧ NRow w' w.heap.size (rsR L a).names nv ∧ Below w.heap.size w w'
abbrev zeroT : Value := .agg #[.int .i64 0, .string ⟨#[]⟩, .int .i64 0, .slice none 0 0]
theorem tok_zero (w w' : World) : TOk 24 (fun _ => False) w.heap.size w' noTm zeroT [] := TOk.leaf (by decide) (by decide) (by decide)
theorem nrow_new {w w' : World} (h : w.heap.size ≤ w'.heap.size) : NRow (w'.alloc (.cells #[] 9)) w.heap.size [] (.slice (some ⟨w'.heap.size, 0, none⟩) 0 0) :=
 ⟨rfl, Or.inr ⟨w'.heap.size, 0, #[], rfl, h, heap_alloc_new w' _, Nat.le_refl _, Nat.zero_le _, rfl, rfl⟩⟩
theorem nrow_keep {w w' : World} {B : Nat} {ns : List ByteArray} {v : Value} (h : NRow w B ns v) (hb : Below w.heap.size w w') : NRow w' B ns v :=
 h.turn fun b hb2 => hb.block b (h.lt b hb2).2
theorem nrow_base {w : World} {B B' : Nat} {ns : List ByteArray} {v : Value} (h : NRow w B ns v) (hB : B' ≤ B) : NRow w B' ns v := by
 refine ⟨h.1, ?_⟩
 rcases h.2 with hn | ⟨b, cap, cur, e, h1, h2⟩
 · exact Or.inl hn
 · exact Or.inr ⟨b, cap, cur, e, Nat.le_trans hB h1, h2⟩
theorem isO_end {R : Option (Tm × St)} (h : isO (R.map fun y => (0, y.2)) 5 ⟨#[]⟩ = true) : ∃ t x r names, R = some (t, ⟨x :: r, names⟩) ∧ x.kind = 5 := by
 rcases R with _ | ⟨t, ⟨_ | ⟨x, r⟩, names⟩⟩
 · cases h
 · cases h
 · refine ⟨t, x, r, names, rfl, ?_⟩
   simp [isO] at h
   exact h
theorem isO_not {L : List Sg} (h : isO ((termO true 130 1200 ⟨L, []⟩).map fun y => (0, y.2)) 5 ⟨#[]⟩ = false) : readS L = none := by
 unfold readS
 generalize termO true 130 1200 ⟨L, []⟩ = R at *
 rcases R with _ | ⟨t, ⟨_ | ⟨x, r⟩, names⟩⟩
 · rfl
 · rfl
 · have hx : ¬ x.kind = 5 := by
     intro e
     have e2 : ByteArray.toList ⟨#[]⟩ = [] := by rw [ByteArray.toList_eq]
     simp [isO, e, e2] at h
   show (if x.kind = 5 ∧ t.ok = true then _ else none) = _
   rw [if_neg (fun e => hx e.1)]
theorem fin_false {w w3 : World} {c0 c1 c2 c3 : Value} (hb : Below w.heap.size w w3) (hk : w3.heap[w.heap.size]? = some (.cells #[c0, c1, c2, c3] 24 (0, 0))) :
   (((((w3.setCell ⟨w.heap.size, 0, none⟩ (.int .i64 0)).setCell ⟨w.heap.size, 1, none⟩ (.string ⟨#[]⟩)).setCell ⟨w.heap.size, 2, none⟩ (.int .i64 0)).setCell ⟨w.heap.size, 3, none⟩ (.slice none 0 0)).alloc (.cells #[] 9)).heap[w.heap.size]? = some (.cells #[.int .i64 0, .string ⟨#[]⟩, .int .i64 0, .slice none 0 0] 24 (0, 0)) ∧
   NRow (((((w3.setCell ⟨w.heap.size, 0, none⟩ (.int .i64 0)).setCell ⟨w.heap.size, 1, none⟩ (.string ⟨#[]⟩)).setCell ⟨w.heap.size, 2, none⟩ (.int .i64 0)).setCell ⟨w.heap.size, 3, none⟩ (.slice none 0 0)).alloc (.cells #[] 9)) w.heap.size [] (.slice (some ⟨w3.heap.size, 0, none⟩) 0 0) ∧
   Below w.heap.size w (((((w3.setCell ⟨w.heap.size, 0, none⟩ (.int .i64 0)).setCell ⟨w.heap.size, 1, none⟩ (.string ⟨#[]⟩)).setCell ⟨w.heap.size, 2, none⟩ (.int .i64 0)).setCell ⟨w.heap.size, 3, none⟩ (.slice none 0 0)).alloc (.cells #[] 9)) := by
 obtain ⟨X, hX⟩ : ∃ X, X = (((w3.setCell ⟨w.heap.size, 0, none⟩ (.int .i64 0)).setCell ⟨w.heap.size, 1, none⟩ (.string ⟨#[]⟩)).setCell ⟨w.heap.size, 2, none⟩ (.int .i64 0)).setCell ⟨w.heap.size, 3, none⟩ (.slice none 0 0) := ⟨_, rfl⟩
 have bX : Below w.heap.size w X := by rw [hX]; exact blk4_below hb (Nat.le_refl _)
 have kX : X.heap[w.heap.size]? = some (.cells #[.int .i64 0, .string ⟨#[]⟩, .int .i64 0, .slice none 0 0] 24 (0, 0)) := by rw [hX]; exact blk4_set hk
 have sX : w3.heap.size = X.heap.size := by rw [hX]; simp [World.setCell]
 rw [← hX, sX]
 exact ⟨(alloc_old _ _ (Array.getElem?_eq_some_iff.1 kX).1).trans kX, nrow_new bX.size, bX.alloc bX.size _⟩
set_option maxHeartbeats 8000000 in
set_option maxRecDepth 20000 in
theorem s_readSigns (L : List Sg) (lv : Value) (a : Nat) (w : World) (ha : a ≤ L.length) (hL : L.length ≤ 3000) (hO : LOk L) (h : SgRow w 0 L lv) :
   Calls Tryz.prog 19 #[lv, .int .i64 (a : Int)] w (RsOut L a w) := by
 obtain ⟨ao, cap, rfl, hcap, hlc⟩ := h.shape
 obtain ⟨NL, hNL⟩ : ∃ NL, NL = L.length := ⟨_, rfl⟩
 have HNL : Hid (L.length = NL) := hNL.symm
 obtain ⟨W, hW⟩ : ∃ W, W = w.alloc (.cells #[.int .i64 0, .string ⟨#[]⟩, .int .i64 0, .slice none 0 0] 24) := ⟨_, rfl⟩
 have bW : Below w.heap.size w W := by rw [hW]; exact (Below.refl _ _).alloc (Nat.le_refl _) _
 have HKW : Hid (W.heap[w.heap.size]? = some (.cells #[.int .i64 0, .string ⟨#[]⟩, .int .i64 0, .slice none 0 0] 24 (0, 0))) := by rw [hW]; exact heap_alloc_new _ _
 have HSW : Hid (W.heap.size = w.heap.size + 1) := by show _ = _; rw [hW]; simp
 have HRW : Hid (SgRow W 0 L (.slice ao L.length cap)) := h.keep bW
 have HBW : Hid (Below w.heap.size w W) := bW
 have HBH : Hid _ := s_behind L _ a W ha hL HRW.out
 have HW : Hid (W = w.alloc (.cells #[.int .i64 0, .string ⟨#[]⟩, .int .i64 0, .slice none 0 0] 24)) := hW
 have HII : Hid _ := in_any (a : Int) 0 ((L.length : Int) - 1) W
 obtain ⟨Z, hZ⟩ : ∃ Z, Z = a + behindC (L.drop a) := ⟨_, rfl⟩
 have HZ : Hid (a + behindC (L.drop a) = Z) := hZ.symm
 rw [← hZ] at HBH
 have haz : (a : Int) ≤ 3000 := by omega
 have hnl3 : (NL : Int) ≤ 3000 := by omega
 have HA : Hid (a ≤ L.length ∧ L.length ≤ 3000) := ⟨ha, hL⟩
 have HO : Hid (LOk L) := hO
 have HLT : Hid (decide ((a : Int) < NL) = decide (a < L.length)) := by show decide _ = decide _; rw [hNL]; congr 1; exact propext (by omega)
 rw [← hNL] at HBH HII HRW ⊢
 clear bW h hZ hlc ha hL hO hNL
 unfold maxLen at hcap
 by_cases hlt : a < L.length
 · have e1 : decide (0 ≤ (a : Int) ∧ (a : Int) ≤ (NL : Int) - 1) = true := decide_eq_true (by have := HNL.out; omega)
   rw [e1] at HII
   have HT : Hid (TermC 130 W.heap.size L (.slice ao NL cap)) := by show TermC _ _ _ _; rw [← HNL.out]; exact s_term _ L _ HA.out.2 HO.out 130
   obtain ⟨V1, hV1⟩ : ∃ V1, V1 = W.alloc (.cells #[.slice ao NL cap, .int .i64 (a : Int), .bool false, .int .i64 0, .slice none 0 0] 52) := ⟨_, rfl⟩
   have bV1 : Below W.heap.size W V1 := by rw [hV1]; exact (Below.refl _ _).alloc (Nat.le_refl _) _
   have HS1 : Hid (SRd W.heap.size L (.slice ao NL cap) (.slice none 0 0) V1 (some (0, ⟨L.drop a, []⟩))) := by
     refine ⟨(a : Int), false, 0, [], by rw [hV1]; exact heap_alloc_new _ _, ⟨HRW.out.keep bV1, fun b hb => ?_⟩, ⟨rfl, Or.inl ⟨rfl, rfl⟩⟩, rfl, rfl, rfl, a, rfl, HA.out.1, rfl, by simp⟩
     rcases HRW.out.2 with ⟨e, _⟩ | ⟨g, cap', cur, e, _, hh, _⟩
     · rw [e] at hb; cases hb
     · rw [e] at hb; simp only [Value.ownBlock, Option.some.injEq] at hb; subst hb; exact (Array.getElem?_eq_some_iff.1 hh).1
   have HV1 : Hid (V1 = W.alloc (.cells #[.slice ao NL cap, .int .i64 (a : Int), .bool false, .int .i64 0, .slice none 0 0] 52)) := hV1
   have HSV : Hid (V1.heap.size = W.heap.size + 1) := by show _ = _; rw [hV1]; simp
   have HBV : Hid (Below W.heap.size W V1) := bV1
   have HTC : Hid _ := HT.out 0 1200 ⟨L.drop a, []⟩ (.slice none 0 0) V1 rfl HS1.out
   have HRS : Hid (readS (L.drop a) = match termO true 130 1200 ⟨L.drop a, []⟩ with | some (t, ⟨x :: r, names⟩) => if x.kind = 5 ∧ t.ok = true then some (t, names, r) else none | _ => none) := rfl
   have HNO : Hid (isO ((termO true 130 1200 ⟨L.drop a, []⟩).map fun y => (0, y.2)) 5 ⟨#[]⟩ = false → readS (L.drop a) = none) := isO_not
   obtain ⟨R, hR⟩ : ∃ R, R = termO true 130 1200 ⟨L.drop a, []⟩ := ⟨_, rfl⟩
   rw [← hR] at HTC HRS HNO
   have HLTA : Hid (a < L.length) := hlt
   clear hR hV1 bV1 HT hlt e1 HLT
   go_enter Tryz.func19, Tryz.ntmps19
   go_upto_region 1 with (fail)
   rw [← HW.out]
   clear hW
   go_upto_region 5 with (first
     | (go_at_call 25; refine (Calls.mono HBH.out ?_); rintro e w1 ⟨rfl, hw⟩; rw [hw]; clear hw)
     | (go_at_call 26; refine (Calls.mono HII.out ?_); rintro e w1 ⟨rfl, hw⟩; rw [hw]; clear hw))
   rw [← HV1.out]
   go_upto_region 6 with (go_at_call 27; go_loud ((refine (Calls.mono HTC.out ?_); rintro e w2 ⟨v, rfl, t, F, nv2, ht, hrt, hs2, hx2⟩; obtain ⟨tk, ts, tn, ta, tl, tc, rfl⟩ := ht.form; have HT2 : Hid (TOk 24 (XS W.heap.size nv2) V1.heap.size w2 t (.agg #[.int .i64 tk, .string ts, .int .i64 tn, .slice ta tl tc]) F) := ht; have HRT : Hid (∀ y, R = some y → t = y.1) := hrt; have HS2 : Hid (SRd W.heap.size L (.slice ao NL cap) nv2 w2 (R.map fun y => (0, y.2))) := hs2; have HX2 : Hid (FX (XS W.heap.size (.slice none 0 0)) (XS W.heap.size nv2) V1 w2) := hx2; clear ht hrt hs2 hx2)))
   obtain ⟨V2, hV2⟩ : ∃ V2, V2 = w2.alloc (.cells #[.int .i64 tk, .string ts, .int .i64 tn, .slice ta tl tc] 24) := ⟨_, rfl⟩
   have bV2 : Below w2.heap.size w2 V2 := by rw [hV2]; exact (Below.refl _ _).alloc (Nat.le_refl _) _
   have HK2 : Hid (V2.heap[w2.heap.size]? = some (.cells #[.int .i64 tk, .string ts, .int .i64 tn, .slice ta tl tc] 24 (0, 0))) := by rw [hV2]; exact heap_alloc_new _ _
   have HSV2 : Hid (SRd W.heap.size L (.slice ao NL cap) nv2 V2 (R.map fun y => (0, y.2))) := HS2.out.keep bV2
   have HTV2 : Hid (TOk 24 (XS W.heap.size nv2) V1.heap.size V2 t (.agg #[.int .i64 tk, .string ts, .int .i64 tn, .slice ta tl tc]) F) := HT2.out.step (FX.of_below bV2)
   have HXV2 : Hid (FX (XS W.heap.size (.slice none 0 0)) (XS W.heap.size nv2) V1 V2) := HX2.out.trans (FX.of_below bV2)
   have HKB : Hid (V2.heap[w.heap.size]? = some (.cells #[.int .i64 0, .string ⟨#[]⟩, .int .i64 0, .slice none 0 0] 24 (0, 0))) := by
     have hw := HSW.out
     show _ = _
     rw [HXV2.out.block w.heap.size (by rw [HSV.out]; omega) (by rintro (e | e) <;> first | omega | cases e), HBV.out.block w.heap.size (by omega)]
     exact HKW.out
   have HBB : Hid (Below w.heap.size w V2) := by
     have h1 := HBW.out.trans (HBV.out.mono HBW.out.size)
     have hw := HSW.out
     refine ⟨HXV2.out.os.trans h1.os, HXV2.out.tape.trans h1.tape, HXV2.out.output.trans h1.output, Nat.le_trans h1.size HXV2.out.size, fun k hk => ?_⟩
     rw [HXV2.out.block k (Nat.lt_of_lt_of_le hk h1.size) (by rintro (e | e) <;> first | omega | cases e)]
     exact h1.block k hk
   rw [← hV2]
   have HLW2 : Hid (V1.heap.size ≤ w2.heap.size ∧ w2.heap.size < V2.heap.size) := ⟨HX2.out.size, by rw [hV2]; simp⟩
   clear hV2 bV2 HT2 HS2 HX2 HTC HS1 HBV HRW HBH HII HKW
   obtain ⟨bo, hbo⟩ : ∃ bo, bo = isO (R.map fun y => (0, y.2)) 5 ⟨#[]⟩ := ⟨_, rfl⟩
   have HIS : Hid _ := s_is W.heap.size L _ nv2 _ 5 ⟨#[]⟩ V2 HSV2.out
   rw [← hbo] at HIS HNO
   have HEND : Hid (bo = true → ∃ t x r names, R = some (t, ⟨x :: r, names⟩) ∧ x.kind = 5) := fun e => isO_end (hbo.symm.trans e)
   clear hbo
   cases bo with
   | false =>
     have HRN : Hid (rsR L a = ⟨false, noTm, [], Z⟩) := by show _ = _; rw [rsR_none (fun _ => HNO.out rfl), HZ.out]
     obtain ⟨q0, q1, q2, q3, z0, z1, z2, z3⟩ := blk4 HKB.out
     go_upto_region 7 with (go_at_call 28; refine (Calls.mono HIS.out ?_); rintro e w3 ⟨rfl, b3⟩; have B3 : Hid (Below V2.heap.size V2 w3) := b3; clear b3)
     have HK3 : Hid (w3.heap[w.heap.size]? = some (.cells #[.int .i64 0, .string ⟨#[]⟩, .int .i64 0, .slice none 0 0] 24 (0, 0))) := (B3.out.block _ (Array.getElem?_eq_some_iff.1 HKB.out).1).trans HKB.out
     have HB3 : Hid (Below w.heap.size w w3) := HBB.out.trans (B3.out.mono HBB.out.size)
     have hlt3 : w.heap.size < w3.heap.size := (Array.getElem?_eq_some_iff.1 HK3.out).1
     clear q0 q1 q2 q3 z0 z1 z2 z3
     obtain ⟨q0, q1, q2, q3, z0, z1, z2, z3⟩ := blk4 HK3.out
     go_wp2
     have hF := fin_false HB3.out HK3.out
     refine bodyPost_ret_by (results_c3 rfl _ _ w.heap.size 24 _ (0, 0) _ rfl hF.1 Tryz.underlying24 rfl (by kernel_rfl)) rfl ?_
     exact ⟨_, _, [], by rw [HRN.out]; rfl, by rw [HRN.out]; exact tok_zero _ _, by rw [HRN.out]; exact hF.2.1, hF.2.2⟩
   | true =>
     obtain ⟨t', x, r, names, hRe, hx5⟩ := HEND.out rfl
     subst hRe
     obtain rfl : t = t' := HRT.out _ rfl
     have HSA : Hid (SRd W.heap.size L (.slice ao NL cap) nv2 V2 (some (0, ⟨x :: r, names⟩))) := HSV2.out
     have HRS2 : Hid (readS (L.drop a) = if t.ok = true then some (t, names, r) else none) := by
       show _ = _
       rw [HRS.out]
       show (if x.kind = 5 ∧ t.ok = true then _ else _) = _
       by_cases hq : t.ok = true
       · rw [if_pos ⟨hx5, hq⟩, if_pos hq]
       · rw [if_neg (fun e => hq e.2), if_neg hq]
     have HOKC : Hid (∀ V, Below V2.heap.size V2 V → Calls Tryz.prog 29 #[.agg #[.int .i64 tk, .string ts, .int .i64 tn, .slice ta tl tc]] V fun e w' => e = .returned (.bool t.ok) ∧ Below V.heap.size V w') := fun V hb => specOk t V _ (TmIn.keep hb _ _ (Own.toIn _ _ _ HTV2.out.own))
     clear HRT HEND HNO HRS hx5 HSV2
     cases hok : t.ok with
     | false =>
       rw [hok] at HOKC HRS2
       have HRN : Hid (rsR L a = ⟨false, noTm, [], Z⟩) := by show _ = _; rw [rsR_none (fun _ => by rw [HRS2.out]; rfl), HZ.out]
       go_upto_region 7 with (first
         | (go_at_call 28; refine (Calls.mono HIS.out ?_); rintro e w3 ⟨rfl, b3⟩; have B3 : Hid (Below V2.heap.size V2 w3) := b3; obtain ⟨p0, p1, p2, p3, _⟩ := blk4 ((b3.block _ (Array.getElem?_eq_some_iff.1 HK2.out).1).trans HK2.out); clear b3)
         | (go_at_call 29; refine (Calls.mono (HOKC.out _ B3.out) ?_); rintro e w4 ⟨rfl, b4⟩; have B4 : Hid (Below V2.heap.size V2 w4) := B3.out.trans (b4.mono B3.out.size); clear b4))
       have HK3 : Hid (w4.heap[w.heap.size]? = some (.cells #[.int .i64 0, .string ⟨#[]⟩, .int .i64 0, .slice none 0 0] 24 (0, 0))) := (B4.out.block _ (Array.getElem?_eq_some_iff.1 HKB.out).1).trans HKB.out
       have HB3 : Hid (Below w.heap.size w w4) := HBB.out.trans (B4.out.mono HBB.out.size)
       have hlt3 : w.heap.size < w4.heap.size := (Array.getElem?_eq_some_iff.1 HK3.out).1
       clear p0 p1 p2 p3
       obtain ⟨q0, q1, q2, q3, z0, z1, z2, z3⟩ := blk4 HK3.out
       go_wp2
       have hF := fin_false HB3.out HK3.out
       refine bodyPost_ret_by (results_c3 rfl _ _ w.heap.size 24 _ (0, 0) _ rfl hF.1 Tryz.underlying24 rfl (by kernel_rfl)) rfl ?_
       exact ⟨_, _, [], by rw [HRN.out]; rfl, by rw [HRN.out]; exact tok_zero _ _, by rw [HRN.out]; exact hF.2.1, hF.2.2⟩
     | true =>
       rw [hok] at HOKC HRS2
       go_upto_region 8 with (first
         | (go_at_call 28; refine (Calls.mono HIS.out ?_); rintro e w3 ⟨rfl, b3⟩; have B3 : Hid (Below V2.heap.size V2 w3) := b3; obtain ⟨p0, p1, p2, p3, _⟩ := blk4 ((b3.block _ (Array.getElem?_eq_some_iff.1 HK2.out).1).trans HK2.out); clear b3)
         | (go_at_call 29; refine (Calls.mono (HOKC.out _ B3.out) ?_); rintro e w4 ⟨rfl, b4⟩; have B4 : Hid (Below V2.heap.size V2 w4) := B3.out.trans (b4.mono B3.out.size); clear b4))
       have HS4 : Hid (SRd W.heap.size L (.slice ao NL cap) nv2 w4 (some (0, ⟨x :: r, names⟩))) := HSA.out.keep B4.out
       obtain ⟨a', bad, dv, nms, hg4, _, hnr, hbad, hdv, hnm, p, hp, hpl, hdrop, hnp⟩ := HS4.out.ex
       subst hbad hdv hnm hp
       have hpr : (rsR L a) = ⟨true, t, nms, p + 1⟩ := by
         unfold rsR
         rw [if_pos HLTA.out, HRS2.out]
         have := congrArg List.length hdrop
         rw [List.length_drop, List.length_cons] at this
         show RsRes.mk _ _ _ _ = _
         congr 1
         omega
       have hnl3k : nms.length ≤ 3000 := by have := HA.out.2; omega
       have hp3 : (p : Int) ≤ 3000 := by have := HA.out.2; omega
       have HRR : Hid (rsR L a = ⟨true, t, nms, p + 1⟩) := hpr
       have HNR : Hid (NRow w4 (W.heap.size + 1) nms nv2) := hnr
       have HG4 : Hid (w4.heap[W.heap.size]? = some (.cells #[.slice ao NL cap, .int .i64 (p : Int), .bool false, .int .i64 ((0 : Nat) : Int), nv2] 52 (0, 0))) := hg4
       have HK4 : Hid (w4.heap[w2.heap.size]? = some (.cells #[.int .i64 tk, .string ts, .int .i64 tn, .slice ta tl tc] 24 (0, 0))) := (B4.out.block _ (Array.getElem?_eq_some_iff.1 HK2.out).1).trans HK2.out
       have HKB4 : Hid (w4.heap[w.heap.size]? = some (.cells #[.int .i64 0, .string ⟨#[]⟩, .int .i64 0, .slice none 0 0] 24 (0, 0))) := (B4.out.block _ (Array.getElem?_eq_some_iff.1 HKB.out).1).trans HKB.out
       have HSZ : Hid (w.heap.size < W.heap.size ∧ W.heap.size < w2.heap.size ∧ w.heap.size < w4.heap.size) := by
         have h1 := HSW.out; have h2 := HSV.out; have h3 := HLW2.out
         exact ⟨by omega, by omega, (Array.getElem?_eq_some_iff.1 HKB4.out).1⟩
       have HF : Hid (∀ u, FS.But w.heap.size w4 u → u.heap[w2.heap.size]? = some (.cells #[.int .i64 tk, .string ts, .int .i64 tn, .slice ta tl tc] 24 (0, 0)) ∧ u.heap[W.heap.size]? = some (.cells #[.slice ao NL cap, .int .i64 (p : Int), .bool false, .int .i64 ((0 : Nat) : Int), nv2] 52 (0, 0)) ∧ NRow u (W.heap.size + 1) nms nv2) := fun u hu => by
         have hz := HSZ.out
         refine ⟨(hu.block _ (Array.getElem?_eq_some_iff.1 HK4.out).1 (by omega)).trans HK4.out, (hu.block _ (Array.getElem?_eq_some_iff.1 HG4.out).1 (by omega)).trans HG4.out, HNR.out.turn fun b hb => hu.block b (HNR.out.lt b hb).2 (by have := (HNR.out.lt b hb).1; omega)⟩
       obtain ⟨aon, capn, rfl, hcapn, _⟩ := HNR.out.cells
       obtain ⟨i0, hi, hz0, hz1, hz2⟩ := info_partsS infoN
       have HLEN : Hid (nms.length ≤ 3000) := hnl3k
       obtain ⟨NN, hNN⟩ : ∃ NN, NN = nms.length := ⟨_, rfl⟩
       have HNN : Hid (nms.length = NN) := hNN.symm
       clear hg4 hnr hdrop hnp hpl hpr hnl3k HS4 p0 p1 p2 p3 HIS HOKC
       refine FS.wp_region_factsS 16 12 w.heap.size (fun i v _ u => match i with
         | 0 => v = .agg #[.int .i64 tk, .string ts, .int .i64 tn, .slice ta tl tc]
         | 1 => ∃ g1, v = .slice (some ⟨g1, 0, none⟩) 0 0 ∧ u.heap[g1]? = some (.cells #[] 9 (0, 0)) ∧ w4.heap.size ≤ g1
         | 2 => v = .pointer (some ⟨W.heap.size, 0, none⟩)
         | 3 => v = .pointer (some ⟨W.heap.size, 0, none⟩)
         | 4 => v = .pointer (some ⟨W.heap.size, 4, none⟩)
         | 5 => v = .slice aon nms.length capn
         | 6 => NRow u (w.heap.size + 1) nms v
         | 7 => v = .pointer (some ⟨W.heap.size, 0, none⟩)
         | 8 => v = .pointer (some ⟨W.heap.size, 0, none⟩)
         | 9 => v = .pointer (some ⟨W.heap.size, 1, none⟩)
         | 10 => v = .int .i64 (p : Int)
         | 11 => v = .int .i64 ((p : Int) + 1)
         | 12 => u.heap[w.heap.size]? = some (.cells #[.int .i64 tk, .string ts, .int .i64 tn, .slice ta tl tc] 24 (0, 0))
         | 13 => NRow u (w.heap.size + 1) nms v
         | 14 => v = .int .i64 ((p : Int) + 1)
         | _ => v = .bool true) (by kernel_rfl) (by kernel_rfl) 52 rfl (by kernel_rfl) ?_ ?_ ?_
       · intro i j v S u u' hi hne hφ hl
         match i, hi, hφ with
         | 0, _, h => exact h
         | 1, _, ⟨g1, h1, h2, h3⟩ => exact ⟨g1, h1, (hl.2.block g1 (Array.getElem?_eq_some_iff.1 h2).1 (by have := HSZ.out; omega)).trans h2, h3⟩
         | 2, _, h => exact h
         | 3, _, h => exact h
         | 4, _, h => exact h
         | 5, _, h => exact h
         | 6, _, h => exact h.turn fun b hb => hl.2.block b (h.lt b hb).2 (by have := (h.lt b hb).1; omega)
         | 7, _, h => exact h
         | 8, _, h => exact h
         | 9, _, h => exact h
         | 10, _, h => exact h
         | 11, _, h => exact h
         | 12, _, h => exact ((hl.1 hne).block _ (Array.getElem?_eq_some_iff.1 h).1).trans h
         | 13, _, h => exact h.turn fun b hb => hl.2.block b (h.lt b hb).2 (by have := (h.lt b hb).1; omega)
         | 14, _, h => exact h
         | 15, _, h => exact h
         | k + 16, hh, _ => omega
       · intro i o hi2 ho a1 u hu hfr hdep
         obtain ⟨k4, g4, n4⟩ := HF.out u hu
         obtain ⟨x0, x1, x2, x3, _⟩ := blk4 k4
         obtain ⟨y0, y1, y2, y3, y4, _⟩ := b5f g4
         have u4 : a1.tmps.getD 4 undef = .pointer (some ⟨w.heap.size, 0, none⟩) := hfr 4 (by decide)
         have u9 : a1.tmps.getD 9 undef = .pointer (some ⟨W.heap.size, 0, none⟩) := hfr 9 (by decide)
         have u10 : a1.tmps.getD 10 undef = .pointer (some ⟨w2.heap.size, 0, none⟩) := hfr 10 (by decide)
         match i, hi2 with
         | 0, _ =>
           obtain rfl : _ = o := by simpa using ho
           refine FS.fact_valueS (w' := u) (v := .agg #[.int .i64 tk, .string ts, .int .i64 tn, .slice ta tl tc]) rfl ?_ (Below.refl _ _) ⟨[], rfl, by simp⟩
           simp only [execOp, Act.eval, u10]
           go_simp
         | 1, _ =>
           obtain rfl : _ = o := by simpa using ho
           refine FS.fact_valueS (w' := u.alloc (.cells #[] 9)) (v := .slice (some ⟨u.heap.size, 0, none⟩) 0 0) rfl ?_ ((Below.refl _ _).alloc (Nat.le_refl _) _) ⟨[], ⟨u.heap.size, rfl, heap_alloc_new _ _, hu.size⟩, by simp⟩
           simp only [execOp, Act.eval]
           go_simp
         | 2, _ =>
           obtain rfl : _ = o := by simpa using ho
           refine FS.fact_valueS (w' := u) (v := .pointer (some ⟨W.heap.size, 0, none⟩)) rfl ?_ (Below.refl _ _) ⟨[], rfl, by simp⟩
           simp only [execOp, Act.eval, u9]
           go_simp
         | 3, _ =>
           obtain rfl : _ = o := by simpa using ho
           obtain ⟨_, h0⟩ : ∃ _ : List Nat, a1.tmps.getD 42 undef = .pointer (some ⟨W.heap.size, 0, none⟩) := hdep 2 (by kernel_rfl)
           refine FS.fact_valueS (w' := u) (v := .pointer (some ⟨W.heap.size, 0, none⟩)) rfl ?_ (Below.refl _ _) ⟨[], rfl, by simp⟩
           simp only [execOp, Act.eval, h0]
           go_simp
         | 4, _ =>
           obtain rfl : _ = o := by simpa using ho
           obtain ⟨_, h0⟩ : ∃ _ : List Nat, a1.tmps.getD 43 undef = .pointer (some ⟨W.heap.size, 0, none⟩) := hdep 3 (by kernel_rfl)
           refine FS.fact_valueS (w' := u) (v := .pointer (some ⟨W.heap.size, 4, none⟩)) rfl ?_ (Below.refl _ _) ⟨[], rfl, by simp⟩
           simp only [execOp, Act.eval, h0]
           go_simp
         | 5, _ =>
           obtain rfl : _ = o := by simpa using ho
           obtain ⟨_, h0⟩ : ∃ _ : List Nat, a1.tmps.getD 44 undef = .pointer (some ⟨W.heap.size, 4, none⟩) := hdep 4 (by kernel_rfl)
           refine FS.fact_valueS (w' := u) (v := .slice aon nms.length capn) rfl ?_ (Below.refl _ _) ⟨[], rfl, by simp⟩
           simp only [execOp, Act.eval, h0]
           go_simp
         | 6, _ =>
           obtain rfl : _ = o := by simpa using ho
           obtain ⟨_, g1, h1, hg1, hge⟩ : ∃ _ : List Nat, ∃ g1, a1.tmps.getD 41 undef = .slice (some ⟨g1, 0, none⟩) 0 0 ∧ u.heap[g1]? = some (.cells #[] 9 (0, 0)) ∧ w4.heap.size ≤ g1 := hdep 1 (by kernel_rfl)
           obtain ⟨_, h5⟩ : ∃ _ : List Nat, a1.tmps.getD 45 undef = .slice aon nms.length capn := hdep 5 (by kernel_rfl)
           have hrun : ∃ v' u', (Builtin.append_ #[25, 25] 25 #[.slice (some ⟨g1, 0, none⟩) 0 0, .slice aon nms.length capn]).run Tryz.prog u = .ok v' u' ∧ NRow u' (w.heap.size + 1) nms v' ∧ Below u.heap.size u u' := by
             have hz := HSZ.out
             by_cases h0 : nms = []
             · subst h0
               have hr0 : u.ownsRow (w.heap.size + 1) 9 1 (.slice (some ⟨g1, 0, none⟩) 0 0) 0 [] := ⟨rfl, Or.inr ⟨g1, 0, #[], rfl, by omega, hg1, Nat.le_refl _, Nat.zero_le _, rfl, rfl⟩⟩
               rcases n4.2 with ⟨e, _⟩ | ⟨nb, cap', cur, e, hb1, hb2, hb3, hb4, hb5, hb6⟩
               · refine ⟨_, u, by rw [e]; exact run_append_owned_none u _ _ _ 9 i0 1 Tryz.underlying25 hi _ _ _ hr0, hr0, Below.refl _ _⟩
               · rw [e]
                 have hq := run_append_room_cells (P := Tryz.prog) u 25 25 9 i0 Tryz.underlying25 hi g1 0 0 0 ⟨nb, 0, none⟩ 0 cap' [] (by simp) (by simp) (by simp) (Nat.le_refl _) (by simp) (by simp)
                 exact ⟨_, _, hq, hr0, Below.refl _ _⟩
             · have hpos : 0 < nms.length := List.length_pos_iff.2 h0
               obtain ⟨ao', cap', e, _, hc⟩ := n4.cells
               obtain ⟨nb, rfl, _⟩ := hc 0 hpos
               obtain ⟨rfl, _, rfl⟩ := Value.slice.inj e
               obtain ⟨v', u', hr, hown, hgr⟩ := run_append_arg_grows (P := Tryz.prog) u 25 25 9 i0 (.string ⟨#[]⟩) 1 16 Tryz.underlying25 hi hz0 hz1 hz2 rfl (by decide) ⟨g1, 0, none⟩ 0 0 [] rfl (by simp) ⟨nb, 0, none⟩ nms.length capn (nms.map Value.string) (by simp) (fun j z hj => by
                 have hj2 : j < nms.length := by
                   have := (List.getElem?_eq_some_iff.1 hj).1
                   simpa using this
                 obtain ⟨nb2, e2, h2⟩ := hc j hj2
                 cases e2
                 simp only [List.getElem?_map, List.getElem?_eq_getElem hj2, Option.map_some, Option.some.injEq] at hj
                 subst hj
                 have ea : (⟨nb, 0, none⟩ : Addr).add j = ⟨nb, j, none⟩ := by cases j <;> simp [Addr.add]
                 rw [ea]; exact h2) (by omega) (by have := HLEN.out; unfold maxLen; omega) (by have := HLEN.out; omega)
               refine ⟨v', u', hr, nrow_base (B := u.heap.size) ⟨by simp, by simpa using hown.2⟩ (by have := hu.size; omega), ⟨hgr.os, hgr.tape, hgr.output, hgr.size, fun k hk => hgr.block k hk (by simp)⟩⟩
           obtain ⟨v', u', hr, hnv, hbv⟩ := hrun
           refine FS.fact_valueS (w' := u') (v := v') rfl ?_ hbv ⟨[], hnv, by simp⟩
           simp only [execOp, resolve, invoke, builtin, Act.eval, h1, h5, List.map_toArray, List.map_cons, List.map_nil, hr, Sem.run_bind, Sem.run_pure, Result.andThen_ok]
         | 7, _ =>
           obtain rfl : _ = o := by simpa using ho
           refine FS.fact_valueS (w' := u) (v := .pointer (some ⟨W.heap.size, 0, none⟩)) rfl ?_ (Below.refl _ _) ⟨[], rfl, by simp⟩
           simp only [execOp, Act.eval, u9]
           go_simp
         | 8, _ =>
           obtain rfl : _ = o := by simpa using ho
           obtain ⟨_, h0⟩ : ∃ _ : List Nat, a1.tmps.getD 47 undef = .pointer (some ⟨W.heap.size, 0, none⟩) := hdep 7 (by kernel_rfl)
           refine FS.fact_valueS (w' := u) (v := .pointer (some ⟨W.heap.size, 0, none⟩)) rfl ?_ (Below.refl _ _) ⟨[], rfl, by simp⟩
           simp only [execOp, Act.eval, h0]
           go_simp
         | 9, _ =>
           obtain rfl : _ = o := by simpa using ho
           obtain ⟨_, h0⟩ : ∃ _ : List Nat, a1.tmps.getD 48 undef = .pointer (some ⟨W.heap.size, 0, none⟩) := hdep 8 (by kernel_rfl)
           refine FS.fact_valueS (w' := u) (v := .pointer (some ⟨W.heap.size, 1, none⟩)) rfl ?_ (Below.refl _ _) ⟨[], rfl, by simp⟩
           simp only [execOp, Act.eval, h0]
           go_simp
         | 10, _ =>
           obtain rfl : _ = o := by simpa using ho
           obtain ⟨_, h0⟩ : ∃ _ : List Nat, a1.tmps.getD 49 undef = .pointer (some ⟨W.heap.size, 1, none⟩) := hdep 9 (by kernel_rfl)
           refine FS.fact_valueS (w' := u) (v := .int .i64 (p : Int)) rfl ?_ (Below.refl _ _) ⟨[], rfl, by simp⟩
           simp only [execOp, Act.eval, h0]
           go_simp
         | 11, _ =>
           obtain rfl : _ = o := by simpa using ho
           obtain ⟨_, h0⟩ : ∃ _ : List Nat, a1.tmps.getD 50 undef = .int .i64 (p : Int) := hdep 10 (by kernel_rfl)
           refine FS.fact_valueS (w' := u) (v := .int .i64 ((p : Int) + 1)) rfl ?_ (Below.refl _ _) ⟨[], rfl, by simp⟩
           have hwr : IntKind.i64.wrap ((p : Int) + 1) = (p : Int) + 1 := by rw [IntKind.wrap_i64]; omega
           simp only [execOp, Act.eval, h0]
           go_simp
         | 12, _ =>
           obtain rfl : _ = o := by simpa using ho
           obtain ⟨_, h0⟩ : ∃ _ : List Nat, a1.tmps.getD 40 undef = .agg #[.int .i64 tk, .string ts, .int .i64 tn, .slice ta tl tc] := hdep 0 (by kernel_rfl)
           obtain ⟨cs, kb, hcs⟩ := hu.form _ _ ⟨_, HKB4.out, rfl⟩
           obtain ⟨e0, e1, e2, e3, rfl⟩ := FS.four_of hcs
           obtain ⟨m0, m1, m2, m3, f0, f1, f2, f3⟩ := blk4 kb
           refine FS.fact_storeS (w' := (((u.setCell ⟨w.heap.size, 0, none⟩ (.int .i64 tk)).setCell ⟨w.heap.size, 1, none⟩ (.string ts)).setCell ⟨w.heap.size, 2, none⟩ (.int .i64 tn)).setCell ⟨w.heap.size, 3, none⟩ (.slice ta tl tc)) rfl ?_ ?_ ⟨[], blk4_set kb, by simp⟩
           · simp only [execOp, Act.eval, h0, u4]
             go_simp
           · exact ⟨rfl, rfl, rfl, by simp [World.setCell], fun k _ hk => blk4_other hk, fun T n ⟨cs2, h1, h2⟩ => by rw [kb] at h1; cases h1; exact ⟨_, blk4_set kb, h2⟩⟩
         | 13, _ =>
           obtain rfl : _ = o := by simpa using ho
           obtain ⟨_, h0⟩ : ∃ _ : List Nat, NRow u (w.heap.size + 1) nms (a1.tmps.getD 46 undef) := hdep 6 (by kernel_rfl)
           generalize hv : a1.tmps.getD 46 undef = v46 at h0
           refine FS.fact_valueS (w' := u) (v := v46) rfl ?_ (Below.refl _ _) ⟨[], h0, by simp⟩
           simp only [execOp, Act.eval, hv]
           go_simp
         | 14, _ =>
           obtain rfl : _ = o := by simpa using ho
           obtain ⟨_, h0⟩ : ∃ _ : List Nat, a1.tmps.getD 51 undef = .int .i64 ((p : Int) + 1) := hdep 11 (by kernel_rfl)
           refine FS.fact_valueS (w' := u) (v := .int .i64 ((p : Int) + 1)) rfl ?_ (Below.refl _ _) ⟨[], rfl, by simp⟩
           simp only [execOp, Act.eval, h0]
           go_simp
         | 15, _ =>
           obtain rfl : _ = o := by simpa using ho
           refine FS.fact_valueS (w' := u) (v := .bool true) rfl ?_ (Below.refl _ _) ⟨[], rfl, by simp⟩
           simp only [execOp, Act.eval]
           go_simp
       · intro vals S w5 hb5 hf _
         have v13 : NRow w5 (w.heap.size + 1) nms (vals 13) := (hf 13 (by omega)).1
         have v14 : vals 14 = .int .i64 ((p : Int) + 1) := (hf 14 (by omega)).1
         have v15 : vals 15 = .bool true := (hf 15 (by omega)).1
         have v12 : w5.heap[w.heap.size]? = some (.cells #[.int .i64 tk, .string ts, .int .i64 tn, .slice ta tl tc] 24 (0, 0)) := (hf 12 (by omega)).1
         have HN5 : Hid (NRow w5 (w.heap.size + 1) nms (vals 13)) := v13
         have HK5 : Hid (w5.heap[w.heap.size]? = some (.cells #[.int .i64 tk, .string ts, .int .i64 tn, .slice ta tl tc] 24 (0, 0))) := v12
         have HB5 : Hid (FS.But w.heap.size w4 w5) := hb5
         simp only [FS.putN, List.getElem?_toArray, List.getElem?_cons_zero, List.getElem?_cons_succ, Option.bind_some, List.drop_succ_cons, List.drop_zero, v14, v15]
         generalize vals 13 = nvf at *
         clear v13 v14 v15 v12 hb5 hf
         generalize vals 0 = m0
         generalize vals 1 = m1
         generalize vals 2 = m2
         generalize vals 3 = m3
         generalize vals 4 = m4
         generalize vals 5 = m5
         generalize vals 6 = m6
         generalize vals 7 = m7
         generalize vals 8 = m8
         generalize vals 9 = m9
         generalize vals 10 = m10
         generalize vals 11 = m11
         generalize vals 12 = m12
         simp only [Act.put, List.setIfInBounds_toArray, List.set_cons_succ, List.set_cons_zero]
         go_wp2
         refine bodyPost_ret_by (results_c3 rfl _ _ w.heap.size 24 _ (0, 0) _ rfl HK5.out Tryz.underlying24 rfl (by kernel_rfl)) rfl ?_
         have hz := HSZ.out
         have hsv := HSV.out
         refine ⟨_, nvf, F, by rw [HRR.out]; rfl, ?_, by rw [HRR.out]; exact nrow_base HN5.out (by omega), ?_⟩
         · rw [HRR.out]
           refine ⟨Own.keep _ _ _ HTV2.out.own fun f hf => ?_, HTV2.out.nd, fun f hf => ⟨by have := (HTV2.out.out f hf).1; omega, fun h => h⟩⟩
           have h1 := HTV2.out.lt f hf
           have h2 := (HTV2.out.out f hf).1
           rw [HB5.out.block f (Nat.lt_of_lt_of_le h1 B4.out.size) (by omega), B4.out.block f h1]
         · have h1 := HBB.out.trans (B4.out.mono HBB.out.size)
           exact ⟨HB5.out.os.trans h1.os, HB5.out.tape.trans h1.tape, HB5.out.output.trans h1.output, Nat.le_trans h1.size HB5.out.size, fun k hk => (HB5.out.block k (Nat.lt_of_lt_of_le hk h1.size) (by omega)).trans (h1.block k hk)⟩
 · have e1 : decide (0 ≤ (a : Int) ∧ (a : Int) ≤ (NL : Int) - 1) = false := decide_eq_false (by have := HNL.out; omega)
   rw [e1] at HII
   have HRN : Hid (rsR L a = ⟨false, noTm, [], Z⟩) := by show _ = _; rw [rsR_none (fun hh => absurd hh hlt), HZ.out]
   have hltw : w.heap.size < W.heap.size := by have := HSW.out; omega
   clear hlt e1 HLT
   go_enter Tryz.func19, Tryz.ntmps19
   go_upto_region 1 with (fail)
   rw [← HW.out]
   clear hW
   go_upto_region 3 with (first
     | (go_at_call 25; refine (Calls.mono HBH.out ?_); rintro e w1 ⟨rfl, hw⟩; rw [hw]; clear hw)
     | (go_at_call 26; refine (Calls.mono HII.out ?_); rintro e w1 ⟨rfl, hw⟩; rw [hw]; clear hw))
   obtain ⟨q0, q1, q2, q3, z0, z1, z2, z3⟩ := blk4 HKW.out
   go_wp2
   have hF := fin_false HBW.out HKW.out
   refine bodyPost_ret_by (results_c3 rfl _ _ w.heap.size 24 _ (0, 0) _ rfl hF.1 Tryz.underlying24 rfl (by kernel_rfl)) rfl ?_
   exact ⟨_, _, [], by rw [HRN.out]; rfl, by rw [HRN.out]; exact tok_zero _ _, by rw [HRN.out]; exact hF.2.1, hF.2.2⟩
end Go.Proofs.YtbkjcccbjnehbanGreatDoor

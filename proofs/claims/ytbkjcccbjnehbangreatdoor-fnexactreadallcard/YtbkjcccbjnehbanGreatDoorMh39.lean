import Derived.Test.YtbkjcccbjnehbanGreatDoorMh37
import Derived.Test.YtbkjcccbjnehbanGreatDoorMh38
import Derived.WalkSmall
namespace Go.Proofs.YtbkjcccbjnehbanGreatDoor
open Go.RowKit
def EndP (g m : Nat) (L : List Sg) (lv nv : Value) (w : World) (d : Nat) (R : Option (Tm × Int × St)) (e : Ending) (w' : World) : Prop := match R with
 | some y => ∃ v, e = .returned (.tuple #[v, .int .i64 y.2.1]) ∧ TmRI g m L lv nv w v w' (y.1, y.2.2) d
 | none => e = .panicked unreadC ∧ ∃ nv', FX (XI g m nv) (XI g m nv') w w'
def prefO (tm : Int → St → Option (Tm × St)) (most : Int) (s : ByteArray) (r : List Sg) (names : List ByteArray) : Option (Tm × Int × St) := match prefixP s with
 | some op => if op.prio ≤ most then (match tm op.right ⟨r, names⟩ with
   | none => none
   | some y => some (structTm s [y.1], op.prio, y.2)) else none
 | none => if (infixP s).isSome then none else some (atomTm s, 0, ⟨r, names⟩)
def PKI (g m : Nat) (L : List Sg) (lv nv : Value) (w : World) (d : Nat) (st : St) (P : (Nat → Prop) → World → Prop) (w' : World) : Prop :=
 ∃ nv', P (XI g m nv') w' ∧ IRd g m L lv nv' w' d st ∧ FX (XI g m nv) (XI g m nv') w w' ∧ ¬ XI g m nv' w.heap.size
theorem PKI.below {g m : Nat} {L : List Sg} {lv nv : Value} {w w1 w2 : World} {d : Nat} {st : St} {P P' : (Nat → Prop) → World → Prop} (h : PKI g m L lv nv w d st P w1) (hb : Below w1.heap.size w1 w2) (hP : ∀ X, FX X X w1 w2 → ¬ X w.heap.size → P X w1 → P' X w2) : PKI g m L lv nv w d st P' w2 := by
 obtain ⟨nv', h1, h2, h3, h4⟩ := h
 exact ⟨nv', hP _ (FX.of_below hb) h4 h1, h2.keep hb, h3.trans (FX.of_below hb), h4⟩
structure Set0 (B : Nat) (w w' : World) : Prop where
 os : w'.os = w.os
 tape : w'.tape = w.tape
 output : w'.output = w.output
 size : w'.heap.size = w.heap.size
 oth : ∀ k, k ≠ B → w'.heap[k]? = w.heap[k]?
theorem Set0.of4 (B : Nat) (w : World) (d0 d1 d2 d3 : Value) : Set0 B w ((((w.setCell ⟨B, 0, none⟩ d0).setCell ⟨B, 1, none⟩ d1).setCell ⟨B, 2, none⟩ d2).setCell ⟨B, 3, none⟩ d3) :=
 ⟨rfl, rfl, rfl, by simp [World.setCell], fun k hk => blk4_other hk⟩
theorem PKI.set0 {g m : Nat} {L : List Sg} {lv nv : Value} {w w1 w2 : World} {d : Nat} {st : St} {P P' : (Nat → Prop) → World → Prop} (h : PKI g m L lv nv w d st P w1) (hg : g < w.heap.size) (hb : Set0 w.heap.size w1 w2) (hP : ∀ X, (∀ k, w.heap.size + 1 ≤ k → w2.heap[k]? = w1.heap[k]?) → P X w1 → P' X w2) : PKI g m L lv nv w d st P' w2 := by
 obtain ⟨nv', h1, h2, h3, h4⟩ := h
 refine ⟨nv', hP _ (fun k hk => hb.oth k (by omega)) h1, h2.turn fun k hk => hb.oth k (fun e => ?_), ⟨hb.os.trans h3.os, hb.tape.trans h3.tape, hb.output.trans h3.output, by rw [hb.size]; exact h3.size, fun k hk hx => (hb.oth k (by omega)).trans (h3.block k hk hx), h3.new⟩, h4⟩
 rcases hk with hk | hk
 · omega
 · rw [e] at hk; exact h4 hk
def RelM (g m : Nat) (nv : Value) (R0 ir is j : Nat) (w w' : World) : Prop := (j = ir → ∃ nv', FX (XI g m nv) (XI g m nv') w w') ∧ (j = is → Set0 R0 w w') ∧ (j ≠ ir → j ≠ is → Below w.heap.size w w')
theorem RelM.of_below {g m : Nat} {nv : Value} {R0 ir is j : Nat} {w w' : World} (h : Below w.heap.size w w') (h1 : j ≠ ir) (h2 : j ≠ is) : RelM g m nv R0 ir is j w w' := ⟨fun e => absurd e h1, fun e => absurd e h2, fun _ _ => h⟩
set_option maxHeartbeats 8000000 in
set_option maxRecDepth 20000 in
theorem i_prefixOrAtom (f g m : Nat) (L : List Sg) (lv nv : Value) (d : Nat) (most : Int) (x : Sg) (r : List Sg) (names : List ByteArray) (s : ByteArray) (w : World) (hL : L.length ≤ 3000) (hs : s.size ≤ 3000) (hf : d + f = 130) (hT : TermCI f g m L lv) (h : IRd g m L lv nv w d ⟨x :: r, names⟩) :
   Calls Tryz.prog 94 #[.pointer (some ⟨g, 0, none⟩), .string s, .int .i64 most] w fun e w' => EndP g m L lv nv w d (prefO (termO false f) most s r names) e w' := by
 obtain ⟨W, hW⟩ : ∃ W, W = w.alloc (.cells #[.int .i64 0, .string ⟨#[]⟩, .int .i64 0, .slice none 0 0] 24) := ⟨_, rfl⟩
 have bW : Below w.heap.size w W := by rw [hW]; exact (Below.refl _ _).alloc (Nat.le_refl _) _
 have sW : W.heap.size = w.heap.size + 1 := by rw [hW]; simp
 have kW : W.heap[w.heap.size]? = some (.cells #[.int .i64 0, .string ⟨#[]⟩, .int .i64 0, .slice none 0 0] 24 (0, 0)) := by rw [hW]; exact heap_alloc_new _ _
 have HH : Hid (IRd g m L lv nv w d ⟨x :: r, names⟩) := h
 have hlt := h.lt
 obtain ⟨p, c1, hp, f1, hI⟩ := (h.keep bW).step
 have hwr : IntKind.i64.wrap ((p : Int) + 1) = ((p + 1 : Nat) : Int) := by rw [IntKind.wrap_i64]; omega
 obtain ⟨V, hV⟩ : ∃ V, V = W.setCell ⟨g, 1, none⟩ (.int .i64 ((p + 1 : Nat) : Int)) := ⟨_, rfl⟩
 rw [← hV] at hI
 have hc : ((p + 1 : Nat) : Int) = (p : Int) + 1 := by omega
 rw [hc] at hwr hV
 clear hc
 have HFV : Hid (FX (XI g m nv) (XI g m nv) w V) := by rw [hV]; exact (FX.of_below bW).set (Or.inl (Or.inl rfl)) _
 have HKV : Hid (V.heap[w.heap.size]? = some (.cells #[.int .i64 0, .string ⟨#[]⟩, .int .i64 0, .slice none 0 0] 24 (0, 0))) := by
   show _ = _
   rw [hV, blk_other _ (by omega)]; exact kW
 have HSV : Hid (V.heap.size = w.heap.size + 1) := by show _ = _; rw [hV, ← sW]; simp [World.setCell]
 have HIV : Hid (IRd g m L lv nv V d ⟨r, names⟩) := hI
 have HL : Hid (L.length ≤ 3000) := hL
 have HTC : Hid (TermCI f g m L lv) := hT
 have HF : Hid (d + f = 130) := hf
 have HSZ : Hid (s.size ≤ 3000) := hs
 have HPO : Hid _ := i_prefix s V (by omega)
 have HIN : Hid (∀ w1, Calls Tryz.prog 95 #[.string s] w1 fun e w' => e = .returned (.tuple #[opV (infixP s), .bool (infixP s).isSome]) ∧ Below w1.heap.size w1 w') := fun w1 => i_infix s w1 (by omega)
 clear hI hT hlt h bW sW kW hf hL hs
 obtain ⟨N, hN⟩ : ∃ N, N = prefO (termO false f) most s r names := ⟨_, rfl⟩
 rw [← hN]
 unfold prefO at hN
 go_enter Tryz.func94, Tryz.ntmps94
 go_upto_region 1 with fail
 rw [← hW]
 clear hW
 go_upto_region 2 with fail
 rw [← hV]
 clear hV hwr c1 f1 hp
 obtain ⟨oa, ob, oc, od, ho, hov⟩ := opV_open (infixP s)
 rw [ho] at HIN
 clear ho hov
 cases hpf : prefixP s with
 | none =>
   rw [hpf] at HPO hN
   simp only [opV, Option.isSome_none] at HPO
   simp only at hN
   obtain ⟨ib, hib⟩ : ∃ ib, ib = (infixP s).isSome := ⟨_, rfl⟩
   rw [← hib] at HIN hN
   clear hpf hib
   cases ib with
   | true =>
     have HN : Hid (N = none) := hN
     clear hN
     go_wp2_with (first
       | (go_at_call 103; refine (Calls.mono HPO.out ?_); rintro e w1 ⟨rfl, hb⟩; have HB1 : Hid (Below V.heap.size V w1) := hb; clear hb)
       | (go_at_call 95; refine (Calls.mono (HIN.out _) ?_); rintro e w2 ⟨rfl, hb⟩; have HB2 : Hid (Below V.heap.size V w2) := (HB1.out.alloc HB1.out.size _).trans (hb.mono (by have := HB1.out.size; simp; omega)); clear hb))
     go_wp2
     rw [HN.out]
     exact ⟨rfl, rfl, nv, HFV.out.trans (FX.of_below (HB2.out.alloc HB2.out.size _))⟩
   | false =>
     have HN : Hid (N = some (atomTm s, 0, ⟨r, names⟩)) := hN
     have HAT : Hid (∀ w1, Calls Tryz.prog 89 #[.string s] w1 fun e w' => e = .returned (.agg #[.int .i64 2, .string s, .int .i64 0, .slice none 0 0]) ∧ Below w1.heap.size w1 w') := fun w1 => i_atomOf s w1 (by have := HSZ.out; omega)
     clear hN
     have HA : Hid (∀ w4, Below V.heap.size V w4 → ¬ XI g m nv w.heap.size ∧ w4.heap[w.heap.size]? = some (.cells #[.int .i64 0, .string ⟨#[]⟩, .int .i64 0, .slice none 0 0] 24 (0, 0))) := fun w4 hb => by
       have := fin_keep HH.out (by have := HSV.out; omega) (FX.of_below (X := XI g m nv) hb)
       exact ⟨this.1, this.2.trans HKV.out⟩
     go_wp2_with (first
       | (go_at_call 103; refine (Calls.mono HPO.out ?_); rintro e w1 ⟨rfl, hb⟩; have HB1 : Hid (Below V.heap.size V w1) := hb; clear hb)
       | (go_at_call 95; refine (Calls.mono (HIN.out _) ?_); rintro e w2 ⟨rfl, hb⟩; have HB2 : Hid (Below V.heap.size V w2) := (HB1.out.alloc HB1.out.size _).trans (hb.mono (by have := HB1.out.size; simp; omega)); clear hb)
       | (go_at_call 89; refine (Calls.mono (HAT.out _) ?_); rintro e w3 ⟨rfl, hb⟩; have HB3 : Hid (Below V.heap.size V w3) := (HB2.out.alloc HB2.out.size _).trans (hb.mono (by have := HB2.out.size; simp; omega)); obtain ⟨hn, hk⟩ := HA.out w3 HB3.out; obtain ⟨q0, q1, q2, q3, fz0, fz1, fz2, fz3⟩ := blk4 hk; have HKE : Hid _ := hk; have HNE : Hid (¬ XI g m nv w.heap.size) := hn; clear hb hn hk))
     refine bodyPost_ret_by (results_ct2 rfl _ _ w.heap.size 24 _ (0, 0) _ rfl (blk4_set HKE.out) Tryz.underlying24 rfl (by kernel_rfl)) rfl ?_
     rw [HN.out]
     exact ⟨_, rfl, TmRI.fin HH.out (HFV.out.trans (FX.of_below HB3.out)) HNE.out (TOk.leaf (by omega) (by omega) (by have := HSZ.out; unfold maxLen; omega)) (HIV.out.keep HB3.out) rfl⟩
 | some op =>
   obtain ⟨on, opr, ole, ori⟩ := op
   rw [hpf] at HPO hN
   simp only [opV, Option.isSome_some] at HPO
   simp only at hN
   by_cases hpm : opr ≤ most
   · rw [if_pos hpm] at hN
     have hdm : decide (opr ≤ most) = true := decide_eq_true hpm
     go_upto_region 4 with (go_at_call 103; refine (Calls.mono HPO.out ?_); rintro e w1 ⟨rfl, hb⟩; have HB1 : Hid (Below V.heap.size V w1) := hb; clear hb)
     obtain ⟨w2, hw2⟩ : ∃ w2, w2 = w1.alloc (.cells #[.string on, .int .i64 opr, .int .i64 ole, .int .i64 ori] 72) := ⟨_, rfl⟩
     rw [← hw2]
     have bw2 : Below w1.heap.size w1 w2 := by rw [hw2]; exact (Below.refl _ _).alloc (Nat.le_refl _) _
     have hO8 : w2.heap[w1.heap.size]? = some (.cells #[.string on, .int .i64 opr, .int .i64 ole, .int .i64 ori] 72 (0, 0)) := by rw [hw2]; exact heap_alloc_new _ _
     have hs8 : w.heap.size < w1.heap.size := by have := HSV.out; have := HB1.out.size; omega
     obtain ⟨O8, hO⟩ : ∃ O8, O8 = w1.heap.size := ⟨_, rfl⟩
     rw [← hO] at hO8 hs8 ⊢
     have HO8 : Hid (w2.heap[O8]? = some (.cells #[.string on, .int .i64 opr, .int .i64 ole, .int .i64 ori] 72 (0, 0)) ∧ w.heap.size < O8 ∧ O8 < w2.heap.size) := ⟨hO8, hs8, by rw [hw2, hO]; simp⟩
     have HB2 : Hid (Below V.heap.size V w2) := HB1.out.trans (bw2.mono HB1.out.size)
     have HI2 : Hid (IRd g m L lv nv w2 d ⟨r, names⟩) := HIV.out.keep HB2.out
     have HX2 : Hid (FX (XI g m nv) (XI g m nv) w w2) := HFV.out.trans (FX.of_below HB2.out)
     have hk0 := fin_keep HH.out (by have := HSV.out; omega) (FX.of_below (X := XI g m nv) HB2.out)
     have HR0 : Hid (¬ XI g m nv w.heap.size ∧ w2.heap[w.heap.size]? = some (.cells #[.int .i64 0, .string ⟨#[]⟩, .int .i64 0, .slice none 0 0] 24 (0, 0))) := ⟨hk0.1, hk0.2.trans HKV.out⟩
     have HNO : Hid (¬ XI g m nv O8) := fun hh => by have := HH.out.lt.2.2 _ hh; have := HO8.out.2.1; omega
     clear hw2 bw2 hO8 hs8 hO hk0 HPO HIN hdm hpm hpf
     obtain ⟨R, hR⟩ : ∃ R, R = termO false f ori ⟨r, names⟩ := ⟨_, rfl⟩
     rw [← hR] at hN
     have HTM : Hid (∀ w3, IRd g m L lv nv w3 d ⟨r, names⟩ → Calls Tryz.prog 56 #[.pointer (some ⟨g, 0, none⟩), .int .i64 ori] w3 fun e w' => EndI g m L lv nv w3 d R e w') := fun w3 h3 => by have := HTC.out d ori ⟨r, names⟩ nv w3 HF.out h3; rw [← hR] at this; exact this
     have HSO : Hid (∀ b w3, Calls Tryz.prog 75 #[.string s, .slice (some ⟨b, 0, none⟩) 1 1] w3 fun e w' => e = .returned (.agg #[.int .i64 4, .string s, .int .i64 0, .slice (some ⟨b, 0, none⟩) 1 1]) ∧ Below w3.heap.size w3 w') := fun b w3 => i_structOf s _ 1 1 w3 (by have := HSZ.out; omega)
     have HN : Hid (N = match (generalizing := false) R with | none => none | some y => some (structTm s [y.1], opr, y.2)) := hN
     clear hR hN
     refine FZ.wp_region_factsZ 11 (fun i v w' => match i with
       | 0 => v = .string s
       | 1 => v = .pointer (some ⟨g, 0, none⟩)
       | 2 => v = .pointer (some ⟨O8, 3, none⟩)
       | 3 => v = .int .i64 ori
       | 4 => ∃ y, R = some y ∧ PKI g m L lv nv w d y.2 (fun X w1 => ∃ F k1 s1 n1 ao1 ln1 cp1, v = .agg #[.int .i64 k1, .string s1, .int .i64 n1, .slice ao1 ln1 cp1] ∧ TOk 24 X (w.heap.size + 1) w1 y.1 v F) w'
       | 5 => ∃ y, R = some y ∧ PKI g m L lv nv w d y.2 (fun X w1 => ∃ F b, v = .slice (some ⟨b, 0, none⟩) 1 1 ∧ ROk 24 X (w.heap.size + 1) w1 [y.1] v F) w'
       | 6 => ∃ y, R = some y ∧ PKI g m L lv nv w d y.2 (fun X w1 => ∃ F b, v = .agg #[.int .i64 4, .string s, .int .i64 0, .slice (some ⟨b, 0, none⟩) 1 1] ∧ TOk 24 X (w.heap.size + 1) w1 (structTm s [y.1]) v F) w'
       | 7 => v = .pointer (some ⟨O8, 1, none⟩)
       | 8 => v = .int .i64 opr
       | 9 => ∃ y, R = some y ∧ PKI g m L lv nv w d y.2 (fun X w1 => ∃ F b, TOk 24 X (w.heap.size + 1) w1 (structTm s [y.1]) (.agg #[.int .i64 4, .string s, .int .i64 0, .slice (some ⟨b, 0, none⟩) 1 1]) F ∧ w1.heap[w.heap.size]? = some (.cells #[.int .i64 4, .string s, .int .i64 0, .slice (some ⟨b, 0, none⟩) 1 1] 24 (0, 0))) w'
       | _ => v = .int .i64 opr)
       (fun i w' => w2.heap.size ≤ w'.heap.size ∧ w'.heap[O8]? = some (.cells #[.string on, .int .i64 opr, .int .i64 ole, .int .i64 ori] 72 (0, 0)) ∧ (i = 9 → w'.heap[w.heap.size]? = some (.cells #[.int .i64 0, .string ⟨#[]⟩, .int .i64 0, .slice none 0 0] 24 (0, 0))) ∧ (i = 4 → IRd g m L lv nv w' d ⟨r, names⟩ ∧ FX (XI g m nv) (XI g m nv) w w'))
       (RelM g m nv w.heap.size 4 9) (by kernel_rfl) (by kernel_rfl) 53 rfl (by kernel_rfl) ?_ ?_ ?_ ?_
     · intro i _
       have hd := (Below.refl w2.heap.size w2).drew
       exact ⟨hd.size, (hd.block _ HO8.out.2.2).trans HO8.out.1, fun _ => (hd.block _ (by have := HO8.out.2; omega)).trans HR0.out.2, fun _ => ⟨HI2.out.keep hd, HX2.out.trans (FX.of_below hd)⟩⟩
     · intro i j u u' hi hj hne hrel
       have hz := HO8.out.2
       have hgw := HH.out.lt.1
       refine ⟨fun ⟨Lf, hcl, hLi, hLj⟩ => fun ⟨p1, p2, p3, p4⟩ => ?_, fun ⟨Lf, hcl, hLi, hLj⟩ v => ?_⟩
       · have hlt8 : O8 < u.heap.size := (Array.getElem?_eq_some_iff.1 p2).1
         by_cases e4 : j = 4
         · obtain ⟨nv', hx⟩ := hrel.1 e4
           refine ⟨Nat.le_trans p1 hx.size, (hx.block _ hlt8 HNO.out).trans p2, fun e => (hx.block _ (by omega) HR0.out.1).trans (p3 e), fun e => absurd (e4.trans e.symm) hne⟩
         · by_cases e9 : j = 9
           · subst e9
             have hs0 := hrel.2.1 rfl
             refine ⟨by rw [hs0.size]; exact p1, (hs0.oth _ (by omega)).trans p2, fun e => absurd e.symm hne, fun e => ?_⟩
             subst e
             have := hcl 9 _ rfl hLj 4 (by kernel_rfl)
             rw [hLi] at this; cases this
           · have hb := hrel.2.2 e4 e9
             exact ⟨Nat.le_trans p1 hb.size, (hb.block _ hlt8).trans p2, fun e => (hb.block _ (by omega)).trans (p3 e), fun e => ⟨(p4 e).1.keep hb, (p4 e).2.trans (FX.of_below hb)⟩⟩
       · by_cases e4 : j = 4
         · subst e4
           have c5 : Lf 5 = true → False := fun h5 => by have := hcl 5 _ rfl h5 4 (by kernel_rfl); rw [hLj] at this; cases this
           match i, hi with
           | 0, _ => exact fun h => h
           | 1, _ => exact fun h => h
           | 2, _ => exact fun h => h
           | 3, _ => exact fun h => h
           | 4, _ => exact absurd rfl hne
           | 5, _ => exact absurd hLi c5
           | 6, _ => exact absurd (hcl 6 _ rfl hLi 5 (by kernel_rfl)) c5
           | 7, _ => exact fun h => h
           | 8, _ => exact fun h => h
           | 9, _ => exact absurd (hcl 9 _ rfl hLi 5 (by kernel_rfl)) c5
           | 10, _ => exact fun h => h
         · by_cases e9 : j = 9
           · have hs0 := hrel.2.1 e9
             match i, hi with
             | 0, _ => exact fun h => h
             | 1, _ => exact fun h => h
             | 2, _ => exact fun h => h
             | 3, _ => exact fun h => h
             | 4, _ => exact fun ⟨y, h1, h2⟩ => ⟨y, h1, h2.set0 hgw hs0 fun X ht ⟨F, k1, s1, n1, ao1, ln1, cp1, h3, h4⟩ => ⟨F, k1, s1, n1, ao1, ln1, cp1, h3, h4.turn fun k hk _ => ht k hk⟩⟩
             | 5, _ => exact fun ⟨y, h1, h2⟩ => ⟨y, h1, h2.set0 hgw hs0 fun X ht ⟨F, b, h3, h4⟩ => ⟨F, b, h3, h4.turn fun k hk _ => ht k hk⟩⟩
             | 6, _ => exact fun ⟨y, h1, h2⟩ => ⟨y, h1, h2.set0 hgw hs0 fun X ht ⟨F, b, h3, h4⟩ => ⟨F, b, h3, h4.turn fun k hk _ => ht k hk⟩⟩
             | 7, _ => exact fun h => h
             | 8, _ => exact fun h => h
             | 9, _ => exact absurd e9 hne
             | 10, _ => exact fun h => h
           · have hb := hrel.2.2 e4 e9
             match i, hi with
             | 0, _ => exact fun h => h
             | 1, _ => exact fun h => h
             | 2, _ => exact fun h => h
             | 3, _ => exact fun h => h
             | 4, _ => exact fun ⟨y, h1, h2⟩ => ⟨y, h1, h2.below hb fun X hx _ ⟨F, k1, s1, n1, ao1, ln1, cp1, h3, h4⟩ => ⟨F, k1, s1, n1, ao1, ln1, cp1, h3, h4.step hx⟩⟩
             | 5, _ => exact fun ⟨y, h1, h2⟩ => ⟨y, h1, h2.below hb fun X hx _ ⟨F, b, h3, h4⟩ => ⟨F, b, h3, h4.step hx⟩⟩
             | 6, _ => exact fun ⟨y, h1, h2⟩ => ⟨y, h1, h2.below hb fun X hx _ ⟨F, b, h3, h4⟩ => ⟨F, b, h3, h4.step hx⟩⟩
             | 7, _ => exact fun h => h
             | 8, _ => exact fun h => h
             | 9, _ => exact fun ⟨y, h1, h2⟩ => ⟨y, h1, h2.below hb fun X hx hn ⟨F, b, h3, h4⟩ => ⟨F, b, h3.step hx, (hx.block _ (Array.getElem?_eq_some_iff.1 h4).1 hn).trans h4⟩⟩
             | 10, _ => exact fun h => h
     · intro i o hi ho a u ⟨p1, p2, p3, p4⟩ hfr hdep hdf
       have u0 : a.tmps.getD 0 undef = .pointer (some ⟨g, 0, none⟩) := hfr 0 (by decide)
       have u1 : a.tmps.getD 1 undef = .string s := hfr 1 (by decide)
       have u6 : a.tmps.getD 6 undef = .pointer (some ⟨w.heap.size, 0, none⟩) := hfr 6 (by decide)
       have u8 : a.tmps.getD 8 undef = .pointer (some ⟨O8, 0, none⟩) := hfr 8 (by decide)
       obtain ⟨x0, x1, x2, x3, _⟩ := blk4 p2
       have hz := HO8.out.2
       have hgw := HH.out.lt.1
       match i, hi with
       | 0, _ =>
         obtain rfl : _ = o := by simpa using ho
         refine FZ.fact_valueZ (w' := u) (v := .string s) rfl ?_ (RelM.of_below (Below.refl _ _) (by decide) (by decide)) rfl
         simp only [execOp, Act.eval, u1]
         go_simp
       | 1, _ =>
         obtain rfl : _ = o := by simpa using ho
         refine FZ.fact_valueZ (w' := u) (v := .pointer (some ⟨g, 0, none⟩)) rfl ?_ (RelM.of_below (Below.refl _ _) (by decide) (by decide)) rfl
         simp only [execOp, Act.eval, u0]
         go_simp
       | 2, _ =>
         obtain rfl : _ = o := by simpa using ho
         refine FZ.fact_valueZ (w' := u) (v := .pointer (some ⟨O8, 3, none⟩)) rfl ?_ (RelM.of_below (Below.refl _ _) (by decide) (by decide)) rfl
         simp only [execOp, Act.eval, u8]
         go_simp
       | 3, _ =>
         obtain rfl : _ = o := by simpa using ho
         have h0 : a.tmps.getD 33 undef = .pointer (some ⟨O8, 3, none⟩) := hdep 2 (by kernel_rfl)
         refine FZ.fact_valueZ (w' := u) (v := .int .i64 ori) rfl ?_ (RelM.of_below (Below.refl _ _) (by decide) (by decide)) rfl
         simp only [execOp, Act.eval, h0]
         go_simp
       | 4, _ =>
         obtain rfl : _ = o := by simpa using ho
         have h0 : a.tmps.getD 32 undef = .pointer (some ⟨g, 0, none⟩) := hdep 1 (by kernel_rfl)
         have h1 : a.tmps.getD 34 undef = .int .i64 ori := hdep 3 (by kernel_rfl)
         obtain ⟨q1, q2⟩ := p4 rfl
         refine FZ.fact_callZ rfl rfl Tryz.func56 (by kernel_rfl) (by kernel_rfl) (args := #[.pointer (some ⟨g, 0, none⟩), .int .i64 ori]) (by simp [Act.eval, h0, h1]) ?_
         refine Calls.mono (HTM.out u q1) ?_
         intro e u' he
         cases hR : R with
         | none =>
           rw [hR] at he
           obtain ⟨rfl, nv', hx⟩ := he
           refine Or.inr ⟨_, rfl, ?_⟩
           have hN := HN.out
           rw [hR] at hN
           refine ⟨hdf, ?_⟩
           rw [hN]
           exact ⟨rfl, nv', q2.trans hx⟩
         | some y =>
           rw [hR] at he
           obtain ⟨v, rfl, F, nv', ht, hi', hx⟩ := he
           refine Or.inl ⟨v, rfl, ⟨fun _ => ⟨nv', hx⟩, fun e => absurd e (by decide), fun e => absurd rfl e⟩, y, rfl, nv', ?_, hi', q2.trans hx, fun hh => ?_⟩
           · obtain ⟨k1, s1, n1, ao1, ln1, cp1, hv⟩ := ht.form
             exact ⟨F, k1, s1, n1, ao1, ln1, cp1, hv, ht.lo_le (by omega)⟩
           · exact (hx.new _ hh).elim HR0.out.1 (fun h9 => by omega)
       | 5, _ =>
         obtain rfl : _ = o := by simpa using ho
         obtain ⟨y, hy, nv', ⟨F, k1, s1, n1, ao1, ln1, cp1, hv, ht⟩, q2, q3, q4⟩ := hdep 4 (by kernel_rfl)
         have hv' : a.tmps.getD 35 undef = .agg #[.int .i64 k1, .string s1, .int .i64 n1, .slice ao1 ln1 cp1] := hv
         rw [hv] at ht
         have bA : Below u.heap.size u (u.alloc (.cells #[.int .i64 k1, .string s1, .int .i64 n1, .slice ao1 ln1 cp1] 24)) := (Below.refl _ _).alloc (Nat.le_refl _) _
         refine FZ.fact_valueZ (w' := u.alloc (.cells #[.int .i64 k1, .string s1, .int .i64 n1, .slice ao1 ln1 cp1] 24)) (v := .slice (some ⟨u.heap.size, 0, none⟩) 1 1) rfl ?_ (RelM.of_below bA (by decide) (by decide)) ⟨y, hy, nv', ⟨_, u.heap.size, rfl, ROk.one ht (by omega) (XI_new q2)⟩, q2.keep bA, q3.trans (FX.of_below bA), q4⟩
         have e9 : (#[((0 : Nat), Operand.tmp 35)].map fun x => (x.1, a.eval x.2)) = #[(0, .agg #[.int .i64 k1, .string s1, .int .i64 n1, .slice ao1 ln1 cp1])] := by simp [Act.eval]; simpa using hv'
         clear hdep hfr ho
         simp only [execOp, e9]
         go_simp
       | 6, _ =>
         obtain rfl : _ = o := by simpa using ho
         have h0 : a.tmps.getD 31 undef = .string s := hdep 0 (by kernel_rfl)
         obtain ⟨y, hy, hpk⟩ := hdep 5 (by kernel_rfl)
         obtain ⟨nv', ⟨F, b, hv, ht⟩, q2, q3, q4⟩ := hpk
         have hv' : a.tmps.getD 36 undef = .slice (some ⟨b, 0, none⟩) 1 1 := hv
         rw [hv] at ht
         refine FZ.fact_callZ rfl rfl Tryz.func75 (by kernel_rfl) (by kernel_rfl) (args := #[.string s, .slice (some ⟨b, 0, none⟩) 1 1]) (by simp [Act.eval, h0, hv']) ?_
         refine Calls.mono (HSO.out b u) ?_
         rintro e u' ⟨rfl, hb⟩
         exact Or.inl ⟨_, rfl, RelM.of_below hb (by decide) (by decide), y, hy, nv', ⟨F, b, rfl, (ht.step (FX.of_below hb)).tm (by have := HSZ.out; unfold maxLen; omega)⟩, q2.keep hb, q3.trans (FX.of_below hb), q4⟩
       | 7, _ =>
         obtain rfl : _ = o := by simpa using ho
         refine FZ.fact_valueZ (w' := u) (v := .pointer (some ⟨O8, 1, none⟩)) rfl ?_ (RelM.of_below (Below.refl _ _) (by decide) (by decide)) rfl
         simp only [execOp, Act.eval, u8]
         go_simp
       | 8, _ =>
         obtain rfl : _ = o := by simpa using ho
         have h0 : a.tmps.getD 38 undef = .pointer (some ⟨O8, 1, none⟩) := hdep 7 (by kernel_rfl)
         refine FZ.fact_valueZ (w' := u) (v := .int .i64 opr) rfl ?_ (RelM.of_below (Below.refl _ _) (by decide) (by decide)) rfl
         simp only [execOp, Act.eval, h0]
         go_simp
       | 9, _ =>
         obtain rfl : _ = o := by simpa using ho
         obtain ⟨y, hy, hpk⟩ := hdep 6 (by kernel_rfl)
         have hb0 : ∃ b, a.tmps.getD 37 undef = .agg #[.int .i64 4, .string s, .int .i64 0, .slice (some ⟨b, 0, none⟩) 1 1] := by obtain ⟨_, ⟨_, b, hv, _⟩, _⟩ := hpk; exact ⟨b, hv⟩
         obtain ⟨b, hv'⟩ := hb0
         have kb := p3 rfl
         obtain ⟨m0, m1, m2, m3, f0, f1, f2, f3⟩ := blk4 kb
         have hS := Set0.of4 w.heap.size u (.int .i64 4) (.string s) (.int .i64 0) (.slice (some ⟨b, 0, none⟩) 1 1)
         refine FZ.fact_storeZ (w' := (((u.setCell ⟨w.heap.size, 0, none⟩ (.int .i64 4)).setCell ⟨w.heap.size, 1, none⟩ (.string s)).setCell ⟨w.heap.size, 2, none⟩ (.int .i64 0)).setCell ⟨w.heap.size, 3, none⟩ (.slice (some ⟨b, 0, none⟩) 1 1)) rfl ?_ ⟨fun e => absurd e (by decide), fun _ => hS, fun _ e => absurd rfl e⟩ ⟨y, hy, hpk.set0 hgw hS fun X ht ⟨F, b', h3, h4⟩ => ⟨F, b, ?_, blk4_set kb⟩⟩
         · simp only [execOp, Act.eval, hv', u6]
           go_simp
         · rw [← hv']
           exact h4.turn fun k hk _ => ht k hk
       | 10, _ =>
         obtain rfl : _ = o := by simpa using ho
         have h0 : a.tmps.getD 39 undef = .int .i64 opr := hdep 8 (by kernel_rfl)
         refine FZ.fact_valueZ (w' := u) (v := .int .i64 opr) rfl ?_ (RelM.of_below (Below.refl _ _) (by decide) (by decide)) rfl
         simp only [execOp, Act.eval, h0]
         go_simp
     · intro vals w5 hf
       have v10 : vals 10 = .int .i64 opr := hf 10 (by omega)
       obtain ⟨y, hy, nv', ⟨F, b, ht, hk⟩, q2, q3, q4⟩ := hf 9 (by omega)
       have HT5 : Hid (TOk 24 (XI g m nv') (w.heap.size + 1) w5 (structTm s [y.1]) (.agg #[.int .i64 4, .string s, .int .i64 0, .slice (some ⟨b, 0, none⟩) 1 1]) F) := ht
       have HK5 : Hid (w5.heap[w.heap.size]? = some (.cells #[.int .i64 4, .string s, .int .i64 0, .slice (some ⟨b, 0, none⟩) 1 1] 24 (0, 0))) := hk
       have HI5 : Hid (IRd g m L lv nv' w5 d y.2) := q2
       have HX5 : Hid (FX (XI g m nv) (XI g m nv') w w5) := q3
       have HN5 : Hid (N = some (structTm s [y.1], opr, y.2)) := by have := HN.out; rw [hy] at this; exact this
       simp only [FZ.putN, List.getElem?_toArray, List.getElem?_cons_zero, List.getElem?_cons_succ, Option.bind_some, List.drop_succ_cons, List.drop_zero, v10]
       clear v10 ht hk q2 q3 q4 hf hy
       generalize vals 0 = m0
       generalize vals 1 = m1
       generalize vals 2 = m2
       generalize vals 3 = m3
       generalize vals 4 = m4
       generalize vals 5 = m5
       generalize vals 6 = m6
       generalize vals 7 = m7
       generalize vals 8 = m8
       generalize vals 9 = m9
       simp only [Act.put, List.setIfInBounds_toArray, List.set_cons_succ, List.set_cons_zero]
       go_wp2
       refine bodyPost_ret_by (results_ct2 rfl _ _ w.heap.size 24 _ (0, 0) _ rfl HK5.out Tryz.underlying24 rfl (by kernel_rfl)) rfl ?_
       rw [HN5.out]
       exact ⟨_, rfl, F, nv', HT5.out.lo_le (by omega), HI5.out, HX5.out⟩
   · rw [if_neg hpm] at hN
     have hdm : decide (opr ≤ most) = false := decide_eq_false hpm
     have HN : Hid (N = none) := hN
     obtain ⟨ib, hib⟩ : ∃ ib, ib = (infixP s).isSome := ⟨_, rfl⟩
     rw [← hib] at HIN
     clear hN hib hpf hpm
     cases ib
     all_goals
       go_wp2_with (first
         | (go_at_call 103; refine (Calls.mono HPO.out ?_); rintro e w1 ⟨rfl, hb⟩; have HB1 : Hid (Below V.heap.size V w1) := hb; clear hb)
         | (go_at_call 95; refine (Calls.mono (HIN.out _) ?_); rintro e w2 ⟨rfl, hb⟩; have HB2 : Hid (Below V.heap.size V w2) := (HB1.out.alloc HB1.out.size _).trans (hb.mono (by have := HB1.out.size; simp; omega)); clear hb))
       go_wp2
       rw [HN.out]
       exact ⟨rfl, rfl, nv, HFV.out.trans (FX.of_below (HB2.out.alloc HB2.out.size _))⟩
end Go.Proofs.YtbkjcccbjnehbanGreatDoor

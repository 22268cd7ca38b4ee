import Derived.Test.YtbkjcccbjnehbanGreatDoorMh42
namespace Go.Proofs.YtbkjcccbjnehbanGreatDoor
open Go.RowKit
theorem IRd.beg {g m : Nat} {L : List Sg} {lv nv : Value} {w : World} {d : Nat} {st : St} (d' : Nat) (h : IRd g m L lv nv w d st) :
   w.cell? ⟨g, 2, none⟩ = some (.int .i64 (d : Int)) ∧ w.frozen? ⟨g, 2, none⟩ = false ∧ IRd g m L lv nv (w.setCell ⟨g, 2, none⟩ (.int .i64 (d' : Int))) d' st := by
 obtain ⟨p, ms, h1, h2, h3, h4, h5, h6, h7, h8, h9, h10⟩ := h.ex
 obtain ⟨c0, c1, c2, c3, c4, cf⟩ := b5f h1
 refine ⟨c2, cf 2, ?_⟩
 have hs : (w.setCell ⟨g, 2, none⟩ (.int .i64 (d' : Int))).heap[g]? = some (.cells #[lv, .int .i64 (p : Int), .int .i64 (d' : Int), nv, .map (some m)] 63 (0, 0)) := by
   have := blk_set (i := 2) h1 (.int .i64 (d' : Int))
   simpa using this
 have ho : ∀ k, k ≠ g → (w.setCell ⟨g, 2, none⟩ (.int .i64 (d' : Int))).heap[k]? = w.heap[k]? := fun k hk => blk_other _ hk
 exact ⟨p, ms, hs, h2.turn fun b e => ho b (by have := (h3 b e).1; omega), h3, h4.turn fun b e => ho b (by have := (h4.lt b e).1; omega), h5.turn (ho m h7), h6, h7, h8, h9, h10⟩
theorem FX.orB {X Y : Nat → Prop} {B : Nat} {w w' : World} (h : FX X Y w w') : FX (fun k => X k ∨ k = B) (fun k => Y k ∨ k = B) w w' :=
 ⟨h.os, h.tape, h.output, h.size, fun k hk hx => h.block k hk (fun hh => hx (Or.inl hh)), fun k hk => hk.elim (fun h1 => (h.new k h1).elim (fun h2 => Or.inl (Or.inl h2)) Or.inr) (fun e => Or.inl (Or.inr e))⟩
set_option maxHeartbeats 4000000 in
theorem i_term_zero (g m : Nat) (L : List Sg) (lv : Value) : TermCI 0 g m L lv := by
 intro d most st nv w hd h
 obtain rfl : d = 130 := by omega
 have bW : Below w.heap.size w (w.alloc (.cells #[.int .i64 0, .string ⟨#[]⟩, .int .i64 0, .slice none 0 0] 24)) := (Below.refl _ _).alloc (Nat.le_refl _) _
 obtain ⟨c2, _, _⟩ := (h.keep bW).beg 0
 have HBW : Hid (Below w.heap.size w (w.alloc (.cells #[.int .i64 0, .string ⟨#[]⟩, .int .i64 0, .slice none 0 0] 24))) := bW
 clear h bW
 go_enter Tryz.func56, Tryz.ntmps56
 go_wp2
 exact ⟨rfl, rfl, nv, FX.of_below HBW.out⟩
def PKJ (g m : Nat) (L : List Sg) (lv nv : Value) (w : World) (d : Nat) (B5 B7 : Nat) (o7 : Obj) (st : St) (P : (Nat → Prop) → World → Prop) (w' : World) : Prop :=
 ∃ nv', P (XI g m nv') w' ∧ IRd g m L lv nv' w' d st ∧ FX (XI g m nv) (XI g m nv') w w' ∧ (¬ XI g m nv' w.heap.size ∧ ¬ XI g m nv' B5 ∧ ¬ XI g m nv' B7) ∧
   w'.heap[w.heap.size]? = some (.cells #[.int .i64 0, .string ⟨#[]⟩, .int .i64 0, .slice none 0 0] 24 (0, 0)) ∧ w'.heap[B7]? = some o7
theorem PKJ.below {g m : Nat} {L : List Sg} {lv nv : Value} {w w1 w2 : World} {d B5 B7 : Nat} {o7 : Obj} {st : St} {P P' : (Nat → Prop) → World → Prop} (h : PKJ g m L lv nv w d B5 B7 o7 st P w1) (hb : Below w1.heap.size w1 w2) (hP : ∀ X, FX X X w1 w2 → ¬ X B5 → P X w1 → P' X w2) : PKJ g m L lv nv w d B5 B7 o7 st P' w2 := by
 obtain ⟨nv', h1, h2, h3, h4, h5, h6⟩ := h
 exact ⟨nv', hP _ (FX.of_below hb) h4.2.1 h1, h2.keep hb, h3.trans (FX.of_below hb), h4, (hb.block _ (Array.getElem?_eq_some_iff.1 h5).1).trans h5, (hb.block _ (Array.getElem?_eq_some_iff.1 h6).1).trans h6⟩
theorem PKJ.set {g m : Nat} {L : List Sg} {lv nv : Value} {w w1 w2 : World} {d B5 B7 : Nat} {o7 : Obj} {st : St} {P P' : (Nat → Prop) → World → Prop} (h : PKJ g m L lv nv w d B5 B7 o7 st P w1) (hg : g < w.heap.size) (h5 : w.heap.size < B5) (h57 : B7 ≠ B5) (hb : Set0 B5 w1 w2) (hP : ∀ X, (∀ k, k ≠ B5 → w2.heap[k]? = w1.heap[k]?) → P X w1 → P' X w2) : PKJ g m L lv nv w d B5 B7 o7 st P' w2 := by
 obtain ⟨nv', h1, h2, h3, h4, k5, k6⟩ := h
 refine ⟨nv', hP _ (fun k hk => hb.oth k hk) h1, h2.turn fun k hk => hb.oth k (fun e => ?_), ⟨hb.os.trans h3.os, hb.tape.trans h3.tape, hb.output.trans h3.output, by rw [hb.size]; exact h3.size, fun k hk hx => (hb.oth k (by omega)).trans (h3.block k hk hx), h3.new⟩, h4, (hb.oth _ (by omega)).trans k5, (hb.oth _ h57).trans k6⟩
 rcases hk with hk | hk
 · omega
 · rw [e] at hk; exact h4.2.1 hk
theorem infixO_name {rest : List Sg} {op : OpP} (h : infixO rest = some op) (hs : ∀ x ∈ rest, x.text.size ≤ 3000) : op.name.size ≤ 3000 := by
 have key : ∀ s : ByteArray, infixP s = some op → op.name.size ≤ 3000 := fun s hs => by
   unfold infixP at hs
   split at hs
   all_goals first | cases hs | skip
   all_goals
     rename_i hh
     have e : s.size = s.data.toList.length := rfl
     show s.size ≤ 3000
     rw [e, hh]
     decide
 unfold infixO at h
 cases rest with
 | nil => cases h
 | cons x r =>
   simp only at h
   split at h
   · exact key _ h
   · split at h
     · exact key _ h
     · cases h
set_option maxHeartbeats 16000000 in
set_option maxRecDepth 20000 in
theorem i_term_succ (f g m : Nat) (L : List Sg) (lv : Value) (hL : L.length ≤ 3000) (hO : ∀ x ∈ L, SOk x) (hT : TermCI f g m L lv) : TermCI (f + 1) g m L lv := by
 intro d most st nv w hd h
 have hsh := termO_short false f
 obtain ⟨T, hTd⟩ : ∃ T, T = termO false (f + 1) most st := ⟨_, rfl⟩
 rw [← hTd]
 have hTd2 : T = match primO false (termO false f) most st with | none => none | some y => infO (termO false f) most y.1 y.2.1 y.2.2 := by
   rw [hTd]
   show (match primO false (termO false f) most st with | none => none | some (t, prio, s1) => infO (termO false f) most t prio s1) = _
   cases primO false (termO false f) most st <;> rfl
 obtain ⟨W, hW⟩ : ∃ W, W = w.alloc (.cells #[.int .i64 0, .string ⟨#[]⟩, .int .i64 0, .slice none 0 0] 24) := ⟨_, rfl⟩
 have bW : Below w.heap.size w W := by rw [hW]; exact (Below.refl _ _).alloc (Nat.le_refl _) _
 have sW : W.heap.size = w.heap.size + 1 := by rw [hW]; simp
 have kW : W.heap[w.heap.size]? = some (.cells #[.int .i64 0, .string ⟨#[]⟩, .int .i64 0, .slice none 0 0] 24 (0, 0)) := by rw [hW]; exact heap_alloc_new _ _
 have HH : Hid (IRd g m L lv nv w d st) := h
 obtain ⟨c2, f2, hI⟩ := (h.keep bW).beg (d + 1)
 have hwr : IntKind.i64.wrap ((d : Int) + 1) = ((d + 1 : Nat) : Int) := by rw [IntKind.wrap_i64]; omega
 obtain ⟨V, hV⟩ : ∃ V, V = W.setCell ⟨g, 2, none⟩ (.int .i64 ((d + 1 : Nat) : Int)) := ⟨_, rfl⟩
 rw [← hV] at hI
 have hc : ((d + 1 : Nat) : Int) = (d : Int) + 1 := by omega
 rw [hc] at hwr hV
 clear hc
 have hgw := h.lt.1
 have HFV : Hid (FX (XI g m nv) (XI g m nv) w V) := by rw [hV]; exact (FX.of_below bW).set (Or.inl (Or.inl rfl)) _
 have HKV : Hid (V.heap[w.heap.size]? = some (.cells #[.int .i64 0, .string ⟨#[]⟩, .int .i64 0, .slice none 0 0] 24 (0, 0))) := by
   show _ = _
   rw [hV, blk_other _ (by omega)]; exact kW
 have HSV : Hid (V.heap.size = w.heap.size + 1) := by show _ = _; rw [hV, ← sW]; simp [World.setCell]
 have HIV : Hid (IRd g m L lv nv V (d + 1) st) := hI
 have HL : Hid (L.length ≤ 3000) := hL
 have HO : Hid (∀ x ∈ L, SOk x) := hO
 have HTC : Hid (TermCI f g m L lv) := hT
 have HF : Hid (d + 1 + f = 130) := (by show _ = _; omega)
 have HP := i_primary f g m L lv nv (d + 1) most st V hL hO (by omega) hT hI
 have hd130 : ((d : Int) == 130) = false := beq_false_of_ne (by omega)
 have HSH : Hid (Short (termO false f)) := hsh
 clear hI hT h bW kW sW hL hO hd hgw hsh hTd
 go_enter Tryz.func56, Tryz.ntmps56
 go_upto_region 1 with fail
 rw [← hW]
 clear hW
 go_upto_region 3 with fail
 go_upto_region 4 with fail
 rw [← hV]
 clear hV hwr c2 f2 hd130
 cases hp : primO false (termO false f) most st with
 | none =>
   rw [hp] at HP hTd2
   have HN : Hid (T = none) := hTd2
   replace HP : Hid _ := HP
   clear hp hTd2
   go_wp2_with (go_at_call 73; refine (Calls.mono HP.out ?_); rintro e w1 ⟨rfl, nv1, hx⟩; have HX1 : Hid (FX (XI g m nv) (XI g m nv1) V w1) := hx; clear hx)
   rw [HN.out]
   exact ⟨rfl, rfl, nv1, HFV.out.trans HX1.out⟩
 | some y =>
   obtain ⟨t0, pr0, s0⟩ := y
   rw [hp] at HP hTd2
   have HT0 : Hid (infO (termO false f) most t0 pr0 s0 = T) := hTd2.symm
   replace HP : Hid _ := HP
   clear hp hTd2
   go_upto_region 5 with (go_at_call 73; refine (Calls.mono HP.out ?_); rintro e w1 ⟨v, rfl, F0, nv1, ht, hi, hx⟩; have HX1 : Hid (FX (XI g m nv) (XI g m nv1) V w1) := hx; have HI1 : Hid (IRd g m L lv nv1 w1 (d + 1) s0) := hi; obtain ⟨k1, s1, n1, ao1, ln1, cp1, rfl⟩ := ht.form; have HTK1 : Hid (TOk 24 (XI g m nv1) V.heap.size w1 t0 (.agg #[.int .i64 k1, .string s1, .int .i64 n1, .slice ao1 ln1 cp1]) F0) := ht; clear ht hi hx)
   obtain ⟨w2, hw2⟩ : ∃ w2, w2 = w1.alloc (.cells #[.int .i64 k1, .string s1, .int .i64 n1, .slice ao1 ln1 cp1] 24) := ⟨_, rfl⟩
   rw [← hw2]
   have bw2 : Below w1.heap.size w1 w2 := by rw [hw2]; exact (Below.refl _ _).alloc (Nat.le_refl _) _
   have kw2 : w2.heap[w1.heap.size]? = some (.cells #[.int .i64 k1, .string s1, .int .i64 n1, .slice ao1 ln1 cp1] 24 (0, 0)) := by rw [hw2]; exact heap_alloc_new _ _
   obtain ⟨B5, hB5⟩ : ∃ B5, B5 = w1.heap.size := ⟨_, rfl⟩
   rw [← hB5] at kw2 ⊢
   have HB5 : Hid (w.heap.size < B5 ∧ B5 < w2.heap.size) := ⟨by have := HSV.out; have := HX1.out.size; omega, by rw [hw2, hB5]; simp⟩
   have HI2 : Hid (IRd g m L lv nv1 w2 (d + 1) s0) := HI1.out.keep bw2
   have HN2 : Hid (¬ XI g m nv1 B5) := fun hh => by have := HI1.out.lt.2.2 _ hh; omega
   have hfk := fin_keep HH.out (by have := HSV.out; omega) (HX1.out.trans (FX.of_below bw2))
   have HR2 : Hid (¬ XI g m nv1 w.heap.size ∧ w2.heap[w.heap.size]? = some (.cells #[.int .i64 0, .string ⟨#[]⟩, .int .i64 0, .slice none 0 0] 24 (0, 0))) := ⟨hfk.1, hfk.2.trans HKV.out⟩
   have HX2 : Hid (FX (XI g m nv) (XI g m nv1) w w2) := (HFV.out.trans HX1.out).trans (FX.of_below bw2)
   have HK2 : Hid (w2.heap[B5]? = some (.cells #[.int .i64 k1, .string s1, .int .i64 n1, .slice ao1 ln1 cp1] 24 (0, 0))) := kw2
   have HTK2 : Hid (TOk 24 (fun k => XI g m nv1 k ∨ k = B5) (w.heap.size + 1) w2 t0 (.agg #[.int .i64 k1, .string s1, .int .i64 n1, .slice ao1 ln1 cp1]) F0) := by
     have h1 := (HTK1.out.step (FX.of_below bw2)).lo_le (lo' := w.heap.size + 1) (by have := HSV.out; omega)
     exact ⟨h1.own, h1.nd, fun k hk => ⟨(h1.out k hk).1, fun hh => hh.elim (h1.out k hk).2 (fun e => by have := HTK1.out.lt k hk; omega)⟩⟩
   have HIN := i_infixR g m L lv nv1 (d + 1) s0 most pr0 w2 HL.out (aheadP_ok 0 (fun x hx => HO.out x (HI1.out.sub x hx))).1 HI2.out
   replace HIN : Hid _ := HIN
   clear hw2 bw2 kw2 hB5 hfk HP
   go_upto_region 6 with (go_at_call 74; refine (Calls.mono HIN.out ?_); rintro e w3 ⟨oa, ob, oc, od, rfl, ho, hb⟩; have HOV : Hid (infOkP most pr0 (infixO s0.rest) = true → opV (infixO s0.rest) = .agg #[.string oa, .int .i64 ob, .int .i64 oc, .int .i64 od]) := ho; have HB3 : Hid (Below w2.heap.size w2 w3) := hb; clear ho hb)
   obtain ⟨w4, hw4⟩ : ∃ w4, w4 = w3.alloc (.cells #[.string oa, .int .i64 ob, .int .i64 oc, .int .i64 od] 72) := ⟨_, rfl⟩
   rw [← hw4]
   have bw4 : Below w3.heap.size w3 w4 := by rw [hw4]; exact (Below.refl _ _).alloc (Nat.le_refl _) _
   have kw4 : w4.heap[w3.heap.size]? = some (.cells #[.string oa, .int .i64 ob, .int .i64 oc, .int .i64 od] 72 (0, 0)) := by rw [hw4]; exact heap_alloc_new _ _
   obtain ⟨B70, hB7⟩ : ∃ B7, B7 = w3.heap.size := ⟨_, rfl⟩
   rw [← hB7] at kw4 ⊢
   have b24 : Below w2.heap.size w2 w4 := HB3.out.trans (bw4.mono HB3.out.size)
   obtain ⟨ok0, hok⟩ : ∃ ok, ok = infOkP most pr0 (infixO s0.rest) := ⟨_, rfl⟩
   rw [← hok] at HOV ⊢
   have hn7 : ¬ XI g m nv1 B70 := fun hh => by have := HI2.out.lt.2.2 _ hh; have := HB3.out.size; omega
   have HI4 : Hid (IRd g m L lv nv1 w4 (d + 1) s0) := HI2.out.keep b24
   have HX4 : Hid (FX (XI g m nv) (XI g m nv1) w w4) := HX2.out.trans (FX.of_below b24)
   have HK4 : Hid (w4.heap[B5]? = _) := (b24.block _ HB5.out.2).trans HK2.out
   have HTK4 : Hid _ := HTK2.out.step (FX.of_below b24).orB
   have HR4 : Hid (¬ XI g m nv1 w.heap.size ∧ w4.heap[w.heap.size]? = some (.cells #[.int .i64 0, .string ⟨#[]⟩, .int .i64 0, .slice none 0 0] 24 (0, 0))) := ⟨HR2.out.1, (b24.block _ (by have := HB5.out; omega)).trans HR2.out.2⟩
   have HK74 : Hid (w4.heap[B70]? = some (.cells #[.string oa, .int .i64 ob, .int .i64 oc, .int .i64 od] 72 (0, 0)) ∧ B5 < B70 ∧ ¬ XI g m nv1 B70) := ⟨kw4, by have := HB5.out.2; have := HB3.out.size; omega, hn7⟩
   have HOK0 : Hid (ok0 = infOkP most pr0 (infixO s0.rest)) := hok
   have HB5w : Hid (w.heap.size < B5) := HB5.out.1
   have hgw := HH.out.lt.1
   have HGW : Hid (g < w.heap.size) := hgw
   clear hw4 bw4 kw4 hB7 b24 hok hn7 HIN HB3 hgw
   go_loopw [6, 7, 8] (fun v6 v7 v8 wr => ∃ (nv' : Value) (t : Tm) (F : List Nat) (m1 : Int) (m2 : ByteArray) (m3 : Int) (m4 : Option Addr) (m5 m6 : Nat) (pr : Int) (B7 : Nat) (a : ByteArray) (b c e : Int) (ok : Bool) (s : St), v6 = .int .i64 pr ∧ v7 = .pointer (some ⟨B7, 0, none⟩) ∧ v8 = .bool ok ∧
     Hid (wr.heap[B5]? = some (.cells #[.int .i64 m1, .string m2, .int .i64 m3, .slice m4 m5 m6] 24 (0, 0))) ∧ Hid (TOk 24 (fun k => XI g m nv' k ∨ k = B5) (w.heap.size + 1) wr t (.agg #[.int .i64 m1, .string m2, .int .i64 m3, .slice m4 m5 m6]) F) ∧
     Hid (wr.heap[B7]? = some (.cells #[.string a, .int .i64 b, .int .i64 c, .int .i64 e] 72 (0, 0)) ∧ B5 < B7 ∧ ¬ XI g m nv' B7) ∧ Hid (IRd g m L lv nv' wr (d + 1) s) ∧ Hid (FX (XI g m nv) (XI g m nv') w wr) ∧ Hid (¬ XI g m nv' B5) ∧
     Hid (¬ XI g m nv' w.heap.size ∧ wr.heap[w.heap.size]? = some (.cells #[.int .i64 0, .string ⟨#[]⟩, .int .i64 0, .slice none 0 0] 24 (0, 0))) ∧ Hid (ok = infOkP most pr (infixO s.rest)) ∧ Hid (ok = true → opV (infixO s.rest) = .agg #[.string a, .int .i64 b, .int .i64 c, .int .i64 e]) ∧ Hid (infO (termO false f) most t pr s = T)) (fun _ _ _ wr => msrI g L.length wr)
   case atStart => exact ⟨nv1, t0, F0, k1, s1, n1, ao1, ln1, cp1, pr0, B70, oa, ob, oc, od, ok0, s0, rfl, rfl, rfl, HK4.out, HTK4.out, HK74.out, HI4.out, HX4.out, HN2.out, HR4.out, HOK0.out, HOV.out, HT0.out⟩
   case round =>
     obtain ⟨nv2, t, F, m1, m2, m3, m4, m5, m6, pr, B7, a, b, c, e, ok, s, rfl, rfl, rfl, HK5, HTT, HK7, HI, HX, HN5, HR0, HOK, HOP, HC⟩ := hrel
     have HMS : Hid (msrI g L.length wr = s.rest.length) := msrI_of HI.out
     cases ok with
     | false =>
       have HTN : Hid (T = some (t, s)) := by
         show _ = _
         rw [← HC.out, infO_eq HSH.out]
         have hk := HOK.out
         cases hi : infixO s.rest with
         | none => rfl
         | some op =>
           rw [hi] at hk
           simp only
           rw [if_pos]
           unfold infOkP at hk
           simp only at hk
           by_cases h1 : op.prio ≤ most
           · right
             rw [decide_eq_true h1, Bool.true_and] at hk
             have := of_decide_eq_false hk.symm
             omega
           · left; omega
       obtain ⟨c2, f2, hI⟩ := HI.out.beg d
       have hwr : IntKind.i64.wrap (((d + 1 : Nat) : Int) - 1) = (d : Int) := by have := HF.out; rw [IntKind.wrap_i64]; omega
       have hw64 : wrap64 (d : Int) = (d : Int) := by have := HF.out; unfold wrap64; omega
       obtain ⟨W9, hW9⟩ : ∃ W9, W9 = wr.setCell ⟨g, 2, none⟩ (.int .i64 (d : Int)) := ⟨_, rfl⟩
       rw [← hW9] at hI
       have oE : ∀ k, k ≠ g → W9.heap[k]? = wr.heap[k]? := fun k hk => by rw [hW9]; exact blk_other _ hk
       have hg := HGW.out
       have h5 := HB5w.out
       have HK59 : Hid (W9.heap[B5]? = _) := (oE _ (by omega)).trans HK5.out
       have HR09 : Hid (W9.heap[w.heap.size]? = _) := (oE _ (by omega)).trans HR0.out.2
       have HX9 : Hid (FX (XI g m nv) (XI g m nv2) w W9) := by
         show FX _ _ _ _
         rw [hW9]
         have hx := HX.out
         exact ⟨hx.os, hx.tape, hx.output, by simpa [World.setCell] using hx.size, fun k hk hn => by
           have : k ≠ g := fun e => hn (Or.inl e)
           exact (blk_other _ this).trans (hx.block k hk hn), hx.new⟩
       have HI9 : Hid (IRd g m L lv nv2 W9 d s) := hI
       have HT9 : Hid (TOk 24 (fun k => XI g m nv2 k ∨ k = B5) (w.heap.size + 1) W9 t (.agg #[.int .i64 m1, .string m2, .int .i64 m3, .slice m4 m5 m6]) F) := HTT.out.turn fun k hk _ => oE k (by omega)
       clear hI oE hg h5
       go_upto_region 12 with fail
       go_upto_region 13 with fail
       rw [← hW9]
       clear hW9 c2 f2 hwr hw64
       obtain ⟨z0, z1, z2, z3, _⟩ := blk4 HK59.out
       obtain ⟨q0, q1, q2, q3, fz0, fz1, fz2, fz3⟩ := blk4 HR09.out
       have hn1 : ¬ B5 = w.heap.size := by have := HB5w.out; omega
       have hn2 : ¬ w.heap.size = B5 := by have := HB5w.out; omega
       go_wp2
       refine bodyPost_ret_by (results_cell_row rfl _ _ w.heap.size 24 _ (0, 0) _ rfl (blk4_set HR09.out) Tryz.underlying24 rfl (by kernel_rfl)) rfl ?_
       rw [HTN.out]
       have ht9 := HT9.out
       exact ⟨_, rfl, TmRI.fin HH.out HX9.out HR0.out.1 ⟨ht9.own, ht9.nd, fun k hk => ⟨(ht9.out k hk).1, fun hh => (ht9.out k hk).2 (Or.inl hh)⟩⟩ HI9.out rfl⟩
     | true =>
       have hop := HOP.out rfl
       obtain ⟨op, hio⟩ : ∃ op, infixO s.rest = some op := by
         have hk := HOK.out
         cases hi : infixO s.rest with
         | none => rw [hi] at hk; cases hk
         | some op => exact ⟨op, rfl⟩
       rw [hio] at hop
       have hcmp : ¬ (most < op.prio ∨ op.left < pr) := by
         have hk := HOK.out
         rw [hio] at hk
         unfold infOkP at hk
         simp only at hk
         have := Bool.and_eq_true_iff.1 hk.symm
         have h1 := of_decide_eq_true this.1
         have h2 := of_decide_eq_true this.2
         omega
       obtain ⟨on, opr, ole, ori⟩ := op
       simp only [opV, Value.agg.injEq, Array.mk.injEq, List.cons.injEq, Value.string.injEq, Value.int.injEq, and_true, true_and] at hop
       obtain ⟨rfl, rfl, rfl, rfl⟩ := hop
       obtain ⟨rest, names⟩ := s
       obtain ⟨x, r, rfl⟩ : ∃ x r, rest = x :: r := by
         cases rest with
         | nil => cases hio
         | cons x r => exact ⟨x, r, rfl⟩
       have hCC : T = match termO false f ori ⟨r, names⟩ with | none => none | some y => infO (termO false f) most (structTm on [t, y.1]) opr y.2 := by
         rw [← HC.out, infO_eq HSH.out]
         simp only [hio]
         rw [if_neg hcmp]
         show (match termO false f ori ⟨r, names⟩ with | none => none | some (y, s1) => _) = _
         cases termO false f ori ⟨r, names⟩ <;> rfl
       have HON : Hid (on.size ≤ 3000) := by
         have := infixO_name hio (fun x hx => (HO.out x (HI.out.sub x hx)).1)
         exact this
       obtain ⟨p, c1, hp, f1, hI⟩ := HI.out.step
       have hwr : IntKind.i64.wrap ((p : Int) + 1) = ((p + 1 : Nat) : Int) := by have := HL.out; rw [IntKind.wrap_i64]; omega
       have hc : ((p + 1 : Nat) : Int) = (p : Int) + 1 := by omega
       rw [hc] at hwr hI
       obtain ⟨V1, hV1⟩ : ∃ V1, V1 = wr.setCell ⟨g, 1, none⟩ (.int .i64 ((p : Int) + 1)) := ⟨_, rfl⟩
       rw [← hV1] at hI
       have oE : ∀ k, k ≠ g → V1.heap[k]? = wr.heap[k]? := fun k hk => by rw [hV1]; exact blk_other _ hk
       have hg := HGW.out
       have h5 := HB5w.out
       have h7 := HK7.out.2.1
       have HI1 : Hid (IRd g m L lv nv2 V1 (d + 1) ⟨r, names⟩) := hI
       have HX1' : Hid (FX (XI g m nv) (XI g m nv2) w V1) := by
         show FX _ _ _ _
         rw [hV1]
         have hx := HX.out
         exact ⟨hx.os, hx.tape, hx.output, by simpa [World.setCell] using hx.size, fun k hk hn => by
           have : k ≠ g := fun e => hn (Or.inl e)
           exact (blk_other _ this).trans (hx.block k hk hn), hx.new⟩
       have HK51 : Hid (V1.heap[B5]? = some (.cells #[.int .i64 m1, .string m2, .int .i64 m3, .slice m4 m5 m6] 24 (0, 0))) := (oE _ (by omega)).trans HK5.out
       have HK71 : Hid (V1.heap[B7]? = some (.cells #[.string on, .int .i64 opr, .int .i64 ole, .int .i64 ori] 72 (0, 0))) := (oE _ (by omega)).trans HK7.out.1
       have HR01 : Hid (V1.heap[w.heap.size]? = some (.cells #[.int .i64 0, .string ⟨#[]⟩, .int .i64 0, .slice none 0 0] 24 (0, 0))) := (oE _ (by omega)).trans HR0.out.2
       have HT1 : Hid (TOk 24 (fun k => XI g m nv2 k ∨ k = B5) (w.heap.size + 1) V1 t (.agg #[.int .i64 m1, .string m2, .int .i64 m3, .slice m4 m5 m6]) F) := HTT.out.turn fun k hk _ => oE k (by omega)
       have HNS : Hid (¬ XI g m nv2 w.heap.size ∧ ¬ XI g m nv2 B5 ∧ ¬ XI g m nv2 B7) := ⟨HR0.out.1, HN5.out, HK7.out.2.2⟩
       have HZ57 : Hid (w.heap.size < B5 ∧ B5 < B7) := ⟨h5, h7⟩
       obtain ⟨R, hR⟩ : ∃ R, R = termO false f ori ⟨r, names⟩ := ⟨_, rfl⟩
       rw [← hR] at hCC
       have HRS : Hid (∀ y, R = some y → y.2.rest.length < r.length) := fun y hy => by rw [hR] at hy; exact HSH.out _ _ y.1 y.2 hy
       have HTM : Hid (∀ w3, IRd g m L lv nv2 w3 (d + 1) ⟨r, names⟩ → Calls Tryz.prog 56 #[.pointer (some ⟨g, 0, none⟩), .int .i64 ori] w3 fun e w' => EndI g m L lv nv2 w3 (d + 1) R e w') := fun w3 h3 => by have := HTC.out (d + 1) ori ⟨r, names⟩ nv2 w3 HF.out h3; rw [← hR] at this; exact this
       have HSO : Hid (∀ b w3, Calls Tryz.prog 75 #[.string on, .slice (some ⟨b, 0, none⟩) 2 2] w3 fun e w' => e = .returned (.agg #[.int .i64 4, .string on, .int .i64 0, .slice (some ⟨b, 0, none⟩) 2 2]) ∧ Below w3.heap.size w3 w') := fun b w3 => i_structOf on _ 2 2 w3 (by have := HON.out; omega)
       have HCC : Hid (T = match (generalizing := false) R with | none => none | some y => infO (termO false f) most (structTm on [t, y.1]) opr y.2) := hCC
       clear hCC hR hio hcmp hI oE hg h5 h7 hc HK5 HTT HK7 HI HX HN5 HR0 HOK HOP HC
       go_upto_region 9 with fail
       rw [← hV1]
       clear hV1 c1 f1 hp hwr
       refine FZ.wp_region_factsZ 13 (fun i v w' => match i with
         | 0 => v = .pointer (some ⟨B7, 0, none⟩)
         | 1 => v = .string on
         | 2 => v = .agg #[.int .i64 m1, .string m2, .int .i64 m3, .slice m4 m5 m6]
         | 3 => v = .pointer (some ⟨g, 0, none⟩)
         | 4 => v = .pointer (some ⟨B7, 3, none⟩)
         | 5 => v = .int .i64 ori
         | 6 => ∃ y, R = some y ∧ PKJ g m L lv nv w (d + 1) B5 B7 (.cells #[.string on, .int .i64 opr, .int .i64 ole, .int .i64 ori] 72 (0, 0)) y.2 (fun X w1 => ∃ Fy k1 s1 n1 ao1 ln1 cp1, v = .agg #[.int .i64 k1, .string s1, .int .i64 n1, .slice ao1 ln1 cp1] ∧ TOk 24 (fun k => X k ∨ k = B5) (w.heap.size + 1) w1 y.1 v Fy ∧ TOk 24 (fun k => X k ∨ k = B5) (w.heap.size + 1) w1 t (.agg #[.int .i64 m1, .string m2, .int .i64 m3, .slice m4 m5 m6]) F ∧ ∀ f ∈ F, ∀ h ∈ Fy, f ≠ h) w'
         | 7 => ∃ y, R = some y ∧ PKJ g m L lv nv w (d + 1) B5 B7 (.cells #[.string on, .int .i64 opr, .int .i64 ole, .int .i64 ori] 72 (0, 0)) y.2 (fun X w1 => ∃ Fn b, v = .slice (some ⟨b, 0, none⟩) 2 2 ∧ ROk 24 (fun k => X k ∨ k = B5) (w.heap.size + 1) w1 [t, y.1] v Fn) w'
         | 8 => ∃ y, R = some y ∧ PKJ g m L lv nv w (d + 1) B5 B7 (.cells #[.string on, .int .i64 opr, .int .i64 ole, .int .i64 ori] 72 (0, 0)) y.2 (fun X w1 => ∃ Fn b, v = .agg #[.int .i64 4, .string on, .int .i64 0, .slice (some ⟨b, 0, none⟩) 2 2] ∧ TOk 24 (fun k => X k ∨ k = B5) (w.heap.size + 1) w1 (structTm on [t, y.1]) v Fn) w'
         | 9 => v = .pointer (some ⟨B7, 1, none⟩)
         | 10 => v = .int .i64 opr
         | 11 => ∃ y, R = some y ∧ PKJ g m L lv nv w (d + 1) B5 B7 (.cells #[.string on, .int .i64 opr, .int .i64 ole, .int .i64 ori] 72 (0, 0)) y.2 (fun X w1 => ∃ Fn b, TOk 24 (fun k => X k ∨ k = B5) (w.heap.size + 1) w1 (structTm on [t, y.1]) (.agg #[.int .i64 4, .string on, .int .i64 0, .slice (some ⟨b, 0, none⟩) 2 2]) Fn ∧ w1.heap[B5]? = some (.cells #[.int .i64 4, .string on, .int .i64 0, .slice (some ⟨b, 0, none⟩) 2 2] 24 (0, 0))) w'
         | _ => v = .int .i64 opr)
         (fun i w' => V1.heap.size ≤ w'.heap.size ∧ w'.heap[B7]? = some (.cells #[.string on, .int .i64 opr, .int .i64 ole, .int .i64 ori] 72 (0, 0)) ∧ (i = 2 ∨ i = 11 → w'.heap[B5]? = some (.cells #[.int .i64 m1, .string m2, .int .i64 m3, .slice m4 m5 m6] 24 (0, 0))) ∧
           (i = 6 → IRd g m L lv nv2 w' (d + 1) ⟨r, names⟩ ∧ FX (XI g m nv) (XI g m nv2) w w' ∧ TOk 24 (fun k => XI g m nv2 k ∨ k = B5) (w.heap.size + 1) w' t (.agg #[.int .i64 m1, .string m2, .int .i64 m3, .slice m4 m5 m6]) F ∧ w'.heap[w.heap.size]? = some (.cells #[.int .i64 0, .string ⟨#[]⟩, .int .i64 0, .slice none 0 0] 24 (0, 0))))
         (RelM g m nv2 B5 6 11) (by kernel_rfl) (by kernel_rfl) 71 rfl (by kernel_rfl) ?_ ?_ ?_ ?_
       · intro i _
         have hd := (Below.refl V1.heap.size V1).drew
         exact ⟨hd.size, (hd.block _ (Array.getElem?_eq_some_iff.1 HK71.out).1).trans HK71.out, fun _ => (hd.block _ (Array.getElem?_eq_some_iff.1 HK51.out).1).trans HK51.out, fun _ => ⟨HI1.out.keep hd, HX1'.out.trans (FX.of_below hd), HT1.out.step (FX.of_below hd).orB, (hd.block _ (Array.getElem?_eq_some_iff.1 HR01.out).1).trans HR01.out⟩⟩
       · intro i j u u' hi hj hne hrel
         have hz := HZ57.out
         have hgw := HGW.out
         refine ⟨fun ⟨Lf, hcl, hLi, hLj⟩ => fun ⟨p1, p2, p3, p4⟩ => ?_, fun ⟨Lf, hcl, hLi, hLj⟩ v => ?_⟩
         · have hlt7 : B7 < u.heap.size := (Array.getElem?_eq_some_iff.1 p2).1
           by_cases e6 : j = 6
           · obtain ⟨nv', hx⟩ := hrel.1 e6
             exact ⟨Nat.le_trans p1 hx.size, (hx.block _ hlt7 HNS.out.2.2).trans p2, fun e => (hx.block _ (by omega) HNS.out.2.1).trans (p3 e), fun e => absurd (e6.trans e.symm) hne⟩
           · by_cases e11 : j = 11
             · subst e11
               have hs0 := hrel.2.1 rfl
               refine ⟨by rw [hs0.size]; exact p1, (hs0.oth _ (by omega)).trans p2, fun e => ?_, fun e => ?_⟩
               · rcases e with e | e
                 · subst e
                   have := hcl 11 _ rfl hLj 2 (by kernel_rfl)
                   rw [hLi] at this; cases this
                 · exact absurd e.symm hne
               · subst e
                 have := hcl 11 _ rfl hLj 6 (by kernel_rfl)
                 rw [hLi] at this; cases this
             · have hb := hrel.2.2 e6 e11
               exact ⟨Nat.le_trans p1 hb.size, (hb.block _ hlt7).trans p2, fun e => (hb.block _ (by omega)).trans (p3 e), fun e => ⟨(p4 e).1.keep hb, (p4 e).2.1.trans (FX.of_below hb), (p4 e).2.2.1.step (FX.of_below hb).orB, (hb.block _ (by omega)).trans (p4 e).2.2.2⟩⟩
         · by_cases e6 : j = 6
           · subst e6
             have c7 : Lf 7 = true → False := fun h7 => by have := hcl 7 _ rfl h7 6 (by kernel_rfl); rw [hLj] at this; cases this
             match i, hi with
             | 0, _ => exact fun h => h
             | 1, _ => exact fun h => h
             | 2, _ => exact fun h => h
             | 3, _ => exact fun h => h
             | 4, _ => exact fun h => h
             | 5, _ => exact fun h => h
             | 6, _ => exact absurd rfl hne
             | 7, _ => exact absurd hLi c7
             | 8, _ => exact absurd (hcl 8 _ rfl hLi 7 (by kernel_rfl)) c7
             | 9, _ => exact fun h => h
             | 10, _ => exact fun h => h
             | 11, _ => exact absurd (hcl 11 _ rfl hLi 7 (by kernel_rfl)) c7
             | 12, _ => exact fun h => h
           · by_cases e11 : j = 11
             · have hs0 := hrel.2.1 e11
               match i, hi with
               | 0, _ => exact fun h => h
               | 1, _ => exact fun h => h
               | 2, _ => exact fun h => h
               | 3, _ => exact fun h => h
               | 4, _ => exact fun h => h
               | 5, _ => exact fun h => h
               | 6, _ => exact fun ⟨y, h1, h2⟩ => ⟨y, h1, h2.set hgw hz.1 (by omega) hs0 fun X ht ⟨Fy, k1, s1, n1, ao1, ln1, cp1, h3, h4, h5, h6⟩ => ⟨Fy, k1, s1, n1, ao1, ln1, cp1, h3, h4.turn fun k _ hx => ht k (fun e => hx (Or.inr e)), h5.turn fun k _ hx => ht k (fun e => hx (Or.inr e)), h6⟩⟩
               | 7, _ => exact fun ⟨y, h1, h2⟩ => ⟨y, h1, h2.set hgw hz.1 (by omega) hs0 fun X ht ⟨Fn, b, h3, h4⟩ => ⟨Fn, b, h3, h4.turn fun k _ hx => ht k (fun e => hx (Or.inr e))⟩⟩
               | 8, _ => exact fun ⟨y, h1, h2⟩ => ⟨y, h1, h2.set hgw hz.1 (by omega) hs0 fun X ht ⟨Fn, b, h3, h4⟩ => ⟨Fn, b, h3, h4.turn fun k _ hx => ht k (fun e => hx (Or.inr e))⟩⟩
               | 9, _ => exact fun h => h
               | 10, _ => exact fun h => h
               | 11, _ => exact absurd e11 hne
               | 12, _ => exact fun h => h
             · have hb := hrel.2.2 e6 e11
               match i, hi with
               | 0, _ => exact fun h => h
               | 1, _ => exact fun h => h
               | 2, _ => exact fun h => h
               | 3, _ => exact fun h => h
               | 4, _ => exact fun h => h
               | 5, _ => exact fun h => h
               | 6, _ => exact fun ⟨y, h1, h2⟩ => ⟨y, h1, h2.below hb fun X hx _ ⟨Fy, k1, s1, n1, ao1, ln1, cp1, h3, h4, h5, h6⟩ => ⟨Fy, k1, s1, n1, ao1, ln1, cp1, h3, h4.step hx.orB, h5.step hx.orB, h6⟩⟩
               | 7, _ => exact fun ⟨y, h1, h2⟩ => ⟨y, h1, h2.below hb fun X hx _ ⟨Fn, b, h3, h4⟩ => ⟨Fn, b, h3, h4.step hx.orB⟩⟩
               | 8, _ => exact fun ⟨y, h1, h2⟩ => ⟨y, h1, h2.below hb fun X hx _ ⟨Fn, b, h3, h4⟩ => ⟨Fn, b, h3, h4.step hx.orB⟩⟩
               | 9, _ => exact fun h => h
               | 10, _ => exact fun h => h
               | 11, _ => exact fun ⟨y, h1, h2⟩ => ⟨y, h1, h2.below hb fun X hx hn ⟨Fn, b, h3, h4⟩ => ⟨Fn, b, h3.step hx.orB, (hx.block _ (Array.getElem?_eq_some_iff.1 h4).1 hn).trans h4⟩⟩
               | 12, _ => exact fun h => h
       · intro i o hi ho a u ⟨p1, p2, p3, p4⟩ hfr hdep hdf
         have u0 : a.tmps.getD 0 undef = .pointer (some ⟨g, 0, none⟩) := hfr 0 (by decide)
         have u5 : a.tmps.getD 5 undef = .pointer (some ⟨B5, 0, none⟩) := hfr 5 (by decide)
         have u7 : a.tmps.getD 7 undef = .pointer (some ⟨B7, 0, none⟩) := hfr 7 (by decide)
         obtain ⟨x0, x1, x2, x3, _⟩ := blk4 p2
         have hz := HZ57.out
         have hgw := HGW.out
         match i, hi with
         | 0, _ =>
           obtain rfl : _ = o := by simpa using ho
           refine FZ.fact_valueZ (w' := u) (v := .pointer (some ⟨B7, 0, none⟩)) rfl ?_ (RelM.of_below (Below.refl _ _) (by decide) (by decide)) rfl
           simp only [execOp, Act.eval, u7]
           go_simp
         | 1, _ =>
           obtain rfl : _ = o := by simpa using ho
           have h0 : a.tmps.getD 51 undef = .pointer (some ⟨B7, 0, none⟩) := hdep 0 (by kernel_rfl)
           refine FZ.fact_valueZ (w' := u) (v := .string on) rfl ?_ (RelM.of_below (Below.refl _ _) (by decide) (by decide)) rfl
           simp only [execOp, Act.eval, h0]
           go_simp
         | 2, _ =>
           obtain rfl : _ = o := by simpa using ho
           obtain ⟨y0, y1, y2, y3, _⟩ := blk4 (p3 (Or.inl rfl))
           refine FZ.fact_valueZ (w' := u) (v := .agg #[.int .i64 m1, .string m2, .int .i64 m3, .slice m4 m5 m6]) rfl ?_ (RelM.of_below (Below.refl _ _) (by decide) (by decide)) rfl
           simp only [execOp, Act.eval, u5]
           go_simp
         | 3, _ =>
           obtain rfl : _ = o := by simpa using ho
           refine FZ.fact_valueZ (w' := u) (v := .pointer (some ⟨g, 0, none⟩)) rfl ?_ (RelM.of_below (Below.refl _ _) (by decide) (by decide)) rfl
           simp only [execOp, Act.eval, u0]
           go_simp
         | 4, _ =>
           obtain rfl : _ = o := by simpa using ho
           refine FZ.fact_valueZ (w' := u) (v := .pointer (some ⟨B7, 3, none⟩)) rfl ?_ (RelM.of_below (Below.refl _ _) (by decide) (by decide)) rfl
           simp only [execOp, Act.eval, u7]
           go_simp
         | 5, _ =>
           obtain rfl : _ = o := by simpa using ho
           have h0 : a.tmps.getD 55 undef = .pointer (some ⟨B7, 3, none⟩) := hdep 4 (by kernel_rfl)
           refine FZ.fact_valueZ (w' := u) (v := .int .i64 ori) rfl ?_ (RelM.of_below (Below.refl _ _) (by decide) (by decide)) rfl
           simp only [execOp, Act.eval, h0]
           go_simp
         | 6, _ =>
           obtain rfl : _ = o := by simpa using ho
           have h0 : a.tmps.getD 54 undef = .pointer (some ⟨g, 0, none⟩) := hdep 3 (by kernel_rfl)
           have h1 : a.tmps.getD 56 undef = .int .i64 ori := hdep 5 (by kernel_rfl)
           obtain ⟨q1, q2, q3, q4⟩ := p4 rfl
           refine FZ.fact_callZ rfl rfl Tryz.func56 (by kernel_rfl) (by kernel_rfl) (args := #[.pointer (some ⟨g, 0, none⟩), .int .i64 ori]) (by simp [Act.eval, h0, h1]) ?_
           refine Calls.mono (HTM.out u q1) ?_
           intro e u' he
           have hlt7 : B7 < u.heap.size := (Array.getElem?_eq_some_iff.1 p2).1
           cases hR : R with
           | none =>
             rw [hR] at he
             obtain ⟨rfl, nv', hx⟩ := he
             refine Or.inr ⟨_, rfl, ?_⟩
             have hN := HCC.out
             rw [hR] at hN
             refine ⟨hdf, ?_⟩
             rw [hN]
             exact ⟨rfl, nv', q2.trans hx⟩
           | some y =>
             rw [hR] at he
             obtain ⟨v, rfl, Fy, nv', ht, hi', hx⟩ := he
             have hnn : ∀ B, B < u.heap.size → ¬ XI g m nv2 B → ¬ XI g m nv' B := fun B hB hn hh => (hx.new _ hh).elim hn (fun h9 => by omega)
             refine Or.inl ⟨v, rfl, ⟨fun _ => ⟨nv', hx⟩, fun e => absurd e (by decide), fun e => absurd rfl e⟩, y, rfl, nv', ?_, hi', q2.trans hx, ⟨hnn _ (by omega) HNS.out.1, hnn _ (by omega) HNS.out.2.1, hnn _ hlt7 HNS.out.2.2⟩, (hx.block _ (by omega) HNS.out.1).trans q4, (hx.block _ hlt7 HNS.out.2.2).trans p2⟩
             obtain ⟨k1, s1, n1, ao1, ln1, cp1, hv⟩ := ht.form
             refine ⟨Fy, k1, s1, n1, ao1, ln1, cp1, hv, ⟨ht.own, ht.nd, fun k hk => ⟨by have := (ht.out k hk).1; omega, fun hh => hh.elim (ht.out k hk).2 (fun e => by have := (ht.out k hk).1; omega)⟩⟩, q3.step hx.orB, fun k hk k2 hk2 e => ?_⟩
             have h1 := q3.lt k hk
             have h2 := (ht.out k2 hk2).1
             omega
         | 7, _ =>
           obtain rfl : _ = o := by simpa using ho
           have h2 : a.tmps.getD 53 undef = .agg #[.int .i64 m1, .string m2, .int .i64 m3, .slice m4 m5 m6] := hdep 2 (by kernel_rfl)
           obtain ⟨y, hy, nv', ⟨Fy, k1, s1, n1, ao1, ln1, cp1, hv, ht, htt, hdis⟩, q2, q3, q4, q5, q6⟩ := hdep 6 (by kernel_rfl)
           have hv' : a.tmps.getD 57 undef = .agg #[.int .i64 k1, .string s1, .int .i64 n1, .slice ao1 ln1 cp1] := hv
           rw [hv] at ht
           have bA : Below u.heap.size u (u.alloc (.cells #[.int .i64 m1, .string m2, .int .i64 m3, .slice m4 m5 m6, .int .i64 k1, .string s1, .int .i64 n1, .slice ao1 ln1 cp1] 24)) := (Below.refl _ _).alloc (Nat.le_refl _) _
           have h5u : B5 < u.heap.size := by have := (Array.getElem?_eq_some_iff.1 p2).1; omega
           have hRow := ROk.two htt ht hdis (by have := q3.size; omega) (fun hh => hh.elim (XI_new q2) (fun e => by omega))
           have hpk : PKJ g m L lv nv w (d + 1) B5 B7 (.cells #[.string on, .int .i64 opr, .int .i64 ole, .int .i64 ori] 72 (0, 0)) y.2 (fun X w1 => ∃ Fn b, (.slice (some ⟨u.heap.size, 0, none⟩) 2 2 : Value) = .slice (some ⟨b, 0, none⟩) 2 2 ∧ ROk 24 (fun k => X k ∨ k = B5) (w.heap.size + 1) w1 [t, y.1] (.slice (some ⟨u.heap.size, 0, none⟩) 2 2) Fn) (u.alloc (.cells #[.int .i64 m1, .string m2, .int .i64 m3, .slice m4 m5 m6, .int .i64 k1, .string s1, .int .i64 n1, .slice ao1 ln1 cp1] 24)) :=
             ⟨nv', ⟨_, u.heap.size, rfl, hRow⟩, q2.keep bA, q3.trans (FX.of_below bA), q4, (bA.block _ (Array.getElem?_eq_some_iff.1 q5).1).trans q5, (bA.block _ (Array.getElem?_eq_some_iff.1 q6).1).trans q6⟩
           refine FZ.fact_valueZ (w' := u.alloc (.cells #[.int .i64 m1, .string m2, .int .i64 m3, .slice m4 m5 m6, .int .i64 k1, .string s1, .int .i64 n1, .slice ao1 ln1 cp1] 24)) (v := .slice (some ⟨u.heap.size, 0, none⟩) 2 2) rfl ?_ (RelM.of_below bA (by decide) (by decide)) ⟨y, hy, hpk⟩
           have e9 : (#[((0 : Nat), Operand.tmp 53), (1, Operand.tmp 57)].map fun x => (x.1, a.eval x.2)) = #[(0, .agg #[.int .i64 m1, .string m2, .int .i64 m3, .slice m4 m5 m6]), (1, .agg #[.int .i64 k1, .string s1, .int .i64 n1, .slice ao1 ln1 cp1])] := by
             simp only [List.map_toArray, List.map_cons, List.map_nil, Act.eval, h2, hv']
           clear hdep hfr ho
           simp only [execOp, e9]
           go_simp
         | 8, _ =>
           obtain rfl : _ = o := by simpa using ho
           have h0 : a.tmps.getD 52 undef = .string on := hdep 1 (by kernel_rfl)
           obtain ⟨y, hy, hpk⟩ := hdep 7 (by kernel_rfl)
           have hb0 : ∃ b, a.tmps.getD 58 undef = .slice (some ⟨b, 0, none⟩) 2 2 := by obtain ⟨_, ⟨_, b, hv, _⟩, _⟩ := hpk; exact ⟨b, hv⟩
           obtain ⟨b, hv'⟩ := hb0
           refine FZ.fact_callZ rfl rfl Tryz.func75 (by kernel_rfl) (by kernel_rfl) (args := #[.string on, .slice (some ⟨b, 0, none⟩) 2 2]) (by simp [Act.eval, h0, hv']) ?_
           refine Calls.mono (HSO.out b u) ?_
           rintro e u' ⟨rfl, hb⟩
           refine Or.inl ⟨_, rfl, RelM.of_below hb (by decide) (by decide), y, hy, hpk.below hb fun X hx _ ⟨Fn, b', h3, h4⟩ => ⟨Fn, b, rfl, ?_⟩⟩
           have h5 : ROk 24 (fun k => X k ∨ k = B5) (w.heap.size + 1) u [t, y.1] (.slice (some ⟨b, 0, none⟩) 2 2) Fn := by rw [← hv']; exact h4
           exact (h5.step hx.orB).tm (by have := HON.out; unfold maxLen; omega)
         | 9, _ =>
           obtain rfl : _ = o := by simpa using ho
           refine FZ.fact_valueZ (w' := u) (v := .pointer (some ⟨B7, 1, none⟩)) rfl ?_ (RelM.of_below (Below.refl _ _) (by decide) (by decide)) rfl
           simp only [execOp, Act.eval, u7]
           go_simp
         | 10, _ =>
           obtain rfl : _ = o := by simpa using ho
           have h0 : a.tmps.getD 60 undef = .pointer (some ⟨B7, 1, none⟩) := hdep 9 (by kernel_rfl)
           refine FZ.fact_valueZ (w' := u) (v := .int .i64 opr) rfl ?_ (RelM.of_below (Below.refl _ _) (by decide) (by decide)) rfl
           simp only [execOp, Act.eval, h0]
           go_simp
         | 11, _ =>
           obtain rfl : _ = o := by simpa using ho
           obtain ⟨y, hy, hpk⟩ := hdep 8 (by kernel_rfl)
           have hb0 : ∃ b, a.tmps.getD 59 undef = .agg #[.int .i64 4, .string on, .int .i64 0, .slice (some ⟨b, 0, none⟩) 2 2] := by obtain ⟨_, ⟨_, b, hv, _⟩, _⟩ := hpk; exact ⟨b, hv⟩
           obtain ⟨b, hv'⟩ := hb0
           have kb := p3 (Or.inr rfl)
           obtain ⟨z0, z1, z2, z3, f0, f1, f2, f3⟩ := blk4 kb
           have hS := Set0.of4 B5 u (.int .i64 4) (.string on) (.int .i64 0) (.slice (some ⟨b, 0, none⟩) 2 2)
           refine FZ.fact_storeZ (w' := (((u.setCell ⟨B5, 0, none⟩ (.int .i64 4)).setCell ⟨B5, 1, none⟩ (.string on)).setCell ⟨B5, 2, none⟩ (.int .i64 0)).setCell ⟨B5, 3, none⟩ (.slice (some ⟨b, 0, none⟩) 2 2)) rfl ?_ ⟨fun e => absurd e (by decide), fun _ => hS, fun _ e => absurd rfl e⟩ ⟨y, hy, hpk.set hgw hz.1 (by omega) hS fun X ht ⟨Fn, b', h3, h4⟩ => ⟨Fn, b, ?_, blk4_set kb⟩⟩
           · simp only [execOp, Act.eval, hv', u5]
             go_simp
           · rw [← hv']
             exact h4.turn fun k _ hx => ht k (fun e => hx (Or.inr e))
         | 12, _ =>
           obtain rfl : _ = o := by simpa using ho
           have h0 : a.tmps.getD 61 undef = .int .i64 opr := hdep 10 (by kernel_rfl)
           refine FZ.fact_valueZ (w' := u) (v := .int .i64 opr) rfl ?_ (RelM.of_below (Below.refl _ _) (by decide) (by decide)) rfl
           simp only [execOp, Act.eval, h0]
           go_simp
       · intro vals w5 hf
         have v12 : vals 12 = .int .i64 opr := hf 12 (by omega)
         obtain ⟨y, hy, nv3, ⟨Fn, bn, ht, hk⟩, q2, q3, q4, q5, q6⟩ := hf 11 (by omega)
         have HT5 : Hid (TOk 24 (fun k => XI g m nv3 k ∨ k = B5) (w.heap.size + 1) w5 (structTm on [t, y.1]) (.agg #[.int .i64 4, .string on, .int .i64 0, .slice (some ⟨bn, 0, none⟩) 2 2]) Fn) := ht
         have HK5 : Hid (w5.heap[B5]? = some (.cells #[.int .i64 4, .string on, .int .i64 0, .slice (some ⟨bn, 0, none⟩) 2 2] 24 (0, 0))) := hk
         have HI5 : Hid (IRd g m L lv nv3 w5 (d + 1) y.2) := q2
         have HX5 : Hid (FX (XI g m nv) (XI g m nv3) w w5) := q3
         have HN5 : Hid (¬ XI g m nv3 w.heap.size ∧ ¬ XI g m nv3 B5 ∧ ¬ XI g m nv3 B7) := q4
         have HR5 : Hid (w5.heap[w.heap.size]? = some (.cells #[.int .i64 0, .string ⟨#[]⟩, .int .i64 0, .slice none 0 0] 24 (0, 0))) := q5
         have HK75 : Hid (w5.heap[B7]? = some (.cells #[.string on, .int .i64 opr, .int .i64 ole, .int .i64 ori] 72 (0, 0))) := q6
         have HC5 : Hid (infO (termO false f) most (structTm on [t, y.1]) opr y.2 = T) := by have := HCC.out; rw [hy] at this; exact this.symm
         have HLT5 : Hid (y.2.rest.length < r.length) := HRS.out y hy
         simp only [FZ.putN, List.getElem?_toArray, List.getElem?_cons_zero, List.getElem?_cons_succ, Option.bind_some, List.drop_succ_cons, List.drop_zero, v12]
         clear v12 ht hk q2 q3 q4 q5 q6 hf hy HT1 HI1 HX1' HR01 HNS HCC
         generalize vals 0 = m0
         generalize vals 1 = mm1
         generalize vals 2 = mm2
         generalize vals 3 = mm3
         generalize vals 4 = mm4
         generalize vals 5 = mm5
         generalize vals 6 = mm6
         generalize vals 7 = mm7
         generalize vals 8 = mm8
         generalize vals 9 = mm9
         generalize vals 10 = mm10
         generalize vals 11 = mm11
         simp only [Act.put, List.setIfInBounds_toArray, List.set_cons_succ, List.set_cons_zero]
         obtain ⟨x0, x1, x2, x3, _⟩ := blk4 HK75.out
         go_upto_region 11 with fail
         go_upto_region 7 with fail
         obtain ⟨w6, hw6⟩ : ∃ w6, w6 = w5.alloc (.cells #[.string on, .int .i64 opr, .int .i64 ole, .int .i64 ori] 72) := ⟨_, rfl⟩
         rw [← hw6]
         have bw6 : Below w5.heap.size w5 w6 := by rw [hw6]; exact (Below.refl _ _).alloc (Nat.le_refl _) _
         have kw6 : w6.heap[w5.heap.size]? = some (.cells #[.string on, .int .i64 opr, .int .i64 ole, .int .i64 ori] 72 (0, 0)) := by rw [hw6]; exact heap_alloc_new _ _
         have s56 : w6.heap.size = w5.heap.size + 1 := by rw [hw6]; simp
         obtain ⟨B8, hB8⟩ : ∃ B8, B8 = w5.heap.size := ⟨_, rfl⟩
         rw [← hB8] at kw6 ⊢
         have hn8 : ¬ XI g m nv3 B8 := fun hh => by have := HI5.out.lt.2.2 _ hh; omega
         have h58 : B5 < B8 := by rw [hB8]; exact (Array.getElem?_eq_some_iff.1 HK5.out).1
         have HB6 : Hid (Below w5.heap.size w5 w6 ∧ B8 < w6.heap.size ∧ B8 = w5.heap.size ∧ B5 < B8 ∧ ¬ XI g m nv3 B8) := ⟨bw6, by omega, hB8, h58, hn8⟩
         have HK86 : Hid (w6.heap[B8]? = some (.cells #[.string on, .int .i64 opr, .int .i64 ole, .int .i64 ori] 72 (0, 0))) := kw6
         have HI6 : Hid (IRd g m L lv nv3 w6 (d + 1) y.2) := HI5.out.keep bw6
         have HIN := i_infixR g m L lv nv3 (d + 1) y.2 most opr w6 HL.out (aheadP_ok 0 (fun x hx => HO.out x (HI5.out.sub x hx))).1 HI6.out
         replace HIN : Hid _ := HIN
         clear hw6 bw6 kw6 s56 hB8 hn8 h58 x0 x1 x2 x3
         go_wp2_with (go_at_call 74; refine (Calls.mono HIN.out ?_); rintro e w7 ⟨pa, pb, pc, pd, rfl, ho, hb⟩; have HOP7 : Hid (infOkP most opr (infixO y.2.rest) = true → opV (infixO y.2.rest) = .agg #[.string pa, .int .i64 pb, .int .i64 pc, .int .i64 pd]) := ho; have HB7 : Hid (Below w6.heap.size w6 w7) := hb; have hk8 := (hb.block B8 HB6.out.2.1).trans HK86.out; obtain ⟨q0, q1, q2, q3, fz0, fz1, fz2, fz3⟩ := blk4 hk8; have HK87 : Hid _ := hk8; clear ho hb hk8)
         obtain ⟨w8, hw8⟩ : ∃ w8, w8 = (((w7.setCell ⟨B8, 0, none⟩ (.string pa)).setCell ⟨B8, 1, none⟩ (.int .i64 pb)).setCell ⟨B8, 2, none⟩ (.int .i64 pc)).setCell ⟨B8, 3, none⟩ (.int .i64 pd) := ⟨_, rfl⟩
         rw [← hw8]
         have hS := Set0.of4 B8 w7 (.string pa) (.int .i64 pb) (.int .i64 pc) (.int .i64 pd)
         rw [← hw8] at hS
         have hk88 : w8.heap[B8]? = some (.cells #[.string pa, .int .i64 pb, .int .i64 pc, .int .i64 pd] 72 (0, 0)) := by rw [hw8]; exact blk4_set HK87.out
         have hb6 := HB6.out
         have b57 : Below w5.heap.size w5 w7 := hb6.1.trans (HB7.out.mono hb6.1.size)
         have b58 : Below w5.heap.size w5 w8 := by
           refine ⟨hS.os.trans b57.os, hS.tape.trans b57.tape, hS.output.trans b57.output, by rw [hS.size]; exact b57.size, fun k hk => (hS.oth k (by omega)).trans (b57.block k hk)⟩
         have HB58 : Hid (Below w5.heap.size w5 w8) := b58
         have HK88 : Hid (w8.heap[B8]? = some (.cells #[.string pa, .int .i64 pb, .int .i64 pc, .int .i64 pd] 72 (0, 0))) := hk88
         clear hw8 hS hk88 hb6 b57 b58 q0 q1 q2 q3 fz0 fz1 fz2 fz3
         go_roundw
         case rel =>
           have b58 := HB58.out
           have hb6 := HB6.out
           refine ⟨nv3, structTm on [t, y.1], Fn, 4, on, 0, some ⟨bn, 0, none⟩, 2, 2, opr, B8, pa, pb, pc, pd, infOkP most opr (infixO y.2.rest), y.2, rfl, rfl, rfl, (b58.block _ (by omega)).trans HK5.out, HT5.out.step (FX.of_below b58).orB, ⟨HK88.out, hb6.2.2.2.1, hb6.2.2.2.2⟩, HI5.out.keep b58, HX5.out.trans (FX.of_below b58), HN5.out.2.1, ⟨HN5.out.1, (b58.block _ (Array.getElem?_eq_some_iff.1 HR5.out).1).trans HR5.out⟩, rfl, HOP7.out, HC5.out⟩
         case measure =>
           rw [HMS.out, msrI_of (HI5.out.keep HB58.out)]
           have := HLT5.out
           show y.2.rest.length < r.length + 1
           omega
theorem i_term (g m : Nat) (L : List Sg) (lv : Value) (hL : L.length ≤ 3000) (hO : ∀ x ∈ L, SOk x) : ∀ f, TermCI f g m L lv
 | 0 => i_term_zero g m L lv
 | f + 1 => i_term_succ f g m L lv hL hO (i_term g m L lv hL hO f)
end Go.Proofs.YtbkjcccbjnehbanGreatDoor

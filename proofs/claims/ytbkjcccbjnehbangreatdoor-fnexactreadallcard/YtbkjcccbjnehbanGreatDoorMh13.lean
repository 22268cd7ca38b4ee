import Derived.Test.YtbkjcccbjnehbanGreatDoorMh11
import Derived.Test.YtbkjcccbjnehbanGreatDoorMh9
namespace Go.Proofs.YtbkjcccbjnehbanGreatDoor
open Go.RowKit
set_option maxHeartbeats 8000000 in
set_option maxRecDepth 20000 in
theorem s_at_bad1 (f g : Nat) (L : List Sg) (lv nv : Value) (e0 : Nat) (most : Int) (xk : Int) (xt : ByteArray) (xn : Int) (xa : Nat) (xb : Bool) (r : List Sg) (names : List ByteArray) (w : World) (hL : L.length ≤ 3000) (hxa : xa ≤ 100000) (h : SRd g L lv nv w (some (e0, ⟨⟨xk, xt, xn, xa, xb⟩ :: r, names⟩))) (hxb : xb = false) (hM : (xt = cMinus ∧ nearO ⟨xk, xt, xn, xa, xb⟩ r = false) ∨ xt ≠ cMinus) (op : OpP) (hop : prefixP xt = some op) (hpr : ¬ op.prio ≤ most) :
   Calls Tryz.prog 60 #[.pointer (some ⟨g, 0, none⟩), .int .i64 most] w fun e w' => ∃ v pr, e = .returned (.tuple #[v, .int .i64 pr]) ∧ TmR g L lv nv w v w' ((atomO true (termO true f) most ⟨xk, xt, xn, xa, xb⟩ r names).map fun y => (y.1, y.2.2)) e0 ∧ (∀ y, atomO true (termO true f) most ⟨xk, xt, xn, xa, xb⟩ r names = some y → pr = y.2.1) := by
 obtain ⟨oo, hoo⟩ : ∃ oo, oo = prefixP xt := ⟨_, rfl⟩
 have HP0 := fun wq => c_prefix xt wq
 rw [← hoo] at HP0
 obtain ⟨os, o1, o2, o3, eo⟩ := opV_shape oo
 rw [eo] at HP0
 obtain ⟨ii, hii⟩ : ∃ ii, ii = infixP xt := ⟨_, rfl⟩
 have HQ0 := fun wq => c_infix xt wq
 rw [← hii] at HQ0
 obtain ⟨is, i1, i2, i3, ei⟩ := opV_shape ii
 rw [ei] at HQ0
 obtain ⟨ob, hob⟩ : ∃ ob, ob = oo.isSome := ⟨_, rfl⟩
 obtain ⟨ib, hib⟩ : ∃ ib, ib = ii.isSome := ⟨_, rfl⟩
 rw [← hob] at HP0
 rw [← hib] at HQ0
 have eR : atomO true (termO true f) most ⟨xk, xt, xn, xa, xb⟩ r names = none := by
   unfold atomO
   simp only [hxb, Bool.false_eq_true, if_false]
   rw [if_neg (by
     rintro ⟨h1, h2⟩
     rcases hM with ⟨_, h3⟩ | h3
     · rw [hxb] at h3; rw [h2] at h3; cases h3
     · exact h3 h1)]
   rw [hop]
   simp only
   rw [if_neg hpr]
 obtain rfl : ob = true := by rw [hob, hoo, hop]; rfl
 have ho1 : o1 = op.prio := by rw [hoo, hop] at eo; simp [opV] at eo; exact eo.2.1.symm
 have dpr : decide (o1 ≤ most) = false := decide_eq_false (by rw [ho1]; exact hpr)
 clear hop hpr ho1
 rw [eR]
 have HP : Hid _ := HP0
 have HQI : Hid _ := HQ0
 clear eR hoo hii eo ei HP0 HQ0 hob hib
 have HXB : Hid (xb = false) := hxb
 have HMM : Hid ((xt = cMinus ∧ nearO ⟨xk, xt, xn, xa, xb⟩ r = false) ∨ xt ≠ cMinus) := hM
 have HXA : Hid (xa ≤ 100000) := hxa
 clear hxb hM hxa
 obtain ⟨W, hW⟩ : ∃ W, W = w.alloc (.cells #[.int .i64 0, .string ⟨#[]⟩, .int .i64 0, .slice none 0 0] 24) := ⟨_, rfl⟩
 have bW : Below w.heap.size w W := by rw [hW]; exact (Below.refl _ _).alloc (Nat.le_refl _) _
 have sW : W.heap.size = w.heap.size + 1 := by rw [hW]; simp
 have kW : W.heap[w.heap.size]? = some (.cells #[.int .i64 0, .string ⟨#[]⟩, .int .i64 0, .slice none 0 0] 24 (0, 0)) := by rw [hW]; exact heap_alloc_new _ _
 have HS0 : Hid (SRd g L lv nv w (some (e0, ⟨⟨xk, xt, xn, xa, xb⟩ :: r, names⟩))) := h
 have HSWW : Hid (SRd g L lv nv W (some (e0, ⟨⟨xk, xt, xn, xa, xb⟩ :: r, names⟩))) := h.keep bW
 have HKW : Hid (W.heap[w.heap.size]? = some (.cells #[.int .i64 0, .string ⟨#[]⟩, .int .i64 0, .slice none 0 0] 24 (0, 0))) := kW
 have HBW : Hid (Below w.heap.size w W) := bW
 have HSW : Hid (W.heap.size = w.heap.size + 1) := sW
 have HL : Hid (L.length ≤ 3000) := hL
 obtain ⟨p, lb, cap, rfl, hp, hd, hnm, hg, hl, hnr, k0, k1, k2, k3, k4, hlg⟩ := HSWW.out.sign
 obtain ⟨c0, c1, _, _, _, _⟩ := b5f hg
 obtain ⟨NL, hNL⟩ : ∃ NL, NL = L.length := ⟨_, rfl⟩
 rw [← hNL] at c0
 have hpN : p < NL := by omega
 have hp3 : (p : Int) ≤ 3000 := by omega
 have HNL : Hid (NL = L.length ∧ p < L.length ∧ L.drop (p + 1) = r ∧ names.length ≤ p) := ⟨hNL, hp, hd, hnm⟩
 have HC : Hid (∀ W', Below W.heap.size W W' → W'.cell? ⟨g, 0, none⟩ = some (.slice (some ⟨lb, 0, none⟩) NL cap) ∧ W'.cell? ⟨g, 1, none⟩ = some (.int .i64 (p : Int)) ∧ W'.cell? ⟨lb, p * 5, none⟩ = some (.int .i64 xk) ∧ W'.cell? ⟨lb, p * 5 + 1, none⟩ = some (.string xt) ∧ W'.cell? ⟨lb, p * 5 + 2, none⟩ = some (.int .i64 xn) ∧ W'.cell? ⟨lb, p * 5 + 3, none⟩ = some (.int .i64 (xa : Int)) ∧ W'.cell? ⟨lb, p * 5 + 4, none⟩ = some (.bool xb)) :=
   fun W' hb => ⟨cell_keep c0 hb, cell_keep c1 hb, cell_keep k0 hb, cell_keep k1 hb, cell_keep k2 hb, cell_keep k3 hb, cell_keep k4 hb⟩
 have HQ : Hid (∀ W', Below W.heap.size W W' → W'.heap[g]? = some (.cells #[.slice (some ⟨lb, 0, none⟩) L.length cap, .int .i64 (p : Int), .bool false, .int .i64 (e0 : Int), nv] 52 (0, 0)) ∧ LIn W' g L (.slice (some ⟨lb, 0, none⟩) L.length cap) ∧ NRow W' (g + 1) names nv) :=
   fun W' hb => ⟨(hb.block g HSWW.out.lt).trans hg, hl.turn fun k hk => hb.block k (by have := HSWW.out.lt; omega), hnr.turn fun b e => hb.block b (hnr.lt b e).2⟩
 clear h bW sW kW hL c0 c1 hNL hp hd hnm hg hl hnr k0 k1 k2 k3 k4
 go_enter Tryz.func60, Tryz.ntmps60
 go_upto_region 1 with fail
 rw [← hW]
 clear hW
 refine wp_region_facts 11 (fun i v S w' => match i with
   | 0 => v = (Value.pointer (some ⟨g, 0, none⟩))
   | 1 => v = (Value.pointer (some ⟨g, 0, none⟩))
   | 2 => v = (Value.pointer (some ⟨g, 0, none⟩))
   | 3 => v = (Value.slice (some ⟨lb, 0, none⟩) NL cap)
   | 4 => v = (Value.pointer (some ⟨g, 0, none⟩))
   | 5 => v = (Value.pointer (some ⟨g, 0, none⟩))
   | 6 => v = (Value.pointer (some ⟨g, 1, none⟩))
   | 7 => v = (Value.int .i64 (p : Int))
   | 8 => v = (Value.pointer (some ⟨lb, p * 5, none⟩))
   | 9 => v = (Value.agg #[.int .i64 xk, .string xt, .int .i64 xn, .int .i64 (xa : Int), .bool xb])
   | _ => ∃ b, v = .pointer (some ⟨b, 0, none⟩) ∧ w'.heap[b]? = some (.cells #[.int .i64 0, .string ⟨#[]⟩, .int .i64 0, .int .i64 0, .bool false] 45 (0, 0)) ∧ W.heap.size ≤ b) (by kernel_rfl) (by kernel_rfl) 122 rfl (by kernel_rfl) ?_ ?_ ?_
 · intro i v S w w' hi h hb
   match i, hi, h with
   | 0, _, h => exact h
   | 1, _, h => exact h
   | 2, _, h => exact h
   | 3, _, h => exact h
   | 4, _, h => exact h
   | 5, _, h => exact h
   | 6, _, h => exact h
   | 7, _, h => exact h
   | 8, _, h => exact h
   | 9, _, h => exact h
   | 10, _, ⟨b, h1, h2, h3⟩ => exact ⟨b, h1, (hb.block b (Array.getElem?_eq_some_iff.1 h2).1).trans h2, h3⟩
 · intro i o hi ho a w' hb hfr hdep
   obtain ⟨y0, y1, z0, z1, z2, z3, z4⟩ := HC.out w' hb
   have u0 : a.tmps.getD 0 undef = (Value.pointer (some ⟨g, 0, none⟩)) := hfr 0 (by decide)
   match i, hi with
   | 0, _ =>
     obtain rfl : _ = o := by simpa using ho
     refine fact_value (w' := w') (v := (Value.pointer (some ⟨g, 0, none⟩))) ?_ (Below.refl _ _) ⟨[], rfl, by simp⟩
     simp only [execOp, Act.eval, u0]
     go_simp
   | 1, _ =>
     obtain rfl : _ = o := by simpa using ho
     obtain ⟨_, h0⟩ : ∃ _ : List Nat, a.tmps.getD 12 undef = (Value.pointer (some ⟨g, 0, none⟩)) := hdep 0 (by kernel_rfl)
     refine fact_value (w' := w') (v := (Value.pointer (some ⟨g, 0, none⟩))) ?_ (Below.refl _ _) ⟨[], rfl, by simp⟩
     simp only [execOp, Act.eval, h0]
     go_simp
   | 2, _ =>
     obtain rfl : _ = o := by simpa using ho
     obtain ⟨_, h1⟩ : ∃ _ : List Nat, a.tmps.getD 13 undef = (Value.pointer (some ⟨g, 0, none⟩)) := hdep 1 (by kernel_rfl)
     refine fact_value (w' := w') (v := (Value.pointer (some ⟨g, 0, none⟩))) ?_ (Below.refl _ _) ⟨[], rfl, by simp⟩
     simp only [execOp, Act.eval, h1]
     go_simp
   | 3, _ =>
     obtain rfl : _ = o := by simpa using ho
     obtain ⟨_, h2⟩ : ∃ _ : List Nat, a.tmps.getD 14 undef = (Value.pointer (some ⟨g, 0, none⟩)) := hdep 2 (by kernel_rfl)
     refine fact_value (w' := w') (v := (Value.slice (some ⟨lb, 0, none⟩) NL cap)) ?_ (Below.refl _ _) ⟨[], rfl, by simp⟩
     simp only [execOp, Act.eval, h2]
     go_simp
   | 4, _ =>
     obtain rfl : _ = o := by simpa using ho
     refine fact_value (w' := w') (v := (Value.pointer (some ⟨g, 0, none⟩))) ?_ (Below.refl _ _) ⟨[], rfl, by simp⟩
     simp only [execOp, Act.eval, u0]
     go_simp
   | 5, _ =>
     obtain rfl : _ = o := by simpa using ho
     obtain ⟨_, h4⟩ : ∃ _ : List Nat, a.tmps.getD 16 undef = (Value.pointer (some ⟨g, 0, none⟩)) := hdep 4 (by kernel_rfl)
     refine fact_value (w' := w') (v := (Value.pointer (some ⟨g, 0, none⟩))) ?_ (Below.refl _ _) ⟨[], rfl, by simp⟩
     simp only [execOp, Act.eval, h4]
     go_simp
   | 6, _ =>
     obtain rfl : _ = o := by simpa using ho
     obtain ⟨_, h5⟩ : ∃ _ : List Nat, a.tmps.getD 17 undef = (Value.pointer (some ⟨g, 0, none⟩)) := hdep 5 (by kernel_rfl)
     refine fact_value (w' := w') (v := (Value.pointer (some ⟨g, 1, none⟩))) ?_ (Below.refl _ _) ⟨[], rfl, by simp⟩
     simp only [execOp, Act.eval, h5]
     go_simp
   | 7, _ =>
     obtain rfl : _ = o := by simpa using ho
     obtain ⟨_, h6⟩ : ∃ _ : List Nat, a.tmps.getD 18 undef = (Value.pointer (some ⟨g, 1, none⟩)) := hdep 6 (by kernel_rfl)
     refine fact_value (w' := w') (v := (Value.int .i64 (p : Int))) ?_ (Below.refl _ _) ⟨[], rfl, by simp⟩
     simp only [execOp, Act.eval, h6]
     go_simp
   | 8, _ =>
     obtain rfl : _ = o := by simpa using ho
     obtain ⟨_, h3⟩ : ∃ _ : List Nat, a.tmps.getD 15 undef = (Value.slice (some ⟨lb, 0, none⟩) NL cap) := hdep 3 (by kernel_rfl)
     obtain ⟨_, h7⟩ : ∃ _ : List Nat, a.tmps.getD 19 undef = (Value.int .i64 (p : Int)) := hdep 7 (by kernel_rfl)
     refine fact_value (w' := w') (v := (Value.pointer (some ⟨lb, p * 5, none⟩))) ?_ (Below.refl _ _) ⟨[], rfl, by simp⟩
     simp only [execOp, Act.eval, h3, h7]
     go_simp
   | 9, _ =>
     obtain rfl : _ = o := by simpa using ho
     obtain ⟨_, h8⟩ : ∃ _ : List Nat, a.tmps.getD 20 undef = (Value.pointer (some ⟨lb, p * 5, none⟩)) := hdep 8 (by kernel_rfl)
     refine fact_value (w' := w') (v := (Value.agg #[.int .i64 xk, .string xt, .int .i64 xn, .int .i64 (xa : Int), .bool xb])) ?_ (Below.refl _ _) ⟨[], rfl, by simp⟩
     simp only [execOp, Act.eval, h8]
     go_simp
   | 10, _ =>
     obtain rfl : _ = o := by simpa using ho
     refine fact_value (w' := w'.alloc (.cells #[.int .i64 0, .string ⟨#[]⟩, .int .i64 0, .int .i64 0, .bool false] 45)) (v := .pointer (some ⟨w'.heap.size, 0, none⟩)) ?_ ((Below.refl _ _).alloc (Nat.le_refl _) _) ⟨[], ⟨w'.heap.size, rfl, heap_alloc_new _ _, hb.size⟩, by simp⟩
     simp only [execOp]
     go_simp
 intro vals S w1 hb hf _
 have v9 : vals 9 = .agg #[.int .i64 xk, .string xt, .int .i64 xn, .int .i64 (xa : Int), .bool xb] := (hf 9 (by omega)).1
 obtain ⟨B6, v10, hk6, hB6⟩ : ∃ b, vals 10 = .pointer (some ⟨b, 0, none⟩) ∧ w1.heap[b]? = some (.cells #[.int .i64 0, .string ⟨#[]⟩, .int .i64 0, .int .i64 0, .bool false] 45 (0, 0)) ∧ W.heap.size ≤ b := (hf 10 (by omega)).1
 simp only [putN, List.getElem?_toArray, List.getElem?_cons_zero, List.getElem?_cons_succ, Option.bind_some, List.drop_succ_cons, List.drop_zero, v9, v10]
 generalize vals 0 = m0
 generalize vals 1 = m1
 generalize vals 2 = m2
 generalize vals 3 = m3
 generalize vals 4 = m4
 generalize vals 5 = m5
 generalize vals 6 = m6
 generalize vals 7 = m7
 generalize vals 8 = m8
 simp only [Act.put, List.setIfInBounds_toArray, List.set_cons_succ, List.set_cons_zero]
 clear hf v9 v10
 obtain ⟨e0', e1', e2', e3', e4', ef⟩ := b5f hk6
 have ef0 := ef 0
 have ef1 := ef 1
 have ef2 := ef 2
 have ef3 := ef 3
 have ef4 := ef 4
 have HK6 : Hid _ := hk6
 have HB1 : Hid (Below W.heap.size W w1) := hb
 clear hk6 hb ef
 go_upto_region 2 with fail
 obtain ⟨V, hV⟩ : ∃ V, V = ((((w1.setCell ⟨B6, 0, none⟩ (.int .i64 xk)).setCell ⟨B6, 1, none⟩ (.string xt)).setCell ⟨B6, 2, none⟩ (.int .i64 xn)).setCell ⟨B6, 3, none⟩ (.int .i64 (xa : Int))).setCell ⟨B6, 4, none⟩ (.bool xb) := ⟨_, rfl⟩
 rw [← hV]
 have HBV : Hid (Below W.heap.size W V) := by rw [hV]; exact below_set (below_set (below_set (below_set (below_set HB1.out hB6 _) hB6 _) hB6 _) hB6 _) hB6 _
 have HKV : Hid (V.heap[B6]? = some (.cells #[.int .i64 xk, .string xt, .int .i64 xn, .int .i64 (xa : Int), .bool xb] 45 (0, 0))) := by
   rw [hV]
   have := set_at5 (i := 4) (set_at5 (i := 3) (set_at5 (i := 2) (set_at5 (i := 1) (set_at5 (i := 0) HK6.out (.int .i64 xk)) (.string xt)) (.int .i64 xn)) (.int .i64 (xa : Int))) (.bool xb)
   show _ = _
   simpa using this
 clear hV HK6 HB1 e0' e1' e2' e3' e4' ef0 ef1 ef2 ef3 ef4
 obtain ⟨d0, d1, d2, d3, d4, _⟩ := b5f HKV.out
 have HSV : Hid (SRd g L (.slice (some ⟨lb, 0, none⟩) L.length cap) nv V (some (e0, ⟨⟨xk, xt, xn, xa, xb⟩ :: r, names⟩))) := HSWW.out.keep HBV.out
 have HB6 : Hid (W.heap.size ≤ B6) := hB6
 have hB6V : B6 < V.heap.size := (Array.getElem?_eq_some_iff.1 HKV.out).1
 have HG0 := HQ.out V HBV.out
 obtain ⟨c0, c1, c2, c3, c4, cf⟩ := b5f HG0.1
 have f1 := cf 1
 have f2 := cf 2
 have hgV : g < V.heap.size := HSV.out.lt
 have hgB : g ≠ B6 := by have := HSWW.out.lt; omega
 clear cf HG0
 have hxb := HXB.out
 subst hxb
 rcases HMM.out with hM | hM
 · have em : (xt.toList == [45]) = true := by rw [hM.1, ByteArray.toList_eq]; rfl
   have HNE := s_near g L _ nv e0 _ _ _ V HL.out HXA.out HSV.out
   rw [hM.2] at HNE
   have HNE : Hid _ := HNE
   clear hM
   go_upto_region 8 with (go_at_call 78; go_loud (refine Calls.mono HNE.out ?_); rintro e w5 ⟨rfl, hb⟩; have HB5 : Hid (Below V.heap.size V w5) := hb; clear hb)
   have HB5W : Hid (Below W.heap.size W w5) := HBV.out.trans (HB5.out.mono HBV.out.size)
   clear c0 c1 c2 c3 c4 f1 f2 d0 d1 d2 d3 d4 em
   have HK5 : Hid (w5.heap[B6]? = some (.cells #[.int .i64 xk, .string xt, .int .i64 xn, .int .i64 (xa : Int), .bool false] 45 (0, 0))) := (HB5.out.block B6 hB6V).trans HKV.out
   obtain ⟨d0, d1, d2, d3, d4, _⟩ := b5f HK5.out
   go_upto_region 9 with (go_at_call 79; go_loud (refine Calls.mono (HP.out _) ?_); rintro e w8 ⟨rfl, hb⟩; have HB8 : Hid (Below w5.heap.size w5 w8) := hb; clear hb)
   clear d0 d1 d2 d3 d4
   obtain ⟨W8, hW8⟩ : ∃ W8, W8 = w8.alloc (.cells #[.string os, .int .i64 o1, .int .i64 o2, .int .i64 o3] 72) := ⟨_, rfl⟩
   rw [← hW8]
   obtain ⟨B7, hB7⟩ : ∃ B7, B7 = w8.heap.size := ⟨_, rfl⟩
   rw [← hB7]
   have b8 : Below w8.heap.size w8 W8 := by rw [hW8]; exact (Below.refl _ _).alloc (Nat.le_refl _) _
   have hs5 := HB5W.out.size
   have hs8 := HB8.out.size
   have b58 : Below w5.heap.size w5 W8 := HB8.out.trans (b8.mono hs8)
   have HB8W : Hid (Below W.heap.size W W8) := HB5W.out.trans (b58.mono hs5)
   have HK7 : Hid (W8.heap[B7]? = some (.cells #[.string os, .int .i64 o1, .int .i64 o2, .int .i64 o3] 72 (0, 0))) := by rw [hW8, hB7]; exact heap_alloc_new _ _
   have HK68 : Hid (W8.heap[B6]? = some (.cells #[.int .i64 xk, .string xt, .int .i64 xn, .int .i64 (xa : Int), .bool false] 45 (0, 0))) := (b58.block B6 (Array.getElem?_eq_some_iff.1 HK5.out).1).trans HK5.out
   have HB7 : Hid (W.heap.size ≤ B7) := by show _ ≤ _; omega
   have HS8 : Hid (SRd g L (.slice (some ⟨lb, 0, none⟩) L.length cap) nv W8 (some (e0, ⟨⟨xk, xt, xn, xa, false⟩ :: r, names⟩))) := HSWW.out.keep HB8W.out
   clear hW8 hB7 b8 hs5 hs8 b58 HK5 HKV HSV hB6V hgV HB8 HB5 HB5W
   have hlt7 : B7 < W8.heap.size := (Array.getElem?_eq_some_iff.1 HK7.out).1
   have hlt6 : B6 < W8.heap.size := (Array.getElem?_eq_some_iff.1 HK68.out).1
   have hgW8 : g < W8.heap.size := HS8.out.lt
   have HG0 := HQ.out W8 HB8W.out
   obtain ⟨c0, c1, c2, c3, c4, cf⟩ := b5f HG0.1
   have f1 := cf 1
   have f2 := cf 2
   clear HG0 cf
   obtain ⟨p0, p1, p2, p3, _⟩ := blk4 HK7.out
   obtain ⟨d0, d1, d2, d3, d4, _⟩ := b5f HK68.out
   have hg7 : g ≠ B7 := by have := HSWW.out.lt; have := HB7.out; omega
   go_upto_region 14 with (go_at_call 66; go_loud (refine Calls.mono (HQI.out _) ?_); rintro e w13 ⟨rfl, hb⟩; have HB13 : Hid (Below W8.heap.size W8 w13) := hb; clear hb)
   obtain ⟨W13, hW13⟩ : ∃ W13, W13 = w13.alloc (.cells #[.string is, .int .i64 i1, .int .i64 i2, .int .i64 i3] 72) := ⟨_, rfl⟩
   rw [← hW13]
   have b13 : Below w13.heap.size w13 W13 := by rw [hW13]; exact (Below.refl _ _).alloc (Nat.le_refl _) _
   have HB813 : Hid (Below W8.heap.size W8 W13) := HB13.out.trans (b13.mono HB13.out.size)
   have HB13W : Hid (Below W.heap.size W W13) := HB8W.out.trans (HB813.out.mono HB8W.out.size)
   have HK613 : Hid (W13.heap[B6]? = some (.cells #[.int .i64 xk, .string xt, .int .i64 xn, .int .i64 (xa : Int), .bool false] 45 (0, 0))) := (HB813.out.block B6 hlt6).trans HK68.out
   have HS13 : Hid (SRd g L (.slice (some ⟨lb, 0, none⟩) L.length cap) nv W13 (some (e0, ⟨⟨xk, xt, xn, xa, false⟩ :: r, names⟩))) := HSWW.out.keep HB13W.out
   clear hW13 b13 c0 c1 c2 c3 c4 f1 f2 d0 d1 d2 d3 d4 p0 p1 p2 p3 hlt6 hlt7 hgW8 hg7
   have HG0 := HQ.out W13 HB13W.out
   obtain ⟨c0, c1, c2, c3, c4, cf⟩ := b5f HG0.1
   have f1 := cf 1
   have f2 := cf 2
   clear HG0 cf
   obtain ⟨d0, d1, d2, d3, d4, _⟩ := b5f HK613.out
   go_upto_region 16 with fail
   obtain ⟨V15, hV15⟩ : ∃ V15, V15 = W13.setCell ⟨g, 2, none⟩ (.bool true) := ⟨_, rfl⟩
   rw [← hV15]
   have HSZ : Hid (SRd g L (.slice (some ⟨lb, 0, none⟩) L.length cap) nv V15 none) := by rw [hV15]; exact HS13.out.fall
   have HXZ : Hid (FX (XS g nv) (XS g nv) W V15) := by rw [hV15]; exact (FX.of_below HB13W.out).trans (FX.set_g _)
   have hk := res_keep HS0.out HSW.out HXZ.out HKW.out
   obtain ⟨z0, z1, z2, z3, q0, q1, q2, q3⟩ := blk4 hk
   have HK9 : Hid _ := hk
   clear hk hV15 c0 c1 c2 c3 c4 f1 f2 d0 d1 d2 d3 d4
   go_wp2
   refine bodyPost_ret_by (results_ct2 rfl _ _ w.heap.size 24 _ (0, 0) _ rfl (blk4_set HK9.out) Tryz.underlying24 rfl (by kernel_rfl)) rfl ?_
   exact ⟨_, 0, rfl, TmR.fin HS0.out HBW.out HSW.out HXZ.out (t := noTm) (TOk.leaf (by decide) (by decide) (by decide)) (fun y hy => by cases hy) HSZ.out, fun y hy => by cases hy⟩
 · have em : (xt.toList == [45]) = false := toL_ne (l := [45]) hM
   clear hM
   go_upto_region 8 with fail
   obtain ⟨w5, hw5⟩ : ∃ w5, w5 = V := ⟨_, rfl⟩
   rw [← hw5]
   have HB5 : Hid (Below V.heap.size V w5) := by rw [hw5]; exact Below.refl _ _
   clear hw5
   have HB5W : Hid (Below W.heap.size W w5) := HBV.out.trans (HB5.out.mono HBV.out.size)
   clear c0 c1 c2 c3 c4 f1 f2 d0 d1 d2 d3 d4 em
   have HK5 : Hid (w5.heap[B6]? = some (.cells #[.int .i64 xk, .string xt, .int .i64 xn, .int .i64 (xa : Int), .bool false] 45 (0, 0))) := (HB5.out.block B6 hB6V).trans HKV.out
   obtain ⟨d0, d1, d2, d3, d4, _⟩ := b5f HK5.out
   go_upto_region 9 with (go_at_call 79; go_loud (refine Calls.mono (HP.out _) ?_); rintro e w8 ⟨rfl, hb⟩; have HB8 : Hid (Below w5.heap.size w5 w8) := hb; clear hb)
   clear d0 d1 d2 d3 d4
   obtain ⟨W8, hW8⟩ : ∃ W8, W8 = w8.alloc (.cells #[.string os, .int .i64 o1, .int .i64 o2, .int .i64 o3] 72) := ⟨_, rfl⟩
   rw [← hW8]
   obtain ⟨B7, hB7⟩ : ∃ B7, B7 = w8.heap.size := ⟨_, rfl⟩
   rw [← hB7]
   have b8 : Below w8.heap.size w8 W8 := by rw [hW8]; exact (Below.refl _ _).alloc (Nat.le_refl _) _
   have hs5 := HB5W.out.size
   have hs8 := HB8.out.size
   have b58 : Below w5.heap.size w5 W8 := HB8.out.trans (b8.mono hs8)
   have HB8W : Hid (Below W.heap.size W W8) := HB5W.out.trans (b58.mono hs5)
   have HK7 : Hid (W8.heap[B7]? = some (.cells #[.string os, .int .i64 o1, .int .i64 o2, .int .i64 o3] 72 (0, 0))) := by rw [hW8, hB7]; exact heap_alloc_new _ _
   have HK68 : Hid (W8.heap[B6]? = some (.cells #[.int .i64 xk, .string xt, .int .i64 xn, .int .i64 (xa : Int), .bool false] 45 (0, 0))) := (b58.block B6 (Array.getElem?_eq_some_iff.1 HK5.out).1).trans HK5.out
   have HB7 : Hid (W.heap.size ≤ B7) := by show _ ≤ _; omega
   have HS8 : Hid (SRd g L (.slice (some ⟨lb, 0, none⟩) L.length cap) nv W8 (some (e0, ⟨⟨xk, xt, xn, xa, false⟩ :: r, names⟩))) := HSWW.out.keep HB8W.out
   clear hW8 hB7 b8 hs5 hs8 b58 HK5 HKV HSV hB6V hgV HB8 HB5 HB5W
   have hlt7 : B7 < W8.heap.size := (Array.getElem?_eq_some_iff.1 HK7.out).1
   have hlt6 : B6 < W8.heap.size := (Array.getElem?_eq_some_iff.1 HK68.out).1
   have hgW8 : g < W8.heap.size := HS8.out.lt
   have HG0 := HQ.out W8 HB8W.out
   obtain ⟨c0, c1, c2, c3, c4, cf⟩ := b5f HG0.1
   have f1 := cf 1
   have f2 := cf 2
   clear HG0 cf
   obtain ⟨p0, p1, p2, p3, _⟩ := blk4 HK7.out
   obtain ⟨d0, d1, d2, d3, d4, _⟩ := b5f HK68.out
   have hg7 : g ≠ B7 := by have := HSWW.out.lt; have := HB7.out; omega
   go_upto_region 14 with (go_at_call 66; go_loud (refine Calls.mono (HQI.out _) ?_); rintro e w13 ⟨rfl, hb⟩; have HB13 : Hid (Below W8.heap.size W8 w13) := hb; clear hb)
   obtain ⟨W13, hW13⟩ : ∃ W13, W13 = w13.alloc (.cells #[.string is, .int .i64 i1, .int .i64 i2, .int .i64 i3] 72) := ⟨_, rfl⟩
   rw [← hW13]
   have b13 : Below w13.heap.size w13 W13 := by rw [hW13]; exact (Below.refl _ _).alloc (Nat.le_refl _) _
   have HB813 : Hid (Below W8.heap.size W8 W13) := HB13.out.trans (b13.mono HB13.out.size)
   have HB13W : Hid (Below W.heap.size W W13) := HB8W.out.trans (HB813.out.mono HB8W.out.size)
   have HK613 : Hid (W13.heap[B6]? = some (.cells #[.int .i64 xk, .string xt, .int .i64 xn, .int .i64 (xa : Int), .bool false] 45 (0, 0))) := (HB813.out.block B6 hlt6).trans HK68.out
   have HS13 : Hid (SRd g L (.slice (some ⟨lb, 0, none⟩) L.length cap) nv W13 (some (e0, ⟨⟨xk, xt, xn, xa, false⟩ :: r, names⟩))) := HSWW.out.keep HB13W.out
   clear hW13 b13 c0 c1 c2 c3 c4 f1 f2 d0 d1 d2 d3 d4 p0 p1 p2 p3 hlt6 hlt7 hgW8 hg7
   have HG0 := HQ.out W13 HB13W.out
   obtain ⟨c0, c1, c2, c3, c4, cf⟩ := b5f HG0.1
   have f1 := cf 1
   have f2 := cf 2
   clear HG0 cf
   obtain ⟨d0, d1, d2, d3, d4, _⟩ := b5f HK613.out
   go_upto_region 16 with fail
   obtain ⟨V15, hV15⟩ : ∃ V15, V15 = W13.setCell ⟨g, 2, none⟩ (.bool true) := ⟨_, rfl⟩
   rw [← hV15]
   have HSZ : Hid (SRd g L (.slice (some ⟨lb, 0, none⟩) L.length cap) nv V15 none) := by rw [hV15]; exact HS13.out.fall
   have HXZ : Hid (FX (XS g nv) (XS g nv) W V15) := by rw [hV15]; exact (FX.of_below HB13W.out).trans (FX.set_g _)
   have hk := res_keep HS0.out HSW.out HXZ.out HKW.out
   obtain ⟨z0, z1, z2, z3, q0, q1, q2, q3⟩ := blk4 hk
   have HK9 : Hid _ := hk
   clear hk hV15 c0 c1 c2 c3 c4 f1 f2 d0 d1 d2 d3 d4
   go_wp2
   refine bodyPost_ret_by (results_ct2 rfl _ _ w.heap.size 24 _ (0, 0) _ rfl (blk4_set HK9.out) Tryz.underlying24 rfl (by kernel_rfl)) rfl ?_
   exact ⟨_, 0, rfl, TmR.fin HS0.out HBW.out HSW.out HXZ.out (t := noTm) (TOk.leaf (by decide) (by decide) (by decide)) (fun y hy => by cases hy) HSZ.out, fun y hy => by cases hy⟩
set_option maxHeartbeats 8000000 in
set_option maxRecDepth 20000 in
theorem s_at_bad2 (f g : Nat) (L : List Sg) (lv nv : Value) (e0 : Nat) (most : Int) (xk : Int) (xt : ByteArray) (xn : Int) (xa : Nat) (xb : Bool) (r : List Sg) (names : List ByteArray) (w : World) (hL : L.length ≤ 3000) (hxa : xa ≤ 100000) (h : SRd g L lv nv w (some (e0, ⟨⟨xk, xt, xn, xa, xb⟩ :: r, names⟩))) (hxb : xb = false) (hM : (xt = cMinus ∧ nearO ⟨xk, xt, xn, xa, xb⟩ r = false) ∨ xt ≠ cMinus) (hop : prefixP xt = none) (hinf : (infixP xt).isSome = true) :
   Calls Tryz.prog 60 #[.pointer (some ⟨g, 0, none⟩), .int .i64 most] w fun e w' => ∃ v pr, e = .returned (.tuple #[v, .int .i64 pr]) ∧ TmR g L lv nv w v w' ((atomO true (termO true f) most ⟨xk, xt, xn, xa, xb⟩ r names).map fun y => (y.1, y.2.2)) e0 ∧ (∀ y, atomO true (termO true f) most ⟨xk, xt, xn, xa, xb⟩ r names = some y → pr = y.2.1) := by
 obtain ⟨oo, hoo⟩ : ∃ oo, oo = prefixP xt := ⟨_, rfl⟩
 have HP0 := fun wq => c_prefix xt wq
 rw [← hoo] at HP0
 obtain ⟨os, o1, o2, o3, eo⟩ := opV_shape oo
 rw [eo] at HP0
 obtain ⟨ii, hii⟩ : ∃ ii, ii = infixP xt := ⟨_, rfl⟩
 have HQ0 := fun wq => c_infix xt wq
 rw [← hii] at HQ0
 obtain ⟨is, i1, i2, i3, ei⟩ := opV_shape ii
 rw [ei] at HQ0
 obtain ⟨ob, hob⟩ : ∃ ob, ob = oo.isSome := ⟨_, rfl⟩
 obtain ⟨ib, hib⟩ : ∃ ib, ib = ii.isSome := ⟨_, rfl⟩
 rw [← hob] at HP0
 rw [← hib] at HQ0
 have eR : atomO true (termO true f) most ⟨xk, xt, xn, xa, xb⟩ r names = none := by
   unfold atomO
   simp only [hxb, Bool.false_eq_true, if_false]
   rw [if_neg (by
     rintro ⟨h1, h2⟩
     rcases hM with ⟨_, h3⟩ | h3
     · rw [hxb] at h3; rw [h2] at h3; cases h3
     · exact h3 h1)]
   rw [hop]
   simp only
   rw [if_pos hinf]
 obtain rfl : ob = false := by rw [hob, hoo, hop]; rfl
 obtain rfl : ib = true := by rw [hib, hii]; exact hinf
 clear hop hinf
 rw [eR]
 have HP : Hid _ := HP0
 have HQI : Hid _ := HQ0
 clear eR hoo hii eo ei HP0 HQ0 hob hib
 have HXB : Hid (xb = false) := hxb
 have HMM : Hid ((xt = cMinus ∧ nearO ⟨xk, xt, xn, xa, xb⟩ r = false) ∨ xt ≠ cMinus) := hM
 have HXA : Hid (xa ≤ 100000) := hxa
 clear hxb hM hxa
 obtain ⟨W, hW⟩ : ∃ W, W = w.alloc (.cells #[.int .i64 0, .string ⟨#[]⟩, .int .i64 0, .slice none 0 0] 24) := ⟨_, rfl⟩
 have bW : Below w.heap.size w W := by rw [hW]; exact (Below.refl _ _).alloc (Nat.le_refl _) _
 have sW : W.heap.size = w.heap.size + 1 := by rw [hW]; simp
 have kW : W.heap[w.heap.size]? = some (.cells #[.int .i64 0, .string ⟨#[]⟩, .int .i64 0, .slice none 0 0] 24 (0, 0)) := by rw [hW]; exact heap_alloc_new _ _
 have HS0 : Hid (SRd g L lv nv w (some (e0, ⟨⟨xk, xt, xn, xa, xb⟩ :: r, names⟩))) := h
 have HSWW : Hid (SRd g L lv nv W (some (e0, ⟨⟨xk, xt, xn, xa, xb⟩ :: r, names⟩))) := h.keep bW
 have HKW : Hid (W.heap[w.heap.size]? = some (.cells #[.int .i64 0, .string ⟨#[]⟩, .int .i64 0, .slice none 0 0] 24 (0, 0))) := kW
 have HBW : Hid (Below w.heap.size w W) := bW
 have HSW : Hid (W.heap.size = w.heap.size + 1) := sW
 have HL : Hid (L.length ≤ 3000) := hL
 obtain ⟨p, lb, cap, rfl, hp, hd, hnm, hg, hl, hnr, k0, k1, k2, k3, k4, hlg⟩ := HSWW.out.sign
 obtain ⟨c0, c1, _, _, _, _⟩ := b5f hg
 obtain ⟨NL, hNL⟩ : ∃ NL, NL = L.length := ⟨_, rfl⟩
 rw [← hNL] at c0
 have hpN : p < NL := by omega
 have hp3 : (p : Int) ≤ 3000 := by omega
 have HNL : Hid (NL = L.length ∧ p < L.length ∧ L.drop (p + 1) = r ∧ names.length ≤ p) := ⟨hNL, hp, hd, hnm⟩
 have HC : Hid (∀ W', Below W.heap.size W W' → W'.cell? ⟨g, 0, none⟩ = some (.slice (some ⟨lb, 0, none⟩) NL cap) ∧ W'.cell? ⟨g, 1, none⟩ = some (.int .i64 (p : Int)) ∧ W'.cell? ⟨lb, p * 5, none⟩ = some (.int .i64 xk) ∧ W'.cell? ⟨lb, p * 5 + 1, none⟩ = some (.string xt) ∧ W'.cell? ⟨lb, p * 5 + 2, none⟩ = some (.int .i64 xn) ∧ W'.cell? ⟨lb, p * 5 + 3, none⟩ = some (.int .i64 (xa : Int)) ∧ W'.cell? ⟨lb, p * 5 + 4, none⟩ = some (.bool xb)) :=
   fun W' hb => ⟨cell_keep c0 hb, cell_keep c1 hb, cell_keep k0 hb, cell_keep k1 hb, cell_keep k2 hb, cell_keep k3 hb, cell_keep k4 hb⟩
 have HQ : Hid (∀ W', Below W.heap.size W W' → W'.heap[g]? = some (.cells #[.slice (some ⟨lb, 0, none⟩) L.length cap, .int .i64 (p : Int), .bool false, .int .i64 (e0 : Int), nv] 52 (0, 0)) ∧ LIn W' g L (.slice (some ⟨lb, 0, none⟩) L.length cap) ∧ NRow W' (g + 1) names nv) :=
   fun W' hb => ⟨(hb.block g HSWW.out.lt).trans hg, hl.turn fun k hk => hb.block k (by have := HSWW.out.lt; omega), hnr.turn fun b e => hb.block b (hnr.lt b e).2⟩
 clear h bW sW kW hL c0 c1 hNL hp hd hnm hg hl hnr k0 k1 k2 k3 k4
 go_enter Tryz.func60, Tryz.ntmps60
 go_upto_region 1 with fail
 rw [← hW]
 clear hW
 refine wp_region_facts 11 (fun i v S w' => match i with
   | 0 => v = (Value.pointer (some ⟨g, 0, none⟩))
   | 1 => v = (Value.pointer (some ⟨g, 0, none⟩))
   | 2 => v = (Value.pointer (some ⟨g, 0, none⟩))
   | 3 => v = (Value.slice (some ⟨lb, 0, none⟩) NL cap)
   | 4 => v = (Value.pointer (some ⟨g, 0, none⟩))
   | 5 => v = (Value.pointer (some ⟨g, 0, none⟩))
   | 6 => v = (Value.pointer (some ⟨g, 1, none⟩))
   | 7 => v = (Value.int .i64 (p : Int))
   | 8 => v = (Value.pointer (some ⟨lb, p * 5, none⟩))
   | 9 => v = (Value.agg #[.int .i64 xk, .string xt, .int .i64 xn, .int .i64 (xa : Int), .bool xb])
   | _ => ∃ b, v = .pointer (some ⟨b, 0, none⟩) ∧ w'.heap[b]? = some (.cells #[.int .i64 0, .string ⟨#[]⟩, .int .i64 0, .int .i64 0, .bool false] 45 (0, 0)) ∧ W.heap.size ≤ b) (by kernel_rfl) (by kernel_rfl) 122 rfl (by kernel_rfl) ?_ ?_ ?_
 · intro i v S w w' hi h hb
   match i, hi, h with
   | 0, _, h => exact h
   | 1, _, h => exact h
   | 2, _, h => exact h
   | 3, _, h => exact h
   | 4, _, h => exact h
   | 5, _, h => exact h
   | 6, _, h => exact h
   | 7, _, h => exact h
   | 8, _, h => exact h
   | 9, _, h => exact h
   | 10, _, ⟨b, h1, h2, h3⟩ => exact ⟨b, h1, (hb.block b (Array.getElem?_eq_some_iff.1 h2).1).trans h2, h3⟩
 · intro i o hi ho a w' hb hfr hdep
   obtain ⟨y0, y1, z0, z1, z2, z3, z4⟩ := HC.out w' hb
   have u0 : a.tmps.getD 0 undef = (Value.pointer (some ⟨g, 0, none⟩)) := hfr 0 (by decide)
   match i, hi with
   | 0, _ =>
     obtain rfl : _ = o := by simpa using ho
     refine fact_value (w' := w') (v := (Value.pointer (some ⟨g, 0, none⟩))) ?_ (Below.refl _ _) ⟨[], rfl, by simp⟩
     simp only [execOp, Act.eval, u0]
     go_simp
   | 1, _ =>
     obtain rfl : _ = o := by simpa using ho
     obtain ⟨_, h0⟩ : ∃ _ : List Nat, a.tmps.getD 12 undef = (Value.pointer (some ⟨g, 0, none⟩)) := hdep 0 (by kernel_rfl)
     refine fact_value (w' := w') (v := (Value.pointer (some ⟨g, 0, none⟩))) ?_ (Below.refl _ _) ⟨[], rfl, by simp⟩
     simp only [execOp, Act.eval, h0]
     go_simp
   | 2, _ =>
     obtain rfl : _ = o := by simpa using ho
     obtain ⟨_, h1⟩ : ∃ _ : List Nat, a.tmps.getD 13 undef = (Value.pointer (some ⟨g, 0, none⟩)) := hdep 1 (by kernel_rfl)
     refine fact_value (w' := w') (v := (Value.pointer (some ⟨g, 0, none⟩))) ?_ (Below.refl _ _) ⟨[], rfl, by simp⟩
     simp only [execOp, Act.eval, h1]
     go_simp
   | 3, _ =>
     obtain rfl : _ = o := by simpa using ho
     obtain ⟨_, h2⟩ : ∃ _ : List Nat, a.tmps.getD 14 undef = (Value.pointer (some ⟨g, 0, none⟩)) := hdep 2 (by kernel_rfl)
     refine fact_value (w' := w') (v := (Value.slice (some ⟨lb, 0, none⟩) NL cap)) ?_ (Below.refl _ _) ⟨[], rfl, by simp⟩
     simp only [execOp, Act.eval, h2]
     go_simp
   | 4, _ =>
     obtain rfl : _ = o := by simpa using ho
     refine fact_value (w' := w') (v := (Value.pointer (some ⟨g, 0, none⟩))) ?_ (Below.refl _ _) ⟨[], rfl, by simp⟩
     simp only [execOp, Act.eval, u0]
     go_simp
   | 5, _ =>
     obtain rfl : _ = o := by simpa using ho
     obtain ⟨_, h4⟩ : ∃ _ : List Nat, a.tmps.getD 16 undef = (Value.pointer (some ⟨g, 0, none⟩)) := hdep 4 (by kernel_rfl)
     refine fact_value (w' := w') (v := (Value.pointer (some ⟨g, 0, none⟩))) ?_ (Below.refl _ _) ⟨[], rfl, by simp⟩
     simp only [execOp, Act.eval, h4]
     go_simp
   | 6, _ =>
     obtain rfl : _ = o := by simpa using ho
     obtain ⟨_, h5⟩ : ∃ _ : List Nat, a.tmps.getD 17 undef = (Value.pointer (some ⟨g, 0, none⟩)) := hdep 5 (by kernel_rfl)
     refine fact_value (w' := w') (v := (Value.pointer (some ⟨g, 1, none⟩))) ?_ (Below.refl _ _) ⟨[], rfl, by simp⟩
     simp only [execOp, Act.eval, h5]
     go_simp
   | 7, _ =>
     obtain rfl : _ = o := by simpa using ho
     obtain ⟨_, h6⟩ : ∃ _ : List Nat, a.tmps.getD 18 undef = (Value.pointer (some ⟨g, 1, none⟩)) := hdep 6 (by kernel_rfl)
     refine fact_value (w' := w') (v := (Value.int .i64 (p : Int))) ?_ (Below.refl _ _) ⟨[], rfl, by simp⟩
     simp only [execOp, Act.eval, h6]
     go_simp
   | 8, _ =>
     obtain rfl : _ = o := by simpa using ho
     obtain ⟨_, h3⟩ : ∃ _ : List Nat, a.tmps.getD 15 undef = (Value.slice (some ⟨lb, 0, none⟩) NL cap) := hdep 3 (by kernel_rfl)
     obtain ⟨_, h7⟩ : ∃ _ : List Nat, a.tmps.getD 19 undef = (Value.int .i64 (p : Int)) := hdep 7 (by kernel_rfl)
     refine fact_value (w' := w') (v := (Value.pointer (some ⟨lb, p * 5, none⟩))) ?_ (Below.refl _ _) ⟨[], rfl, by simp⟩
     simp only [execOp, Act.eval, h3, h7]
     go_simp
   | 9, _ =>
     obtain rfl : _ = o := by simpa using ho
     obtain ⟨_, h8⟩ : ∃ _ : List Nat, a.tmps.getD 20 undef = (Value.pointer (some ⟨lb, p * 5, none⟩)) := hdep 8 (by kernel_rfl)
     refine fact_value (w' := w') (v := (Value.agg #[.int .i64 xk, .string xt, .int .i64 xn, .int .i64 (xa : Int), .bool xb])) ?_ (Below.refl _ _) ⟨[], rfl, by simp⟩
     simp only [execOp, Act.eval, h8]
     go_simp
   | 10, _ =>
     obtain rfl : _ = o := by simpa using ho
     refine fact_value (w' := w'.alloc (.cells #[.int .i64 0, .string ⟨#[]⟩, .int .i64 0, .int .i64 0, .bool false] 45)) (v := .pointer (some ⟨w'.heap.size, 0, none⟩)) ?_ ((Below.refl _ _).alloc (Nat.le_refl _) _) ⟨[], ⟨w'.heap.size, rfl, heap_alloc_new _ _, hb.size⟩, by simp⟩
     simp only [execOp]
     go_simp
 intro vals S w1 hb hf _
 have v9 : vals 9 = .agg #[.int .i64 xk, .string xt, .int .i64 xn, .int .i64 (xa : Int), .bool xb] := (hf 9 (by omega)).1
 obtain ⟨B6, v10, hk6, hB6⟩ : ∃ b, vals 10 = .pointer (some ⟨b, 0, none⟩) ∧ w1.heap[b]? = some (.cells #[.int .i64 0, .string ⟨#[]⟩, .int .i64 0, .int .i64 0, .bool false] 45 (0, 0)) ∧ W.heap.size ≤ b := (hf 10 (by omega)).1
 simp only [putN, List.getElem?_toArray, List.getElem?_cons_zero, List.getElem?_cons_succ, Option.bind_some, List.drop_succ_cons, List.drop_zero, v9, v10]
 generalize vals 0 = m0
 generalize vals 1 = m1
 generalize vals 2 = m2
 generalize vals 3 = m3
 generalize vals 4 = m4
 generalize vals 5 = m5
 generalize vals 6 = m6
 generalize vals 7 = m7
 generalize vals 8 = m8
 simp only [Act.put, List.setIfInBounds_toArray, List.set_cons_succ, List.set_cons_zero]
 clear hf v9 v10
 obtain ⟨e0', e1', e2', e3', e4', ef⟩ := b5f hk6
 have ef0 := ef 0
 have ef1 := ef 1
 have ef2 := ef 2
 have ef3 := ef 3
 have ef4 := ef 4
 have HK6 : Hid _ := hk6
 have HB1 : Hid (Below W.heap.size W w1) := hb
 clear hk6 hb ef
 go_upto_region 2 with fail
 obtain ⟨V, hV⟩ : ∃ V, V = ((((w1.setCell ⟨B6, 0, none⟩ (.int .i64 xk)).setCell ⟨B6, 1, none⟩ (.string xt)).setCell ⟨B6, 2, none⟩ (.int .i64 xn)).setCell ⟨B6, 3, none⟩ (.int .i64 (xa : Int))).setCell ⟨B6, 4, none⟩ (.bool xb) := ⟨_, rfl⟩
 rw [← hV]
 have HBV : Hid (Below W.heap.size W V) := by rw [hV]; exact below_set (below_set (below_set (below_set (below_set HB1.out hB6 _) hB6 _) hB6 _) hB6 _) hB6 _
 have HKV : Hid (V.heap[B6]? = some (.cells #[.int .i64 xk, .string xt, .int .i64 xn, .int .i64 (xa : Int), .bool xb] 45 (0, 0))) := by
   rw [hV]
   have := set_at5 (i := 4) (set_at5 (i := 3) (set_at5 (i := 2) (set_at5 (i := 1) (set_at5 (i := 0) HK6.out (.int .i64 xk)) (.string xt)) (.int .i64 xn)) (.int .i64 (xa : Int))) (.bool xb)
   show _ = _
   simpa using this
 clear hV HK6 HB1 e0' e1' e2' e3' e4' ef0 ef1 ef2 ef3 ef4
 obtain ⟨d0, d1, d2, d3, d4, _⟩ := b5f HKV.out
 have HSV : Hid (SRd g L (.slice (some ⟨lb, 0, none⟩) L.length cap) nv V (some (e0, ⟨⟨xk, xt, xn, xa, xb⟩ :: r, names⟩))) := HSWW.out.keep HBV.out
 have HB6 : Hid (W.heap.size ≤ B6) := hB6
 have hB6V : B6 < V.heap.size := (Array.getElem?_eq_some_iff.1 HKV.out).1
 have HG0 := HQ.out V HBV.out
 obtain ⟨c0, c1, c2, c3, c4, cf⟩ := b5f HG0.1
 have f1 := cf 1
 have f2 := cf 2
 have hgV : g < V.heap.size := HSV.out.lt
 have hgB : g ≠ B6 := by have := HSWW.out.lt; omega
 clear cf HG0
 have hxb := HXB.out
 subst hxb
 rcases HMM.out with hM | hM
 · have em : (xt.toList == [45]) = true := by rw [hM.1, ByteArray.toList_eq]; rfl
   have HNE := s_near g L _ nv e0 _ _ _ V HL.out HXA.out HSV.out
   rw [hM.2] at HNE
   have HNE : Hid _ := HNE
   clear hM
   go_upto_region 8 with (go_at_call 78; go_loud (refine Calls.mono HNE.out ?_); rintro e w5 ⟨rfl, hb⟩; have HB5 : Hid (Below V.heap.size V w5) := hb; clear hb)
   have HB5W : Hid (Below W.heap.size W w5) := HBV.out.trans (HB5.out.mono HBV.out.size)
   clear c0 c1 c2 c3 c4 f1 f2 d0 d1 d2 d3 d4 em
   have HK5 : Hid (w5.heap[B6]? = some (.cells #[.int .i64 xk, .string xt, .int .i64 xn, .int .i64 (xa : Int), .bool false] 45 (0, 0))) := (HB5.out.block B6 hB6V).trans HKV.out
   obtain ⟨d0, d1, d2, d3, d4, _⟩ := b5f HK5.out
   go_upto_region 9 with (go_at_call 79; go_loud (refine Calls.mono (HP.out _) ?_); rintro e w8 ⟨rfl, hb⟩; have HB8 : Hid (Below w5.heap.size w5 w8) := hb; clear hb)
   clear d0 d1 d2 d3 d4
   obtain ⟨W8, hW8⟩ : ∃ W8, W8 = w8.alloc (.cells #[.string os, .int .i64 o1, .int .i64 o2, .int .i64 o3] 72) := ⟨_, rfl⟩
   rw [← hW8]
   obtain ⟨B7, hB7⟩ : ∃ B7, B7 = w8.heap.size := ⟨_, rfl⟩
   rw [← hB7]
   have b8 : Below w8.heap.size w8 W8 := by rw [hW8]; exact (Below.refl _ _).alloc (Nat.le_refl _) _
   have hs5 := HB5W.out.size
   have hs8 := HB8.out.size
   have b58 : Below w5.heap.size w5 W8 := HB8.out.trans (b8.mono hs8)
   have HB8W : Hid (Below W.heap.size W W8) := HB5W.out.trans (b58.mono hs5)
   have HK7 : Hid (W8.heap[B7]? = some (.cells #[.string os, .int .i64 o1, .int .i64 o2, .int .i64 o3] 72 (0, 0))) := by rw [hW8, hB7]; exact heap_alloc_new _ _
   have HK68 : Hid (W8.heap[B6]? = some (.cells #[.int .i64 xk, .string xt, .int .i64 xn, .int .i64 (xa : Int), .bool false] 45 (0, 0))) := (b58.block B6 (Array.getElem?_eq_some_iff.1 HK5.out).1).trans HK5.out
   have HB7 : Hid (W.heap.size ≤ B7) := by show _ ≤ _; omega
   have HS8 : Hid (SRd g L (.slice (some ⟨lb, 0, none⟩) L.length cap) nv W8 (some (e0, ⟨⟨xk, xt, xn, xa, false⟩ :: r, names⟩))) := HSWW.out.keep HB8W.out
   clear hW8 hB7 b8 hs5 hs8 b58 HK5 HKV HSV hB6V hgV HB8 HB5 HB5W
   have hlt7 : B7 < W8.heap.size := (Array.getElem?_eq_some_iff.1 HK7.out).1
   have hlt6 : B6 < W8.heap.size := (Array.getElem?_eq_some_iff.1 HK68.out).1
   have hgW8 : g < W8.heap.size := HS8.out.lt
   have HG0 := HQ.out W8 HB8W.out
   obtain ⟨c0, c1, c2, c3, c4, cf⟩ := b5f HG0.1
   have f1 := cf 1
   have f2 := cf 2
   clear HG0 cf
   obtain ⟨p0, p1, p2, p3, _⟩ := blk4 HK7.out
   obtain ⟨d0, d1, d2, d3, d4, _⟩ := b5f HK68.out
   have hg7 : g ≠ B7 := by have := HSWW.out.lt; have := HB7.out; omega
   go_upto_region 14 with (go_at_call 66; go_loud (refine Calls.mono (HQI.out _) ?_); rintro e w13 ⟨rfl, hb⟩; have HB13 : Hid (Below W8.heap.size W8 w13) := hb; clear hb)
   obtain ⟨W13, hW13⟩ : ∃ W13, W13 = w13.alloc (.cells #[.string is, .int .i64 i1, .int .i64 i2, .int .i64 i3] 72) := ⟨_, rfl⟩
   rw [← hW13]
   have b13 : Below w13.heap.size w13 W13 := by rw [hW13]; exact (Below.refl _ _).alloc (Nat.le_refl _) _
   have HB813 : Hid (Below W8.heap.size W8 W13) := HB13.out.trans (b13.mono HB13.out.size)
   have HB13W : Hid (Below W.heap.size W W13) := HB8W.out.trans (HB813.out.mono HB8W.out.size)
   have HK613 : Hid (W13.heap[B6]? = some (.cells #[.int .i64 xk, .string xt, .int .i64 xn, .int .i64 (xa : Int), .bool false] 45 (0, 0))) := (HB813.out.block B6 hlt6).trans HK68.out
   have HS13 : Hid (SRd g L (.slice (some ⟨lb, 0, none⟩) L.length cap) nv W13 (some (e0, ⟨⟨xk, xt, xn, xa, false⟩ :: r, names⟩))) := HSWW.out.keep HB13W.out
   clear hW13 b13 c0 c1 c2 c3 c4 f1 f2 d0 d1 d2 d3 d4 p0 p1 p2 p3 hlt6 hlt7 hgW8 hg7
   have HG0 := HQ.out W13 HB13W.out
   obtain ⟨c0, c1, c2, c3, c4, cf⟩ := b5f HG0.1
   have f1 := cf 1
   have f2 := cf 2
   clear HG0 cf
   obtain ⟨d0, d1, d2, d3, d4, _⟩ := b5f HK613.out
   go_upto_region 16 with fail
   obtain ⟨V15, hV15⟩ : ∃ V15, V15 = W13.setCell ⟨g, 2, none⟩ (.bool true) := ⟨_, rfl⟩
   rw [← hV15]
   have HSZ : Hid (SRd g L (.slice (some ⟨lb, 0, none⟩) L.length cap) nv V15 none) := by rw [hV15]; exact HS13.out.fall
   have HXZ : Hid (FX (XS g nv) (XS g nv) W V15) := by rw [hV15]; exact (FX.of_below HB13W.out).trans (FX.set_g _)
   have hk := res_keep HS0.out HSW.out HXZ.out HKW.out
   obtain ⟨z0, z1, z2, z3, q0, q1, q2, q3⟩ := blk4 hk
   have HK9 : Hid _ := hk
   clear hk hV15 c0 c1 c2 c3 c4 f1 f2 d0 d1 d2 d3 d4
   go_wp2
   refine bodyPost_ret_by (results_ct2 rfl _ _ w.heap.size 24 _ (0, 0) _ rfl (blk4_set HK9.out) Tryz.underlying24 rfl (by kernel_rfl)) rfl ?_
   exact ⟨_, 0, rfl, TmR.fin HS0.out HBW.out HSW.out HXZ.out (t := noTm) (TOk.leaf (by decide) (by decide) (by decide)) (fun y hy => by cases hy) HSZ.out, fun y hy => by cases hy⟩
 · have em : (xt.toList == [45]) = false := toL_ne (l := [45]) hM
   clear hM
   go_upto_region 8 with fail
   obtain ⟨w5, hw5⟩ : ∃ w5, w5 = V := ⟨_, rfl⟩
   rw [← hw5]
   have HB5 : Hid (Below V.heap.size V w5) := by rw [hw5]; exact Below.refl _ _
   clear hw5
   have HB5W : Hid (Below W.heap.size W w5) := HBV.out.trans (HB5.out.mono HBV.out.size)
   clear c0 c1 c2 c3 c4 f1 f2 d0 d1 d2 d3 d4 em
   have HK5 : Hid (w5.heap[B6]? = some (.cells #[.int .i64 xk, .string xt, .int .i64 xn, .int .i64 (xa : Int), .bool false] 45 (0, 0))) := (HB5.out.block B6 hB6V).trans HKV.out
   obtain ⟨d0, d1, d2, d3, d4, _⟩ := b5f HK5.out
   go_upto_region 9 with (go_at_call 79; go_loud (refine Calls.mono (HP.out _) ?_); rintro e w8 ⟨rfl, hb⟩; have HB8 : Hid (Below w5.heap.size w5 w8) := hb; clear hb)
   clear d0 d1 d2 d3 d4
   obtain ⟨W8, hW8⟩ : ∃ W8, W8 = w8.alloc (.cells #[.string os, .int .i64 o1, .int .i64 o2, .int .i64 o3] 72) := ⟨_, rfl⟩
   rw [← hW8]
   obtain ⟨B7, hB7⟩ : ∃ B7, B7 = w8.heap.size := ⟨_, rfl⟩
   rw [← hB7]
   have b8 : Below w8.heap.size w8 W8 := by rw [hW8]; exact (Below.refl _ _).alloc (Nat.le_refl _) _
   have hs5 := HB5W.out.size
   have hs8 := HB8.out.size
   have b58 : Below w5.heap.size w5 W8 := HB8.out.trans (b8.mono hs8)
   have HB8W : Hid (Below W.heap.size W W8) := HB5W.out.trans (b58.mono hs5)
   have HK7 : Hid (W8.heap[B7]? = some (.cells #[.string os, .int .i64 o1, .int .i64 o2, .int .i64 o3] 72 (0, 0))) := by rw [hW8, hB7]; exact heap_alloc_new _ _
   have HK68 : Hid (W8.heap[B6]? = some (.cells #[.int .i64 xk, .string xt, .int .i64 xn, .int .i64 (xa : Int), .bool false] 45 (0, 0))) := (b58.block B6 (Array.getElem?_eq_some_iff.1 HK5.out).1).trans HK5.out
   have HB7 : Hid (W.heap.size ≤ B7) := by show _ ≤ _; omega
   have HS8 : Hid (SRd g L (.slice (some ⟨lb, 0, none⟩) L.length cap) nv W8 (some (e0, ⟨⟨xk, xt, xn, xa, false⟩ :: r, names⟩))) := HSWW.out.keep HB8W.out
   clear hW8 hB7 b8 hs5 hs8 b58 HK5 HKV HSV hB6V hgV HB8 HB5 HB5W
   have hlt7 : B7 < W8.heap.size := (Array.getElem?_eq_some_iff.1 HK7.out).1
   have hlt6 : B6 < W8.heap.size := (Array.getElem?_eq_some_iff.1 HK68.out).1
   have hgW8 : g < W8.heap.size := HS8.out.lt
   have HG0 := HQ.out W8 HB8W.out
   obtain ⟨c0, c1, c2, c3, c4, cf⟩ := b5f HG0.1
   have f1 := cf 1
   have f2 := cf 2
   clear HG0 cf
   obtain ⟨p0, p1, p2, p3, _⟩ := blk4 HK7.out
   obtain ⟨d0, d1, d2, d3, d4, _⟩ := b5f HK68.out
   have hg7 : g ≠ B7 := by have := HSWW.out.lt; have := HB7.out; omega
   go_upto_region 14 with (go_at_call 66; go_loud (refine Calls.mono (HQI.out _) ?_); rintro e w13 ⟨rfl, hb⟩; have HB13 : Hid (Below W8.heap.size W8 w13) := hb; clear hb)
   obtain ⟨W13, hW13⟩ : ∃ W13, W13 = w13.alloc (.cells #[.string is, .int .i64 i1, .int .i64 i2, .int .i64 i3] 72) := ⟨_, rfl⟩
   rw [← hW13]
   have b13 : Below w13.heap.size w13 W13 := by rw [hW13]; exact (Below.refl _ _).alloc (Nat.le_refl _) _
   have HB813 : Hid (Below W8.heap.size W8 W13) := HB13.out.trans (b13.mono HB13.out.size)
   have HB13W : Hid (Below W.heap.size W W13) := HB8W.out.trans (HB813.out.mono HB8W.out.size)
   have HK613 : Hid (W13.heap[B6]? = some (.cells #[.int .i64 xk, .string xt, .int .i64 xn, .int .i64 (xa : Int), .bool false] 45 (0, 0))) := (HB813.out.block B6 hlt6).trans HK68.out
   have HS13 : Hid (SRd g L (.slice (some ⟨lb, 0, none⟩) L.length cap) nv W13 (some (e0, ⟨⟨xk, xt, xn, xa, false⟩ :: r, names⟩))) := HSWW.out.keep HB13W.out
   clear hW13 b13 c0 c1 c2 c3 c4 f1 f2 d0 d1 d2 d3 d4 p0 p1 p2 p3 hlt6 hlt7 hgW8 hg7
   have HG0 := HQ.out W13 HB13W.out
   obtain ⟨c0, c1, c2, c3, c4, cf⟩ := b5f HG0.1
   have f1 := cf 1
   have f2 := cf 2
   clear HG0 cf
   obtain ⟨d0, d1, d2, d3, d4, _⟩ := b5f HK613.out
   go_upto_region 16 with fail
   obtain ⟨V15, hV15⟩ : ∃ V15, V15 = W13.setCell ⟨g, 2, none⟩ (.bool true) := ⟨_, rfl⟩
   rw [← hV15]
   have HSZ : Hid (SRd g L (.slice (some ⟨lb, 0, none⟩) L.length cap) nv V15 none) := by rw [hV15]; exact HS13.out.fall
   have HXZ : Hid (FX (XS g nv) (XS g nv) W V15) := by rw [hV15]; exact (FX.of_below HB13W.out).trans (FX.set_g _)
   have hk := res_keep HS0.out HSW.out HXZ.out HKW.out
   obtain ⟨z0, z1, z2, z3, q0, q1, q2, q3⟩ := blk4 hk
   have HK9 : Hid _ := hk
   clear hk hV15 c0 c1 c2 c3 c4 f1 f2 d0 d1 d2 d3 d4
   go_wp2
   refine bodyPost_ret_by (results_ct2 rfl _ _ w.heap.size 24 _ (0, 0) _ rfl (blk4_set HK9.out) Tryz.underlying24 rfl (by kernel_rfl)) rfl ?_
   exact ⟨_, 0, rfl, TmR.fin HS0.out HBW.out HSW.out HXZ.out (t := noTm) (TOk.leaf (by decide) (by decide) (by decide)) (fun y hy => by cases hy) HSZ.out, fun y hy => by cases hy⟩
set_option maxHeartbeats 8000000 in
set_option maxRecDepth 20000 in
theorem s_at_plain (f g : Nat) (L : List Sg) (lv nv : Value) (e0 : Nat) (most : Int) (xk : Int) (xt : ByteArray) (xn : Int) (xa : Nat) (xb : Bool) (r : List Sg) (names : List ByteArray) (w : World) (hL : L.length ≤ 3000) (hxs : xt.size ≤ maxLen) (hxa : xa ≤ 100000) (h : SRd g L lv nv w (some (e0, ⟨⟨xk, xt, xn, xa, xb⟩ :: r, names⟩))) (hxb : xb = false) (hM : (xt = cMinus ∧ nearO ⟨xk, xt, xn, xa, xb⟩ r = false) ∨ xt ≠ cMinus) (hop : prefixP xt = none) (hinf : infixP xt = none) :
   Calls Tryz.prog 60 #[.pointer (some ⟨g, 0, none⟩), .int .i64 most] w fun e w' => ∃ v pr, e = .returned (.tuple #[v, .int .i64 pr]) ∧ TmR g L lv nv w v w' ((atomO true (termO true f) most ⟨xk, xt, xn, xa, xb⟩ r names).map fun y => (y.1, y.2.2)) e0 ∧ (∀ y, atomO true (termO true f) most ⟨xk, xt, xn, xa, xb⟩ r names = some y → pr = y.2.1) := by
 obtain ⟨oo, hoo⟩ : ∃ oo, oo = prefixP xt := ⟨_, rfl⟩
 have HP0 := fun wq => c_prefix xt wq
 rw [← hoo] at HP0
 obtain ⟨os, o1, o2, o3, eo⟩ := opV_shape oo
 rw [eo] at HP0
 obtain ⟨ii, hii⟩ : ∃ ii, ii = infixP xt := ⟨_, rfl⟩
 have HQ0 := fun wq => c_infix xt wq
 rw [← hii] at HQ0
 obtain ⟨is, i1, i2, i3, ei⟩ := opV_shape ii
 rw [ei] at HQ0
 obtain ⟨ob, hob⟩ : ∃ ob, ob = oo.isSome := ⟨_, rfl⟩
 obtain ⟨ib, hib⟩ : ∃ ib, ib = ii.isSome := ⟨_, rfl⟩
 rw [← hob] at HP0
 rw [← hib] at HQ0
 have eR : atomO true (termO true f) most ⟨xk, xt, xn, xa, xb⟩ r names = some (atomTm xt, 0, ⟨r, names⟩) := by
   unfold atomO
   simp only [hxb, Bool.false_eq_true, if_false]
   rw [if_neg (by
     rintro ⟨h1, h2⟩
     rcases hM with ⟨_, h3⟩ | h3
     · rw [hxb] at h3; rw [h2] at h3; cases h3
     · exact h3 h1)]
   rw [hop]
   simp only
   rw [hinf]
   rfl
 obtain rfl : ob = false := by rw [hob, hoo, hop]; rfl
 obtain rfl : ib = false := by rw [hib, hii, hinf]; rfl
 rw [eR]
 have HP : Hid _ := HP0
 have HQI : Hid _ := HQ0
 clear eR hoo hii eo ei hop hinf HP0 HQ0 hob hib
 have HXB : Hid (xb = false) := hxb
 have HMM : Hid ((xt = cMinus ∧ nearO ⟨xk, xt, xn, xa, xb⟩ r = false) ∨ xt ≠ cMinus) := hM
 have HXA : Hid (xa ≤ 100000) := hxa
 clear hxb hM hxa
 obtain ⟨W, hW⟩ : ∃ W, W = w.alloc (.cells #[.int .i64 0, .string ⟨#[]⟩, .int .i64 0, .slice none 0 0] 24) := ⟨_, rfl⟩
 have bW : Below w.heap.size w W := by rw [hW]; exact (Below.refl _ _).alloc (Nat.le_refl _) _
 have sW : W.heap.size = w.heap.size + 1 := by rw [hW]; simp
 have kW : W.heap[w.heap.size]? = some (.cells #[.int .i64 0, .string ⟨#[]⟩, .int .i64 0, .slice none 0 0] 24 (0, 0)) := by rw [hW]; exact heap_alloc_new _ _
 have HS0 : Hid (SRd g L lv nv w (some (e0, ⟨⟨xk, xt, xn, xa, xb⟩ :: r, names⟩))) := h
 have HSWW : Hid (SRd g L lv nv W (some (e0, ⟨⟨xk, xt, xn, xa, xb⟩ :: r, names⟩))) := h.keep bW
 have HKW : Hid (W.heap[w.heap.size]? = some (.cells #[.int .i64 0, .string ⟨#[]⟩, .int .i64 0, .slice none 0 0] 24 (0, 0))) := kW
 have HBW : Hid (Below w.heap.size w W) := bW
 have HSW : Hid (W.heap.size = w.heap.size + 1) := sW
 have HL : Hid (L.length ≤ 3000) := hL
 have HXS : Hid (xt.size ≤ maxLen) := hxs
 obtain ⟨p, lb, cap, rfl, hp, hd, hnm, hg, hl, hnr, k0, k1, k2, k3, k4, hlg⟩ := HSWW.out.sign
 obtain ⟨c0, c1, _, _, _, _⟩ := b5f hg
 obtain ⟨NL, hNL⟩ : ∃ NL, NL = L.length := ⟨_, rfl⟩
 rw [← hNL] at c0
 have hpN : p < NL := by omega
 have hp3 : (p : Int) ≤ 3000 := by omega
 have HNL : Hid (NL = L.length ∧ p < L.length ∧ L.drop (p + 1) = r ∧ names.length ≤ p) := ⟨hNL, hp, hd, hnm⟩
 have HC : Hid (∀ W', Below W.heap.size W W' → W'.cell? ⟨g, 0, none⟩ = some (.slice (some ⟨lb, 0, none⟩) NL cap) ∧ W'.cell? ⟨g, 1, none⟩ = some (.int .i64 (p : Int)) ∧ W'.cell? ⟨lb, p * 5, none⟩ = some (.int .i64 xk) ∧ W'.cell? ⟨lb, p * 5 + 1, none⟩ = some (.string xt) ∧ W'.cell? ⟨lb, p * 5 + 2, none⟩ = some (.int .i64 xn) ∧ W'.cell? ⟨lb, p * 5 + 3, none⟩ = some (.int .i64 (xa : Int)) ∧ W'.cell? ⟨lb, p * 5 + 4, none⟩ = some (.bool xb)) :=
   fun W' hb => ⟨cell_keep c0 hb, cell_keep c1 hb, cell_keep k0 hb, cell_keep k1 hb, cell_keep k2 hb, cell_keep k3 hb, cell_keep k4 hb⟩
 have HQ : Hid (∀ W', Below W.heap.size W W' → W'.heap[g]? = some (.cells #[.slice (some ⟨lb, 0, none⟩) L.length cap, .int .i64 (p : Int), .bool false, .int .i64 (e0 : Int), nv] 52 (0, 0)) ∧ LIn W' g L (.slice (some ⟨lb, 0, none⟩) L.length cap) ∧ NRow W' (g + 1) names nv) :=
   fun W' hb => ⟨(hb.block g HSWW.out.lt).trans hg, hl.turn fun k hk => hb.block k (by have := HSWW.out.lt; omega), hnr.turn fun b e => hb.block b (hnr.lt b e).2⟩
 clear h bW sW kW hL hxs c0 c1 hNL hp hd hnm hg hl hnr k0 k1 k2 k3 k4
 go_enter Tryz.func60, Tryz.ntmps60
 go_upto_region 1 with fail
 rw [← hW]
 clear hW
 refine wp_region_facts 11 (fun i v S w' => match i with
   | 0 => v = (Value.pointer (some ⟨g, 0, none⟩))
   | 1 => v = (Value.pointer (some ⟨g, 0, none⟩))
   | 2 => v = (Value.pointer (some ⟨g, 0, none⟩))
   | 3 => v = (Value.slice (some ⟨lb, 0, none⟩) NL cap)
   | 4 => v = (Value.pointer (some ⟨g, 0, none⟩))
   | 5 => v = (Value.pointer (some ⟨g, 0, none⟩))
   | 6 => v = (Value.pointer (some ⟨g, 1, none⟩))
   | 7 => v = (Value.int .i64 (p : Int))
   | 8 => v = (Value.pointer (some ⟨lb, p * 5, none⟩))
   | 9 => v = (Value.agg #[.int .i64 xk, .string xt, .int .i64 xn, .int .i64 (xa : Int), .bool xb])
   | _ => ∃ b, v = .pointer (some ⟨b, 0, none⟩) ∧ w'.heap[b]? = some (.cells #[.int .i64 0, .string ⟨#[]⟩, .int .i64 0, .int .i64 0, .bool false] 45 (0, 0)) ∧ W.heap.size ≤ b) (by kernel_rfl) (by kernel_rfl) 122 rfl (by kernel_rfl) ?_ ?_ ?_
 · intro i v S w w' hi h hb
   match i, hi, h with
   | 0, _, h => exact h
   | 1, _, h => exact h
   | 2, _, h => exact h
   | 3, _, h => exact h
   | 4, _, h => exact h
   | 5, _, h => exact h
   | 6, _, h => exact h
   | 7, _, h => exact h
   | 8, _, h => exact h
   | 9, _, h => exact h
   | 10, _, ⟨b, h1, h2, h3⟩ => exact ⟨b, h1, (hb.block b (Array.getElem?_eq_some_iff.1 h2).1).trans h2, h3⟩
 · intro i o hi ho a w' hb hfr hdep
   obtain ⟨y0, y1, z0, z1, z2, z3, z4⟩ := HC.out w' hb
   have u0 : a.tmps.getD 0 undef = (Value.pointer (some ⟨g, 0, none⟩)) := hfr 0 (by decide)
   match i, hi with
   | 0, _ =>
     obtain rfl : _ = o := by simpa using ho
     refine fact_value (w' := w') (v := (Value.pointer (some ⟨g, 0, none⟩))) ?_ (Below.refl _ _) ⟨[], rfl, by simp⟩
     simp only [execOp, Act.eval, u0]
     go_simp
   | 1, _ =>
     obtain rfl : _ = o := by simpa using ho
     obtain ⟨_, h0⟩ : ∃ _ : List Nat, a.tmps.getD 12 undef = (Value.pointer (some ⟨g, 0, none⟩)) := hdep 0 (by kernel_rfl)
     refine fact_value (w' := w') (v := (Value.pointer (some ⟨g, 0, none⟩))) ?_ (Below.refl _ _) ⟨[], rfl, by simp⟩
     simp only [execOp, Act.eval, h0]
     go_simp
   | 2, _ =>
     obtain rfl : _ = o := by simpa using ho
     obtain ⟨_, h1⟩ : ∃ _ : List Nat, a.tmps.getD 13 undef = (Value.pointer (some ⟨g, 0, none⟩)) := hdep 1 (by kernel_rfl)
     refine fact_value (w' := w') (v := (Value.pointer (some ⟨g, 0, none⟩))) ?_ (Below.refl _ _) ⟨[], rfl, by simp⟩
     simp only [execOp, Act.eval, h1]
     go_simp
   | 3, _ =>
     obtain rfl : _ = o := by simpa using ho
     obtain ⟨_, h2⟩ : ∃ _ : List Nat, a.tmps.getD 14 undef = (Value.pointer (some ⟨g, 0, none⟩)) := hdep 2 (by kernel_rfl)
     refine fact_value (w' := w') (v := (Value.slice (some ⟨lb, 0, none⟩) NL cap)) ?_ (Below.refl _ _) ⟨[], rfl, by simp⟩
     simp only [execOp, Act.eval, h2]
     go_simp
   | 4, _ =>
     obtain rfl : _ = o := by simpa using ho
     refine fact_value (w' := w') (v := (Value.pointer (some ⟨g, 0, none⟩))) ?_ (Below.refl _ _) ⟨[], rfl, by simp⟩
     simp only [execOp, Act.eval, u0]
     go_simp
   | 5, _ =>
     obtain rfl : _ = o := by simpa using ho
     obtain ⟨_, h4⟩ : ∃ _ : List Nat, a.tmps.getD 16 undef = (Value.pointer (some ⟨g, 0, none⟩)) := hdep 4 (by kernel_rfl)
     refine fact_value (w' := w') (v := (Value.pointer (some ⟨g, 0, none⟩))) ?_ (Below.refl _ _) ⟨[], rfl, by simp⟩
     simp only [execOp, Act.eval, h4]
     go_simp
   | 6, _ =>
     obtain rfl : _ = o := by simpa using ho
     obtain ⟨_, h5⟩ : ∃ _ : List Nat, a.tmps.getD 17 undef = (Value.pointer (some ⟨g, 0, none⟩)) := hdep 5 (by kernel_rfl)
     refine fact_value (w' := w') (v := (Value.pointer (some ⟨g, 1, none⟩))) ?_ (Below.refl _ _) ⟨[], rfl, by simp⟩
     simp only [execOp, Act.eval, h5]
     go_simp
   | 7, _ =>
     obtain rfl : _ = o := by simpa using ho
     obtain ⟨_, h6⟩ : ∃ _ : List Nat, a.tmps.getD 18 undef = (Value.pointer (some ⟨g, 1, none⟩)) := hdep 6 (by kernel_rfl)
     refine fact_value (w' := w') (v := (Value.int .i64 (p : Int))) ?_ (Below.refl _ _) ⟨[], rfl, by simp⟩
     simp only [execOp, Act.eval, h6]
     go_simp
   | 8, _ =>
     obtain rfl : _ = o := by simpa using ho
     obtain ⟨_, h3⟩ : ∃ _ : List Nat, a.tmps.getD 15 undef = (Value.slice (some ⟨lb, 0, none⟩) NL cap) := hdep 3 (by kernel_rfl)
     obtain ⟨_, h7⟩ : ∃ _ : List Nat, a.tmps.getD 19 undef = (Value.int .i64 (p : Int)) := hdep 7 (by kernel_rfl)
     refine fact_value (w' := w') (v := (Value.pointer (some ⟨lb, p * 5, none⟩))) ?_ (Below.refl _ _) ⟨[], rfl, by simp⟩
     simp only [execOp, Act.eval, h3, h7]
     go_simp
   | 9, _ =>
     obtain rfl : _ = o := by simpa using ho
     obtain ⟨_, h8⟩ : ∃ _ : List Nat, a.tmps.getD 20 undef = (Value.pointer (some ⟨lb, p * 5, none⟩)) := hdep 8 (by kernel_rfl)
     refine fact_value (w' := w') (v := (Value.agg #[.int .i64 xk, .string xt, .int .i64 xn, .int .i64 (xa : Int), .bool xb])) ?_ (Below.refl _ _) ⟨[], rfl, by simp⟩
     simp only [execOp, Act.eval, h8]
     go_simp
   | 10, _ =>
     obtain rfl : _ = o := by simpa using ho
     refine fact_value (w' := w'.alloc (.cells #[.int .i64 0, .string ⟨#[]⟩, .int .i64 0, .int .i64 0, .bool false] 45)) (v := .pointer (some ⟨w'.heap.size, 0, none⟩)) ?_ ((Below.refl _ _).alloc (Nat.le_refl _) _) ⟨[], ⟨w'.heap.size, rfl, heap_alloc_new _ _, hb.size⟩, by simp⟩
     simp only [execOp]
     go_simp
 intro vals S w1 hb hf _
 have v9 : vals 9 = .agg #[.int .i64 xk, .string xt, .int .i64 xn, .int .i64 (xa : Int), .bool xb] := (hf 9 (by omega)).1
 obtain ⟨B6, v10, hk6, hB6⟩ : ∃ b, vals 10 = .pointer (some ⟨b, 0, none⟩) ∧ w1.heap[b]? = some (.cells #[.int .i64 0, .string ⟨#[]⟩, .int .i64 0, .int .i64 0, .bool false] 45 (0, 0)) ∧ W.heap.size ≤ b := (hf 10 (by omega)).1
 simp only [putN, List.getElem?_toArray, List.getElem?_cons_zero, List.getElem?_cons_succ, Option.bind_some, List.drop_succ_cons, List.drop_zero, v9, v10]
 generalize vals 0 = m0
 generalize vals 1 = m1
 generalize vals 2 = m2
 generalize vals 3 = m3
 generalize vals 4 = m4
 generalize vals 5 = m5
 generalize vals 6 = m6
 generalize vals 7 = m7
 generalize vals 8 = m8
 simp only [Act.put, List.setIfInBounds_toArray, List.set_cons_succ, List.set_cons_zero]
 clear hf v9 v10
 obtain ⟨e0', e1', e2', e3', e4', ef⟩ := b5f hk6
 have ef0 := ef 0
 have ef1 := ef 1
 have ef2 := ef 2
 have ef3 := ef 3
 have ef4 := ef 4
 have HK6 : Hid _ := hk6
 have HB1 : Hid (Below W.heap.size W w1) := hb
 clear hk6 hb ef
 go_upto_region 2 with fail
 obtain ⟨V, hV⟩ : ∃ V, V = ((((w1.setCell ⟨B6, 0, none⟩ (.int .i64 xk)).setCell ⟨B6, 1, none⟩ (.string xt)).setCell ⟨B6, 2, none⟩ (.int .i64 xn)).setCell ⟨B6, 3, none⟩ (.int .i64 (xa : Int))).setCell ⟨B6, 4, none⟩ (.bool xb) := ⟨_, rfl⟩
 rw [← hV]
 have HBV : Hid (Below W.heap.size W V) := by rw [hV]; exact below_set (below_set (below_set (below_set (below_set HB1.out hB6 _) hB6 _) hB6 _) hB6 _) hB6 _
 have HKV : Hid (V.heap[B6]? = some (.cells #[.int .i64 xk, .string xt, .int .i64 xn, .int .i64 (xa : Int), .bool xb] 45 (0, 0))) := by
   rw [hV]
   have := set_at5 (i := 4) (set_at5 (i := 3) (set_at5 (i := 2) (set_at5 (i := 1) (set_at5 (i := 0) HK6.out (.int .i64 xk)) (.string xt)) (.int .i64 xn)) (.int .i64 (xa : Int))) (.bool xb)
   show _ = _
   simpa using this
 clear hV HK6 HB1 e0' e1' e2' e3' e4' ef0 ef1 ef2 ef3 ef4
 obtain ⟨d0, d1, d2, d3, d4, _⟩ := b5f HKV.out
 have HSV : Hid (SRd g L (.slice (some ⟨lb, 0, none⟩) L.length cap) nv V (some (e0, ⟨⟨xk, xt, xn, xa, xb⟩ :: r, names⟩))) := HSWW.out.keep HBV.out
 have HB6 : Hid (W.heap.size ≤ B6) := hB6
 have hB6V : B6 < V.heap.size := (Array.getElem?_eq_some_iff.1 HKV.out).1
 have HG0 := HQ.out V HBV.out
 obtain ⟨c0, c1, c2, c3, c4, cf⟩ := b5f HG0.1
 have f1 := cf 1
 have f2 := cf 2
 have hgV : g < V.heap.size := HSV.out.lt
 have hgB : g ≠ B6 := by have := HSWW.out.lt; omega
 clear cf HG0
 have hxb := HXB.out
 subst hxb
 rcases HMM.out with hM | hM
 · have em : (xt.toList == [45]) = true := by rw [hM.1, ByteArray.toList_eq]; rfl
   have HNE := s_near g L _ nv e0 _ _ _ V HL.out HXA.out HSV.out
   rw [hM.2] at HNE
   have HNE : Hid _ := HNE
   clear hM
   go_upto_region 8 with (go_at_call 78; go_loud (refine Calls.mono HNE.out ?_); rintro e w5 ⟨rfl, hb⟩; have HB5 : Hid (Below V.heap.size V w5) := hb; clear hb)
   have HB5W : Hid (Below W.heap.size W w5) := HBV.out.trans (HB5.out.mono HBV.out.size)
   clear c0 c1 c2 c3 c4 f1 f2 d0 d1 d2 d3 d4 em
   have HK5 : Hid (w5.heap[B6]? = some (.cells #[.int .i64 xk, .string xt, .int .i64 xn, .int .i64 (xa : Int), .bool false] 45 (0, 0))) := (HB5.out.block B6 hB6V).trans HKV.out
   obtain ⟨d0, d1, d2, d3, d4, _⟩ := b5f HK5.out
   go_upto_region 9 with (go_at_call 79; go_loud (refine Calls.mono (HP.out _) ?_); rintro e w8 ⟨rfl, hb⟩; have HB8 : Hid (Below w5.heap.size w5 w8) := hb; clear hb)
   clear d0 d1 d2 d3 d4
   obtain ⟨W8, hW8⟩ : ∃ W8, W8 = w8.alloc (.cells #[.string os, .int .i64 o1, .int .i64 o2, .int .i64 o3] 72) := ⟨_, rfl⟩
   rw [← hW8]
   obtain ⟨B7, hB7⟩ : ∃ B7, B7 = w8.heap.size := ⟨_, rfl⟩
   rw [← hB7]
   have b8 : Below w8.heap.size w8 W8 := by rw [hW8]; exact (Below.refl _ _).alloc (Nat.le_refl _) _
   have hs5 := HB5W.out.size
   have hs8 := HB8.out.size
   have b58 : Below w5.heap.size w5 W8 := HB8.out.trans (b8.mono hs8)
   have HB8W : Hid (Below W.heap.size W W8) := HB5W.out.trans (b58.mono hs5)
   have HK7 : Hid (W8.heap[B7]? = some (.cells #[.string os, .int .i64 o1, .int .i64 o2, .int .i64 o3] 72 (0, 0))) := by rw [hW8, hB7]; exact heap_alloc_new _ _
   have HK68 : Hid (W8.heap[B6]? = some (.cells #[.int .i64 xk, .string xt, .int .i64 xn, .int .i64 (xa : Int), .bool false] 45 (0, 0))) := (b58.block B6 (Array.getElem?_eq_some_iff.1 HK5.out).1).trans HK5.out
   have HB7 : Hid (W.heap.size ≤ B7) := by show _ ≤ _; omega
   have HS8 : Hid (SRd g L (.slice (some ⟨lb, 0, none⟩) L.length cap) nv W8 (some (e0, ⟨⟨xk, xt, xn, xa, false⟩ :: r, names⟩))) := HSWW.out.keep HB8W.out
   clear hW8 hB7 b8 hs5 hs8 b58 HK5 HKV HSV hB6V hgV HB8 HB5 HB5W
   have hlt7 : B7 < W8.heap.size := (Array.getElem?_eq_some_iff.1 HK7.out).1
   have hlt6 : B6 < W8.heap.size := (Array.getElem?_eq_some_iff.1 HK68.out).1
   have hgW8 : g < W8.heap.size := HS8.out.lt
   have HG0 := HQ.out W8 HB8W.out
   obtain ⟨c0, c1, c2, c3, c4, cf⟩ := b5f HG0.1
   have f1 := cf 1
   have f2 := cf 2
   clear HG0 cf
   obtain ⟨p0, p1, p2, p3, _⟩ := blk4 HK7.out
   obtain ⟨d0, d1, d2, d3, d4, _⟩ := b5f HK68.out
   have hg7 : g ≠ B7 := by have := HSWW.out.lt; have := HB7.out; omega
   go_upto_region 14 with (go_at_call 66; go_loud (refine Calls.mono (HQI.out _) ?_); rintro e w13 ⟨rfl, hb⟩; have HB13 : Hid (Below W8.heap.size W8 w13) := hb; clear hb)
   obtain ⟨W13, hW13⟩ : ∃ W13, W13 = w13.alloc (.cells #[.string is, .int .i64 i1, .int .i64 i2, .int .i64 i3] 72) := ⟨_, rfl⟩
   rw [← hW13]
   have b13 : Below w13.heap.size w13 W13 := by rw [hW13]; exact (Below.refl _ _).alloc (Nat.le_refl _) _
   have HB813 : Hid (Below W8.heap.size W8 W13) := HB13.out.trans (b13.mono HB13.out.size)
   have HB13W : Hid (Below W.heap.size W W13) := HB8W.out.trans (HB813.out.mono HB8W.out.size)
   have HK613 : Hid (W13.heap[B6]? = some (.cells #[.int .i64 xk, .string xt, .int .i64 xn, .int .i64 (xa : Int), .bool false] 45 (0, 0))) := (HB813.out.block B6 hlt6).trans HK68.out
   have HS13 : Hid (SRd g L (.slice (some ⟨lb, 0, none⟩) L.length cap) nv W13 (some (e0, ⟨⟨xk, xt, xn, xa, false⟩ :: r, names⟩))) := HSWW.out.keep HB13W.out
   clear hW13 b13 c0 c1 c2 c3 c4 f1 f2 d0 d1 d2 d3 d4 p0 p1 p2 p3 hlt6 hlt7 hgW8 hg7
   have HG0 := HQ.out W13 HB13W.out
   obtain ⟨c0, c1, c2, c3, c4, cf⟩ := b5f HG0.1
   have f1 := cf 1
   have f2 := cf 2
   clear HG0 cf
   obtain ⟨d0, d1, d2, d3, d4, _⟩ := b5f HK613.out
   go_upto_region 18 with fail
   obtain ⟨V15, hV15⟩ : ∃ V15, V15 = W13.setCell ⟨g, 1, none⟩ (.int .i64 ((p : Int) + 1)) := ⟨_, rfl⟩
   rw [← hV15]
   obtain ⟨hNL, hp, hd, hnm⟩ := HNL.out
   obtain ⟨hgq, hlq, hnq⟩ := HQ.out W13 HB13W.out
   have HSZ : Hid (SRd g L (.slice (some ⟨lb, 0, none⟩) L.length cap) nv V15 (some (e0, ⟨r, names⟩))) := by
     rw [hV15]; exact SRd.go 1 hgq hlq hnq (by omega) hd hnm (by omega)
   have HXZ : Hid (FX (XS g nv) (XS g nv) W V15) := by rw [hV15]; exact (FX.of_below HB13W.out).trans (FX.set_g _)
   have hk6 : V15.heap[B6]? = some (.cells #[.int .i64 xk, .string xt, .int .i64 xn, .int .i64 (xa : Int), .bool false] 45 (0, 0)) := by rw [hV15, set_oth5 _ (Ne.symm hgB)]; exact HK613.out
   clear hNL hp hd hnm hgq hlq hnq hV15 c0 c1 c2 c3 c4 f1 f2 d0 d1 d2 d3 d4
   obtain ⟨d0, d1, d2, d3, d4, _⟩ := b5f hk6
   have HA : Hid _ := s_atom (XS g nv) xt V15 HXS.out
   clear hk6
   go_wp2_with (go_at_call 80; go_loud (refine Calls.mono HA.out ?_); rintro e w4 ⟨v, rfl, ht, hb⟩; have HT4 : Hid (TOk 24 (XS g nv) V15.heap.size w4 (atomTm xt) v []) := ht; have HB4 : Hid (Below V15.heap.size V15 w4) := hb; have HXT : Hid (FX (XS g nv) (XS g nv) W w4) := HXZ.out.trans (FX.of_below hb); obtain ⟨h1, h2, h3, h4, h5, h6, rfl⟩ := ht.form; have hk := res_keep HS0.out HSW.out HXT.out HKW.out; obtain ⟨z0, z1, z2, z3, q0, q1, q2, q3⟩ := blk4 hk; clear ht hb)
   refine bodyPost_ret_by (results_ct2 rfl _ _ w.heap.size 24 _ (0, 0) _ rfl (blk4_set hk) Tryz.underlying24 rfl (by kernel_rfl)) rfl ?_
   exact ⟨_, 0, rfl, TmR.fin HS0.out HBW.out HSW.out HXT.out (HT4.out.lo_le HXZ.out.size) (fun y hy => by cases hy; rfl) (HSZ.out.keep HB4.out), fun y hy => by cases hy; rfl⟩
 · have em : (xt.toList == [45]) = false := toL_ne (l := [45]) hM
   clear hM
   go_upto_region 8 with fail
   obtain ⟨w5, hw5⟩ : ∃ w5, w5 = V := ⟨_, rfl⟩
   rw [← hw5]
   have HB5 : Hid (Below V.heap.size V w5) := by rw [hw5]; exact Below.refl _ _
   clear hw5
   have HB5W : Hid (Below W.heap.size W w5) := HBV.out.trans (HB5.out.mono HBV.out.size)
   clear c0 c1 c2 c3 c4 f1 f2 d0 d1 d2 d3 d4 em
   have HK5 : Hid (w5.heap[B6]? = some (.cells #[.int .i64 xk, .string xt, .int .i64 xn, .int .i64 (xa : Int), .bool false] 45 (0, 0))) := (HB5.out.block B6 hB6V).trans HKV.out
   obtain ⟨d0, d1, d2, d3, d4, _⟩ := b5f HK5.out
   go_upto_region 9 with (go_at_call 79; go_loud (refine Calls.mono (HP.out _) ?_); rintro e w8 ⟨rfl, hb⟩; have HB8 : Hid (Below w5.heap.size w5 w8) := hb; clear hb)
   clear d0 d1 d2 d3 d4
   obtain ⟨W8, hW8⟩ : ∃ W8, W8 = w8.alloc (.cells #[.string os, .int .i64 o1, .int .i64 o2, .int .i64 o3] 72) := ⟨_, rfl⟩
   rw [← hW8]
   obtain ⟨B7, hB7⟩ : ∃ B7, B7 = w8.heap.size := ⟨_, rfl⟩
   rw [← hB7]
   have b8 : Below w8.heap.size w8 W8 := by rw [hW8]; exact (Below.refl _ _).alloc (Nat.le_refl _) _
   have hs5 := HB5W.out.size
   have hs8 := HB8.out.size
   have b58 : Below w5.heap.size w5 W8 := HB8.out.trans (b8.mono hs8)
   have HB8W : Hid (Below W.heap.size W W8) := HB5W.out.trans (b58.mono hs5)
   have HK7 : Hid (W8.heap[B7]? = some (.cells #[.string os, .int .i64 o1, .int .i64 o2, .int .i64 o3] 72 (0, 0))) := by rw [hW8, hB7]; exact heap_alloc_new _ _
   have HK68 : Hid (W8.heap[B6]? = some (.cells #[.int .i64 xk, .string xt, .int .i64 xn, .int .i64 (xa : Int), .bool false] 45 (0, 0))) := (b58.block B6 (Array.getElem?_eq_some_iff.1 HK5.out).1).trans HK5.out
   have HB7 : Hid (W.heap.size ≤ B7) := by show _ ≤ _; omega
   have HS8 : Hid (SRd g L (.slice (some ⟨lb, 0, none⟩) L.length cap) nv W8 (some (e0, ⟨⟨xk, xt, xn, xa, false⟩ :: r, names⟩))) := HSWW.out.keep HB8W.out
   clear hW8 hB7 b8 hs5 hs8 b58 HK5 HKV HSV hB6V hgV HB8 HB5 HB5W
   have hlt7 : B7 < W8.heap.size := (Array.getElem?_eq_some_iff.1 HK7.out).1
   have hlt6 : B6 < W8.heap.size := (Array.getElem?_eq_some_iff.1 HK68.out).1
   have hgW8 : g < W8.heap.size := HS8.out.lt
   have HG0 := HQ.out W8 HB8W.out
   obtain ⟨c0, c1, c2, c3, c4, cf⟩ := b5f HG0.1
   have f1 := cf 1
   have f2 := cf 2
   clear HG0 cf
   obtain ⟨p0, p1, p2, p3, _⟩ := blk4 HK7.out
   obtain ⟨d0, d1, d2, d3, d4, _⟩ := b5f HK68.out
   have hg7 : g ≠ B7 := by have := HSWW.out.lt; have := HB7.out; omega
   go_upto_region 14 with (go_at_call 66; go_loud (refine Calls.mono (HQI.out _) ?_); rintro e w13 ⟨rfl, hb⟩; have HB13 : Hid (Below W8.heap.size W8 w13) := hb; clear hb)
   obtain ⟨W13, hW13⟩ : ∃ W13, W13 = w13.alloc (.cells #[.string is, .int .i64 i1, .int .i64 i2, .int .i64 i3] 72) := ⟨_, rfl⟩
   rw [← hW13]
   have b13 : Below w13.heap.size w13 W13 := by rw [hW13]; exact (Below.refl _ _).alloc (Nat.le_refl _) _
   have HB813 : Hid (Below W8.heap.size W8 W13) := HB13.out.trans (b13.mono HB13.out.size)
   have HB13W : Hid (Below W.heap.size W W13) := HB8W.out.trans (HB813.out.mono HB8W.out.size)
   have HK613 : Hid (W13.heap[B6]? = some (.cells #[.int .i64 xk, .string xt, .int .i64 xn, .int .i64 (xa : Int), .bool false] 45 (0, 0))) := (HB813.out.block B6 hlt6).trans HK68.out
   have HS13 : Hid (SRd g L (.slice (some ⟨lb, 0, none⟩) L.length cap) nv W13 (some (e0, ⟨⟨xk, xt, xn, xa, false⟩ :: r, names⟩))) := HSWW.out.keep HB13W.out
   clear hW13 b13 c0 c1 c2 c3 c4 f1 f2 d0 d1 d2 d3 d4 p0 p1 p2 p3 hlt6 hlt7 hgW8 hg7
   have HG0 := HQ.out W13 HB13W.out
   obtain ⟨c0, c1, c2, c3, c4, cf⟩ := b5f HG0.1
   have f1 := cf 1
   have f2 := cf 2
   clear HG0 cf
   obtain ⟨d0, d1, d2, d3, d4, _⟩ := b5f HK613.out
   go_upto_region 18 with fail
   obtain ⟨V15, hV15⟩ : ∃ V15, V15 = W13.setCell ⟨g, 1, none⟩ (.int .i64 ((p : Int) + 1)) := ⟨_, rfl⟩
   rw [← hV15]
   obtain ⟨hNL, hp, hd, hnm⟩ := HNL.out
   obtain ⟨hgq, hlq, hnq⟩ := HQ.out W13 HB13W.out
   have HSZ : Hid (SRd g L (.slice (some ⟨lb, 0, none⟩) L.length cap) nv V15 (some (e0, ⟨r, names⟩))) := by
     rw [hV15]; exact SRd.go 1 hgq hlq hnq (by omega) hd hnm (by omega)
   have HXZ : Hid (FX (XS g nv) (XS g nv) W V15) := by rw [hV15]; exact (FX.of_below HB13W.out).trans (FX.set_g _)
   have hk6 : V15.heap[B6]? = some (.cells #[.int .i64 xk, .string xt, .int .i64 xn, .int .i64 (xa : Int), .bool false] 45 (0, 0)) := by rw [hV15, set_oth5 _ (Ne.symm hgB)]; exact HK613.out
   clear hNL hp hd hnm hgq hlq hnq hV15 c0 c1 c2 c3 c4 f1 f2 d0 d1 d2 d3 d4
   obtain ⟨d0, d1, d2, d3, d4, _⟩ := b5f hk6
   have HA : Hid _ := s_atom (XS g nv) xt V15 HXS.out
   clear hk6
   go_wp2_with (go_at_call 80; go_loud (refine Calls.mono HA.out ?_); rintro e w4 ⟨v, rfl, ht, hb⟩; have HT4 : Hid (TOk 24 (XS g nv) V15.heap.size w4 (atomTm xt) v []) := ht; have HB4 : Hid (Below V15.heap.size V15 w4) := hb; have HXT : Hid (FX (XS g nv) (XS g nv) W w4) := HXZ.out.trans (FX.of_below hb); obtain ⟨h1, h2, h3, h4, h5, h6, rfl⟩ := ht.form; have hk := res_keep HS0.out HSW.out HXT.out HKW.out; obtain ⟨z0, z1, z2, z3, q0, q1, q2, q3⟩ := blk4 hk; clear ht hb)
   refine bodyPost_ret_by (results_ct2 rfl _ _ w.heap.size 24 _ (0, 0) _ rfl (blk4_set hk) Tryz.underlying24 rfl (by kernel_rfl)) rfl ?_
   exact ⟨_, 0, rfl, TmR.fin HS0.out HBW.out HSW.out HXT.out (HT4.out.lo_le HXZ.out.size) (fun y hy => by cases hy; rfl) (HSZ.out.keep HB4.out), fun y hy => by cases hy; rfl⟩
end Go.Proofs.YtbkjcccbjnehbanGreatDoor

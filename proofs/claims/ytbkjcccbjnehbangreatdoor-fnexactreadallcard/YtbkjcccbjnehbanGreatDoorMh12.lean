import Derived.Test.YtbkjcccbjnehbanGreatDoorMh11
import Derived.Test.YtbkjcccbjnehbanGreatDoorMh9
namespace Go.Proofs.YtbkjcccbjnehbanGreatDoor
open Go.RowKit
set_option maxHeartbeats 8000000 in
set_option maxRecDepth 20000 in
theorem s_at_prefix (f g : Nat) (L : List Sg) (lv nv : Value) (e0 : Nat) (most : Int) (xk : Int) (xt : ByteArray) (xn : Int) (xa : Nat) (xb : Bool) (r : List Sg) (names : List ByteArray) (w : World) (hf : e0 + f = 130) (hL : L.length ≤ 3000) (HT : TermC f g L lv) (hxs : xt.size ≤ maxLen) (hxa : xa ≤ 100000) (h : SRd g L lv nv w (some (e0, ⟨⟨xk, xt, xn, xa, xb⟩ :: r, names⟩))) (hxb : xb = false) (hM : (xt = cMinus ∧ nearO ⟨xk, xt, xn, xa, xb⟩ r = false) ∨ xt ≠ cMinus) (op : OpP) (hop : prefixP xt = some op) (hpr : op.prio ≤ most) :
   Calls Tryz.prog 60 #[.pointer (some ⟨g, 0, none⟩), .int .i64 most] w fun e w' => ∃ v pr, e = .returned (.tuple #[v, .int .i64 pr]) ∧ TmR g L lv nv w v w' ((atomO true (termO true f) most ⟨xk, xt, xn, xa, xb⟩ r names).map fun y => (y.1, y.2.2)) e0 ∧ (∀ y, atomO true (termO true f) most ⟨xk, xt, xn, xa, xb⟩ r names = some y → pr = y.2.1) := by
 obtain ⟨os, o1, o2, o3⟩ := op
 have HF : Hid (e0 + f = 130) := hf
 have HTC : Hid (TermC f g L lv) := HT
 obtain ⟨R1, hR1⟩ : ∃ R1, R1 = termO true f o3 ⟨r, names⟩ := ⟨_, rfl⟩
 have eR : atomO true (termO true f) most ⟨xk, xt, xn, xa, xb⟩ r names = R1.map fun y => (structTm xt [y.1], o1, y.2) := by
   unfold atomO
   simp only [hxb, Bool.false_eq_true, if_false]
   rw [if_neg (by
     rintro ⟨h1, h2⟩
     rcases hM with ⟨_, h3⟩ | h3
     · rw [hxb] at h3; rw [h2] at h3; cases h3
     · exact h3 h1), hop]
   simp only
   rw [if_pos hpr, ← hR1]
   cases R1 <;> rfl
 rw [eR, Option.map_map]
 have HP0 := fun wq => c_prefix xt wq
 rw [hop] at HP0
 have HP : Hid (∀ wq, Calls Tryz.prog 79 #[.string xt] wq fun e w' => e = .returned (.tuple #[.agg #[.string os, .int .i64 o1, .int .i64 o2, .int .i64 o3], .bool true]) ∧ Below wq.heap.size wq w') := HP0
 have HR1 : Hid (R1 = termO true f o3 ⟨r, names⟩) := hR1
 have dpr : decide (o1 ≤ most) = true := decide_eq_true hpr
 clear eR hR1 hop hpr hf HT HP0
 have HXB : Hid (xb = false) := hxb
 have HMM : Hid ((xt = cMinus ∧ nearO ⟨xk, xt, xn, xa, xb⟩ r = false) ∨ xt ≠ cMinus) := hM
 have HXA : Hid (xa ≤ 100000) := hxa
 clear hxb hM hxa
 obtain ⟨W, hW⟩ : ∃ W, W = w.alloc (.cells #[.int .i64 0, .string ⟨#[]⟩, .int .i64 0, .slice none 0 0] 24) := ⟨_, rfl⟩
 have bW : Below w.heap.size w W := by rw [hW]; exact (Below.refl _ _).alloc (Nat.le_refl _) _
 have sW : W.heap.size = w.heap.size + 1 := by rw [hW]; simp
 have kW : W.heap[w.heap.size]? = some (.cells #[.int .i64 0, .string ⟨#[]⟩, .int .i64 0, .slice none 0 0] 24 (0, 0)) := by rw [hW]; exact heap_alloc_new _ _
 have HS0 : Hid (SRd g L lv nv w (some (e0, ⟨⟨xk, xt, xn, xa, xb⟩ :: r, names⟩))) := h
 have HSWW : Hid (SRd g L lv nv W (some (e0, ⟨⟨xk, xt, xn, xa, xb⟩ :: r, names⟩))) := h.keep bW
 have HKW : Hid (W.heap[w.heap.size]? = some (.cells #[.int .i64 0, .string ⟨#[]⟩, .int .i64 0, .slice none 0 0] 24 (0, 0))) := kW
 have HBW : Hid (Below w.heap.size w W) := bW
 have HSW : Hid (W.heap.size = w.heap.size + 1) := sW
 have HL : Hid (L.length ≤ 3000) := hL
 have HXS : Hid (xt.size ≤ maxLen) := hxs
 obtain ⟨p, lb, cap, rfl, hp, hd, hnm, hg, hl, hnr, k0, k1, k2, k3, k4, hlg⟩ := HSWW.out.sign
 obtain ⟨c0, c1, _, _, _, _⟩ := b5f hg
 obtain ⟨NL, hNL⟩ : ∃ NL, NL = L.length := ⟨_, rfl⟩
 rw [← hNL] at c0
 have hpN : p < NL := by omega
 have hp3 : (p : Int) ≤ 3000 := by omega
 have HNL : Hid (NL = L.length ∧ p < L.length ∧ L.drop (p + 1) = r ∧ names.length ≤ p) := ⟨hNL, hp, hd, hnm⟩
 have HC : Hid (∀ W', Below W.heap.size W W' → W'.cell? ⟨g, 0, none⟩ = some (.slice (some ⟨lb, 0, none⟩) NL cap) ∧ W'.cell? ⟨g, 1, none⟩ = some (.int .i64 (p : Int)) ∧ W'.cell? ⟨lb, p * 5, none⟩ = some (.int .i64 xk) ∧ W'.cell? ⟨lb, p * 5 + 1, none⟩ = some (.string xt) ∧ W'.cell? ⟨lb, p * 5 + 2, none⟩ = some (.int .i64 xn) ∧ W'.cell? ⟨lb, p * 5 + 3, none⟩ = some (.int .i64 (xa : Int)) ∧ W'.cell? ⟨lb, p * 5 + 4, none⟩ = some (.bool xb)) :=
   fun W' hb => ⟨cell_keep c0 hb, cell_keep c1 hb, cell_keep k0 hb, cell_keep k1 hb, cell_keep k2 hb, cell_keep k3 hb, cell_keep k4 hb⟩
 have HQ : Hid (∀ W', Below W.heap.size W W' → W'.heap[g]? = some (.cells #[.slice (some ⟨lb, 0, none⟩) L.length cap, .int .i64 (p : Int), .bool false, .int .i64 (e0 : Int), nv] 52 (0, 0)) ∧ LIn W' g L (.slice (some ⟨lb, 0, none⟩) L.length cap) ∧ NRow W' (g + 1) names nv) :=
   fun W' hb => ⟨(hb.block g HSWW.out.lt).trans hg, hl.turn fun k hk => hb.block k (by have := HSWW.out.lt; omega), hnr.turn fun b e => hb.block b (hnr.lt b e).2⟩
 clear h bW sW kW hL hxs c0 c1 hNL hp hd hnm hg hl hnr k0 k1 k2 k3 k4
 go_enter Tryz.func60, Tryz.ntmps60
 go_upto_region 1 with fail
 rw [← hW]
 clear hW
 refine wp_region_facts 11 (fun i v S w' => match i with
   | 0 => v = (Value.pointer (some ⟨g, 0, none⟩))
   | 1 => v = (Value.pointer (some ⟨g, 0, none⟩))
   | 2 => v = (Value.pointer (some ⟨g, 0, none⟩))
   | 3 => v = (Value.slice (some ⟨lb, 0, none⟩) NL cap)
   | 4 => v = (Value.pointer (some ⟨g, 0, none⟩))
   | 5 => v = (Value.pointer (some ⟨g, 0, none⟩))
   | 6 => v = (Value.pointer (some ⟨g, 1, none⟩))
   | 7 => v = (Value.int .i64 (p : Int))
   | 8 => v = (Value.pointer (some ⟨lb, p * 5, none⟩))
   | 9 => v = (Value.agg #[.int .i64 xk, .string xt, .int .i64 xn, .int .i64 (xa : Int), .bool xb])
   | _ => ∃ b, v = .pointer (some ⟨b, 0, none⟩) ∧ w'.heap[b]? = some (.cells #[.int .i64 0, .string ⟨#[]⟩, .int .i64 0, .int .i64 0, .bool false] 45 (0, 0)) ∧ W.heap.size ≤ b) (by kernel_rfl) (by kernel_rfl) 122 rfl (by kernel_rfl) ?_ ?_ ?_
 · intro i v S w w' hi h hb
   match i, hi, h with
   | 0, _, h => exact h
   | 1, _, h => exact h
   | 2, _, h => exact h
   | 3, _, h => exact h
   | 4, _, h => exact h
   | 5, _, h => exact h
   | 6, _, h => exact h
   | 7, _, h => exact h
   | 8, _, h => exact h
   | 9, _, h => exact h
   | 10, _, ⟨b, h1, h2, h3⟩ => exact ⟨b, h1, (hb.block b (Array.getElem?_eq_some_iff.1 h2).1).trans h2, h3⟩
 · intro i o hi ho a w' hb hfr hdep
   obtain ⟨y0, y1, z0, z1, z2, z3, z4⟩ := HC.out w' hb
   have u0 : a.tmps.getD 0 undef = (Value.pointer (some ⟨g, 0, none⟩)) := hfr 0 (by decide)
   match i, hi with
   | 0, _ =>
     obtain rfl : _ = o := by simpa using ho
     refine fact_value (w' := w') (v := (Value.pointer (some ⟨g, 0, none⟩))) ?_ (Below.refl _ _) ⟨[], rfl, by simp⟩
     simp only [execOp, Act.eval, u0]
     go_simp
   | 1, _ =>
     obtain rfl : _ = o := by simpa using ho
     obtain ⟨_, h0⟩ : ∃ _ : List Nat, a.tmps.getD 12 undef = (Value.pointer (some ⟨g, 0, none⟩)) := hdep 0 (by kernel_rfl)
     refine fact_value (w' := w') (v := (Value.pointer (some ⟨g, 0, none⟩))) ?_ (Below.refl _ _) ⟨[], rfl, by simp⟩
     simp only [execOp, Act.eval, h0]
     go_simp
   | 2, _ =>
     obtain rfl : _ = o := by simpa using ho
     obtain ⟨_, h1⟩ : ∃ _ : List Nat, a.tmps.getD 13 undef = (Value.pointer (some ⟨g, 0, none⟩)) := hdep 1 (by kernel_rfl)
     refine fact_value (w' := w') (v := (Value.pointer (some ⟨g, 0, none⟩))) ?_ (Below.refl _ _) ⟨[], rfl, by simp⟩
     simp only [execOp, Act.eval, h1]
     go_simp
   | 3, _ =>
     obtain rfl : _ = o := by simpa using ho
     obtain ⟨_, h2⟩ : ∃ _ : List Nat, a.tmps.getD 14 undef = (Value.pointer (some ⟨g, 0, none⟩)) := hdep 2 (by kernel_rfl)
     refine fact_value (w' := w') (v := (Value.slice (some ⟨lb, 0, none⟩) NL cap)) ?_ (Below.refl _ _) ⟨[], rfl, by simp⟩
     simp only [execOp, Act.eval, h2]
     go_simp
   | 4, _ =>
     obtain rfl : _ = o := by simpa using ho
     refine fact_value (w' := w') (v := (Value.pointer (some ⟨g, 0, none⟩))) ?_ (Below.refl _ _) ⟨[], rfl, by simp⟩
     simp only [execOp, Act.eval, u0]
     go_simp
   | 5, _ =>
     obtain rfl : _ = o := by simpa using ho
     obtain ⟨_, h4⟩ : ∃ _ : List Nat, a.tmps.getD 16 undef = (Value.pointer (some ⟨g, 0, none⟩)) := hdep 4 (by kernel_rfl)
     refine fact_value (w' := w') (v := (Value.pointer (some ⟨g, 0, none⟩))) ?_ (Below.refl _ _) ⟨[], rfl, by simp⟩
     simp only [execOp, Act.eval, h4]
     go_simp
   | 6, _ =>
     obtain rfl : _ = o := by simpa using ho
     obtain ⟨_, h5⟩ : ∃ _ : List Nat, a.tmps.getD 17 undef = (Value.pointer (some ⟨g, 0, none⟩)) := hdep 5 (by kernel_rfl)
     refine fact_value (w' := w') (v := (Value.pointer (some ⟨g, 1, none⟩))) ?_ (Below.refl _ _) ⟨[], rfl, by simp⟩
     simp only [execOp, Act.eval, h5]
     go_simp
   | 7, _ =>
     obtain rfl : _ = o := by simpa using ho
     obtain ⟨_, h6⟩ : ∃ _ : List Nat, a.tmps.getD 18 undef = (Value.pointer (some ⟨g, 1, none⟩)) := hdep 6 (by kernel_rfl)
     refine fact_value (w' := w') (v := (Value.int .i64 (p : Int))) ?_ (Below.refl _ _) ⟨[], rfl, by simp⟩
     simp only [execOp, Act.eval, h6]
     go_simp
   | 8, _ =>
     obtain rfl : _ = o := by simpa using ho
     obtain ⟨_, h3⟩ : ∃ _ : List Nat, a.tmps.getD 15 undef = (Value.slice (some ⟨lb, 0, none⟩) NL cap) := hdep 3 (by kernel_rfl)
     obtain ⟨_, h7⟩ : ∃ _ : List Nat, a.tmps.getD 19 undef = (Value.int .i64 (p : Int)) := hdep 7 (by kernel_rfl)
     refine fact_value (w' := w') (v := (Value.pointer (some ⟨lb, p * 5, none⟩))) ?_ (Below.refl _ _) ⟨[], rfl, by simp⟩
     simp only [execOp, Act.eval, h3, h7]
     go_simp
   | 9, _ =>
     obtain rfl : _ = o := by simpa using ho
     obtain ⟨_, h8⟩ : ∃ _ : List Nat, a.tmps.getD 20 undef = (Value.pointer (some ⟨lb, p * 5, none⟩)) := hdep 8 (by kernel_rfl)
     refine fact_value (w' := w') (v := (Value.agg #[.int .i64 xk, .string xt, .int .i64 xn, .int .i64 (xa : Int), .bool xb])) ?_ (Below.refl _ _) ⟨[], rfl, by simp⟩
     simp only [execOp, Act.eval, h8]
     go_simp
   | 10, _ =>
     obtain rfl : _ = o := by simpa using ho
     refine fact_value (w' := w'.alloc (.cells #[.int .i64 0, .string ⟨#[]⟩, .int .i64 0, .int .i64 0, .bool false] 45)) (v := .pointer (some ⟨w'.heap.size, 0, none⟩)) ?_ ((Below.refl _ _).alloc (Nat.le_refl _) _) ⟨[], ⟨w'.heap.size, rfl, heap_alloc_new _ _, hb.size⟩, by simp⟩
     simp only [execOp]
     go_simp
 intro vals S w1 hb hf _
 have v9 : vals 9 = .agg #[.int .i64 xk, .string xt, .int .i64 xn, .int .i64 (xa : Int), .bool xb] := (hf 9 (by omega)).1
 obtain ⟨B6, v10, hk6, hB6⟩ : ∃ b, vals 10 = .pointer (some ⟨b, 0, none⟩) ∧ w1.heap[b]? = some (.cells #[.int .i64 0, .string ⟨#[]⟩, .int .i64 0, .int .i64 0, .bool false] 45 (0, 0)) ∧ W.heap.size ≤ b := (hf 10 (by omega)).1
 simp only [putN, List.getElem?_toArray, List.getElem?_cons_zero, List.getElem?_cons_succ, Option.bind_some, List.drop_succ_cons, List.drop_zero, v9, v10]
 generalize vals 0 = m0
 generalize vals 1 = m1
 generalize vals 2 = m2
 generalize vals 3 = m3
 generalize vals 4 = m4
 generalize vals 5 = m5
 generalize vals 6 = m6
 generalize vals 7 = m7
 generalize vals 8 = m8
 simp only [Act.put, List.setIfInBounds_toArray, List.set_cons_succ, List.set_cons_zero]
 clear hf v9 v10
 obtain ⟨e0', e1', e2', e3', e4', ef⟩ := b5f hk6
 have ef0 := ef 0
 have ef1 := ef 1
 have ef2 := ef 2
 have ef3 := ef 3
 have ef4 := ef 4
 have HK6 : Hid _ := hk6
 have HB1 : Hid (Below W.heap.size W w1) := hb
 clear hk6 hb ef
 go_upto_region 2 with fail
 obtain ⟨V, hV⟩ : ∃ V, V = ((((w1.setCell ⟨B6, 0, none⟩ (.int .i64 xk)).setCell ⟨B6, 1, none⟩ (.string xt)).setCell ⟨B6, 2, none⟩ (.int .i64 xn)).setCell ⟨B6, 3, none⟩ (.int .i64 (xa : Int))).setCell ⟨B6, 4, none⟩ (.bool xb) := ⟨_, rfl⟩
 rw [← hV]
 have HBV : Hid (Below W.heap.size W V) := by rw [hV]; exact below_set (below_set (below_set (below_set (below_set HB1.out hB6 _) hB6 _) hB6 _) hB6 _) hB6 _
 have HKV : Hid (V.heap[B6]? = some (.cells #[.int .i64 xk, .string xt, .int .i64 xn, .int .i64 (xa : Int), .bool xb] 45 (0, 0))) := by
   rw [hV]
   have := set_at5 (i := 4) (set_at5 (i := 3) (set_at5 (i := 2) (set_at5 (i := 1) (set_at5 (i := 0) HK6.out (.int .i64 xk)) (.string xt)) (.int .i64 xn)) (.int .i64 (xa : Int))) (.bool xb)
   show _ = _
   simpa using this
 clear hV HK6 HB1 e0' e1' e2' e3' e4' ef0 ef1 ef2 ef3 ef4
 obtain ⟨d0, d1, d2, d3, d4, _⟩ := b5f HKV.out
 have HSV : Hid (SRd g L (.slice (some ⟨lb, 0, none⟩) L.length cap) nv V (some (e0, ⟨⟨xk, xt, xn, xa, xb⟩ :: r, names⟩))) := HSWW.out.keep HBV.out
 have HB6 : Hid (W.heap.size ≤ B6) := hB6
 have hB6V : B6 < V.heap.size := (Array.getElem?_eq_some_iff.1 HKV.out).1
 have HG0 := HQ.out V HBV.out
 obtain ⟨c0, c1, c2, c3, c4, cf⟩ := b5f HG0.1
 have f1 := cf 1
 have f2 := cf 2
 have hgV : g < V.heap.size := HSV.out.lt
 have hgB : g ≠ B6 := by have := HSWW.out.lt; omega
 clear cf HG0
 have hxb := HXB.out
 subst hxb
 rcases HMM.out with hM | hM
 · have em : (xt.toList == [45]) = true := by rw [hM.1, ByteArray.toList_eq]; rfl
   have HNE := s_near g L _ nv e0 _ _ _ V HL.out HXA.out HSV.out
   rw [hM.2] at HNE
   have HNE : Hid _ := HNE
   clear hM
   go_upto_region 8 with (go_at_call 78; go_loud (refine Calls.mono HNE.out ?_); rintro e w5 ⟨rfl, hb⟩; have HB5 : Hid (Below V.heap.size V w5) := hb; clear hb)
   have HB5W : Hid (Below W.heap.size W w5) := HBV.out.trans (HB5.out.mono HBV.out.size)
   clear c0 c1 c2 c3 c4 f1 f2 d0 d1 d2 d3 d4 em
   have HK5 : Hid (w5.heap[B6]? = some (.cells #[.int .i64 xk, .string xt, .int .i64 xn, .int .i64 (xa : Int), .bool false] 45 (0, 0))) := (HB5.out.block B6 hB6V).trans HKV.out
   obtain ⟨d0, d1, d2, d3, d4, _⟩ := b5f HK5.out
   go_upto_region 9 with (go_at_call 79; go_loud (refine Calls.mono (HP.out _) ?_); rintro e w8 ⟨rfl, hb⟩; have HB8 : Hid (Below w5.heap.size w5 w8) := hb; clear hb)
   clear d0 d1 d2 d3 d4
   obtain ⟨W8, hW8⟩ : ∃ W8, W8 = w8.alloc (.cells #[.string os, .int .i64 o1, .int .i64 o2, .int .i64 o3] 72) := ⟨_, rfl⟩
   rw [← hW8]
   obtain ⟨B7, hB7⟩ : ∃ B7, B7 = w8.heap.size := ⟨_, rfl⟩
   rw [← hB7]
   have b8 : Below w8.heap.size w8 W8 := by rw [hW8]; exact (Below.refl _ _).alloc (Nat.le_refl _) _
   have hs5 := HB5W.out.size
   have hs8 := HB8.out.size
   have b58 : Below w5.heap.size w5 W8 := HB8.out.trans (b8.mono hs8)
   have HB8W : Hid (Below W.heap.size W W8) := HB5W.out.trans (b58.mono hs5)
   have HK7 : Hid (W8.heap[B7]? = some (.cells #[.string os, .int .i64 o1, .int .i64 o2, .int .i64 o3] 72 (0, 0))) := by rw [hW8, hB7]; exact heap_alloc_new _ _
   have HK68 : Hid (W8.heap[B6]? = some (.cells #[.int .i64 xk, .string xt, .int .i64 xn, .int .i64 (xa : Int), .bool false] 45 (0, 0))) := (b58.block B6 (Array.getElem?_eq_some_iff.1 HK5.out).1).trans HK5.out
   have HB7 : Hid (W.heap.size ≤ B7) := by show _ ≤ _; omega
   have HS8 : Hid (SRd g L (.slice (some ⟨lb, 0, none⟩) L.length cap) nv W8 (some (e0, ⟨⟨xk, xt, xn, xa, false⟩ :: r, names⟩))) := HSWW.out.keep HB8W.out
   clear hW8 hB7 b8 hs5 hs8 b58 HK5 HKV HSV hB6V hgV HB8 HB5 HB5W
   have hlt7 : B7 < W8.heap.size := (Array.getElem?_eq_some_iff.1 HK7.out).1
   have hlt6 : B6 < W8.heap.size := (Array.getElem?_eq_some_iff.1 HK68.out).1
   have hgW8 : g < W8.heap.size := HS8.out.lt
   have HG0 := HQ.out W8 HB8W.out
   obtain ⟨c0, c1, c2, c3, c4, cf⟩ := b5f HG0.1
   have f1 := cf 1
   have f2 := cf 2
   clear HG0 cf
   obtain ⟨p0, p1, p2, p3, _⟩ := blk4 HK7.out
   obtain ⟨d0, d1, d2, d3, d4, _⟩ := b5f HK68.out
   have hg7 : g ≠ B7 := by have := HSWW.out.lt; have := HB7.out; omega
   go_upto_region 11 with fail
   obtain ⟨V10, hV10⟩ : ∃ V10, V10 = W8.setCell ⟨g, 1, none⟩ (.int .i64 ((p : Int) + 1)) := ⟨_, rfl⟩
   rw [← hV10]
   obtain ⟨hNL, hp, hd, hnm⟩ := HNL.out
   obtain ⟨hgq, hlq, hnq⟩ := HQ.out W8 HB8W.out
   have S10 : SRd g L (.slice (some ⟨lb, 0, none⟩) L.length cap) nv V10 (some (e0, ⟨r, names⟩)) := by
     rw [hV10]; exact SRd.go 1 hgq hlq hnq (by omega) hd hnm (by omega)
   have HX10 : Hid (FX (XS g nv) (XS g nv) W V10) := by rw [hV10]; exact (FX.of_below HB8W.out).trans (FX.set_g _)
   have HK67 : Hid (V10.heap[B6]? = some (.cells #[.int .i64 xk, .string xt, .int .i64 xn, .int .i64 (xa : Int), .bool false] 45 (0, 0)) ∧ V10.heap[B7]? = some (.cells #[.string os, .int .i64 o1, .int .i64 o2, .int .i64 o3] 72 (0, 0))) := by
     rw [hV10, set_oth5 _ (Ne.symm hgB), set_oth5 _ (Ne.symm hg7)]; exact ⟨HK68.out, HK7.out⟩
   obtain ⟨p0, p1, p2, p3, _⟩ := blk4 HK67.out.2
   have HTM := HTC.out e0 o3 ⟨r, names⟩ nv V10 HF.out S10
   rw [← HR1.out] at HTM
   have HTM : Hid _ := HTM
   have HNX : Hid (¬ XS g nv B6 ∧ ¬ XS g nv B7) := ⟨HSWW.out.xnew _ HB6.out, HSWW.out.xnew _ HB7.out⟩
   clear hV10 hNL hp hd hnm hgq hlq hnq S10 c0 c1 c2 c3 c4 f1 f2 d0 d1 d2 d3 d4 hlt6 hlt7 hgW8 HK7 HK68 HS8 HB8W hg7 hgB
   go_upto_region 12 with (go_at_call 27; go_loud (refine Calls.mono HTM.out ?_); rintro e w11 ⟨v, rfl, t, F, nv', ht, hR, hs, hx⟩; have HT11 : Hid (TOk 24 (XS g nv') V10.heap.size w11 t v F) := ht; have HR11 : Hid (∀ y, R1 = some y → t = y.1) := hR; have HS11 : Hid (SRd g L (.slice (some ⟨lb, 0, none⟩) L.length cap) nv' w11 (R1.map fun y => (e0, y.2))) := hs; have HX11 : Hid (FX (XS g nv) (XS g nv') V10 w11) := hx; obtain ⟨j1, j2, j3, j4, j5, j6, rfl⟩ := ht.form; clear ht hR hs hx)
   obtain ⟨W12, hW12⟩ : ∃ W12, W12 = w11.alloc (.cells #[.int .i64 j1, .string j2, .int .i64 j3, .slice j4 j5 j6] 24) := ⟨_, rfl⟩
   rw [← hW12]
   obtain ⟨B9, hB9⟩ : ∃ B9, B9 = w11.heap.size := ⟨_, rfl⟩
   rw [← hB9]
   have b12 : Below w11.heap.size w11 W12 := by rw [hW12]; exact (Below.refl _ _).alloc (Nat.le_refl _) _
   have k9 : W12.heap[B9]? = some (.cells #[.int .i64 j1, .string j2, .int .i64 j3, .slice j4 j5 j6] 24 (0, 0)) := by rw [hW12, hB9]; exact heap_alloc_new _ _
   have hl6 : B6 < V10.heap.size := (Array.getElem?_eq_some_iff.1 HK67.out.1).1
   have hl7 : B7 < V10.heap.size := (Array.getElem?_eq_some_iff.1 HK67.out.2).1
   have h1011 := HX11.out.size
   have k6 : W12.heap[B6]? = some (.cells #[.int .i64 xk, .string xt, .int .i64 xn, .int .i64 (xa : Int), .bool false] 45 (0, 0)) := (b12.block B6 (by omega)).trans ((HX11.out.block B6 hl6 HNX.out.1).trans HK67.out.1)
   have k7 : W12.heap[B7]? = some (.cells #[.string os, .int .i64 o1, .int .i64 o2, .int .i64 o3] 72 (0, 0)) := (b12.block B7 (by omega)).trans ((HX11.out.block B7 hl7 HNX.out.2).trans HK67.out.2)
   have HK12 : Hid (∀ W', Below W12.heap.size W12 W' → W'.heap[B6]? = some (.cells #[.int .i64 xk, .string xt, .int .i64 xn, .int .i64 (xa : Int), .bool false] 45 (0, 0)) ∧ W'.heap[B7]? = some (.cells #[.string os, .int .i64 o1, .int .i64 o2, .int .i64 o3] 72 (0, 0)) ∧ W'.heap[B9]? = some (.cells #[.int .i64 j1, .string j2, .int .i64 j3, .slice j4 j5 j6] 24 (0, 0))) := fun W' hb => ⟨(hb.block B6 (Array.getElem?_eq_some_iff.1 k6).1).trans k6, (hb.block B7 (Array.getElem?_eq_some_iff.1 k7).1).trans k7, (hb.block B9 (Array.getElem?_eq_some_iff.1 k9).1).trans k9⟩
   have HT12 : Hid (TOk 24 (XS g nv') W.heap.size W12 t (.agg #[.int .i64 j1, .string j2, .int .i64 j3, .slice j4 j5 j6]) F) := (HT11.out.lo_le HX10.out.size).step (FX.of_below b12)
   have HS12 : Hid (SRd g L (.slice (some ⟨lb, 0, none⟩) L.length cap) nv' W12 (R1.map fun y => (e0, y.2))) := HS11.out.keep b12
   have HX12 : Hid (FX (XS g nv) (XS g nv') W W12) := (HX10.out.trans HX11.out).trans (FX.of_below b12)
   clear hW12 hB9 b12 k9 hl6 hl7 h1011 k6 k7 p0 p1 p2 p3 HT11 HS11 HX11 HK67 HTM
   have hk := res_keep HS0.out HSW.out HX12.out HKW.out
   obtain ⟨x0, x1, x2⟩ := HK12.out W12 (Below.refl _ _)
   obtain ⟨y0, y1, y2, y3, y4, _⟩ := b5f x0
   obtain ⟨r0, r1, r2, r3, _⟩ := blk4 x1
   obtain ⟨t0, t1, t2, t3, _⟩ := blk4 x2
   obtain ⟨z0, z1, z2, z3, q0, q1, q2, q3⟩ := blk4 hk
   have HK9 : Hid _ := hk
   have l0 : w.heap.size < W12.heap.size := (Array.getElem?_eq_some_iff.1 hk).1
   have l6 : B6 < W12.heap.size := (Array.getElem?_eq_some_iff.1 x0).1
   have l7 : B7 < W12.heap.size := (Array.getElem?_eq_some_iff.1 x1).1
   have l9 : B9 < W12.heap.size := (Array.getElem?_eq_some_iff.1 x2).1
   have ne6 : ¬ B6 = w.heap.size := by have := HB6.out; have := HSW.out; omega
   have ne7 : ¬ B7 = w.heap.size := by have := HB7.out; have := HSW.out; omega
   have ne7' : ¬ w.heap.size = B7 := by omega
   clear hk x0 x1 x2
   go_region
   obtain ⟨V, hV⟩ : ∃ V, V = (((W12.setCell ⟨w.heap.size, 0, none⟩ (.int .i64 4)).setCell ⟨w.heap.size, 1, none⟩ (.string xt)).setCell ⟨w.heap.size, 2, none⟩ (.int .i64 0)).setCell ⟨w.heap.size, 3, none⟩ (.slice (some ⟨W12.heap.size, 0, none⟩) 1 1) := ⟨_, rfl⟩
   rw [← hV]
   have sV : V.heap.size = W12.heap.size := by rw [hV]; simp [World.setCell]
   have kV : V.heap[w.heap.size]? = some (.cells #[.int .i64 4, .string xt, .int .i64 0, .slice (some ⟨W12.heap.size, 0, none⟩) 1 1] 24 (0, 0)) := by rw [hV]; exact blk4_set HK9.out
   have oV : ∀ k, k ≠ w.heap.size → V.heap[k]? = W12.heap[k]? := fun k hk => by rw [hV]; exact blk4_other hk
   have xV : FX (XS g nv) (XS g nv') w V := by rw [hV]; exact ((((((FX.of_below HBW.out).trans HX12.out).set (Or.inr (Nat.le_refl _)) _).set (Or.inr (Nat.le_refl _)) _).set (Or.inr (Nat.le_refl _)) _).set (Or.inr (Nat.le_refl _)) _)
   have hsW := HSW.out
   have hx0 : ¬ XS g nv' w.heap.size := fun hx => (HX12.out.new _ hx).elim (HS0.out.xnew _ (Nat.le_refl _)) (fun h => by omega)
   have T1 : TOk 24 (XS g nv') W.heap.size V t (.agg #[.int .i64 j1, .string j2, .int .i64 j3, .slice j4 j5 j6]) F := HT12.out.turn fun k hk _ => oV k (by omega)
   have S1 : SRd g L (.slice (some ⟨lb, 0, none⟩) L.length cap) nv' V (R1.map fun y => (e0, y.2)) := HS12.out.turn fun k hk => oV k (by
     rintro rfl
     rcases hk with hk | hk
     · have := HS0.out.lt; omega
     · exact hx0 hk)
   have R := ROk.one T1 (by have := HX12.out.size; omega) (S1.xnew _ (Nat.le_refl _))
   rw [sV] at R
   have bZ : Below V.heap.size V (V.alloc (.cells #[.int .i64 j1, .string j2, .int .i64 j3, .slice j4 j5 j6] 24)).drew := ((Below.refl _ _).alloc (Nat.le_refl _) _).drew
   have kZ := (bZ.block w.heap.size (by have := (Array.getElem?_eq_some_iff.1 kV).1; omega)).trans kV
   have RZ := R.step (FX.of_below (X := XS g nv') ((Below.refl _ _).drew))
   have HRZ : Hid _ := RZ
   have HSZ : Hid _ := S1.keep bZ
   have HXZ : Hid _ := xV.trans (FX.of_below bZ)
   have HKZ : Hid _ := kZ
   clear hV sV kV oV xV hx0 T1 S1 R RZ kZ bZ z0 z1 z2 z3 q0 q1 q2 q3
   generalize (V.alloc (.cells #[.int .i64 j1, .string j2, .int .i64 j3, .slice j4 j5 j6] 24)).drew = Z at *
   go_wp2
   refine bodyPost_ret_by (results_ct2 rfl _ _ w.heap.size 24 _ (0, 0) _ rfl HKZ.out Tryz.underlying24 rfl (by kernel_rfl)) rfl ?_
   refine ⟨_, o1, rfl, ⟨structTm xt [t], _, nv', (HRZ.out.tm HXS.out).lo_le (by have := HBW.out.size; omega), ?_, ?_, HXZ.out⟩, ?_⟩
   · intro y hy
     obtain ⟨z, hz, rfl⟩ := Option.map_eq_some_iff.1 hy
     simp only [Function.comp]
     rw [HR11.out z hz]
   · rw [Option.map_map]; exact HSZ.out
   · intro y hy; obtain ⟨z, _, rfl⟩ := Option.map_eq_some_iff.1 hy; rfl
 · have em : (xt.toList == [45]) = false := toL_ne (l := [45]) hM
   clear hM
   go_upto_region 8 with fail
   obtain ⟨w5, hw5⟩ : ∃ w5, w5 = V := ⟨_, rfl⟩
   rw [← hw5]
   have HB5 : Hid (Below V.heap.size V w5) := by rw [hw5]; exact Below.refl _ _
   clear hw5
   have HB5W : Hid (Below W.heap.size W w5) := HBV.out.trans (HB5.out.mono HBV.out.size)
   clear c0 c1 c2 c3 c4 f1 f2 d0 d1 d2 d3 d4 em
   have HK5 : Hid (w5.heap[B6]? = some (.cells #[.int .i64 xk, .string xt, .int .i64 xn, .int .i64 (xa : Int), .bool false] 45 (0, 0))) := (HB5.out.block B6 hB6V).trans HKV.out
   obtain ⟨d0, d1, d2, d3, d4, _⟩ := b5f HK5.out
   go_upto_region 9 with (go_at_call 79; go_loud (refine Calls.mono (HP.out _) ?_); rintro e w8 ⟨rfl, hb⟩; have HB8 : Hid (Below w5.heap.size w5 w8) := hb; clear hb)
   clear d0 d1 d2 d3 d4
   obtain ⟨W8, hW8⟩ : ∃ W8, W8 = w8.alloc (.cells #[.string os, .int .i64 o1, .int .i64 o2, .int .i64 o3] 72) := ⟨_, rfl⟩
   rw [← hW8]
   obtain ⟨B7, hB7⟩ : ∃ B7, B7 = w8.heap.size := ⟨_, rfl⟩
   rw [← hB7]
   have b8 : Below w8.heap.size w8 W8 := by rw [hW8]; exact (Below.refl _ _).alloc (Nat.le_refl _) _
   have hs5 := HB5W.out.size
   have hs8 := HB8.out.size
   have b58 : Below w5.heap.size w5 W8 := HB8.out.trans (b8.mono hs8)
   have HB8W : Hid (Below W.heap.size W W8) := HB5W.out.trans (b58.mono hs5)
   have HK7 : Hid (W8.heap[B7]? = some (.cells #[.string os, .int .i64 o1, .int .i64 o2, .int .i64 o3] 72 (0, 0))) := by rw [hW8, hB7]; exact heap_alloc_new _ _
   have HK68 : Hid (W8.heap[B6]? = some (.cells #[.int .i64 xk, .string xt, .int .i64 xn, .int .i64 (xa : Int), .bool false] 45 (0, 0))) := (b58.block B6 (Array.getElem?_eq_some_iff.1 HK5.out).1).trans HK5.out
   have HB7 : Hid (W.heap.size ≤ B7) := by show _ ≤ _; omega
   have HS8 : Hid (SRd g L (.slice (some ⟨lb, 0, none⟩) L.length cap) nv W8 (some (e0, ⟨⟨xk, xt, xn, xa, false⟩ :: r, names⟩))) := HSWW.out.keep HB8W.out
   clear hW8 hB7 b8 hs5 hs8 b58 HK5 HKV HSV hB6V hgV HB8 HB5 HB5W
   have hlt7 : B7 < W8.heap.size := (Array.getElem?_eq_some_iff.1 HK7.out).1
   have hlt6 : B6 < W8.heap.size := (Array.getElem?_eq_some_iff.1 HK68.out).1
   have hgW8 : g < W8.heap.size := HS8.out.lt
   have HG0 := HQ.out W8 HB8W.out
   obtain ⟨c0, c1, c2, c3, c4, cf⟩ := b5f HG0.1
   have f1 := cf 1
   have f2 := cf 2
   clear HG0 cf
   obtain ⟨p0, p1, p2, p3, _⟩ := blk4 HK7.out
   obtain ⟨d0, d1, d2, d3, d4, _⟩ := b5f HK68.out
   have hg7 : g ≠ B7 := by have := HSWW.out.lt; have := HB7.out; omega
   go_upto_region 11 with fail
   obtain ⟨V10, hV10⟩ : ∃ V10, V10 = W8.setCell ⟨g, 1, none⟩ (.int .i64 ((p : Int) + 1)) := ⟨_, rfl⟩
   rw [← hV10]
   obtain ⟨hNL, hp, hd, hnm⟩ := HNL.out
   obtain ⟨hgq, hlq, hnq⟩ := HQ.out W8 HB8W.out
   have S10 : SRd g L (.slice (some ⟨lb, 0, none⟩) L.length cap) nv V10 (some (e0, ⟨r, names⟩)) := by
     rw [hV10]; exact SRd.go 1 hgq hlq hnq (by omega) hd hnm (by omega)
   have HX10 : Hid (FX (XS g nv) (XS g nv) W V10) := by rw [hV10]; exact (FX.of_below HB8W.out).trans (FX.set_g _)
   have HK67 : Hid (V10.heap[B6]? = some (.cells #[.int .i64 xk, .string xt, .int .i64 xn, .int .i64 (xa : Int), .bool false] 45 (0, 0)) ∧ V10.heap[B7]? = some (.cells #[.string os, .int .i64 o1, .int .i64 o2, .int .i64 o3] 72 (0, 0))) := by
     rw [hV10, set_oth5 _ (Ne.symm hgB), set_oth5 _ (Ne.symm hg7)]; exact ⟨HK68.out, HK7.out⟩
   obtain ⟨p0, p1, p2, p3, _⟩ := blk4 HK67.out.2
   have HTM := HTC.out e0 o3 ⟨r, names⟩ nv V10 HF.out S10
   rw [← HR1.out] at HTM
   have HTM : Hid _ := HTM
   have HNX : Hid (¬ XS g nv B6 ∧ ¬ XS g nv B7) := ⟨HSWW.out.xnew _ HB6.out, HSWW.out.xnew _ HB7.out⟩
   clear hV10 hNL hp hd hnm hgq hlq hnq S10 c0 c1 c2 c3 c4 f1 f2 d0 d1 d2 d3 d4 hlt6 hlt7 hgW8 HK7 HK68 HS8 HB8W hg7 hgB
   go_upto_region 12 with (go_at_call 27; go_loud (refine Calls.mono HTM.out ?_); rintro e w11 ⟨v, rfl, t, F, nv', ht, hR, hs, hx⟩; have HT11 : Hid (TOk 24 (XS g nv') V10.heap.size w11 t v F) := ht; have HR11 : Hid (∀ y, R1 = some y → t = y.1) := hR; have HS11 : Hid (SRd g L (.slice (some ⟨lb, 0, none⟩) L.length cap) nv' w11 (R1.map fun y => (e0, y.2))) := hs; have HX11 : Hid (FX (XS g nv) (XS g nv') V10 w11) := hx; obtain ⟨j1, j2, j3, j4, j5, j6, rfl⟩ := ht.form; clear ht hR hs hx)
   obtain ⟨W12, hW12⟩ : ∃ W12, W12 = w11.alloc (.cells #[.int .i64 j1, .string j2, .int .i64 j3, .slice j4 j5 j6] 24) := ⟨_, rfl⟩
   rw [← hW12]
   obtain ⟨B9, hB9⟩ : ∃ B9, B9 = w11.heap.size := ⟨_, rfl⟩
   rw [← hB9]
   have b12 : Below w11.heap.size w11 W12 := by rw [hW12]; exact (Below.refl _ _).alloc (Nat.le_refl _) _
   have k9 : W12.heap[B9]? = some (.cells #[.int .i64 j1, .string j2, .int .i64 j3, .slice j4 j5 j6] 24 (0, 0)) := by rw [hW12, hB9]; exact heap_alloc_new _ _
   have hl6 : B6 < V10.heap.size := (Array.getElem?_eq_some_iff.1 HK67.out.1).1
   have hl7 : B7 < V10.heap.size := (Array.getElem?_eq_some_iff.1 HK67.out.2).1
   have h1011 := HX11.out.size
   have k6 : W12.heap[B6]? = some (.cells #[.int .i64 xk, .string xt, .int .i64 xn, .int .i64 (xa : Int), .bool false] 45 (0, 0)) := (b12.block B6 (by omega)).trans ((HX11.out.block B6 hl6 HNX.out.1).trans HK67.out.1)
   have k7 : W12.heap[B7]? = some (.cells #[.string os, .int .i64 o1, .int .i64 o2, .int .i64 o3] 72 (0, 0)) := (b12.block B7 (by omega)).trans ((HX11.out.block B7 hl7 HNX.out.2).trans HK67.out.2)
   have HK12 : Hid (∀ W', Below W12.heap.size W12 W' → W'.heap[B6]? = some (.cells #[.int .i64 xk, .string xt, .int .i64 xn, .int .i64 (xa : Int), .bool false] 45 (0, 0)) ∧ W'.heap[B7]? = some (.cells #[.string os, .int .i64 o1, .int .i64 o2, .int .i64 o3] 72 (0, 0)) ∧ W'.heap[B9]? = some (.cells #[.int .i64 j1, .string j2, .int .i64 j3, .slice j4 j5 j6] 24 (0, 0))) := fun W' hb => ⟨(hb.block B6 (Array.getElem?_eq_some_iff.1 k6).1).trans k6, (hb.block B7 (Array.getElem?_eq_some_iff.1 k7).1).trans k7, (hb.block B9 (Array.getElem?_eq_some_iff.1 k9).1).trans k9⟩
   have HT12 : Hid (TOk 24 (XS g nv') W.heap.size W12 t (.agg #[.int .i64 j1, .string j2, .int .i64 j3, .slice j4 j5 j6]) F) := (HT11.out.lo_le HX10.out.size).step (FX.of_below b12)
   have HS12 : Hid (SRd g L (.slice (some ⟨lb, 0, none⟩) L.length cap) nv' W12 (R1.map fun y => (e0, y.2))) := HS11.out.keep b12
   have HX12 : Hid (FX (XS g nv) (XS g nv') W W12) := (HX10.out.trans HX11.out).trans (FX.of_below b12)
   clear hW12 hB9 b12 k9 hl6 hl7 h1011 k6 k7 p0 p1 p2 p3 HT11 HS11 HX11 HK67 HTM
   have hk := res_keep HS0.out HSW.out HX12.out HKW.out
   obtain ⟨x0, x1, x2⟩ := HK12.out W12 (Below.refl _ _)
   obtain ⟨y0, y1, y2, y3, y4, _⟩ := b5f x0
   obtain ⟨r0, r1, r2, r3, _⟩ := blk4 x1
   obtain ⟨t0, t1, t2, t3, _⟩ := blk4 x2
   obtain ⟨z0, z1, z2, z3, q0, q1, q2, q3⟩ := blk4 hk
   have HK9 : Hid _ := hk
   have l0 : w.heap.size < W12.heap.size := (Array.getElem?_eq_some_iff.1 hk).1
   have l6 : B6 < W12.heap.size := (Array.getElem?_eq_some_iff.1 x0).1
   have l7 : B7 < W12.heap.size := (Array.getElem?_eq_some_iff.1 x1).1
   have l9 : B9 < W12.heap.size := (Array.getElem?_eq_some_iff.1 x2).1
   have ne6 : ¬ B6 = w.heap.size := by have := HB6.out; have := HSW.out; omega
   have ne7 : ¬ B7 = w.heap.size := by have := HB7.out; have := HSW.out; omega
   have ne7' : ¬ w.heap.size = B7 := by omega
   clear hk x0 x1 x2
   go_region
   obtain ⟨V, hV⟩ : ∃ V, V = (((W12.setCell ⟨w.heap.size, 0, none⟩ (.int .i64 4)).setCell ⟨w.heap.size, 1, none⟩ (.string xt)).setCell ⟨w.heap.size, 2, none⟩ (.int .i64 0)).setCell ⟨w.heap.size, 3, none⟩ (.slice (some ⟨W12.heap.size, 0, none⟩) 1 1) := ⟨_, rfl⟩
   rw [← hV]
   have sV : V.heap.size = W12.heap.size := by rw [hV]; simp [World.setCell]
   have kV : V.heap[w.heap.size]? = some (.cells #[.int .i64 4, .string xt, .int .i64 0, .slice (some ⟨W12.heap.size, 0, none⟩) 1 1] 24 (0, 0)) := by rw [hV]; exact blk4_set HK9.out
   have oV : ∀ k, k ≠ w.heap.size → V.heap[k]? = W12.heap[k]? := fun k hk => by rw [hV]; exact blk4_other hk
   have xV : FX (XS g nv) (XS g nv') w V := by rw [hV]; exact ((((((FX.of_below HBW.out).trans HX12.out).set (Or.inr (Nat.le_refl _)) _).set (Or.inr (Nat.le_refl _)) _).set (Or.inr (Nat.le_refl _)) _).set (Or.inr (Nat.le_refl _)) _)
   have hsW := HSW.out
   have hx0 : ¬ XS g nv' w.heap.size := fun hx => (HX12.out.new _ hx).elim (HS0.out.xnew _ (Nat.le_refl _)) (fun h => by omega)
   have T1 : TOk 24 (XS g nv') W.heap.size V t (.agg #[.int .i64 j1, .string j2, .int .i64 j3, .slice j4 j5 j6]) F := HT12.out.turn fun k hk _ => oV k (by omega)
   have S1 : SRd g L (.slice (some ⟨lb, 0, none⟩) L.length cap) nv' V (R1.map fun y => (e0, y.2)) := HS12.out.turn fun k hk => oV k (by
     rintro rfl
     rcases hk with hk | hk
     · have := HS0.out.lt; omega
     · exact hx0 hk)
   have R := ROk.one T1 (by have := HX12.out.size; omega) (S1.xnew _ (Nat.le_refl _))
   rw [sV] at R
   have bZ : Below V.heap.size V (V.alloc (.cells #[.int .i64 j1, .string j2, .int .i64 j3, .slice j4 j5 j6] 24)).drew := ((Below.refl _ _).alloc (Nat.le_refl _) _).drew
   have kZ := (bZ.block w.heap.size (by have := (Array.getElem?_eq_some_iff.1 kV).1; omega)).trans kV
   have RZ := R.step (FX.of_below (X := XS g nv') ((Below.refl _ _).drew))
   have HRZ : Hid _ := RZ
   have HSZ : Hid _ := S1.keep bZ
   have HXZ : Hid _ := xV.trans (FX.of_below bZ)
   have HKZ : Hid _ := kZ
   clear hV sV kV oV xV hx0 T1 S1 R RZ kZ bZ z0 z1 z2 z3 q0 q1 q2 q3
   generalize (V.alloc (.cells #[.int .i64 j1, .string j2, .int .i64 j3, .slice j4 j5 j6] 24)).drew = Z at *
   go_wp2
   refine bodyPost_ret_by (results_ct2 rfl _ _ w.heap.size 24 _ (0, 0) _ rfl HKZ.out Tryz.underlying24 rfl (by kernel_rfl)) rfl ?_
   refine ⟨_, o1, rfl, ⟨structTm xt [t], _, nv', (HRZ.out.tm HXS.out).lo_le (by have := HBW.out.size; omega), ?_, ?_, HXZ.out⟩, ?_⟩
   · intro y hy
     obtain ⟨z, hz, rfl⟩ := Option.map_eq_some_iff.1 hy
     simp only [Function.comp]
     rw [HR11.out z hz]
   · rw [Option.map_map]; exact HSZ.out
   · intro y hy; obtain ⟨z, _, rfl⟩ := Option.map_eq_some_iff.1 hy; rfl
end Go.Proofs.YtbkjcccbjnehbanGreatDoor

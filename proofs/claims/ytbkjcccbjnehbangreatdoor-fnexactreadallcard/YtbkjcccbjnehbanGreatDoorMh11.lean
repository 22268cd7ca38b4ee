import Derived.Test.YtbkjcccbjnehbanGreatDoorMh10
import Derived.Test.YtbkjcccbjnehbanGreatDoorMh9
namespace Go.Proofs.YtbkjcccbjnehbanGreatDoor
open Go.RowKit
theorem wrap64_rng (n : Int) : -9223372036854775808 ≤ wrap64 n ∧ wrap64 n ≤ 9223372036854775807 := by unfold wrap64; omega
set_option maxHeartbeats 8000000 in
set_option maxRecDepth 20000 in
theorem s_at_minus (f g : Nat) (L : List Sg) (lv nv : Value) (e0 : Nat) (most : Int) (xk : Int) (xt : ByteArray) (xn : Int) (xa : Nat) (xb : Bool) (r : List Sg) (names : List ByteArray) (w : World) (hL : L.length ≤ 3000) (hxa : xa ≤ 100000) (h : SRd g L lv nv w (some (e0, ⟨⟨xk, xt, xn, xa, xb⟩ :: r, names⟩))) (hxb : xb = false) (hxm : xt = cMinus) (hno : nearO ⟨xk, xt, xn, xa, xb⟩ r = true) :
   Calls Tryz.prog 60 #[.pointer (some ⟨g, 0, none⟩), .int .i64 most] w fun e w' => ∃ v pr, e = .returned (.tuple #[v, .int .i64 pr]) ∧ TmR g L lv nv w v w' ((atomO true (termO true f) most ⟨xk, xt, xn, xa, xb⟩ r names).map fun y => (y.1, y.2.2)) e0 ∧ (∀ y, atomO true (termO true f) most ⟨xk, xt, xn, xa, xb⟩ r names = some y → pr = y.2.1) := by
 obtain ⟨u, r2, hr⟩ : ∃ u r2, r = u :: r2 := by
   cases r with
   | nil => cases hno
   | cons u r2 => exact ⟨u, r2, rfl⟩
 have eR : atomO true (termO true f) most ⟨xk, xt, xn, xa, xb⟩ r names = some (intTm (wrap64 (-u.num)), 0, ⟨r2, names⟩) := by
   unfold atomO
   simp only [hxb, Bool.false_eq_true, if_false]
   rw [hxb] at hno
   rw [if_pos ⟨hxm, hno⟩, hr]
   rfl
 obtain ⟨un, hun⟩ : ∃ un, un = u.num := ⟨_, rfl⟩
 rw [eR, ← hun]
 have HUN : Hid (un = u.num) := hun
 have HR' : Hid (r = u :: r2) := hr
 have HXB : Hid (xb = false) := hxb
 have HNO : Hid (nearO ⟨xk, xt, xn, xa, xb⟩ r = true) := hno
 have em : (xt.toList == [45]) = true := by rw [hxm, ByteArray.toList_eq]; rfl
 have HXA : Hid (xa ≤ 100000) := hxa
 clear eR hr hun hxb hno hxm hxa
 obtain ⟨W, hW⟩ : ∃ W, W = w.alloc (.cells #[.int .i64 0, .string ⟨#[]⟩, .int .i64 0, .slice none 0 0] 24) := ⟨_, rfl⟩
 have bW : Below w.heap.size w W := by rw [hW]; exact (Below.refl _ _).alloc (Nat.le_refl _) _
 have sW : W.heap.size = w.heap.size + 1 := by rw [hW]; simp
 have kW : W.heap[w.heap.size]? = some (.cells #[.int .i64 0, .string ⟨#[]⟩, .int .i64 0, .slice none 0 0] 24 (0, 0)) := by rw [hW]; exact heap_alloc_new _ _
 have HS0 : Hid (SRd g L lv nv w (some (e0, ⟨⟨xk, xt, xn, xa, xb⟩ :: r, names⟩))) := h
 have HSWW : Hid (SRd g L lv nv W (some (e0, ⟨⟨xk, xt, xn, xa, xb⟩ :: r, names⟩))) := h.keep bW
 have HKW : Hid (W.heap[w.heap.size]? = some (.cells #[.int .i64 0, .string ⟨#[]⟩, .int .i64 0, .slice none 0 0] 24 (0, 0))) := kW
 have HBW : Hid (Below w.heap.size w W) := bW
 have HSW : Hid (W.heap.size = w.heap.size + 1) := sW
 have HL : Hid (L.length ≤ 3000) := hL
 obtain ⟨p, lb, cap, rfl, hp, hd, hnm, hg, hl, hnr, k0, k1, k2, k3, k4, hlg⟩ := HSWW.out.sign
 obtain ⟨c0, c1, _, _, _, _⟩ := b5f hg
 obtain ⟨NL, hNL⟩ : ∃ NL, NL = L.length := ⟨_, rfl⟩
 rw [← hNL] at c0
 have hpN : p < NL := by omega
 have hp3 : (p : Int) ≤ 3000 := by omega
 have HNL : Hid (NL = L.length ∧ p < L.length ∧ L.drop (p + 1) = r ∧ names.length ≤ p) := ⟨hNL, hp, hd, hnm⟩
 have HC : Hid (∀ W', Below W.heap.size W W' → W'.cell? ⟨g, 0, none⟩ = some (.slice (some ⟨lb, 0, none⟩) NL cap) ∧ W'.cell? ⟨g, 1, none⟩ = some (.int .i64 (p : Int)) ∧ W'.cell? ⟨lb, p * 5, none⟩ = some (.int .i64 xk) ∧ W'.cell? ⟨lb, p * 5 + 1, none⟩ = some (.string xt) ∧ W'.cell? ⟨lb, p * 5 + 2, none⟩ = some (.int .i64 xn) ∧ W'.cell? ⟨lb, p * 5 + 3, none⟩ = some (.int .i64 (xa : Int)) ∧ W'.cell? ⟨lb, p * 5 + 4, none⟩ = some (.bool xb)) :=
   fun W' hb => ⟨cell_keep c0 hb, cell_keep c1 hb, cell_keep k0 hb, cell_keep k1 hb, cell_keep k2 hb, cell_keep k3 hb, cell_keep k4 hb⟩
 have HQ : Hid (∀ W', Below W.heap.size W W' → W'.heap[g]? = some (.cells #[.slice (some ⟨lb, 0, none⟩) L.length cap, .int .i64 (p : Int), .bool false, .int .i64 (e0 : Int), nv] 52 (0, 0)) ∧ LIn W' g L (.slice (some ⟨lb, 0, none⟩) L.length cap) ∧ NRow W' (g + 1) names nv) :=
   fun W' hb => ⟨(hb.block g HSWW.out.lt).trans hg, hl.turn fun k hk => hb.block k (by have := HSWW.out.lt; omega), hnr.turn fun b e => hb.block b (hnr.lt b e).2⟩
 clear h bW sW kW hL c0 c1 hNL hp hd hnm hg hl hnr k0 k1 k2 k3 k4
 go_enter Tryz.func60, Tryz.ntmps60
 go_upto_region 1 with fail
 rw [← hW]
 clear hW
 refine wp_region_facts 11 (fun i v S w' => match i with
   | 0 => v = (Value.pointer (some ⟨g, 0, none⟩))
   | 1 => v = (Value.pointer (some ⟨g, 0, none⟩))
   | 2 => v = (Value.pointer (some ⟨g, 0, none⟩))
   | 3 => v = (Value.slice (some ⟨lb, 0, none⟩) NL cap)
   | 4 => v = (Value.pointer (some ⟨g, 0, none⟩))
   | 5 => v = (Value.pointer (some ⟨g, 0, none⟩))
   | 6 => v = (Value.pointer (some ⟨g, 1, none⟩))
   | 7 => v = (Value.int .i64 (p : Int))
   | 8 => v = (Value.pointer (some ⟨lb, p * 5, none⟩))
   | 9 => v = (Value.agg #[.int .i64 xk, .string xt, .int .i64 xn, .int .i64 (xa : Int), .bool xb])
   | _ => ∃ b, v = .pointer (some ⟨b, 0, none⟩) ∧ w'.heap[b]? = some (.cells #[.int .i64 0, .string ⟨#[]⟩, .int .i64 0, .int .i64 0, .bool false] 45 (0, 0)) ∧ W.heap.size ≤ b) (by kernel_rfl) (by kernel_rfl) 122 rfl (by kernel_rfl) ?_ ?_ ?_
 · intro i v S w w' hi h hb
   match i, hi, h with
   | 0, _, h => exact h
   | 1, _, h => exact h
   | 2, _, h => exact h
   | 3, _, h => exact h
   | 4, _, h => exact h
   | 5, _, h => exact h
   | 6, _, h => exact h
   | 7, _, h => exact h
   | 8, _, h => exact h
   | 9, _, h => exact h
   | 10, _, ⟨b, h1, h2, h3⟩ => exact ⟨b, h1, (hb.block b (Array.getElem?_eq_some_iff.1 h2).1).trans h2, h3⟩
 · intro i o hi ho a w' hb hfr hdep
   obtain ⟨y0, y1, z0, z1, z2, z3, z4⟩ := HC.out w' hb
   have u0 : a.tmps.getD 0 undef = (Value.pointer (some ⟨g, 0, none⟩)) := hfr 0 (by decide)
   match i, hi with
   | 0, _ =>
     obtain rfl : _ = o := by simpa using ho
     refine fact_value (w' := w') (v := (Value.pointer (some ⟨g, 0, none⟩))) ?_ (Below.refl _ _) ⟨[], rfl, by simp⟩
     simp only [execOp, Act.eval, u0]
     go_simp
   | 1, _ =>
     obtain rfl : _ = o := by simpa using ho
     obtain ⟨_, h0⟩ : ∃ _ : List Nat, a.tmps.getD 12 undef = (Value.pointer (some ⟨g, 0, none⟩)) := hdep 0 (by kernel_rfl)
     refine fact_value (w' := w') (v := (Value.pointer (some ⟨g, 0, none⟩))) ?_ (Below.refl _ _) ⟨[], rfl, by simp⟩
     simp only [execOp, Act.eval, h0]
     go_simp
   | 2, _ =>
     obtain rfl : _ = o := by simpa using ho
     obtain ⟨_, h1⟩ : ∃ _ : List Nat, a.tmps.getD 13 undef = (Value.pointer (some ⟨g, 0, none⟩)) := hdep 1 (by kernel_rfl)
     refine fact_value (w' := w') (v := (Value.pointer (some ⟨g, 0, none⟩))) ?_ (Below.refl _ _) ⟨[], rfl, by simp⟩
     simp only [execOp, Act.eval, h1]
     go_simp
   | 3, _ =>
     obtain rfl : _ = o := by simpa using ho
     obtain ⟨_, h2⟩ : ∃ _ : List Nat, a.tmps.getD 14 undef = (Value.pointer (some ⟨g, 0, none⟩)) := hdep 2 (by kernel_rfl)
     refine fact_value (w' := w') (v := (Value.slice (some ⟨lb, 0, none⟩) NL cap)) ?_ (Below.refl _ _) ⟨[], rfl, by simp⟩
     simp only [execOp, Act.eval, h2]
     go_simp
   | 4, _ =>
     obtain rfl : _ = o := by simpa using ho
     refine fact_value (w' := w') (v := (Value.pointer (some ⟨g, 0, none⟩))) ?_ (Below.refl _ _) ⟨[], rfl, by simp⟩
     simp only [execOp, Act.eval, u0]
     go_simp
   | 5, _ =>
     obtain rfl : _ = o := by simpa using ho
     obtain ⟨_, h4⟩ : ∃ _ : List Nat, a.tmps.getD 16 undef = (Value.pointer (some ⟨g, 0, none⟩)) := hdep 4 (by kernel_rfl)
     refine fact_value (w' := w') (v := (Value.pointer (some ⟨g, 0, none⟩))) ?_ (Below.refl _ _) ⟨[], rfl, by simp⟩
     simp only [execOp, Act.eval, h4]
     go_simp
   | 6, _ =>
     obtain rfl : _ = o := by simpa using ho
     obtain ⟨_, h5⟩ : ∃ _ : List Nat, a.tmps.getD 17 undef = (Value.pointer (some ⟨g, 0, none⟩)) := hdep 5 (by kernel_rfl)
     refine fact_value (w' := w') (v := (Value.pointer (some ⟨g, 1, none⟩))) ?_ (Below.refl _ _) ⟨[], rfl, by simp⟩
     simp only [execOp, Act.eval, h5]
     go_simp
   | 7, _ =>
     obtain rfl : _ = o := by simpa using ho
     obtain ⟨_, h6⟩ : ∃ _ : List Nat, a.tmps.getD 18 undef = (Value.pointer (some ⟨g, 1, none⟩)) := hdep 6 (by kernel_rfl)
     refine fact_value (w' := w') (v := (Value.int .i64 (p : Int))) ?_ (Below.refl _ _) ⟨[], rfl, by simp⟩
     simp only [execOp, Act.eval, h6]
     go_simp
   | 8, _ =>
     obtain rfl : _ = o := by simpa using ho
     obtain ⟨_, h3⟩ : ∃ _ : List Nat, a.tmps.getD 15 undef = (Value.slice (some ⟨lb, 0, none⟩) NL cap) := hdep 3 (by kernel_rfl)
     obtain ⟨_, h7⟩ : ∃ _ : List Nat, a.tmps.getD 19 undef = (Value.int .i64 (p : Int)) := hdep 7 (by kernel_rfl)
     refine fact_value (w' := w') (v := (Value.pointer (some ⟨lb, p * 5, none⟩))) ?_ (Below.refl _ _) ⟨[], rfl, by simp⟩
     simp only [execOp, Act.eval, h3, h7]
     go_simp
   | 9, _ =>
     obtain rfl : _ = o := by simpa using ho
     obtain ⟨_, h8⟩ : ∃ _ : List Nat, a.tmps.getD 20 undef = (Value.pointer (some ⟨lb, p * 5, none⟩)) := hdep 8 (by kernel_rfl)
     refine fact_value (w' := w') (v := (Value.agg #[.int .i64 xk, .string xt, .int .i64 xn, .int .i64 (xa : Int), .bool xb])) ?_ (Below.refl _ _) ⟨[], rfl, by simp⟩
     simp only [execOp, Act.eval, h8]
     go_simp
   | 10, _ =>
     obtain rfl : _ = o := by simpa using ho
     refine fact_value (w' := w'.alloc (.cells #[.int .i64 0, .string ⟨#[]⟩, .int .i64 0, .int .i64 0, .bool false] 45)) (v := .pointer (some ⟨w'.heap.size, 0, none⟩)) ?_ ((Below.refl _ _).alloc (Nat.le_refl _) _) ⟨[], ⟨w'.heap.size, rfl, heap_alloc_new _ _, hb.size⟩, by simp⟩
     simp only [execOp]
     go_simp
 intro vals S w1 hb hf _
 have v9 : vals 9 = .agg #[.int .i64 xk, .string xt, .int .i64 xn, .int .i64 (xa : Int), .bool xb] := (hf 9 (by omega)).1
 obtain ⟨B6, v10, hk6, hB6⟩ : ∃ b, vals 10 = .pointer (some ⟨b, 0, none⟩) ∧ w1.heap[b]? = some (.cells #[.int .i64 0, .string ⟨#[]⟩, .int .i64 0, .int .i64 0, .bool false] 45 (0, 0)) ∧ W.heap.size ≤ b := (hf 10 (by omega)).1
 simp only [putN, List.getElem?_toArray, List.getElem?_cons_zero, List.getElem?_cons_succ, Option.bind_some, List.drop_succ_cons, List.drop_zero, v9, v10]
 generalize vals 0 = m0
 generalize vals 1 = m1
 generalize vals 2 = m2
 generalize vals 3 = m3
 generalize vals 4 = m4
 generalize vals 5 = m5
 generalize vals 6 = m6
 generalize vals 7 = m7
 generalize vals 8 = m8
 simp only [Act.put, List.setIfInBounds_toArray, List.set_cons_succ, List.set_cons_zero]
 clear hf v9 v10
 obtain ⟨e0', e1', e2', e3', e4', ef⟩ := b5f hk6
 have ef0 := ef 0
 have ef1 := ef 1
 have ef2 := ef 2
 have ef3 := ef 3
 have ef4 := ef 4
 have HK6 : Hid _ := hk6
 have HB1 : Hid (Below W.heap.size W w1) := hb
 clear hk6 hb ef
 go_upto_region 2 with fail
 obtain ⟨V, hV⟩ : ∃ V, V = ((((w1.setCell ⟨B6, 0, none⟩ (.int .i64 xk)).setCell ⟨B6, 1, none⟩ (.string xt)).setCell ⟨B6, 2, none⟩ (.int .i64 xn)).setCell ⟨B6, 3, none⟩ (.int .i64 (xa : Int))).setCell ⟨B6, 4, none⟩ (.bool xb) := ⟨_, rfl⟩
 rw [← hV]
 have HBV : Hid (Below W.heap.size W V) := by rw [hV]; exact below_set (below_set (below_set (below_set (below_set HB1.out hB6 _) hB6 _) hB6 _) hB6 _) hB6 _
 have HKV : Hid (V.heap[B6]? = some (.cells #[.int .i64 xk, .string xt, .int .i64 xn, .int .i64 (xa : Int), .bool xb] 45 (0, 0))) := by
   rw [hV]
   have := set_at5 (i := 4) (set_at5 (i := 3) (set_at5 (i := 2) (set_at5 (i := 1) (set_at5 (i := 0) HK6.out (.int .i64 xk)) (.string xt)) (.int .i64 xn)) (.int .i64 (xa : Int))) (.bool xb)
   show _ = _
   simpa using this
 clear hV HK6 HB1 e0' e1' e2' e3' e4' ef0 ef1 ef2 ef3 ef4
 obtain ⟨d0, d1, d2, d3, d4, _⟩ := b5f HKV.out
 have HSV : Hid (SRd g L (.slice (some ⟨lb, 0, none⟩) L.length cap) nv V (some (e0, ⟨⟨xk, xt, xn, xa, xb⟩ :: r, names⟩))) := HSWW.out.keep HBV.out
 have HB6 : Hid (W.heap.size ≤ B6) := hB6
 have hB6V : B6 < V.heap.size := (Array.getElem?_eq_some_iff.1 HKV.out).1
 have HG0 := HQ.out V HBV.out
 obtain ⟨c0, c1, c2, c3, c4, cf⟩ := b5f HG0.1
 have f1 := cf 1
 have f2 := cf 2
 have hgV : g < V.heap.size := HSV.out.lt
 have hgB : g ≠ B6 := by have := HSWW.out.lt; omega
 clear cf HG0
 have hxb := HXB.out
 subst hxb
 have HNE := s_near g L _ nv e0 _ _ _ V HL.out HXA.out HSV.out
 rw [HNO.out] at HNE
 have HNE : Hid _ := HNE
 go_upto_region 6 with (go_at_call 78; go_loud (refine Calls.mono HNE.out ?_); rintro e w5 ⟨rfl, hb⟩; have HB5 : Hid (Below V.heap.size V w5) := hb; clear hb)
 have HB5W : Hid (Below W.heap.size W w5) := HBV.out.trans (HB5.out.mono HBV.out.size)
 clear c0 c1 c2 c3 c4 f1 f2 d0 d1 d2 d3 d4 em
 have HG0 := HQ.out w5 HB5W.out
 obtain ⟨c0, c1, c2, c3, c4, cf⟩ := b5f HG0.1
 have f1 := cf 1
 clear HG0 cf
 go_upto_region 7 with fail
 obtain ⟨V3, hV3⟩ : ∃ V3, V3 = w5.setCell ⟨g, 1, none⟩ (.int .i64 ((p : Int) + 2)) := ⟨_, rfl⟩
 rw [← hV3]
 obtain ⟨hNL, hp, hd, hnm⟩ := HNL.out
 rw [HR'.out] at hd
 obtain ⟨hp1, hd2⟩ := drop_cons hd
 obtain ⟨hgq, hlq, hnq⟩ := HQ.out w5 HB5W.out
 have S3 : SRd g L (.slice (some ⟨lb, 0, none⟩) L.length cap) nv V3 (some (e0, ⟨r2, names⟩)) := by
   rw [hV3]; exact SRd.go 2 hgq hlq hnq (by omega) hd2 hnm (by omega)
 have HX3 : Hid (FX (XS g nv) (XS g nv) W V3) := by rw [hV3]; exact (FX.of_below HB5W.out).trans (FX.set_g _)
 have HS3 : Hid _ := S3
 have gV : V3.heap[g]? = some (.cells #[.slice (some ⟨lb, 0, none⟩) L.length cap, .int .i64 ((p : Int) + 2), .bool false, .int .i64 (e0 : Int), nv] 52 (0, 0)) := by
   rw [hV3]; have := set_at5 (i := 1) hgq (.int .i64 ((p : Int) + 2)); simpa using this
 obtain ⟨c0, c1, _, _, _, _⟩ := b5f gV
 rw [← hNL] at c0
 have hSV2 := HSV.out
 rw [HR'.out] at hSV2
 obtain ⟨p', q, lb', cap', hq', he', hq2, _, _, _, hg', _, _, _, _, _, _, _, m0, m1, m2, m3, m4, hlg'⟩ := hSV2.sign2
 have hpp : p' = p := by
   have h1 := (HQ.out V HBV.out).1
   rw [h1] at hg'
   simp at hg'
   omega
 have hll : lb' = lb := by simp at he'; omega
 have m2' : V3.cell? ⟨lb, q * 5 + 2, none⟩ = some (.int .i64 u.num) := by
   rw [hV3, World.cell?_of_block (set_oth5 _ (by show lb ≠ g; omega))]
   rw [← hll]; exact cell_keep m2 HB5.out
 rw [← HUN.out] at m2'
 have hqN : q < NL := by omega
 have hsub : ((p : Int) + 2) - 1 = (q : Int) := by omega
 have y0 := fun u => cell_keep c0 (later_below V3 u)
 have y1 := fun u => cell_keep c1 (later_below V3 u)
 have y2 := fun u => cell_keep m2' (later_below V3 u)
 have HA : Hid _ := fun wq => s_num (XS g nv) (wrap64 (-un)) wq (wrap64_rng _)
 clear hV3 hNL hp hd hnm hp1 hd2 hgq hlq hnq S3 c0 c1 gV hSV2 hq' he' hq2 hg' m0 m1 m2 m3 m4 hlg' hpp hll m2' f1 hgB hB6V hB6 hgV
 refine wp_region_tail 13 (by kernel_rfl) (by kernel_rfl) ?_
 simp only [List.take_succ_cons, List.take_zero, List.drop_succ_cons, List.drop_zero]
 repeat (go_big_quiet_step (skip))
 refine wpQuiet_nil ?_
 rintro _ ⟨u3, rfl⟩
 have HB3 : Hid (Below V3.heap.size V3 (later V3 u3)) := later_below V3 u3
 clear y0 y1 y2
 generalize later V3 u3 = w3 at *
 go_wp2_with (go_at_call 64; go_loud (refine Calls.mono (HA.out _) ?_); rintro e w4 ⟨v, rfl, ht, hb⟩; have HT4 : Hid (TOk 24 (XS g nv) w3.heap.size w4 (intTm (wrap64 (-un))) v []) := ht; have HB4 : Hid (Below w3.heap.size w3 w4) := hb; have HXT : Hid (FX (XS g nv) (XS g nv) W w4) := (HX3.out.trans (FX.of_below HB3.out)).trans (FX.of_below hb); obtain ⟨h1, h2, h3, h4, h5, h6, rfl⟩ := ht.form; have hk := res_keep HS0.out HSW.out HXT.out HKW.out; obtain ⟨z0, z1, z2, z3, q0, q1, q2, q3⟩ := blk4 hk; clear ht hb)
 refine bodyPost_ret_by (results_ct2 rfl _ _ w.heap.size 24 _ (0, 0) _ rfl (blk4_set hk) Tryz.underlying24 rfl (by kernel_rfl)) rfl ?_
 refine ⟨_, 0, rfl, TmR.fin HS0.out HBW.out HSW.out HXT.out (HT4.out.lo_le ?_) (fun y hy => by cases hy; rfl) ((HS3.out.keep HB3.out).keep HB4.out), fun y hy => by cases hy; rfl⟩
 have := HX3.out.size
 have := HB3.out.size
 omega
end Go.Proofs.YtbkjcccbjnehbanGreatDoor

import Derived.Test.YtbkjcccbjnehbanGreatDoorMh40
import Derived.WalkSmall
namespace Go.Proofs.YtbkjcccbjnehbanGreatDoor
open Go.RowKit
set_option maxHeartbeats 8000000 in
set_option maxRecDepth 20000 in
theorem i_prim_F (f g m : Nat) (L : List Sg) (lv nv : Value) (d : Nat) (most : Int) (xt : ByteArray) (xn : Int) (xa : Nat) (xb : Bool) (uk : Int) (ut : ByteArray) (un : Int) (ua : Nat) (ub : Bool) (vk : Int) (vt : ByteArray) (vn : Int) (va : Nat) (vb : Bool) (r : List Sg) (names : List ByteArray) (w : World) (hL : L.length ≤ 3000) (hf : d + f = 130) (hT : TermCI f g m L lv) (h : IRd g m L lv nv w d ⟨⟨3, xt, xn, xa, xb⟩ :: r, names⟩) (hu : aheadP ⟨⟨3, xt, xn, xa, xb⟩ :: r, names⟩ 1 = ⟨uk, ut, un, ua, ub⟩) (hv : aheadP ⟨⟨3, xt, xn, xa, xb⟩ :: r, names⟩ 2 = ⟨vk, vt, vn, va, vb⟩) (hn : 0 ≤ xn ∧ xn ≤ 999999999) :
   Calls Tryz.prog 73 #[.pointer (some ⟨g, 0, none⟩), .int .i64 most] w fun e w' => EndP g m L lv nv w d (some (intTm xn, 0, ⟨r, names⟩)) e w' := by
 obtain ⟨W, hW⟩ : ∃ W, W = w.alloc (.cells #[.int .i64 0, .string ⟨#[]⟩, .int .i64 0, .slice none 0 0] 24) := ⟨_, rfl⟩
 have bW : Below w.heap.size w W := by rw [hW]; exact (Below.refl _ _).alloc (Nat.le_refl _) _
 have sW : W.heap.size = w.heap.size + 1 := by rw [hW]; simp
 have kW : W.heap[w.heap.size]? = some (.cells #[.int .i64 0, .string ⟨#[]⟩, .int .i64 0, .slice none 0 0] 24 (0, 0)) := by rw [hW]; exact heap_alloc_new _ _
 have HH : Hid (IRd g m L lv nv w d ⟨⟨3, xt, xn, xa, xb⟩ :: r, names⟩) := h
 have HA0 : Hid _ := i_ahead g m L lv nv d ⟨⟨3, xt, xn, xa, xb⟩ :: r, names⟩ 0 W (by omega) hL (h.keep bW)
 have HA1 : Hid (∀ w1, Below W.heap.size W w1 → _) := fun w1 hb => i_ahead g m L lv nv d ⟨⟨3, xt, xn, xa, xb⟩ :: r, names⟩ 1 w1 (by omega) hL ((h.keep bW).keep hb)
 have HA2 : Hid (∀ w1, Below W.heap.size W w1 → _) := fun w1 hb => i_ahead g m L lv nv d ⟨⟨3, xt, xn, xa, xb⟩ :: r, names⟩ 2 w1 (by omega) hL ((h.keep bW).keep hb)
 have HX : Hid (sgA (aheadP ⟨⟨3, xt, xn, xa, xb⟩ :: r, names⟩ 0) = .agg #[.int .i64 (3), .string xt, .int .i64 xn, .int .i64 (xa : Int), .bool xb]) := by show _ = _; rfl
 have HU : Hid (sgA (aheadP ⟨⟨3, xt, xn, xa, xb⟩ :: r, names⟩ 1) = .agg #[.int .i64 (uk), .string ut, .int .i64 un, .int .i64 (ua : Int), .bool ub]) := by show _ = _; rw [hu]
 have HV : Hid (sgA (aheadP ⟨⟨3, xt, xn, xa, xb⟩ :: r, names⟩ 2) = .agg #[.int .i64 (vk), .string vt, .int .i64 vn, .int .i64 (va : Int), .bool vb]) := by show _ = _; rw [hv]
 have HL : Hid (L.length ≤ 3000) := hL
 have HTC : Hid (TermCI f g m L lv) := hT
 have HF : Hid (d + f = 130) := hf
 have HKW : Hid (W.heap[w.heap.size]? = some (.cells #[.int .i64 0, .string ⟨#[]⟩, .int .i64 0, .slice none 0 0] 24 (0, 0)) ∧ W.heap.size = w.heap.size + 1) := ⟨kW, sW⟩
 have HBW : Hid (Below w.heap.size w W) := bW
 have HM : Hid (∀ (a : Int) (b : ByteArray) (c : Int) (dd : Nat) (e : Bool) (q : ByteArray) (w1 : World), Calls Tryz.prog 88 #[.agg #[.int .i64 a, .string b, .int .i64 c, .int .i64 (dd : Int), .bool e], .string q] w1 fun e' w' => e' = .returned (.bool (markB ⟨a, b, c, dd, e⟩ q)) ∧ Below w1.heap.size w1 w') := fun a b c dd e q w1 => i_isMark ⟨a, b, c, dd, e⟩ q w1
 clear hT h bW kW sW hf hL hu hv
 have m0 : markB ⟨3, xt, xn, xa, xb⟩ ⟨#[40]⟩ = false := by simp [markB]
 have m1 : markB ⟨3, xt, xn, xa, xb⟩ ⟨#[91]⟩ = false := by simp [markB]
 have HZ : Hid (0 ≤ xn ∧ xn ≤ 999999999) := hn
 clear hn
 go_enter Tryz.func73, Tryz.ntmps73
 go_upto_region 2 with (first
   | (go_at_call 86; rw [← hW]; refine (Calls.mono HA0.out ?_); rintro e w1 ⟨rfl, hb⟩; rw [HX.out]; have HB1 : Hid (Below W.heap.size W w1) := hb; clear hb)
   | (go_at_call 86; refine (Calls.mono (HA1.out _ HB1.out) ?_); rintro e w2 ⟨rfl, hb⟩; rw [HU.out]; have HB2 : Hid (Below W.heap.size W w2) := HB1.out.trans (hb.mono HB1.out.size); clear hb))
 obtain ⟨W2, hW2⟩ : ∃ W2, W2 = (w2.alloc (.cells #[.int .i64 (3), .string xt, .int .i64 xn, .int .i64 (xa : Int), .bool xb] 45)).alloc (.cells #[.int .i64 (uk), .string ut, .int .i64 un, .int .i64 (ua : Int), .bool ub] 45) := ⟨_, rfl⟩
 rw [← hW2]
 have bW2 : Below w2.heap.size w2 W2 := by rw [hW2]; exact ((Below.refl _ _).alloc (Nat.le_refl _) _).alloc (by simp) _
 have kx : W2.heap[w2.heap.size]? = some (.cells #[.int .i64 (3), .string xt, .int .i64 xn, .int .i64 (xa : Int), .bool xb] 45 (0, 0)) := by rw [hW2]; exact (alloc_old _ _ (by simp)).trans (heap_alloc_new _ _)
 have ku : W2.heap[w2.heap.size + 1]? = some (.cells #[.int .i64 (uk), .string ut, .int .i64 un, .int .i64 (ua : Int), .bool ub] 45 (0, 0)) := by rw [hW2]; exact alloc_at _ _ (by simp)
 have sW2 : W2.heap.size = w2.heap.size + 2 := by rw [hW2]; simp
 obtain ⟨BX, hBX⟩ : ∃ BX, BX = w2.heap.size := ⟨_, rfl⟩
 obtain ⟨BU, hBU⟩ : ∃ BU, BU = BX + 1 := ⟨_, rfl⟩
 rw [← hBX] at kx ku ⊢
 rw [← hBU] at ku ⊢
 have bb : Below W.heap.size W W2 := HB2.out.trans (bW2.mono HB2.out.size)
 have bw : Below w.heap.size w W2 := HBW.out.trans (bb.mono HBW.out.size)
 have HC : Hid (∀ w', Below W2.heap.size W2 w' → w'.cell? ⟨BX, 0, none⟩ = some (.int .i64 3) ∧ w'.cell? ⟨BX, 1, none⟩ = some (.string xt) ∧ w'.cell? ⟨BX, 2, none⟩ = some (.int .i64 xn) ∧ w'.cell? ⟨BX, 3, none⟩ = some (.int .i64 (xa : Int)) ∧ w'.cell? ⟨BX, 4, none⟩ = some (.bool xb) ∧ w'.cell? ⟨BU, 0, none⟩ = some (.int .i64 uk) ∧ w'.cell? ⟨BU, 1, none⟩ = some (.string ut) ∧ w'.cell? ⟨BU, 2, none⟩ = some (.int .i64 un) ∧ w'.cell? ⟨BU, 3, none⟩ = some (.int .i64 (ua : Int)) ∧ w'.cell? ⟨BU, 4, none⟩ = some (.bool ub)) := fun w' hb => by
   obtain ⟨a0, a1, a2, a3, a4, _⟩ := b5f ((hb.block BX (by omega)).trans kx)
   obtain ⟨b0, b1, b2, b3, b4, _⟩ := b5f ((hb.block BU (by omega)).trans ku)
   exact ⟨a0, a1, a2, a3, a4, b0, b1, b2, b3, b4⟩
 have HIW : Hid (∀ w', Below W2.heap.size W2 w' → IRd g m L lv nv w' d ⟨⟨3, xt, xn, xa, xb⟩ :: r, names⟩) := fun w' hb => (HH.out.keep bw).keep hb
 have HXW : Hid (∀ w', Below W2.heap.size W2 w' → FX (XI g m nv) (XI g m nv) w w') := fun w' hb => FX.of_below (bw.trans (hb.mono bw.size))
 have HRW : Hid (∀ w', Below W2.heap.size W2 w' → w.heap.size + 1 ≤ w'.heap.size ∧ w'.heap[w.heap.size]? = some (.cells #[.int .i64 0, .string ⟨#[]⟩, .int .i64 0, .slice none 0 0] 24 (0, 0))) := fun w' hb => by
   have h1 := HKW.out.2
   have h2 := bb.size
   have h3 := hb.size
   exact ⟨by omega, (hb.block _ (by omega)).trans ((bb.block _ (by omega)).trans HKW.out.1)⟩
 have HA3 : Hid (∀ w1, Below W2.heap.size W2 w1 → _) := fun w1 hb => HA2.out w1 (bb.trans (hb.mono bb.size))
 have HB0 : Hid (Below W2.heap.size W2 W2) := Below.refl _ _
 have HBX : Hid (w.heap.size < BX ∧ w.heap.size < BU) := ⟨by have := HKW.out.2; have := HB2.out.size; omega, by have := HKW.out.2; have := HB2.out.size; omega⟩
 obtain ⟨wq, hwq⟩ : ∃ wq, wq = W2 := ⟨_, rfl⟩
 have HB : Hid (Below W2.heap.size W2 wq) := by rw [hwq]; exact HB0.out
 rw [← hwq]
 obtain ⟨c0, c1, c2, c3, c4, e0, e1, e2, e3, e4⟩ := HC.out wq HB.out
 clear hwq HB0 hW2 bW2 kx ku hBX hBU bb bw HA0 HA1 HA2 HB1 HB2 hW sW2 HKW
 go_upto_region 15 with (first
   | (go_at_call 86; refine (Calls.mono (HA3.out _ HB.out) ?_); rintro e wq ⟨rfl, hb⟩; rw [HV.out]; replace HB := Hid.trans2 HB hb; obtain ⟨c0, c1, c2, c3, c4, e0, e1, e2, e3, e4⟩ := HC.out wq HB.out; clear hb)
   | (go_at_call 88; refine (Calls.mono (HM.out _ _ _ _ _ _ _) ?_); rintro e wq ⟨rfl, hb⟩; replace HB := Hid.trans2 HB hb; obtain ⟨c0, c1, c2, c3, c4, e0, e1, e2, e3, e4⟩ := HC.out wq HB.out; clear hb))
 obtain ⟨p, k1, hp, f1, hI⟩ := IRd.skip (pre := [⟨3, xt, xn, xa, xb⟩]) (n := 1) rfl (HIW.out _ HB.out)
 have hwr : IntKind.i64.wrap ((p : Int) + 1) = ((p + 1 : Nat) : Int) := by have := HL.out; rw [IntKind.wrap_i64]; omega
 have hc : ((p + 1 : Nat) : Int) = (p : Int) + 1 := by omega
 rw [hc] at hwr hI
 obtain ⟨V, hV⟩ : ∃ V, V = wq.setCell ⟨g, 1, none⟩ (.int .i64 ((p : Int) + 1)) := ⟨_, rfl⟩
 rw [← hV] at hI
 have hgw := HH.out.lt.1
 have hbx := HBX.out
 have oE : ∀ k, k ≠ g → V.heap[k]? = wq.heap[k]? := fun k hk => by rw [hV]; exact blk_other _ hk
 have hkV : V.heap[w.heap.size]? = some (.cells #[.int .i64 0, .string ⟨#[]⟩, .int .i64 0, .slice none 0 0] 24 (0, 0)) := (oE _ (by omega)).trans (HRW.out _ HB.out).2
 have HSV : Hid (w.heap.size + 1 ≤ V.heap.size) := by show _ ≤ _; rw [hV]; simpa [World.setCell] using (HRW.out _ HB.out).1
 have HXV : Hid (FX (XI g m nv) (XI g m nv) w V) := by rw [hV]; exact (HXW.out _ HB.out).set (Or.inl (Or.inl rfl)) _
 have HIV : Hid (IRd g m L lv nv V d ⟨r, names⟩) := hI
 have HKV : Hid _ := hkV
 obtain ⟨a0, a1, a2, a3, a4, b0, b1, b2, b3, b4⟩ := HC.out wq HB.out
 have z1 : V.cell? ⟨BX, 1, none⟩ = some (.string xt) := by rw [World.cell?_of_block (a := ⟨BX, 1, none⟩) (oE BX (by omega))]; exact a1
 have z2 : V.cell? ⟨BX, 2, none⟩ = some (.int .i64 xn) := by rw [World.cell?_of_block (a := ⟨BX, 2, none⟩) (oE BX (by omega))]; exact a2
 have y1 : V.cell? ⟨BU, 1, none⟩ = some (.string ut) := by rw [World.cell?_of_block (a := ⟨BU, 1, none⟩) (oE BU (by omega))]; exact b1
 have y2 : V.cell? ⟨BU, 2, none⟩ = some (.int .i64 un) := by rw [World.cell?_of_block (a := ⟨BU, 2, none⟩) (oE BU (by omega))]; exact b2
 clear c0 c1 c2 c3 c4 e0 e1 e2 e3 e4 a0 a1 a2 a3 a4 b0 b1 b2 b3 b4 hc hgw hbx oE hkV
 go_upto_region 16 with fail
 rw [← hV]
 clear hV k1 f1 hp hwr hI
 obtain ⟨q0, q1, q2, q3, fz0, fz1, fz2, fz3⟩ := blk4 HKV.out
 go_wp2
 refine bodyPost_ret_by (results_ct2 rfl _ _ w.heap.size 24 _ (0, 0) _ rfl (blk4_set HKV.out) Tryz.underlying24 rfl (by kernel_rfl)) rfl ?_
 exact ⟨_, rfl, TmRI.fin HH.out HXV.out (XI_new HH.out) (TOk.leaf (by omega) (by have := HZ.out; omega) (by decide)) HIV.out rfl⟩
set_option maxHeartbeats 8000000 in
set_option maxRecDepth 20000 in
theorem i_prim_G (f g m : Nat) (L : List Sg) (lv nv : Value) (d : Nat) (most : Int) (xt : ByteArray) (xn : Int) (xa : Nat) (xb : Bool) (uk : Int) (ut : ByteArray) (un : Int) (ua : Nat) (ub : Bool) (vk : Int) (vt : ByteArray) (vn : Int) (va : Nat) (vb : Bool) (r : List Sg) (names : List ByteArray) (w : World) (hL : L.length ≤ 3000) (hf : d + f = 130) (hT : TermCI f g m L lv) (h : IRd g m L lv nv w d ⟨⟨2, xt, xn, xa, xb⟩ :: r, names⟩) (hu : aheadP ⟨⟨2, xt, xn, xa, xb⟩ :: r, names⟩ 1 = ⟨uk, ut, un, ua, ub⟩) (hv : aheadP ⟨⟨2, xt, xn, xa, xb⟩ :: r, names⟩ 2 = ⟨vk, vt, vn, va, vb⟩) (ht : xt.size ≤ 3000) :
   Calls Tryz.prog 73 #[.pointer (some ⟨g, 0, none⟩), .int .i64 most] w fun e w' => EndP g m L lv nv w d (some (varTm (varO xt names).1, 0, ⟨r, (varO xt names).2⟩)) e w' := by
 obtain ⟨W, hW⟩ : ∃ W, W = w.alloc (.cells #[.int .i64 0, .string ⟨#[]⟩, .int .i64 0, .slice none 0 0] 24) := ⟨_, rfl⟩
 have bW : Below w.heap.size w W := by rw [hW]; exact (Below.refl _ _).alloc (Nat.le_refl _) _
 have sW : W.heap.size = w.heap.size + 1 := by rw [hW]; simp
 have kW : W.heap[w.heap.size]? = some (.cells #[.int .i64 0, .string ⟨#[]⟩, .int .i64 0, .slice none 0 0] 24 (0, 0)) := by rw [hW]; exact heap_alloc_new _ _
 have HH : Hid (IRd g m L lv nv w d ⟨⟨2, xt, xn, xa, xb⟩ :: r, names⟩) := h
 have HA0 : Hid _ := i_ahead g m L lv nv d ⟨⟨2, xt, xn, xa, xb⟩ :: r, names⟩ 0 W (by omega) hL (h.keep bW)
 have HA1 : Hid (∀ w1, Below W.heap.size W w1 → _) := fun w1 hb => i_ahead g m L lv nv d ⟨⟨2, xt, xn, xa, xb⟩ :: r, names⟩ 1 w1 (by omega) hL ((h.keep bW).keep hb)
 have HA2 : Hid (∀ w1, Below W.heap.size W w1 → _) := fun w1 hb => i_ahead g m L lv nv d ⟨⟨2, xt, xn, xa, xb⟩ :: r, names⟩ 2 w1 (by omega) hL ((h.keep bW).keep hb)
 have HX : Hid (sgA (aheadP ⟨⟨2, xt, xn, xa, xb⟩ :: r, names⟩ 0) = .agg #[.int .i64 (2), .string xt, .int .i64 xn, .int .i64 (xa : Int), .bool xb]) := by show _ = _; rfl
 have HU : Hid (sgA (aheadP ⟨⟨2, xt, xn, xa, xb⟩ :: r, names⟩ 1) = .agg #[.int .i64 (uk), .string ut, .int .i64 un, .int .i64 (ua : Int), .bool ub]) := by show _ = _; rw [hu]
 have HV : Hid (sgA (aheadP ⟨⟨2, xt, xn, xa, xb⟩ :: r, names⟩ 2) = .agg #[.int .i64 (vk), .string vt, .int .i64 vn, .int .i64 (va : Int), .bool vb]) := by show _ = _; rw [hv]
 have HL : Hid (L.length ≤ 3000) := hL
 have HTC : Hid (TermCI f g m L lv) := hT
 have HF : Hid (d + f = 130) := hf
 have HKW : Hid (W.heap[w.heap.size]? = some (.cells #[.int .i64 0, .string ⟨#[]⟩, .int .i64 0, .slice none 0 0] 24 (0, 0)) ∧ W.heap.size = w.heap.size + 1) := ⟨kW, sW⟩
 have HBW : Hid (Below w.heap.size w W) := bW
 have HM : Hid (∀ (a : Int) (b : ByteArray) (c : Int) (dd : Nat) (e : Bool) (q : ByteArray) (w1 : World), Calls Tryz.prog 88 #[.agg #[.int .i64 a, .string b, .int .i64 c, .int .i64 (dd : Int), .bool e], .string q] w1 fun e' w' => e' = .returned (.bool (markB ⟨a, b, c, dd, e⟩ q)) ∧ Below w1.heap.size w1 w') := fun a b c dd e q w1 => i_isMark ⟨a, b, c, dd, e⟩ q w1
 clear hT h bW kW sW hf hL hu hv
 have m0 : markB ⟨2, xt, xn, xa, xb⟩ ⟨#[40]⟩ = false := by simp [markB]
 have m1 : markB ⟨2, xt, xn, xa, xb⟩ ⟨#[91]⟩ = false := by simp [markB]
 have HZ : Hid (xt.size ≤ 3000) := ht
 clear ht
 go_enter Tryz.func73, Tryz.ntmps73
 go_upto_region 2 with (first
   | (go_at_call 86; rw [← hW]; refine (Calls.mono HA0.out ?_); rintro e w1 ⟨rfl, hb⟩; rw [HX.out]; have HB1 : Hid (Below W.heap.size W w1) := hb; clear hb)
   | (go_at_call 86; refine (Calls.mono (HA1.out _ HB1.out) ?_); rintro e w2 ⟨rfl, hb⟩; rw [HU.out]; have HB2 : Hid (Below W.heap.size W w2) := HB1.out.trans (hb.mono HB1.out.size); clear hb))
 obtain ⟨W2, hW2⟩ : ∃ W2, W2 = (w2.alloc (.cells #[.int .i64 (2), .string xt, .int .i64 xn, .int .i64 (xa : Int), .bool xb] 45)).alloc (.cells #[.int .i64 (uk), .string ut, .int .i64 un, .int .i64 (ua : Int), .bool ub] 45) := ⟨_, rfl⟩
 rw [← hW2]
 have bW2 : Below w2.heap.size w2 W2 := by rw [hW2]; exact ((Below.refl _ _).alloc (Nat.le_refl _) _).alloc (by simp) _
 have kx : W2.heap[w2.heap.size]? = some (.cells #[.int .i64 (2), .string xt, .int .i64 xn, .int .i64 (xa : Int), .bool xb] 45 (0, 0)) := by rw [hW2]; exact (alloc_old _ _ (by simp)).trans (heap_alloc_new _ _)
 have ku : W2.heap[w2.heap.size + 1]? = some (.cells #[.int .i64 (uk), .string ut, .int .i64 un, .int .i64 (ua : Int), .bool ub] 45 (0, 0)) := by rw [hW2]; exact alloc_at _ _ (by simp)
 have sW2 : W2.heap.size = w2.heap.size + 2 := by rw [hW2]; simp
 obtain ⟨BX, hBX⟩ : ∃ BX, BX = w2.heap.size := ⟨_, rfl⟩
 obtain ⟨BU, hBU⟩ : ∃ BU, BU = BX + 1 := ⟨_, rfl⟩
 rw [← hBX] at kx ku ⊢
 rw [← hBU] at ku ⊢
 have bb : Below W.heap.size W W2 := HB2.out.trans (bW2.mono HB2.out.size)
 have bw : Below w.heap.size w W2 := HBW.out.trans (bb.mono HBW.out.size)
 have HC : Hid (∀ w', Below W2.heap.size W2 w' → w'.cell? ⟨BX, 0, none⟩ = some (.int .i64 2) ∧ w'.cell? ⟨BX, 1, none⟩ = some (.string xt) ∧ w'.cell? ⟨BX, 2, none⟩ = some (.int .i64 xn) ∧ w'.cell? ⟨BX, 3, none⟩ = some (.int .i64 (xa : Int)) ∧ w'.cell? ⟨BX, 4, none⟩ = some (.bool xb) ∧ w'.cell? ⟨BU, 0, none⟩ = some (.int .i64 uk) ∧ w'.cell? ⟨BU, 1, none⟩ = some (.string ut) ∧ w'.cell? ⟨BU, 2, none⟩ = some (.int .i64 un) ∧ w'.cell? ⟨BU, 3, none⟩ = some (.int .i64 (ua : Int)) ∧ w'.cell? ⟨BU, 4, none⟩ = some (.bool ub)) := fun w' hb => by
   obtain ⟨a0, a1, a2, a3, a4, _⟩ := b5f ((hb.block BX (by omega)).trans kx)
   obtain ⟨b0, b1, b2, b3, b4, _⟩ := b5f ((hb.block BU (by omega)).trans ku)
   exact ⟨a0, a1, a2, a3, a4, b0, b1, b2, b3, b4⟩
 have HIW : Hid (∀ w', Below W2.heap.size W2 w' → IRd g m L lv nv w' d ⟨⟨2, xt, xn, xa, xb⟩ :: r, names⟩) := fun w' hb => (HH.out.keep bw).keep hb
 have HXW : Hid (∀ w', Below W2.heap.size W2 w' → FX (XI g m nv) (XI g m nv) w w') := fun w' hb => FX.of_below (bw.trans (hb.mono bw.size))
 have HRW : Hid (∀ w', Below W2.heap.size W2 w' → w.heap.size + 1 ≤ w'.heap.size ∧ w'.heap[w.heap.size]? = some (.cells #[.int .i64 0, .string ⟨#[]⟩, .int .i64 0, .slice none 0 0] 24 (0, 0))) := fun w' hb => by
   have h1 := HKW.out.2
   have h2 := bb.size
   have h3 := hb.size
   exact ⟨by omega, (hb.block _ (by omega)).trans ((bb.block _ (by omega)).trans HKW.out.1)⟩
 have HA3 : Hid (∀ w1, Below W2.heap.size W2 w1 → _) := fun w1 hb => HA2.out w1 (bb.trans (hb.mono bb.size))
 have HB0 : Hid (Below W2.heap.size W2 W2) := Below.refl _ _
 have HBX : Hid (w.heap.size < BX ∧ w.heap.size < BU) := ⟨by have := HKW.out.2; have := HB2.out.size; omega, by have := HKW.out.2; have := HB2.out.size; omega⟩
 obtain ⟨wq, hwq⟩ : ∃ wq, wq = W2 := ⟨_, rfl⟩
 have HB : Hid (Below W2.heap.size W2 wq) := by rw [hwq]; exact HB0.out
 rw [← hwq]
 obtain ⟨c0, c1, c2, c3, c4, e0, e1, e2, e3, e4⟩ := HC.out wq HB.out
 clear hwq HB0 hW2 bW2 kx ku hBX hBU bb bw HA0 HA1 HA2 HB1 HB2 hW sW2 HKW
 go_upto_region 18 with (first
   | (go_at_call 86; refine (Calls.mono (HA3.out _ HB.out) ?_); rintro e wq ⟨rfl, hb⟩; rw [HV.out]; replace HB := Hid.trans2 HB hb; obtain ⟨c0, c1, c2, c3, c4, e0, e1, e2, e3, e4⟩ := HC.out wq HB.out; clear hb)
   | (go_at_call 88; refine (Calls.mono (HM.out _ _ _ _ _ _ _) ?_); rintro e wq ⟨rfl, hb⟩; replace HB := Hid.trans2 HB hb; obtain ⟨c0, c1, c2, c3, c4, e0, e1, e2, e3, e4⟩ := HC.out wq HB.out; clear hb))
 obtain ⟨p, k1, hp, f1, hI⟩ := IRd.stepV (HIW.out _ HB.out)
 have hwr : IntKind.i64.wrap ((p : Int) + 1) = ((p + 1 : Nat) : Int) := by have := HL.out; rw [IntKind.wrap_i64]; omega
 have hc : ((p + 1 : Nat) : Int) = (p : Int) + 1 := by omega
 rw [hc] at hwr hI
 obtain ⟨V, hV⟩ : ∃ V, V = wq.setCell ⟨g, 1, none⟩ (.int .i64 ((p : Int) + 1)) := ⟨_, rfl⟩
 rw [← hV] at hI
 have hgw := HH.out.lt.1
 have hbx := HBX.out
 have oE : ∀ k, k ≠ g → V.heap[k]? = wq.heap[k]? := fun k hk => by rw [hV]; exact blk_other _ hk
 have hkV : V.heap[w.heap.size]? = some (.cells #[.int .i64 0, .string ⟨#[]⟩, .int .i64 0, .slice none 0 0] 24 (0, 0)) := (oE _ (by omega)).trans (HRW.out _ HB.out).2
 have HSV : Hid (w.heap.size + 1 ≤ V.heap.size) := by show _ ≤ _; rw [hV]; simpa [World.setCell] using (HRW.out _ HB.out).1
 have HXV : Hid (FX (XI g m nv) (XI g m nv) w V) := by rw [hV]; exact (HXW.out _ HB.out).set (Or.inl (Or.inl rfl)) _
 have HIV : Hid (IRv g m L lv nv V d r names) := hI
 have HKV : Hid _ := hkV
 obtain ⟨a0, a1, a2, a3, a4, b0, b1, b2, b3, b4⟩ := HC.out wq HB.out
 have z1 : V.cell? ⟨BX, 1, none⟩ = some (.string xt) := by rw [World.cell?_of_block (a := ⟨BX, 1, none⟩) (oE BX (by omega))]; exact a1
 have z2 : V.cell? ⟨BX, 2, none⟩ = some (.int .i64 xn) := by rw [World.cell?_of_block (a := ⟨BX, 2, none⟩) (oE BX (by omega))]; exact a2
 have y1 : V.cell? ⟨BU, 1, none⟩ = some (.string ut) := by rw [World.cell?_of_block (a := ⟨BU, 1, none⟩) (oE BU (by omega))]; exact b1
 have y2 : V.cell? ⟨BU, 2, none⟩ = some (.int .i64 un) := by rw [World.cell?_of_block (a := ⟨BU, 2, none⟩) (oE BU (by omega))]; exact b2
 clear c0 c1 c2 c3 c4 e0 e1 e2 e3 e4 a0 a1 a2 a3 a4 b0 b1 b2 b3 b4 hc hgw hbx oE hkV
 go_upto_region 19 with fail
 rw [← hV]
 clear hV k1 f1 hp hwr hI
 obtain ⟨q0, q1, q2, q3, fz0, fz1, fz2, fz3⟩ := blk4 HKV.out
 clear q0 q1 q2 q3 fz0 fz1 fz2 fz3
 have HVA : Hid _ := i_variable g m L lv nv d r names xt V HL.out HZ.out HIV.out
 go_wp2_with (go_at_call 92; refine (Calls.mono HVA.out ?_); rintro e w5 ⟨v, rfl, F, nv5, ht, hi, hx⟩; obtain ⟨k1, s1, n1, ao1, ln1, cp1, rfl⟩ := ht.form; have hkk := fin_keep HH.out (by have := HSV.out; omega) hx; have hk5 := hkk.2.trans HKV.out; obtain ⟨q0, q1, q2, q3, fz0, fz1, fz2, fz3⟩ := blk4 hk5; have HK5 : Hid _ := hk5; have HN5 : Hid (¬ XI g m nv5 w.heap.size) := hkk.1; have HX5 : Hid (FX (XI g m nv) (XI g m nv5) w w5) := HXV.out.trans hx; have HT5 : Hid (TOk 24 (XI g m nv5) (w.heap.size + 1) w5 (varTm (varO xt names).1) (.agg #[.int .i64 k1, .string s1, .int .i64 n1, .slice ao1 ln1 cp1]) F) := ht.lo_le HSV.out; have HI5 : Hid (IRd g m L lv nv5 w5 d ⟨r, (varO xt names).2⟩) := hi; clear ht hi hx hkk hk5)
 refine bodyPost_ret_by (results_ct2 rfl _ _ w.heap.size 24 _ (0, 0) _ rfl (blk4_set HK5.out) Tryz.underlying24 rfl (by kernel_rfl)) rfl ?_
 exact ⟨_, rfl, TmRI.fin HH.out HX5.out HN5.out HT5.out HI5.out rfl⟩
set_option maxHeartbeats 8000000 in
set_option maxRecDepth 20000 in
theorem i_prim_H (f g m : Nat) (L : List Sg) (lv nv : Value) (d : Nat) (most : Int) (xn : Int) (xa : Nat) (ut : ByteArray) (un : Int) (ua : Nat) (ub : Bool) (vk : Int) (vt : ByteArray) (vn : Int) (va : Nat) (vb : Bool) (r : List Sg) (names : List ByteArray) (w : World) (hL : L.length ≤ 3000) (hf : d + f = 130) (hT : TermCI f g m L lv) (h : IRd g m L lv nv w d ⟨⟨1, ⟨#[45]⟩, xn, xa, false⟩ :: ⟨3, ut, un, ua, ub⟩ :: r, names⟩) (hv : aheadP ⟨⟨1, ⟨#[45]⟩, xn, xa, false⟩ :: ⟨3, ut, un, ua, ub⟩ :: r, names⟩ 2 = ⟨vk, vt, vn, va, vb⟩) (hn : 0 ≤ un ∧ un ≤ 999999999) (ha : xa ≤ 3000 ∧ ua ≤ 3000) (hj : ua = xa + 1) :
   Calls Tryz.prog 73 #[.pointer (some ⟨g, 0, none⟩), .int .i64 most] w fun e w' => EndP g m L lv nv w d (some (intTm (-un), 0, ⟨r, names⟩)) e w' := by
 obtain ⟨W, hW⟩ : ∃ W, W = w.alloc (.cells #[.int .i64 0, .string ⟨#[]⟩, .int .i64 0, .slice none 0 0] 24) := ⟨_, rfl⟩
 have bW : Below w.heap.size w W := by rw [hW]; exact (Below.refl _ _).alloc (Nat.le_refl _) _
 have sW : W.heap.size = w.heap.size + 1 := by rw [hW]; simp
 have kW : W.heap[w.heap.size]? = some (.cells #[.int .i64 0, .string ⟨#[]⟩, .int .i64 0, .slice none 0 0] 24 (0, 0)) := by rw [hW]; exact heap_alloc_new _ _
 have HH : Hid (IRd g m L lv nv w d ⟨⟨1, ⟨#[45]⟩, xn, xa, false⟩ :: ⟨3, ut, un, ua, ub⟩ :: r, names⟩) := h
 have HA0 : Hid _ := i_ahead g m L lv nv d ⟨⟨1, ⟨#[45]⟩, xn, xa, false⟩ :: ⟨3, ut, un, ua, ub⟩ :: r, names⟩ 0 W (by omega) hL (h.keep bW)
 have HA1 : Hid (∀ w1, Below W.heap.size W w1 → _) := fun w1 hb => i_ahead g m L lv nv d ⟨⟨1, ⟨#[45]⟩, xn, xa, false⟩ :: ⟨3, ut, un, ua, ub⟩ :: r, names⟩ 1 w1 (by omega) hL ((h.keep bW).keep hb)
 have HA2 : Hid (∀ w1, Below W.heap.size W w1 → _) := fun w1 hb => i_ahead g m L lv nv d ⟨⟨1, ⟨#[45]⟩, xn, xa, false⟩ :: ⟨3, ut, un, ua, ub⟩ :: r, names⟩ 2 w1 (by omega) hL ((h.keep bW).keep hb)
 have HX : Hid (sgA (aheadP ⟨⟨1, ⟨#[45]⟩, xn, xa, false⟩ :: ⟨3, ut, un, ua, ub⟩ :: r, names⟩ 0) = .agg #[.int .i64 (1), .string ⟨#[45]⟩, .int .i64 xn, .int .i64 (xa : Int), .bool false]) := by show _ = _; rfl
 have HU : Hid (sgA (aheadP ⟨⟨1, ⟨#[45]⟩, xn, xa, false⟩ :: ⟨3, ut, un, ua, ub⟩ :: r, names⟩ 1) = .agg #[.int .i64 (3), .string ut, .int .i64 un, .int .i64 (ua : Int), .bool ub]) := by show _ = _; rfl
 have HV : Hid (sgA (aheadP ⟨⟨1, ⟨#[45]⟩, xn, xa, false⟩ :: ⟨3, ut, un, ua, ub⟩ :: r, names⟩ 2) = .agg #[.int .i64 (vk), .string vt, .int .i64 vn, .int .i64 (va : Int), .bool vb]) := by show _ = _; rw [hv]
 have HL : Hid (L.length ≤ 3000) := hL
 have HTC : Hid (TermCI f g m L lv) := hT
 have HF : Hid (d + f = 130) := hf
 have HKW : Hid (W.heap[w.heap.size]? = some (.cells #[.int .i64 0, .string ⟨#[]⟩, .int .i64 0, .slice none 0 0] 24 (0, 0)) ∧ W.heap.size = w.heap.size + 1) := ⟨kW, sW⟩
 have HBW : Hid (Below w.heap.size w W) := bW
 have HM : Hid (∀ (a : Int) (b : ByteArray) (c : Int) (dd : Nat) (e : Bool) (q : ByteArray) (w1 : World), Calls Tryz.prog 88 #[.agg #[.int .i64 a, .string b, .int .i64 c, .int .i64 (dd : Int), .bool e], .string q] w1 fun e' w' => e' = .returned (.bool (markB ⟨a, b, c, dd, e⟩ q)) ∧ Below w1.heap.size w1 w') := fun a b c dd e q w1 => i_isMark ⟨a, b, c, dd, e⟩ q w1
 clear hT h bW kW sW hf hL hv
 have m0 : markB ⟨1, ⟨#[45]⟩, xn, xa, false⟩ ⟨#[40]⟩ = false := by simp [markB]
 have m1 : markB ⟨1, ⟨#[45]⟩, xn, xa, false⟩ ⟨#[91]⟩ = false := by simp [markB]
 have HJ : Hid (∀ w1, Calls Tryz.prog 93 #[.agg #[.int .i64 (1), .string ⟨#[45]⟩, .int .i64 xn, .int .i64 (xa : Int), .bool false], .agg #[.int .i64 (3), .string ut, .int .i64 un, .int .i64 (ua : Int), .bool ub]] w1 fun e w' => e = .returned (.bool (decide (ua = xa + 1))) ∧ Below w1.heap.size w1 w') := fun w1 => i_justBehind ⟨1, ⟨#[45]⟩, xn, xa, false⟩ ⟨3, ut, un, ua, ub⟩ w1 ha.1 ha.2
 have HJV : Hid (decide (ua = xa + 1) = true) := decide_eq_true hj
 have HZ : Hid (0 ≤ un ∧ un ≤ 999999999) := hn
 have hng : IntKind.i64.wrap (-un) = -un := by rw [IntKind.wrap_i64]; omega
 clear hn ha hj
 go_enter Tryz.func73, Tryz.ntmps73
 go_upto_region 2 with (first
   | (go_at_call 86; rw [← hW]; refine (Calls.mono HA0.out ?_); rintro e w1 ⟨rfl, hb⟩; rw [HX.out]; have HB1 : Hid (Below W.heap.size W w1) := hb; clear hb)
   | (go_at_call 86; refine (Calls.mono (HA1.out _ HB1.out) ?_); rintro e w2 ⟨rfl, hb⟩; rw [HU.out]; have HB2 : Hid (Below W.heap.size W w2) := HB1.out.trans (hb.mono HB1.out.size); clear hb))
 obtain ⟨W2, hW2⟩ : ∃ W2, W2 = (w2.alloc (.cells #[.int .i64 (1), .string ⟨#[45]⟩, .int .i64 xn, .int .i64 (xa : Int), .bool false] 45)).alloc (.cells #[.int .i64 (3), .string ut, .int .i64 un, .int .i64 (ua : Int), .bool ub] 45) := ⟨_, rfl⟩
 rw [← hW2]
 have bW2 : Below w2.heap.size w2 W2 := by rw [hW2]; exact ((Below.refl _ _).alloc (Nat.le_refl _) _).alloc (by simp) _
 have kx : W2.heap[w2.heap.size]? = some (.cells #[.int .i64 (1), .string ⟨#[45]⟩, .int .i64 xn, .int .i64 (xa : Int), .bool false] 45 (0, 0)) := by rw [hW2]; exact (alloc_old _ _ (by simp)).trans (heap_alloc_new _ _)
 have ku : W2.heap[w2.heap.size + 1]? = some (.cells #[.int .i64 (3), .string ut, .int .i64 un, .int .i64 (ua : Int), .bool ub] 45 (0, 0)) := by rw [hW2]; exact alloc_at _ _ (by simp)
 have sW2 : W2.heap.size = w2.heap.size + 2 := by rw [hW2]; simp
 obtain ⟨BX, hBX⟩ : ∃ BX, BX = w2.heap.size := ⟨_, rfl⟩
 obtain ⟨BU, hBU⟩ : ∃ BU, BU = BX + 1 := ⟨_, rfl⟩
 rw [← hBX] at kx ku ⊢
 rw [← hBU] at ku ⊢
 have bb : Below W.heap.size W W2 := HB2.out.trans (bW2.mono HB2.out.size)
 have bw : Below w.heap.size w W2 := HBW.out.trans (bb.mono HBW.out.size)
 have HC : Hid (∀ w', Below W2.heap.size W2 w' → w'.cell? ⟨BX, 0, none⟩ = some (.int .i64 1) ∧ w'.cell? ⟨BX, 1, none⟩ = some (.string ⟨#[45]⟩) ∧ w'.cell? ⟨BX, 2, none⟩ = some (.int .i64 xn) ∧ w'.cell? ⟨BX, 3, none⟩ = some (.int .i64 (xa : Int)) ∧ w'.cell? ⟨BX, 4, none⟩ = some (.bool false) ∧ w'.cell? ⟨BU, 0, none⟩ = some (.int .i64 3) ∧ w'.cell? ⟨BU, 1, none⟩ = some (.string ut) ∧ w'.cell? ⟨BU, 2, none⟩ = some (.int .i64 un) ∧ w'.cell? ⟨BU, 3, none⟩ = some (.int .i64 (ua : Int)) ∧ w'.cell? ⟨BU, 4, none⟩ = some (.bool ub)) := fun w' hb => by
   obtain ⟨a0, a1, a2, a3, a4, _⟩ := b5f ((hb.block BX (by omega)).trans kx)
   obtain ⟨b0, b1, b2, b3, b4, _⟩ := b5f ((hb.block BU (by omega)).trans ku)
   exact ⟨a0, a1, a2, a3, a4, b0, b1, b2, b3, b4⟩
 have HIW : Hid (∀ w', Below W2.heap.size W2 w' → IRd g m L lv nv w' d ⟨⟨1, ⟨#[45]⟩, xn, xa, false⟩ :: ⟨3, ut, un, ua, ub⟩ :: r, names⟩) := fun w' hb => (HH.out.keep bw).keep hb
 have HXW : Hid (∀ w', Below W2.heap.size W2 w' → FX (XI g m nv) (XI g m nv) w w') := fun w' hb => FX.of_below (bw.trans (hb.mono bw.size))
 have HRW : Hid (∀ w', Below W2.heap.size W2 w' → w.heap.size + 1 ≤ w'.heap.size ∧ w'.heap[w.heap.size]? = some (.cells #[.int .i64 0, .string ⟨#[]⟩, .int .i64 0, .slice none 0 0] 24 (0, 0))) := fun w' hb => by
   have h1 := HKW.out.2
   have h2 := bb.size
   have h3 := hb.size
   exact ⟨by omega, (hb.block _ (by omega)).trans ((bb.block _ (by omega)).trans HKW.out.1)⟩
 have HA3 : Hid (∀ w1, Below W2.heap.size W2 w1 → _) := fun w1 hb => HA2.out w1 (bb.trans (hb.mono bb.size))
 have HB0 : Hid (Below W2.heap.size W2 W2) := Below.refl _ _
 have HBX : Hid (w.heap.size < BX ∧ w.heap.size < BU) := ⟨by have := HKW.out.2; have := HB2.out.size; omega, by have := HKW.out.2; have := HB2.out.size; omega⟩
 obtain ⟨wq, hwq⟩ : ∃ wq, wq = W2 := ⟨_, rfl⟩
 have HB : Hid (Below W2.heap.size W2 wq) := by rw [hwq]; exact HB0.out
 rw [← hwq]
 obtain ⟨c0, c1, c2, c3, c4, e0, e1, e2, e3, e4⟩ := HC.out wq HB.out
 clear hwq HB0 hW2 bW2 kx ku hBX hBU bb bw HA0 HA1 HA2 HB1 HB2 hW sW2 HKW
 go_upto_region 21 with (first
   | (go_at_call 86; refine (Calls.mono (HA3.out _ HB.out) ?_); rintro e wq ⟨rfl, hb⟩; rw [HV.out]; replace HB := Hid.trans2 HB hb; obtain ⟨c0, c1, c2, c3, c4, e0, e1, e2, e3, e4⟩ := HC.out wq HB.out; clear hb)
   | (go_at_call 88; refine (Calls.mono (HM.out _ _ _ _ _ _ _) ?_); rintro e wq ⟨rfl, hb⟩; replace HB := Hid.trans2 HB hb; obtain ⟨c0, c1, c2, c3, c4, e0, e1, e2, e3, e4⟩ := HC.out wq HB.out; clear hb)
   | (go_at_call 93; refine (Calls.mono (HJ.out _) ?_); rintro e wq ⟨rfl, hb⟩; rw [HJV.out]; replace HB := Hid.trans2 HB hb; obtain ⟨c0, c1, c2, c3, c4, e0, e1, e2, e3, e4⟩ := HC.out wq HB.out; clear hb))
 obtain ⟨p, k1, hp, f1, hI⟩ := IRd.skip (pre := [⟨1, ⟨#[45]⟩, xn, xa, false⟩, ⟨3, ut, un, ua, ub⟩]) (n := 2) rfl (HIW.out _ HB.out)
 have hwr : IntKind.i64.wrap ((p : Int) + 2) = ((p + 2 : Nat) : Int) := by have := HL.out; rw [IntKind.wrap_i64]; omega
 have hc : ((p + 2 : Nat) : Int) = (p : Int) + 2 := by omega
 rw [hc] at hwr hI
 obtain ⟨V, hV⟩ : ∃ V, V = wq.setCell ⟨g, 1, none⟩ (.int .i64 ((p : Int) + 2)) := ⟨_, rfl⟩
 rw [← hV] at hI
 have hgw := HH.out.lt.1
 have hbx := HBX.out
 have oE : ∀ k, k ≠ g → V.heap[k]? = wq.heap[k]? := fun k hk => by rw [hV]; exact blk_other _ hk
 have hkV : V.heap[w.heap.size]? = some (.cells #[.int .i64 0, .string ⟨#[]⟩, .int .i64 0, .slice none 0 0] 24 (0, 0)) := (oE _ (by omega)).trans (HRW.out _ HB.out).2
 have HSV : Hid (w.heap.size + 1 ≤ V.heap.size) := by show _ ≤ _; rw [hV]; simpa [World.setCell] using (HRW.out _ HB.out).1
 have HXV : Hid (FX (XI g m nv) (XI g m nv) w V) := by rw [hV]; exact (HXW.out _ HB.out).set (Or.inl (Or.inl rfl)) _
 have HIV : Hid (IRd g m L lv nv V d ⟨r, names⟩) := hI
 have HKV : Hid _ := hkV
 obtain ⟨a0, a1, a2, a3, a4, b0, b1, b2, b3, b4⟩ := HC.out wq HB.out
 have z1 : V.cell? ⟨BX, 1, none⟩ = some (.string ⟨#[45]⟩) := by rw [World.cell?_of_block (a := ⟨BX, 1, none⟩) (oE BX (by omega))]; exact a1
 have z2 : V.cell? ⟨BX, 2, none⟩ = some (.int .i64 xn) := by rw [World.cell?_of_block (a := ⟨BX, 2, none⟩) (oE BX (by omega))]; exact a2
 have y1 : V.cell? ⟨BU, 1, none⟩ = some (.string ut) := by rw [World.cell?_of_block (a := ⟨BU, 1, none⟩) (oE BU (by omega))]; exact b1
 have y2 : V.cell? ⟨BU, 2, none⟩ = some (.int .i64 un) := by rw [World.cell?_of_block (a := ⟨BU, 2, none⟩) (oE BU (by omega))]; exact b2
 clear c0 c1 c2 c3 c4 e0 e1 e2 e3 e4 a0 a1 a2 a3 a4 b0 b1 b2 b3 b4 hc hgw hbx oE hkV
 go_upto_region 22 with fail
 rw [← hV]
 clear hV k1 f1 hp hwr hI
 obtain ⟨q0, q1, q2, q3, fz0, fz1, fz2, fz3⟩ := blk4 HKV.out
 go_wp2
 refine bodyPost_ret_by (results_ct2 rfl _ _ w.heap.size 24 _ (0, 0) _ rfl (blk4_set HKV.out) Tryz.underlying24 rfl (by kernel_rfl)) rfl ?_
 exact ⟨_, rfl, TmRI.fin HH.out HXV.out (XI_new HH.out) (TOk.leaf (by omega) (by have := HZ.out; omega) (by decide)) HIV.out rfl⟩
set_option maxHeartbeats 8000000 in
set_option maxRecDepth 20000 in
theorem i_prim_I1 (f g m : Nat) (L : List Sg) (lv nv : Value) (d : Nat) (most : Int) (xt : ByteArray) (xn : Int) (xa : Nat) (uk : Int) (ut : ByteArray) (un : Int) (ua : Nat) (ub : Bool) (vk : Int) (vt : ByteArray) (vn : Int) (va : Nat) (vb : Bool) (r : List Sg) (names : List ByteArray) (w : World) (hL : L.length ≤ 3000) (hf : d + f = 130) (hT : TermCI f g m L lv) (h : IRd g m L lv nv w d ⟨⟨1, xt, xn, xa, false⟩ :: r, names⟩) (hu : aheadP ⟨⟨1, xt, xn, xa, false⟩ :: r, names⟩ 1 = ⟨uk, ut, un, ua, ub⟩) (hv : aheadP ⟨⟨1, xt, xn, xa, false⟩ :: r, names⟩ 2 = ⟨vk, vt, vn, va, vb⟩) (ht : xt.size ≤ 3000) (hne : ¬ xt = ⟨#[45]⟩) :
   Calls Tryz.prog 73 #[.pointer (some ⟨g, 0, none⟩), .int .i64 most] w fun e w' => EndP g m L lv nv w d (prefO (termO false f) most xt r names) e w' := by
 obtain ⟨W, hW⟩ : ∃ W, W = w.alloc (.cells #[.int .i64 0, .string ⟨#[]⟩, .int .i64 0, .slice none 0 0] 24) := ⟨_, rfl⟩
 have bW : Below w.heap.size w W := by rw [hW]; exact (Below.refl _ _).alloc (Nat.le_refl _) _
 have sW : W.heap.size = w.heap.size + 1 := by rw [hW]; simp
 have kW : W.heap[w.heap.size]? = some (.cells #[.int .i64 0, .string ⟨#[]⟩, .int .i64 0, .slice none 0 0] 24 (0, 0)) := by rw [hW]; exact heap_alloc_new _ _
 have HH : Hid (IRd g m L lv nv w d ⟨⟨1, xt, xn, xa, false⟩ :: r, names⟩) := h
 have HA0 : Hid _ := i_ahead g m L lv nv d ⟨⟨1, xt, xn, xa, false⟩ :: r, names⟩ 0 W (by omega) hL (h.keep bW)
 have HA1 : Hid (∀ w1, Below W.heap.size W w1 → _) := fun w1 hb => i_ahead g m L lv nv d ⟨⟨1, xt, xn, xa, false⟩ :: r, names⟩ 1 w1 (by omega) hL ((h.keep bW).keep hb)
 have HA2 : Hid (∀ w1, Below W.heap.size W w1 → _) := fun w1 hb => i_ahead g m L lv nv d ⟨⟨1, xt, xn, xa, false⟩ :: r, names⟩ 2 w1 (by omega) hL ((h.keep bW).keep hb)
 have HX : Hid (sgA (aheadP ⟨⟨1, xt, xn, xa, false⟩ :: r, names⟩ 0) = .agg #[.int .i64 (1), .string xt, .int .i64 xn, .int .i64 (xa : Int), .bool false]) := by show _ = _; rfl
 have HU : Hid (sgA (aheadP ⟨⟨1, xt, xn, xa, false⟩ :: r, names⟩ 1) = .agg #[.int .i64 (uk), .string ut, .int .i64 un, .int .i64 (ua : Int), .bool ub]) := by show _ = _; rw [hu]
 have HV : Hid (sgA (aheadP ⟨⟨1, xt, xn, xa, false⟩ :: r, names⟩ 2) = .agg #[.int .i64 (vk), .string vt, .int .i64 vn, .int .i64 (va : Int), .bool vb]) := by show _ = _; rw [hv]
 have HL : Hid (L.length ≤ 3000) := hL
 have HTC : Hid (TermCI f g m L lv) := hT
 have HF : Hid (d + f = 130) := hf
 have HKW : Hid (W.heap[w.heap.size]? = some (.cells #[.int .i64 0, .string ⟨#[]⟩, .int .i64 0, .slice none 0 0] 24 (0, 0)) ∧ W.heap.size = w.heap.size + 1) := ⟨kW, sW⟩
 have HBW : Hid (Below w.heap.size w W) := bW
 have HM : Hid (∀ (a : Int) (b : ByteArray) (c : Int) (dd : Nat) (e : Bool) (q : ByteArray) (w1 : World), Calls Tryz.prog 88 #[.agg #[.int .i64 a, .string b, .int .i64 c, .int .i64 (dd : Int), .bool e], .string q] w1 fun e' w' => e' = .returned (.bool (markB ⟨a, b, c, dd, e⟩ q)) ∧ Below w1.heap.size w1 w') := fun a b c dd e q w1 => i_isMark ⟨a, b, c, dd, e⟩ q w1
 clear hT h bW kW sW hf hL hu hv
 obtain ⟨R, hR⟩ : ∃ R, R = (prefO (termO false f) most xt r names) := ⟨_, rfl⟩
 rw [← hR]
 have m0 : markB ⟨1, xt, xn, xa, false⟩ ⟨#[40]⟩ = false := by simp [markB]
 have m1 : markB ⟨1, xt, xn, xa, false⟩ ⟨#[91]⟩ = false := by simp [markB]
 have hq : (xt.toList == [45]) = false := toL_ne (l := [45]) hne
 have HZ : Hid (xt.size ≤ 3000) := ht
 clear ht hne
 go_enter Tryz.func73, Tryz.ntmps73
 go_upto_region 2 with (first
   | (go_at_call 86; rw [← hW]; refine (Calls.mono HA0.out ?_); rintro e w1 ⟨rfl, hb⟩; rw [HX.out]; have HB1 : Hid (Below W.heap.size W w1) := hb; clear hb)
   | (go_at_call 86; refine (Calls.mono (HA1.out _ HB1.out) ?_); rintro e w2 ⟨rfl, hb⟩; rw [HU.out]; have HB2 : Hid (Below W.heap.size W w2) := HB1.out.trans (hb.mono HB1.out.size); clear hb))
 obtain ⟨W2, hW2⟩ : ∃ W2, W2 = (w2.alloc (.cells #[.int .i64 (1), .string xt, .int .i64 xn, .int .i64 (xa : Int), .bool false] 45)).alloc (.cells #[.int .i64 (uk), .string ut, .int .i64 un, .int .i64 (ua : Int), .bool ub] 45) := ⟨_, rfl⟩
 rw [← hW2]
 have bW2 : Below w2.heap.size w2 W2 := by rw [hW2]; exact ((Below.refl _ _).alloc (Nat.le_refl _) _).alloc (by simp) _
 have kx : W2.heap[w2.heap.size]? = some (.cells #[.int .i64 (1), .string xt, .int .i64 xn, .int .i64 (xa : Int), .bool false] 45 (0, 0)) := by rw [hW2]; exact (alloc_old _ _ (by simp)).trans (heap_alloc_new _ _)
 have ku : W2.heap[w2.heap.size + 1]? = some (.cells #[.int .i64 (uk), .string ut, .int .i64 un, .int .i64 (ua : Int), .bool ub] 45 (0, 0)) := by rw [hW2]; exact alloc_at _ _ (by simp)
 have sW2 : W2.heap.size = w2.heap.size + 2 := by rw [hW2]; simp
 obtain ⟨BX, hBX⟩ : ∃ BX, BX = w2.heap.size := ⟨_, rfl⟩
 obtain ⟨BU, hBU⟩ : ∃ BU, BU = BX + 1 := ⟨_, rfl⟩
 rw [← hBX] at kx ku ⊢
 rw [← hBU] at ku ⊢
 have bb : Below W.heap.size W W2 := HB2.out.trans (bW2.mono HB2.out.size)
 have bw : Below w.heap.size w W2 := HBW.out.trans (bb.mono HBW.out.size)
 have HC : Hid (∀ w', Below W2.heap.size W2 w' → w'.cell? ⟨BX, 0, none⟩ = some (.int .i64 1) ∧ w'.cell? ⟨BX, 1, none⟩ = some (.string xt) ∧ w'.cell? ⟨BX, 2, none⟩ = some (.int .i64 xn) ∧ w'.cell? ⟨BX, 3, none⟩ = some (.int .i64 (xa : Int)) ∧ w'.cell? ⟨BX, 4, none⟩ = some (.bool false) ∧ w'.cell? ⟨BU, 0, none⟩ = some (.int .i64 uk) ∧ w'.cell? ⟨BU, 1, none⟩ = some (.string ut) ∧ w'.cell? ⟨BU, 2, none⟩ = some (.int .i64 un) ∧ w'.cell? ⟨BU, 3, none⟩ = some (.int .i64 (ua : Int)) ∧ w'.cell? ⟨BU, 4, none⟩ = some (.bool ub)) := fun w' hb => by
   obtain ⟨a0, a1, a2, a3, a4, _⟩ := b5f ((hb.block BX (by omega)).trans kx)
   obtain ⟨b0, b1, b2, b3, b4, _⟩ := b5f ((hb.block BU (by omega)).trans ku)
   exact ⟨a0, a1, a2, a3, a4, b0, b1, b2, b3, b4⟩
 have HIW : Hid (∀ w', Below W2.heap.size W2 w' → IRd g m L lv nv w' d ⟨⟨1, xt, xn, xa, false⟩ :: r, names⟩) := fun w' hb => (HH.out.keep bw).keep hb
 have HXW : Hid (∀ w', Below W2.heap.size W2 w' → FX (XI g m nv) (XI g m nv) w w') := fun w' hb => FX.of_below (bw.trans (hb.mono bw.size))
 have HRW : Hid (∀ w', Below W2.heap.size W2 w' → w.heap.size + 1 ≤ w'.heap.size ∧ w'.heap[w.heap.size]? = some (.cells #[.int .i64 0, .string ⟨#[]⟩, .int .i64 0, .slice none 0 0] 24 (0, 0))) := fun w' hb => by
   have h1 := HKW.out.2
   have h2 := bb.size
   have h3 := hb.size
   exact ⟨by omega, (hb.block _ (by omega)).trans ((bb.block _ (by omega)).trans HKW.out.1)⟩
 have HA3 : Hid (∀ w1, Below W2.heap.size W2 w1 → _) := fun w1 hb => HA2.out w1 (bb.trans (hb.mono bb.size))
 have HB0 : Hid (Below W2.heap.size W2 W2) := Below.refl _ _
 have HBX : Hid (w.heap.size < BX ∧ w.heap.size < BU) := ⟨by have := HKW.out.2; have := HB2.out.size; omega, by have := HKW.out.2; have := HB2.out.size; omega⟩
 obtain ⟨wq, hwq⟩ : ∃ wq, wq = W2 := ⟨_, rfl⟩
 have HB : Hid (Below W2.heap.size W2 wq) := by rw [hwq]; exact HB0.out
 rw [← hwq]
 obtain ⟨c0, c1, c2, c3, c4, e0, e1, e2, e3, e4⟩ := HC.out wq HB.out
 clear hwq HB0 hW2 bW2 kx ku hBX hBU bb bw HA0 HA1 HA2 HB1 HB2 hW sW2 HKW
 go_upto_region 24 with (first
   | (go_at_call 86; refine (Calls.mono (HA3.out _ HB.out) ?_); rintro e wq ⟨rfl, hb⟩; rw [HV.out]; replace HB := Hid.trans2 HB hb; obtain ⟨c0, c1, c2, c3, c4, e0, e1, e2, e3, e4⟩ := HC.out wq HB.out; clear hb)
   | (go_at_call 88; refine (Calls.mono (HM.out _ _ _ _ _ _ _) ?_); rintro e wq ⟨rfl, hb⟩; replace HB := Hid.trans2 HB hb; obtain ⟨c0, c1, c2, c3, c4, e0, e1, e2, e3, e4⟩ := HC.out wq HB.out; clear hb))
 have HCL := i_prefixOrAtom f g m L lv nv d most ⟨1, xt, xn, xa, false⟩ r names xt wq HL.out HZ.out HF.out HTC.out (HIW.out _ HB.out)
 rw [← hR] at HCL
 have h0 := HRW.out _ HB.out
 have x0 := HXW.out _ HB.out
 have HR0 : Hid _ := h0
 have HX0 : Hid _ := x0
 clear h0 x0 hR
 cases R with
 | none =>
   have HCN : Hid _ := HCL
   clear HCL
   go_wp2_with (go_at_call 94; refine (Calls.mono HCN.out ?_); rintro e w5 ⟨rfl, nv5, hx⟩; have HX5 : Hid (FX (XI g m nv) (XI g m nv5) _ w5) := hx; clear hx)
   exact ⟨rfl, rfl, nv5, HX0.out.trans HX5.out⟩
 | some y =>
   have HCN : Hid _ := HCL
   clear HCL
   obtain ⟨yt, yp, ys⟩ := y
   go_wp2_with (go_at_call 94; refine (Calls.mono HCN.out ?_); rintro e w5 ⟨v, rfl, F, nv5, ht, hi, hx⟩; obtain ⟨k1, s1, n1, ao1, ln1, cp1, rfl⟩ := ht.form; have hkk := fin_keep HH.out (by have := HR0.out.1; omega) hx; have hk5 := hkk.2.trans HR0.out.2; obtain ⟨q0, q1, q2, q3, fz0, fz1, fz2, fz3⟩ := blk4 hk5; have HK5 : Hid _ := hk5; have HN5 : Hid (¬ XI g m nv5 w.heap.size) := hkk.1; have HX5 : Hid (FX (XI g m nv) (XI g m nv5) w w5) := HX0.out.trans hx; have HT5 : Hid (TOk 24 (XI g m nv5) (w.heap.size + 1) w5 yt (.agg #[.int .i64 k1, .string s1, .int .i64 n1, .slice ao1 ln1 cp1]) F) := ht.lo_le HR0.out.1; have HI5 : Hid (IRd g m L lv nv5 w5 d ys) := hi; clear ht hi hx hkk hk5)
   refine bodyPost_ret_by (results_ct2 rfl _ _ w.heap.size 24 _ (0, 0) _ rfl (blk4_set HK5.out) Tryz.underlying24 rfl (by kernel_rfl)) rfl ?_
   exact ⟨_, rfl, TmRI.fin HH.out HX5.out HN5.out HT5.out HI5.out rfl⟩
set_option maxHeartbeats 8000000 in
set_option maxRecDepth 20000 in
theorem i_prim_I2 (f g m : Nat) (L : List Sg) (lv nv : Value) (d : Nat) (most : Int) (xn : Int) (xa : Nat) (uk : Int) (ut : ByteArray) (un : Int) (ua : Nat) (ub : Bool) (vk : Int) (vt : ByteArray) (vn : Int) (va : Nat) (vb : Bool) (r : List Sg) (names : List ByteArray) (w : World) (hL : L.length ≤ 3000) (hf : d + f = 130) (hT : TermCI f g m L lv) (h : IRd g m L lv nv w d ⟨⟨1, ⟨#[45]⟩, xn, xa, false⟩ :: r, names⟩) (hu : aheadP ⟨⟨1, ⟨#[45]⟩, xn, xa, false⟩ :: r, names⟩ 1 = ⟨uk, ut, un, ua, ub⟩) (hv : aheadP ⟨⟨1, ⟨#[45]⟩, xn, xa, false⟩ :: r, names⟩ 2 = ⟨vk, vt, vn, va, vb⟩) (hk : (uk == 3) = false) :
   Calls Tryz.prog 73 #[.pointer (some ⟨g, 0, none⟩), .int .i64 most] w fun e w' => EndP g m L lv nv w d (prefO (termO false f) most ⟨#[45]⟩ r names) e w' := by
 obtain ⟨W, hW⟩ : ∃ W, W = w.alloc (.cells #[.int .i64 0, .string ⟨#[]⟩, .int .i64 0, .slice none 0 0] 24) := ⟨_, rfl⟩
 have bW : Below w.heap.size w W := by rw [hW]; exact (Below.refl _ _).alloc (Nat.le_refl _) _
 have sW : W.heap.size = w.heap.size + 1 := by rw [hW]; simp
 have kW : W.heap[w.heap.size]? = some (.cells #[.int .i64 0, .string ⟨#[]⟩, .int .i64 0, .slice none 0 0] 24 (0, 0)) := by rw [hW]; exact heap_alloc_new _ _
 have HH : Hid (IRd g m L lv nv w d ⟨⟨1, ⟨#[45]⟩, xn, xa, false⟩ :: r, names⟩) := h
 have HA0 : Hid _ := i_ahead g m L lv nv d ⟨⟨1, ⟨#[45]⟩, xn, xa, false⟩ :: r, names⟩ 0 W (by omega) hL (h.keep bW)
 have HA1 : Hid (∀ w1, Below W.heap.size W w1 → _) := fun w1 hb => i_ahead g m L lv nv d ⟨⟨1, ⟨#[45]⟩, xn, xa, false⟩ :: r, names⟩ 1 w1 (by omega) hL ((h.keep bW).keep hb)
 have HA2 : Hid (∀ w1, Below W.heap.size W w1 → _) := fun w1 hb => i_ahead g m L lv nv d ⟨⟨1, ⟨#[45]⟩, xn, xa, false⟩ :: r, names⟩ 2 w1 (by omega) hL ((h.keep bW).keep hb)
 have HX : Hid (sgA (aheadP ⟨⟨1, ⟨#[45]⟩, xn, xa, false⟩ :: r, names⟩ 0) = .agg #[.int .i64 (1), .string ⟨#[45]⟩, .int .i64 xn, .int .i64 (xa : Int), .bool false]) := by show _ = _; rfl
 have HU : Hid (sgA (aheadP ⟨⟨1, ⟨#[45]⟩, xn, xa, false⟩ :: r, names⟩ 1) = .agg #[.int .i64 (uk), .string ut, .int .i64 un, .int .i64 (ua : Int), .bool ub]) := by show _ = _; rw [hu]
 have HV : Hid (sgA (aheadP ⟨⟨1, ⟨#[45]⟩, xn, xa, false⟩ :: r, names⟩ 2) = .agg #[.int .i64 (vk), .string vt, .int .i64 vn, .int .i64 (va : Int), .bool vb]) := by show _ = _; rw [hv]
 have HL : Hid (L.length ≤ 3000) := hL
 have HTC : Hid (TermCI f g m L lv) := hT
 have HF : Hid (d + f = 130) := hf
 have HKW : Hid (W.heap[w.heap.size]? = some (.cells #[.int .i64 0, .string ⟨#[]⟩, .int .i64 0, .slice none 0 0] 24 (0, 0)) ∧ W.heap.size = w.heap.size + 1) := ⟨kW, sW⟩
 have HBW : Hid (Below w.heap.size w W) := bW
 have HM : Hid (∀ (a : Int) (b : ByteArray) (c : Int) (dd : Nat) (e : Bool) (q : ByteArray) (w1 : World), Calls Tryz.prog 88 #[.agg #[.int .i64 a, .string b, .int .i64 c, .int .i64 (dd : Int), .bool e], .string q] w1 fun e' w' => e' = .returned (.bool (markB ⟨a, b, c, dd, e⟩ q)) ∧ Below w1.heap.size w1 w') := fun a b c dd e q w1 => i_isMark ⟨a, b, c, dd, e⟩ q w1
 clear hT h bW kW sW hf hL hu hv
 obtain ⟨R, hR⟩ : ∃ R, R = (prefO (termO false f) most ⟨#[45]⟩ r names) := ⟨_, rfl⟩
 rw [← hR]
 have m0 : markB ⟨1, ⟨#[45]⟩, xn, xa, false⟩ ⟨#[40]⟩ = false := by simp [markB]
 have m1 : markB ⟨1, ⟨#[45]⟩, xn, xa, false⟩ ⟨#[91]⟩ = false := by simp [markB]
 have HZ : Hid ((⟨#[45]⟩ : ByteArray).size ≤ 3000) := by show _ ≤ _; decide
 go_enter Tryz.func73, Tryz.ntmps73
 go_upto_region 2 with (first
   | (go_at_call 86; rw [← hW]; refine (Calls.mono HA0.out ?_); rintro e w1 ⟨rfl, hb⟩; rw [HX.out]; have HB1 : Hid (Below W.heap.size W w1) := hb; clear hb)
   | (go_at_call 86; refine (Calls.mono (HA1.out _ HB1.out) ?_); rintro e w2 ⟨rfl, hb⟩; rw [HU.out]; have HB2 : Hid (Below W.heap.size W w2) := HB1.out.trans (hb.mono HB1.out.size); clear hb))
 obtain ⟨W2, hW2⟩ : ∃ W2, W2 = (w2.alloc (.cells #[.int .i64 (1), .string ⟨#[45]⟩, .int .i64 xn, .int .i64 (xa : Int), .bool false] 45)).alloc (.cells #[.int .i64 (uk), .string ut, .int .i64 un, .int .i64 (ua : Int), .bool ub] 45) := ⟨_, rfl⟩
 rw [← hW2]
 have bW2 : Below w2.heap.size w2 W2 := by rw [hW2]; exact ((Below.refl _ _).alloc (Nat.le_refl _) _).alloc (by simp) _
 have kx : W2.heap[w2.heap.size]? = some (.cells #[.int .i64 (1), .string ⟨#[45]⟩, .int .i64 xn, .int .i64 (xa : Int), .bool false] 45 (0, 0)) := by rw [hW2]; exact (alloc_old _ _ (by simp)).trans (heap_alloc_new _ _)
 have ku : W2.heap[w2.heap.size + 1]? = some (.cells #[.int .i64 (uk), .string ut, .int .i64 un, .int .i64 (ua : Int), .bool ub] 45 (0, 0)) := by rw [hW2]; exact alloc_at _ _ (by simp)
 have sW2 : W2.heap.size = w2.heap.size + 2 := by rw [hW2]; simp
 obtain ⟨BX, hBX⟩ : ∃ BX, BX = w2.heap.size := ⟨_, rfl⟩
 obtain ⟨BU, hBU⟩ : ∃ BU, BU = BX + 1 := ⟨_, rfl⟩
 rw [← hBX] at kx ku ⊢
 rw [← hBU] at ku ⊢
 have bb : Below W.heap.size W W2 := HB2.out.trans (bW2.mono HB2.out.size)
 have bw : Below w.heap.size w W2 := HBW.out.trans (bb.mono HBW.out.size)
 have HC : Hid (∀ w', Below W2.heap.size W2 w' → w'.cell? ⟨BX, 0, none⟩ = some (.int .i64 1) ∧ w'.cell? ⟨BX, 1, none⟩ = some (.string ⟨#[45]⟩) ∧ w'.cell? ⟨BX, 2, none⟩ = some (.int .i64 xn) ∧ w'.cell? ⟨BX, 3, none⟩ = some (.int .i64 (xa : Int)) ∧ w'.cell? ⟨BX, 4, none⟩ = some (.bool false) ∧ w'.cell? ⟨BU, 0, none⟩ = some (.int .i64 uk) ∧ w'.cell? ⟨BU, 1, none⟩ = some (.string ut) ∧ w'.cell? ⟨BU, 2, none⟩ = some (.int .i64 un) ∧ w'.cell? ⟨BU, 3, none⟩ = some (.int .i64 (ua : Int)) ∧ w'.cell? ⟨BU, 4, none⟩ = some (.bool ub)) := fun w' hb => by
   obtain ⟨a0, a1, a2, a3, a4, _⟩ := b5f ((hb.block BX (by omega)).trans kx)
   obtain ⟨b0, b1, b2, b3, b4, _⟩ := b5f ((hb.block BU (by omega)).trans ku)
   exact ⟨a0, a1, a2, a3, a4, b0, b1, b2, b3, b4⟩
 have HIW : Hid (∀ w', Below W2.heap.size W2 w' → IRd g m L lv nv w' d ⟨⟨1, ⟨#[45]⟩, xn, xa, false⟩ :: r, names⟩) := fun w' hb => (HH.out.keep bw).keep hb
 have HXW : Hid (∀ w', Below W2.heap.size W2 w' → FX (XI g m nv) (XI g m nv) w w') := fun w' hb => FX.of_below (bw.trans (hb.mono bw.size))
 have HRW : Hid (∀ w', Below W2.heap.size W2 w' → w.heap.size + 1 ≤ w'.heap.size ∧ w'.heap[w.heap.size]? = some (.cells #[.int .i64 0, .string ⟨#[]⟩, .int .i64 0, .slice none 0 0] 24 (0, 0))) := fun w' hb => by
   have h1 := HKW.out.2
   have h2 := bb.size
   have h3 := hb.size
   exact ⟨by omega, (hb.block _ (by omega)).trans ((bb.block _ (by omega)).trans HKW.out.1)⟩
 have HA3 : Hid (∀ w1, Below W2.heap.size W2 w1 → _) := fun w1 hb => HA2.out w1 (bb.trans (hb.mono bb.size))
 have HB0 : Hid (Below W2.heap.size W2 W2) := Below.refl _ _
 have HBX : Hid (w.heap.size < BX ∧ w.heap.size < BU) := ⟨by have := HKW.out.2; have := HB2.out.size; omega, by have := HKW.out.2; have := HB2.out.size; omega⟩
 obtain ⟨wq, hwq⟩ : ∃ wq, wq = W2 := ⟨_, rfl⟩
 have HB : Hid (Below W2.heap.size W2 wq) := by rw [hwq]; exact HB0.out
 rw [← hwq]
 obtain ⟨c0, c1, c2, c3, c4, e0, e1, e2, e3, e4⟩ := HC.out wq HB.out
 clear hwq HB0 hW2 bW2 kx ku hBX hBU bb bw HA0 HA1 HA2 HB1 HB2 hW sW2 HKW
 go_upto_region 24 with (first
   | (go_at_call 86; refine (Calls.mono (HA3.out _ HB.out) ?_); rintro e wq ⟨rfl, hb⟩; rw [HV.out]; replace HB := Hid.trans2 HB hb; obtain ⟨c0, c1, c2, c3, c4, e0, e1, e2, e3, e4⟩ := HC.out wq HB.out; clear hb)
   | (go_at_call 88; refine (Calls.mono (HM.out _ _ _ _ _ _ _) ?_); rintro e wq ⟨rfl, hb⟩; replace HB := Hid.trans2 HB hb; obtain ⟨c0, c1, c2, c3, c4, e0, e1, e2, e3, e4⟩ := HC.out wq HB.out; clear hb))
 have HCL := i_prefixOrAtom f g m L lv nv d most ⟨1, ⟨#[45]⟩, xn, xa, false⟩ r names ⟨#[45]⟩ wq HL.out HZ.out HF.out HTC.out (HIW.out _ HB.out)
 rw [← hR] at HCL
 have h0 := HRW.out _ HB.out
 have x0 := HXW.out _ HB.out
 have HR0 : Hid _ := h0
 have HX0 : Hid _ := x0
 clear h0 x0 hR
 cases R with
 | none =>
   have HCN : Hid _ := HCL
   clear HCL
   go_wp2_with (go_at_call 94; refine (Calls.mono HCN.out ?_); rintro e w5 ⟨rfl, nv5, hx⟩; have HX5 : Hid (FX (XI g m nv) (XI g m nv5) _ w5) := hx; clear hx)
   exact ⟨rfl, rfl, nv5, HX0.out.trans HX5.out⟩
 | some y =>
   have HCN : Hid _ := HCL
   clear HCL
   obtain ⟨yt, yp, ys⟩ := y
   go_wp2_with (go_at_call 94; refine (Calls.mono HCN.out ?_); rintro e w5 ⟨v, rfl, F, nv5, ht, hi, hx⟩; obtain ⟨k1, s1, n1, ao1, ln1, cp1, rfl⟩ := ht.form; have hkk := fin_keep HH.out (by have := HR0.out.1; omega) hx; have hk5 := hkk.2.trans HR0.out.2; obtain ⟨q0, q1, q2, q3, fz0, fz1, fz2, fz3⟩ := blk4 hk5; have HK5 : Hid _ := hk5; have HN5 : Hid (¬ XI g m nv5 w.heap.size) := hkk.1; have HX5 : Hid (FX (XI g m nv) (XI g m nv5) w w5) := HX0.out.trans hx; have HT5 : Hid (TOk 24 (XI g m nv5) (w.heap.size + 1) w5 yt (.agg #[.int .i64 k1, .string s1, .int .i64 n1, .slice ao1 ln1 cp1]) F) := ht.lo_le HR0.out.1; have HI5 : Hid (IRd g m L lv nv5 w5 d ys) := hi; clear ht hi hx hkk hk5)
   refine bodyPost_ret_by (results_ct2 rfl _ _ w.heap.size 24 _ (0, 0) _ rfl (blk4_set HK5.out) Tryz.underlying24 rfl (by kernel_rfl)) rfl ?_
   exact ⟨_, rfl, TmRI.fin HH.out HX5.out HN5.out HT5.out HI5.out rfl⟩
set_option maxHeartbeats 8000000 in
set_option maxRecDepth 20000 in
theorem i_prim_I3 (f g m : Nat) (L : List Sg) (lv nv : Value) (d : Nat) (most : Int) (xn : Int) (xa : Nat) (ut : ByteArray) (un : Int) (ua : Nat) (ub : Bool) (vk : Int) (vt : ByteArray) (vn : Int) (va : Nat) (vb : Bool) (r : List Sg) (names : List ByteArray) (w : World) (hL : L.length ≤ 3000) (hf : d + f = 130) (hT : TermCI f g m L lv) (h : IRd g m L lv nv w d ⟨⟨1, ⟨#[45]⟩, xn, xa, false⟩ :: r, names⟩) (hu : aheadP ⟨⟨1, ⟨#[45]⟩, xn, xa, false⟩ :: r, names⟩ 1 = ⟨3, ut, un, ua, ub⟩) (hv : aheadP ⟨⟨1, ⟨#[45]⟩, xn, xa, false⟩ :: r, names⟩ 2 = ⟨vk, vt, vn, va, vb⟩) (ha : xa ≤ 3000 ∧ ua ≤ 3000) (hj : ¬ ua = xa + 1) :
   Calls Tryz.prog 73 #[.pointer (some ⟨g, 0, none⟩), .int .i64 most] w fun e w' => EndP g m L lv nv w d (prefO (termO false f) most ⟨#[45]⟩ r names) e w' := by
 obtain ⟨W, hW⟩ : ∃ W, W = w.alloc (.cells #[.int .i64 0, .string ⟨#[]⟩, .int .i64 0, .slice none 0 0] 24) := ⟨_, rfl⟩
 have bW : Below w.heap.size w W := by rw [hW]; exact (Below.refl _ _).alloc (Nat.le_refl _) _
 have sW : W.heap.size = w.heap.size + 1 := by rw [hW]; simp
 have kW : W.heap[w.heap.size]? = some (.cells #[.int .i64 0, .string ⟨#[]⟩, .int .i64 0, .slice none 0 0] 24 (0, 0)) := by rw [hW]; exact heap_alloc_new _ _
 have HH : Hid (IRd g m L lv nv w d ⟨⟨1, ⟨#[45]⟩, xn, xa, false⟩ :: r, names⟩) := h
 have HA0 : Hid _ := i_ahead g m L lv nv d ⟨⟨1, ⟨#[45]⟩, xn, xa, false⟩ :: r, names⟩ 0 W (by omega) hL (h.keep bW)
 have HA1 : Hid (∀ w1, Below W.heap.size W w1 → _) := fun w1 hb => i_ahead g m L lv nv d ⟨⟨1, ⟨#[45]⟩, xn, xa, false⟩ :: r, names⟩ 1 w1 (by omega) hL ((h.keep bW).keep hb)
 have HA2 : Hid (∀ w1, Below W.heap.size W w1 → _) := fun w1 hb => i_ahead g m L lv nv d ⟨⟨1, ⟨#[45]⟩, xn, xa, false⟩ :: r, names⟩ 2 w1 (by omega) hL ((h.keep bW).keep hb)
 have HX : Hid (sgA (aheadP ⟨⟨1, ⟨#[45]⟩, xn, xa, false⟩ :: r, names⟩ 0) = .agg #[.int .i64 (1), .string ⟨#[45]⟩, .int .i64 xn, .int .i64 (xa : Int), .bool false]) := by show _ = _; rfl
 have HU : Hid (sgA (aheadP ⟨⟨1, ⟨#[45]⟩, xn, xa, false⟩ :: r, names⟩ 1) = .agg #[.int .i64 (3), .string ut, .int .i64 un, .int .i64 (ua : Int), .bool ub]) := by show _ = _; rw [hu]
 have HV : Hid (sgA (aheadP ⟨⟨1, ⟨#[45]⟩, xn, xa, false⟩ :: r, names⟩ 2) = .agg #[.int .i64 (vk), .string vt, .int .i64 vn, .int .i64 (va : Int), .bool vb]) := by show _ = _; rw [hv]
 have HL : Hid (L.length ≤ 3000) := hL
 have HTC : Hid (TermCI f g m L lv) := hT
 have HF : Hid (d + f = 130) := hf
 have HKW : Hid (W.heap[w.heap.size]? = some (.cells #[.int .i64 0, .string ⟨#[]⟩, .int .i64 0, .slice none 0 0] 24 (0, 0)) ∧ W.heap.size = w.heap.size + 1) := ⟨kW, sW⟩
 have HBW : Hid (Below w.heap.size w W) := bW
 have HM : Hid (∀ (a : Int) (b : ByteArray) (c : Int) (dd : Nat) (e : Bool) (q : ByteArray) (w1 : World), Calls Tryz.prog 88 #[.agg #[.int .i64 a, .string b, .int .i64 c, .int .i64 (dd : Int), .bool e], .string q] w1 fun e' w' => e' = .returned (.bool (markB ⟨a, b, c, dd, e⟩ q)) ∧ Below w1.heap.size w1 w') := fun a b c dd e q w1 => i_isMark ⟨a, b, c, dd, e⟩ q w1
 clear hT h bW kW sW hf hL hu hv
 obtain ⟨R, hR⟩ : ∃ R, R = (prefO (termO false f) most ⟨#[45]⟩ r names) := ⟨_, rfl⟩
 rw [← hR]
 have m0 : markB ⟨1, ⟨#[45]⟩, xn, xa, false⟩ ⟨#[40]⟩ = false := by simp [markB]
 have m1 : markB ⟨1, ⟨#[45]⟩, xn, xa, false⟩ ⟨#[91]⟩ = false := by simp [markB]
 have HZ : Hid ((⟨#[45]⟩ : ByteArray).size ≤ 3000) := by show _ ≤ _; decide
 have HJ : Hid (∀ w1, Calls Tryz.prog 93 #[.agg #[.int .i64 (1), .string ⟨#[45]⟩, .int .i64 xn, .int .i64 (xa : Int), .bool false], .agg #[.int .i64 (3), .string ut, .int .i64 un, .int .i64 (ua : Int), .bool ub]] w1 fun e w' => e = .returned (.bool (decide (ua = xa + 1))) ∧ Below w1.heap.size w1 w') := fun w1 => i_justBehind ⟨1, ⟨#[45]⟩, xn, xa, false⟩ ⟨3, ut, un, ua, ub⟩ w1 ha.1 ha.2
 have HJV : Hid (decide (ua = xa + 1) = false) := decide_eq_false hj
 clear ha hj
 go_enter Tryz.func73, Tryz.ntmps73
 go_upto_region 2 with (first
   | (go_at_call 86; rw [← hW]; refine (Calls.mono HA0.out ?_); rintro e w1 ⟨rfl, hb⟩; rw [HX.out]; have HB1 : Hid (Below W.heap.size W w1) := hb; clear hb)
   | (go_at_call 86; refine (Calls.mono (HA1.out _ HB1.out) ?_); rintro e w2 ⟨rfl, hb⟩; rw [HU.out]; have HB2 : Hid (Below W.heap.size W w2) := HB1.out.trans (hb.mono HB1.out.size); clear hb))
 obtain ⟨W2, hW2⟩ : ∃ W2, W2 = (w2.alloc (.cells #[.int .i64 (1), .string ⟨#[45]⟩, .int .i64 xn, .int .i64 (xa : Int), .bool false] 45)).alloc (.cells #[.int .i64 (3), .string ut, .int .i64 un, .int .i64 (ua : Int), .bool ub] 45) := ⟨_, rfl⟩
 rw [← hW2]
 have bW2 : Below w2.heap.size w2 W2 := by rw [hW2]; exact ((Below.refl _ _).alloc (Nat.le_refl _) _).alloc (by simp) _
 have kx : W2.heap[w2.heap.size]? = some (.cells #[.int .i64 (1), .string ⟨#[45]⟩, .int .i64 xn, .int .i64 (xa : Int), .bool false] 45 (0, 0)) := by rw [hW2]; exact (alloc_old _ _ (by simp)).trans (heap_alloc_new _ _)
 have ku : W2.heap[w2.heap.size + 1]? = some (.cells #[.int .i64 (3), .string ut, .int .i64 un, .int .i64 (ua : Int), .bool ub] 45 (0, 0)) := by rw [hW2]; exact alloc_at _ _ (by simp)
 have sW2 : W2.heap.size = w2.heap.size + 2 := by rw [hW2]; simp
 obtain ⟨BX, hBX⟩ : ∃ BX, BX = w2.heap.size := ⟨_, rfl⟩
 obtain ⟨BU, hBU⟩ : ∃ BU, BU = BX + 1 := ⟨_, rfl⟩
 rw [← hBX] at kx ku ⊢
 rw [← hBU] at ku ⊢
 have bb : Below W.heap.size W W2 := HB2.out.trans (bW2.mono HB2.out.size)
 have bw : Below w.heap.size w W2 := HBW.out.trans (bb.mono HBW.out.size)
 have HC : Hid (∀ w', Below W2.heap.size W2 w' → w'.cell? ⟨BX, 0, none⟩ = some (.int .i64 1) ∧ w'.cell? ⟨BX, 1, none⟩ = some (.string ⟨#[45]⟩) ∧ w'.cell? ⟨BX, 2, none⟩ = some (.int .i64 xn) ∧ w'.cell? ⟨BX, 3, none⟩ = some (.int .i64 (xa : Int)) ∧ w'.cell? ⟨BX, 4, none⟩ = some (.bool false) ∧ w'.cell? ⟨BU, 0, none⟩ = some (.int .i64 3) ∧ w'.cell? ⟨BU, 1, none⟩ = some (.string ut) ∧ w'.cell? ⟨BU, 2, none⟩ = some (.int .i64 un) ∧ w'.cell? ⟨BU, 3, none⟩ = some (.int .i64 (ua : Int)) ∧ w'.cell? ⟨BU, 4, none⟩ = some (.bool ub)) := fun w' hb => by
   obtain ⟨a0, a1, a2, a3, a4, _⟩ := b5f ((hb.block BX (by omega)).trans kx)
   obtain ⟨b0, b1, b2, b3, b4, _⟩ := b5f ((hb.block BU (by omega)).trans ku)
   exact ⟨a0, a1, a2, a3, a4, b0, b1, b2, b3, b4⟩
 have HIW : Hid (∀ w', Below W2.heap.size W2 w' → IRd g m L lv nv w' d ⟨⟨1, ⟨#[45]⟩, xn, xa, false⟩ :: r, names⟩) := fun w' hb => (HH.out.keep bw).keep hb
 have HXW : Hid (∀ w', Below W2.heap.size W2 w' → FX (XI g m nv) (XI g m nv) w w') := fun w' hb => FX.of_below (bw.trans (hb.mono bw.size))
 have HRW : Hid (∀ w', Below W2.heap.size W2 w' → w.heap.size + 1 ≤ w'.heap.size ∧ w'.heap[w.heap.size]? = some (.cells #[.int .i64 0, .string ⟨#[]⟩, .int .i64 0, .slice none 0 0] 24 (0, 0))) := fun w' hb => by
   have h1 := HKW.out.2
   have h2 := bb.size
   have h3 := hb.size
   exact ⟨by omega, (hb.block _ (by omega)).trans ((bb.block _ (by omega)).trans HKW.out.1)⟩
 have HA3 : Hid (∀ w1, Below W2.heap.size W2 w1 → _) := fun w1 hb => HA2.out w1 (bb.trans (hb.mono bb.size))
 have HB0 : Hid (Below W2.heap.size W2 W2) := Below.refl _ _
 have HBX : Hid (w.heap.size < BX ∧ w.heap.size < BU) := ⟨by have := HKW.out.2; have := HB2.out.size; omega, by have := HKW.out.2; have := HB2.out.size; omega⟩
 obtain ⟨wq, hwq⟩ : ∃ wq, wq = W2 := ⟨_, rfl⟩
 have HB : Hid (Below W2.heap.size W2 wq) := by rw [hwq]; exact HB0.out
 rw [← hwq]
 obtain ⟨c0, c1, c2, c3, c4, e0, e1, e2, e3, e4⟩ := HC.out wq HB.out
 clear hwq HB0 hW2 bW2 kx ku hBX hBU bb bw HA0 HA1 HA2 HB1 HB2 hW sW2 HKW
 go_upto_region 24 with (first
   | (go_at_call 86; refine (Calls.mono (HA3.out _ HB.out) ?_); rintro e wq ⟨rfl, hb⟩; rw [HV.out]; replace HB := Hid.trans2 HB hb; obtain ⟨c0, c1, c2, c3, c4, e0, e1, e2, e3, e4⟩ := HC.out wq HB.out; clear hb)
   | (go_at_call 88; refine (Calls.mono (HM.out _ _ _ _ _ _ _) ?_); rintro e wq ⟨rfl, hb⟩; replace HB := Hid.trans2 HB hb; obtain ⟨c0, c1, c2, c3, c4, e0, e1, e2, e3, e4⟩ := HC.out wq HB.out; clear hb)
   | (go_at_call 93; refine (Calls.mono (HJ.out _) ?_); rintro e wq ⟨rfl, hb⟩; rw [HJV.out]; replace HB := Hid.trans2 HB hb; obtain ⟨c0, c1, c2, c3, c4, e0, e1, e2, e3, e4⟩ := HC.out wq HB.out; clear hb))
 have HCL := i_prefixOrAtom f g m L lv nv d most ⟨1, ⟨#[45]⟩, xn, xa, false⟩ r names ⟨#[45]⟩ wq HL.out HZ.out HF.out HTC.out (HIW.out _ HB.out)
 rw [← hR] at HCL
 have h0 := HRW.out _ HB.out
 have x0 := HXW.out _ HB.out
 have HR0 : Hid _ := h0
 have HX0 : Hid _ := x0
 clear h0 x0 hR
 cases R with
 | none =>
   have HCN : Hid _ := HCL
   clear HCL
   go_wp2_with (go_at_call 94; refine (Calls.mono HCN.out ?_); rintro e w5 ⟨rfl, nv5, hx⟩; have HX5 : Hid (FX (XI g m nv) (XI g m nv5) _ w5) := hx; clear hx)
   exact ⟨rfl, rfl, nv5, HX0.out.trans HX5.out⟩
 | some y =>
   have HCN : Hid _ := HCL
   clear HCL
   obtain ⟨yt, yp, ys⟩ := y
   go_wp2_with (go_at_call 94; refine (Calls.mono HCN.out ?_); rintro e w5 ⟨v, rfl, F, nv5, ht, hi, hx⟩; obtain ⟨k1, s1, n1, ao1, ln1, cp1, rfl⟩ := ht.form; have hkk := fin_keep HH.out (by have := HR0.out.1; omega) hx; have hk5 := hkk.2.trans HR0.out.2; obtain ⟨q0, q1, q2, q3, fz0, fz1, fz2, fz3⟩ := blk4 hk5; have HK5 : Hid _ := hk5; have HN5 : Hid (¬ XI g m nv5 w.heap.size) := hkk.1; have HX5 : Hid (FX (XI g m nv) (XI g m nv5) w w5) := HX0.out.trans hx; have HT5 : Hid (TOk 24 (XI g m nv5) (w.heap.size + 1) w5 yt (.agg #[.int .i64 k1, .string s1, .int .i64 n1, .slice ao1 ln1 cp1]) F) := ht.lo_le HR0.out.1; have HI5 : Hid (IRd g m L lv nv5 w5 d ys) := hi; clear ht hi hx hkk hk5)
   refine bodyPost_ret_by (results_ct2 rfl _ _ w.heap.size 24 _ (0, 0) _ rfl (blk4_set HK5.out) Tryz.underlying24 rfl (by kernel_rfl)) rfl ?_
   exact ⟨_, rfl, TmRI.fin HH.out HX5.out HN5.out HT5.out HI5.out rfl⟩
set_option maxHeartbeats 8000000 in
set_option maxRecDepth 20000 in
theorem i_prim_J (f g m : Nat) (L : List Sg) (lv nv : Value) (d : Nat) (most : Int) (xk : Int) (xt : ByteArray) (xn : Int) (xa : Nat) (xb : Bool) (uk : Int) (ut : ByteArray) (un : Int) (ua : Nat) (ub : Bool) (vk : Int) (vt : ByteArray) (vn : Int) (va : Nat) (vb : Bool) (st : St) (w : World) (hL : L.length ≤ 3000) (hf : d + f = 130) (hT : TermCI f g m L lv) (h : IRd g m L lv nv w d st) (hx : aheadP st 0 = ⟨xk, xt, xn, xa, xb⟩) (hu : aheadP st 1 = ⟨uk, ut, un, ua, ub⟩) (hv : aheadP st 2 = ⟨vk, vt, vn, va, vb⟩) (h1 : (xk == 1) = false) (h2 : (xk == 2) = false) (h3 : (xk == 3) = false) (m0 : markB ⟨xk, xt, xn, xa, xb⟩ ⟨#[40]⟩ = false) (m1 : markB ⟨xk, xt, xn, xa, xb⟩ ⟨#[91]⟩ = false) :
   Calls Tryz.prog 73 #[.pointer (some ⟨g, 0, none⟩), .int .i64 most] w fun e w' => EndP g m L lv nv w d none e w' := by
 obtain ⟨W, hW⟩ : ∃ W, W = w.alloc (.cells #[.int .i64 0, .string ⟨#[]⟩, .int .i64 0, .slice none 0 0] 24) := ⟨_, rfl⟩
 have bW : Below w.heap.size w W := by rw [hW]; exact (Below.refl _ _).alloc (Nat.le_refl _) _
 have sW : W.heap.size = w.heap.size + 1 := by rw [hW]; simp
 have kW : W.heap[w.heap.size]? = some (.cells #[.int .i64 0, .string ⟨#[]⟩, .int .i64 0, .slice none 0 0] 24 (0, 0)) := by rw [hW]; exact heap_alloc_new _ _
 have HH : Hid (IRd g m L lv nv w d st) := h
 have HA0 : Hid _ := i_ahead g m L lv nv d st 0 W (by omega) hL (h.keep bW)
 have HA1 : Hid (∀ w1, Below W.heap.size W w1 → _) := fun w1 hb => i_ahead g m L lv nv d st 1 w1 (by omega) hL ((h.keep bW).keep hb)
 have HA2 : Hid (∀ w1, Below W.heap.size W w1 → _) := fun w1 hb => i_ahead g m L lv nv d st 2 w1 (by omega) hL ((h.keep bW).keep hb)
 have HX : Hid (sgA (aheadP st 0) = .agg #[.int .i64 (xk), .string xt, .int .i64 xn, .int .i64 (xa : Int), .bool xb]) := by show _ = _; rw [hx]
 have HU : Hid (sgA (aheadP st 1) = .agg #[.int .i64 (uk), .string ut, .int .i64 un, .int .i64 (ua : Int), .bool ub]) := by show _ = _; rw [hu]
 have HV : Hid (sgA (aheadP st 2) = .agg #[.int .i64 (vk), .string vt, .int .i64 vn, .int .i64 (va : Int), .bool vb]) := by show _ = _; rw [hv]
 have HL : Hid (L.length ≤ 3000) := hL
 have HTC : Hid (TermCI f g m L lv) := hT
 have HF : Hid (d + f = 130) := hf
 have HKW : Hid (W.heap[w.heap.size]? = some (.cells #[.int .i64 0, .string ⟨#[]⟩, .int .i64 0, .slice none 0 0] 24 (0, 0)) ∧ W.heap.size = w.heap.size + 1) := ⟨kW, sW⟩
 have HBW : Hid (Below w.heap.size w W) := bW
 have HM : Hid (∀ (a : Int) (b : ByteArray) (c : Int) (dd : Nat) (e : Bool) (q : ByteArray) (w1 : World), Calls Tryz.prog 88 #[.agg #[.int .i64 a, .string b, .int .i64 c, .int .i64 (dd : Int), .bool e], .string q] w1 fun e' w' => e' = .returned (.bool (markB ⟨a, b, c, dd, e⟩ q)) ∧ Below w1.heap.size w1 w') := fun a b c dd e q w1 => i_isMark ⟨a, b, c, dd, e⟩ q w1
 clear hT h bW kW sW hf hL hx hu hv
 skip
 go_enter Tryz.func73, Tryz.ntmps73
 go_upto_region 2 with (first
   | (go_at_call 86; rw [← hW]; refine (Calls.mono HA0.out ?_); rintro e w1 ⟨rfl, hb⟩; rw [HX.out]; have HB1 : Hid (Below W.heap.size W w1) := hb; clear hb)
   | (go_at_call 86; refine (Calls.mono (HA1.out _ HB1.out) ?_); rintro e w2 ⟨rfl, hb⟩; rw [HU.out]; have HB2 : Hid (Below W.heap.size W w2) := HB1.out.trans (hb.mono HB1.out.size); clear hb))
 obtain ⟨W2, hW2⟩ : ∃ W2, W2 = (w2.alloc (.cells #[.int .i64 (xk), .string xt, .int .i64 xn, .int .i64 (xa : Int), .bool xb] 45)).alloc (.cells #[.int .i64 (uk), .string ut, .int .i64 un, .int .i64 (ua : Int), .bool ub] 45) := ⟨_, rfl⟩
 rw [← hW2]
 have bW2 : Below w2.heap.size w2 W2 := by rw [hW2]; exact ((Below.refl _ _).alloc (Nat.le_refl _) _).alloc (by simp) _
 have kx : W2.heap[w2.heap.size]? = some (.cells #[.int .i64 (xk), .string xt, .int .i64 xn, .int .i64 (xa : Int), .bool xb] 45 (0, 0)) := by rw [hW2]; exact (alloc_old _ _ (by simp)).trans (heap_alloc_new _ _)
 have ku : W2.heap[w2.heap.size + 1]? = some (.cells #[.int .i64 (uk), .string ut, .int .i64 un, .int .i64 (ua : Int), .bool ub] 45 (0, 0)) := by rw [hW2]; exact alloc_at _ _ (by simp)
 have sW2 : W2.heap.size = w2.heap.size + 2 := by rw [hW2]; simp
 obtain ⟨BX, hBX⟩ : ∃ BX, BX = w2.heap.size := ⟨_, rfl⟩
 obtain ⟨BU, hBU⟩ : ∃ BU, BU = BX + 1 := ⟨_, rfl⟩
 rw [← hBX] at kx ku ⊢
 rw [← hBU] at ku ⊢
 have bb : Below W.heap.size W W2 := HB2.out.trans (bW2.mono HB2.out.size)
 have bw : Below w.heap.size w W2 := HBW.out.trans (bb.mono HBW.out.size)
 have HC : Hid (∀ w', Below W2.heap.size W2 w' → w'.cell? ⟨BX, 0, none⟩ = some (.int .i64 xk) ∧ w'.cell? ⟨BX, 1, none⟩ = some (.string xt) ∧ w'.cell? ⟨BX, 2, none⟩ = some (.int .i64 xn) ∧ w'.cell? ⟨BX, 3, none⟩ = some (.int .i64 (xa : Int)) ∧ w'.cell? ⟨BX, 4, none⟩ = some (.bool xb) ∧ w'.cell? ⟨BU, 0, none⟩ = some (.int .i64 uk) ∧ w'.cell? ⟨BU, 1, none⟩ = some (.string ut) ∧ w'.cell? ⟨BU, 2, none⟩ = some (.int .i64 un) ∧ w'.cell? ⟨BU, 3, none⟩ = some (.int .i64 (ua : Int)) ∧ w'.cell? ⟨BU, 4, none⟩ = some (.bool ub)) := fun w' hb => by
   obtain ⟨a0, a1, a2, a3, a4, _⟩ := b5f ((hb.block BX (by omega)).trans kx)
   obtain ⟨b0, b1, b2, b3, b4, _⟩ := b5f ((hb.block BU (by omega)).trans ku)
   exact ⟨a0, a1, a2, a3, a4, b0, b1, b2, b3, b4⟩
 have HIW : Hid (∀ w', Below W2.heap.size W2 w' → IRd g m L lv nv w' d st) := fun w' hb => (HH.out.keep bw).keep hb
 have HXW : Hid (∀ w', Below W2.heap.size W2 w' → FX (XI g m nv) (XI g m nv) w w') := fun w' hb => FX.of_below (bw.trans (hb.mono bw.size))
 have HRW : Hid (∀ w', Below W2.heap.size W2 w' → w.heap.size + 1 ≤ w'.heap.size ∧ w'.heap[w.heap.size]? = some (.cells #[.int .i64 0, .string ⟨#[]⟩, .int .i64 0, .slice none 0 0] 24 (0, 0))) := fun w' hb => by
   have h1 := HKW.out.2
   have h2 := bb.size
   have h3 := hb.size
   exact ⟨by omega, (hb.block _ (by omega)).trans ((bb.block _ (by omega)).trans HKW.out.1)⟩
 have HA3 : Hid (∀ w1, Below W2.heap.size W2 w1 → _) := fun w1 hb => HA2.out w1 (bb.trans (hb.mono bb.size))
 have HB0 : Hid (Below W2.heap.size W2 W2) := Below.refl _ _
 have HBX : Hid (w.heap.size < BX ∧ w.heap.size < BU) := ⟨by have := HKW.out.2; have := HB2.out.size; omega, by have := HKW.out.2; have := HB2.out.size; omega⟩
 obtain ⟨wq, hwq⟩ : ∃ wq, wq = W2 := ⟨_, rfl⟩
 have HB : Hid (Below W2.heap.size W2 wq) := by rw [hwq]; exact HB0.out
 rw [← hwq]
 obtain ⟨c0, c1, c2, c3, c4, e0, e1, e2, e3, e4⟩ := HC.out wq HB.out
 clear hwq HB0 hW2 bW2 kx ku hBX hBU bb bw HA0 HA1 HA2 HB1 HB2 hW sW2 HKW
 go_wp2_with (first
   | (go_at_call 86; refine (Calls.mono (HA3.out _ HB.out) ?_); rintro e wq ⟨rfl, hb⟩; rw [HV.out]; replace HB := Hid.trans2 HB hb; obtain ⟨c0, c1, c2, c3, c4, e0, e1, e2, e3, e4⟩ := HC.out wq HB.out; clear hb)
   | (go_at_call 88; refine (Calls.mono (HM.out _ _ _ _ _ _ _) ?_); rintro e wq ⟨rfl, hb⟩; replace HB := Hid.trans2 HB hb; obtain ⟨c0, c1, c2, c3, c4, e0, e1, e2, e3, e4⟩ := HC.out wq HB.out; clear hb))
 go_wp2
 exact ⟨rfl, rfl, nv, HXW.out _ HB.out⟩
end Go.Proofs.YtbkjcccbjnehbanGreatDoor

/- Four texts in one. -/
import Derived.Test.YtenmhpalpfppmaoGreatDoorMrg7
import Derived.Test.YtenmhpalpfppmaoGreatDoorMrg2
import Derived.BigCall
import Derived.Test.YtenmhpalpfppmaoGreatDoorRows
import Derived.WalkKit
import Derived.WalkSpells
import Derived.Below
import Derived.ProofKit
/- The specification's l07Row. -/
namespace Go.Proofs.YtenmhpalpfppmaoGreatDoor
open Go.RowKit

def strLen : Value → Nat
  | .string s => s.size
  | _ => 0
def WsOk (t : Tm) : Prop := ∀ (w : World) (v : Value) (d : Nat), TmIn w t v → t.right d = true → t.n ≤ 400 →
  Calls Tryz.prog 11 #[v] w fun e w' => e = .returned (.string ⟨t.wr.toArray⟩) ∧ Below w.heap.size w w'

/-- two terms in a row -/
theorem two_at {w : World} {x y : Tm} {b off : Nat} (h : TmsIn w [x, y] b off) : ∃ c0 c1 c2 c3 d0 d1 d2 d3,
    (w.cell? ⟨b, off, none⟩ = some c0 ∧ w.cell? ⟨b, off + 1, none⟩ = some c1 ∧ w.cell? ⟨b, off + 2, none⟩ = some c2 ∧ w.cell? ⟨b, off + 3, none⟩ = some c3 ∧ TmIn w x (.agg #[c0, c1, c2, c3])) ∧
    (w.cell? ⟨b, off + 4, none⟩ = some d0 ∧ w.cell? ⟨b, off + 4 + 1, none⟩ = some d1 ∧ w.cell? ⟨b, off + 4 + 2, none⟩ = some d2 ∧ w.cell? ⟨b, off + 4 + 3, none⟩ = some d3 ∧ TmIn w y (.agg #[d0, d1, d2, d3])) := by
  obtain ⟨c0, c1, c2, c3, h0⟩ := h.at 0 (by simp)
  obtain ⟨d0, d1, d2, d3, h1⟩ := h.at 1 (by simp)
  simp only [Nat.zero_mul, Nat.add_zero, Nat.one_mul] at h0 h1
  exact ⟨c0, c1, c2, c3, d0, d1, d2, d3, h0, h1⟩

theorem two_of {ks : List Tm} (h : ks.length = 2) : ∃ x y, ks = [x, y] := by
  match ks, h with
  | [a, b], _ => exact ⟨a, b, rfl⟩
theorem pair_tl {n : Int} {x y : Tm} : (Tm.mk 4 cDot n [x, y]).wr = 91 :: (x.wr ++ y.tl) ∧ (Tm.mk 4 cDot n [x, y]).tl = 44 :: (x.wr ++ y.tl) := by
  unfold Tm.wr Tm.tl
  rw [wp_mk]
  simp [wrMk]

/-- what no pair is, as the rest of a list -/
theorem rest_tl {k : Int} {s : ByteArray} {n : Int} {ks : List Tm} {d : Nat} (hr : (Tm.mk k s n ks).right d = true) (hp : isPairB k s ks.length = false) :
    (k = 2 ∧ s = cNone ∧ (Tm.mk k s n ks).tl = [93]) ∨ (¬ (k = 2 ∧ s = cNone) ∧ (Tm.mk k s n ks).tl = 124 :: ((Tm.mk k s n ks).wr ++ [93])) := by
  unfold Tm.tl Tm.wr
  rw [wp_mk]
  unfold wrMk
  rcases right_kinds hr with ⟨h1, _⟩ | ⟨h2, _⟩ | ⟨h4, _, _, h5, _⟩
  · right
    refine ⟨by omega, ?_⟩
    rcases h1 with h1 | h1
    · rw [if_pos h1]
    · rw [if_neg (by omega), if_pos h1]
  · rw [if_neg (by omega), if_neg (by omega), if_pos h2]
    by_cases hs : s = cNone
    · exact Or.inl ⟨h2, hs, by rw [if_pos hs]⟩
    · exact Or.inr ⟨fun h => hs h.2, by show (if s = cNone then [93] else _) = _; rw [if_neg hs]⟩
  · right
    refine ⟨by omega, ?_⟩
    rw [if_neg (by omega), if_neg (by omega), if_neg (by omega)]
    match ks, hp with
    | [], _ => rfl
    | [a], _ => rfl
    | [a, b], hp =>
      have hs : ¬ s = cDot := by
        intro e
        simp [isPairB, h4, e] at hp
      simp only [List.map_cons, List.map_nil, if_neg hs]
      split <;> rfl
    | a :: b :: c :: r, _ => rfl

set_option maxHeartbeats 2000000 in
set_option maxRecDepth 20000 in
theorem s_row (t x y : Tm) (n : Int) (et : t = .mk 4 cDot n [x, y]) (IH : ∀ u : Tm, SizeOf.sizeOf u < SizeOf.sizeOf t → WsOk u) (w : World) (v : Value) (d : Nat) (hin : TmIn w t v) (hr : t.right d = true) (hn : t.n ≤ 400) :
    Calls Tryz.prog 22 #[v] w fun e w' => e = .returned (.string ⟨t.wr.toArray⟩) ∧ Below w.heap.size w w' := by
  have hR := (wp_len t d hr).1
  obtain ⟨R, eR⟩ : ∃ R, R = t.wr := ⟨_, rfl⟩
  rw [← eR] at hR ⊢
  have eR2 : R = 91 :: (x.wr ++ y.tl) := by rw [eR, et]; exact pair_tl.1
  obtain ⟨T0, hT0⟩ : ∃ T0, T0 = SizeOf.sizeOf t := ⟨_, rfl⟩
  rw [← hT0] at IH
  subst et
  obtain ⟨ao, cap, rfl, hs, hlen, hcap, hrow⟩ := tm_open hin
  obtain ⟨b, off, rfl, hks⟩ := hrow (by simp)
  obtain ⟨c0, c1, c2, c3, d0, d1, d2, d3, hx, hy⟩ := two_at hks
  have hxr := right_kid hr (u := x) (by simp)
  have hyr := right_kid hr (u := y) (by simp)
  have hxn := n_kid (ks := [x, y]) (u := x) (by simp)
  have hyn := n_kid (ks := [x, y]) (u := y) (by simp)
  rw [n_mk] at hn hR
  have hxs : SizeOf.sizeOf x < T0 := by rw [hT0]; exact tm_kid_lt (by simp)
  have hys : SizeOf.sizeOf y < T0 := by rw [hT0]; exact tm_kid_lt (by simp)
  obtain ⟨W, hW⟩ : ∃ W, W = w.alloc (.cells #[.int .i64 4, .string cDot, .int .i64 n, .slice (some ⟨b, off, none⟩) 2 cap] 29) := ⟨_, rfl⟩
  have bW : Below w.heap.size w W := by rw [hW]; exact (Below.refl _ _).alloc (Nat.le_refl _) _
  have HKW : Hid (W.heap[w.heap.size]? = some (.cells #[.int .i64 4, .string cDot, .int .i64 n, .slice (some ⟨b, off, none⟩) 2 cap] 29 (0, 0))) := by rw [hW]; exact heap_alloc_new w _
  have HX : Hid _ := IH x hxs W _ (d + 1) (TmIn.keep bW _ _ hx.2.2.2.2) hxr (by omega)
  have hxl : x.wr.length ≤ R.length := by rw [eR2]; simp only [List.length_cons, List.length_append]; omega
  have hadd : ∀ u, (Op.stringOp .add ⟨#[91]⟩ ⟨x.wr.toArray⟩).run Tryz.prog u = .ok (.string ⟨(91 :: x.wr).toArray⟩) u := add_txt [91] x.wr (by simp only [List.length_cons, List.length_nil]; omega)
  have HCX : Hid (∀ wr, Below W.heap.size W wr → wr.heap[w.heap.size]? = some (.cells #[.int .i64 4, .string cDot, .int .i64 n, .slice (some ⟨b, off, none⟩) 2 cap] 29 (0, 0))) := fun wr hb => (hb.block _ (Array.getElem?_eq_some_iff.1 HKW.out).1).trans HKW.out
  obtain ⟨q0, q1, q2, q3, _⟩ := blk4 HKW.out
  have hcx0 := cell_keep hx.1 bW
  have hcx1 := cell_keep hx.2.1 bW
  have hcx2 := cell_keep hx.2.2.1 bW
  have hcx3 := cell_keep hx.2.2.2.1 bW
  have HKS : Hid (TmsIn w [x, y] b off) := hks
  have HR : Hid (R = 91 :: (x.wr ++ y.tl)) := eR2
  have HRL : Hid (R.length ≤ 30000) := by show _ ≤ _; omega
  have HY : Hid (y.right (d + 1) = true ∧ y.n ≤ 400 ∧ SizeOf.sizeOf y < T0) := ⟨hyr, by omega, hys⟩
  have HIH : Hid _ := IH
  have HBW : Hid (Below w.heap.size w W) := bW
  have HCAP : Hid (cap ≤ maxLen) := hcap
  have HCW : Hid (W = w.alloc (.cells #[.int .i64 4, .string cDot, .int .i64 n, .slice (some ⟨b, off, none⟩) 2 cap] 29)) := hW
  clear IH hin hr hn hR eR eR2 hT0 hrow hks hx hy hxr hyr hxn hyn hxs hys bW hs hxl
  unfold maxLen at hcap
  have HW2 : Hid (W.heap.size = w.heap.size + 1) := by show _ = _; rw [HCW.out]; simp
  go_enter Tryz.func22, Tryz.ntmps22
  go_upto_region 1 with (fail)
  rw [← HCW.out]
  clear hW
  go_wp2_with (go_at_call 11; refine (Calls.mono HX.out ?_); rintro e w1 ⟨rfl, b1⟩; have B1 : Hid (Below W.heap.size W w1) := b1; clear b1)
  go_loopw [3] (fun v3 wr => ∃ (x' y' : Tm) (n' : Int) (b' off' cap' d' : Nat) (acc : List UInt8), v3 = .string ⟨acc.toArray⟩ ∧ Hid (acc ++ y'.tl = R) ∧ Hid (Below w.heap.size w wr) ∧
      Hid (wr.heap[w.heap.size]? = some (.cells #[.int .i64 4, .string cDot, .int .i64 n', .slice (some ⟨b', off', none⟩) 2 cap'] 29 (0, 0))) ∧ Hid (TmsIn w [x', y'] b' off') ∧ Hid (cap' ≤ maxLen) ∧ 2 ≤ cap' ∧ Hid (y'.right d' = true ∧ y'.n ≤ 400 ∧ SizeOf.sizeOf y' < T0)) (fun v3 _ => R.length - strLen v3)
  case atStart => exact ⟨x, y, n, b, off, cap, d + 1, 91 :: x.wr, rfl, by show _ = _; rw [HR.out]; rfl, HBW.out.trans (B1.out.mono HBW.out.size), HCX.out _ B1.out, HKS.out, HCAP.out, by simpa using hlen, HY.out⟩
  case round =>
    clear HX hadd q0 q1 q2 q3 hcx0 hcx1 hcx2 hcx3 B1 HY HKS HKW HCX HR HCAP hcap
    obtain ⟨x', y', n', b', off', cap', d', acc, rfl, HA, HB, HK, HT, HCP, h2c, HY⟩ := hrel
    obtain ⟨c0, c1, c2, c3, d0, d1, d2, d3, hx, hy⟩ := two_at HT.out
    obtain ⟨q0, q1, q2, q3, z0, z1, z2, z3⟩ := blk4 HK.out
    have hd0 := cell_keep hy.1 HB.out
    have hd1 := cell_keep hy.2.1 HB.out
    have hd2 := cell_keep hy.2.2.1 HB.out
    have hd3 := cell_keep hy.2.2.2.1 HB.out
    obtain ⟨k2, s2, n2, ks2⟩ := y'
    have hty := hy.2.2.2.2
    obtain ⟨ao2, cap2, ey, hs2, hl2, hc2, hrow2⟩ := tm_open hty
    simp only [Value.agg.injEq, Array.mk.injEq, List.cons.injEq, and_true] at ey
    obtain ⟨rfl, rfl, rfl, rfl⟩ := ey
    have HP : Hid (∀ wr, Calls Tryz.prog 21 #[.agg #[.int .i64 k2, .string s2, .int .i64 n2, .slice ao2 ks2.length cap2], .string ⟨#[46]⟩, .int .i64 2] wr fun e w' => e = .returned (.bool (isPairB k2 s2 ks2.length)) ∧ Below wr.heap.size wr w') := fun wr => s_pair k2 s2 n2 ao2 ks2.length cap2 wr (by omega)
    have hcap := HCP.out
    unfold maxLen at hcap
    have hbb : b' < w.heap.size := cell_blk hy.1
    have hne1 : ¬ w.heap.size = b' := by omega
    have HYC : Hid (w.cell? ⟨b', off' + 4, none⟩ = some (.int .i64 k2) ∧ w.cell? ⟨b', off' + 4 + 1, none⟩ = some (.string s2) ∧ w.cell? ⟨b', off' + 4 + 2, none⟩ = some (.int .i64 n2) ∧ w.cell? ⟨b', off' + 4 + 3, none⟩ = some (.slice ao2 ks2.length cap2)) := ⟨hy.1, hy.2.1, hy.2.2.1, hy.2.2.2.1⟩
    have HTY : Hid (TmIn w (.mk k2 s2 n2 ks2) (.agg #[.int .i64 k2, .string s2, .int .i64 n2, .slice ao2 ks2.length cap2])) := hty
    have HROW : Hid (ks2 ≠ [] → ∃ b off, ao2 = some ⟨b, off, none⟩ ∧ TmsIn w ks2 b off) := hrow2
    clear hrow2 hx hy hty HT hs2
    cases hpr : isPairB k2 s2 ks2.length with
    | true =>
      rw [hpr] at HP
      simp only [isPairB, Bool.and_eq_true, decide_eq_true_eq] at hpr
      obtain ⟨⟨rfl, rfl⟩, hlen2⟩ := hpr
      obtain ⟨x2, y2, rfl⟩ := two_of hlen2
      clear hlen2
      obtain ⟨b2, off2, rfl, hks2⟩ := HROW.out (by simp)
      obtain ⟨e0, e1, e2, e3, f0, f1, f2, f3, hx2, hy2⟩ := two_at hks2
      have hbb2 : b2 < w.heap.size := cell_blk hx2.1
      have hne2 : ¬ w.heap.size = b2 := by omega
      have hxr := right_kid HY.out.1 (u := x2) (by simp)
      have hyr := right_kid HY.out.1 (u := y2) (by simp)
      have hxn := n_kid (ks := [x2, y2]) (u := x2) (by simp)
      have hyn := n_kid (ks := [x2, y2]) (u := y2) (by simp)
      have hn2 := HY.out.2.1
      rw [n_mk] at hn2
      have hxs : SizeOf.sizeOf x2 < T0 := Nat.lt_trans (tm_kid_lt (by simp)) HY.out.2.2
      have hys : SizeOf.sizeOf y2 < T0 := Nat.lt_trans (tm_kid_lt (by simp)) HY.out.2.2
      have HX2 : Hid (∀ V, Below w.heap.size w V → Calls Tryz.prog 11 #[.agg #[e0, e1, e2, e3]] V fun e w' => e = .returned (.string ⟨x2.wr.toArray⟩) ∧ Below V.heap.size V w') := fun V hb => HIH.out x2 hxs V _ (d' + 1) (TmIn.keep hb _ _ hx2.2.2.2.2) hxr (by omega)
      have HX2C : Hid (w.cell? ⟨b2, off2, none⟩ = some e0 ∧ w.cell? ⟨b2, off2 + 1, none⟩ = some e1 ∧ w.cell? ⟨b2, off2 + 2, none⟩ = some e2 ∧ w.cell? ⟨b2, off2 + 3, none⟩ = some e3) := ⟨hx2.1, hx2.2.1, hx2.2.2.1, hx2.2.2.2.1⟩
      have HY2 : Hid (y2.right (d' + 1) = true ∧ y2.n ≤ 400 ∧ SizeOf.sizeOf y2 < T0) := ⟨hyr, by omega, hys⟩
      have HA2 : Hid (acc ++ 44 :: (x2.wr ++ y2.tl) = R) := by have := HA.out; rwa [pair_tl.2] at this
      have HA3 : Hid (acc ++ [44] ++ x2.wr ++ y2.tl = R) := by show _ = _; rw [← HA2.out]; simp
      have hRl : acc.length + 1 + x2.wr.length ≤ R.length := by rw [← HA2.out]; simp only [List.length_append, List.length_cons]; omega
      have hadd1 : ∀ u, (Op.stringOp .add ⟨acc.toArray⟩ ⟨#[44]⟩).run Tryz.prog u = .ok (.string ⟨(acc ++ [44]).toArray⟩) u := add_txt acc [44] (by have := HRL.out; simp only [List.length_cons, List.length_nil]; omega)
      have hadd2 : ∀ u, (Op.stringOp .add ⟨(acc ++ [44]).toArray⟩ ⟨x2.wr.toArray⟩).run Tryz.prog u = .ok (.string ⟨(acc ++ [44] ++ x2.wr).toArray⟩) u := add_txt (acc ++ [44]) x2.wr (by have := HRL.out; simp only [List.length_append, List.length_cons, List.length_nil]; omega)
      have HKS2 : Hid (TmsIn w [x2, y2] b2 off2) := hks2
      have HRL2 : Hid (acc.length < (acc ++ [44] ++ x2.wr).length ∧ (acc ++ [44] ++ x2.wr).length ≤ R.length) := by refine ⟨?_, ?_⟩ <;> (simp only [List.length_append, List.length_cons, List.length_nil]; omega)
      have HC2 : Hid (cap2 ≤ maxLen) := hc2
      have hl2' : 2 ≤ cap2 := by simpa using hl2
      generalize acc ++ [44] ++ x2.wr = acc3 at *
      generalize acc ++ [44] = acc2 at *
      clear hks2 hx2 hy2 hxr hyr hxn hyn hn2 hxs hys hRl HROW HY HA hl2
      unfold maxLen at hc2
      go_upto_region 3 with (go_at_call 21; refine (Calls.mono (HP.out _) ?_); rintro e w1 ⟨rfl, b1⟩; have B1 : Hid (Below wr.heap.size wr w1) := b1; clear b1)
      have BW1 : Hid (Below w.heap.size w w1) := HB.out.trans (B1.out.mono HB.out.size)
      have HK1 : Hid (w1.heap[w.heap.size]? = some (.cells #[.int .i64 4, .string cDot, .int .i64 n', .slice (some ⟨b', off', none⟩) 2 cap'] 29 (0, 0))) := (B1.out.block _ (Array.getElem?_eq_some_iff.1 HK.out).1).trans HK.out
      clear q0 q1 q2 q3 z0 z1 z2 z3 hd0 hd1 hd2 hd3 HP HK
      obtain ⟨q0, q1, q2, q3, z0, z1, z2, z3⟩ := blk4 HK1.out
      have hd0 := cell_keep HYC.out.1 BW1.out
      have hd1 := cell_keep HYC.out.2.1 BW1.out
      have hd2 := cell_keep HYC.out.2.2.1 BW1.out
      have hd3 := cell_keep HYC.out.2.2.2 BW1.out
      go_upto_region 4 with (fail)
      obtain ⟨V, hV⟩ : ∃ V, V = (((w1.setCell ⟨w.heap.size, 0, none⟩ (.int .i64 4)).setCell ⟨w.heap.size, 1, none⟩ (.string cDot)).setCell ⟨w.heap.size, 2, none⟩ (.int .i64 n2)).setCell ⟨w.heap.size, 3, none⟩ (.slice (some ⟨b2, off2, none⟩) 2 cap2) := ⟨_, rfl⟩
      have HKV : Hid (V.heap[w.heap.size]? = some (.cells #[.int .i64 4, .string cDot, .int .i64 n2, .slice (some ⟨b2, off2, none⟩) 2 cap2] 29 (0, 0))) := by rw [hV]; exact blk4_set HK1.out
      have BWV : Hid (Below w.heap.size w V) := by rw [hV]; exact blk4_below BW1.out (Nat.le_refl _)
      first | rw [← hV] | (simp only [List.length_cons, List.length_nil] at *; rw [← hV])
      clear hV q0 q1 q2 q3 z0 z1 z2 z3 hd0 hd1 hd2 hd3 HK1 B1 BW1
      obtain ⟨q0, q1, q2, q3, _⟩ := blk4 HKV.out
      have he0 := cell_keep HX2C.out.1 BWV.out
      have he1 := cell_keep HX2C.out.2.1 BWV.out
      have he2 := cell_keep HX2C.out.2.2.1 BWV.out
      have he3 := cell_keep HX2C.out.2.2.2 BWV.out
      have HXV : Hid _ := HX2.out V BWV.out
      go_wp2_with (go_at_call 11; refine (Calls.mono HXV.out ?_); rintro e w2 ⟨rfl, b2⟩; have B2 : Hid (Below V.heap.size V w2) := b2; clear b2)
      go_roundw
      case rel => exact ⟨x2, y2, n2, b2, off2, cap2, d' + 1, acc3, rfl, HA3.out, BWV.out.trans (B2.out.mono BWV.out.size), (B2.out.block _ (Array.getElem?_eq_some_iff.1 HKV.out).1).trans HKV.out, HKS2.out, HC2.out, hl2', HY2.out⟩
      case measure => have := HRL2.out; simp only [strLen, size_mk]; omega
    | false =>
      rw [hpr] at HP
      have hrest := rest_tl HY.out.1 hpr
      have hyn := HY.out.2.1
      have hwr := (wp_len _ d' HY.out.1).1
      have HW3 : Hid (∀ V, Below w.heap.size w V → Calls Tryz.prog 11 #[.agg #[.int .i64 k2, .string s2, .int .i64 n2, .slice ao2 ks2.length cap2]] V fun e w' => e = .returned (.string ⟨(Tm.mk k2 s2 n2 ks2).wr.toArray⟩) ∧ Below V.heap.size V w') := fun V hb => HIH.out _ HY.out.2.2 V _ d' (TmIn.keep hb _ _ HTY.out) HY.out.1 hyn
      have HA' := HA.out
      clear hpr HROW HY HA HTY hl2 hc2
      go_upto_region 5 with (go_at_call 21; refine (Calls.mono (HP.out _) ?_); rintro e w1 ⟨rfl, b1⟩; have B1 : Hid (Below wr.heap.size wr w1) := b1; clear b1)
      have BW1 : Hid (Below w.heap.size w w1) := HB.out.trans (B1.out.mono HB.out.size)
      have HK1 : Hid (w1.heap[w.heap.size]? = some (.cells #[.int .i64 4, .string cDot, .int .i64 n', .slice (some ⟨b', off', none⟩) 2 cap'] 29 (0, 0))) := (B1.out.block _ (Array.getElem?_eq_some_iff.1 HK.out).1).trans HK.out
      clear q0 q1 q2 q3 z0 z1 z2 z3 hd0 hd1 hd2 hd3 HP HK
      obtain ⟨q0, q1, q2, q3, z0, z1, z2, z3⟩ := blk4 HK1.out
      have hd0 := cell_keep HYC.out.1 BW1.out
      have hd1 := cell_keep HYC.out.2.1 BW1.out
      have hd2 := cell_keep HYC.out.2.2.1 BW1.out
      have hd3 := cell_keep HYC.out.2.2.2 BW1.out
      rcases hrest with ⟨rfl, rfl, htl⟩ | ⟨hno, htl⟩
      · rw [htl] at HA'
        have hadd1 : ∀ u, (Op.stringOp .add ⟨acc.toArray⟩ ⟨#[93]⟩).run Tryz.prog u = .ok (.string ⟨(acc ++ [93]).toArray⟩) u := add_txt acc [93] (by have := HRL.out; rw [← HA', List.length_append] at this; simp only [List.length_cons, List.length_nil] at *; omega)
        rw [HA'] at hadd1
        clear htl HA' hwr hyn HW3
        rw [show cNone = ⟨#[91, 93]⟩ from rfl] at hd1
        go_wp2
        go_ret
        exact ⟨rfl, BW1.out.alloc BW1.out.size _⟩
      · rw [htl] at HA'
        have hadd1 : ∀ u, (Op.stringOp .add ⟨acc.toArray⟩ ⟨#[124]⟩).run Tryz.prog u = .ok (.string ⟨(acc ++ [124]).toArray⟩) u := add_txt acc [124] (by have := HRL.out; rw [← HA', List.length_append] at this; simp only [List.length_cons, List.length_append, List.length_nil] at *; omega)
        have HRL4 : Hid (acc.length + (Tm.mk k2 s2 n2 ks2).wr.length + 2 = R.length) := by show _ = _; rw [← HA']; simp only [List.length_cons, List.length_append, List.length_nil]; omega
        have HA4 : Hid (acc ++ [124] ++ (Tm.mk k2 s2 n2 ks2).wr ++ [93] = R) := by show _ = _; rw [← HA']; simp
        clear htl HA' hwr hyn
        obtain ⟨Y, hY⟩ : ∃ Y, Y = (Tm.mk k2 s2 n2 ks2).wr := ⟨_, rfl⟩
        rw [← hY] at HW3 HRL4 HA4
        clear hY
        have hadd2 : ∀ u, (Op.stringOp .add ⟨(acc ++ [124]).toArray⟩ ⟨Y.toArray⟩).run Tryz.prog u = .ok (.string ⟨(acc ++ [124] ++ Y).toArray⟩) u := add_txt (acc ++ [124]) Y (by have := HRL.out; have := HRL4.out; simp only [List.length_append, List.length_cons, List.length_nil]; omega)
        have hadd3 : ∀ u, (Op.stringOp .add ⟨(acc ++ [124] ++ Y).toArray⟩ ⟨#[93]⟩).run Tryz.prog u = .ok (.string ⟨R.toArray⟩) u := by
          have := add_txt (acc ++ [124] ++ Y) [93] (by have := HRL.out; have := HRL4.out; simp only [List.length_append, List.length_cons, List.length_nil]; omega)
          rwa [HA4.out] at this
        generalize acc ++ [124] ++ Y = acc3 at *
        generalize acc ++ [124] = acc2 at *
        obtain ⟨V, hV⟩ : ∃ V, V = w1.alloc (.cells #[.int .i64 k2, .string s2, .int .i64 n2, .slice ao2 ks2.length cap2] 29) := ⟨_, rfl⟩
        have BWV : Hid (Below w.heap.size w V) := by rw [hV]; exact BW1.out.alloc BW1.out.size _
        have HV : Hid (V = w1.alloc (.cells #[.int .i64 k2, .string s2, .int .i64 n2, .slice ao2 ks2.length cap2] 29)) := hV
        have HXV : Hid _ := HW3.out V BWV.out
        rw [hV] at HXV
        clear hV HW3
        by_cases hk2 : k2 = 2
        · subst hk2
          have hs2 : ¬ s2 = ⟨#[91, 93]⟩ := fun e => hno ⟨rfl, e⟩
          have hs2' := toL_ne (l := [91, 93]) hs2
          clear hs2 hno
          go_wp2_with (go_at_call 11; refine (Calls.mono HXV.out ?_); rintro e w2 ⟨rfl, b2⟩; rw [← HV.out] at b2; have B2 : Hid (Below V.heap.size V w2) := b2; clear b2)
          go_ret
          exact ⟨rfl, BWV.out.trans (B2.out.mono BWV.out.size)⟩
        · have hk2' : (k2 == 2) = false := beq_eq_false_iff_ne.2 hk2
          clear hk2 hno
          go_wp2_with (go_at_call 11; refine (Calls.mono HXV.out ?_); rintro e w2 ⟨rfl, b2⟩; rw [← HV.out] at b2; have B2 : Hid (Below V.heap.size V w2) := b2; clear b2)
          go_ret
          exact ⟨rfl, BWV.out.trans (B2.out.mono BWV.out.size)⟩
end Go.Proofs.YtenmhpalpfppmaoGreatDoor

/- spec: which bytes are of which kind. -/
namespace Go.Proofs.YtenmhpalpfppmaoGreatDoor
open Go.RowKit

theorem c_small (c : UInt8) (w : World) : Calls Tryz.prog 58 #[.int .u8 (c.toNat : Int)] w fun e w' => e = .returned (.bool (isSmall c)) ∧ w' = w := by
  have hb := c.toNat_lt
  by_cases h : 97 ≤ c.toNat
  · by_cases h2 : c.toNat ≤ 122
    · have HR : Hid (isSmall c = true) := by show _ = _; unfold isSmall; exact decide_eq_true ⟨h, h2⟩
      go_enter Tryz.func58, Tryz.ntmps58
      go_wp2
      go_ret
      exact ⟨by rw [HR.out]; first | rfl | exact ret_b (decide_eq_true (by omega)) | exact ret_b (decide_eq_false (by omega)) | exact ret_b (beq_iff_eq.2 (by omega)) | exact ret_b (beq_eq_false_iff_ne.2 (by omega)), rfl⟩
    · have HR : Hid (isSmall c = false) := by show _ = _; unfold isSmall; exact decide_eq_false (fun x => h2 x.2)
      go_enter Tryz.func58, Tryz.ntmps58
      go_wp2
      go_ret
      exact ⟨by rw [HR.out]; first | rfl | exact ret_b (decide_eq_true (by omega)) | exact ret_b (decide_eq_false (by omega)) | exact ret_b (beq_iff_eq.2 (by omega)) | exact ret_b (beq_eq_false_iff_ne.2 (by omega)), rfl⟩
  · have HR : Hid (isSmall c = false) := by show _ = _; unfold isSmall; exact decide_eq_false (fun x => h x.1)
    go_enter Tryz.func58, Tryz.ntmps58
    go_wp2
    go_ret
    exact ⟨by rw [HR.out]; first | rfl | exact ret_b (decide_eq_true (by omega)) | exact ret_b (decide_eq_false (by omega)) | exact ret_b (beq_iff_eq.2 (by omega)) | exact ret_b (beq_eq_false_iff_ne.2 (by omega)), rfl⟩

theorem c_fig (c : UInt8) (w : World) : Calls Tryz.prog 61 #[.int .u8 (c.toNat : Int)] w fun e w' => e = .returned (.bool (isFig c)) ∧ w' = w := by
  have hb := c.toNat_lt
  by_cases h : 48 ≤ c.toNat
  · by_cases h2 : c.toNat ≤ 57
    · have HR : Hid (isFig c = true) := by show _ = _; unfold isFig; exact decide_eq_true ⟨h, h2⟩
      go_enter Tryz.func61, Tryz.ntmps61
      go_wp2
      go_ret
      exact ⟨by rw [HR.out]; first | rfl | exact ret_b (decide_eq_true (by omega)) | exact ret_b (decide_eq_false (by omega)) | exact ret_b (beq_iff_eq.2 (by omega)) | exact ret_b (beq_eq_false_iff_ne.2 (by omega)), rfl⟩
    · have HR : Hid (isFig c = false) := by show _ = _; unfold isFig; exact decide_eq_false (fun x => h2 x.2)
      go_enter Tryz.func61, Tryz.ntmps61
      go_wp2
      go_ret
      exact ⟨by rw [HR.out]; first | rfl | exact ret_b (decide_eq_true (by omega)) | exact ret_b (decide_eq_false (by omega)) | exact ret_b (beq_iff_eq.2 (by omega)) | exact ret_b (beq_eq_false_iff_ne.2 (by omega)), rfl⟩
  · have HR : Hid (isFig c = false) := by show _ = _; unfold isFig; exact decide_eq_false (fun x => h x.1)
    go_enter Tryz.func61, Tryz.ntmps61
    go_wp2
    go_ret
    exact ⟨by rw [HR.out]; first | rfl | exact ret_b (decide_eq_true (by omega)) | exact ret_b (decide_eq_false (by omega)) | exact ret_b (beq_iff_eq.2 (by omega)) | exact ret_b (beq_eq_false_iff_ne.2 (by omega)), rfl⟩

theorem c_great (c : UInt8) (w : World) : Calls Tryz.prog 59 #[.int .u8 (c.toNat : Int)] w fun e w' => e = .returned (.bool (isGreat c)) ∧ w' = w := by
  have hb := c.toNat_lt
  have hcs : (65 ≤ c.toNat ∧ c.toNat ≤ 90) ∨ c.toNat = 95 ∨ (c.toNat < 65 ∧ c.toNat ≠ 95) ∨ (65 ≤ c.toNat ∧ 90 < c.toNat ∧ c.toNat ≠ 95) := by omega
  rcases hcs with ⟨h, h2⟩ | h | ⟨h, h2⟩ | ⟨h, h2, h3⟩
  · have HR : Hid (isGreat c = true) := by show _ = _; unfold isGreat; exact decide_eq_true (Or.inl ⟨h, h2⟩)
    go_enter Tryz.func59, Tryz.ntmps59
    go_wp2
    go_ret
    exact ⟨by rw [HR.out]; first | rfl | exact ret_b (decide_eq_true (by omega)) | exact ret_b (decide_eq_false (by omega)) | exact ret_b (beq_iff_eq.2 (by omega)) | exact ret_b (beq_eq_false_iff_ne.2 (by omega)), rfl⟩
  · have HR : Hid (isGreat c = true) := by show _ = _; unfold isGreat; exact decide_eq_true (Or.inr h)
    go_enter Tryz.func59, Tryz.ntmps59
    go_wp2
    go_ret
    exact ⟨by rw [HR.out]; first | rfl | exact ret_b (decide_eq_true (by omega)) | exact ret_b (decide_eq_false (by omega)) | exact ret_b (beq_iff_eq.2 (by omega)) | exact ret_b (beq_eq_false_iff_ne.2 (by omega)), rfl⟩
  · have HR : Hid (isGreat c = false) := by show _ = _; unfold isGreat; exact decide_eq_false (by omega)
    have e1 : ((c.toNat : Int) == 95) = false := beq_eq_false_iff_ne.2 (by omega)
    go_enter Tryz.func59, Tryz.ntmps59
    go_wp2
    go_ret
    exact ⟨by rw [HR.out]; first | rfl | exact ret_b (decide_eq_true (by omega)) | exact ret_b (decide_eq_false (by omega)) | exact ret_b (beq_iff_eq.2 (by omega)) | exact ret_b (beq_eq_false_iff_ne.2 (by omega)), rfl⟩
  · have HR : Hid (isGreat c = false) := by show _ = _; unfold isGreat; exact decide_eq_false (by omega)
    have e1 : ((c.toNat : Int) == 95) = false := beq_eq_false_iff_ne.2 (by omega)
    go_enter Tryz.func59, Tryz.ntmps59
    go_wp2
    go_ret
    exact ⟨by rw [HR.out]; first | rfl | exact ret_b (decide_eq_true (by omega)) | exact ret_b (decide_eq_false (by omega)) | exact ret_b (beq_iff_eq.2 (by omega)) | exact ret_b (beq_eq_false_iff_ne.2 (by omega)), rfl⟩

theorem c_blank (c : UInt8) (w : World) : Calls Tryz.prog 49 #[.int .u8 (c.toNat : Int)] w fun e w' => e = .returned (.bool (isBlank c)) ∧ w' = w := by
  have hb := c.toNat_lt
  have hcs : c.toNat = 32 ∨ c.toNat = 9 ∨ c.toNat = 10 ∨ (c.toNat ≠ 32 ∧ c.toNat ≠ 9 ∧ c.toNat ≠ 10) := by omega
  rcases hcs with h | h | h | ⟨h, h2, h3⟩
  · have HR : Hid (isBlank c = true) := by show _ = _; unfold isBlank; exact decide_eq_true (by omega)
    go_enter Tryz.func49, Tryz.ntmps49
    go_wp2
    go_ret
    exact ⟨by rw [HR.out]; first | rfl | exact ret_b (decide_eq_true (by omega)) | exact ret_b (decide_eq_false (by omega)) | exact ret_b (beq_iff_eq.2 (by omega)) | exact ret_b (beq_eq_false_iff_ne.2 (by omega)), rfl⟩
  · have HR : Hid (isBlank c = true) := by show _ = _; unfold isBlank; exact decide_eq_true (by omega)
    go_enter Tryz.func49, Tryz.ntmps49
    go_wp2
    go_ret
    exact ⟨by rw [HR.out]; first | rfl | exact ret_b (decide_eq_true (by omega)) | exact ret_b (decide_eq_false (by omega)) | exact ret_b (beq_iff_eq.2 (by omega)) | exact ret_b (beq_eq_false_iff_ne.2 (by omega)), rfl⟩
  · have HR : Hid (isBlank c = true) := by show _ = _; unfold isBlank; exact decide_eq_true (by omega)
    go_enter Tryz.func49, Tryz.ntmps49
    go_wp2
    go_ret
    exact ⟨by rw [HR.out]; first | rfl | exact ret_b (decide_eq_true (by omega)) | exact ret_b (decide_eq_false (by omega)) | exact ret_b (beq_iff_eq.2 (by omega)) | exact ret_b (beq_eq_false_iff_ne.2 (by omega)), rfl⟩
  · have HR : Hid (isBlank c = false) := by show _ = _; unfold isBlank; exact decide_eq_false (by omega)
    have e1 : ((c.toNat : Int) == 32) = false := beq_eq_false_iff_ne.2 (by omega)
    have e2 : ((c.toNat : Int) == 9) = false := beq_eq_false_iff_ne.2 (by omega)
    have e3 : ((c.toNat : Int) == 10) = false := beq_eq_false_iff_ne.2 (by omega)
    go_enter Tryz.func49, Tryz.ntmps49
    go_wp2
    go_ret
    exact ⟨by rw [HR.out]; first | rfl | exact ret_b (decide_eq_true (by omega)) | exact ret_b (decide_eq_false (by omega)) | exact ret_b (beq_iff_eq.2 (by omega)) | exact ret_b (beq_eq_false_iff_ne.2 (by omega)), rfl⟩

theorem c_word (c : UInt8) (w : World) : Calls Tryz.prog 69 #[.int .u8 (c.toNat : Int)] w fun e w' => e = .returned (.bool (isWord c)) ∧ w' = w := by
  have HS := c_small c
  have HG := c_great c
  have HF := c_fig c
  have hw : isWord c = (isSmall c || isGreat c || isFig c) := rfl
  rw [hw]
  generalize isSmall c = a at *
  generalize isGreat c = b at *
  generalize isFig c = d at *
  clear hw
  cases a <;> cases b <;> cases d
  all_goals
    go_enter Tryz.func69, Tryz.ntmps69
    go_wp2_with (first | (go_at_call 58; refine (HS _).mono ?_; rintro e w' ⟨rfl, rfl⟩) | (go_at_call 59; refine (HG _).mono ?_; rintro e w' ⟨rfl, rfl⟩) | (go_at_call 61; refine (HF _).mono ?_; rintro e w' ⟨rfl, rfl⟩))
    go_ret
    exact ⟨rfl, rfl⟩
end Go.Proofs.YtenmhpalpfppmaoGreatDoor

/- spec.SymbolByte. -/
namespace Go.Proofs.YtenmhpalpfppmaoGreatDoor
open Go.RowKit

set_option maxRecDepth 100000 in
theorem spec_sym (c : UInt8) (w : World) :
    Calls Tryz.prog 64 #[.int .u8 (c.toNat : Int)] w fun e w' => e = .returned (.bool (isSym c)) ∧ w' = w := by
  obtain ⟨R, hR⟩ : ∃ R, R = isSym c := ⟨_, rfl⟩
  rw [← hR]
  have HR : Hid (isSym c = R) := hR.symm
  clear hR
  go_enter Tryz.func64, Tryz.ntmps64
  have hb := c.toNat_lt
  go_wp2
  go_loopw [4] (fun i wr => wr = w ∧ ∃ k : Nat, k ≤ 17 ∧ i = .int .i64 (k : Int) ∧ Hid (c ∉ symL.take k)) (fun i _ => 17 - (intOf i).toNat)
  case atStart => exact ⟨rfl, 0, by omega, rfl, by show _ ∉ _; simp⟩
  case round =>
    obtain ⟨rfl, k, hk, rfl, hp⟩ := hrel
    by_cases hlt : k < 17
    · have hsz : k < symS.size := hlt
      have hc := symS[k].toNat_lt
      have hmem : symS[k] ∈ symL := by
        show symS.data.toList[k] ∈ symL
        exact List.getElem_mem _
      have htk : symL.take (k + 1) = symL.take k ++ [symS[k]] := by
        rw [List.take_succ_eq_append_getElem (show k < symL.length from hlt)]
        rfl
      by_cases he : symS[k] = c
      · have HT : Hid (R = true) := by
          show _ = _
          rw [← HR.out, ← he]; unfold isSym; simpa using hmem
        have e1 : ((symS[k].toNat : Int) == (c.toNat : Int)) = true := by rw [he]; simp
        clear hp hmem htk HR
        go_wp2
        go_ret
        exact ⟨by rw [HT.out]; rfl, rfl⟩
      · have hp' : Hid (c ∉ symL.take (k + 1)) := by
          show _ ∉ _
          rw [htk]
          intro hm
          rcases List.mem_append.1 hm with h | h
          · exact hp.out h
          · simp at h; exact he h.symm
        have e1 : ((symS[k].toNat : Int) == (c.toNat : Int)) = false := by
          apply beq_eq_false_iff_ne.2
          intro h
          exact he (UInt8.toNat_inj.1 (by omega))
        clear hp hmem htk HR
        go_wp2
        go_roundw
        case rel => exact ⟨trivial, k + 1, by omega, by go_num, hp'⟩
        case measure => simp [intOf]; omega
    · have HF : Hid (R = false) := by
        show _ = _
        rw [← HR.out]
        have := hp.out
        rw [List.take_of_length_le (show symL.length ≤ k by show 17 ≤ k; omega)] at this
        unfold isSym; simpa using this
      obtain rfl : k = 17 := by omega
      clear hp HR
      go_wp2
      go_ret
      exact ⟨by rw [HF.out]; rfl, rfl⟩
end Go.Proofs.YtenmhpalpfppmaoGreatDoor

/- spec.l01In. -/
namespace Go.Proofs.YtenmhpalpfppmaoGreatDoor
open Go.RowKit

theorem in_any (x a b : Int) (w : World) :
    Calls Tryz.prog 47 #[.int .i64 x, .int .i64 a, .int .i64 b] w fun e w' => e = .returned (.bool (decide (a ≤ x ∧ x ≤ b))) ∧ w' = w := by
  by_cases h0 : a ≤ x
  · by_cases h1 : x ≤ b
    · rw [decide_eq_true (show a ≤ x ∧ x ≤ b from ⟨h0, h1⟩)]
      go_enter Tryz.func47, Tryz.ntmps47
      go_wp2
      go_ret
      exact ⟨by simp, rfl⟩
    · rw [decide_eq_false (show ¬ (a ≤ x ∧ x ≤ b) from fun h => h1 h.2)]
      go_enter Tryz.func47, Tryz.ntmps47
      go_wp2
      go_ret
      exact ⟨by simp, rfl⟩
  · rw [decide_eq_false (show ¬ (a ≤ x ∧ x ≤ b) from fun h => h0 h.1)]
    go_enter Tryz.func47, Tryz.ntmps47
    go_wp2
    go_ret
    exact ⟨by simp, rfl⟩

end Go.Proofs.YtenmhpalpfppmaoGreatDoor

/- The code's writtenList. -/
import Derived.Test.YtenmhpalpfppmaoGreatDoorWtJ
namespace Go.Proofs.YtenmhpalpfppmaoGreatDoor
open Go.RowKit

/-- terms, four cells each -/
def TmCells (w : World) : List Tm → List Value → Prop
  | [], cs => cs = []
  | t :: ts, cs => ∃ c0 c1 c2 c3 r, cs = c0 :: c1 :: c2 :: c3 :: r ∧ TmIn w t (.agg #[c0, c1, c2, c3]) ∧ TmCells w ts r
theorem TmCells.snoc {w : World} {t : Tm} {c0 c1 c2 c3 : Value} (h2 : TmIn w t (.agg #[c0, c1, c2, c3])) : ∀ (ts : List Tm) (cs : List Value), TmCells w ts cs → TmCells w (ts ++ [t]) (cs ++ [c0, c1, c2, c3])
  | [], cs, h => by
    obtain rfl : cs = [] := h
    exact ⟨c0, c1, c2, c3, [], rfl, h2, rfl⟩
  | u :: ts, cs, h => by
    obtain ⟨d0, d1, d2, d3, r, rfl, h1, h3⟩ := h
    exact ⟨d0, d1, d2, d3, r ++ [c0, c1, c2, c3], by simp, h1, TmCells.snoc h2 ts r h3⟩
theorem TmCells.len {w : World} : ∀ (ts : List Tm) (cs : List Value), TmCells w ts cs → cs.length = ts.length * 4
  | [], cs, h => by obtain rfl : cs = [] := h; rfl
  | u :: ts, cs, h => by
    obtain ⟨d0, d1, d2, d3, r, rfl, h1, h3⟩ := h
    have := TmCells.len ts r h3
    simp only [List.length_cons]; omega
theorem TmCells.toIn {w w' : World} {g : Nat} (hb : Below w.heap.size w w') : ∀ (ts : List Tm) (cs : List Value) (off : Nat), TmCells w ts cs → (∀ i, i < cs.length → w'.cell? ⟨g, off + i, none⟩ = cs[i]?) → TmsIn w' ts g off
  | [], _, _, _, _ => trivial
  | u :: ts, cs, off, h, hc => by
    obtain ⟨d0, d1, d2, d3, r, rfl, h1, h3⟩ := h
    refine ⟨⟨d0, d1, d2, d3, by simpa using hc 0 (by simp), by simpa using hc 1 (by simp), by simpa using hc 2 (by simp), by simpa using hc 3 (by simp), TmIn.keep hb _ _ h1⟩, TmCells.toIn hb ts r (off + 4) h3 fun i hi => ?_⟩
    have := hc (i + 4) (by simp only [List.length_cons]; omega)
    rw [show off + 4 + i = off + (i + 4) by omega, this]
    simp

/-- what is written of a list of which some items are taken -/
def listT (items : List Tm) (u : Tm) : List UInt8 := if items = [] then u.wr else 91 :: (commaL (items.map Tm.wr) ++ u.tl)
theorem listT_step (items : List Tm) (x y : Tm) (n : Int) : listT (items ++ [x]) y = listT items (.mk 4 cDot n [x, y]) := by
  unfold listT
  rw [if_neg (by simp), List.map_append, List.map_cons, List.map_nil, commaL_snoc]
  by_cases h : items = []
  · subst h
    rw [if_pos (by rfl), if_pos rfl, pair_tl.1]
  · rw [if_neg (by simpa using h), if_neg h, pair_tl.2]
    simp

theorem own_slice {w : World} {B e n : Nat} {v : Value} {cs : List Value} (h : w.ownsRow B e 4 v n cs) : ∃ ao cap, v = .slice ao n cap ∧ n ≤ cap ∧ cap ≤ maxLen ∧ (ao = none → n = 0) ∧ ∀ g, v.ownBlock = some g → B ≤ g := by
  rcases h.2 with ⟨rfl, h0⟩ | ⟨g, cap, cur, rfl, hb, hh, h1, h2, h3, h4⟩
  · exact ⟨none, 0, by rw [h0], by omega, Nat.zero_le _, fun _ => h0, fun g hg => by cases hg⟩
  · exact ⟨_, cap, rfl, h1, h2, fun h => by (cases h), fun g' hg => by simp only [Value.ownBlock, Option.some.injEq] at hg; omega⟩
def sliceLen : Value → Nat
  | .slice _ n _ => n
  | _ => 0
def WiOk (t : Tm) : Prop := ∀ (w : World) (v : Value) (d : Nat), TmIn w t v → t.right d = true → t.n ≤ 400 → TabsW w →
  Calls Tryz.prog 14 #[v] w fun e w' => e = .returned (.string ⟨t.wr.toArray⟩) ∧ Below w.heap.size w w'

set_option maxHeartbeats 4000000 in
set_option maxRecDepth 20000 in
theorem i_list (t : Tm) (x0 y0 : Tm) (n0 : Int) (et : t = .mk 4 cDot n0 [x0, y0]) (IH : ∀ u : Tm, SizeOf.sizeOf u < SizeOf.sizeOf t → WiOk u) (w : World) (v : Value) (d : Nat) (hin : TmIn w t v) (hr : t.right d = true) (hn : t.n ≤ 400) (hT : TabsW w) :
    Calls Tryz.prog 43 #[v] w fun e w' => e = .returned (.string ⟨t.wr.toArray⟩) ∧ Below w.heap.size w w' := by
  obtain ⟨i0, hi, hz0, hz1, hz2⟩ := bld_parts (infoT)
  have hR := (wp_len t d hr).1
  obtain ⟨R, eR⟩ : ∃ R, R = t.wr := ⟨_, rfl⟩
  rw [← eR] at hR ⊢
  obtain ⟨T0, hT0⟩ : ∃ T0, T0 = SizeOf.sizeOf t := ⟨_, rfl⟩
  rw [← hT0] at IH
  have HRL : Hid (R.length ≤ 30000) := by show _ ≤ _; omega
  have HL0 : Hid (listT [] t = R) := by show _ = _; rw [eR]; unfold listT; rw [if_pos rfl]
  have HIH : Hid _ := IH
  have HT : Hid (TabsW w) := hT
  have hpt : isPairB 4 cDot 2 = true := rfl
  obtain ⟨k, s, n, ao, l, cap, rfl⟩ := tm_shape hin
  obtain ⟨W, hW⟩ : ∃ W, W = w.alloc (.cells #[.int .i64 k, .string s, .int .i64 n, .slice ao l cap] 29) := ⟨_, rfl⟩
  have bW : Below w.heap.size w W := by rw [hW]; exact (Below.refl _ _).alloc (Nat.le_refl _) _
  have HKW : Hid (W.heap[w.heap.size]? = some (.cells #[.int .i64 k, .string s, .int .i64 n, .slice ao l cap] 29 (0, 0))) := by rw [hW]; exact heap_alloc_new w _
  have HW : Hid (W = w.alloc (.cells #[.int .i64 k, .string s, .int .i64 n, .slice ao l cap] 29)) := hW
  have HBW : Hid (Below w.heap.size w W) := bW
  have HW1 : Hid (W.heap.size = w.heap.size + 1) := by show _ = _; rw [hW]; simp
  have HIN : Hid (TmIn w t (.agg #[.int .i64 k, .string s, .int .i64 n, .slice ao l cap])) := hin
  have HQ : Hid (t.right d = true ∧ t.n ≤ 400 ∧ SizeOf.sizeOf t ≤ T0) := ⟨hr, hn, by omega⟩
  have HET : Hid (∃ n x y, t = .mk 4 cDot n [x, y]) := ⟨n0, x0, y0, et⟩
  clear IH hT hin hr hn hR eR hT0 et bW
  go_enter Tryz.func43, Tryz.ntmps43
  go_upto_region 1 with (fail)
  rw [← HW.out]
  clear hW
  go_wp2
  go_loopw [3] (fun v3 wr => ∃ (items : List Tm) (cs : List Value) (u : Tm) (k' n' : Int) (s' : ByteArray) (ao' : Option Addr) (l' cap' d' : Nat), Hid (wr.ownsRow (w.heap.size + 1) 29 4 v3 items.length cs) ∧ Hid (TmCells w items cs) ∧ Hid (Below w.heap.size w wr) ∧ Hid (wr.heap[w.heap.size]? = some (.cells #[.int .i64 k', .string s', .int .i64 n', .slice ao' l' cap'] 29 (0, 0))) ∧
      Hid (TmIn w u (.agg #[.int .i64 k', .string s', .int .i64 n', .slice ao' l' cap'])) ∧ Hid (listT items u = R) ∧ Hid (u.right d' = true ∧ items.length + u.n ≤ 400 ∧ SizeOf.sizeOf u ≤ T0) ∧ Hid (∀ x ∈ items, (∃ d2, x.right d2 = true) ∧ x.n ≤ 400 ∧ SizeOf.sizeOf x < T0) ∧ Hid ((items = [] → ∃ n x y, u = .mk 4 cDot n [x, y]) ∧ (items ≠ [] → SizeOf.sizeOf u < T0))) (fun v3 _ => 500 - sliceLen v3)
  case atStart => exact ⟨[], [], t, k, n, s, ao, l, cap, d, ⟨rfl, Or.inl ⟨rfl, rfl⟩⟩, rfl, HBW.out, HKW.out, HIN.out, HL0.out, ⟨HQ.out.1, by simpa using HQ.out.2.1, HQ.out.2.2⟩, fun x hx => by simp at hx, fun _ => HET.out, fun h => absurd rfl h⟩
  case round =>
    clear HKW HIN HL0 HQ HET
    obtain ⟨items, cs, u, k', n', s', ao', l', cap', d', HOW, HTC, HB, HK, HU, HLT, HQ, HX, HE⟩ := hrel
    obtain ⟨ao3, cap3, rfl, hc3, hm3, hno3, hbase⟩ := own_slice HOW.out
    have HBASE : Hid _ := hbase
    obtain ⟨k2, s2, n2, ks2⟩ := u
    obtain ⟨ao2, cap2, ey, hs2, hl2, hc2, hrow2⟩ := tm_open HU.out
    simp only [Value.agg.injEq, Array.mk.injEq, List.cons.injEq, and_true, Value.int.injEq, true_and, Value.string.injEq, Value.slice.injEq] at ey
    obtain ⟨rfl, rfl, rfl, rfl, rfl, rfl⟩ := ey
    have HP : Hid (∀ wr, Calls Tryz.prog 42 #[.agg #[.int .i64 k', .string s', .int .i64 n', .slice ao' ks2.length cap']] wr fun e w' => e = .returned (.bool (isPairB k' s' ks2.length)) ∧ Below wr.heap.size wr w') := fun wr => i_pair k' s' n' ao' ks2.length cap' wr (by omega)
    obtain ⟨q0, q1, q2, q3, z0, z1, z2, z3⟩ := blk4 HK.out
    have HROW : Hid _ := hrow2
    have hitl : items.length ≤ 400 := by have := HQ.out.2.1; omega
    obtain ⟨NI, hNI⟩ : ∃ NI, NI = items.length := ⟨_, rfl⟩
    have HNI : Hid (items.length = NI) := hNI.symm
    rw [← hNI] at HOW hc3 hno3 HBASE hitl ⊢
    have hNIi : (NI : Int) ≤ 400 := by omega
    unfold maxLen at hm3 hc2
    clear hrow2 hNI hs2
    cases hpr : isPairB k' s' ks2.length with
    | true =>
      rw [hpr] at HP
      simp only [isPairB, Bool.and_eq_true, decide_eq_true_eq] at hpr
      obtain ⟨⟨rfl, rfl⟩, hlen2⟩ := hpr
      obtain ⟨x2, y2, rfl⟩ := two_of hlen2
      clear hlen2
      obtain ⟨b2, off2, rfl, hks2⟩ := HROW.out (by simp)
      obtain ⟨c0, c1, c2, c3, d0, d1, d2, d3, hx2, hy2⟩ := two_at hks2
      have hbb2 : b2 < w.heap.size := cell_blk hx2.1
      have hne2 : ¬ w.heap.size = b2 := by omega
      obtain ⟨kx, sx, nx, ax, lx, cx, e4⟩ := tm_shape hx2.2.2.2.2
      simp only [Value.agg.injEq, Array.mk.injEq, List.cons.injEq, and_true] at e4
      obtain ⟨rfl, rfl, rfl, rfl⟩ := e4
      obtain ⟨ky, sy, ny, ay, ly, cy, e4⟩ := tm_shape hy2.2.2.2.2
      simp only [Value.agg.injEq, Array.mk.injEq, List.cons.injEq, and_true] at e4
      obtain ⟨rfl, rfl, rfl, rfl⟩ := e4
      have hxr := right_kid HQ.out.1 (u := x2) (by simp)
      have hyr := right_kid HQ.out.1 (u := y2) (by simp)
      have hn2 := HQ.out.2.1
      rw [n_mk, show ns [x2, y2] = x2.n + y2.n by simp [ns, Tm.n.ns], HNI.out] at hn2
      have hxs : SizeOf.sizeOf x2 < T0 := Nat.lt_of_lt_of_le (tm_kid_lt (by simp)) HQ.out.2.2
      have hys : SizeOf.sizeOf y2 < T0 := Nat.lt_of_lt_of_le (tm_kid_lt (by simp)) HQ.out.2.2
      have HCX : Hid (w.cell? ⟨b2, off2, none⟩ = some (.int .i64 kx) ∧ w.cell? ⟨b2, off2 + 1, none⟩ = some (.string sx) ∧ w.cell? ⟨b2, off2 + 2, none⟩ = some (.int .i64 nx) ∧ w.cell? ⟨b2, off2 + 3, none⟩ = some (.slice ax lx cx)) := ⟨hx2.1, hx2.2.1, hx2.2.2.1, hx2.2.2.2.1⟩
      have HCY : Hid (w.cell? ⟨b2, off2 + 4, none⟩ = some (.int .i64 ky) ∧ w.cell? ⟨b2, off2 + 4 + 1, none⟩ = some (.string sy) ∧ w.cell? ⟨b2, off2 + 4 + 2, none⟩ = some (.int .i64 ny) ∧ w.cell? ⟨b2, off2 + 4 + 3, none⟩ = some (.slice ay ly cy)) := ⟨hy2.1, hy2.2.1, hy2.2.2.1, hy2.2.2.2.1⟩
      have HNEW : Hid (TmCells w (items ++ [x2]) (cs ++ [.int .i64 kx, .string sx, .int .i64 nx, .slice ax lx cx])) := TmCells.snoc hx2.2.2.2.2 _ _ HTC.out
      have HYIN : Hid (TmIn w y2 (.agg #[.int .i64 ky, .string sy, .int .i64 ny, .slice ay ly cy])) := hy2.2.2.2.2
      have HLT2 : Hid (listT (items ++ [x2]) y2 = R) := by show _ = _; rw [listT_step]; exact HLT.out
      have HQ2 : Hid (y2.right (d' + 1) = true ∧ (items ++ [x2]).length + y2.n ≤ 400 ∧ SizeOf.sizeOf y2 ≤ T0) := ⟨hyr, by rw [List.length_append, HNI.out, List.length_singleton]; have h0 : 1 ≤ x2.n := (by obtain ⟨a1, a2, a3, a4⟩ := x2; rw [n_mk]; omega); omega, Nat.le_of_lt hys⟩
      have HX2 : Hid (∀ x ∈ items ++ [x2], (∃ d2, x.right d2 = true) ∧ x.n ≤ 400 ∧ SizeOf.sizeOf x < T0) := fun x hx => by
        rcases List.mem_append.1 hx with hx | hx
        · exact HX.out x hx
        · simp only [List.mem_singleton] at hx
          subst hx
          exact ⟨⟨_, hxr⟩, by omega, hxs⟩
      have HE2 : Hid ((items ++ [x2] = [] → ∃ n x y, y2 = .mk 4 cDot n [x, y]) ∧ (items ++ [x2] ≠ [] → SizeOf.sizeOf y2 < T0)) := ⟨fun h => by simp at h, fun _ => hys⟩
      have HL2 : Hid ((items ++ [x2]).length = NI + 1) := by show _ = _; rw [List.length_append, HNI.out]; rfl
      clear hks2 hx2 hy2 hxr hyr hn2 hxs hys HROW HQ HX HE HLT HU HTC hl2
      go_upto_region 3 with (go_at_call 42; refine (Calls.mono (HP.out _) ?_); rintro e w1 ⟨rfl, b1⟩; have B1 : Hid (Below wr.heap.size wr w1) := b1; clear b1)
      have BW1 : Hid (Below w.heap.size w w1) := HB.out.trans (B1.out.mono HB.out.size)
      have HK1 : Hid (w1.heap[w.heap.size]? = some (.cells #[.int .i64 4, .string cDot, .int .i64 n', .slice (some ⟨b2, off2, none⟩) 2 cap'] 29 (0, 0))) := (B1.out.block _ (Array.getElem?_eq_some_iff.1 HK.out).1).trans HK.out
      have HOW1 : Hid (w1.ownsRow (w.heap.size + 1) 29 4 (.slice ao3 NI cap3) NI cs) := ⟨HOW.out.1, by
        rcases HOW.out.2 with hn | ⟨g, cap, cur, e, h1, h2, h3⟩
        · exact Or.inl hn
        · exact Or.inr ⟨g, cap, cur, e, h1, (B1.out.block g (Array.getElem?_eq_some_iff.1 h2).1).trans h2, h3⟩⟩
      have hlt1 : w.heap.size < w1.heap.size := (Array.getElem?_eq_some_iff.1 HK1.out).1
      clear q0 q1 q2 q3 z0 z1 z2 z3 HP HK HOW B1 HB
      obtain ⟨q0, q1, q2, q3, z0, z1, z2, z3⟩ := blk4 HK1.out
      have hx0 := cell_keep HCX.out.1 BW1.out
      have hx1 := cell_keep HCX.out.2.1 BW1.out
      have hx2 := cell_keep HCX.out.2.2.1 BW1.out
      have hx3 := cell_keep HCX.out.2.2.2 BW1.out
      go_wp2_with (at_builtin; go_loud (refine wpList_append_own_at _ rfl _ _ 27 rfl (w.heap.size + 1) 29 i0 (.agg #[.int .i64 0, .string ⟨#[]⟩, .int .i64 0, .slice none 0 0]) 4 56 Tryz.underlying27 hi hz0 hz1 hz2 rfl (by decide) _ _ _ rfl (HOW1.out.alloc _) ⟨w1.heap.size, 0, none⟩ 1 1 [.int .i64 kx, .string sx, .int .i64 nx, .slice ax lx cx] rfl rfl ?c1 ?c2 ?c3 ?c4 ?c5 ?_))
      case c1 =>
        intro j z hj
        match j, hj with
        | 0, hj => simp at hj; subst hj; simp [Addr.add]
        | 1, hj => simp at hj; subst hj; simp [Addr.add]
        | 2, hj => simp at hj; subst hj; simp [Addr.add]
        | 3, hj => simp at hj; subst hj; simp [Addr.add]
      case c2 => intro z hz; simp at hz; rcases hz with rfl | rfl | rfl | rfl <;> rfl
      case c3 => unfold maxLen; omega
      case c4 => omega
      case c5 => simp; omega
      intro v' w2 hown' hgrow _ _
      have BW2 : Hid (Below w.heap.size w w2) := (BW1.out.alloc BW1.out.size _).grown hgrow (by have := BW1.out.size; simp; omega) (fun k hk => by have := HBASE.out k hk; omega)
      have HK2 : Hid (w2.heap[w.heap.size]? = some (.cells #[.int .i64 4, .string cDot, .int .i64 n', .slice (some ⟨b2, off2, none⟩) 2 cap'] 29 (0, 0))) := by
        show _ = _
        rw [hgrow.block w.heap.size (by simp; omega) (fun e => by have := HBASE.out _ e.symm; omega)]
        exact (alloc_old _ _ hlt1).trans HK1.out
      obtain ⟨ao4, cap4, rfl, hc4, hm4, _, hb4⟩ := own_slice hown'
      have HOW2 : Hid (w2.ownsRow (w.heap.size + 1) 29 4 (.slice ao4 (NI + 1) cap4) (NI + 1) (cs ++ [.int .i64 kx, .string sx, .int .i64 nx, .slice ax lx cx])) := hown'
      have HB4 : Hid _ := hb4
      clear hown' hgrow q0 q1 q2 q3 z0 z1 z2 z3 hx0 hx1 hx2 hx3 HOW1 HK1 HBASE BW1 hlt1 hb4 hc4
      unfold maxLen at hm4
      obtain ⟨q0, q1, q2, q3, z0, z1, z2, z3⟩ := blk4 HK2.out
      have hy0 := cell_keep HCY.out.1 BW2.out
      have hy1 := cell_keep HCY.out.2.1 BW2.out
      have hy2 := cell_keep HCY.out.2.2.1 BW2.out
      have hy3 := cell_keep HCY.out.2.2.2 BW2.out
      go_wp2
      go_roundw
      case rel =>
        refine ⟨items ++ [x2], cs ++ [Value.int .i64 kx, Value.string sx, Value.int .i64 nx, Value.slice ax lx cx], y2, ky, ny, sy, ay, ly, cy, d' + 1, ?_, HNEW.out, blk4_below BW2.out (Nat.le_refl _), blk4_set HK2.out, HYIN.out, HLT2.out, HQ2.out, HX2.out, HE2.out⟩
        show World.ownsRow _ _ _ _ _ _ _
        rw [HL2.out]
        refine ⟨HOW2.out.1, ?_⟩
        rcases HOW2.out.2 with hn | ⟨g, cap, cur, e, h1, h2, h3⟩
        · exact Or.inl hn
        · exact Or.inr ⟨g, cap, cur, e, h1, (blk4_other (by omega)).trans h2, h3⟩
      case measure => simp [sliceLen]; omega
    | false =>
      rw [hpr] at HP
      have hne : items ≠ [] := fun h => by
        obtain ⟨n, x, y, e⟩ := HE.out.1 h
        simp only [Tm.mk.injEq] at e
        obtain ⟨rfl, rfl, rfl, rfl⟩ := e
        simp [isPairB] at hpr
      have hrest := rest_tl HQ.out.1 hpr
      have hus := HE.out.2 hne
      have hlt := HLT.out
      unfold listT at hlt
      rw [if_neg hne] at hlt
      have hNI0 : 0 < NI := by rw [← HNI.out]; exact List.length_pos_iff.2 hne
      have hyn : (Tm.mk k' s' n' ks2).n ≤ 400 := by have := HQ.out.2.1; omega
      have HWU : Hid (∀ V, Below w.heap.size w V → Calls Tryz.prog 14 #[.agg #[.int .i64 k', .string s', .int .i64 n', .slice ao' ks2.length cap']] V fun e w' => e = .returned (.string ⟨(Tm.mk k' s' n' ks2).wr.toArray⟩) ∧ Below V.heap.size V w') := fun V hb => HIH.out _ hus V _ d' (TmIn.keep hb _ _ HU.out) HQ.out.1 hyn (HT.out.keep hb)
      have hcl : (commaL (items.map Tm.wr)).length ≤ 30000 := by have := HRL.out; rw [← hlt, List.length_cons, List.length_append] at this; omega
      obtain ⟨g3, rfl⟩ : ∃ g3, ao3 = some ⟨g3, 0, none⟩ := by
        rcases HOW.out.2 with ⟨e, h0⟩ | ⟨g, cap, cur, e, _⟩
        · omega
        · simp only [Value.slice.injEq] at e; exact ⟨g, e.1⟩
      clear hpr HROW hus hno3
      go_upto_region 5 with (go_at_call 42; refine (Calls.mono (HP.out _) ?_); rintro e w1 ⟨rfl, b1⟩; have B1 : Hid (Below wr.heap.size wr w1) := b1; clear b1)
      have BW1 : Hid (Below w.heap.size w w1) := HB.out.trans (B1.out.mono HB.out.size)
      have HK1 : Hid (w1.heap[w.heap.size]? = some (.cells #[.int .i64 k', .string s', .int .i64 n', .slice ao' ks2.length cap'] 29 (0, 0))) := (B1.out.block _ (Array.getElem?_eq_some_iff.1 HK.out).1).trans HK.out
      have hlt1 : w.heap.size < w1.heap.size := (Array.getElem?_eq_some_iff.1 HK1.out).1
      have HTI : TmsIn w1 items g3 0 := TmCells.toIn BW1.out _ _ 0 HTC.out fun i hi => by
        have h1 := HOW.out.1
        have := (World.ownsRow.cellAt HOW.out i (by rw [← h1]; exact hi))
        rw [Nat.zero_add]
        rcases HOW.out.2 with ⟨e, h0⟩ | ⟨g, cap, cur, e, h1, h2, h3⟩
        · cases e
        · simp only [Value.slice.injEq, Option.some.injEq, Addr.mk.injEq] at e
          obtain ⟨⟨rfl, _⟩, _⟩ := e
          rw [← this, World.cell?_of_block (B1.out.block g3 (Array.getElem?_eq_some_iff.1 h2).1)]
      have HALL : Hid _ := all_any items w1 g3 0 NI cap3 HNI.out hitl HTI fun u hu V v hb h => by
        obtain ⟨⟨d2, h1⟩, h2, h3⟩ := HX.out u hu
        exact HIH.out u h3 V v d2 h h1 h2 (HT.out.keep (BW1.out.trans (hb.mono BW1.out.size)))
      clear q0 q1 q2 q3 z0 z1 z2 z3 HP HK HOW B1 HB HTI HX HTC
      obtain ⟨C, hC⟩ : ∃ C, C = commaL (items.map Tm.wr) := ⟨_, rfl⟩
      have HML : Hid ((items.map Tm.wr).length = NI) := by show _ = _; rw [List.length_map]; exact HNI.out
      have HPT : Hid (∀ V g, TxtAt V g 0 (items.map Tm.wr) → Calls Tryz.prog 45 #[.string ⟨#[44]⟩, .slice (some ⟨g, 0, none⟩) NI NI] V fun e w' => e = .returned (.string ⟨C.toArray⟩) ∧ Below V.heap.size V w') := fun V g h => by
        rw [hC]; exact parted_any (items.map Tm.wr) g 0 NI NI V HML.out h (Nat.le_refl _) (by unfold maxLen; omega) (by omega)
      rw [← hC] at hlt hcl
      clear hC HML
      go_upto_region 6 with (first
        | (go_at_call 46; refine (Calls.mono HALL.out ?_); rintro e w2 ⟨g, rfl, ht, b2⟩; have HTX : Hid _ := ht; have B2 : Hid (Below w1.heap.size w1 w2) := b2; clear ht b2)
        | (go_at_call 45; refine (Calls.mono (HPT.out _ _ HTX.out) ?_); rintro e w3 ⟨rfl, b3⟩; have B3 : Hid (Below w1.heap.size w1 w3) := B2.out.trans (b3.mono B2.out.size); clear b3))
      have BW3 : Hid (Below w.heap.size w w3) := BW1.out.trans (B3.out.mono BW1.out.size)
      have HK3 : Hid (w3.heap[w.heap.size]? = some (.cells #[.int .i64 k', .string s', .int .i64 n', .slice ao' ks2.length cap'] 29 (0, 0))) := (B3.out.block _ hlt1).trans HK1.out
      obtain ⟨q0, q1, q2, q3, _⟩ := blk4 HK3.out
      have HRL2 : Hid (C.length + (Tm.mk k' s' n' ks2).tl.length + 1 = R.length) := by show _ = _; rw [← hlt]; simp only [List.length_cons, List.length_append]
      have HLT3 : Hid (91 :: (C ++ (Tm.mk k' s' n' ks2).tl) = R) := hlt
      clear hlt hcl HALL HPT HTX B2 hlt1 HK1 HQ HE HLT HU HBASE
      have HNO0 := i_none k' s' n' ao' ks2.length cap' w3
      have hlt3 : w.heap.size < w3.heap.size := (Array.getElem?_eq_some_iff.1 HK3.out).1
      rcases hrest with ⟨rfl, rfl, htl⟩ | ⟨hno, htl⟩
      · rw [htl] at HRL2 HLT3
        have HTG : Hid (∀ V, _) := tog3 [91] C [93] (by have := HRL2.out; have := HRL.out; simp only [List.length_cons, List.length_nil] at *; omega)
        rw [show isNoneB 2 cNone = true from rfl] at HNO0
        have HNO : Hid _ := HNO0
        clear htl HWU HNO0
        go_wp2_with (first
          | (go_at_call 57; refine (Calls.mono HNO.out ?_); rintro e w4 ⟨rfl, b4⟩; have B4 : Hid (Below w.heap.size w w4) := BW3.out.trans (b4.mono BW3.out.size); clear b4)
          | (go_at_call 26; refine (Calls.mono (HTG.out _) ?_); rintro e w5 ⟨rfl, b5⟩; have B5 : Hid (Below w.heap.size w w5) := B4.out.trans (b5.mono B4.out.size); clear b5))
        go_ret
        exact ⟨by rw [← HLT3.out]; simp, B5.out⟩
      · rw [htl] at HRL2 HLT3
        have hnb : isNoneB k' s' = false := by
          unfold isNoneB
          rw [Bool.and_eq_false_iff]
          by_cases h2 : k' = 2
          · refine Or.inr (decide_eq_false fun e => hno ⟨h2, e⟩)
          · exact Or.inl (decide_eq_false h2)
        rw [hnb] at HNO0
        have HNO : Hid _ := HNO0
        obtain ⟨Y, hY⟩ : ∃ Y, Y = (Tm.mk k' s' n' ks2).wr := ⟨_, rfl⟩
        rw [← hY] at HWU HRL2 HLT3
        have HTG : Hid (∀ V, _) := tog5 [91] C [124] Y [93] (by have := HRL2.out; have := HRL.out; simp only [List.length_cons, List.length_append, List.length_nil] at *; omega)
        clear htl hY hnb HNO0 hno
        go_wp2_with (first
          | (go_at_call 57; refine (Calls.mono HNO.out ?_); rintro e w4 ⟨rfl, b4⟩; have B4 : Hid (Below w.heap.size w w4) := BW3.out.trans (b4.mono BW3.out.size); obtain ⟨r0, r1, r2, r3, _⟩ := blk4 ((b4.block _ hlt3).trans HK3.out); have HWV : Hid _ := HWU.out w4 B4.out; clear b4)
          | (go_at_call 14; refine (Calls.mono HWV.out ?_); rintro e w5 ⟨rfl, b5⟩; have B5 : Hid (Below w.heap.size w w5) := B4.out.trans (b5.mono B4.out.size); clear b5)
          | (go_at_call 26; refine (Calls.mono (HTG.out _) ?_); rintro e w6 ⟨rfl, b6⟩; have B6 : Hid (Below w.heap.size w w6) := B5.out.trans (b6.mono B5.out.size); clear b6))
        go_ret
        exact ⟨by rw [← HLT3.out]; simp, B6.out⟩
end Go.Proofs.YtenmhpalpfppmaoGreatDoor

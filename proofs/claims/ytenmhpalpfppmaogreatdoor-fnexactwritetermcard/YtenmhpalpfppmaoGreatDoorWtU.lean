/- The specification's l07Write and WriteTerm. -/
import Derived.Test.YtenmhpalpfppmaoGreatDoorMrg8
import Derived.Test.YtenmhpalpfppmaoGreatDoorWtA
import Derived.Test.YtenmhpalpfppmaoGreatDoorTmOk
namespace Go.Proofs.YtenmhpalpfppmaoGreatDoor
open Go.RowKit

/-- what is written of a struct that is no pair -/
theorem wr_var (n : Int) (ks : List Tm) (s : ByteArray) : (Tm.mk 1 s n ks).wr = 95 :: decI n := by unfold Tm.wr; rw [wp_mk]; rfl
theorem wr_int (n : Int) (ks : List Tm) (s : ByteArray) : (Tm.mk 3 s n ks).wr = decI n := by unfold Tm.wr; rw [wp_mk]; rfl
theorem wr_atom (n : Int) (ks : List Tm) (s : ByteArray) : (Tm.mk 2 s n ks).wr = wrAtom s := by unfold Tm.wr; rw [wp_mk]; rfl
theorem wr_infix {s : ByteArray} {n : Int} {x y : Tm} (hs : ¬ s = cDot) (hi : (infixP s).isSome = true) : (Tm.mk 4 s n [x, y]).wr = 40 :: (x.wr ++ (32 :: (signL s ++ (32 :: (y.wr ++ [41]))))) := by
  unfold Tm.wr; rw [wp_mk]
  simp [wrMk, hs, hi]
theorem wr_struct {s : ByteArray} {n : Int} {ks : List Tm} (h : ks.length = 2 → ¬ s = cDot ∧ (infixP s).isSome = false) : (Tm.mk 4 s n ks).wr = atomL s ++ (40 :: (commaL (ks.map Tm.wr) ++ [41])) := by
  unfold Tm.wr; rw [wp_mk]
  match ks, h with
  | [], _ => rfl
  | [a], _ => rfl
  | [a, b], h =>
    obtain ⟨h1, h2⟩ := h rfl
    simp [wrMk, h1, h2]
  | a :: b :: c :: r, _ => simp [wrMk, Function.comp_def]

/-- the parts one by one -/
def commaT (l : List (List UInt8)) (j : Nat) : List UInt8 := commaL (l.take j)
theorem commaL_snoc (l : List (List UInt8)) (x : List UInt8) : commaL (l ++ [x]) = if l = [] then x else commaL l ++ (44 :: x) := by
  induction l with
  | nil => rfl
  | cons a r ih =>
    cases r with
    | nil => simp [commaL]
    | cons b r => simp only [List.cons_append, commaL] at *; rw [ih, if_neg (by simp), if_neg (by simp)]; simp
theorem commaT_succ {l : List (List UInt8)} {j : Nat} (hj : j < l.length) : commaT l (j + 1) = if j = 0 then l[j] else commaT l j ++ (44 :: l[j]) := by
  unfold commaT
  rw [List.take_succ_eq_append_getElem hj, commaL_snoc]
  by_cases h : j = 0
  · subst h; simp
  · rw [if_neg h, if_neg (by intro e; have h2 : (l.take j).length = 0 := (by rw [e]; rfl); rw [List.length_take] at h2; omega)]
theorem commaT_le {l : List (List UInt8)} : ∀ (j : Nat), (commaT l j).length ≤ (commaL l).length := by
  intro j
  unfold commaT
  induction l generalizing j with
  | nil => simp [commaL]
  | cons a r ih =>
    cases j with
    | zero => simp [commaL]
    | succ j =>
      cases r with
      | nil => simp [commaL]
      | cons b r =>
        cases j with
        | zero => simp only [List.take_succ_cons, List.take_zero, commaL, List.length_append]; omega
        | succ j =>
          have := ih (j + 1)
          simp only [List.take_succ_cons, commaL, List.length_append, List.length_cons] at *
          omega

set_option maxHeartbeats 4000000 in
set_option maxRecDepth 20000 in
theorem s_write : ∀ (m : Nat) (t : Tm), SizeOf.sizeOf t < m → WsOk t := by
  intro m
  induction m with
  | zero => intro t ht; omega
  | succ m ihm =>
    intro t ht w v d hin hr hn
    have IH : ∀ u : Tm, SizeOf.sizeOf u < SizeOf.sizeOf t → WsOk u := fun u hu => ihm u (by omega)
    have hRL := (wp_len t d hr).1
    obtain ⟨R, eR⟩ : ∃ R, R = t.wr := ⟨_, rfl⟩
    rw [← eR] at hRL ⊢
    have HRL : Hid (R.length ≤ 30000) := by show _ ≤ _; omega
    clear ihm ht hRL
    obtain ⟨k, s, n, ks⟩ := t
    have hkinds := right_kinds hr
    obtain ⟨ao, cap, rfl, hs, hlen, hcap, hrow⟩ := tm_open hin
    have hb0 : Hid (Below w.heap.size w (w.alloc (.cells #[.int .i64 k, .string s, .int .i64 n, .slice ao ks.length cap] 29))) := (Below.refl _ _).alloc (Nat.le_refl _) _
    by_cases h1 : k = 1
    · subst h1
      obtain rfl : ks = [] := by rcases hkinds with h | h | h <;> first | exact h.2.2.2.2.1 | omega
      have hnn : -999999999 ≤ n ∧ n ≤ 999999999 := by rcases hkinds with h | h | h <;> omega
      rw [wr_var] at eR
      have HC : Hid _ := fun w => dec_any n w (by omega) (by omega)
      have hadd : ∀ u, (Op.stringOp .add ⟨#[95]⟩ ⟨(decI n).toArray⟩).run Tryz.prog u = .ok (.string ⟨R.toArray⟩) u := by
        have := add_txt [95] (decI n) (by have := HRL.out; rw [eR] at this; simp only [List.length_cons, List.length_nil] at *; omega)
        rw [eR]; exact this
      clear eR hkinds hrow hin hr hn hnn hlen
      unfold maxLen at hcap
      go_enter Tryz.func11, Tryz.ntmps11
      go_wp2_with (go_at_call 18; refine (Calls.mono (HC.out _) ?_); rintro e w1 ⟨rfl, b1⟩; have B1 : Hid (Below w.heap.size w w1) := hb0.out.trans (b1.mono hb0.out.size); clear b1)
      go_ret
      exact ⟨rfl, B1.out⟩
    have h1' : (k == 1) = false := beq_eq_false_iff_ne.2 h1
    by_cases h3 : k = 3
    · subst h3
      obtain rfl : ks = [] := by rcases hkinds with h | h | h <;> first | exact h.2.2.2.2.1 | omega
      have hnn : -999999999 ≤ n ∧ n ≤ 999999999 := by rcases hkinds with h | h | h <;> omega
      rw [wr_int] at eR
      unfold maxLen at hcap
      by_cases hneg : n < 0
      · have HC : Hid _ := fun w => dec_any (-n) w (by omega) (by omega)
        have hadd : ∀ u, (Op.stringOp .add ⟨#[45]⟩ ⟨(decI (-n)).toArray⟩).run Tryz.prog u = .ok (.string ⟨R.toArray⟩) u := by
          have e := decI_neg hneg
          have := add_txt [45] (decI (-n)) (by have := HRL.out; rw [eR, ← e] at this; simp only [List.length_cons, List.length_nil] at *; omega)
          rw [eR, ← e]; exact this
        clear eR hkinds hrow hin hr hn h1 hlen
        go_enter Tryz.func11, Tryz.ntmps11
        go_wp2_with (go_at_call 18; refine (Calls.mono (HC.out _) ?_); rintro e w1 ⟨rfl, b1⟩; have B1 : Hid (Below w.heap.size w w1) := hb0.out.trans (b1.mono hb0.out.size); clear b1)
        go_ret
        exact ⟨rfl, B1.out⟩
      · have HC : Hid _ := fun w => dec_any n w (by omega) (by omega)
        rw [← eR] at HC
        clear eR hkinds hrow hin hr hn h1 hlen
        go_enter Tryz.func11, Tryz.ntmps11
        go_wp2_with (go_at_call 18; refine (Calls.mono (HC.out _) ?_); rintro e w1 ⟨rfl, b1⟩; have B1 : Hid (Below w.heap.size w w1) := hb0.out.trans (b1.mono hb0.out.size); clear b1)
        go_ret
        exact ⟨rfl, B1.out⟩
    have h3' : (k == 3) = false := beq_eq_false_iff_ne.2 h3
    have HAT : Hid (s.size ≤ 20 → ∀ w, Calls Tryz.prog 20 #[.string s] w fun e w' => e = .returned (.string ⟨(atomL s).toArray⟩) ∧ Below w.heap.size w w') := fun h w => s_atom s w (by omega)
    by_cases h2 : k = 2
    · subst h2
      obtain rfl : ks = [] := by rcases hkinds with h | h | h <;> first | exact h.2.2.2 | omega
      have hs20 : s.size ≤ 20 := by rcases hkinds with h | h | h <;> omega
      rw [wr_atom] at eR
      unfold wrAtom cNone at eR
      have hal := atomL_len s
      have HA1 : Hid _ := HAT.out hs20
      by_cases hno : s = ⟨#[91, 93]⟩
      · subst hno
        rw [if_pos rfl] at eR
        subst eR
        clear hkinds hrow hin hr hn h1 h3 hal hs20 HAT HA1 hlen
        unfold maxLen at hcap
        go_enter Tryz.func11, Tryz.ntmps11
        go_wp2
        go_ret
        exact ⟨rfl, hb0.out⟩
      · rw [if_neg hno] at eR
        have hno' := toL_ne (l := [91, 93]) hno
        have HOP : Hid (∀ w, Calls Tryz.prog 19 #[.string s] w fun e w' => e = .returned (.bool (isOpB s)) ∧ Below w.heap.size w w') := fun w => s_op s w
        cases hop : isOpB s with
        | true =>
          rw [hop] at HOP
          rw [hop, if_pos rfl] at eR
          obtain ⟨A, hA⟩ : ∃ A, A = atomL s := ⟨_, rfl⟩
          rw [← hA] at eR HA1 hal
          have hadd1 : ∀ u, (Op.stringOp .add ⟨#[40]⟩ ⟨A.toArray⟩).run Tryz.prog u = .ok (.string ⟨(40 :: A).toArray⟩) u := add_txt [40] A (by simp only [List.length_cons, List.length_nil]; omega)
          have hadd2 : ∀ u, (Op.stringOp .add ⟨(40 :: A).toArray⟩ ⟨#[41]⟩).run Tryz.prog u = .ok (.string ⟨R.toArray⟩) u := by
            rw [eR]; exact add_txt (40 :: A) [41] (by simp only [List.length_cons, List.length_nil]; omega)
          generalize 40 :: A = A2 at hadd1 hadd2
          clear hkinds hrow hin hr hn h1 h3 hal hs20 HAT hno hop hA eR hlen
          unfold maxLen at hcap
          go_enter Tryz.func11, Tryz.ntmps11
          go_wp2_with (first
            | (go_at_call 19; refine (Calls.mono (HOP.out _) ?_); rintro e w1 ⟨rfl, b1⟩; have B1 : Hid (Below w.heap.size w w1) := hb0.out.trans (b1.mono hb0.out.size); have HCL : Hid (w1.cell? ⟨w.heap.size, 1, none⟩ = some (.string s)) := cell_keep (w := w.alloc (.cells #[.int .i64 2, .string s, .int .i64 n, .slice ao 0 cap] 29)) (blk_cell (i := 1) (heap_alloc_new w _) (by simp)) b1; have hcl := HCL.out; clear b1)
            | (go_at_call 20; refine (Calls.mono (HA1.out _) ?_); rintro e w2 ⟨rfl, b2⟩; have B2 : Hid (Below w.heap.size w w2) := B1.out.trans (b2.mono B1.out.size); clear b2))
          go_ret
          exact ⟨rfl, B2.out⟩
        | false =>
          rw [hop] at HOP
          rw [hop, if_neg (by simp)] at eR
          rw [← eR] at HA1
          clear hkinds hrow hin hr hn h1 h3 hal hs20 HAT hno hop eR hlen
          unfold maxLen at hcap
          go_enter Tryz.func11, Tryz.ntmps11
          go_wp2_with (first
            | (go_at_call 19; refine (Calls.mono (HOP.out _) ?_); rintro e w1 ⟨rfl, b1⟩; have B1 : Hid (Below w.heap.size w w1) := hb0.out.trans (b1.mono hb0.out.size); have HCL : Hid (w1.cell? ⟨w.heap.size, 1, none⟩ = some (.string s)) := cell_keep (w := w.alloc (.cells #[.int .i64 2, .string s, .int .i64 n, .slice ao 0 cap] 29)) (blk_cell (i := 1) (heap_alloc_new w _) (by simp)) b1; have hcl := HCL.out; clear b1)
            | (go_at_call 20; refine (Calls.mono (HA1.out _) ?_); rintro e w2 ⟨rfl, b2⟩; have B2 : Hid (Below w.heap.size w w2) := B1.out.trans (b2.mono B1.out.size); clear b2))
          go_ret
          exact ⟨rfl, B2.out⟩
    have h2' : (k == 2) = false := beq_eq_false_iff_ne.2 h2
    have hk4 : k = 4 ∧ s.size ≤ 20 ∧ 1 ≤ ks.length ∧ ks.length ≤ 5 := by rcases hkinds with h | h | h <;> omega
    obtain ⟨rfl, hs20, hl1, hl5⟩ := hk4
    have hcap63 := hcap
    obtain ⟨NL, hNL⟩ : ∃ NL, NL = ks.length := ⟨_, rfl⟩
    have HNL : Hid (ks.length = NL) := hNL.symm
    rw [← hNL] at hl1 hl5 hlen hin ⊢
    clear hNL hkinds
    have hal := atomL_len s
    have HA1 : Hid _ := HAT.out hs20
    obtain ⟨W, hW⟩ : ∃ W, W = w.alloc (.cells #[.int .i64 4, .string s, .int .i64 n, .slice ao NL cap] 29) := ⟨_, rfl⟩
    have bW : Below w.heap.size w W := by rw [hW]; exact (Below.refl _ _).alloc (Nat.le_refl _) _
    have HKW : Hid (∀ wr, Below W.heap.size W wr → wr.heap[w.heap.size]? = some (.cells #[.int .i64 4, .string s, .int .i64 n, .slice ao NL cap] 29 (0, 0))) := fun wr hb => by
      have h0 : W.heap[w.heap.size]? = some (.cells #[.int .i64 4, .string s, .int .i64 n, .slice ao NL cap] 29 (0, 0)) := by rw [hW]; exact heap_alloc_new w _
      exact (hb.block _ (Array.getElem?_eq_some_iff.1 h0).1).trans h0
    have HBW : Hid (Below w.heap.size w W) := bW
    have HW : Hid (W = w.alloc (.cells #[.int .i64 4, .string s, .int .i64 n, .slice ao NL cap] 29)) := hW
    have HP : Hid (∀ wr, Calls Tryz.prog 21 #[.agg #[.int .i64 4, .string s, .int .i64 n, .slice ao NL cap], .string ⟨#[46]⟩, .int .i64 2] wr fun e w' => e = .returned (.bool (isPairB 4 s NL)) ∧ Below wr.heap.size wr w') := fun wr => s_pair 4 s n ao NL cap wr (by omega)
    cases hpr : isPairB 4 s NL with
    | true =>
      rw [hpr] at HP
      simp only [isPairB, Bool.and_eq_true, decide_eq_true_eq] at hpr
      obtain ⟨⟨_, rfl⟩, rfl⟩ := hpr
      obtain ⟨x2, y2, rfl⟩ := two_of HNL.out
      have HRW : Hid (∀ V, Below w.heap.size w V → Calls Tryz.prog 22 #[.agg #[.int .i64 4, .string cDot, .int .i64 n, .slice ao 2 cap]] V fun e w' => e = .returned (.string ⟨R.toArray⟩) ∧ Below V.heap.size V w') := fun V hb => by rw [eR]; exact s_row _ x2 y2 n rfl IH V _ d (TmIn.keep hb _ _ hin) hr hn
      clear hrow hr hn h1 h2 h3 hal hs20 HAT HA1 IH hl1 hl5 eR hlen hin bW
      unfold maxLen at hcap
      go_enter Tryz.func11, Tryz.ntmps11
      go_upto_region 1 with (fail)
      rw [← HW.out]
      clear hW
      obtain ⟨q0, q1, q2, q3, _⟩ := blk4 (HKW.out W (Below.refl _ _))
      go_wp2_with (first
        | (go_at_call 21; refine (Calls.mono (HP.out _) ?_); rintro e w1 ⟨rfl, b1⟩; have B1 : Hid (Below W.heap.size W w1) := b1; obtain ⟨y0, y1, y2, y3, _⟩ := blk4 (HKW.out w1 b1); clear b1)
        | (go_at_call 22; refine (Calls.mono (HRW.out _ (HBW.out.trans (B1.out.mono HBW.out.size))) ?_); rintro e w2 ⟨rfl, b2⟩; have B2 : Hid (Below W.heap.size W w2) := B1.out.trans (b2.mono B1.out.size); clear b2))
      go_ret
      exact ⟨rfl, HBW.out.trans (B2.out.mono HBW.out.size)⟩
    | false =>
      rw [hpr] at HP
      have hnp : NL = 2 → ¬ s = cDot := fun h e => by simp [isPairB, h, e] at hpr
      have HIN : Hid (∀ w, Calls Tryz.prog 23 #[.string s] w fun e w' => e = .returned (.tuple #[opV (infixP s), .bool (infixP s).isSome]) ∧ Below w.heap.size w w') := fun w => c_infix s w
      obtain ⟨o0, o1, o2, o3, eo⟩ := opV_agg (infixP s)
      rw [eo] at HIN
      clear eo hpr
      have hkid : ∀ u ∈ ks, ∀ V v, TmIn V u v → Calls Tryz.prog 11 #[v] V fun e w' => e = .returned (.string ⟨u.wr.toArray⟩) ∧ Below V.heap.size V w' := fun u hu V v h => by
        have := n_kid hu
        rw [n_mk] at hn
        exact IH u (tm_kid_lt hu) V v (d + 1) h (right_kid hr hu) (by omega)
      have HKID : Hid _ := hkid
      obtain ⟨b, off, rfl, hks⟩ := hrow (by intro e; subst e; have := HNL.out; simp at this; omega)
      have HKS : Hid (∀ V, Below w.heap.size w V → TmsIn V ks b off) := fun V hb => TmsIn.keep hb _ _ _ hks
      clear hkid hks hrow
      by_cases hinf : NL = 2 ∧ (infixP s).isSome = true
      · obtain ⟨rfl, hi⟩ := hinf
        obtain ⟨x2, y2, rfl⟩ := two_of HNL.out
        have hnd := hnp rfl
        rw [wr_infix hnd hi] at eR
        rw [hi] at HIN
        obtain ⟨c0, c1, c2, c3, d0, d1, d2, d3, hx, hy⟩ := two_at (HKS.out w (Below.refl _ _))
        have hsl := signL_len s
        have hxl : x2.wr.length + (signL s).length + y2.wr.length + 4 = R.length := by rw [eR]; simp only [List.length_cons, List.length_append, List.length_nil]; omega
        have HSG : Hid (signL s = if s.data.toList = [44] then [44] else atomL s) := rfl
        have HKX : Hid (∀ u, Below W.heap.size W u → u.cell? ⟨b, off, none⟩ = some c0 ∧ u.cell? ⟨b, off + 1, none⟩ = some c1 ∧ u.cell? ⟨b, off + 2, none⟩ = some c2 ∧ u.cell? ⟨b, off + 3, none⟩ = some c3 ∧ TmIn u x2 (.agg #[c0, c1, c2, c3])) := fun u hb => by
          have hb2 := HBW.out.trans (hb.mono HBW.out.size)
          exact ⟨cell_keep hx.1 hb2, cell_keep hx.2.1 hb2, cell_keep hx.2.2.1 hb2, cell_keep hx.2.2.2.1 hb2, TmIn.keep hb2 _ _ hx.2.2.2.2⟩
        have HKY : Hid (∀ u, Below W.heap.size W u → u.cell? ⟨b, off + 4, none⟩ = some d0 ∧ u.cell? ⟨b, off + 4 + 1, none⟩ = some d1 ∧ u.cell? ⟨b, off + 4 + 2, none⟩ = some d2 ∧ u.cell? ⟨b, off + 4 + 3, none⟩ = some d3 ∧ TmIn u y2 (.agg #[d0, d1, d2, d3])) := fun u hb => by
          have hb2 := HBW.out.trans (hb.mono HBW.out.size)
          exact ⟨cell_keep hy.1 hb2, cell_keep hy.2.1 hb2, cell_keep hy.2.2.1 hb2, cell_keep hy.2.2.2.1 hb2, TmIn.keep hb2 _ _ hy.2.2.2.2⟩
        have HCX : Hid (∀ V v, TmIn V x2 v → Calls Tryz.prog 11 #[v] V fun e w' => e = .returned (.string ⟨x2.wr.toArray⟩) ∧ Below V.heap.size V w') := HKID.out x2 (by simp)
        have HCY : Hid (∀ V v, TmIn V y2 v → Calls Tryz.prog 11 #[v] V fun e w' => e = .returned (.string ⟨y2.wr.toArray⟩) ∧ Below V.heap.size V w') := HKID.out y2 (by simp)
        have HER : Hid (R = 40 :: (x2.wr ++ (32 :: (signL s ++ (32 :: (y2.wr ++ [41])))))) := eR
        have HXL : Hid (x2.wr.length + (signL s).length + y2.wr.length + 4 = R.length) := hxl
        clear HKS HKID hx hy hxl eR hnp hnd hr hn h1 h2 h3 hs20 HAT IH hl1 hl5 bW hi hsl hlen
        generalize x2.wr = X at *
        generalize y2.wr = Y at *
        have HLW : Hid (w.heap.size < W.heap.size) := by show _ < _; rw [HW.out]; simp
        unfold maxLen at hcap
        by_cases hc : s = ⟨#[44]⟩
        · subst hc
          rw [show signL (⟨#[44]⟩ : ByteArray) = [44] from rfl] at HSG HXL HER
          obtain ⟨SG, hSG⟩ : ∃ SG : List UInt8, SG = [44] := ⟨_, rfl⟩
          rw [← hSG] at HXL HER
          have HSV : Hid ((⟨#[44]⟩ : ByteArray) = ⟨SG.toArray⟩) := by rw [hSG]; rfl
          clear hSG HSG
          go_enter Tryz.func11, Tryz.ntmps11
          go_upto_region 1 with (fail)
          rw [← HW.out]
          clear hW
          obtain ⟨q0, q1, q2, q3, _⟩ := blk4 (HKW.out W (Below.refl _ _))
          go_upto_region 21 with (first
            | (go_at_call 21; refine (Calls.mono (HP.out _) ?_); rintro e w1 ⟨rfl, b1⟩; have B1 : Hid (Below W.heap.size W w1) := b1; obtain ⟨p0, p1, p2, p3, _⟩ := blk4 (HKW.out w1 b1); clear b1)
            | (go_at_call 23; refine (Calls.mono (HIN.out _) ?_); rintro e w2 ⟨rfl, b2⟩; have B2 : Hid (Below W.heap.size W w2) := B1.out.trans (b2.mono B1.out.size); obtain ⟨r0, r1, r2, r3, _⟩ := blk4 (HKW.out w2 B2.out); have hlt2 : w.heap.size < w2.heap.size := Nat.lt_of_lt_of_le HLW.out B2.out.size; clear b2)
            | (go_at_call 20; refine (Calls.mono (HA1.out _) ?_); rintro e w3 ⟨rfl, b3⟩; have B3 : Hid (Below W.heap.size W w3) := (B2.out.alloc B2.out.size _).trans (b3.mono (by have := B2.out.size; simp; omega)); obtain ⟨z0, z1, z2, z3, _⟩ := blk4 (HKW.out w3 B3.out); clear b3))
          rw [HSV.out]
          have BL : Hid (∀ u, Below W.heap.size W (later w3 u)) := fun u => B3.out.trans ((later_below w3 u).mono B3.out.size)
          have hc3 : ∀ u, (later w3 u).cell? ⟨w.heap.size, 3, none⟩ = some (.slice (some ⟨b, off, none⟩) 2 cap) := fun u => (blk4 (HKW.out _ (BL.out u))).2.2.2.1
          have hx0 := fun u => (HKX.out _ (BL.out u)).1
          have hx1 := fun u => (HKX.out _ (BL.out u)).2.1
          have hx2 := fun u => (HKX.out _ (BL.out u)).2.2.1
          have hx3 := fun u => (HKX.out _ (BL.out u)).2.2.2.1
          have hy0 := fun u => (HKY.out _ (BL.out u)).1
          have hy1 := fun u => (HKY.out _ (BL.out u)).2.1
          have hy2 := fun u => (HKY.out _ (BL.out u)).2.2.1
          have hy3 := fun u => (HKY.out _ (BL.out u)).2.2.2.1
          have hadd1 : ∀ u, (Op.stringOp .add ⟨#[40]⟩ ⟨X.toArray⟩).run Tryz.prog u = .ok (.string ⟨(40 :: X).toArray⟩) u := add_txt [40] X (by have := HXL.out; have := HRL.out; simp only [List.length_cons, List.length_nil]; omega)
          have hadd2 : ∀ u, (Op.stringOp .add ⟨(40 :: X).toArray⟩ ⟨#[32]⟩).run Tryz.prog u = .ok (.string ⟨(40 :: X ++ [32]).toArray⟩) u := add_txt (40 :: X) [32] (by have := HXL.out; have := HRL.out; simp only [List.length_cons, List.length_nil]; omega)
          have hadd3 : ∀ u, (Op.stringOp .add ⟨(40 :: X ++ [32]).toArray⟩ ⟨SG.toArray⟩).run Tryz.prog u = .ok (.string ⟨(40 :: X ++ [32] ++ SG).toArray⟩) u := add_txt (40 :: X ++ [32]) SG (by have := HXL.out; have := HRL.out; simp only [List.length_append, List.length_cons, List.length_nil]; omega)
          have hadd4 : ∀ u, (Op.stringOp .add ⟨(40 :: X ++ [32] ++ SG).toArray⟩ ⟨#[32]⟩).run Tryz.prog u = .ok (.string ⟨(40 :: X ++ [32] ++ SG ++ [32]).toArray⟩) u := add_txt (40 :: X ++ [32] ++ SG) [32] (by have := HXL.out; have := HRL.out; simp only [List.length_append, List.length_cons, List.length_nil]; omega)
          have hadd5 : ∀ u, (Op.stringOp .add ⟨(40 :: X ++ [32] ++ SG ++ [32]).toArray⟩ ⟨Y.toArray⟩).run Tryz.prog u = .ok (.string ⟨(40 :: X ++ [32] ++ SG ++ [32] ++ Y).toArray⟩) u := add_txt (40 :: X ++ [32] ++ SG ++ [32]) Y (by have := HXL.out; have := HRL.out; simp only [List.length_append, List.length_cons, List.length_nil]; omega)
          have hadd6 : ∀ u, (Op.stringOp .add ⟨(40 :: X ++ [32] ++ SG ++ [32] ++ Y).toArray⟩ ⟨#[41]⟩).run Tryz.prog u = .ok (.string ⟨R.toArray⟩) u := by
            have := add_txt (40 :: X ++ [32] ++ SG ++ [32] ++ Y) [41] (by have := HXL.out; have := HRL.out; simp only [List.length_append, List.length_cons, List.length_nil]; omega)
            rwa [show 40 :: X ++ [32] ++ SG ++ [32] ++ Y ++ [41] = R by rw [HER.out]; simp] at this
          generalize 40 :: X ++ [32] ++ SG ++ [32] ++ Y = a5 at hadd5 hadd6
          generalize 40 :: X ++ [32] ++ SG ++ [32] = a4 at hadd4 hadd5
          generalize 40 :: X ++ [32] ++ SG = a3 at hadd3 hadd4
          generalize 40 :: X ++ [32] = a2 at hadd2 hadd3
          generalize 40 :: X = a1 at hadd1 hadd2
          refine wp_region_later (by kernel_rfl) (by kernel_rfl) ?_
          iterate 5 (go_big_quiet_step ((go_at_call 11; exact Calls.later_of_below (HCX.out _ _ (HKX.out _ (BL.out _)).2.2.2.2))))
          repeat (go_big_quiet_step ((go_at_call 11; exact Calls.later_of_below (HCY.out _ _ (HKY.out _ (BL.out _)).2.2.2.2))))
          refine wpQuiet_nil ?_
          rintro _ ⟨u, rfl⟩
          have hbf := BL.out u
          clear hc3 hx0 hx1 hx2 hx3 hy0 hy1 hy2 hy3
          go_wp2
          go_ret
          exact ⟨rfl, HBW.out.trans (hbf.mono HBW.out.size)⟩
        · rw [if_neg (by intro e; apply hc; apply ByteArray.ext; exact Array.toList_inj.1 e)] at HSG
          rw [HSG.out] at HXL HER
          have hc' := toL_ne (l := [44]) hc
          clear hc HSG
          generalize atomL s = SG at *
          go_enter Tryz.func11, Tryz.ntmps11
          go_upto_region 1 with (fail)
          rw [← HW.out]
          clear hW
          obtain ⟨q0, q1, q2, q3, _⟩ := blk4 (HKW.out W (Below.refl _ _))
          go_upto_region 21 with (first
            | (go_at_call 21; refine (Calls.mono (HP.out _) ?_); rintro e w1 ⟨rfl, b1⟩; have B1 : Hid (Below W.heap.size W w1) := b1; obtain ⟨p0, p1, p2, p3, _⟩ := blk4 (HKW.out w1 b1); clear b1)
            | (go_at_call 23; refine (Calls.mono (HIN.out _) ?_); rintro e w2 ⟨rfl, b2⟩; have B2 : Hid (Below W.heap.size W w2) := B1.out.trans (b2.mono B1.out.size); obtain ⟨r0, r1, r2, r3, _⟩ := blk4 (HKW.out w2 B2.out); have hlt2 : w.heap.size < w2.heap.size := Nat.lt_of_lt_of_le HLW.out B2.out.size; clear b2)
            | (go_at_call 20; refine (Calls.mono (HA1.out _) ?_); rintro e w3 ⟨rfl, b3⟩; have B3 : Hid (Below W.heap.size W w3) := (B2.out.alloc B2.out.size _).trans (b3.mono (by have := B2.out.size; simp; omega)); obtain ⟨z0, z1, z2, z3, _⟩ := blk4 (HKW.out w3 B3.out); clear b3))
          have BL : Hid (∀ u, Below W.heap.size W (later w3 u)) := fun u => B3.out.trans ((later_below w3 u).mono B3.out.size)
          have hc3 : ∀ u, (later w3 u).cell? ⟨w.heap.size, 3, none⟩ = some (.slice (some ⟨b, off, none⟩) 2 cap) := fun u => (blk4 (HKW.out _ (BL.out u))).2.2.2.1
          have hx0 := fun u => (HKX.out _ (BL.out u)).1
          have hx1 := fun u => (HKX.out _ (BL.out u)).2.1
          have hx2 := fun u => (HKX.out _ (BL.out u)).2.2.1
          have hx3 := fun u => (HKX.out _ (BL.out u)).2.2.2.1
          have hy0 := fun u => (HKY.out _ (BL.out u)).1
          have hy1 := fun u => (HKY.out _ (BL.out u)).2.1
          have hy2 := fun u => (HKY.out _ (BL.out u)).2.2.1
          have hy3 := fun u => (HKY.out _ (BL.out u)).2.2.2.1
          have hadd1 : ∀ u, (Op.stringOp .add ⟨#[40]⟩ ⟨X.toArray⟩).run Tryz.prog u = .ok (.string ⟨(40 :: X).toArray⟩) u := add_txt [40] X (by have := HXL.out; have := HRL.out; simp only [List.length_cons, List.length_nil]; omega)
          have hadd2 : ∀ u, (Op.stringOp .add ⟨(40 :: X).toArray⟩ ⟨#[32]⟩).run Tryz.prog u = .ok (.string ⟨(40 :: X ++ [32]).toArray⟩) u := add_txt (40 :: X) [32] (by have := HXL.out; have := HRL.out; simp only [List.length_cons, List.length_nil]; omega)
          have hadd3 : ∀ u, (Op.stringOp .add ⟨(40 :: X ++ [32]).toArray⟩ ⟨SG.toArray⟩).run Tryz.prog u = .ok (.string ⟨(40 :: X ++ [32] ++ SG).toArray⟩) u := add_txt (40 :: X ++ [32]) SG (by have := HXL.out; have := HRL.out; simp only [List.length_append, List.length_cons, List.length_nil]; omega)
          have hadd4 : ∀ u, (Op.stringOp .add ⟨(40 :: X ++ [32] ++ SG).toArray⟩ ⟨#[32]⟩).run Tryz.prog u = .ok (.string ⟨(40 :: X ++ [32] ++ SG ++ [32]).toArray⟩) u := add_txt (40 :: X ++ [32] ++ SG) [32] (by have := HXL.out; have := HRL.out; simp only [List.length_append, List.length_cons, List.length_nil]; omega)
          have hadd5 : ∀ u, (Op.stringOp .add ⟨(40 :: X ++ [32] ++ SG ++ [32]).toArray⟩ ⟨Y.toArray⟩).run Tryz.prog u = .ok (.string ⟨(40 :: X ++ [32] ++ SG ++ [32] ++ Y).toArray⟩) u := add_txt (40 :: X ++ [32] ++ SG ++ [32]) Y (by have := HXL.out; have := HRL.out; simp only [List.length_append, List.length_cons, List.length_nil]; omega)
          have hadd6 : ∀ u, (Op.stringOp .add ⟨(40 :: X ++ [32] ++ SG ++ [32] ++ Y).toArray⟩ ⟨#[41]⟩).run Tryz.prog u = .ok (.string ⟨R.toArray⟩) u := by
            have := add_txt (40 :: X ++ [32] ++ SG ++ [32] ++ Y) [41] (by have := HXL.out; have := HRL.out; simp only [List.length_append, List.length_cons, List.length_nil]; omega)
            rwa [show 40 :: X ++ [32] ++ SG ++ [32] ++ Y ++ [41] = R by rw [HER.out]; simp] at this
          generalize 40 :: X ++ [32] ++ SG ++ [32] ++ Y = a5 at hadd5 hadd6
          generalize 40 :: X ++ [32] ++ SG ++ [32] = a4 at hadd4 hadd5
          generalize 40 :: X ++ [32] ++ SG = a3 at hadd3 hadd4
          generalize 40 :: X ++ [32] = a2 at hadd2 hadd3
          generalize 40 :: X = a1 at hadd1 hadd2
          refine wp_region_later (by kernel_rfl) (by kernel_rfl) ?_
          iterate 5 (go_big_quiet_step ((go_at_call 11; exact Calls.later_of_below (HCX.out _ _ (HKX.out _ (BL.out _)).2.2.2.2))))
          repeat (go_big_quiet_step ((go_at_call 11; exact Calls.later_of_below (HCY.out _ _ (HKY.out _ (BL.out _)).2.2.2.2))))
          refine wpQuiet_nil ?_
          rintro _ ⟨u, rfl⟩
          have hbf := BL.out u
          clear hc3 hx0 hx1 hx2 hx3 hy0 hy1 hy2 hy3
          go_wp2
          go_ret
          exact ⟨rfl, HBW.out.trans (hbf.mono HBW.out.size)⟩
      · rw [wr_struct fun h => ⟨hnp (HNL.out ▸ h), by
          cases hi : (infixP s).isSome with
          | false => rfl
          | true => exact absurd ⟨HNL.out ▸ h, hi⟩ hinf⟩] at eR
        obtain ⟨ps, hps⟩ : ∃ ps, ps = ks.map Tm.wr := ⟨_, rfl⟩
        obtain ⟨P, hP⟩ : ∃ P, P = atomL s ++ [40] := ⟨_, rfl⟩
        rw [← hps] at eR
        have hpl : ps.length = ks.length := by rw [hps]; simp
        have HFIN : Hid (P ++ commaT ps NL ++ [41] = R) := by
          show _ = _
          rw [eR, hP, commaT, List.take_of_length_le (by rw [hpl, HNL.out]; exact Nat.le_refl _)]
          simp
        have HLE : Hid (∀ j, (P ++ commaT ps j).length + 1 ≤ 30000) := fun j => by
          have h1 := commaT_le (l := ps) j
          have h2 := HRL.out
          rw [eR] at h2
          rw [hP]
          simp only [List.length_append, List.length_cons, List.length_nil] at *
          omega
        have HST : Hid (∀ j (hj : j < ks.length), commaT ps (j + 1) = if j = 0 then ks[j].wr else commaT ps j ++ (44 :: ks[j].wr)) := fun j hj => by
          rw [commaT_succ (by rw [hpl]; exact hj)]
          subst hps
          simp
        have hadd : ∀ u, (Op.stringOp .add ⟨(atomL s).toArray⟩ ⟨#[40]⟩).run Tryz.prog u = .ok (.string ⟨P.toArray⟩) u := by
          rw [hP]; exact add_txt (atomL s) [40] (by simp only [List.length_cons, List.length_nil]; omega)
        have HLW : Hid (w.heap.size < W.heap.size) := by show _ < _; rw [HW.out]; simp
        have HL63 : Hid (cap ≤ maxLen) := hcap
        unfold maxLen at hcap
        cases hi : (infixP s).isSome with
        | true =>
          rw [hi] at HIN
          have hn2 : ((NL : Int) == 2) = false := beq_eq_false_iff_ne.2 (by intro e; exact hinf ⟨by omega, hi⟩)
          clear hps hpl hP eR hnp hinf hi hr hn h1 h2 h3 hs20 HAT IH bW hal hin
          go_enter Tryz.func11, Tryz.ntmps11
          go_upto_region 1 with (fail)
          rw [← HW.out]
          clear hW
          obtain ⟨q0, q1, q2, q3, _⟩ := blk4 (HKW.out W (Below.refl _ _))
          go_upto_region 23 with (first
            | (go_at_call 21; refine (Calls.mono (HP.out _) ?_); rintro e w1 ⟨rfl, b1⟩; have B1 : Hid (Below W.heap.size W w1) := b1; obtain ⟨p0, p1, p2, p3, _⟩ := blk4 (HKW.out w1 b1); clear b1)
            | (go_at_call 23; refine (Calls.mono (HIN.out _) ?_); rintro e w2 ⟨rfl, b2⟩; have B2 : Hid (Below W.heap.size W w2) := B1.out.trans (b2.mono B1.out.size); obtain ⟨r0, r1, r2, r3, _⟩ := blk4 (HKW.out w2 B2.out); have hlt2 : w.heap.size < w2.heap.size := Nat.lt_of_lt_of_le HLW.out B2.out.size; clear b2)
            | (go_at_call 20; refine (Calls.mono (HA1.out _) ?_); rintro e w3 ⟨rfl, b3⟩; have B3 : Hid (Below W.heap.size W w3) := (B2.out.alloc B2.out.size _).trans (b3.mono (by have := B2.out.size; simp; omega)); clear b3))
          clear q0 q1 q2 q3 p0 p1 p2 p3 r0 r1 r2 r3 hadd hlt2
          go_wp2
          go_loopw [6, 7] (fun v6 v7 wr => ∃ j : Nat, j ≤ NL ∧ v7 = .int .i64 (j : Int) ∧ v6 = .string ⟨(P ++ commaT ps j).toArray⟩ ∧ Hid (Below W.heap.size W wr)) (fun _ v7 _ => NL - (intOf v7).toNat)
          case atStart => exact ⟨0, Nat.zero_le _, rfl, by unfold commaT; rw [List.take_zero]; simp only [commaL, List.append_nil], B3.out⟩
          case round =>
            obtain ⟨j, hj, rfl, rfl, HB⟩ := hrel
            obtain ⟨q0, q1, q2, q3, _⟩ := blk4 (HKW.out _ HB.out)
            have hle := HLE.out j
            by_cases hlt : j < NL
            · have hjk : j < ks.length := by have := HNL.out; omega
              obtain ⟨c0, c1, c2, c3, h0, h1, h2, h3, ht⟩ := (HKS.out _ (HBW.out.trans (HB.out.mono HBW.out.size))).at j hjk
              have hin := ht
              have hst := HST.out j hjk
              have hle2 := HLE.out (j + 1)
              have HC : Hid _ := HKID.out ks[j] (List.getElem_mem hjk) wr _ ht
              generalize ks[j].wr = X at *
              clear ht hin
              by_cases hj0 : j = 0
              · subst hj0
                rw [if_pos rfl] at hst
                have hadd : ∀ u, (Op.stringOp .add ⟨(P ++ commaT ps 0).toArray⟩ ⟨X.toArray⟩).run Tryz.prog u = .ok (.string ⟨(P ++ commaT ps (0 + 1)).toArray⟩) u := by
                  have e0 : commaT ps 0 = [] := by unfold commaT; rw [List.take_zero]; rfl
                  have := add_txt (P ++ commaT ps 0) X (by rw [hst] at hle2; rw [e0]; simp only [List.length_append, List.length_nil] at *; omega)
                  rw [hst]
                  rw [e0, List.append_nil] at this ⊢
                  exact this
                obtain ⟨a2, ha⟩ : ∃ a2, a2 = P ++ commaT ps (0 + 1) := ⟨_, rfl⟩
                rw [← ha] at hadd
                have HA2 : Hid (a2 = P ++ commaT ps (0 + 1)) := ha
                generalize P ++ commaT ps 0 = a1 at *
                simp only [Nat.zero_mul, Nat.add_zero] at h0 h1 h2 h3
                clear hst hle hle2 hjk ha
                go_wp2_with (go_at_call 11; refine (Calls.mono HC.out ?_); rintro e w4 ⟨rfl, b4⟩; have B4 : Hid (Below W.heap.size W w4) := HB.out.trans (b4.mono HB.out.size); clear b4)
                go_roundw
                case rel => exact ⟨1, by omega, by go_num, by rw [HA2.out], B4.out⟩
                case measure => simp [intOf]; omega
              · rw [if_neg hj0] at hst
                have hjp : 0 < j := by omega
                have hadd1 : ∀ u, (Op.stringOp .add ⟨(P ++ commaT ps j).toArray⟩ ⟨#[44]⟩).run Tryz.prog u = .ok (.string ⟨(P ++ commaT ps j ++ [44]).toArray⟩) u := add_txt (P ++ commaT ps j) [44] (by simp only [List.length_append, List.length_cons, List.length_nil] at *; omega)
                have hadd2 : ∀ u, (Op.stringOp .add ⟨(P ++ commaT ps j ++ [44]).toArray⟩ ⟨X.toArray⟩).run Tryz.prog u = .ok (.string ⟨(P ++ commaT ps (j + 1)).toArray⟩) u := by
                  have := add_txt (P ++ commaT ps j ++ [44]) X (by rw [hst] at hle2; simp only [List.length_append, List.length_cons, List.length_nil] at *; omega)
                  rw [show P ++ commaT ps j ++ [44] ++ X = P ++ commaT ps (j + 1) by rw [hst]; simp] at this
                  exact this
                obtain ⟨a3, ha3⟩ : ∃ a3, a3 = P ++ commaT ps (j + 1) := ⟨_, rfl⟩
                rw [← ha3] at hadd2
                have HA3 : Hid (a3 = P ++ commaT ps (j + 1)) := ha3
                generalize P ++ commaT ps j ++ [44] = a2 at *
                generalize P ++ commaT ps j = a1 at *
                clear hst hle hle2 hjk hj0 ha3
                go_wp2_with (go_at_call 11; refine (Calls.mono HC.out ?_); rintro e w4 ⟨rfl, b4⟩; have B4 : Hid (Below W.heap.size W w4) := HB.out.trans (b4.mono HB.out.size); clear b4)
                go_roundw
                case rel => exact ⟨j + 1, by omega, by go_num, by rw [HA3.out], B4.out⟩
                case measure => simp [intOf]; omega
            · obtain rfl : j = NL := by omega
              have hadd : ∀ u, (Op.stringOp .add ⟨(P ++ commaT ps j).toArray⟩ ⟨#[41]⟩).run Tryz.prog u = .ok (.string ⟨R.toArray⟩) u := by
                have h1 := HFIN.out
                have := add_txt (P ++ commaT ps j) [41] (by simp only [List.length_cons, List.length_nil]; omega)
                rwa [h1] at this
              generalize P ++ commaT ps j = a1 at *
              clear hle
              go_wp2
              go_ret
              exact ⟨rfl, HBW.out.trans (HB.out.mono HBW.out.size)⟩
        | false =>
          rw [hi] at HIN
          clear hps hpl hP eR hnp hinf hi hr hn h1 h2 h3 hs20 HAT IH bW hal hin
          go_enter Tryz.func11, Tryz.ntmps11
          go_upto_region 1 with (fail)
          rw [← HW.out]
          clear hW
          obtain ⟨q0, q1, q2, q3, _⟩ := blk4 (HKW.out W (Below.refl _ _))
          go_upto_region 23 with (first
            | (go_at_call 21; refine (Calls.mono (HP.out _) ?_); rintro e w1 ⟨rfl, b1⟩; have B1 : Hid (Below W.heap.size W w1) := b1; obtain ⟨p0, p1, p2, p3, _⟩ := blk4 (HKW.out w1 b1); clear b1)
            | (go_at_call 23; refine (Calls.mono (HIN.out _) ?_); rintro e w2 ⟨rfl, b2⟩; have B2 : Hid (Below W.heap.size W w2) := B1.out.trans (b2.mono B1.out.size); obtain ⟨r0, r1, r2, r3, _⟩ := blk4 (HKW.out w2 B2.out); have hlt2 : w.heap.size < w2.heap.size := Nat.lt_of_lt_of_le HLW.out B2.out.size; clear b2)
            | (go_at_call 20; refine (Calls.mono (HA1.out _) ?_); rintro e w3 ⟨rfl, b3⟩; have B3 : Hid (Below W.heap.size W w3) := (B2.out.alloc B2.out.size _).trans (b3.mono (by have := B2.out.size; simp; omega)); clear b3))
          clear q0 q1 q2 q3 p0 p1 p2 p3 r0 r1 r2 r3 hadd hlt2
          go_wp2
          go_loopw [6, 7] (fun v6 v7 wr => ∃ j : Nat, j ≤ NL ∧ v7 = .int .i64 (j : Int) ∧ v6 = .string ⟨(P ++ commaT ps j).toArray⟩ ∧ Hid (Below W.heap.size W wr)) (fun _ v7 _ => NL - (intOf v7).toNat)
          case atStart => exact ⟨0, Nat.zero_le _, rfl, by unfold commaT; rw [List.take_zero]; simp only [commaL, List.append_nil], B3.out⟩
          case round =>
            obtain ⟨j, hj, rfl, rfl, HB⟩ := hrel
            obtain ⟨q0, q1, q2, q3, _⟩ := blk4 (HKW.out _ HB.out)
            have hle := HLE.out j
            by_cases hlt : j < NL
            · have hjk : j < ks.length := by have := HNL.out; omega
              obtain ⟨c0, c1, c2, c3, h0, h1, h2, h3, ht⟩ := (HKS.out _ (HBW.out.trans (HB.out.mono HBW.out.size))).at j hjk
              have hin := ht
              have hst := HST.out j hjk
              have hle2 := HLE.out (j + 1)
              have HC : Hid _ := HKID.out ks[j] (List.getElem_mem hjk) wr _ ht
              generalize ks[j].wr = X at *
              clear ht hin
              by_cases hj0 : j = 0
              · subst hj0
                rw [if_pos rfl] at hst
                have hadd : ∀ u, (Op.stringOp .add ⟨(P ++ commaT ps 0).toArray⟩ ⟨X.toArray⟩).run Tryz.prog u = .ok (.string ⟨(P ++ commaT ps (0 + 1)).toArray⟩) u := by
                  have e0 : commaT ps 0 = [] := by unfold commaT; rw [List.take_zero]; rfl
                  have := add_txt (P ++ commaT ps 0) X (by rw [hst] at hle2; rw [e0]; simp only [List.length_append, List.length_nil] at *; omega)
                  rw [hst]
                  rw [e0, List.append_nil] at this ⊢
                  exact this
                obtain ⟨a2, ha⟩ : ∃ a2, a2 = P ++ commaT ps (0 + 1) := ⟨_, rfl⟩
                rw [← ha] at hadd
                have HA2 : Hid (a2 = P ++ commaT ps (0 + 1)) := ha
                generalize P ++ commaT ps 0 = a1 at *
                simp only [Nat.zero_mul, Nat.add_zero] at h0 h1 h2 h3
                clear hst hle hle2 hjk ha
                go_wp2_with (go_at_call 11; refine (Calls.mono HC.out ?_); rintro e w4 ⟨rfl, b4⟩; have B4 : Hid (Below W.heap.size W w4) := HB.out.trans (b4.mono HB.out.size); clear b4)
                go_roundw
                case rel => exact ⟨1, by omega, by go_num, by rw [HA2.out], B4.out⟩
                case measure => simp [intOf]; omega
              · rw [if_neg hj0] at hst
                have hjp : 0 < j := by omega
                have hadd1 : ∀ u, (Op.stringOp .add ⟨(P ++ commaT ps j).toArray⟩ ⟨#[44]⟩).run Tryz.prog u = .ok (.string ⟨(P ++ commaT ps j ++ [44]).toArray⟩) u := add_txt (P ++ commaT ps j) [44] (by simp only [List.length_append, List.length_cons, List.length_nil] at *; omega)
                have hadd2 : ∀ u, (Op.stringOp .add ⟨(P ++ commaT ps j ++ [44]).toArray⟩ ⟨X.toArray⟩).run Tryz.prog u = .ok (.string ⟨(P ++ commaT ps (j + 1)).toArray⟩) u := by
                  have := add_txt (P ++ commaT ps j ++ [44]) X (by rw [hst] at hle2; simp only [List.length_append, List.length_cons, List.length_nil] at *; omega)
                  rw [show P ++ commaT ps j ++ [44] ++ X = P ++ commaT ps (j + 1) by rw [hst]; simp] at this
                  exact this
                obtain ⟨a3, ha3⟩ : ∃ a3, a3 = P ++ commaT ps (j + 1) := ⟨_, rfl⟩
                rw [← ha3] at hadd2
                have HA3 : Hid (a3 = P ++ commaT ps (j + 1)) := ha3
                generalize P ++ commaT ps j ++ [44] = a2 at *
                generalize P ++ commaT ps j = a1 at *
                clear hst hle hle2 hjk hj0 ha3
                go_wp2_with (go_at_call 11; refine (Calls.mono HC.out ?_); rintro e w4 ⟨rfl, b4⟩; have B4 : Hid (Below W.heap.size W w4) := HB.out.trans (b4.mono HB.out.size); clear b4)
                go_roundw
                case rel => exact ⟨j + 1, by omega, by go_num, by rw [HA3.out], B4.out⟩
                case measure => simp [intOf]; omega
            · obtain rfl : j = NL := by omega
              have hadd : ∀ u, (Op.stringOp .add ⟨(P ++ commaT ps j).toArray⟩ ⟨#[41]⟩).run Tryz.prog u = .ok (.string ⟨R.toArray⟩) u := by
                have h1 := HFIN.out
                have := add_txt (P ++ commaT ps j) [41] (by simp only [List.length_cons, List.length_nil]; omega)
                rwa [h1] at this
              generalize P ++ commaT ps j = a1 at *
              clear hle
              go_wp2
              go_ret
              exact ⟨rfl, HBW.out.trans (HB.out.mono HBW.out.size)⟩

theorem s_write_any (t : Tm) : WsOk t := s_write _ t (Nat.lt_succ_self _)
end Go.Proofs.YtenmhpalpfppmaoGreatDoor

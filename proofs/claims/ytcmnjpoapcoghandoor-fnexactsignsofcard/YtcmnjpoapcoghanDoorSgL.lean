/- laws.eqSign, eqSignS, markSignS, heldSignS. -/
import Derived.Test.YtcmnjpoapcoghanDoorSgI
import Derived.Test.YtcmnjpoapcoghanDoorSgV
import Derived.Test.YtcmnjpoapcoghanDoorMkText
import Derived.Test.YtcmnjpoapcoghanDoorRegFact
import Derived.Deep.DeepCutAuto
namespace Go.Proofs.YtcmnjpoapcoghanDoor
open Go.RowKit

abbrev sgAgg (s : Sg) : Value := .agg #[.int .i64 s.kind, .string s.text, .int .i64 s.num, .int .i64 (s.at_ : Int), .bool s.near]

theorem eq_sign (s : Sg) (w : World) :
    Calls Tryd.prog 13 #[sgAgg s, sgAgg s] w fun e w' => e = .returned (.bool true) ∧ Below w.heap.size w w' := by
  obtain ⟨k, x, n, a, b⟩ := s
  have hb : Below w.heap.size w ((w.alloc (.cells #[.int .i64 k, .string x, .int .i64 n, .int .i64 (a : Int), .bool b] 30)).alloc (.cells #[.int .i64 k, .string x, .int .i64 n, .int .i64 (a : Int), .bool b] 30)) := ((Below.refl _ _).alloc (Nat.le_refl _) _).alloc (by simp) _
  have HB : Hid _ := hb
  clear hb
  go_enter Tryd.func13, Tryd.ntmps13
  go_wp2
  go_ret
  exact ⟨rfl, HB.out⟩

theorem sgsV_set (M : List Sg) (j k : Nat) (s : Sg) (x : Value) (hj : j < M.length) (hk : k < 5) (hs : sgCells s = (sgCells M[j]).set k x) : sgsV (M.set j s) = (sgsV M).set (j * 5 + k) x := by
  induction M generalizing j with
  | nil => simp at hj
  | cons m r ih =>
    have e : ∀ (y : Sg) (l : List Sg), sgsV (y :: l) = sgCells y ++ sgsV l := fun y l => by simp [sgsV]
    have hl : (sgCells m).length = 5 := rfl
    cases j with
    | zero =>
      simp only [List.set_cons_zero, List.getElem_cons_zero] at hs ⊢
      rw [e, e, List.set_append_left _ _ (by omega), hs]; simp
    | succ j =>
      simp only [List.set_cons_succ, List.getElem_cons_succ] at hs ⊢
      rw [e, e, ih j (by simpa using hj) hs, List.set_append_right _ _ (by omega), hl, show (j + 1) * 5 + k - 5 = j * 5 + k by omega]

theorem SgRow.setF {w : World} {B g cap j k : Nat} {M : List Sg} {s : Sg} {x : Value} (h : SgRow w B M (.slice (some ⟨g, 0, none⟩) M.length cap)) (hj : j < M.length) (hk : k < 5) (hs : sgCells s = (sgCells M[j]).set k x) :
    SgRow (w.setCell ⟨g, j * 5 + k, none⟩ x) B (M.set j s) (.slice (some ⟨g, 0, none⟩) M.length cap) := by
  refine ⟨by rw [sgsV_len], ?_⟩
  rcases h.2 with ⟨e, _⟩ | ⟨g', cap', cur, e, hb, hh, h1, h2, h3, h4⟩
  · cases e
  · simp only [Value.slice.injEq, Option.some.injEq, Addr.mk.injEq] at e
    obtain ⟨⟨rfl, _⟩, _, rfl⟩ := e
    refine Or.inr ⟨g, cap, _, by rw [List.length_set], hb, set_at hh x, by rw [List.length_set]; exact h1, h2, by simpa using h3, ?_⟩
    rw [List.length_set, sgsV_set M j k s x hj hk hs, ← h4]
    rw [Array.toList_setIfInBounds, List.take_set]

theorem SgRow.setN {w : World} {B g n cap j k : Nat} {M : List Sg} {s : Sg} {x : Value} (h : SgRow w B M (.slice (some ⟨g, 0, none⟩) n cap)) (hn : M.length = n) (hj : j < n) (hk : k < 5) (hs : sgCells s = (sgCells (M[j]'(by omega))).set k x) :
    SgRow (w.setCell ⟨g, j * 5 + k, none⟩ x) B (M.set j s) (.slice (some ⟨g, 0, none⟩) n cap) := by
  subst hn; exact h.setF hj hk hs
structure OutV (v : Value) (w w' : World) : Prop where
  os : w'.os = w.os
  tape : w'.tape = w.tape
  output : w'.output = w.output
  size : w.heap.size ≤ w'.heap.size
  block : ∀ k, k < w.heap.size → v.ownBlock ≠ some k → w'.heap[k]? = w.heap[k]?
theorem OutV.refl (v : Value) (w : World) : OutV v w w := ⟨rfl, rfl, rfl, Nat.le_refl _, fun _ _ _ => rfl⟩
theorem OutV.trans {v : Value} {a b c : World} (h : OutV v a b) (k : OutV v b c) : OutV v a c :=
  ⟨k.os.trans h.os, k.tape.trans h.tape, k.output.trans h.output, Nat.le_trans h.size k.size, fun i hi hv => (k.block i (Nat.lt_of_lt_of_le hi h.size) hv).trans (h.block i hi hv)⟩
theorem OutV.of_below {v : Value} {w w' : World} (h : Below w.heap.size w w') : OutV v w w' := ⟨h.os, h.tape, h.output, h.size, fun k hk _ => h.block k hk⟩
theorem OutV.set {g l c i : Nat} (w : World) (x : Value) : OutV (.slice (some ⟨g, 0, none⟩) l c) w (w.setCell ⟨g, i, none⟩ x) :=
  ⟨rfl, rfl, rfl, by rw [set_size]; exact Nat.le_refl _, fun k _ hk => set_oth x (fun e => hk (by rw [e]; rfl))⟩

def markSg (c : Nat) : Sg := ⟨(c : Int), ⟨(mkS (c + 1)).toArray⟩, (c : Int) + 1 + 1, c + 3, (((c : Int) + 1 + 1 + 1 + 1) % 3 == 0)⟩
def marksS (c n : Nat) : List Sg := (List.range n).map fun j => markSg (c + 5 * j)
def halfS (c : Nat) (L : List Sg) (j : Nat) : List Sg := marksS c j ++ L.drop j
theorem halfS_zero (c : Nat) (L : List Sg) : halfS c L 0 = L := by simp [halfS, marksS]
theorem halfS_all (c : Nat) (L : List Sg) : halfS c L L.length = marksS c L.length := by simp [halfS]
theorem halfS_len (c : Nat) (L : List Sg) (j : Nat) (h : j ≤ L.length) : (halfS c L j).length = L.length := by simp [halfS, marksS]; omega
theorem halfS_step (c : Nat) (L : List Sg) (j : Nat) (h : j < L.length) : (halfS c L j).set j (markSg (c + 5 * j)) = halfS c L (j + 1) := by
  unfold halfS
  have hl : (marksS c j).length = j := by simp [marksS]
  rw [List.set_append_right _ _ (by omega), hl, Nat.sub_self]
  have e : marksS c (j + 1) = marksS c j ++ [markSg (c + 5 * j)] := by simp [marksS, List.range_succ]
  rw [e, List.append_assoc]
  congr 1
  rw [List.drop_eq_getElem_cons h]; rfl
theorem marksS_at (c n j : Nat) (h : j < n) : (marksS c n)[j]'(by simpa [marksS] using h) = markSg (c + 5 * j) := by simp [marksS]

set_option maxHeartbeats 4000000 in
set_option maxRecDepth 20000 in
theorem mark_signs (L : List Sg) (w : World) (B c : Nat) (v : Value) (h : SgRow w B L v) (hL : L.length ≤ 1048576) (hc0 : 0 < c) (hc : c ≤ 1048576) :
    Calls Tryd.prog 7 #[v, .int .i64 (c : Int)] w fun e w' => e = .returned (.int .i64 ((c + 5 * L.length : Nat) : Int)) ∧ SgRow w' B (marksS c L.length) v ∧ OutV v w w' := by
  by_cases h0 : L = []
  · subst h0
    obtain ⟨ao, cp, rfl, _, _⟩ := h.shape
    have HS : Hid (SgRow w B [] (.slice ao ([] : List Sg).length cp)) := h
    clear h
    go_enter Tryd.func7, Tryd.ntmps7
    go_wp2
    refine wp_loop_rounds 1 ?_
    rw [rounds_succ]
    go_wp2
    go_ret
    exact ⟨by simp, HS.out, OutV.refl _ _⟩
  · obtain ⟨g, cap, rfl, hBg, hgw, hLc, hcap, _⟩ := h.cells h0
    have HS : Hid (SgRow w B (halfS c L 0) (.slice (some ⟨g, 0, none⟩) L.length cap)) := by rw [halfS_zero]; exact h
    obtain ⟨NL, hNL⟩ : ∃ NL, NL = L.length := ⟨_, rfl⟩
    rw [← hNL] at HS hL hLc ⊢
    have HNL : Hid (NL = L.length) := hNL
    clear h hNL
    unfold maxLen at hcap
    go_enter Tryd.func7, Tryd.ntmps7
    go_wp2
    go_loopw [1, 5] (fun vk vi wr => ∃ j : Nat, j ≤ NL ∧ vi = .int .i64 (j : Int) ∧ vk = .int .i64 ((c + 5 * j : Nat) : Int) ∧ Hid (SgRow wr B (halfS c L j) (.slice (some ⟨g, 0, none⟩) NL cap)) ∧ Hid (OutV (.slice (some ⟨g, 0, none⟩) NL cap) w wr)) (fun _ vi _ => NL - (intOf vi).toNat)
    case atStart => exact ⟨0, Nat.zero_le _, rfl, by simp, HS, OutV.refl _ _⟩
    case round =>
      obtain ⟨j, hj, rfl, rfl, HR, HO⟩ := hrel
      clear HS
      by_cases hlt : j < NL
      · obtain ⟨cj, hcj⟩ : ∃ cj, cj = c + 5 * j := ⟨_, rfl⟩
        rw [← hcj]
        have hcj0 : 0 < cj := by omega
        have hcj1 : cj ≤ 6291456 := by omega
        have hML : (halfS c L j).length = NL := by rw [halfS_len c L j (by have := HNL.out; omega)]; exact HNL.out.symm
        obtain ⟨M, hM⟩ : ∃ M, M = halfS c L j := ⟨_, rfl⟩
        rw [← hM] at HR hML
        have HSTEP : Hid (M.set j (markSg cj) = halfS c L (j + 1)) := by show _ = _; rw [hM, hcj]; exact halfS_step c L j (by have := HNL.out; omega)
        have HCJ : Hid (cj = c + 5 * j) := hcj
        clear hM hcj
        have HML : Hid (M.length = NL) := hML
        clear hML
        have hjM : j < M.length := by have := HML.out; omega
        obtain ⟨s0, hs0⟩ : ∃ s0, s0 = M[j] := ⟨_, rfl⟩
        have HS0 : Hid (M[j] = s0) := hs0.symm
        obtain ⟨q0, q1, q2, q3, q4, qf⟩ := HR.out.at HML.out hlt
        have f0 := qf (j * 5)
        clear hs0
        obtain ⟨k0, x0, n0, a0, b0⟩ := s0
        obtain ⟨mt, hmt⟩ : ∃ mt : ByteArray, mt = ⟨(mkS (cj + 1)).toArray⟩ := ⟨_, rfl⟩
        have HMK : Hid (∀ w, Calls Tryd.prog 14 #[.int .i64 ((cj : Int) + 1)] w fun e w' => e = .returned (.string mt) ∧ Below w.heap.size w w') := fun w => by
          have := mark_any (cj + 1) w (by omega) (by omega)
          rw [hmt]
          rwa [show ((cj + 1 : Nat) : Int) = (cj : Int) + 1 by omega] at this
        have HMT : Hid (mt = ⟨(mkS (cj + 1)).toArray⟩) := hmt
        clear hmt
        go_upto_region 6 with fail
        obtain ⟨W1, hW1⟩ : ∃ W1, W1 = wr.setCell ⟨g, j * 5, none⟩ (.int .i64 (cj : Int)) := ⟨_, rfl⟩
        rw [← hW1]
        have HR1 : Hid (SgRow W1 B (M.set j ⟨(cj : Int), x0, n0, a0, b0⟩) (.slice (some ⟨g, 0, none⟩) NL cap)) := by
          rw [hW1]
          have := HR.out.setN (j := j) (k := 0) (s := ⟨(cj : Int), x0, n0, a0, b0⟩) (x := .int .i64 (cj : Int)) HML.out hlt (by omega) (by rw [HS0.out]; rfl)
          exact this
        have HO1 : Hid (OutV (.slice (some ⟨g, 0, none⟩) NL cap) w W1) := by rw [hW1]; exact HO.out.trans (OutV.set _ _)
        clear hW1
        clear q0 q1 q2 q3 q4 qf f0 HR HO
        have hjs := HR1.out
        go_upto_region 8 with (go_at_call 14; refine (HMK.out _).mono ?_; rintro e w2 ⟨rfl, hb2⟩; have HR1b : Hid (SgRow w2 B (M.set j ⟨(cj : Int), x0, n0, a0, b0⟩) (.slice (some ⟨g, 0, none⟩) NL cap)) := hjs.keep hb2; have HO1b : Hid (OutV (.slice (some ⟨g, 0, none⟩) NL cap) w w2) := HO1.out.trans (OutV.of_below hb2); clear hb2; obtain ⟨q0, q1, q2, q3, q4, qf⟩ := HR1b.out.at (j := j) (by rw [List.length_set]; exact HML.out) hlt; simp only [List.getElem_set_self] at q0 q1 q2 q3 q4; have f0 := qf (j * 5 + 1))
        clear q0 q1 q2 q3 q4 qf f0 hjs HMK
        obtain ⟨W2, hW2⟩ : ∃ W2, W2 = w2.setCell ⟨g, j * 5 + 1, none⟩ (.string mt) := ⟨_, rfl⟩
        rw [← hW2]
        have HR2 : Hid (SgRow W2 B (M.set j ⟨(cj : Int), mt, n0, a0, b0⟩) (.slice (some ⟨g, 0, none⟩) NL cap)) := by
          rw [hW2]
          have := HR1b.out.setN (j := j) (k := 1) (s := ⟨(cj : Int), mt, n0, a0, b0⟩) (x := .string mt) (by rw [List.length_set]; exact HML.out) hlt (by omega) (by simp only [List.getElem_set_self]; rfl)
          rw [List.set_set] at this; exact this
        have HO2 : Hid (OutV (.slice (some ⟨g, 0, none⟩) NL cap) w W2) := by rw [hW2]; exact HO1b.out.trans (OutV.set _ _)
        clear hW2
        obtain ⟨q0, q1, q2, q3, q4, qf⟩ := HR2.out.at (j := j) (by rw [List.length_set]; exact HML.out) hlt
        simp only [List.getElem_set_self] at q0 q1 q2 q3 q4
        have f0 := qf (j * 5 + 2)
        go_upto_region 10 with fail
        clear q0 q1 q2 q3 q4 qf f0
        obtain ⟨W3, hW3⟩ : ∃ W3, W3 = W2.setCell ⟨g, j * 5 + 2, none⟩ (.int .i64 ((cj : Int) + 1 + 1)) := ⟨_, rfl⟩
        rw [← hW3]
        have HR3 : Hid (SgRow W3 B (M.set j ⟨(cj : Int), mt, (cj : Int) + 1 + 1, a0, b0⟩) (.slice (some ⟨g, 0, none⟩) NL cap)) := by
          rw [hW3]
          have := HR2.out.setN (j := j) (k := 2) (s := ⟨(cj : Int), mt, (cj : Int) + 1 + 1, a0, b0⟩) (x := .int .i64 ((cj : Int) + 1 + 1)) (by rw [List.length_set]; exact HML.out) hlt (by omega) (by simp only [List.getElem_set_self]; rfl)
          rw [List.set_set] at this; exact this
        have HO3 : Hid (OutV (.slice (some ⟨g, 0, none⟩) NL cap) w W3) := by rw [hW3]; exact HO2.out.trans (OutV.set _ _)
        clear hW3
        obtain ⟨q0, q1, q2, q3, q4, qf⟩ := HR3.out.at (j := j) (by rw [List.length_set]; exact HML.out) hlt
        simp only [List.getElem_set_self] at q0 q1 q2 q3 q4
        have f0 := qf (j * 5 + 3)
        go_upto_region 12 with fail
        clear q0 q1 q2 q3 q4 qf f0
        obtain ⟨W4, hW4⟩ : ∃ W4, W4 = W3.setCell ⟨g, j * 5 + 3, none⟩ (.int .i64 ((cj : Int) + 1 + 1 + 1)) := ⟨_, rfl⟩
        rw [← hW4]
        have HR4 : Hid (SgRow W4 B (M.set j ⟨(cj : Int), mt, (cj : Int) + 1 + 1, cj + 3, b0⟩) (.slice (some ⟨g, 0, none⟩) NL cap)) := by
          rw [hW4]
          have := HR3.out.setN (j := j) (k := 3) (s := ⟨(cj : Int), mt, (cj : Int) + 1 + 1, cj + 3, b0⟩) (x := .int .i64 ((cj : Int) + 1 + 1 + 1)) (by rw [List.length_set]; exact HML.out) hlt (by omega) (by simp only [List.getElem_set_self]; rfl)
          rw [List.set_set] at this; exact this
        have HO4 : Hid (OutV (.slice (some ⟨g, 0, none⟩) NL cap) w W4) := by rw [hW4]; exact HO3.out.trans (OutV.set _ _)
        clear hW4
        obtain ⟨q0, q1, q2, q3, q4, qf⟩ := HR4.out.at (j := j) (by rw [List.length_set]; exact HML.out) hlt
        simp only [List.getElem_set_self] at q0 q1 q2 q3 q4
        have f0 := qf (j * 5 + 4)
        go_upto_region 13 with fail
        clear q0 q1 q2 q3 q4 qf f0
        obtain ⟨W5, hW5⟩ : ∃ W5, W5 = W4.setCell ⟨g, j * 5 + 4, none⟩ (.bool (((cj : Int) + 1 + 1 + 1 + 1) % 3 == 0)) := ⟨_, rfl⟩
        rw [← hW5]
        have HR5 : Hid (SgRow W5 B (M.set j ⟨(cj : Int), mt, (cj : Int) + 1 + 1, cj + 3, (((cj : Int) + 1 + 1 + 1 + 1) % 3 == 0)⟩) (.slice (some ⟨g, 0, none⟩) NL cap)) := by
          rw [hW5]
          have := HR4.out.setN (j := j) (k := 4) (s := ⟨(cj : Int), mt, (cj : Int) + 1 + 1, cj + 3, (((cj : Int) + 1 + 1 + 1 + 1) % 3 == 0)⟩) (x := .bool (((cj : Int) + 1 + 1 + 1 + 1) % 3 == 0)) (by rw [List.length_set]; exact HML.out) hlt (by omega) (by simp only [List.getElem_set_self]; rfl)
          rw [List.set_set] at this; exact this
        have HO5 : Hid (OutV (.slice (some ⟨g, 0, none⟩) NL cap) w W5) := by rw [hW5]; exact HO4.out.trans (OutV.set _ _)
        have HEND : Hid (SgRow W5 B (halfS c L (j + 1)) (.slice (some ⟨g, 0, none⟩) NL cap)) := by
          rw [← HSTEP.out]
          have := HR5.out
          rw [HMT.out] at this
          exact this
        clear hW5 HR1 HR1b HR2 HR3 HR4 HR5 HO1 HO1b HO2 HO3 HO4 HSTEP HMT HS0
        go_wp2
        go_roundw
        case rel => exact ⟨j + 1, by omega, by go_num, by have := HCJ.out; rw [show ((c + 5 * (j + 1) : Nat) : Int) = (cj : Int) + 1 + 1 + 1 + 1 + 1 by omega], HEND, HO5⟩
        case measure => simp [intOf]; omega
      · obtain rfl : j = NL := by omega
        have HFIN : Hid (SgRow wr B (marksS c j) (.slice (some ⟨g, 0, none⟩) j cap)) := by
          have := HR.out
          rw [HNL.out, halfS_all] at this
          rw [HNL.out]; exact this
        clear HR
        go_wp2
        go_ret
        exact ⟨rfl, HFIN.out, HO.out⟩

set_option maxHeartbeats 4000000 in
set_option maxRecDepth 20000 in
theorem held_signs (n : Nat) (w : World) (B c : Nat) (v : Value) (h : SgRow w B (marksS c n) v) (hL : n ≤ 1048576) (hc0 : 0 < c) (hc : c ≤ 1048576) :
    Calls Tryd.prog 8 #[v, .int .i64 (c : Int)] w fun e w' => e = .returned (.int .i64 ((c + 5 * n : Nat) : Int)) ∧ Below w.heap.size w w' := by
  have hlen : (marksS c n).length = n := by simp [marksS]
  by_cases h0 : n = 0
  · subst h0
    obtain ⟨ao, cp, rfl, _, _⟩ := h.shape
    rw [hlen]
    clear h
    go_enter Tryd.func8, Tryd.ntmps8
    go_wp2
    refine wp_loop_rounds 1 ?_
    rw [rounds_succ]
    go_wp2
    go_ret
    exact ⟨by simp, Below.refl _ _⟩
  · obtain ⟨g, cap, rfl, hBg, hgw, hLc, hcap, _⟩ := h.cells (by intro e; rw [e] at hlen; simp at hlen; omega)
    rw [hlen] at hLc h ⊢
    have HR : Hid (SgRow w B (marksS c n) (.slice (some ⟨g, 0, none⟩) n cap)) := h
    have HLEN : Hid ((marksS c n).length = n) := hlen
    clear h hlen
    unfold maxLen at hcap
    go_enter Tryd.func8, Tryd.ntmps8
    go_wp2
    go_loopw [1, 5] (fun vk vi wr => ∃ j : Nat, j ≤ n ∧ vi = .int .i64 (j : Int) ∧ vk = .int .i64 ((c + 5 * j : Nat) : Int) ∧ Hid (Below w.heap.size w wr)) (fun _ vi _ => n - (intOf vi).toNat)
    case atStart => exact ⟨0, Nat.zero_le _, rfl, by simp, Below.refl _ _⟩
    case round =>
      obtain ⟨j, hj, rfl, rfl, HB⟩ := hrel
      by_cases hlt : j < n
      · obtain ⟨cj, hcj⟩ : ∃ cj, cj = c + 5 * j := ⟨_, rfl⟩
        rw [← hcj]
        have hcj0 : 0 < cj := by omega
        have hcj1 : cj ≤ 6291456 := by omega
        obtain ⟨mt, hmt⟩ : ∃ mt : ByteArray, mt = ⟨(mkS (cj + 1)).toArray⟩ := ⟨_, rfl⟩
        have HMK : Hid (∀ w, Calls Tryd.prog 14 #[.int .i64 ((cj : Int) + 1)] w fun e w' => e = .returned (.string mt) ∧ Below w.heap.size w w') := fun w => by
          have := mark_any (cj + 1) w (by omega) (by omega)
          rw [hmt]
          rwa [show ((cj + 1 : Nat) : Int) = (cj : Int) + 1 by omega] at this
        have HAT : Hid (∀ wr, Below w.heap.size w wr → wr.cell? ⟨g, j * 5, none⟩ = some (.int .i64 (cj : Int)) ∧ wr.cell? ⟨g, j * 5 + 1, none⟩ = some (.string mt) ∧ wr.cell? ⟨g, j * 5 + 2, none⟩ = some (.int .i64 ((cj : Int) + 1 + 1)) ∧ wr.cell? ⟨g, j * 5 + 3, none⟩ = some (.int .i64 ((cj : Int) + 1 + 1 + 1)) ∧ wr.cell? ⟨g, j * 5 + 4, none⟩ = some (.bool (((cj : Int) + 1 + 1 + 1 + 1) % 3 == 0))) := fun wr hb => by
          obtain ⟨q0, q1, q2, q3, q4, _⟩ := (HR.out.keep hb).at (j := j) HLEN.out hlt
          rw [marksS_at c n j hlt, ← hcj] at q0 q1 q2 q3 q4
          rw [hmt]
          exact ⟨q0, q1, q2, q3, q4⟩
        have HCJ : Hid (cj = c + 5 * j) := hcj
        clear hcj hmt
        obtain ⟨q0, q1, q2, q3, q4⟩ := HAT.out wr HB.out
        go_upto_region 7 with fail
        refine wp_region_facts 7 (fun i v _ w' => match i with
          | 0 => v = .slice (some ⟨g, 0, none⟩) n cap
          | 1 => v = .int .i64 (j : Int)
          | 2 => v = .pointer (some ⟨g, j * 5, none⟩)
          | 3 => v = .pointer (some ⟨g, j * 5 + 1, none⟩)
          | 4 => v = .string mt
          | 5 => v = .int .i64 ((cj : Int) + 1)
          | _ => v = .string mt) (by kernel_rfl) (by kernel_rfl) 61 rfl (by kernel_rfl) ?_ ?_ ?_
        · intro i v S w w' hi h hb
          match i, hi, h with
          | 0, _, h => exact h
          | 1, _, h => exact h
          | 2, _, h => exact h
          | 3, _, h => exact h
          | 4, _, h => exact h
          | 5, _, h => exact h
          | 6, _, h => exact h
        · intro i o hi ho a w' hb hfr hdep
          obtain ⟨y0, y1, y2, y3, y4⟩ := HAT.out w' (HB.out.trans (hb.mono HB.out.size))
          have u0 : a.tmps.getD 0 undef = .slice (some ⟨g, 0, none⟩) n cap := hfr 0 (by decide)
          have u1 : a.tmps.getD 1 undef = .int .i64 ((cj : Int) + 1) := hfr 1 (by decide)
          have u5 : a.tmps.getD 5 undef = .int .i64 (j : Int) := hfr 5 (by decide)
          match i, hi with
          | 0, _ =>
            obtain rfl : _ = o := by simpa using ho
            refine fact_value (w' := w') (v := .slice (some ⟨g, 0, none⟩) n cap) ?_ (Below.refl _ _) ⟨[], rfl, by simp⟩
            simp only [execOp, Act.eval, u0]
            go_simp
          | 1, _ =>
            obtain rfl : _ = o := by simpa using ho
            refine fact_value (w' := w') (v := .int .i64 (j : Int)) ?_ (Below.refl _ _) ⟨[], rfl, by simp⟩
            simp only [execOp, Act.eval, u5]
            go_simp
          | 2, _ =>
            obtain rfl : _ = o := by simpa using ho
            obtain ⟨_, h0⟩ : ∃ _ : List Nat, a.tmps.getD 21 undef = .slice (some ⟨g, 0, none⟩) n cap := hdep 0 (by kernel_rfl)
            obtain ⟨_, h1⟩ : ∃ _ : List Nat, a.tmps.getD 22 undef = .int .i64 (j : Int) := hdep 1 (by kernel_rfl)
            refine fact_value (w' := w') (v := .pointer (some ⟨g, j * 5, none⟩)) ?_ (Below.refl _ _) ⟨[], rfl, by simp⟩
            simp only [execOp, Act.eval, h0, h1]
            go_simp
          | 3, _ =>
            obtain rfl : _ = o := by simpa using ho
            obtain ⟨_, h0⟩ : ∃ _ : List Nat, a.tmps.getD 23 undef = .pointer (some ⟨g, j * 5, none⟩) := hdep 2 (by kernel_rfl)
            refine fact_value (w' := w') (v := .pointer (some ⟨g, j * 5 + 1, none⟩)) ?_ (Below.refl _ _) ⟨[], rfl, by simp⟩
            simp only [execOp, Act.eval, h0]
            go_simp
          | 4, _ =>
            obtain rfl : _ = o := by simpa using ho
            obtain ⟨_, h0⟩ : ∃ _ : List Nat, a.tmps.getD 24 undef = .pointer (some ⟨g, j * 5 + 1, none⟩) := hdep 3 (by kernel_rfl)
            refine fact_value (w' := w') (v := .string mt) ?_ (Below.refl _ _) ⟨[], rfl, by simp⟩
            simp only [execOp, Act.eval, h0]
            go_simp
          | 5, _ =>
            obtain rfl : _ = o := by simpa using ho
            refine fact_value (w' := w') (v := .int .i64 ((cj : Int) + 1)) ?_ (Below.refl _ _) ⟨[], rfl, by simp⟩
            simp only [execOp, Act.eval, u1]
            go_simp
          | 6, _ =>
            obtain rfl : _ = o := by simpa using ho
            obtain ⟨_, h0⟩ : ∃ _ : List Nat, a.tmps.getD 26 undef = .int .i64 ((cj : Int) + 1) := hdep 5 (by kernel_rfl)
            refine fact_call rfl Tryd.func14 (by kernel_rfl) (by kernel_rfl) (args := #[.int .i64 ((cj : Int) + 1)]) ?_ ?_
            · simp [Act.eval, h0]
            · refine Calls.mono (HMK.out w') ?_
              rintro e w4 ⟨rfl, hb4⟩
              exact ⟨_, rfl, hb4, [], rfl, by simp⟩
        intro vals S w1 hb hf _
        have h4 : vals 4 = .string mt := (hf 4 (by omega)).1
        have h6 : vals 6 = .string mt := (hf 6 (by omega)).1
        have HB1 : Hid (Below w.heap.size w w1) := HB.out.trans (hb.mono HB.out.size)
        simp only [putN, List.getElem?_toArray, List.getElem?_cons_zero, List.getElem?_cons_succ, Option.bind_some, List.drop_succ_cons, List.drop_zero, h4, h6]
        generalize vals 0 = m0
        generalize vals 1 = m1
        generalize vals 2 = m2
        generalize vals 3 = m3
        generalize vals 5 = m5
        clear hf h4 h6 hb HB q0 q1 q2 q3 q4
        obtain ⟨q0, q1, q2, q3, q4⟩ := HAT.out w1 HB1.out
        simp only [Act.put, List.setIfInBounds_toArray, List.set_cons_succ, List.set_cons_zero]
        go_wp2
        go_roundw
        case rel => exact ⟨j + 1, by omega, by go_num, by have := HCJ.out; rw [show ((c + 5 * (j + 1) : Nat) : Int) = (cj : Int) + 1 + 1 + 1 + 1 + 1 by omega], HB1⟩
        case measure => simp [intOf]; omega
      · obtain rfl : j = n := by omega
        go_wp2
        go_ret
        exact ⟨rfl, HB.out⟩
end Go.Proofs.YtcmnjpoapcoghanDoor

/- laws.markClauseS. By genclsmk.py. -/
import Derived.Test.YtmhmlkdoaojimapGreatDoorMrg30
import Derived.Test.YtmhmlkdoaojimapGreatDoorMrg5
import Derived.Deep.DeepCutAuto
namespace Go.Proofs.YtmhmlkdoaojimapGreatDoor
open Go.RowKit

theorem OwnS.out {e : TypeId} {w w' : World} {ks : List Tm} {sl : Value} {F X : List Nat} (h : OwnS e w ks sl F) (o : Out X w w') (hd : ∀ f ∈ F, f ∉ X) : OwnS e w' ks sl F :=
  OwnS.keep h fun f hf => o.block f (by rcases h with ⟨_, _, rfl⟩ | ⟨g, cap, cs, F', rfl, h5, rfl, h6⟩; · cases hf
                                        · rcases List.mem_cons.1 hf with rfl | hf
                                          · exact (h5.lt _ rfl).2
                                          · exact OwnRow.lt _ cs F' h6 f hf) (hd f hf)
theorem OwnCs.out {e : TypeId} {w w' : World} {ks : List Cla} {cs : List Value} {F X : List Nat} (h : OwnCs e w ks cs F) (o : Out X w w') (hd : ∀ f ∈ F, f ∉ X) : OwnCs e w' ks cs F :=
  OwnCs.keep ks cs F h fun f hf => o.block f (OwnCs.lt ks cs F h f hf) (hd f hf)
theorem OwnCs.split {e : TypeId} {w : World} : ∀ (l m : List Cla) (cs : List Value) (F : List Nat), OwnCs e w (l ++ m) cs F → ∃ c1 c2 F1 F2, cs = c1 ++ c2 ∧ F = F1 ++ F2 ∧ OwnCs e w l c1 F1 ∧ OwnCs e w m c2 F2
  | [], m, cs, F, h => ⟨[], cs, [], F, rfl, rfl, ⟨rfl, rfl⟩, h⟩
  | c :: l, m, cs, F, h => by
    obtain ⟨c1, c2, F1, F2, rfl, rfl, h1, h2⟩ := h
    obtain ⟨d1, d2, G1, G2, rfl, rfl, h3, h4⟩ := OwnCs.split l m c2 F2 h2
    exact ⟨c1 ++ d1, d2, F1 ++ G1, G2, by simp, by simp, ⟨c1, d1, F1, G1, rfl, rfl, h1, h3⟩, h4⟩
theorem OwnCs.join {e : TypeId} {w : World} : ∀ (l m : List Cla) (c1 c2 : List Value) (F1 F2 : List Nat), OwnCs e w l c1 F1 → OwnCs e w m c2 F2 → OwnCs e w (l ++ m) (c1 ++ c2) (F1 ++ F2)
  | [], m, _, c2, _, F2, h, h2 => by obtain ⟨rfl, rfl⟩ := h; exact h2
  | c :: l, m, _, c2, _, F2, h, h2 => by
    obtain ⟨d1, d2, G1, G2, rfl, rfl, h1, h3⟩ := h
    exact ⟨d1, d2 ++ c2, G1, G2 ++ F2, by simp, by simp, h1, OwnCs.join l m d2 c2 G2 F2 h3 h2⟩
theorem take_mid {a b m r : List Value} {n : Nat} (h : n = a.length + m.length + b.length) : (a ++ (m ++ (b ++ r))).take n = a ++ (m ++ b) := by
  rw [← List.append_assoc m, ← List.append_assoc a]
  exact List.take_left' (by simp; omega)
def CRowAt (w : World) (g cap : Nat) (ks : List Cla) (F : List Nat) : Prop :=
  ∃ cur : Array Value, w.heap[g]? = some (.cells cur 43 (0, 0)) ∧ ks.length ≤ cap ∧ cap ≤ maxLen ∧ cur.size = cap * 9 ∧ OwnCs 41 w ks (cur.toList.take (ks.length * 9)) F
theorem CRowAt.own {w : World} {g cap : Nat} {ks : List Cla} {F : List Nat} (h : CRowAt w g cap ks F) : OwnClS 43 41 w ks (.slice (some ⟨g, 0, none⟩) ks.length cap) (g :: F) := by
  obtain ⟨cur, h1, h2, h3, h4, h5⟩ := h
  exact Or.inr ⟨g, cap, _, F, rfl, ⟨OwnCs.len _ _ _ h5, Or.inr ⟨g, cap, cur, rfl, Nat.zero_le _, h1, h2, h3, h4, rfl⟩⟩, rfl, h5⟩
theorem CRowAt.of {w : World} {g cap : Nat} {ks : List Cla} {cs : List Value} {F : List Nat} (hrow : w.ownsRow 0 43 9 (.slice (some ⟨g, 0, none⟩) ks.length cap) ks.length cs) (hr : OwnCs 41 w ks cs F) : CRowAt w g cap ks F := by
  rcases hrow.2 with ⟨h, _⟩ | ⟨g', cap', cur, h1, hz, hh, hnc, hcm, hcs, htk⟩
  · cases h
  · cases h1
    exact ⟨cur, hh, hnc, hcm, hcs, htk ▸ hr⟩
theorem tm_own_open {w : World} {t : Tm} {k n : Int} {s : ByteArray} {sl : Value} {F : List Nat} (h : Own 41 w t (.agg #[.int .i64 k, .string s, .int .i64 n, sl]) F) : OwnS 41 w t.kids sl F ∧ t.n = 1 + ns t.kids := by
  obtain ⟨k', s', n', ks⟩ := t
  obtain ⟨sl', e, hs⟩ := own_open h
  obtain ⟨_, _, _, rfl⟩ : (Value.int .i64 k) = .int .i64 k' ∧ (Value.string s) = .string s' ∧ (Value.int .i64 n) = .int .i64 n' ∧ sl = sl' := by simpa using e
  exact ⟨hs, n_mk _ _ _ _⟩
theorem markT_own {w : World} {t : Tm} {c : Nat} {sl : Value} {F : List Nat} (hc : c ≤ 2000000000) (h : OwnS 41 w (markL t.kids (c + 3)) sl F) : Own 41 w (t.markT c) (.agg #[.int .i64 (c : Int), .string ⟨(mkS (c + 1)).toArray⟩, .int .i64 ((c : Int) + 1 + 1), sl]) F := by
  obtain ⟨k', s', n', ks⟩ := t
  rw [markT_mk, show (c : Int) + 1 + 1 = ((c + 2 : Nat) : Int) by omega]
  refine own_mk h (by omega) (by omega) ?_
  have := mkS_len (c + 1) (by omega)
  show (mkS (c + 1)).toArray.size ≤ maxLen
  unfold maxLen
  simp only [List.size_toArray]
  omega

set_option maxHeartbeats 8000000 in
set_option maxRecDepth 20000 in
theorem mark_clauses (ks : List Cla) (w : World) (sl : Value) (F : List Nat) (c : Nat) (hown : OwnClS 43 41 w ks sl F) (hnd : F.Nodup) (hc0 : 0 < c) (hcm : c + claNs ks ≤ 2000000000) :
    Calls Tryz.prog 29 #[sl, .int .i64 (c : Int)] w fun e w' => e = .returned (.int .i64 ((c + claNs ks : Nat) : Int)) ∧ OwnClS 43 41 w' (markCs ks c) sl F ∧ Out F w w' := by
  have hown0 := hown
  rcases hown with ⟨rfl, rfl, rfl⟩ | ⟨g, cap, cs, F', rfl, hrow, rfl, hr⟩
  · have HO : Hid (OwnClS 43 41 w [] (.slice none 0 0) []) := hown0
    clear hown0
    go_enter Tryz.func29, Tryz.ntmps29
    go_wp2
    refine wp_loop_rounds 1 ?_
    rw [rounds_succ]
    go_wp2
    go_ret
    exact ⟨by simp [claNs], HO.out, Out.refl _ _⟩
  · have hra := CRowAt.of hrow hr
    have hcap : ks.length ≤ cap ∧ cap ≤ maxLen := by
      obtain ⟨_, _, h2, h3, _⟩ := hra
      exact ⟨h2, h3⟩
    unfold maxLen at hcap
    obtain ⟨hcl, hcm2⟩ := hcap
    have HO : Hid _ := hra
    have HND : Hid _ := hnd
    clear hown0 hrow hr hnd hra
    have HBD : Hid (∀ j, c + claNs (ks.take j) ≤ c + claNs ks) := fun j => by
      have : claNs (ks.take j) + claNs (ks.drop j) = claNs ks := by rw [← claNs_append, List.take_append_drop]
      omega
    have HCM : Hid _ := hcm
    clear hcm
    go_enter Tryz.func29, Tryz.ntmps29
    go_wp2
    go_loopw [1, 5] (fun vk vi wr => Hid (Out (g :: F') w wr) ∧ ∃ (j cj : Nat), j ≤ ks.length ∧ vi = .int .i64 (j : Int) ∧ vk = .int .i64 (cj : Int) ∧ Hid (cj = c + claNs (ks.take j)) ∧ Hid (CRowAt wr g cap (markCs (ks.take j) c ++ ks.drop j) F')) (fun _ i _ => ks.length - (intOf i).toNat)
    case atStart => exact ⟨Out.refl _ _, 0, c, by omega, rfl, rfl, by show _ = _; simp [claNs], by show CRowAt _ _ _ _ _; exact HO.out⟩
    case round =>
      obtain ⟨HB, j, cj, hj, rfl, rfl, HCJ, HOJ⟩ := hrel
      have hcj0 : 0 < cj := by have := HCJ.out; omega
      by_cases hlt : j < ks.length
      · obtain ⟨cur, hblk, hnc, hcpm, hcs, hr⟩ := HOJ.out
        have hlen : (markCs (ks.take j) c ++ ks.drop j).length = ks.length := by rw [List.length_append, markCs_len, ← List.length_append, List.take_append_drop]
        rw [hlen] at hnc hr
        rw [List.drop_eq_getElem_cons hlt] at hr
        obtain ⟨cs1, cs2, G1, G2, hcc, hFF, hr1, hr2⟩ := OwnCs.split _ _ _ _ hr
        obtain ⟨nine, cs', G3, G4, rfl, rfl, hr3, hr4⟩ := hr2
        obtain ⟨kj, hkj⟩ : ∃ kj, kj = ks[j] := ⟨_, rfl⟩
        have hl1 : cs1.length = j * 9 := by rw [OwnCs.len _ _ _ hr1, markCs_len, List.length_take]; congr 1; omega
        rw [← hkj] at hr3
        have hcn : claNs (ks.take (j + 1)) = claNs (ks.take j) + kj.n := by rw [List.take_succ_eq_append_getElem hlt, claNs_append, hkj]; simp [claNs]
        have hbd := HBD.out (j + 1)
        have hcmx := HCM.out
        have hlist : markCs (ks.take (j + 1)) c ++ ks.drop (j + 1) = markCs (ks.take j) c ++ (kj.markT cj :: ks.drop (j + 1)) := by
          rw [List.take_succ_eq_append_getElem hlt, markCs_append, hkj, HCJ.out]
          simp [markCs]
        have hlen2 : (markCs (ks.take (j + 1)) c ++ ks.drop (j + 1)).length = ks.length := by rw [List.length_append, markCs_len, ← List.length_append, List.take_append_drop]
        clear hkj
        obtain ⟨kh, kb, kf⟩ := kj
        obtain ⟨k1, s1, n1, a1, l1, m1, k2, s2, n2, a2, l2, m2, F1, F2, rfl, rfl, -, o1, o2⟩ := hr3
        simp only at o1 o2 hcn hlist
        obtain ⟨q1, en1⟩ := tm_own_open o1
        obtain ⟨q2, en2⟩ := tm_own_open o2
        obtain ⟨d, hd⟩ : ∃ d, d = cj + 3 + 3 * ns kh.kids := ⟨_, rfl⟩
        obtain ⟨e, he⟩ : ∃ e, e = d + 3 + 3 * ns kb.kids := ⟨_, rfl⟩
        have hen : (⟨kh, kb, kf⟩ : Cla).n = 3 * kh.n + 3 * kb.n + 1 := rfl
        have hce : c + claNs (ks.take (j + 1)) = e + 1 := by have := HCJ.out; omega
        have hE : e + 1 ≤ 2000000000 := by omega
        have hmark : (⟨kh, kb, kf⟩ : Cla).markT cj = ⟨kh.markT cj, kb.markT d, ⟨(mkS e).toArray⟩⟩ := by
          show Cla.mk _ _ _ = _
          rw [show cj + 3 * kh.n = d by omega, show d + 3 * kb.n = e by omega]
        rw [hmark] at hlist
        have hrest : cur.toList = cs1 ++ ([.int .i64 k1, .string s1, .int .i64 n1, .slice a1 l1 m1, .int .i64 k2, .string s2, .int .i64 n2, .slice a2 l2 m2, .string kf] ++ (cs' ++ cur.toList.drop (ks.length * 9))) := by
          rw [← List.append_assoc _ cs', ← List.append_assoc cs1, ← hcc, List.take_append_drop]
        have hcl2 : cs'.length = (ks.length - (j + 1)) * 9 := by rw [OwnCs.len _ _ _ hr4, List.length_drop]
        obtain ⟨tl, htl⟩ : ∃ tl, tl = cs' ++ cur.toList.drop (ks.length * 9) := ⟨_, rfl⟩
        rw [← htl] at hrest
        have N0 : Nine 43 wr g (j * 9) (cap * 9) [.int .i64 k1, .string s1, .int .i64 n1, .slice a1 l1 m1, .int .i64 k2, .string s2, .int .i64 n2, .slice a2 l2 m2, .string kf] (cs1 ++ ([.int .i64 k1, .string s1, .int .i64 n1, .slice a1 l1 m1, .int .i64 k2, .string s2, .int .i64 n2, .slice a2 l2 m2, .string kf] ++ tl)) := by
          refine ⟨cur, hblk, hcs, rfl, by omega, fun i hi => ?_, fun i _ => by rw [← hrest]; simp⟩
          rw [← Array.getElem?_toList, hrest, List.getElem?_append_right (by omega), hl1, List.getElem?_append_left (by simp; omega)]
          congr 1; omega
        have hgF : (g :: F').Nodup := HND.out
        rw [hFF, List.nodup_cons] at hgF
        obtain ⟨hgn, hFn⟩ := hgF
        rw [List.nodup_append] at hFn
        obtain ⟨_, hFn2, dis1⟩ := hFn
        rw [List.nodup_append] at hFn2
        obtain ⟨hFn3, _, dis2⟩ := hFn2
        rw [List.nodup_append] at hFn3
        obtain ⟨nd1, nd2, dis3⟩ := hFn3
        have hg1 : g ∉ F1 := fun h => hgn (by simp [h])
        have hg2 : g ∉ F2 := fun h => hgn (by simp [h])
        have hgG1 : g ∉ G1 := fun h => hgn (by simp [h])
        have hgG4 : g ∉ G4 := fun h => hgn (by simp [h])
        have notg : ∀ (X : List Nat), g ∉ X → ∀ f ∈ X, f ∉ [g] := fun X h f hf e => h (by rw [List.mem_singleton] at e; exact e ▸ hf)
        -- what the calls answer
        have HMK : Hid (∀ (N : Nat) (u : World), 0 < N → N ≤ 2000000000 → Calls Tryz.prog 48 #[.int .i64 (N : Int)] u fun e w' => e = .returned (.string ⟨(mkS N).toArray⟩) ∧ Below u.heap.size u w') := fun N u h0 hN => mark_any N u h0 (by omega)
        have HMH : Hid (∀ V, Out [g] wr V → Calls Tryz.prog 49 #[.slice a1 l1 m1, .int .i64 ((cj : Int) + 1 + 1 + 1)] V fun e w' => e = .returned (.int .i64 (d : Int)) ∧ OwnS 41 w' (markL kh.kids (cj + 3)) (.slice a1 l1 m1) F1 ∧ Out F1 V w') := fun V o => by
          have := mark_all kh.kids V _ F1 (cj + 3) (q1.out o (notg _ hg1)) nd1 (by omega) (by omega)
          rw [show ((cj + 3 : Nat) : Int) = (cj : Int) + 1 + 1 + 1 by omega, ← hd] at this
          exact this
        have HMB : Hid (∀ V w2 V', Out [g] wr V → Out F1 V w2 → Out [g] w2 V' → Calls Tryz.prog 49 #[.slice a2 l2 m2, .int .i64 ((d : Int) + 1 + 1 + 1)] V' fun e' w' => e' = .returned (.int .i64 (e : Int)) ∧ OwnS 41 w' (markL kb.kids (d + 3)) (.slice a2 l2 m2) F2 ∧ Out F2 V' w') := fun V w2 V' x1 x2 x3 => by
          have := mark_all kb.kids V' _ F2 (d + 3) (((q2.out x1 (notg _ hg2)).out x2 fun f hf h => dis3 f h f hf rfl).out x3 (notg _ hg2)) nd2 (by omega) (by omega)
          rw [show ((d + 3 : Nat) : Int) = (d : Int) + 1 + 1 + 1 by omega, ← he] at this
          exact this
        have HN0 : Hid (Nine 43 wr g (j * 9) (cap * 9) [.int .i64 k1, .string s1, .int .i64 n1, .slice a1 l1 m1, .int .i64 k2, .string s2, .int .i64 n2, .slice a2 l2 m2, .string kf] (cs1 ++ ([.int .i64 k1, .string s1, .int .i64 n1, .slice a1 l1 m1, .int .i64 k2, .string s2, .int .i64 n2, .slice a2 l2 m2, .string kf] ++ tl))) := N0
        have HG : Hid (g ∉ F1 ∧ g ∉ F2) := ⟨hg1, hg2⟩
        have hej0 : 0 < e := by omega
        have hdi : (d : Int) ≤ 2000000000 := by omega
        have hei : (e : Int) < 2000000000 := by omega
        have hcji : (cj : Int) ≤ 2000000000 := by omega
        have HFINAL : Hid (∀ V3 w2 V6 w4 V7, Out [g] wr V3 → Out F1 V3 w2 → OwnS 41 w2 (markL kh.kids (cj + 3)) (.slice a1 l1 m1) F1 → Out [g] w2 V6 → Out F2 V6 w4 → OwnS 41 w4 (markL kb.kids (d + 3)) (.slice a2 l2 m2) F2 → Out [g] w4 V7 →
            Nine 43 V7 g (j * 9) (cap * 9) [.int .i64 (cj : Int), .string ⟨(mkS (cj + 1)).toArray⟩, .int .i64 ((cj : Int) + 1 + 1), .slice a1 l1 m1, .int .i64 (d : Int), .string ⟨(mkS (d + 1)).toArray⟩, .int .i64 ((d : Int) + 1 + 1), .slice a2 l2 m2, .string ⟨(mkS e).toArray⟩] (cs1 ++ ([.int .i64 k1, .string s1, .int .i64 n1, .slice a1 l1 m1, .int .i64 k2, .string s2, .int .i64 n2, .slice a2 l2 m2, .string kf] ++ tl)) →
            CRowAt V7 g cap (markCs (ks.take (j + 1)) c ++ ks.drop (j + 1)) F' ∧ Out (g :: F') w V7 ∧ e + 1 = c + claNs (ks.take (j + 1))) := by
          intro V3 w2 V6 w4 V7 x1 x2 p1 x3 x4 p2 x5 NF
          obtain ⟨cur7, b7, z7, t7⟩ := Nine.row hl1 rfl NF
          have all : ∀ X : List Nat, g ∉ X → (∀ f ∈ X, f ∉ F1) → (∀ f ∈ X, f ∉ F2) → ∀ ls cc, OwnCs 41 wr ls cc X → OwnCs 41 V7 ls cc X := fun X h h1 h2 ls cc o => ((((o.out x1 (notg _ h)).out x2 h1).out x3 (notg _ h)).out x4 h2).out x5 (notg _ h)
          have p1' := ((p1.out x3 (notg _ hg1)).out x4 fun f hf h => dis3 f hf f h rfl).out x5 (notg _ hg1)
          have p2' := p2.out x5 (notg _ hg2)
          have r1 := all G1 hgG1 (fun f hf h => dis1 f hf f (by simp [h]) rfl) (fun f hf h => dis1 f hf f (by simp [h]) rfl) _ _ hr1
          have r4 := all G4 hgG4 (fun f hf h => dis2 f (by simp [h]) f hf rfl) (fun f hf h => dis2 f (by simp [h]) f hf rfl) _ _ hr4
          refine ⟨⟨cur7, b7, by rw [hlen2]; exact hnc, hcpm, z7, ?_⟩, ?_, hce.symm⟩
          · rw [hlen2, hlist, t7, htl, take_mid (by rw [hl1, hcl2]; show _ = _ + 9 + _; omega), hFF]
            refine OwnCs.join _ _ _ _ _ _ r1 ?_
            refine ⟨_, cs', F1 ++ F2, G4, rfl, rfl, ?_, r4⟩
            refine ⟨_, _, _, _, _, _, _, _, _, _, _, _, F1, F2, rfl, rfl, ?_, markT_own (by omega) p1', markT_own (by omega) p2'⟩
            have := mkS_len e (by omega)
            show (mkS e).toArray.size ≤ maxLen
            unfold maxLen
            simp only [List.size_toArray]
            omega
          · have sub : ∀ X : List Nat, (∀ f ∈ X, f ∈ g :: F') → ∀ {u v}, Out X u v → Out (g :: F') u v := fun X h u v o => o.mono h
            have g1 : ∀ f ∈ [g], f ∈ g :: F' := fun f hf => by simp at hf; simp [hf]
            have m1 : ∀ f ∈ F1, f ∈ g :: F' := fun f hf => by rw [hFF]; simp [hf]
            have m2 : ∀ f ∈ F2, f ∈ g :: F' := fun f hf => by rw [hFF]; simp [hf]
            exact HB.out.trans ((sub _ g1 x1).trans ((sub _ m1 x2).trans ((sub _ g1 x3).trans ((sub _ m2 x4).trans (sub _ g1 x5)))))
        clear hblk hnc hcpm hcs hr hr1 hr4 o1 o2 q1 q2 hrest N0 hcc hcl2 htl hlist hlen hlen2 hFF hgn dis1 dis2 dis3 nd1 nd2 hg1 hg2 hgG1 hgG4 notg hmark hce hen en1 en2 hbd hcmx hcn hl1 HND HOJ HBD HCM HO HCJ
        have hE0 : Hid (e ≤ 2000000000) := by show _ ≤ _; omega
        have hd0 : Hid (d + 1 ≤ 2000000000) := by show _ ≤ _; omega
        have hc1 : Hid (cj + 1 ≤ 2000000000) := by show _ ≤ _; omega
        have hji : (j : Int) < 9223372036854775807 := by omega
        clear hd he hE hcm2 hcl hc0
        obtain ⟨b0, f0⟩ := Nine.cell HN0.out (i := 0) (by omega) rfl
        rw [Nat.add_zero] at b0 f0
        go_upto_region 5 with fail
        have HO0 : Hid (Out [g] wr wr) := Out.refl _ _
        obtain ⟨V1, hV1⟩ : ∃ V1, V1 = wr.setCell ⟨g, j * 9, none⟩ (.int .i64 (cj : Int)) := ⟨_, rfl⟩
        first | rw [← hV1] | (have hV1' := hV1; simp only [Nat.add_assoc, Nat.reduceAdd] at hV1' ⊢; rw [← hV1'])
        have HN1 : Hid (Nine 43 V1 g (j * 9) (cap * 9) [.int .i64 (cj : Int), .string s1, .int .i64 n1, .slice a1 l1 m1, .int .i64 k2, .string s2, .int .i64 n2, .slice a2 l2 m2, .string kf] (cs1 ++ ([.int .i64 k1, .string s1, .int .i64 n1, .slice a1 l1 m1, .int .i64 k2, .string s2, .int .i64 n2, .slice a2 l2 m2, .string kf] ++ tl))) := by rw [hV1]; exact Nine.set HN0.out (i := 0) (by omega) (.int .i64 (cj : Int))
        have HO1 : Hid (Out [g] wr V1) := by rw [hV1]; exact HO0.out.trans (Out.set (by simp) _ _ _)
        clear b0 f0 hV1
        have HM1 : Hid _ := HMK.out (cj + 1) V1 (by omega) hc1.out
        rw [show ((cj + 1 : Nat) : Int) = (cj : Int) + 1 by omega] at HM1
        go_upto_region 7 with (go_at_call 48; refine (Calls.mono HM1.out ?_); rintro _ w1 ⟨rfl, hb⟩; have HNA : Hid (Nine 43 w1 g (j * 9) (cap * 9) [.int .i64 (cj : Int), .string s1, .int .i64 n1, .slice a1 l1 m1, .int .i64 k2, .string s2, .int .i64 n2, .slice a2 l2 m2, .string kf] (cs1 ++ ([.int .i64 k1, .string s1, .int .i64 n1, .slice a1 l1 m1, .int .i64 k2, .string s2, .int .i64 n2, .slice a2 l2 m2, .string kf] ++ tl))) := Nine.keep HN1.out (hb.block g (Nine.lt HN1.out)); have HOA : Hid (Out [g] wr w1) := HO1.out.trans (Out.of_below hb); clear hb; obtain ⟨b0, f0⟩ := Nine.cell HNA.out (i := 1) (by omega) rfl)
        obtain ⟨V2, hV2⟩ : ∃ V2, V2 = w1.setCell ⟨g, j * 9 + 1, none⟩ (.string ⟨(mkS (cj + 1)).toArray⟩) := ⟨_, rfl⟩
        first | rw [← hV2] | (have hV2' := hV2; simp only [Nat.add_assoc, Nat.reduceAdd] at hV2' ⊢; rw [← hV2'])
        have HN2 : Hid (Nine 43 V2 g (j * 9) (cap * 9) [.int .i64 (cj : Int), .string ⟨(mkS (cj + 1)).toArray⟩, .int .i64 n1, .slice a1 l1 m1, .int .i64 k2, .string s2, .int .i64 n2, .slice a2 l2 m2, .string kf] (cs1 ++ ([.int .i64 k1, .string s1, .int .i64 n1, .slice a1 l1 m1, .int .i64 k2, .string s2, .int .i64 n2, .slice a2 l2 m2, .string kf] ++ tl))) := by rw [hV2]; exact Nine.set HNA.out (i := 1) (by omega) (.string ⟨(mkS (cj + 1)).toArray⟩)
        have HO2 : Hid (Out [g] wr V2) := by rw [hV2]; exact HOA.out.trans (Out.set (by simp) _ _ _)
        clear b0 f0 hV2
        obtain ⟨b0, f0⟩ := Nine.cell HN2.out (i := 2) (by omega) rfl
        go_upto_region 9 with fail
        obtain ⟨V3, hV3⟩ : ∃ V3, V3 = V2.setCell ⟨g, j * 9 + 2, none⟩ (.int .i64 ((cj : Int) + 1 + 1)) := ⟨_, rfl⟩
        first | rw [← hV3] | (have hV3' := hV3; simp only [Nat.add_assoc, Nat.reduceAdd] at hV3' ⊢; rw [← hV3'])
        have HN3 : Hid (Nine 43 V3 g (j * 9) (cap * 9) [.int .i64 (cj : Int), .string ⟨(mkS (cj + 1)).toArray⟩, .int .i64 ((cj : Int) + 1 + 1), .slice a1 l1 m1, .int .i64 k2, .string s2, .int .i64 n2, .slice a2 l2 m2, .string kf] (cs1 ++ ([.int .i64 k1, .string s1, .int .i64 n1, .slice a1 l1 m1, .int .i64 k2, .string s2, .int .i64 n2, .slice a2 l2 m2, .string kf] ++ tl))) := by rw [hV3]; exact Nine.set HN2.out (i := 2) (by omega) (.int .i64 ((cj : Int) + 1 + 1))
        have HO3 : Hid (Out [g] wr V3) := by rw [hV3]; exact HO2.out.trans (Out.set (by simp) _ _ _)
        clear b0 f0 hV3
        obtain ⟨b0, f0⟩ := Nine.cell HN3.out (i := 3) (by omega) rfl
        have HMH3 : Hid _ := HMH.out V3 HO3.out
        go_upto_region 11 with (go_at_call 49; refine (Calls.mono HMH3.out ?_); rintro _ w2 ⟨rfl, p1, x2⟩; have HP1 : Hid _ := p1; have HX2 : Hid (Out F1 V3 w2) := x2; have HN4 : Hid (Nine 43 w2 g (j * 9) (cap * 9) [.int .i64 (cj : Int), .string ⟨(mkS (cj + 1)).toArray⟩, .int .i64 ((cj : Int) + 1 + 1), .slice a1 l1 m1, .int .i64 k2, .string s2, .int .i64 n2, .slice a2 l2 m2, .string kf] (cs1 ++ ([.int .i64 k1, .string s1, .int .i64 n1, .slice a1 l1 m1, .int .i64 k2, .string s2, .int .i64 n2, .slice a2 l2 m2, .string kf] ++ tl))) := Nine.keep HN3.out (x2.block g (Nine.lt HN3.out) HG.out.1); clear p1 x2)
        clear b0 f0
        obtain ⟨b0, f0⟩ := Nine.cell HN4.out (i := 4) (by omega) rfl
        go_upto_region 12 with fail
        have HO4 : Hid (Out [g] w2 w2) := Out.refl _ _
        obtain ⟨V4, hV4⟩ : ∃ V4, V4 = w2.setCell ⟨g, j * 9 + 4, none⟩ (.int .i64 (d : Int)) := ⟨_, rfl⟩
        first | rw [← hV4] | (have hV4' := hV4; simp only [Nat.add_assoc, Nat.reduceAdd] at hV4' ⊢; rw [← hV4'])
        have HN5 : Hid (Nine 43 V4 g (j * 9) (cap * 9) [.int .i64 (cj : Int), .string ⟨(mkS (cj + 1)).toArray⟩, .int .i64 ((cj : Int) + 1 + 1), .slice a1 l1 m1, .int .i64 (d : Int), .string s2, .int .i64 n2, .slice a2 l2 m2, .string kf] (cs1 ++ ([.int .i64 k1, .string s1, .int .i64 n1, .slice a1 l1 m1, .int .i64 k2, .string s2, .int .i64 n2, .slice a2 l2 m2, .string kf] ++ tl))) := by rw [hV4]; exact Nine.set HN4.out (i := 4) (by omega) (.int .i64 (d : Int))
        have HO5 : Hid (Out [g] w2 V4) := by rw [hV4]; exact HO4.out.trans (Out.set (by simp) _ _ _)
        clear b0 f0 hV4
        have HM2 : Hid _ := HMK.out (d + 1) V4 (by omega) hd0.out
        rw [show ((d + 1 : Nat) : Int) = (d : Int) + 1 by omega] at HM2
        go_upto_region 14 with (go_at_call 48; refine (Calls.mono HM2.out ?_); rintro _ w3 ⟨rfl, hb⟩; have HNB : Hid (Nine 43 w3 g (j * 9) (cap * 9) [.int .i64 (cj : Int), .string ⟨(mkS (cj + 1)).toArray⟩, .int .i64 ((cj : Int) + 1 + 1), .slice a1 l1 m1, .int .i64 (d : Int), .string s2, .int .i64 n2, .slice a2 l2 m2, .string kf] (cs1 ++ ([.int .i64 k1, .string s1, .int .i64 n1, .slice a1 l1 m1, .int .i64 k2, .string s2, .int .i64 n2, .slice a2 l2 m2, .string kf] ++ tl))) := Nine.keep HN5.out (hb.block g (Nine.lt HN5.out)); have HOB : Hid (Out [g] w2 w3) := HO5.out.trans (Out.of_below hb); clear hb; obtain ⟨b0, f0⟩ := Nine.cell HNB.out (i := 5) (by omega) rfl)
        obtain ⟨V5, hV5⟩ : ∃ V5, V5 = w3.setCell ⟨g, j * 9 + 5, none⟩ (.string ⟨(mkS (d + 1)).toArray⟩) := ⟨_, rfl⟩
        first | rw [← hV5] | (have hV5' := hV5; simp only [Nat.add_assoc, Nat.reduceAdd] at hV5' ⊢; rw [← hV5'])
        have HN6 : Hid (Nine 43 V5 g (j * 9) (cap * 9) [.int .i64 (cj : Int), .string ⟨(mkS (cj + 1)).toArray⟩, .int .i64 ((cj : Int) + 1 + 1), .slice a1 l1 m1, .int .i64 (d : Int), .string ⟨(mkS (d + 1)).toArray⟩, .int .i64 n2, .slice a2 l2 m2, .string kf] (cs1 ++ ([.int .i64 k1, .string s1, .int .i64 n1, .slice a1 l1 m1, .int .i64 k2, .string s2, .int .i64 n2, .slice a2 l2 m2, .string kf] ++ tl))) := by rw [hV5]; exact Nine.set HNB.out (i := 5) (by omega) (.string ⟨(mkS (d + 1)).toArray⟩)
        have HO6 : Hid (Out [g] w2 V5) := by rw [hV5]; exact HOB.out.trans (Out.set (by simp) _ _ _)
        clear b0 f0 hV5
        obtain ⟨b0, f0⟩ := Nine.cell HN6.out (i := 6) (by omega) rfl
        go_upto_region 16 with fail
        obtain ⟨V6, hV6⟩ : ∃ V6, V6 = V5.setCell ⟨g, j * 9 + 6, none⟩ (.int .i64 ((d : Int) + 1 + 1)) := ⟨_, rfl⟩
        first | rw [← hV6] | (have hV6' := hV6; simp only [Nat.add_assoc, Nat.reduceAdd] at hV6' ⊢; rw [← hV6'])
        have HN7 : Hid (Nine 43 V6 g (j * 9) (cap * 9) [.int .i64 (cj : Int), .string ⟨(mkS (cj + 1)).toArray⟩, .int .i64 ((cj : Int) + 1 + 1), .slice a1 l1 m1, .int .i64 (d : Int), .string ⟨(mkS (d + 1)).toArray⟩, .int .i64 ((d : Int) + 1 + 1), .slice a2 l2 m2, .string kf] (cs1 ++ ([.int .i64 k1, .string s1, .int .i64 n1, .slice a1 l1 m1, .int .i64 k2, .string s2, .int .i64 n2, .slice a2 l2 m2, .string kf] ++ tl))) := by rw [hV6]; exact Nine.set HN6.out (i := 6) (by omega) (.int .i64 ((d : Int) + 1 + 1))
        have HO7 : Hid (Out [g] w2 V6) := by rw [hV6]; exact HO6.out.trans (Out.set (by simp) _ _ _)
        clear b0 f0 hV6
        obtain ⟨b0, f0⟩ := Nine.cell HN7.out (i := 7) (by omega) rfl
        have HMB3 : Hid _ := HMB.out V3 w2 V6 HO3.out HX2.out HO7.out
        go_upto_region 18 with (go_at_call 49; refine (Calls.mono HMB3.out ?_); rintro _ w4 ⟨rfl, p1, x2⟩; have HP2 : Hid _ := p1; have HX4 : Hid (Out F2 V6 w4) := x2; have HN8 : Hid (Nine 43 w4 g (j * 9) (cap * 9) [.int .i64 (cj : Int), .string ⟨(mkS (cj + 1)).toArray⟩, .int .i64 ((cj : Int) + 1 + 1), .slice a1 l1 m1, .int .i64 (d : Int), .string ⟨(mkS (d + 1)).toArray⟩, .int .i64 ((d : Int) + 1 + 1), .slice a2 l2 m2, .string kf] (cs1 ++ ([.int .i64 k1, .string s1, .int .i64 n1, .slice a1 l1 m1, .int .i64 k2, .string s2, .int .i64 n2, .slice a2 l2 m2, .string kf] ++ tl))) := Nine.keep HN7.out (x2.block g (Nine.lt HN7.out) HG.out.2); clear p1 x2)
        clear b0 f0
        have HO8 : Hid (Out [g] w4 w4) := Out.refl _ _
        have HM3 : Hid _ := HMK.out e w4 hej0 hE0.out
        go_upto_region 19 with (go_at_call 48; refine (Calls.mono HM3.out ?_); rintro _ w5 ⟨rfl, hb⟩; have HNC : Hid (Nine 43 w5 g (j * 9) (cap * 9) [.int .i64 (cj : Int), .string ⟨(mkS (cj + 1)).toArray⟩, .int .i64 ((cj : Int) + 1 + 1), .slice a1 l1 m1, .int .i64 (d : Int), .string ⟨(mkS (d + 1)).toArray⟩, .int .i64 ((d : Int) + 1 + 1), .slice a2 l2 m2, .string kf] (cs1 ++ ([.int .i64 k1, .string s1, .int .i64 n1, .slice a1 l1 m1, .int .i64 k2, .string s2, .int .i64 n2, .slice a2 l2 m2, .string kf] ++ tl))) := Nine.keep HN8.out (hb.block g (Nine.lt HN8.out)); have HOC : Hid (Out [g] w4 w5) := HO8.out.trans (Out.of_below hb); clear hb; obtain ⟨b0, f0⟩ := Nine.cell HNC.out (i := 8) (by omega) rfl)
        obtain ⟨V7, hV7⟩ : ∃ V7, V7 = w5.setCell ⟨g, j * 9 + 8, none⟩ (.string ⟨(mkS e).toArray⟩) := ⟨_, rfl⟩
        first | rw [← hV7] | (have hV7' := hV7; simp only [Nat.add_assoc, Nat.reduceAdd] at hV7' ⊢; rw [← hV7'])
        have HN9 : Hid (Nine 43 V7 g (j * 9) (cap * 9) [.int .i64 (cj : Int), .string ⟨(mkS (cj + 1)).toArray⟩, .int .i64 ((cj : Int) + 1 + 1), .slice a1 l1 m1, .int .i64 (d : Int), .string ⟨(mkS (d + 1)).toArray⟩, .int .i64 ((d : Int) + 1 + 1), .slice a2 l2 m2, .string ⟨(mkS e).toArray⟩] (cs1 ++ ([.int .i64 k1, .string s1, .int .i64 n1, .slice a1 l1 m1, .int .i64 k2, .string s2, .int .i64 n2, .slice a2 l2 m2, .string kf] ++ tl))) := by rw [hV7]; exact Nine.set HNC.out (i := 8) (by omega) (.string ⟨(mkS e).toArray⟩)
        have HO9 : Hid (Out [g] w4 V7) := by rw [hV7]; exact HOC.out.trans (Out.set (by simp) _ _ _)
        clear b0 f0 hV7
        have HR : Hid _ := HFINAL.out V3 w2 V6 w4 V7 HO3.out HX2.out HP1.out HO7.out HX4.out HP2.out HO9.out HN9.out
        clear HFINAL HMK HMH HMB HMH3 HMB3 HM1 HM2 HM3
        go_wp2
        go_roundw
        case rel => exact ⟨HR.out.2.1, j + 1, e + 1, by omega, by go_num, by go_num, HR.out.2.2, HR.out.1⟩
        case measure => simp [intOf]; omega
      · have HE : Hid (OwnClS 43 41 wr (markCs ks c) (.slice (some ⟨g, 0, none⟩) ks.length cap) (g :: F')) := by
          have := CRowAt.own HOJ.out
          rw [List.length_append, markCs_len, ← List.length_append, List.take_append_drop, List.take_of_length_le (by omega), List.drop_eq_nil_of_le (by omega), List.append_nil] at this
          exact this
        have HC2 : Hid (cj = c + claNs ks) := by
          have := HCJ.out
          rw [List.take_of_length_le (by omega)] at this
          exact this
        clear HCJ HOJ HO HND HBD HCM
        go_wp2
        go_ret
        exact ⟨by rw [← HC2.out]; rfl, HE.out, HB.out⟩
end Go.Proofs.YtmhmlkdoaojimapGreatDoor

/- laws.markTermS: what is marked is owned as before, and nothing else has turned. -/
import Derived.Test.YtmhmlkdoaojimapDoorRows
import Derived.Test.YtmhmlkdoaojimapDoorMrg13
import Derived.ProofKit
namespace Go.Proofs.YtmhmlkdoaojimapDoor
open Go.RowKit

def Tm.kids : Tm → List Tm
  | .mk _ _ _ ks => ks

def MarkOk (ks : List Tm) : Prop := ∀ (w : World) (sl : Value) (F : List Nat) (c : Nat), OwnS 46 w ks sl F → F.Nodup → 0 < c → c + 3 * ns ks ≤ 2305843009213693952 →
  Calls Tryd.prog 43 #[sl, .int .i64 (c : Int)] w fun e w' => e = .returned (.int .i64 ((c + 3 * ns ks : Nat) : Int)) ∧ OwnS 46 w' (markL ks c) sl F ∧ Out F w w'

theorem take_setL {cur : Array Value} {m i : Nat} {v : Value} : (cur.setIfInBounds i v).toList.take m = (cur.toList.take m).set i v := by
  rw [Array.toList_setIfInBounds, List.take_set]

theorem set3 {cs1 cs' : List Value} {c0 c1 c2 c3 d0 d1 d2 : Value} {i : Nat} (h : cs1.length = i) :
    (((cs1 ++ c0 :: c1 :: c2 :: c3 :: cs').set i d0).set (i + 1) d1).set (i + 2) d2 = cs1 ++ d0 :: d1 :: d2 :: c3 :: cs' := by
  subst h
  rw [List.set_append_right _ _ (by omega), List.set_append_right _ _ (by omega), List.set_append_right _ _ (by omega)]
  simp [show cs1.length + 1 - cs1.length = 1 by omega, show cs1.length + 2 - cs1.length = 2 by omega]

/-- the row of terms in block g, its kids' rows in F -/
def RowAt (e : TypeId) (w : World) (g cap : Nat) (ks : List Tm) (F : List Nat) : Prop :=
  ∃ cs cur, w.heap[g]? = some (.cells cur e (0, 0)) ∧ ks.length ≤ cap ∧ cap ≤ maxLen ∧ cur.size = cap * 4 ∧ cur.toList.take (ks.length * 4) = cs ∧ OwnRow e w ks cs F
theorem RowAt.own {e : TypeId} {w : World} {g cap : Nat} {ks : List Tm} {F : List Nat} (h : RowAt e w g cap ks F) : OwnS e w ks (.slice (some ⟨g, 0, none⟩) ks.length cap) (g :: F) := by
  obtain ⟨cs, cur, h1, h2, h3, h4, h5, h6⟩ := h
  exact Or.inr ⟨g, cap, cs, F, rfl, ⟨OwnRow.len _ _ _ h6, Or.inr ⟨g, cap, cur, rfl, Nat.zero_le _, h1, h2, h3, h4, h5⟩⟩, rfl, h6⟩
theorem RowAt.of {e : TypeId} {w : World} {g cap : Nat} {ks : List Tm} {cs : List Value} {F : List Nat} (hrow : w.ownsRow 0 e 4 (.slice (some ⟨g, 0, none⟩) ks.length cap) ks.length cs) (hr : OwnRow e w ks cs F) : RowAt e w g cap ks F := by
  rcases hrow.2 with ⟨h, _⟩ | ⟨g', cap', cur, h1, hz, hh, hnc, hcm, hcs, htk⟩
  · cases h
  · cases h1
    exact ⟨cs, cur, hh, hnc, hcm, hcs, htk, hr⟩

set_option maxHeartbeats 4000000 in
set_option maxRecDepth 20000 in
theorem mark_list (ks : List Tm) (hks : ∀ t ∈ ks, MarkOk t.kids) : MarkOk ks := by
  intro w sl F c hown hnd hc0 hcm
  have hown0 := hown
  rcases hown with ⟨rfl, rfl, rfl⟩ | ⟨g, cap, cs, F', rfl, hrow, rfl, hr⟩
  · have HO : Hid (OwnS 46 w [] (.slice none 0 0) []) := hown0
    clear hown0 hks
    go_enter Tryd.func43, Tryd.ntmps43
    go_wp2
    refine wp_loop_rounds 1 ?_
    rw [rounds_succ]
    go_wp2
    go_ret
    exact ⟨by simp [ns, Tm.n.ns], by rw [markL_nil]; exact HO.out, Out.refl _ _⟩
  · have hra := RowAt.of hrow hr
    have hcap : ks.length ≤ cap ∧ cap ≤ maxLen := by
      obtain ⟨_, _, _, h2, h3, _⟩ := hra
      exact ⟨h2, h3⟩
    unfold maxLen at hcap
    obtain ⟨hcl, hcm2⟩ := hcap
    have HO : Hid _ := hra
    have HND : Hid _ := hnd
    have HKS : Hid _ := hks
    clear hown0 hks hrow hr hnd hra
    have HBD : Hid (∀ j, c + 3 * ns (ks.take j) ≤ c + 3 * ns ks) := fun j => by
      have : ns (ks.take j) + ns (ks.drop j) = ns ks := by rw [← ns_append, List.take_append_drop]
      omega
    go_enter Tryd.func43, Tryd.ntmps43
    go_wp2
    go_loopw [1, 5] (fun vk vi wr => Hid (Out (g :: F') w wr) ∧ ∃ (j cj : Nat), j ≤ ks.length ∧ vi = .int .i64 (j : Int) ∧ vk = .int .i64 (cj : Int) ∧ Hid (cj = c + 3 * ns (ks.take j)) ∧ Hid (RowAt 46 wr g cap (markL (ks.take j) c ++ ks.drop j) F')) (fun _ i _ => ks.length - (intOf i).toNat)
    case atStart => exact ⟨Out.refl _ _, 0, c, by omega, rfl, rfl, by show _ = _; simp [ns, Tm.n.ns], by show RowAt _ _ _ _ _ _; rw [List.take_zero, markL_nil]; exact HO.out⟩
    case round =>
      obtain ⟨HB, j, cj, hj, rfl, rfl, HCJ, HOJ⟩ := hrel
      have hcjm : cj ≤ 2305843009213693952 := by have := HCJ.out; have := HBD.out j; omega
      have hcj0 : 0 < cj := by have := HCJ.out; omega
      by_cases hlt : j < ks.length
      · obtain ⟨cs, cur, hblk, hnc, hcpm, hcs, htk, hr⟩ := HOJ.out
        have hlen : (markL (ks.take j) c ++ ks.drop j).length = ks.length := by rw [List.length_append, markL_len, ← List.length_append, List.take_append_drop]
        rw [hlen] at hnc htk
        rw [List.drop_eq_getElem_cons hlt] at hr
        obtain ⟨cs1, cs2, G1, G2, rfl, rfl, hr1, hr2⟩ := OwnRow.split _ _ _ _ hr
        unfold OwnRow at hr2
        obtain ⟨c0, c1, c2, c3, cs', G3, G4, rfl, rfl, hr3, hr4⟩ := hr2
        obtain ⟨kj, hkj⟩ : ∃ kj, kj = ks[j] := ⟨_, rfl⟩
        have hl1 : cs1.length = j * 4 := by rw [OwnRow.len _ _ _ hr1, markL_len, List.length_take]; congr 1; omega
        have hK1 : MarkOk ks[j].kids := HKS.out ks[j] (List.getElem_mem hlt)
        rw [← hkj] at hr3 hK1
        obtain ⟨k1, s1, n1, kids⟩ := kj
        obtain ⟨sl1, he, hs1⟩ := own_open hr3
        obtain ⟨rfl, rfl, rfl, rfl⟩ : c0 = .int .i64 k1 ∧ c1 = .string s1 ∧ c2 = .int .i64 n1 ∧ c3 = sl1 := by simpa using he
        have hK : kids = ks[j].kids := by rw [← hkj]; rfl
        have hKn : ks[j].n = 1 + ns kids := by rw [← hkj, n_mk]
        clear he
        have hsz : j * 4 + 3 < cur.size := by omega
        have HAT : Hid (∀ i, i < 4 → cur[j * 4 + i]? = [Value.int .i64 k1, .string s1, .int .i64 n1, c3][i]?) := fun i hi => by
          have h1 : (cur.toList.take (ks.length * 4))[j * 4 + i]? = [Value.int .i64 k1, .string s1, .int .i64 n1, c3][i]? := by
            rw [htk, List.getElem?_append_right (by omega), hl1, show j * 4 + i - j * 4 = i by omega]
            match i, hi with
            | 0, _ => rfl
            | 1, _ => rfl
            | 2, _ => rfl
            | 3, _ => rfl
          rw [List.getElem?_take_of_lt (by omega)] at h1
          simpa using h1
        obtain ⟨ao1, len1, cap1, rfl⟩ : ∃ ao1 len1 cap1, c3 = .slice ao1 len1 cap1 := by
          rcases hs1 with ⟨rfl, _⟩ | ⟨g1, cp1, _, _, rfl, _⟩
          · exact ⟨_, _, _, rfl⟩
          · exact ⟨_, _, _, rfl⟩
        have hgF : (g :: (G1 ++ (G3 ++ G4))).Nodup := HND.out
        rw [List.nodup_cons] at hgF
        obtain ⟨hgn, hFn⟩ := hgF
        have hglt : g < wr.heap.size := (Array.getElem?_eq_some_iff.1 hblk).1
        have a0 : wr.cell? ⟨g, j * 4, none⟩ = some (.int .i64 k1) := by
          have := HAT.out 0 (by omega)
          unfold World.cell?; rw [hblk]; simpa using this
        have f0 : wr.frozen? ⟨g, j * 4, none⟩ = false := blk_frozen hblk _
        obtain ⟨WA, hWA⟩ : ∃ WA, WA = wr.setCell ⟨g, j * 4, none⟩ (.int .i64 (cj : Int)) := ⟨_, rfl⟩
        have blkA : WA.heap[g]? = some (.cells (cur.setIfInBounds (j * 4) (.int .i64 (cj : Int))) 46 (0, 0)) := by rw [hWA]; exact blk_set hblk _
        have hszA : WA.heap.size = wr.heap.size := by rw [hWA]; simp [World.setCell]
        obtain ⟨mt, hmt⟩ : ∃ mt : ByteArray, mt = ⟨(mkS (cj + 1)).toArray⟩ := ⟨_, rfl⟩
        have HMK : Hid (Calls Tryd.prog 42 #[.int .i64 ((cj : Int) + 1)] (wr.setCell ⟨g, j * 4, none⟩ (.int .i64 (cj : Int))) fun e w' => e = .returned (.string mt) ∧ Below WA.heap.size WA w') := by
          have := mark_any (cj + 1) WA (by omega) (by omega)
          rw [← hWA, hmt]
          rwa [show ((cj + 1 : Nat) : Int) = (cj : Int) + 1 by omega] at this
        have HP : Hid (∀ w1, Below WA.heap.size WA w1 → w1.heap[g]? = some (.cells (cur.setIfInBounds (j * 4) (.int .i64 (cj : Int))) 46 (0, 0)) ∧ (w1.setCell ⟨g, j * 4 + 1, none⟩ (.string mt)).heap[g]? = some (.cells ((cur.setIfInBounds (j * 4) (.int .i64 (cj : Int))).setIfInBounds (j * 4 + 1) (.string mt)) 46 (0, 0)) ∧ ((w1.setCell ⟨g, j * 4 + 1, none⟩ (.string mt)).setCell ⟨g, j * 4 + 2, none⟩ (.int .i64 ((cj : Int) + 1 + 1))).heap[g]? = some (.cells (((cur.setIfInBounds (j * 4) (.int .i64 (cj : Int))).setIfInBounds (j * 4 + 1) (.string mt)).setIfInBounds (j * 4 + 2) (.int .i64 ((cj : Int) + 1 + 1))) 46 (0, 0))) := fun w1 hb1 => by
          have blk1 := (hb1.block g (by omega)).trans blkA
          have blk2 := blk_set (i := j * 4 + 1) blk1 (.string mt)
          exact ⟨blk1, blk2, blk_set (i := j * 4 + 2) blk2 (.int .i64 ((cj : Int) + 1 + 1))⟩
        have HF : Hid (∀ w1, Below WA.heap.size WA w1 → w1.cell? ⟨g, j * 4 + 1, none⟩ = some (.string s1) ∧ w1.frozen? ⟨g, j * 4 + 1, none⟩ = false ∧ (w1.setCell ⟨g, j * 4 + 1, none⟩ (.string mt)).cell? ⟨g, j * 4 + 2, none⟩ = some (.int .i64 n1) ∧ (w1.setCell ⟨g, j * 4 + 1, none⟩ (.string mt)).frozen? ⟨g, j * 4 + 2, none⟩ = false ∧ ((w1.setCell ⟨g, j * 4 + 1, none⟩ (.string mt)).setCell ⟨g, j * 4 + 2, none⟩ (.int .i64 ((cj : Int) + 1 + 1))).cell? ⟨g, j * 4 + 3, none⟩ = some (.slice ao1 len1 cap1)) := fun w1 hb1 => by
          obtain ⟨blk1, blk2, blk3⟩ := HP.out w1 hb1
          refine ⟨?_, blk_frozen blk1 _, ?_, blk_frozen blk2 _, ?_⟩
          · have := HAT.out 1 (by omega)
            unfold World.cell?; rw [blk1]
            show (cur.setIfInBounds (j * 4) _)[j * 4 + 1]? = _
            rw [Array.getElem?_setIfInBounds, if_neg (by omega)]
            simpa using this
          · have := HAT.out 2 (by omega)
            unfold World.cell?; rw [blk2]
            show ((cur.setIfInBounds (j * 4) _).setIfInBounds (j * 4 + 1) _)[j * 4 + 2]? = _
            rw [Array.getElem?_setIfInBounds, if_neg (by omega), Array.getElem?_setIfInBounds, if_neg (by omega)]
            simpa using this
          · have := HAT.out 3 (by omega)
            unfold World.cell?; rw [blk3]
            show (((cur.setIfInBounds (j * 4) _).setIfInBounds (j * 4 + 1) _).setIfInBounds (j * 4 + 2) _)[j * 4 + 3]? = _
            rw [Array.getElem?_setIfInBounds, if_neg (by omega), Array.getElem?_setIfInBounds, if_neg (by omega), Array.getElem?_setIfInBounds, if_neg (by omega)]
            simpa using this
        have HSAME : Hid (∀ w1, Below WA.heap.size WA w1 → ∀ f, f < wr.heap.size → f ≠ g → ((w1.setCell ⟨g, j * 4 + 1, none⟩ (.string mt)).setCell ⟨g, j * 4 + 2, none⟩ (.int .i64 ((cj : Int) + 1 + 1))).heap[f]? = wr.heap[f]?) := fun w1 hb1 f hf hne => by
          rw [blk_other _ hne, blk_other _ hne, hb1.block f (by omega), hWA, blk_other _ hne]
        have HG3 : Hid (∀ f ∈ G3, f < wr.heap.size ∧ f ≠ g) := fun f hf => ⟨Own.lt _ _ _ hr3 f hf, fun e => hgn (by rw [← e]; simp [hf])⟩
        have hbd3 : cj + 3 + 3 * ns kids ≤ 2305843009213693952 := by
          have h1 := HCJ.out
          have h2 := HBD.out (j + 1)
          rw [List.take_succ_eq_append_getElem hlt, ns_append, show ns [ks[j]] = ks[j].n by simp [ns, Tm.n.ns], hKn] at h2
          omega
        have hnd3 : G3.Nodup := by
          rw [List.nodup_append] at hFn
          have := hFn.2.1
          rw [List.nodup_append] at this
          exact this.1
        have HREC : Hid (∀ w1, Below WA.heap.size WA w1 → Calls Tryd.prog 43 #[.slice ao1 len1 cap1, .int .i64 ((cj : Int) + 1 + 1 + 1)] ((w1.setCell ⟨g, j * 4 + 1, none⟩ (.string mt)).setCell ⟨g, j * 4 + 2, none⟩ (.int .i64 ((cj : Int) + 1 + 1))) fun e w' => e = .returned (.int .i64 ((cj + 3 + 3 * ns kids : Nat) : Int)) ∧ OwnS 46 w' (markL kids (cj + 3)) (.slice ao1 len1 cap1) G3 ∧ Out G3 ((w1.setCell ⟨g, j * 4 + 1, none⟩ (.string mt)).setCell ⟨g, j * 4 + 2, none⟩ (.int .i64 ((cj : Int) + 1 + 1))) w') := fun w1 hb1 => by
          have this : MarkOk kids := hK1
          have h2 := this ((w1.setCell ⟨g, j * 4 + 1, none⟩ (.string mt)).setCell ⟨g, j * 4 + 2, none⟩ (.int .i64 ((cj : Int) + 1 + 1))) (.slice ao1 len1 cap1) G3 (cj + 3) (hs1.keep fun f hf => HSAME.out w1 hb1 f (HG3.out f hf).1 (HG3.out f hf).2) hnd3 (by omega) hbd3
          rwa [show ((cj + 3 : Nat) : Int) = (cj : Int) + 1 + 1 + 1 by omega] at h2
        have HNX : Hid (∀ w1 w4, Below WA.heap.size WA w1 → OwnS 46 w4 (markL kids (cj + 3)) (.slice ao1 len1 cap1) G3 → Out G3 ((w1.setCell ⟨g, j * 4 + 1, none⟩ (.string mt)).setCell ⟨g, j * 4 + 2, none⟩ (.int .i64 ((cj : Int) + 1 + 1))) w4 → RowAt 46 w4 g cap (markL (ks.take (j + 1)) c ++ ks.drop (j + 1)) (G1 ++ (G3 ++ G4)) ∧ Out (g :: (G1 ++ (G3 ++ G4))) w w4) := fun w1 w4 hb1 ho4 hou => by
          obtain ⟨blk1, blk2, blk3⟩ := HP.out w1 hb1
          have hsz3 : (((w1.setCell ⟨g, j * 4 + 1, none⟩ (.string mt)).setCell ⟨g, j * 4 + 2, none⟩ (.int .i64 ((cj : Int) + 1 + 1)))).heap.size = w1.heap.size := by simp [World.setCell]
          have hszw : wr.heap.size ≤ w1.heap.size := by have := hb1.size; omega
          have hg3 : g ∉ G3 := fun h => hgn (by simp [h])
          have blk4 := (hou.block g (by omega) hg3).trans blk3
          have hoth : ∀ f, f < wr.heap.size → f ≠ g → f ∉ G3 → w4.heap[f]? = wr.heap[f]? := fun f hf hne hn => (hou.block f (by omega) hn).trans (HSAME.out w1 hb1 f hf hne)
          have hlist : markL (ks.take (j + 1)) c ++ ks.drop (j + 1) = markL (ks.take j) c ++ ((Tm.mk k1 s1 n1 kids).markT cj :: ks.drop (j + 1)) := by
            rw [List.take_succ_eq_append_getElem hlt, markL_append, markL_cons, markL_nil, hkj, HCJ.out]
            simp
          rw [List.nodup_append] at hFn
          obtain ⟨_, hn2, hdis⟩ := hFn
          rw [List.nodup_append] at hn2
          obtain ⟨_, _, hdis2⟩ := hn2
          refine ⟨?_, ?_⟩
          · refine ⟨cs1 ++ Value.int .i64 (cj : Int) :: .string mt :: .int .i64 ((cj : Int) + 1 + 1) :: .slice ao1 len1 cap1 :: cs', _, blk4, ?_, hcpm, ?_, ?_, ?_⟩
            · rw [List.length_append, markL_len, ← List.length_append, List.take_append_drop]; exact hnc
            · simp only [Array.size_setIfInBounds]; exact hcs
            · rw [List.length_append, markL_len, ← List.length_append, List.take_append_drop, take_setL, take_setL, take_setL, htk]
              exact set3 hl1
            · rw [hlist]
              refine OwnRow.join _ _ _ _ _ _ (OwnRow.keep _ _ _ hr1 fun f hf => hoth f (OwnRow.lt _ _ _ hr1 f hf) (fun e => hgn (by rw [← e]; simp [hf])) (fun h3 => hdis f hf f (by simp [h3]) rfl)) ?_
              unfold OwnRow
              refine ⟨_, _, _, _, cs', G3, G4, rfl, rfl, ?_, OwnRow.keep _ _ _ hr4 fun f hf => hoth f (OwnRow.lt _ _ _ hr4 f hf) (fun e => hgn (by rw [← e]; simp [hf])) (fun h3 => hdis2 f h3 f hf rfl)⟩
              rw [markT_mk, ← hmt, show (cj : Int) + 1 + 1 = ((cj + 2 : Nat) : Int) by omega]
              refine own_mk ho4 (by omega) (by omega) ?_
              have := mkS_len (cj + 1) (by omega)
              rw [hmt]
              show (mkS (cj + 1)).toArray.size ≤ maxLen
              unfold maxLen
              simp only [List.size_toArray]
              omega
          · have hg : g ∈ g :: (G1 ++ (G3 ++ G4)) := by simp
            have o1 : Out (g :: (G1 ++ (G3 ++ G4))) wr WA := by rw [hWA]; exact Out.set hg _ _ _
            exact HB.out.trans (o1.trans ((Out.of_below hb1).trans ((Out.set hg _ _ _).trans ((Out.set hg _ _ _).trans (hou.mono fun f hf => by simp [hf])))))
        have HNC : Hid (cj + 3 + 3 * ns kids = c + 3 * ns (ks.take (j + 1))) := by
          show _ = _
          rw [List.take_succ_eq_append_getElem hlt, ns_append, show ns [ks[j]] = ks[j].n by simp [ns, Tm.n.ns], hKn, HCJ.out]
          omega
        clear blkA hblk hnc hcpm hcs htk hr hr1 hr3 hr4 hK1 hs1 hK hKn hlen hkj hgn hFn hnd3 HAT HP HSAME HG3 HKS HO HND HOJ HBD hWA hmt
        go_wp2_with (first | (go_at_call 42; refine (Calls.mono HMK.out ?_); rintro e w1 ⟨rfl, hb1⟩; have HB1 : Hid _ := hb1; obtain ⟨q1, q2, q3, q4, q5⟩ := HF.out w1 hb1; clear hb1) | (go_at_call 43; refine (Calls.mono (HREC.out w1 HB1.out) ?_); rintro e w4 ⟨rfl, ho4, hou⟩; have HN4 : Hid _ := HNX.out w1 w4 HB1.out ho4 hou; clear ho4 hou))
        go_roundw
        case rel => exact ⟨HN4.out.2, j + 1, cj + 3 + 3 * ns kids, by omega, by go_num, rfl, HNC.out, HN4.out.1⟩
        case measure => simp [intOf]; omega
      · have HE : Hid (OwnS 46 wr (markL ks c) (.slice (some ⟨g, 0, none⟩) ks.length cap) (g :: F')) := by
          have := HOJ.out.own
          rw [List.length_append, markL_len, ← List.length_append, List.take_append_drop, List.take_of_length_le (by omega), List.drop_eq_nil_of_le (by omega), List.append_nil] at this
          exact this
        have HC2 : Hid (cj = c + 3 * ns ks) := by
          have := HCJ.out
          rw [List.take_of_length_le (by omega)] at this
          exact this
        clear HCJ HOJ HO HKS HND HBD
        go_wp2
        go_ret
        exact ⟨by rw [← HC2.out]; rfl, HE.out, HB.out⟩

theorem mark_all (ks : List Tm) : MarkOk ks :=
  tm_ind (p := fun t => MarkOk t.kids) (fun _ _ _ ks h => mark_list ks h) (Tm.mk 0 ⟨#[]⟩ 0 ks)
end Go.Proofs.YtmhmlkdoaojimapDoor

/- Four texts in one. -/
import Derived.Test.YtmhmlkdoaojimapMrg1
import Derived.Test.YtmhmlkdoaojimapMrg2
import Derived.Test.YtmhmlkdoaojimapMrg7
import Derived.Test.YtmhmlkdoaojimapRows
import Derived.ProofKit
import Derived.Test.YtmhmlkdoaojimapMrg4
/- How many terms a term has. Of no program. -/
namespace Go.Proofs.Ytmhmlkdoaojimap

/-- how many terms -/
def Tm.n : Tm → Nat
  | .mk _ _ _ ks => 1 + ns ks
where ns : List Tm → Nat
  | [] => 0
  | t :: ts => t.n + ns ts
abbrev ns := Tm.n.ns
theorem ns_append (l m : List Tm) : ns (l ++ m) = ns l + ns m := by
  induction l with
  | nil => simp [ns, Tm.n.ns]
  | cons t r ih => simp only [List.cons_append, ns, Tm.n.ns] at *; omega
theorem n_mk (k : Int) (s : ByteArray) (m : Int) (ks : List Tm) : (Tm.mk k s m ks).n = 1 + ns ks := by simp [Tm.n, ns]
theorem ns_take_le (ks : List Tm) (j : Nat) : ns (ks.take j) ≤ ns ks := by
  have : ns (ks.take j) + ns (ks.drop j) = ns ks := by rw [← ns_append, List.take_append_drop]
  omega
end Go.Proofs.Ytmhmlkdoaojimap

/- A marked term: every field of its kids a number of its own. Plain. -/
namespace Go.Proofs.Ytmhmlkdoaojimap
open Go.RowKit

def Tm.markT : Tm → Nat → Tm
  | .mk _ _ _ ks, c => .mk (c : Int) ⟨(mkS (c + 1)).toArray⟩ ((c + 2 : Nat) : Int) (markL ks (c + 3))
where markL : List Tm → Nat → List Tm
  | [], _ => []
  | t :: ts, c => t.markT c :: markL ts (c + 3 * t.n)
abbrev markL := Tm.markT.markL
theorem markL_nil (c : Nat) : markL [] c = [] := by simp [markL, Tm.markT.markL]
theorem markL_cons (t : Tm) (ts : List Tm) (c : Nat) : markL (t :: ts) c = t.markT c :: markL ts (c + 3 * t.n) := by simp [markL, Tm.markT.markL]
theorem markT_mk (k : Int) (s : ByteArray) (n : Int) (ks : List Tm) (c : Nat) : (Tm.mk k s n ks).markT c = .mk (c : Int) ⟨(mkS (c + 1)).toArray⟩ ((c + 2 : Nat) : Int) (markL ks (c + 3)) := by simp [Tm.markT, markL]
theorem ns_cons (t : Tm) (ts : List Tm) : ns (t :: ts) = t.n + ns ts := by simp [ns, Tm.n.ns]
theorem markL_append (l m : List Tm) (c : Nat) : markL (l ++ m) c = markL l c ++ markL m (c + 3 * ns l) := by
  induction l generalizing c with
  | nil => simp [markL_nil, ns, Tm.n.ns]
  | cons t r ih => rw [List.cons_append, markL_cons, markL_cons, ih, ns_cons, List.cons_append, show c + 3 * t.n + 3 * ns r = c + 3 * (t.n + ns r) by omega]
theorem markL_len (l : List Tm) (c : Nat) : (markL l c).length = l.length := by
  induction l generalizing c with
  | nil => simp [markL_nil]
  | cons t r ih => rw [markL_cons, List.length_cons, List.length_cons, ih]
theorem markL_at {l : List Tm} {c j : Nat} (h : j < l.length) : (markL l c)[j]'(by rw [markL_len]; exact h) = l[j].markT (c + 3 * ns (l.take j)) := by
  induction l generalizing c j with
  | nil => simp at h
  | cons t r ih =>
    cases j with
    | zero => simp [markL_cons, ns, Tm.n.ns]
    | succ j =>
      simp only [markL_cons, List.getElem_cons_succ, List.take_succ_cons, ns_cons]
      rw [ih (by simpa using h)]
      congr 1
      omega

theorem mkS_len (k : Nat) (h : k ≤ 4611686018427387904) : (mkS k).length ≤ 40 := by
  unfold mkS
  have := decR_len 20 k (by omega)
  simp only [List.length_cons]
  omega

theorem n_le_wt (t : Tm) : t.n ≤ t.wt + 1 := by
  refine tm_ind (p := fun t => t.n ≤ t.wt + 1) ?_ t
  intro k s n ks h
  rw [n_mk]
  have e : (Tm.mk k s n ks).wt = s.size + ks.length + wts ks := by simp [Tm.wt, wts]
  rw [e]
  have : ns ks ≤ wts ks + ks.length := by
    clear e
    induction ks with
    | nil => simp [ns, Tm.n.ns]
    | cons t r ih =>
      have h1 := h t (by simp)
      have h2 := ih fun t' ht' => h t' (by simp [ht'])
      rw [ns_cons]
      have e2 : wts (t :: r) = t.wt + wts r := by simp [wts, Tm.wt.wts]
      rw [e2, List.length_cons]
      omega
  omega

theorem OwnRow.split {e : TypeId} {w : World} : ∀ (l m : List Tm) (cs : List Value) (F : List Nat), OwnRow e w (l ++ m) cs F →
    ∃ cs1 cs2 F1 F2, cs = cs1 ++ cs2 ∧ F = F1 ++ F2 ∧ OwnRow e w l cs1 F1 ∧ OwnRow e w m cs2 F2
  | [], m, cs, F, h => ⟨[], cs, [], F, rfl, rfl, by unfold OwnRow; exact ⟨rfl, rfl⟩, h⟩
  | t :: l, m, cs, F, h => by
    rw [List.cons_append] at h
    unfold OwnRow at h
    obtain ⟨c0, c1, c2, c3, cs', F1, F2, rfl, rfl, h1, h2⟩ := h
    obtain ⟨a, b, G1, G2, rfl, rfl, h3, h4⟩ := OwnRow.split l m cs' F2 h2
    refine ⟨c0 :: c1 :: c2 :: c3 :: a, b, F1 ++ G1, G2, by simp, by simp, ?_, h4⟩
    unfold OwnRow
    exact ⟨c0, c1, c2, c3, a, F1, G1, rfl, rfl, h1, h3⟩
theorem OwnRow.join {e : TypeId} {w : World} : ∀ (l m : List Tm) (cs1 cs2 : List Value) (F1 F2 : List Nat), OwnRow e w l cs1 F1 → OwnRow e w m cs2 F2 → OwnRow e w (l ++ m) (cs1 ++ cs2) (F1 ++ F2)
  | [], m, cs1, cs2, F1, F2, h1, h2 => by
    unfold OwnRow at h1
    obtain ⟨rfl, rfl⟩ := h1
    exact h2
  | t :: l, m, cs1, cs2, F1, F2, h1, h2 => by
    unfold OwnRow at h1
    obtain ⟨c0, c1, c2, c3, cs', G1, G2, rfl, rfl, h3, h4⟩ := h1
    show OwnRow e w (t :: (l ++ m)) _ _
    unfold OwnRow
    exact ⟨c0, c1, c2, c3, cs' ++ cs2, G1, G2 ++ F2, by simp, by simp, h3, OwnRow.join l m cs' cs2 G2 F2 h4 h2⟩

/-- nothing that was there has turned, but the blocks F -/
structure Out (F : List Nat) (w w' : World) : Prop where
  os : w'.os = w.os
  tape : w'.tape = w.tape
  output : w'.output = w.output
  size : w.heap.size ≤ w'.heap.size
  block : ∀ k, k < w.heap.size → k ∉ F → w'.heap[k]? = w.heap[k]?
theorem Out.refl (F : List Nat) (w : World) : Out F w w := ⟨rfl, rfl, rfl, Nat.le_refl _, fun _ _ _ => rfl⟩
theorem Out.of_below {F : List Nat} {w w' : World} (h : Below w.heap.size w w') : Out F w w' := ⟨h.os, h.tape, h.output, h.size, fun k hk _ => h.block k hk⟩
theorem Out.set {F : List Nat} {g : Nat} (hg : g ∈ F) (k : Nat) (w : World) (v : Value) : Out F w (w.setCell ⟨g, k, none⟩ v) :=
  ⟨rfl, rfl, rfl, by simp [World.setCell], fun j _ hne => by
    have : g ≠ j := fun h => hne (h ▸ hg)
    simp [World.setCell, Array.getElem?_modify, this]⟩
theorem Out.trans {F : List Nat} {w w' w'' : World} (h : Out F w w') (h' : Out F w' w'') : Out F w w'' :=
  ⟨h'.os.trans h.os, h'.tape.trans h.tape, h'.output.trans h.output, Nat.le_trans h.size h'.size, fun k hk hne => (h'.block k (Nat.lt_of_lt_of_le hk h.size) hne).trans (h.block k hk hne)⟩
theorem Out.mono {F F' : List Nat} {w w' : World} (h : Out F w w') (hs : ∀ f ∈ F, f ∈ F') : Out F' w w' :=
  ⟨h.os, h.tape, h.output, h.size, fun k hk hne => h.block k hk fun h => hne (hs k h)⟩
theorem Out.below {F : List Nat} {B : Nat} {w w' : World} (h : Out F w w') (hF : ∀ f ∈ F, B ≤ f) (hB : B ≤ w.heap.size) : Below B w w' :=
  ⟨h.os, h.tape, h.output, h.size, fun k hk => h.block k (by omega) fun hk' => by have := hF k hk'; omega⟩
end Go.Proofs.Ytmhmlkdoaojimap

/- laws.markTermS: what is marked is owned as before, and nothing else has turned. -/
namespace Go.Proofs.Ytmhmlkdoaojimap
open Go.RowKit

def Tm.kids : Tm → List Tm
  | .mk _ _ _ ks => ks

def MarkOk (ks : List Tm) : Prop := ∀ (w : World) (sl : Value) (F : List Nat) (c : Nat), OwnS 54 w ks sl F → F.Nodup → 0 < c → c + 3 * ns ks ≤ 2305843009213693952 →
  Calls Try.prog 37 #[sl, .int .i64 (c : Int)] w fun e w' => e = .returned (.int .i64 ((c + 3 * ns ks : Nat) : Int)) ∧ OwnS 54 w' (markL ks c) sl F ∧ Out F w w'

theorem take_setL {cur : Array Value} {m i : Nat} {v : Value} : (cur.setIfInBounds i v).toList.take m = (cur.toList.take m).set i v := by
  rw [Array.toList_setIfInBounds, List.take_set]

theorem set3 {cs1 cs' : List Value} {c0 c1 c2 c3 d0 d1 d2 : Value} {i : Nat} (h : cs1.length = i) :
    (((cs1 ++ c0 :: c1 :: c2 :: c3 :: cs').set i d0).set (i + 1) d1).set (i + 2) d2 = cs1 ++ d0 :: d1 :: d2 :: c3 :: cs' := by
  subst h
  rw [List.set_append_right _ _ (by omega), List.set_append_right _ _ (by omega), List.set_append_right _ _ (by omega)]
  simp [show cs1.length + 1 - cs1.length = 1 by omega, show cs1.length + 2 - cs1.length = 2 by omega]

/-- the row of terms in block g, its kids' rows in F -/
def RowAt (e : TypeId) (w : World) (g cap : Nat) (ks : List Tm) (F : List Nat) : Prop :=
  ∃ cs cur, w.heap[g]? = some (.cells cur e (0, 0)) ∧ ks.length ≤ cap ∧ cap ≤ maxLen ∧ cur.size = cap * 4 ∧ cur.toList.take (ks.length * 4) = cs ∧ OwnRow e w ks cs F
theorem RowAt.own {e : TypeId} {w : World} {g cap : Nat} {ks : List Tm} {F : List Nat} (h : RowAt e w g cap ks F) : OwnS e w ks (.slice (some ⟨g, 0, none⟩) ks.length cap) (g :: F) := by
  obtain ⟨cs, cur, h1, h2, h3, h4, h5, h6⟩ := h
  exact Or.inr ⟨g, cap, cs, F, rfl, ⟨OwnRow.len _ _ _ h6, Or.inr ⟨g, cap, cur, rfl, Nat.zero_le _, h1, h2, h3, h4, h5⟩⟩, rfl, h6⟩
theorem RowAt.of {e : TypeId} {w : World} {g cap : Nat} {ks : List Tm} {cs : List Value} {F : List Nat} (hrow : w.ownsRow 0 e 4 (.slice (some ⟨g, 0, none⟩) ks.length cap) ks.length cs) (hr : OwnRow e w ks cs F) : RowAt e w g cap ks F := by
  rcases hrow.2 with ⟨h, _⟩ | ⟨g', cap', cur, h1, hz, hh, hnc, hcm, hcs, htk⟩
  · cases h
  · cases h1
    exact ⟨cs, cur, hh, hnc, hcm, hcs, htk, hr⟩

set_option maxHeartbeats 4000000 in
set_option maxRecDepth 20000 in
theorem mark_list (ks : List Tm) (hks : ∀ t ∈ ks, MarkOk t.kids) : MarkOk ks := by
  intro w sl F c hown hnd hc0 hcm
  have hown0 := hown
  rcases hown with ⟨rfl, rfl, rfl⟩ | ⟨g, cap, cs, F', rfl, hrow, rfl, hr⟩
  · have HO : Hid (OwnS 54 w [] (.slice none 0 0) []) := hown0
    clear hown0 hks
    go_enter Try.func37, Try.ntmps37
    go_wp2
    refine wp_loop_rounds 1 ?_
    rw [rounds_succ]
    go_wp2
    go_ret
    exact ⟨by simp [ns, Tm.n.ns], by rw [markL_nil]; exact HO.out, Out.refl _ _⟩
  · have hra := RowAt.of hrow hr
    have hcap : ks.length ≤ cap ∧ cap ≤ maxLen := by
      obtain ⟨_, _, _, h2, h3, _⟩ := hra
      exact ⟨h2, h3⟩
    unfold maxLen at hcap
    obtain ⟨hcl, hcm2⟩ := hcap
    have HO : Hid _ := hra
    have HND : Hid _ := hnd
    have HKS : Hid _ := hks
    clear hown0 hks hrow hr hnd hra
    have HBD : Hid (∀ j, c + 3 * ns (ks.take j) ≤ c + 3 * ns ks) := fun j => by
      have : ns (ks.take j) + ns (ks.drop j) = ns ks := by rw [← ns_append, List.take_append_drop]
      omega
    go_enter Try.func37, Try.ntmps37
    go_wp2
    go_loopw [1, 5] (fun vk vi wr => Hid (Out (g :: F') w wr) ∧ ∃ (j cj : Nat), j ≤ ks.length ∧ vi = .int .i64 (j : Int) ∧ vk = .int .i64 (cj : Int) ∧ Hid (cj = c + 3 * ns (ks.take j)) ∧ Hid (RowAt 54 wr g cap (markL (ks.take j) c ++ ks.drop j) F')) (fun _ i _ => ks.length - (intOf i).toNat)
    case atStart => exact ⟨Out.refl _ _, 0, c, by omega, rfl, rfl, by show _ = _; simp [ns, Tm.n.ns], by show RowAt _ _ _ _ _ _; rw [List.take_zero, markL_nil]; exact HO.out⟩
    case round =>
      obtain ⟨HB, j, cj, hj, rfl, rfl, HCJ, HOJ⟩ := hrel
      have hcjm : cj ≤ 2305843009213693952 := by have := HCJ.out; have := HBD.out j; omega
      have hcj0 : 0 < cj := by have := HCJ.out; omega
      by_cases hlt : j < ks.length
      · obtain ⟨cs, cur, hblk, hnc, hcpm, hcs, htk, hr⟩ := HOJ.out
        have hlen : (markL (ks.take j) c ++ ks.drop j).length = ks.length := by rw [List.length_append, markL_len, ← List.length_append, List.take_append_drop]
        rw [hlen] at hnc htk
        rw [List.drop_eq_getElem_cons hlt] at hr
        obtain ⟨cs1, cs2, G1, G2, rfl, rfl, hr1, hr2⟩ := OwnRow.split _ _ _ _ hr
        unfold OwnRow at hr2
        obtain ⟨c0, c1, c2, c3, cs', G3, G4, rfl, rfl, hr3, hr4⟩ := hr2
        obtain ⟨kj, hkj⟩ : ∃ kj, kj = ks[j] := ⟨_, rfl⟩
        have hl1 : cs1.length = j * 4 := by rw [OwnRow.len _ _ _ hr1, markL_len, List.length_take]; congr 1; omega
        have hK1 : MarkOk ks[j].kids := HKS.out ks[j] (List.getElem_mem hlt)
        rw [← hkj] at hr3 hK1
        obtain ⟨k1, s1, n1, kids⟩ := kj
        obtain ⟨sl1, he, hs1⟩ := own_open hr3
        obtain ⟨rfl, rfl, rfl, rfl⟩ : c0 = .int .i64 k1 ∧ c1 = .string s1 ∧ c2 = .int .i64 n1 ∧ c3 = sl1 := by simpa using he
        have hK : kids = ks[j].kids := by rw [← hkj]; rfl
        have hKn : ks[j].n = 1 + ns kids := by rw [← hkj, n_mk]
        clear he
        have hsz : j * 4 + 3 < cur.size := by omega
        have HAT : Hid (∀ i, i < 4 → cur[j * 4 + i]? = [Value.int .i64 k1, .string s1, .int .i64 n1, c3][i]?) := fun i hi => by
          have h1 : (cur.toList.take (ks.length * 4))[j * 4 + i]? = [Value.int .i64 k1, .string s1, .int .i64 n1, c3][i]? := by
            rw [htk, List.getElem?_append_right (by omega), hl1, show j * 4 + i - j * 4 = i by omega]
            match i, hi with
            | 0, _ => rfl
            | 1, _ => rfl
            | 2, _ => rfl
            | 3, _ => rfl
          rw [List.getElem?_take_of_lt (by omega)] at h1
          simpa using h1
        obtain ⟨ao1, len1, cap1, rfl⟩ : ∃ ao1 len1 cap1, c3 = .slice ao1 len1 cap1 := by
          rcases hs1 with ⟨rfl, _⟩ | ⟨g1, cp1, _, _, rfl, _⟩
          · exact ⟨_, _, _, rfl⟩
          · exact ⟨_, _, _, rfl⟩
        have hgF : (g :: (G1 ++ (G3 ++ G4))).Nodup := HND.out
        rw [List.nodup_cons] at hgF
        obtain ⟨hgn, hFn⟩ := hgF
        have hglt : g < wr.heap.size := (Array.getElem?_eq_some_iff.1 hblk).1
        have a0 : wr.cell? ⟨g, j * 4, none⟩ = some (.int .i64 k1) := by
          have := HAT.out 0 (by omega)
          unfold World.cell?; rw [hblk]; simpa using this
        have f0 : wr.frozen? ⟨g, j * 4, none⟩ = false := blk_frozen hblk _
        obtain ⟨WA, hWA⟩ : ∃ WA, WA = wr.setCell ⟨g, j * 4, none⟩ (.int .i64 (cj : Int)) := ⟨_, rfl⟩
        have blkA : WA.heap[g]? = some (.cells (cur.setIfInBounds (j * 4) (.int .i64 (cj : Int))) 54 (0, 0)) := by rw [hWA]; exact blk_set hblk _
        have hszA : WA.heap.size = wr.heap.size := by rw [hWA]; simp [World.setCell]
        obtain ⟨mt, hmt⟩ : ∃ mt : ByteArray, mt = ⟨(mkS (cj + 1)).toArray⟩ := ⟨_, rfl⟩
        have HMK : Hid (Calls Try.prog 36 #[.int .i64 ((cj : Int) + 1)] (wr.setCell ⟨g, j * 4, none⟩ (.int .i64 (cj : Int))) fun e w' => e = .returned (.string mt) ∧ Below WA.heap.size WA w') := by
          have := mark_any (cj + 1) WA (by omega) (by omega)
          rw [← hWA, hmt]
          rwa [show ((cj + 1 : Nat) : Int) = (cj : Int) + 1 by omega] at this
        have HP : Hid (∀ w1, Below WA.heap.size WA w1 → w1.heap[g]? = some (.cells (cur.setIfInBounds (j * 4) (.int .i64 (cj : Int))) 54 (0, 0)) ∧ (w1.setCell ⟨g, j * 4 + 1, none⟩ (.string mt)).heap[g]? = some (.cells ((cur.setIfInBounds (j * 4) (.int .i64 (cj : Int))).setIfInBounds (j * 4 + 1) (.string mt)) 54 (0, 0)) ∧ ((w1.setCell ⟨g, j * 4 + 1, none⟩ (.string mt)).setCell ⟨g, j * 4 + 2, none⟩ (.int .i64 ((cj : Int) + 1 + 1))).heap[g]? = some (.cells (((cur.setIfInBounds (j * 4) (.int .i64 (cj : Int))).setIfInBounds (j * 4 + 1) (.string mt)).setIfInBounds (j * 4 + 2) (.int .i64 ((cj : Int) + 1 + 1))) 54 (0, 0))) := fun w1 hb1 => by
          have blk1 := (hb1.block g (by omega)).trans blkA
          have blk2 := blk_set (i := j * 4 + 1) blk1 (.string mt)
          exact ⟨blk1, blk2, blk_set (i := j * 4 + 2) blk2 (.int .i64 ((cj : Int) + 1 + 1))⟩
        have HF : Hid (∀ w1, Below WA.heap.size WA w1 → w1.cell? ⟨g, j * 4 + 1, none⟩ = some (.string s1) ∧ w1.frozen? ⟨g, j * 4 + 1, none⟩ = false ∧ (w1.setCell ⟨g, j * 4 + 1, none⟩ (.string mt)).cell? ⟨g, j * 4 + 2, none⟩ = some (.int .i64 n1) ∧ (w1.setCell ⟨g, j * 4 + 1, none⟩ (.string mt)).frozen? ⟨g, j * 4 + 2, none⟩ = false ∧ ((w1.setCell ⟨g, j * 4 + 1, none⟩ (.string mt)).setCell ⟨g, j * 4 + 2, none⟩ (.int .i64 ((cj : Int) + 1 + 1))).cell? ⟨g, j * 4 + 3, none⟩ = some (.slice ao1 len1 cap1)) := fun w1 hb1 => by
          obtain ⟨blk1, blk2, blk3⟩ := HP.out w1 hb1
          refine ⟨?_, blk_frozen blk1 _, ?_, blk_frozen blk2 _, ?_⟩
          · have := HAT.out 1 (by omega)
            unfold World.cell?; rw [blk1]
            show (cur.setIfInBounds (j * 4) _)[j * 4 + 1]? = _
            rw [Array.getElem?_setIfInBounds, if_neg (by omega)]
            simpa using this
          · have := HAT.out 2 (by omega)
            unfold World.cell?; rw [blk2]
            show ((cur.setIfInBounds (j * 4) _).setIfInBounds (j * 4 + 1) _)[j * 4 + 2]? = _
            rw [Array.getElem?_setIfInBounds, if_neg (by omega), Array.getElem?_setIfInBounds, if_neg (by omega)]
            simpa using this
          · have := HAT.out 3 (by omega)
            unfold World.cell?; rw [blk3]
            show (((cur.setIfInBounds (j * 4) _).setIfInBounds (j * 4 + 1) _).setIfInBounds (j * 4 + 2) _)[j * 4 + 3]? = _
            rw [Array.getElem?_setIfInBounds, if_neg (by omega), Array.getElem?_setIfInBounds, if_neg (by omega), Array.getElem?_setIfInBounds, if_neg (by omega)]
            simpa using this
        have HSAME : Hid (∀ w1, Below WA.heap.size WA w1 → ∀ f, f < wr.heap.size → f ≠ g → ((w1.setCell ⟨g, j * 4 + 1, none⟩ (.string mt)).setCell ⟨g, j * 4 + 2, none⟩ (.int .i64 ((cj : Int) + 1 + 1))).heap[f]? = wr.heap[f]?) := fun w1 hb1 f hf hne => by
          rw [blk_other _ hne, blk_other _ hne, hb1.block f (by omega), hWA, blk_other _ hne]
        have HG3 : Hid (∀ f ∈ G3, f < wr.heap.size ∧ f ≠ g) := fun f hf => ⟨Own.lt _ _ _ hr3 f hf, fun e => hgn (by rw [← e]; simp [hf])⟩
        have hbd3 : cj + 3 + 3 * ns kids ≤ 2305843009213693952 := by
          have h1 := HCJ.out
          have h2 := HBD.out (j + 1)
          rw [List.take_succ_eq_append_getElem hlt, ns_append, show ns [ks[j]] = ks[j].n by simp [ns, Tm.n.ns], hKn] at h2
          omega
        have hnd3 : G3.Nodup := by
          rw [List.nodup_append] at hFn
          have := hFn.2.1
          rw [List.nodup_append] at this
          exact this.1
        have HREC : Hid (∀ w1, Below WA.heap.size WA w1 → Calls Try.prog 37 #[.slice ao1 len1 cap1, .int .i64 ((cj : Int) + 1 + 1 + 1)] ((w1.setCell ⟨g, j * 4 + 1, none⟩ (.string mt)).setCell ⟨g, j * 4 + 2, none⟩ (.int .i64 ((cj : Int) + 1 + 1))) fun e w' => e = .returned (.int .i64 ((cj + 3 + 3 * ns kids : Nat) : Int)) ∧ OwnS 54 w' (markL kids (cj + 3)) (.slice ao1 len1 cap1) G3 ∧ Out G3 ((w1.setCell ⟨g, j * 4 + 1, none⟩ (.string mt)).setCell ⟨g, j * 4 + 2, none⟩ (.int .i64 ((cj : Int) + 1 + 1))) w') := fun w1 hb1 => by
          have this : MarkOk kids := hK1
          have h2 := this ((w1.setCell ⟨g, j * 4 + 1, none⟩ (.string mt)).setCell ⟨g, j * 4 + 2, none⟩ (.int .i64 ((cj : Int) + 1 + 1))) (.slice ao1 len1 cap1) G3 (cj + 3) (hs1.keep fun f hf => HSAME.out w1 hb1 f (HG3.out f hf).1 (HG3.out f hf).2) hnd3 (by omega) hbd3
          rwa [show ((cj + 3 : Nat) : Int) = (cj : Int) + 1 + 1 + 1 by omega] at h2
        have HNX : Hid (∀ w1 w4, Below WA.heap.size WA w1 → OwnS 54 w4 (markL kids (cj + 3)) (.slice ao1 len1 cap1) G3 → Out G3 ((w1.setCell ⟨g, j * 4 + 1, none⟩ (.string mt)).setCell ⟨g, j * 4 + 2, none⟩ (.int .i64 ((cj : Int) + 1 + 1))) w4 → RowAt 54 w4 g cap (markL (ks.take (j + 1)) c ++ ks.drop (j + 1)) (G1 ++ (G3 ++ G4)) ∧ Out (g :: (G1 ++ (G3 ++ G4))) w w4) := fun w1 w4 hb1 ho4 hou => by
          obtain ⟨blk1, blk2, blk3⟩ := HP.out w1 hb1
          have hsz3 : (((w1.setCell ⟨g, j * 4 + 1, none⟩ (.string mt)).setCell ⟨g, j * 4 + 2, none⟩ (.int .i64 ((cj : Int) + 1 + 1)))).heap.size = w1.heap.size := by simp [World.setCell]
          have hszw : wr.heap.size ≤ w1.heap.size := by have := hb1.size; omega
          have hg3 : g ∉ G3 := fun h => hgn (by simp [h])
          have blk4 := (hou.block g (by omega) hg3).trans blk3
          have hoth : ∀ f, f < wr.heap.size → f ≠ g → f ∉ G3 → w4.heap[f]? = wr.heap[f]? := fun f hf hne hn => (hou.block f (by omega) hn).trans (HSAME.out w1 hb1 f hf hne)
          have hlist : markL (ks.take (j + 1)) c ++ ks.drop (j + 1) = markL (ks.take j) c ++ ((Tm.mk k1 s1 n1 kids).markT cj :: ks.drop (j + 1)) := by
            rw [List.take_succ_eq_append_getElem hlt, markL_append, markL_cons, markL_nil, hkj, HCJ.out]
            simp
          rw [List.nodup_append] at hFn
          obtain ⟨_, hn2, hdis⟩ := hFn
          rw [List.nodup_append] at hn2
          obtain ⟨_, _, hdis2⟩ := hn2
          refine ⟨?_, ?_⟩
          · refine ⟨cs1 ++ Value.int .i64 (cj : Int) :: .string mt :: .int .i64 ((cj : Int) + 1 + 1) :: .slice ao1 len1 cap1 :: cs', _, blk4, ?_, hcpm, ?_, ?_, ?_⟩
            · rw [List.length_append, markL_len, ← List.length_append, List.take_append_drop]; exact hnc
            · simp only [Array.size_setIfInBounds]; exact hcs
            · rw [List.length_append, markL_len, ← List.length_append, List.take_append_drop, take_setL, take_setL, take_setL, htk]
              exact set3 hl1
            · rw [hlist]
              refine OwnRow.join _ _ _ _ _ _ (OwnRow.keep _ _ _ hr1 fun f hf => hoth f (OwnRow.lt _ _ _ hr1 f hf) (fun e => hgn (by rw [← e]; simp [hf])) (fun h3 => hdis f hf f (by simp [h3]) rfl)) ?_
              unfold OwnRow
              refine ⟨_, _, _, _, cs', G3, G4, rfl, rfl, ?_, OwnRow.keep _ _ _ hr4 fun f hf => hoth f (OwnRow.lt _ _ _ hr4 f hf) (fun e => hgn (by rw [← e]; simp [hf])) (fun h3 => hdis2 f h3 f hf rfl)⟩
              rw [markT_mk, ← hmt, show (cj : Int) + 1 + 1 = ((cj + 2 : Nat) : Int) by omega]
              refine own_mk ho4 (by omega) (by omega) ?_
              have := mkS_len (cj + 1) (by omega)
              rw [hmt]
              show (mkS (cj + 1)).toArray.size ≤ maxLen
              unfold maxLen
              simp only [List.size_toArray]
              omega
          · have hg : g ∈ g :: (G1 ++ (G3 ++ G4)) := by simp
            have o1 : Out (g :: (G1 ++ (G3 ++ G4))) wr WA := by rw [hWA]; exact Out.set hg _ _ _
            exact HB.out.trans (o1.trans ((Out.of_below hb1).trans ((Out.set hg _ _ _).trans ((Out.set hg _ _ _).trans (hou.mono fun f hf => by simp [hf])))))
        have HNC : Hid (cj + 3 + 3 * ns kids = c + 3 * ns (ks.take (j + 1))) := by
          show _ = _
          rw [List.take_succ_eq_append_getElem hlt, ns_append, show ns [ks[j]] = ks[j].n by simp [ns, Tm.n.ns], hKn, HCJ.out]
          omega
        clear blkA hblk hnc hcpm hcs htk hr hr1 hr3 hr4 hK1 hs1 hK hKn hlen hkj hgn hFn hnd3 HAT HP HSAME HG3 HKS HO HND HOJ HBD hWA hmt
        go_wp2_with (first | (go_at_call 36; refine (Calls.mono HMK.out ?_); rintro e w1 ⟨rfl, hb1⟩; have HB1 : Hid _ := hb1; obtain ⟨q1, q2, q3, q4, q5⟩ := HF.out w1 hb1; clear hb1) | (go_at_call 37; refine (Calls.mono (HREC.out w1 HB1.out) ?_); rintro e w4 ⟨rfl, ho4, hou⟩; have HN4 : Hid _ := HNX.out w1 w4 HB1.out ho4 hou; clear ho4 hou))
        go_roundw
        case rel => exact ⟨HN4.out.2, j + 1, cj + 3 + 3 * ns kids, by omega, by go_num, rfl, HNC.out, HN4.out.1⟩
        case measure => simp [intOf]; omega
      · have HE : Hid (OwnS 54 wr (markL ks c) (.slice (some ⟨g, 0, none⟩) ks.length cap) (g :: F')) := by
          have := HOJ.out.own
          rw [List.length_append, markL_len, ← List.length_append, List.take_append_drop, List.take_of_length_le (by omega), List.drop_eq_nil_of_le (by omega), List.append_nil] at this
          exact this
        have HC2 : Hid (cj = c + 3 * ns ks) := by
          have := HCJ.out
          rw [List.take_of_length_le (by omega)] at this
          exact this
        clear HCJ HOJ HO HKS HND HBD
        go_wp2
        go_ret
        exact ⟨by rw [← HC2.out]; rfl, HE.out, HB.out⟩

theorem mark_all (ks : List Tm) : MarkOk ks :=
  tm_ind (p := fun t => MarkOk t.kids) (fun _ _ _ ks h => mark_list ks h) (Tm.mk 0 ⟨#[]⟩ 0 ks)
end Go.Proofs.Ytmhmlkdoaojimap

/- Marks over a row of clauses: what they are, and nine cells of a block turned one by one. -/
namespace Go.Proofs.Ytmhmlkdoaojimap
open Go.RowKit

def Cla.n (c : Cla) : Nat := 3 * c.h.n + 3 * c.b.n + 1
def Cla.markT (c : Cla) (i : Nat) : Cla := ⟨c.h.markT i, c.b.markT (i + 3 * c.h.n), ⟨(mkS (i + 3 * c.h.n + 3 * c.b.n)).toArray⟩⟩
def claNs : List Cla → Nat
  | [] => 0
  | c :: cs => c.n + claNs cs
theorem claNs_append (a b : List Cla) : claNs (a ++ b) = claNs a + claNs b := by
  induction a with
  | nil => simp [claNs]
  | cons c cs ih => simp only [List.cons_append, claNs, ih]; omega
def markCs : List Cla → Nat → List Cla
  | [], _ => []
  | c :: cs, i => c.markT i :: markCs cs (i + c.n)
theorem markCs_append (l m : List Cla) (i : Nat) : markCs (l ++ m) i = markCs l i ++ markCs m (i + claNs l) := by
  induction l generalizing i with
  | nil => simp [markCs, claNs]
  | cons c cs ih => simp only [List.cons_append, markCs, claNs, ih, Nat.add_assoc]
theorem markCs_len (l : List Cla) (i : Nat) : (markCs l i).length = l.length := by
  induction l generalizing i with
  | nil => rfl
  | cons c cs ih => simp only [markCs, List.length_cons, ih]

/-- nine cells of block g from a place on; the others are those of cur0 -/
def Nine (T : TypeId) (w : World) (g base N : Nat) (cells : List Value) (cur0 : List Value) : Prop :=
  ∃ cur : Array Value, w.heap[g]? = some (.cells cur T (0, 0)) ∧ cur.size = N ∧ cells.length = 9 ∧ base + 9 ≤ N ∧ (∀ i, i < 9 → cur[base + i]? = cells[i]?) ∧ (∀ i, (i < base ∨ base + 9 ≤ i) → cur[i]? = cur0[i]?)
theorem Nine.cell {T : TypeId} {w : World} {g base N : Nat} {cells cur0 : List Value} (h : Nine T w g base N cells cur0) {i : Nat} {v : Value} (hi : i < 9) (hv : cells[i]? = some v) : w.cell? ⟨g, base + i, none⟩ = some v ∧ w.frozen? ⟨g, base + i, none⟩ = false := by
  obtain ⟨cur, h1, h2, h3, h4, h5, h6⟩ := h
  refine ⟨?_, blk_frozen h1 _⟩
  unfold World.cell?
  simp only
  rw [h1]
  exact (h5 i hi).trans hv
theorem Nine.set {T : TypeId} {w : World} {g base N : Nat} {cells cur0 : List Value} (h : Nine T w g base N cells cur0) {i : Nat} (hi : i < 9) (d : Value) : Nine T (w.setCell ⟨g, base + i, none⟩ d) g base N (cells.set i d) cur0 := by
  obtain ⟨cur, h1, h2, h3, h4, h5, h6⟩ := h
  refine ⟨_, blk_set h1 d, by simpa using h2, by simpa using h3, h4, fun k hk => ?_, fun k hk => ?_⟩
  · rw [Array.getElem?_setIfInBounds, List.getElem?_set]
    by_cases e : i = k
    · subst e
      rw [if_pos rfl, if_pos (by omega), if_pos rfl, if_pos (by omega)]
    · rw [if_neg (by omega), if_neg e]
      exact h5 k hk
  · rw [Array.getElem?_setIfInBounds, if_neg (by omega)]
    exact h6 k hk
theorem Nine.keep {T : TypeId} {w w' : World} {g base N : Nat} {cells cur0 : List Value} (h : Nine T w g base N cells cur0) (hg : w'.heap[g]? = w.heap[g]?) : Nine T w' g base N cells cur0 := by
  obtain ⟨cur, h1, h2⟩ := h
  exact ⟨cur, hg.trans h1, h2⟩
theorem Nine.lt {T : TypeId} {w : World} {g base N : Nat} {cells cur0 : List Value} (h : Nine T w g base N cells cur0) : g < w.heap.size := by
  obtain ⟨cur, h1, _⟩ := h
  exact (Array.getElem?_eq_some_iff.1 h1).1
/-- the whole row behind it -/
theorem Nine.row {T : TypeId} {w : World} {g base N : Nat} {cells : List Value} {pre old tl : List Value} (hp : pre.length = base) (ho : old.length = 9) (h : Nine T w g base N cells (pre ++ (old ++ tl))) :
    ∃ cur : Array Value, w.heap[g]? = some (.cells cur T (0, 0)) ∧ cur.size = N ∧ cur.toList = pre ++ (cells ++ tl) := by
  obtain ⟨cur, h1, h2, h3, h4, h5, h6⟩ := h
  refine ⟨cur, h1, h2, ?_⟩
  apply List.ext_getElem?
  intro i
  rw [Array.getElem?_toList]
  by_cases c1 : i < base
  · rw [h6 i (Or.inl c1), List.getElem?_append_left (by omega), List.getElem?_append_left (by omega)]
  · by_cases c2 : i < base + 9
    · have := h5 (i - base) (by omega)
      rw [show base + (i - base) = i by omega] at this
      rw [this, List.getElem?_append_right (by omega), hp, List.getElem?_append_left (by omega)]
    · have e : ∀ x : List Value, x.length = 9 → (pre ++ (x ++ tl))[i]? = tl[i - base - 9]? := fun x hx => by
        rw [List.getElem?_append_right (by omega), hp, List.getElem?_append_right (by omega), hx]
      rw [h6 i (Or.inr (by omega)), e _ ho, e _ h3]
end Go.Proofs.Ytmhmlkdoaojimap

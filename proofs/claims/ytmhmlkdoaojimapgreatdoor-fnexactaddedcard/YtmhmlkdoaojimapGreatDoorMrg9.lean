/- Four texts in one. -/
import Derived.Test.YtmhmlkdoaojimapGreatDoorRows
import Derived.Test.YtmhmlkdoaojimapGreatDoorMrg8
import Derived.WalkKit
import Derived.WalkSpells
import Derived.Test.YtmhmlkdoaojimapGreatDoorMrg1
import Derived.Test.YtmhmlkdoaojimapGreatDoorMrg5
import Derived.Test.YtmhmlkdoaojimapGreatDoorMrg7
import Derived.Deep.RegionWith
import Derived.BigQuiet
/- strings.Clone hands back the same bytes, and nothing that was there has turned. -/
namespace Go.Proofs.YtmhmlkdoaojimapGreatDoor
open Go.RowKit

theorem clone_any (s : ByteArray) (w : World) (hlim : s.size ≤ 1048576) :
    Calls Tryz.prog 44 #[.string s] w fun e w' => e = .returned (.string s) ∧ Below w.heap.size w w' := by
  go_enter Tryz.func44, Tryz.ntmps44
  go_wp2_with (go_at_call 56; refine (sh_stringslite_Clone _ _ (by omega)).mono ?_; rintro e w1 ⟨rfl, hb⟩)
  go_ret
  exact ⟨rfl, hb⟩
end Go.Proofs.YtmhmlkdoaojimapGreatDoor

/- How many terms a term has. Of no program. -/
namespace Go.Proofs.YtmhmlkdoaojimapGreatDoor

/-- how many terms -/
def Tm.n : Tm → Nat
  | .mk _ _ _ ks => 1 + ns ks
where ns : List Tm → Nat
  | [] => 0
  | t :: ts => t.n + ns ts
abbrev ns := Tm.n.ns
theorem ns_append (l m : List Tm) : ns (l ++ m) = ns l + ns m := by
  induction l with
  | nil => simp [ns, Tm.n.ns]
  | cons t r ih => simp only [List.cons_append, ns, Tm.n.ns] at *; omega
theorem n_mk (k : Int) (s : ByteArray) (m : Int) (ks : List Tm) : (Tm.mk k s m ks).n = 1 + ns ks := by simp [Tm.n, ns]
theorem ns_take_le (ks : List Tm) (j : Nat) : ns (ks.take j) ≤ ns ks := by
  have : ns (ks.take j) + ns (ks.drop j) = ns ks := by rw [← ns_append, List.take_append_drop]
  omega
end Go.Proofs.YtmhmlkdoaojimapGreatDoor

/- A marked term: every field of its kids a number of its own. Plain. -/
namespace Go.Proofs.YtmhmlkdoaojimapGreatDoor
open Go.RowKit

def Tm.markT : Tm → Nat → Tm
  | .mk _ _ _ ks, c => .mk (c : Int) ⟨(mkS (c + 1)).toArray⟩ ((c + 2 : Nat) : Int) (markL ks (c + 3))
where markL : List Tm → Nat → List Tm
  | [], _ => []
  | t :: ts, c => t.markT c :: markL ts (c + 3 * t.n)
abbrev markL := Tm.markT.markL
theorem markL_nil (c : Nat) : markL [] c = [] := by simp [markL, Tm.markT.markL]
theorem markL_cons (t : Tm) (ts : List Tm) (c : Nat) : markL (t :: ts) c = t.markT c :: markL ts (c + 3 * t.n) := by simp [markL, Tm.markT.markL]
theorem markT_mk (k : Int) (s : ByteArray) (n : Int) (ks : List Tm) (c : Nat) : (Tm.mk k s n ks).markT c = .mk (c : Int) ⟨(mkS (c + 1)).toArray⟩ ((c + 2 : Nat) : Int) (markL ks (c + 3)) := by simp [Tm.markT, markL]
theorem ns_cons (t : Tm) (ts : List Tm) : ns (t :: ts) = t.n + ns ts := by simp [ns, Tm.n.ns]
theorem markL_append (l m : List Tm) (c : Nat) : markL (l ++ m) c = markL l c ++ markL m (c + 3 * ns l) := by
  induction l generalizing c with
  | nil => simp [markL_nil, ns, Tm.n.ns]
  | cons t r ih => rw [List.cons_append, markL_cons, markL_cons, ih, ns_cons, List.cons_append, show c + 3 * t.n + 3 * ns r = c + 3 * (t.n + ns r) by omega]
theorem markL_len (l : List Tm) (c : Nat) : (markL l c).length = l.length := by
  induction l generalizing c with
  | nil => simp [markL_nil]
  | cons t r ih => rw [markL_cons, List.length_cons, List.length_cons, ih]
theorem markL_at {l : List Tm} {c j : Nat} (h : j < l.length) : (markL l c)[j]'(by rw [markL_len]; exact h) = l[j].markT (c + 3 * ns (l.take j)) := by
  induction l generalizing c j with
  | nil => simp at h
  | cons t r ih =>
    cases j with
    | zero => simp [markL_cons, ns, Tm.n.ns]
    | succ j =>
      simp only [markL_cons, List.getElem_cons_succ, List.take_succ_cons, ns_cons]
      rw [ih (by simpa using h)]
      congr 1
      omega

theorem mkS_len (k : Nat) (h : k ≤ 4611686018427387904) : (mkS k).length ≤ 40 := by
  unfold mkS
  have := decR_len 20 k (by omega)
  simp only [List.length_cons]
  omega

theorem n_le_wt (t : Tm) : t.n ≤ t.wt + 1 := by
  refine tm_ind (p := fun t => t.n ≤ t.wt + 1) ?_ t
  intro k s n ks h
  rw [n_mk]
  have e : (Tm.mk k s n ks).wt = s.size + ks.length + wts ks := by simp [Tm.wt, wts]
  rw [e]
  have : ns ks ≤ wts ks + ks.length := by
    clear e
    induction ks with
    | nil => simp [ns, Tm.n.ns]
    | cons t r ih =>
      have h1 := h t (by simp)
      have h2 := ih fun t' ht' => h t' (by simp [ht'])
      rw [ns_cons]
      have e2 : wts (t :: r) = t.wt + wts r := by simp [wts, Tm.wt.wts]
      rw [e2, List.length_cons]
      omega
  omega

theorem OwnRow.split {e : TypeId} {w : World} : ∀ (l m : List Tm) (cs : List Value) (F : List Nat), OwnRow e w (l ++ m) cs F →
    ∃ cs1 cs2 F1 F2, cs = cs1 ++ cs2 ∧ F = F1 ++ F2 ∧ OwnRow e w l cs1 F1 ∧ OwnRow e w m cs2 F2
  | [], m, cs, F, h => ⟨[], cs, [], F, rfl, rfl, by unfold OwnRow; exact ⟨rfl, rfl⟩, h⟩
  | t :: l, m, cs, F, h => by
    rw [List.cons_append] at h
    unfold OwnRow at h
    obtain ⟨c0, c1, c2, c3, cs', F1, F2, rfl, rfl, h1, h2⟩ := h
    obtain ⟨a, b, G1, G2, rfl, rfl, h3, h4⟩ := OwnRow.split l m cs' F2 h2
    refine ⟨c0 :: c1 :: c2 :: c3 :: a, b, F1 ++ G1, G2, by simp, by simp, ?_, h4⟩
    unfold OwnRow
    exact ⟨c0, c1, c2, c3, a, F1, G1, rfl, rfl, h1, h3⟩
theorem OwnRow.join {e : TypeId} {w : World} : ∀ (l m : List Tm) (cs1 cs2 : List Value) (F1 F2 : List Nat), OwnRow e w l cs1 F1 → OwnRow e w m cs2 F2 → OwnRow e w (l ++ m) (cs1 ++ cs2) (F1 ++ F2)
  | [], m, cs1, cs2, F1, F2, h1, h2 => by
    unfold OwnRow at h1
    obtain ⟨rfl, rfl⟩ := h1
    exact h2
  | t :: l, m, cs1, cs2, F1, F2, h1, h2 => by
    unfold OwnRow at h1
    obtain ⟨c0, c1, c2, c3, cs', G1, G2, rfl, rfl, h3, h4⟩ := h1
    show OwnRow e w (t :: (l ++ m)) _ _
    unfold OwnRow
    exact ⟨c0, c1, c2, c3, cs' ++ cs2, G1, G2 ++ F2, by simp, by simp, h3, OwnRow.join l m cs' cs2 G2 F2 h4 h2⟩

/-- nothing that was there has turned, but the blocks F -/
structure Out (F : List Nat) (w w' : World) : Prop where
  os : w'.os = w.os
  tape : w'.tape = w.tape
  output : w'.output = w.output
  size : w.heap.size ≤ w'.heap.size
  block : ∀ k, k < w.heap.size → k ∉ F → w'.heap[k]? = w.heap[k]?
theorem Out.refl (F : List Nat) (w : World) : Out F w w := ⟨rfl, rfl, rfl, Nat.le_refl _, fun _ _ _ => rfl⟩
theorem Out.of_below {F : List Nat} {w w' : World} (h : Below w.heap.size w w') : Out F w w' := ⟨h.os, h.tape, h.output, h.size, fun k hk _ => h.block k hk⟩
theorem Out.set {F : List Nat} {g : Nat} (hg : g ∈ F) (k : Nat) (w : World) (v : Value) : Out F w (w.setCell ⟨g, k, none⟩ v) :=
  ⟨rfl, rfl, rfl, by simp [World.setCell], fun j _ hne => by
    have : g ≠ j := fun h => hne (h ▸ hg)
    simp [World.setCell, Array.getElem?_modify, this]⟩
theorem Out.trans {F : List Nat} {w w' w'' : World} (h : Out F w w') (h' : Out F w' w'') : Out F w w'' :=
  ⟨h'.os.trans h.os, h'.tape.trans h.tape, h'.output.trans h.output, Nat.le_trans h.size h'.size, fun k hk hne => (h'.block k (Nat.lt_of_lt_of_le hk h.size) hne).trans (h.block k hk hne)⟩
theorem Out.mono {F F' : List Nat} {w w' : World} (h : Out F w w') (hs : ∀ f ∈ F, f ∈ F') : Out F' w w' :=
  ⟨h.os, h.tape, h.output, h.size, fun k hk hne => h.block k hk fun h => hne (hs k h)⟩
theorem Out.below {F : List Nat} {B : Nat} {w w' : World} (h : Out F w w') (hF : ∀ f ∈ F, B ≤ f) (hB : B ≤ w.heap.size) : Below B w w' :=
  ⟨h.os, h.tape, h.output, h.size, fun k hk => h.block k (by omega) fun hk' => by have := hF k hk'; omega⟩
end Go.Proofs.YtmhmlkdoaojimapGreatDoor

/- (*copier).listCopied: a list of terms copied, marked, and laid open. -/
namespace Go.Proofs.YtmhmlkdoaojimapGreatDoor
open Go.RowKit

theorem list_nil (w : World) (gc : Nat) (ao : Option Addr) (cap : Nat) :
    Calls Tryz.prog 74 #[.pointer (some ⟨gc, 0, none⟩), .slice ao 0 cap] w fun e w' => e = .returned (.slice none 0 0) ∧ Below w.heap.size w w' := by
  go_enter Tryz.func74, Tryz.ntmps74
  go_wp2
  go_ret
  exact ⟨rfl, Below.refl _ _⟩



set_option maxHeartbeats 4000000 in
set_option maxRecDepth 20000 in
theorem list_copied (w : World) (gc m b n cap L k : Nat) (T : Int) (osl : Value) (D : List Nat) (cs vs : List Value)
    (hc : w.heap[gc]? = some (.cells #[.map (some m), .int .i64 T, osl] 89 (0, 0))) (hm : CMapAt w m D) (hD : b ∉ D) (hDP : DPB w D)
    (hrow : w.ownsRow 0 41 4 (.slice (some ⟨b, 0, none⟩) n cap) n cs) (hcs : CellsOk cs n L) (hL : L ≤ 1048576) (hn : 0 < n) (hn2 : n ≤ 4194304) (hT : 0 ≤ T ∧ T ≤ 4194304)
    (hst : w.ownsRow 0 39 1 osl k vs) (hk : k ≤ 4194304)
    (d1 : gc ≠ m) (d2 : osl.ownBlock ≠ some gc) (d3 : osl.ownBlock ≠ some m) :
    Calls Tryz.prog 74 #[.pointer (some ⟨gc, 0, none⟩), .slice (some ⟨b, 0, none⟩) n cap] w fun e w' => ∃ g cap' osl', e = .returned (.slice (some ⟨g, 0, none⟩) n cap') ∧
      w'.ownsRow 0 41 4 (.slice (some ⟨g, 0, none⟩) n cap') n cs ∧ w.heap.size ≤ g ∧ w'.heap[gc]? = some (.cells #[.map (some m), .int .i64 (T + n), osl'] 89 (0, 0)) ∧ CMapAt w' m (b :: D) ∧
      w'.ownsRow 0 39 1 osl' (k + 1) (vs ++ [.slice (some ⟨g, 0, none⟩) n cap']) ∧ (osl'.ownBlock = osl.ownBlock ∨ ∃ z, osl'.ownBlock = some z ∧ w.heap.size ≤ z ∧ z ≠ g) ∧ Out (gc :: m :: osl.ownBlock.toList) w w' := by
  have hcap : (cap ≤ maxLen ∧ n ≤ cap) ∧ ∃ cur, w.heap[b]? = some (.cells cur 41 (0, 0)) := by
    rcases hrow.2 with ⟨h, _⟩ | ⟨g, c, cur, h, _, h0, h1, h2, _⟩
    · cases h
    · cases h; exact ⟨⟨h2, h1⟩, cur, h0⟩
  obtain ⟨⟨hcap1, hcap2⟩, curb, hblk⟩ := hcap
  unfold maxLen at hcap1
  obtain ⟨W, hW⟩ : ∃ W, W = w.alloc (.cells #[.pointer (some ⟨b, 0, none⟩), .pointer none, .int .i64 (n : Int)] 114) := ⟨_, rfl⟩
  have bW : Below w.heap.size w W := by rw [hW]; exact (Below.refl _ _).alloc (Nat.le_refl _) _
  have sW : W.heap.size = w.heap.size + 1 := by rw [hW]; simp
  have kW : W.heap[w.heap.size]? = some (.cells #[.pointer (some ⟨b, 0, none⟩), .pointer none, .int .i64 (n : Int)] 114 (0, 0)) := by rw [hW]; exact heap_alloc_new w _
  have hgl : gc < w.heap.size := (Array.getElem?_eq_some_iff.1 hc).1
  have hml : m < w.heap.size := by obtain ⟨es, cl, h1, _⟩ := hm; exact (Array.getElem?_eq_some_iff.1 h1).1
  have hbl : b < w.heap.size := (Array.getElem?_eq_some_iff.1 hblk).1
  have HDP : Hid (∀ w', Below w.heap.size w w' → DPB w' D) := fun w' hb f hf => by
    obtain ⟨cur, T', h⟩ := hDP f hf
    exact ⟨cur, T', (hb.block f (Array.getElem?_eq_some_iff.1 h).1).trans h⟩
  have HPB : Hid (∀ w', Below w.heap.size w w' → PB w' ⟨b, 0, none⟩) := fun w' hb => ⟨curb, _, (hb.block b hbl).trans hblk⟩
  have HMP : Hid (∀ w', Below w.heap.size w w' → CMapAt w' m D) := fun w' hb => by
    obtain ⟨es, cl, h1, h2⟩ := hm
    exact ⟨es, cl, (hb.block m hml).trans h1, h2⟩
  have HGC : Hid (∀ w', Below w.heap.size w w' → w'.heap[gc]? = some (.cells #[.map (some m), .int .i64 T, osl] 89 (0, 0))) := fun w' hb => (hb.block gc hgl).trans hc
  have HST : Hid (∀ w', Below w.heap.size w w' → w'.ownsRow 0 39 1 osl k vs) := fun w' hb => by
    refine ⟨hst.1, ?_⟩
    rcases hst.2 with hn | ⟨g, c, cur, e, h1, h2, h3⟩
    · exact Or.inl hn
    · exact Or.inr ⟨g, c, cur, e, h1, (hb.block g (Array.getElem?_eq_some_iff.1 h2).1).trans h2, h3⟩
  have hbD : Below w.heap.size w W.drew := bW.drew
  have l1 := cmap_look W.drew m D (HMP.out _ hbD) ⟨b, 0, none⟩ (n : Int) hD (HPB.out _ hbD) (HDP.out _ hbD)
  have x0 : W.drew.cell? ⟨gc, 0, none⟩ = some (.map (some m)) := blk_cell (i := 0) (HGC.out _ hbD) (by simp)
  have y0 : W.drew.cell? ⟨w.heap.size, 0, none⟩ = some (.pointer (some ⟨b, 0, none⟩)) := blk_cell (i := 0) (((Below.refl W.heap.size W).drew.block _ (by omega)).trans kW) (by simp)
  have y1 : W.drew.cell? ⟨w.heap.size, 1, none⟩ = some (.pointer none) := blk_cell (i := 1) (((Below.refl W.heap.size W).drew.block _ (by omega)).trans kW) (by simp)
  have y2 : W.drew.cell? ⟨w.heap.size, 2, none⟩ = some (.int .i64 (n : Int)) := blk_cell (i := 2) (((Below.refl W.heap.size W).drew.block _ (by omega)).trans kW) (by simp)
  have hrW : W.drew.ownsRow 0 41 4 (.slice (some ⟨b, 0, none⟩) n cap) n cs := row_keep hrow (hbD.block b hbl)
  have HCL := clone_row W.drew b n cap L cs hrW hn hn2 hcs
  have kD : W.drew.heap[w.heap.size]? = some (.cells #[.pointer (some ⟨b, 0, none⟩), .pointer none, .int .i64 (n : Int)] 114 (0, 0)) := ((Below.refl W.heap.size W).drew.block _ (by omega)).trans kW
  have sD : w.heap.size < W.drew.heap.size := (Array.getElem?_eq_some_iff.1 kD).1
  have HKD : Hid (∀ w', Below W.drew.heap.size W.drew w' → w'.heap[w.heap.size]? = some (.cells #[.pointer (some ⟨b, 0, none⟩), .pointer none, .int .i64 (n : Int)] 114 (0, 0)) ∧ Below w.heap.size w w') := fun w' hb => ⟨(hb.block _ sD).trans kD, hbD.trans (hb.mono hbD.size)⟩
  have HCS : Hid (CellsOk cs n L) := hcs
  have HD : Hid (b ∉ D) := hD
  have HD23 : Hid (osl.ownBlock ≠ some gc ∧ osl.ownBlock ≠ some m) := ⟨d2, d3⟩
  obtain ⟨i0, hi, hz0, hz1, hz2⟩ := info_parts infoSl
  rw [hW] at l1 x0 y0 y1 y2 HCL
  unfold pk at l1
  replace HCL : Hid _ := HCL
  clear hc hm hD hDP hrow hcs hst d2 d3 kW bW hbD hrW kD hblk
  go_enter Tryz.func74, Tryz.ntmps74
  go_wp2
  go_region
  clear l1 x0 y0 y1 y2
  go_wp2_with (go_at_call 79; refine (Calls.mono HCL.out ?_); rintro e w1 ⟨g, cap', rfl, hr1, hg1, hb1⟩; rw [← hW] at hb1 hg1; have HR1 : Hid (w1.ownsRow 0 41 4 (.slice (some ⟨g, 0, none⟩) n cap') n cs) := hr1; have HB1 : Hid (Below W.drew.heap.size W.drew w1) := hb1; have hcp : cap' ≤ maxLen := (by rcases hr1.2 with ⟨h, _⟩ | ⟨_, _, _, h, _, _, _, h2, _⟩; (· cases h); (· cases h; exact h2)); clear hr1 hb1)
  go_loopw [40] (fun vi wr => ∃ (j : Nat), j ≤ n ∧ vi = .int .i64 (j : Int) ∧ Hid (Below W.drew.heap.size W.drew wr) ∧ Hid (wr.ownsRow 0 41 4 (.slice (some ⟨g, 0, none⟩) n cap') n cs)) (fun i _ => n - (intOf i).toNat)
  case atStart => exact ⟨0, by omega, rfl, HB1.out, HR1.out⟩
  case round =>
    obtain ⟨j, hj, rfl, HB, HR⟩ := hrel
    by_cases hlt : j < n
    · obtain ⟨_, s, _, _, _, _, _, c1, _, _, hsL⟩ := HCS.out.2 j hlt
      have hcl : j * 4 + 1 < n * 4 := by omega
      have hx : wr.cell? ⟨g, j * 4 + 1, none⟩ = some (.string s) := (HR.out.cellAt (j * 4 + 1) hcl).trans c1
      have HCL2 : Hid (Calls Tryz.prog 44 #[.string s] wr fun e w' => e = .returned (.string s) ∧ Below wr.heap.size wr w') := clone_any s wr (by omega)
      have hglt : g < wr.heap.size := (HR.out.lt g rfl).2
      have HC1 : Hid (cs[j * 4 + 1]? = some (.string s)) := c1
      clear c1 hsL
      go_wp2_with (go_at_call 44; refine (Calls.mono HCL2.out ?_); rintro e w2 ⟨rfl, hb⟩; have HR2 : Hid (w2.ownsRow 0 41 4 (.slice (some ⟨g, 0, none⟩) n cap') n cs) := row_keep HR.out (hb.block g hglt); have HB2 : Hid (Below W.drew.heap.size W.drew w2) := HB.out.trans (hb.mono HB.out.size); have hx2 : w2.cell? ⟨g, j * 4 + 1, none⟩ = some (.string s) := (HR2.out.cellAt (j * 4 + 1) hcl).trans HC1.out; have hf2 := row_frozen HR2.out (j * 4 + 1); clear hb)
      go_roundw
      case rel => exact ⟨j + 1, by omega, by go_num, below_set HB2.out hg1 _, row_set_same HR2.out HC1.out⟩
      case measure => simp [intOf]; omega
    · clear HR1 HB1 HCL
      have HB3 : Hid (Below W.drew.heap.size W.drew wr.drew) := HB.out.drew
      obtain ⟨q1, q2⟩ := HKD.out _ HB3.out
      obtain ⟨o, hput, hpm⟩ := cmap_put wr.drew m D (HMP.out _ q2) ⟨b, 0, none⟩ (n : Int) (.slice (some ⟨g, 0, none⟩) n cap') HD.out (HPB.out _ q2) (HDP.out _ q2)
      unfold pk at hput
      have x0 : wr.drew.cell? ⟨gc, 0, none⟩ = some (.map (some m)) := blk_cell (i := 0) (HGC.out _ q2) (by simp)
      have y0 : wr.drew.cell? ⟨w.heap.size, 0, none⟩ = some (.pointer (some ⟨b, 0, none⟩)) := blk_cell (i := 0) q1 (by simp)
      have y1 : wr.drew.cell? ⟨w.heap.size, 1, none⟩ = some (.pointer none) := blk_cell (i := 1) q1 (by simp)
      have y2 : wr.drew.cell? ⟨w.heap.size, 2, none⟩ = some (.int .i64 (n : Int)) := blk_cell (i := 2) q1 (by simp)
      obtain ⟨w3, hw3⟩ : ∃ w3, w3 = setB wr.drew m o := ⟨_, rfl⟩
      rw [← hw3] at hput hpm
      have HPM : Hid (CMapAt w3 m (b :: D)) := hpm
      have hgl3 : g < wr.heap.size := (HR.out.lt g rfl).2
      have hsz3 : wr.heap.size = w3.heap.size := by rw [hw3]; simp [setB]
      have hgm : g ≠ m := by omega
      have HR3 : Hid (w3.ownsRow 0 41 4 (.slice (some ⟨g, 0, none⟩) n cap') n cs) := row_keep HR.out (by rw [hw3, setB_other hgm]; rfl)
      have HGC3 : Hid (w3.heap[gc]? = some (.cells #[.map (some m), .int .i64 T, osl] 89 (0, 0))) := by
        show _ = _
        rw [hw3, setB_other d1]; exact HGC.out _ q2
      have HST3 : Hid (w3.ownsRow 0 39 1 osl k vs) := by
        have h0 := HST.out _ q2
        refine ⟨h0.1, ?_⟩
        rcases h0.2 with hn | ⟨g', c, cur, e, h1, h2, h3⟩
        · exact Or.inl hn
        · refine Or.inr ⟨g', c, cur, e, h1, ?_, h3⟩
          rw [hw3, setB_other (fun e' => HD23.out.2 (by rw [e, e']; rfl))]; exact h2
      have HO3 : Hid (Out (gc :: m :: osl.ownBlock.toList) w w3) := by
        have h1 : Out (gc :: m :: osl.ownBlock.toList) w wr.drew := Out.of_below q2
        refine ⟨by rw [hw3]; exact h1.os, by rw [hw3]; exact h1.tape, by rw [hw3]; exact h1.output, by rw [hw3]; simpa [setB] using h1.size, fun f hf hn => ?_⟩
        rw [hw3, setB_other (fun e => hn (by simp [e]))]
        exact h1.block f hf hn
      have x1 : w3.cell? ⟨gc, 1, none⟩ = some (.int .i64 T) := blk_cell (i := 1) HGC3.out (by simp)
      have f1 : w3.frozen? ⟨gc, 1, none⟩ = false := blk_frozen HGC3.out _
      obtain ⟨w4, hw4⟩ : ∃ w4, w4 = w3.setCell ⟨gc, 1, none⟩ (.int .i64 (T + n)) := ⟨_, rfl⟩
      have hgl4 : gc < w3.heap.size := (Array.getElem?_eq_some_iff.1 HGC3.out).1
      have hsz4 : w4.heap.size = w3.heap.size := by rw [hw4]; simp [World.setCell]
      have HGC4 : Hid (w4.heap[gc]? = some (.cells #[.map (some m), .int .i64 (T + n), osl] 89 (0, 0))) := by
        show _ = _
        rw [hw4]; simpa using blk_set (i := 1) HGC3.out (.int .i64 (T + n))
      have hk4 : ∀ f, f ≠ gc → w4.heap[f]? = w3.heap[f]? := fun f hf => by rw [hw4]; exact blk_other _ hf
      have HST4 : Hid (w4.ownsRow 0 39 1 osl k vs) := by
        refine ⟨HST3.out.1, ?_⟩
        rcases HST3.out.2 with hn | ⟨g', c, cur, e, h1, h2, h3⟩
        · exact Or.inl hn
        · exact Or.inr ⟨g', c, cur, e, h1, (hk4 g' fun e' => HD23.out.1 (by rw [e, e']; rfl)).trans h2, h3⟩
      have hggc : g ≠ gc := by omega
      have HR4 : Hid (w4.ownsRow 0 41 4 (.slice (some ⟨g, 0, none⟩) n cap') n cs) := row_keep HR3.out (hk4 g hggc)
      have HPM4 : Hid (CMapAt w4 m (b :: D)) := by
        obtain ⟨es, cl, h1, h2⟩ := HPM.out
        exact ⟨es, cl, (hk4 m (Ne.symm d1)).trans h1, h2⟩
      have HO4 : Hid (Out (gc :: m :: osl.ownBlock.toList) w w4) := HO3.out.trans (by rw [hw4]; exact Out.set (by simp) _ _ _)
      have x2 : w4.cell? ⟨gc, 2, none⟩ = some osl := blk_cell (i := 2) HGC4.out (by simp)
      rw [hw4] at x2
      have hown4 : (w4.alloc (.cells #[.slice (some ⟨g, 0, none⟩) n cap'] 39)).ownsRow 0 39 1 osl k vs := HST4.out.alloc _
      rw [hw4] at hown4
      replace hown4 : Hid _ := hown4
      clear q1 q2 hpm hw3 HB3 HB HR HST3 HR3 HGC3 HPM HO3
      obtain ⟨w6, hw6⟩ : ∃ w6, w6 = w4.alloc (.cells #[.slice (some ⟨g, 0, none⟩) n cap'] 39) := ⟨_, rfl⟩
      have b6 : Below w4.heap.size w4 w6 := by rw [hw6]; exact (Below.refl _ _).alloc (Nat.le_refl _) _
      have s6 : w6.heap.size = w4.heap.size + 1 := by rw [hw6]; simp
      have HFIN : Hid (∀ v' w5, w5.ownsRow 0 39 1 v' (k + 1) (vs ++ [.slice (some ⟨g, 0, none⟩) n cap']) → w6.grownBy w5 osl.ownBlock → (v'.ownBlock = osl.ownBlock ∨ v'.ownBlock = some w6.heap.size) → w5.heap[gc]? = some (.cells #[.map (some m), .int .i64 (T + n), osl] 89 (0, 0)) ∧ ∀ w7, w7 = w5.setCell ⟨gc, 2, none⟩ v' →
          w7.ownsRow 0 41 4 (.slice (some ⟨g, 0, none⟩) n cap') n cs ∧ w.heap.size ≤ g ∧ w7.heap[gc]? = some (.cells #[.map (some m), .int .i64 (T + n), v'] 89 (0, 0)) ∧ CMapAt w7 m (b :: D) ∧
          w7.ownsRow 0 39 1 v' (k + 1) (vs ++ [.slice (some ⟨g, 0, none⟩) n cap']) ∧ (v'.ownBlock = osl.ownBlock ∨ ∃ z, v'.ownBlock = some z ∧ w.heap.size ≤ z ∧ z ≠ g) ∧ Out (gc :: m :: osl.ownBlock.toList) w w7) := by
        intro v' w5 hown' hgrow hat
        have hk5 : ∀ f, f < w4.heap.size → some f ≠ osl.ownBlock → w5.heap[f]? = w4.heap[f]? := fun f hf hne => (hgrow.block f (by omega) hne).trans (b6.block f hf)
        have hgc5 := (hk5 gc (by omega) (Ne.symm HD23.out.1)).trans HGC4.out
        have ho : osl.ownBlock ≠ some g := fun e => by
          have := row_lt0 (HST.out _ (Below.refl _ _)) e
          omega
        refine ⟨hgc5, fun w7 hw7 => ?_⟩
        have hk7 : ∀ f, f ≠ gc → w7.heap[f]? = w5.heap[f]? := fun f hf => by rw [hw7]; exact blk_other _ hf
        have hv' : v'.ownBlock ≠ some gc := by
          rcases hat with e | e <;> rw [e]
          · exact HD23.out.1
          · intro e'; injection e' with e'; omega
        refine ⟨row_keep HR4.out ((hk7 g hggc).trans (hk5 g (by omega) (Ne.symm ho))), by omega, by rw [hw7]; simpa using blk_set (i := 2) hgc5 v', ?_, ?_, ?_, ?_⟩
        · obtain ⟨es, cl, h1, h2⟩ := HPM4.out
          exact ⟨es, cl, ((hk7 m (Ne.symm d1)).trans (hk5 m (by omega) (Ne.symm HD23.out.2))).trans h1, h2⟩
        · refine ⟨hown'.1, ?_⟩
          rcases hown'.2 with hn | ⟨g', c, cur, e, h1, h2, h3⟩
          · exact Or.inl hn
          · exact Or.inr ⟨g', c, cur, e, h1, (hk7 g' fun e' => hv' (by rw [e, e']; rfl)).trans h2, h3⟩
        · rcases hat with e | e
          · exact Or.inl e
          · exact Or.inr ⟨_, e, by have := HO4.out.size; omega, by omega⟩
        · have h4 := HO4.out
          refine ⟨by rw [hw7]; exact hgrow.os.trans (b6.os.trans h4.os), by rw [hw7]; exact hgrow.tape.trans (b6.tape.trans h4.tape), by rw [hw7]; exact hgrow.output.trans (b6.output.trans h4.output), ?_, fun f hf hn => ?_⟩
          · have e1 : w7.heap.size = w5.heap.size := by rw [hw7]; simp [World.setCell]
            have e2 := hgrow.size
            have e3 := h4.size
            omega
          · have e3 := h4.size
            rw [hk7 f (fun e => hn (by simp [e])), hk5 f (by omega) (fun e => hn (by simp [← e])), h4.block f hf hn]
      have hnew := cell_one_new w4 (.slice (some ⟨g, 0, none⟩) n cap') 39
      rw [hsz4, hw4] at hnew
      replace hnew : Hid _ := hnew
      rw [hw4] at hw6 hsz4
      clear HR4 HPM4 HO4 HST4 HGC4 HST hk4 hw4
      go_wp2
      go_region
      go_wp2_with (at_builtin; refine wpList_append_own_at _ rfl _ _ 87 rfl 0 39 i0 (.slice none 0 0) 1 24 Tryz.underlying87 hi hz0 hz1 hz2 rfl (by decide) _ _ _ rfl hown4.out ⟨w3.heap.size, 0, none⟩ 1 1 [.slice (some ⟨g, 0, none⟩) n cap'] rfl rfl ?c1 ?c2 ?c3 ?c4 ?c5 ?_)
      case c1 => exact hnew.out
      case c2 => intro z hz; simp at hz; subst hz; rfl
      case c3 => unfold maxLen; omega
      case c4 => omega
      case c5 => omega
      intro v' w5 hown' hgrow _ hat
      rw [← hw6] at hgrow
      rw [show w3.heap.size + 1 = w6.heap.size by rw [hw6]; simp [World.setCell]] at hat
      obtain ⟨hgc5, HE⟩ := HFIN.out v' w5 hown' hgrow hat
      have x5 : w5.cell? ⟨gc, 2, none⟩ = some osl := blk_cell (i := 2) hgc5 (by simp)
      have f5 : w5.frozen? ⟨gc, 2, none⟩ = false := blk_frozen hgc5 _
      replace HE : Hid _ := HE
      obtain ⟨ao', cp', rfl⟩ : ∃ ao' cp', v' = .slice ao' (k + 1) cp' := by
        rcases hown'.2 with ⟨_, h⟩ | ⟨_, _, _, rfl, _⟩
        · omega
        · exact ⟨_, _, rfl⟩
      clear hown' hgrow hat hgc5 HFIN
      go_wp2
      go_ret
      exact ⟨g, cap', _, rfl, HE.out _ rfl⟩
end Go.Proofs.YtmhmlkdoaojimapGreatDoor

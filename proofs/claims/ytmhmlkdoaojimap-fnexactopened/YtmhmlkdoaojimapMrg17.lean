/- Four texts in one. -/
import Derived.Test.YtmhmlkdoaojimapMrg16
import Derived.Shelf.LaysM
import Derived.Shelf.Strconv.Clone
import Derived.Test.YtmhmlkdoaojimapProg
import Derived.Test.YtmhmlkdoaojimapRows
import Derived.WalkKit
import Derived.WalkSpells
import Derived.Test.YtmhmlkdoaojimapMrg15
import Derived.Test.YtmhmlkdoaojimapMrg9
import Derived.Deep.RegionWith
import Derived.BigQuiet
/- A map keyed by places of one list (an address, nothing, a number), asked for places that it has not. -/
namespace Go.Proofs.Ytmhmlkdoaojimap
open Go.RowKit

theorem cmap_look (w : World) (m : Nat) (D : List Nat) (h : CMapAt w m D) (a : Addr) (n : Int) (hD : a.block ∉ D) (ha : PB w a) (hS : DPB w D) :
    (Instr.lookup 69 (.map (some m)) (pk a none n) true).run Try.prog w = .ok (.tuple #[.slice none 0 0, .bool false]) w := by
  obtain ⟨es, clock, h1, h2⟩ := h
  have hr := cfind a n D hD _ h2 w ha hS
  have hc := cchk 9998 es.isEmpty w a n
  simp [Instr.lookup, run_underlying Try.underlying69, MapKept.run_getObj_map h1, hc, hr]

theorem cmap_put (w : World) (m : Nat) (D : List Nat) (h : CMapAt w m D) (a : Addr) (n : Int) (v : Value) (hD : a.block ∉ D) (ha : PB w a) (hS : DPB w D) :
    ∃ o, (Instr.mapUpdate 69 (.map (some m)) (pk a none n) v).run Try.prog w = .ok () (setB w m o) ∧ CMapAt (setB w m o) m (a.block :: D) := by
  obtain ⟨es, clock, h1, h2⟩ := h
  have hr := cfind a n D hD _ h2 w ha hS
  have hc := cchk 9998 false w a n
  refine ⟨.map (es.push { key := pk a none n, val := v, born := clock }) (clock + 1), ?_, _, _, setB_at h1, ?_⟩
  · simp [Instr.mapUpdate, run_underlying Try.underlying69, MapKept.run_getObj_map h1, hc, hr, MapKept.run_setObj_map _ h1, setB]
  · rw [Array.toList_push]
    intro e he
    rcases List.mem_append.1 he with he | he
    · obtain ⟨a', n', q1, q2⟩ := h2 e he
      exact ⟨a', n', q1, by simp [q2]⟩
    · rw [List.mem_singleton] at he
      subst he
      exact ⟨a, n, rfl, by simp⟩
end Go.Proofs.Ytmhmlkdoaojimap

/- The library contracts that are proved once over any program, at this translation: no walk, one application each. -/
namespace Go.Proofs.Ytmhmlkdoaojimap
open Go.Proofs
open Go.Shelf
def sh_laysM316_ren : Go.Shelf.Ren := ⟨fun | 316 => 34 | n => n, fun | 9 => 9 | 3 => 3 | 4 => 4 | 37 => 73 | 0 => 0 | 127 => 74 | 5 => 5 | n => n, fun | n => n⟩
theorem sh_laysM316 : Go.Proofs.LaysM.n316 Try.prog sh_laysM316_ren := {
  mixed := by kernel_rfl
  f316 := Try.func34.trans (congrArg some (by kernel_rfl))
  t0 := Try.underlying0
  a0 := Try.isAgg0
  z0 := Try.sizeOf0
  v0 := Try.zeroValue0
  t3 := Try.underlying3
  a3 := Try.isAgg3
  z3 := Try.sizeOf3
  v3 := Try.zeroValue3
  t4 := Try.underlying4
  a4 := Try.isAgg4
  z4 := Try.sizeOf4
  v4 := Try.zeroValue4
  t9 := Try.underlying9
  a9 := Try.isAgg9
  z9 := Try.sizeOf9
  v9 := Try.zeroValue9
  t37 := Try.underlying73
  a37 := Try.isAgg73
  z37 := Try.sizeOf73
  v37 := Try.zeroValue73
  t127 := Try.underlying74
  a127 := Try.isAgg74
  z127 := Try.sizeOf74
  v127 := Try.zeroValue74
  t5 := Try.underlying5
  a5 := Try.isAgg5
  z5 := Try.sizeOf5
  v5 := Try.zeroValue5
  i0 := by kernel_rfl
  i3 := by kernel_rfl
  i4 := by kernel_rfl
  i5 := by kernel_rfl
  i9 := by kernel_rfl
  i37 := by kernel_rfl
  i127 := by kernel_rfl }
open Go.RowKit in
theorem sh_stringslite_Clone (s : ByteArray) (w : World) (hlim : s.size ≤ 281474976710656) :
    Calls Try.prog 34 #[.string s] w fun e w' => e = .returned (.string s) ∧ Below w.heap.size w w' := Any.stringslite_Clone sh_laysM316 s w hlim
end Go.Proofs.Ytmhmlkdoaojimap

/- strings.Clone hands back the same bytes, and nothing that was there has turned. -/
namespace Go.Proofs.Ytmhmlkdoaojimap
open Go.RowKit

theorem clone_any (s : ByteArray) (w : World) (hlim : s.size ≤ 1048576) :
    Calls Try.prog 19 #[.string s] w fun e w' => e = .returned (.string s) ∧ Below w.heap.size w w' := by
  go_enter Try.func19, Try.ntmps19
  go_wp2_with (go_at_call 34; refine (sh_stringslite_Clone _ _ (by omega)).mono ?_; rintro e w1 ⟨rfl, hb⟩)
  go_ret
  exact ⟨rfl, hb⟩
end Go.Proofs.Ytmhmlkdoaojimap

/- (*copier).listCopied: a list of terms copied, marked, and laid open. -/
namespace Go.Proofs.Ytmhmlkdoaojimap
open Go.RowKit

theorem list_nil (w : World) (gc : Nat) (ao : Option Addr) (cap : Nat) :
    Calls Try.prog 52 #[.pointer (some ⟨gc, 0, none⟩), .slice ao 0 cap] w fun e w' => e = .returned (.slice none 0 0) ∧ Below w.heap.size w w' := by
  go_enter Try.func52, Try.ntmps52
  go_wp2
  go_ret
  exact ⟨rfl, Below.refl _ _⟩



set_option maxHeartbeats 4000000 in
set_option maxRecDepth 20000 in
theorem list_copied (w : World) (gc m b n cap L k : Nat) (T : Int) (osl : Value) (D : List Nat) (cs vs : List Value)
    (hc : w.heap[gc]? = some (.cells #[.map (some m), .int .i64 T, osl] 72 (0, 0))) (hm : CMapAt w m D) (hD : b ∉ D) (hDP : DPB w D)
    (hrow : w.ownsRow 0 54 4 (.slice (some ⟨b, 0, none⟩) n cap) n cs) (hcs : CellsOk cs n L) (hL : L ≤ 1048576) (hn : 0 < n) (hn2 : n ≤ 4194304) (hT : 0 ≤ T ∧ T ≤ 4194304)
    (hst : w.ownsRow 0 52 1 osl k vs) (hk : k ≤ 4194304)
    (d1 : gc ≠ m) (d2 : osl.ownBlock ≠ some gc) (d3 : osl.ownBlock ≠ some m) :
    Calls Try.prog 52 #[.pointer (some ⟨gc, 0, none⟩), .slice (some ⟨b, 0, none⟩) n cap] w fun e w' => ∃ g cap' osl', e = .returned (.slice (some ⟨g, 0, none⟩) n cap') ∧
      w'.ownsRow 0 54 4 (.slice (some ⟨g, 0, none⟩) n cap') n cs ∧ w.heap.size ≤ g ∧ w'.heap[gc]? = some (.cells #[.map (some m), .int .i64 (T + n), osl'] 72 (0, 0)) ∧ CMapAt w' m (b :: D) ∧
      w'.ownsRow 0 52 1 osl' (k + 1) (vs ++ [.slice (some ⟨g, 0, none⟩) n cap']) ∧ (osl'.ownBlock = osl.ownBlock ∨ ∃ z, osl'.ownBlock = some z ∧ w.heap.size ≤ z ∧ z ≠ g) ∧ Out (gc :: m :: osl.ownBlock.toList) w w' := by
  have hcap : (cap ≤ maxLen ∧ n ≤ cap) ∧ ∃ cur, w.heap[b]? = some (.cells cur 54 (0, 0)) := by
    rcases hrow.2 with ⟨h, _⟩ | ⟨g, c, cur, h, _, h0, h1, h2, _⟩
    · cases h
    · cases h; exact ⟨⟨h2, h1⟩, cur, h0⟩
  obtain ⟨⟨hcap1, hcap2⟩, curb, hblk⟩ := hcap
  unfold maxLen at hcap1
  obtain ⟨W, hW⟩ : ∃ W, W = w.alloc (.cells #[.pointer (some ⟨b, 0, none⟩), .pointer none, .int .i64 (n : Int)] 94) := ⟨_, rfl⟩
  have bW : Below w.heap.size w W := by rw [hW]; exact (Below.refl _ _).alloc (Nat.le_refl _) _
  have sW : W.heap.size = w.heap.size + 1 := by rw [hW]; simp
  have kW : W.heap[w.heap.size]? = some (.cells #[.pointer (some ⟨b, 0, none⟩), .pointer none, .int .i64 (n : Int)] 94 (0, 0)) := by rw [hW]; exact heap_alloc_new w _
  have hgl : gc < w.heap.size := (Array.getElem?_eq_some_iff.1 hc).1
  have hml : m < w.heap.size := by obtain ⟨es, cl, h1, _⟩ := hm; exact (Array.getElem?_eq_some_iff.1 h1).1
  have hbl : b < w.heap.size := (Array.getElem?_eq_some_iff.1 hblk).1
  have HDP : Hid (∀ w', Below w.heap.size w w' → DPB w' D) := fun w' hb f hf => by
    obtain ⟨cur, T', h⟩ := hDP f hf
    exact ⟨cur, T', (hb.block f (Array.getElem?_eq_some_iff.1 h).1).trans h⟩
  have HPB : Hid (∀ w', Below w.heap.size w w' → PB w' ⟨b, 0, none⟩) := fun w' hb => ⟨curb, _, (hb.block b hbl).trans hblk⟩
  have HMP : Hid (∀ w', Below w.heap.size w w' → CMapAt w' m D) := fun w' hb => by
    obtain ⟨es, cl, h1, h2⟩ := hm
    exact ⟨es, cl, (hb.block m hml).trans h1, h2⟩
  have HGC : Hid (∀ w', Below w.heap.size w w' → w'.heap[gc]? = some (.cells #[.map (some m), .int .i64 T, osl] 72 (0, 0))) := fun w' hb => (hb.block gc hgl).trans hc
  have HST : Hid (∀ w', Below w.heap.size w w' → w'.ownsRow 0 52 1 osl k vs) := fun w' hb => by
    refine ⟨hst.1, ?_⟩
    rcases hst.2 with hn | ⟨g, c, cur, e, h1, h2, h3⟩
    · exact Or.inl hn
    · exact Or.inr ⟨g, c, cur, e, h1, (hb.block g (Array.getElem?_eq_some_iff.1 h2).1).trans h2, h3⟩
  have hbD : Below w.heap.size w W.drew := bW.drew
  have l1 := cmap_look W.drew m D (HMP.out _ hbD) ⟨b, 0, none⟩ (n : Int) hD (HPB.out _ hbD) (HDP.out _ hbD)
  have x0 : W.drew.cell? ⟨gc, 0, none⟩ = some (.map (some m)) := blk_cell (i := 0) (HGC.out _ hbD) (by simp)
  have y0 : W.drew.cell? ⟨w.heap.size, 0, none⟩ = some (.pointer (some ⟨b, 0, none⟩)) := blk_cell (i := 0) (((Below.refl W.heap.size W).drew.block _ (by omega)).trans kW) (by simp)
  have y1 : W.drew.cell? ⟨w.heap.size, 1, none⟩ = some (.pointer none) := blk_cell (i := 1) (((Below.refl W.heap.size W).drew.block _ (by omega)).trans kW) (by simp)
  have y2 : W.drew.cell? ⟨w.heap.size, 2, none⟩ = some (.int .i64 (n : Int)) := blk_cell (i := 2) (((Below.refl W.heap.size W).drew.block _ (by omega)).trans kW) (by simp)
  have hrW : W.drew.ownsRow 0 54 4 (.slice (some ⟨b, 0, none⟩) n cap) n cs := row_keep hrow (hbD.block b hbl)
  have HCL := clone_row W.drew b n cap L cs hrW hn hn2 hcs
  have kD : W.drew.heap[w.heap.size]? = some (.cells #[.pointer (some ⟨b, 0, none⟩), .pointer none, .int .i64 (n : Int)] 94 (0, 0)) := ((Below.refl W.heap.size W).drew.block _ (by omega)).trans kW
  have sD : w.heap.size < W.drew.heap.size := (Array.getElem?_eq_some_iff.1 kD).1
  have HKD : Hid (∀ w', Below W.drew.heap.size W.drew w' → w'.heap[w.heap.size]? = some (.cells #[.pointer (some ⟨b, 0, none⟩), .pointer none, .int .i64 (n : Int)] 94 (0, 0)) ∧ Below w.heap.size w w') := fun w' hb => ⟨(hb.block _ sD).trans kD, hbD.trans (hb.mono hbD.size)⟩
  have HCS : Hid (CellsOk cs n L) := hcs
  have HD : Hid (b ∉ D) := hD
  have HD23 : Hid (osl.ownBlock ≠ some gc ∧ osl.ownBlock ≠ some m) := ⟨d2, d3⟩
  obtain ⟨i0, hi, hz0, hz1, hz2⟩ := info_parts infoSl
  rw [hW] at l1 x0 y0 y1 y2 HCL
  unfold pk at l1
  replace HCL : Hid _ := HCL
  clear hc hm hD hDP hrow hcs hst d2 d3 kW bW hbD hrW kD hblk
  go_enter Try.func52, Try.ntmps52
  go_wp2
  go_region
  clear l1 x0 y0 y1 y2
  go_wp2_with (go_at_call 55; refine (Calls.mono HCL.out ?_); rintro e w1 ⟨g, cap', rfl, hr1, hg1, hb1⟩; rw [← hW] at hb1 hg1; have HR1 : Hid (w1.ownsRow 0 54 4 (.slice (some ⟨g, 0, none⟩) n cap') n cs) := hr1; have HB1 : Hid (Below W.drew.heap.size W.drew w1) := hb1; have hcp : cap' ≤ maxLen := (by rcases hr1.2 with ⟨h, _⟩ | ⟨_, _, _, h, _, _, _, h2, _⟩; (· cases h); (· cases h; exact h2)); clear hr1 hb1)
  go_loopw [40] (fun vi wr => ∃ (j : Nat), j ≤ n ∧ vi = .int .i64 (j : Int) ∧ Hid (Below W.drew.heap.size W.drew wr) ∧ Hid (wr.ownsRow 0 54 4 (.slice (some ⟨g, 0, none⟩) n cap') n cs)) (fun i _ => n - (intOf i).toNat)
  case atStart => exact ⟨0, by omega, rfl, HB1.out, HR1.out⟩
  case round =>
    obtain ⟨j, hj, rfl, HB, HR⟩ := hrel
    by_cases hlt : j < n
    · obtain ⟨_, s, _, _, _, _, _, c1, _, _, hsL⟩ := HCS.out.2 j hlt
      have hcl : j * 4 + 1 < n * 4 := by omega
      have hx : wr.cell? ⟨g, j * 4 + 1, none⟩ = some (.string s) := (HR.out.cellAt (j * 4 + 1) hcl).trans c1
      have HCL2 : Hid (Calls Try.prog 19 #[.string s] wr fun e w' => e = .returned (.string s) ∧ Below wr.heap.size wr w') := clone_any s wr (by omega)
      have hglt : g < wr.heap.size := (HR.out.lt g rfl).2
      have HC1 : Hid (cs[j * 4 + 1]? = some (.string s)) := c1
      clear c1 hsL
      go_wp2_with (go_at_call 19; refine (Calls.mono HCL2.out ?_); rintro e w2 ⟨rfl, hb⟩; have HR2 : Hid (w2.ownsRow 0 54 4 (.slice (some ⟨g, 0, none⟩) n cap') n cs) := row_keep HR.out (hb.block g hglt); have HB2 : Hid (Below W.drew.heap.size W.drew w2) := HB.out.trans (hb.mono HB.out.size); have hx2 : w2.cell? ⟨g, j * 4 + 1, none⟩ = some (.string s) := (HR2.out.cellAt (j * 4 + 1) hcl).trans HC1.out; have hf2 := row_frozen HR2.out (j * 4 + 1); clear hb)
      go_roundw
      case rel => exact ⟨j + 1, by omega, by go_num, below_set HB2.out hg1 _, row_set_same HR2.out HC1.out⟩
      case measure => simp [intOf]; omega
    · clear HR1 HB1 HCL
      have HB3 : Hid (Below W.drew.heap.size W.drew wr.drew) := HB.out.drew
      obtain ⟨q1, q2⟩ := HKD.out _ HB3.out
      obtain ⟨o, hput, hpm⟩ := cmap_put wr.drew m D (HMP.out _ q2) ⟨b, 0, none⟩ (n : Int) (.slice (some ⟨g, 0, none⟩) n cap') HD.out (HPB.out _ q2) (HDP.out _ q2)
      unfold pk at hput
      have x0 : wr.drew.cell? ⟨gc, 0, none⟩ = some (.map (some m)) := blk_cell (i := 0) (HGC.out _ q2) (by simp)
      have y0 : wr.drew.cell? ⟨w.heap.size, 0, none⟩ = some (.pointer (some ⟨b, 0, none⟩)) := blk_cell (i := 0) q1 (by simp)
      have y1 : wr.drew.cell? ⟨w.heap.size, 1, none⟩ = some (.pointer none) := blk_cell (i := 1) q1 (by simp)
      have y2 : wr.drew.cell? ⟨w.heap.size, 2, none⟩ = some (.int .i64 (n : Int)) := blk_cell (i := 2) q1 (by simp)
      obtain ⟨w3, hw3⟩ : ∃ w3, w3 = setB wr.drew m o := ⟨_, rfl⟩
      rw [← hw3] at hput hpm
      have HPM : Hid (CMapAt w3 m (b :: D)) := hpm
      have hgl3 : g < wr.heap.size := (HR.out.lt g rfl).2
      have hsz3 : wr.heap.size = w3.heap.size := by rw [hw3]; simp [setB]
      have hgm : g ≠ m := by omega
      have HR3 : Hid (w3.ownsRow 0 54 4 (.slice (some ⟨g, 0, none⟩) n cap') n cs) := row_keep HR.out (by rw [hw3, setB_other hgm]; rfl)
      have HGC3 : Hid (w3.heap[gc]? = some (.cells #[.map (some m), .int .i64 T, osl] 72 (0, 0))) := by
        show _ = _
        rw [hw3, setB_other d1]; exact HGC.out _ q2
      have HST3 : Hid (w3.ownsRow 0 52 1 osl k vs) := by
        have h0 := HST.out _ q2
        refine ⟨h0.1, ?_⟩
        rcases h0.2 with hn | ⟨g', c, cur, e, h1, h2, h3⟩
        · exact Or.inl hn
        · refine Or.inr ⟨g', c, cur, e, h1, ?_, h3⟩
          rw [hw3, setB_other (fun e' => HD23.out.2 (by rw [e, e']; rfl))]; exact h2
      have HO3 : Hid (Out (gc :: m :: osl.ownBlock.toList) w w3) := by
        have h1 : Out (gc :: m :: osl.ownBlock.toList) w wr.drew := Out.of_below q2
        refine ⟨by rw [hw3]; exact h1.os, by rw [hw3]; exact h1.tape, by rw [hw3]; exact h1.output, by rw [hw3]; simpa [setB] using h1.size, fun f hf hn => ?_⟩
        rw [hw3, setB_other (fun e => hn (by simp [e]))]
        exact h1.block f hf hn
      have x1 : w3.cell? ⟨gc, 1, none⟩ = some (.int .i64 T) := blk_cell (i := 1) HGC3.out (by simp)
      have f1 : w3.frozen? ⟨gc, 1, none⟩ = false := blk_frozen HGC3.out _
      obtain ⟨w4, hw4⟩ : ∃ w4, w4 = w3.setCell ⟨gc, 1, none⟩ (.int .i64 (T + n)) := ⟨_, rfl⟩
      have hgl4 : gc < w3.heap.size := (Array.getElem?_eq_some_iff.1 HGC3.out).1
      have hsz4 : w4.heap.size = w3.heap.size := by rw [hw4]; simp [World.setCell]
      have HGC4 : Hid (w4.heap[gc]? = some (.cells #[.map (some m), .int .i64 (T + n), osl] 72 (0, 0))) := by
        show _ = _
        rw [hw4]; simpa using blk_set (i := 1) HGC3.out (.int .i64 (T + n))
      have hk4 : ∀ f, f ≠ gc → w4.heap[f]? = w3.heap[f]? := fun f hf => by rw [hw4]; exact blk_other _ hf
      have HST4 : Hid (w4.ownsRow 0 52 1 osl k vs) := by
        refine ⟨HST3.out.1, ?_⟩
        rcases HST3.out.2 with hn | ⟨g', c, cur, e, h1, h2, h3⟩
        · exact Or.inl hn
        · exact Or.inr ⟨g', c, cur, e, h1, (hk4 g' fun e' => HD23.out.1 (by rw [e, e']; rfl)).trans h2, h3⟩
      have hggc : g ≠ gc := by omega
      have HR4 : Hid (w4.ownsRow 0 54 4 (.slice (some ⟨g, 0, none⟩) n cap') n cs) := row_keep HR3.out (hk4 g hggc)
      have HPM4 : Hid (CMapAt w4 m (b :: D)) := by
        obtain ⟨es, cl, h1, h2⟩ := HPM.out
        exact ⟨es, cl, (hk4 m (Ne.symm d1)).trans h1, h2⟩
      have HO4 : Hid (Out (gc :: m :: osl.ownBlock.toList) w w4) := HO3.out.trans (by rw [hw4]; exact Out.set (by simp) _ _ _)
      have x2 : w4.cell? ⟨gc, 2, none⟩ = some osl := blk_cell (i := 2) HGC4.out (by simp)
      rw [hw4] at x2
      have hown4 : (w4.alloc (.cells #[.slice (some ⟨g, 0, none⟩) n cap'] 52)).ownsRow 0 52 1 osl k vs := HST4.out.alloc _
      rw [hw4] at hown4
      replace hown4 : Hid _ := hown4
      clear q1 q2 hpm hw3 HB3 HB HR HST3 HR3 HGC3 HPM HO3
      obtain ⟨w6, hw6⟩ : ∃ w6, w6 = w4.alloc (.cells #[.slice (some ⟨g, 0, none⟩) n cap'] 52) := ⟨_, rfl⟩
      have b6 : Below w4.heap.size w4 w6 := by rw [hw6]; exact (Below.refl _ _).alloc (Nat.le_refl _) _
      have s6 : w6.heap.size = w4.heap.size + 1 := by rw [hw6]; simp
      have HFIN : Hid (∀ v' w5, w5.ownsRow 0 52 1 v' (k + 1) (vs ++ [.slice (some ⟨g, 0, none⟩) n cap']) → w6.grownBy w5 osl.ownBlock → (v'.ownBlock = osl.ownBlock ∨ v'.ownBlock = some w6.heap.size) → w5.heap[gc]? = some (.cells #[.map (some m), .int .i64 (T + n), osl] 72 (0, 0)) ∧ ∀ w7, w7 = w5.setCell ⟨gc, 2, none⟩ v' →
          w7.ownsRow 0 54 4 (.slice (some ⟨g, 0, none⟩) n cap') n cs ∧ w.heap.size ≤ g ∧ w7.heap[gc]? = some (.cells #[.map (some m), .int .i64 (T + n), v'] 72 (0, 0)) ∧ CMapAt w7 m (b :: D) ∧
          w7.ownsRow 0 52 1 v' (k + 1) (vs ++ [.slice (some ⟨g, 0, none⟩) n cap']) ∧ (v'.ownBlock = osl.ownBlock ∨ ∃ z, v'.ownBlock = some z ∧ w.heap.size ≤ z ∧ z ≠ g) ∧ Out (gc :: m :: osl.ownBlock.toList) w w7) := by
        intro v' w5 hown' hgrow hat
        have hk5 : ∀ f, f < w4.heap.size → some f ≠ osl.ownBlock → w5.heap[f]? = w4.heap[f]? := fun f hf hne => (hgrow.block f (by omega) hne).trans (b6.block f hf)
        have hgc5 := (hk5 gc (by omega) (Ne.symm HD23.out.1)).trans HGC4.out
        have ho : osl.ownBlock ≠ some g := fun e => by
          have := row_lt0 (HST.out _ (Below.refl _ _)) e
          omega
        refine ⟨hgc5, fun w7 hw7 => ?_⟩
        have hk7 : ∀ f, f ≠ gc → w7.heap[f]? = w5.heap[f]? := fun f hf => by rw [hw7]; exact blk_other _ hf
        have hv' : v'.ownBlock ≠ some gc := by
          rcases hat with e | e <;> rw [e]
          · exact HD23.out.1
          · intro e'; injection e' with e'; omega
        refine ⟨row_keep HR4.out ((hk7 g hggc).trans (hk5 g (by omega) (Ne.symm ho))), by omega, by rw [hw7]; simpa using blk_set (i := 2) hgc5 v', ?_, ?_, ?_, ?_⟩
        · obtain ⟨es, cl, h1, h2⟩ := HPM4.out
          exact ⟨es, cl, ((hk7 m (Ne.symm d1)).trans (hk5 m (by omega) (Ne.symm HD23.out.2))).trans h1, h2⟩
        · refine ⟨hown'.1, ?_⟩
          rcases hown'.2 with hn | ⟨g', c, cur, e, h1, h2, h3⟩
          · exact Or.inl hn
          · exact Or.inr ⟨g', c, cur, e, h1, (hk7 g' fun e' => hv' (by rw [e, e']; rfl)).trans h2, h3⟩
        · rcases hat with e | e
          · exact Or.inl e
          · exact Or.inr ⟨_, e, by have := HO4.out.size; omega, by omega⟩
        · have h4 := HO4.out
          refine ⟨by rw [hw7]; exact hgrow.os.trans (b6.os.trans h4.os), by rw [hw7]; exact hgrow.tape.trans (b6.tape.trans h4.tape), by rw [hw7]; exact hgrow.output.trans (b6.output.trans h4.output), ?_, fun f hf hn => ?_⟩
          · have e1 : w7.heap.size = w5.heap.size := by rw [hw7]; simp [World.setCell]
            have e2 := hgrow.size
            have e3 := h4.size
            omega
          · have e3 := h4.size
            rw [hk7 f (fun e => hn (by simp [e])), hk5 f (by omega) (fun e => hn (by simp [← e])), h4.block f hf hn]
      have hnew := cell_one_new w4 (.slice (some ⟨g, 0, none⟩) n cap') 52
      rw [hsz4, hw4] at hnew
      replace hnew : Hid _ := hnew
      rw [hw4] at hw6 hsz4
      clear HR4 HPM4 HO4 HST4 HGC4 HST hk4 hw4
      go_wp2
      go_region
      go_wp2_with (at_builtin; refine wpList_append_own_at _ rfl _ _ 70 rfl 0 52 i0 (.slice none 0 0) 1 24 Try.underlying70 hi hz0 hz1 hz2 rfl (by decide) _ _ _ rfl hown4.out ⟨w3.heap.size, 0, none⟩ 1 1 [.slice (some ⟨g, 0, none⟩) n cap'] rfl rfl ?c1 ?c2 ?c3 ?c4 ?c5 ?_)
      case c1 => exact hnew.out
      case c2 => intro z hz; simp at hz; subst hz; rfl
      case c3 => unfold maxLen; omega
      case c4 => omega
      case c5 => omega
      intro v' w5 hown' hgrow _ hat
      rw [← hw6] at hgrow
      rw [show w3.heap.size + 1 = w6.heap.size by rw [hw6]; simp [World.setCell]] at hat
      obtain ⟨hgc5, HE⟩ := HFIN.out v' w5 hown' hgrow hat
      have x5 : w5.cell? ⟨gc, 2, none⟩ = some osl := blk_cell (i := 2) hgc5 (by simp)
      have f5 : w5.frozen? ⟨gc, 2, none⟩ = false := blk_frozen hgc5 _
      replace HE : Hid _ := HE
      obtain ⟨ao', cp', rfl⟩ : ∃ ao' cp', v' = .slice ao' (k + 1) cp' := by
        rcases hown'.2 with ⟨_, h⟩ | ⟨_, _, _, rfl, _⟩
        · omega
        · exact ⟨_, _, rfl⟩
      clear hown' hgrow hat hgc5 HFIN
      go_wp2
      go_ret
      exact ⟨g, cap', _, rfl, HE.out _ rfl⟩
end Go.Proofs.Ytmhmlkdoaojimap

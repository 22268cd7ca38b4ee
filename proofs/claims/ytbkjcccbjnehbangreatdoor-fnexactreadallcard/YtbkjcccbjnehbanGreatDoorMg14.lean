import Derived.Test.YtbkjcccbjnehbanGreatDoorMg13
import Derived.Test.YtbkjcccbjnehbanGreatDoorMg6
import Derived.Carry
import Derived.Test.YtbkjcccbjnehbanGreatDoorMg7
import Derived.Test.YtbkjcccbjnehbanGreatDoorVarPlain
import Derived.Test.YtbkjcccbjnehbanGreatDoorRows
import Derived.Laws.Concat
import Derived.WalkKit
import Derived.WalkSpells
import Derived.ProofKit
import Derived.OpenShut
import Derived.Test.YtbkjcccbjnehbanGreatDoorTmOwn
import Derived.Test.YtbkjcccbjnehbanGreatDoorMg1
import Derived.BigQuiet
import Derived.Test.YtbkjcccbjnehbanGreatDoorTmPlain
namespace Go.Proofs.YtbkjcccbjnehbanGreatDoor
open Go.RowKit
def RsOutI (L : List Sg) (a : Nat) (w : World) (e : Ending) (w' : World) : Prop :=
 ∃ tv nv F, e = .returned (.tuple #[tv, nv, .int .i64 ((rsR L a).nx : Int), .bool (rsR L a).ok]) ∧ TOk 24 (fun _ => False) w.heap.size w' (rsR L a).t tv F ∧ NRow w' w.heap.size (rsR L a).names nv ∧ (∀ b, nv.ownBlock = some b → b ∉ F) ∧ (rsR L a).names.length ≤ 3000 ∧ Below w.heap.size w w'
theorem readS_noend {r : List Sg} (h : NoEnd r) : readS r = none := by
 unfold readS
 cases e : termO true 130 1200 ⟨r, []⟩ with
 | none => rfl
 | some y =>
   obtain ⟨t, ⟨rest, names⟩⟩ := y
   cases rest with
   | nil => rfl
   | cons x r' =>
     have := h x (term_sub true 130 _ _ _ _ e x (by simp))
     simp only
     rw [if_neg (fun hh => this hh.1)]
def aheadL (L : List Sg) (a : Nat) : List Sg := (L.drop a).take (noEndC (L.drop a))
theorem rsR_of {L : List Sg} {a : Nat} (ha : a ≤ L.length) :
   (a + noEndC (L.drop a) = L.length ∧ rsR L a = ⟨false, noTm, [], L.length⟩) ∨
   (a + noEndC (L.drop a) < L.length ∧ (aheadL L a).length = noEndC (L.drop a) ∧ rsR L a = match readI (aheadL L a) with
     | some y => ⟨true, y.1, y.2, a + noEndC (L.drop a) + 1⟩
     | none => ⟨false, noTm, [], a + noEndC (L.drop a) + 1⟩) := by
 have hd : (L.drop a).length = L.length - a := List.length_drop ..
 rcases noEndC_at (L.drop a) with ⟨h1, h2, h3⟩ | ⟨E, tl, h1, h2, h3, h4⟩
 · left
   refine ⟨by omega, ?_⟩
   rw [rsR_none (fun _ => readS_noend h2), h3]
   congr 1
   omega
 · right
   have hl := congrArg List.length h1
   rw [List.length_append, List.length_cons, List.length_take] at hl
   have hc := noEndC_le (L.drop a)
   refine ⟨by omega, ?_, ?_⟩
   · unfold aheadL; rw [List.length_take]; omega
   · have hs : readS (L.drop a) = (readI (aheadL L a)).map fun y => (y.1, y.2, tl) := by
       conv => lhs; rw [h1]
       exact read_same h2 h3
     unfold rsR
     rw [if_pos (by omega), hs, h4]
     cases readI (aheadL L a) with
     | none => simp only [Option.map_none]; congr 1
     | some y =>
       simp only [Option.map_some]
       congr 1
       omega
theorem wholeO_readI (r : List Sg) : (wholeO (termO false 130 1200 ⟨r, []⟩)).map (fun y => (y.1, y.2.names)) = readI r := by
 unfold wholeO readI
 cases termO false 130 1200 ⟨r, []⟩ with
 | none => rfl
 | some y =>
   obtain ⟨t, ⟨rest, names⟩⟩ := y
   cases rest with
   | nil =>
     simp only
     by_cases h : t.ok = true
     · rw [if_pos ⟨trivial, h⟩, if_pos h]; rfl
     · rw [if_neg (fun hh => h hh.2), if_neg h]; rfl
   | cons x r' =>
     simp only
     rw [if_neg (fun hh => by cases hh.1)]; rfl
set_option maxHeartbeats 8000000 in
set_option maxRecDepth 20000 in
theorem i_readSigns (L : List Sg) (lv : Value) (a : Nat) (w : World) (ha : a ≤ L.length) (hL : L.length ≤ 3000) (hO : ∀ x ∈ L, SOk x) (h : SgRow w 0 L lv) :
   Calls Tryz.prog 21 #[lv, .int .i64 (a : Int)] w (RsOutI L a w) := by
 obtain ⟨ao, cap, rfl, hcap, hlc⟩ := h.shape
 obtain ⟨W, hW⟩ : ∃ W, W = w.alloc (.cells #[.int .i64 0, .string ⟨#[]⟩, .int .i64 0, .slice none 0 0] 24) := ⟨_, rfl⟩
 have bW : Below w.heap.size w W := by rw [hW]; exact (Below.refl _ _).alloc (Nat.le_refl _) _
 have kW : W.heap[w.heap.size]? = some (.cells #[.int .i64 0, .string ⟨#[]⟩, .int .i64 0, .slice none 0 0] 24 (0, 0)) := by rw [hW]; exact heap_alloc_new _ _
 have HNE : Hid _ := i_nextEnd L (.slice ao L.length cap) a W ha hL (h.keep bW)
 have HKW : Hid _ := kW
 have HBW : Hid (Below w.heap.size w W) := bW
 have HRW : Hid (SgRow W 0 L (.slice ao L.length cap)) := h.keep bW
 obtain ⟨NL, hNL⟩ : ∃ NL, NL = L.length := ⟨_, rfl⟩
 obtain ⟨E, hE⟩ : ∃ E, E = a + noEndC (L.drop a) := ⟨_, rfl⟩
 have hma : max (a : Int) 0 = (a : Int) := by omega
 rcases rsR_of ha with ⟨h1, h2⟩ | ⟨h1, h2, h3⟩
 · rw [← hE] at HNE h1
   rw [← hNL] at HNE HRW h1 h2 ⊢
   subst h1
   have HRS : Hid (rsR L a = ⟨false, noTm, [], E⟩) := h2
   clear h hNL hE h2 ha hO
   go_enter Tryz.func21, Tryz.ntmps21
   go_upto_region 1 with fail
   rw [← hW]
   clear hW
   obtain ⟨q0, q1, q2, q3, f0, f1, f2, f3⟩ := blk4 HKW.out
   go_wp2_with (go_at_call 32; refine (Calls.mono HNE.out ?_); rintro e w1 ⟨rfl, rfl⟩)
   refine bodyPost_ret_by (results_c3 rfl _ _ w.heap.size 24 _ (0, 0) _ rfl (blk4_set HKW.out) Tryz.underlying24 rfl (by kernel_rfl)) rfl ?_
   refine ⟨_, _, [], by rw [HRS.out]; rfl, by rw [HRS.out]; exact TOk.leaf (by omega) (by omega) (by decide), by rw [HRS.out]; exact ⟨rfl, Or.inl ⟨rfl, rfl⟩⟩, (fun b hb => by cases hb), by rw [HRS.out]; exact Nat.zero_le _, blk4_below HBW.out (Nat.le_refl _)⟩
 · obtain ⟨gb, cap2, hv, _, hgb, _, _, hcells⟩ := h.cells (fun e => by subst e; simp at h1)
   obtain ⟨rfl, _, rfl⟩ : ao = some ⟨gb, 0, none⟩ ∧ L.length = L.length ∧ cap = cap2 := by simpa using hv
   obtain ⟨n, hn⟩ : ∃ n, n = noEndC (L.drop a) := ⟨_, rfl⟩
   rw [← hn] at hE h1 h2 h3
   obtain ⟨L', hL'⟩ : ∃ L', L' = aheadL L a := ⟨_, rfl⟩
   have hSI : SIn W L' (.slice (some ⟨gb, a * 5, none⟩) n (cap - a)) := by
     refine ⟨some ⟨gb, a * 5, none⟩, cap - a, by rw [hL', h2], by rw [hL', h2]; omega, by omega, fun j hj => ⟨gb, a * 5, rfl, ?_⟩⟩
     rw [hL', h2] at hj
     have hjl : a + j < L.length := by omega
     have e : L'[j]'(by rw [hL', h2]; exact hj) = L[a + j] := by
       subst hL'
       simp [aheadL]
     rw [e, show a * 5 + j * 5 = (a + j) * 5 by omega]
     have hk := hcells (a + j) hjl
     have hb : W.heap[gb]? = w.heap[gb]? := bW.block gb hgb
     exact ⟨by rw [World.cell?_of_block (a := ⟨gb, _, none⟩) hb]; exact hk.1, by rw [World.cell?_of_block (a := ⟨gb, _, none⟩) hb]; exact hk.2.1, by rw [World.cell?_of_block (a := ⟨gb, _, none⟩) hb]; exact hk.2.2.1, by rw [World.cell?_of_block (a := ⟨gb, _, none⟩) hb]; exact hk.2.2.2.1, by rw [World.cell?_of_block (a := ⟨gb, _, none⟩) hb]; exact hk.2.2.2.2⟩
   rw [← hL'] at h2 h3
   rw [← hn, ← hE] at HNE
   rw [← hE] at h1 h3
   rw [← hNL] at HNE HRW h1 hL hlc ⊢
   have hne : ((E : Int) == (NL : Int)) = false := beq_false_of_ne (by omega)
   have hneg : ¬ (a : Int) < 0 := by omega
   have hla : (a : Int) ≤ (E : Int) := by omega
   have hlE : (E : Int) ≤ (cap : Int) := by omega
   have hca : ¬ cap = a := by omega
   have hEa : E - a = n := by omega
   have HEA : Hid (E = a + n ∧ E < NL ∧ NL ≤ 3000 ∧ NL ≤ cap ∧ cap ≤ maxLen) := ⟨hE, h1, hL, hlc, hcap⟩
   have HLL : Hid (L'.length = n) := h2
   have HRS : Hid _ := h3
   have HSI : Hid (SIn W L' (.slice (some ⟨gb, a * 5, none⟩) n (cap - a))) := hSI
   have HGB : Hid (gb < w.heap.size) := hgb
   have HO' : Hid (∀ x ∈ L', SOk x) := fun x hx => hO x (by rw [hL'] at hx; exact List.mem_of_mem_drop (List.mem_of_mem_take hx))
   have hmm := @run_makeMap Tryz.prog
   clear h hNL hE h1 h2 h3 ha hO hn hL' hL hlc hcap hv hcells hSI hgb HRW
   go_enter Tryz.func21, Tryz.ntmps21
   go_upto_region 1 with fail
   rw [← hW]
   clear hW
   go_upto_region 6 with (go_at_call 32; refine (Calls.mono HNE.out ?_); rintro e w1 ⟨rfl, rfl⟩)
   go_upto_region 7 with fail
   obtain ⟨V, hV⟩ : ∃ V, V = (w1.alloc (.map #[] 0)).alloc (.cells #[.slice (some ⟨gb, a * 5, none⟩) n (cap - a), .int .i64 0, .int .i64 0, .slice none 0 0, .map (some w1.heap.size)] 63) := ⟨_, rfl⟩
   rw [← hV]
   have bV : Below w1.heap.size w1 V := by rw [hV]; exact ((Below.refl _ _).alloc (Nat.le_refl _) _).alloc (by simp) _
   have kg : V.heap[w1.heap.size + 1]? = some (.cells #[.slice (some ⟨gb, a * 5, none⟩) n (cap - a), .int .i64 0, .int .i64 0, .slice none 0 0, .map (some w1.heap.size)] 63 (0, 0)) := by rw [hV]; exact alloc_at _ _ (by simp)
   have km : V.heap[w1.heap.size]? = some (.map #[] 0) := by rw [hV]; exact (alloc_old _ _ (by simp)).trans (heap_alloc_new _ _)
   have sV : V.heap.size = w1.heap.size + 2 := by rw [hV]; simp
   obtain ⟨m, hm⟩ : ∃ m, m = w1.heap.size := ⟨_, rfl⟩
   obtain ⟨g, hg⟩ : ∃ g, g = m + 1 := ⟨_, rfl⟩
   rw [← hm] at kg km ⊢
   rw [← hg] at kg ⊢
   have hsW := HBW.out.size
   have hgb := HGB.out
   have I0 : IRd g m L' (.slice (some ⟨gb, a * 5, none⟩) n (cap - a)) (.slice none 0 0) V 0 ⟨L', []⟩ := ⟨0, [], kg, HSI.out.turn fun b hb => by
       have : b = gb := by simpa [sliceBlk] using hb.symm
       subst this
       exact bV.block _ (by omega), fun b hb => by
       have : b = gb := by simpa [sliceBlk] using hb.symm
       subst this
       omega, ⟨rfl, Or.inl ⟨rfl, rfl⟩⟩, ⟨#[], 0, km, rfl⟩, MOk.nil, by omega, Nat.zero_le _, rfl, Nat.zero_le _⟩
   have HWH := i_whole g m L' (.slice (some ⟨gb, a * 5, none⟩) n (cap - a)) (.slice none 0 0) ⟨L', []⟩ V (by have := HLL.out; have := HEA.out; omega) HO'.out I0
   have hnX : ∀ k, k < m → ¬ XI g m (.slice none 0 0) k := fun k hk hh => by
     rcases hh with e | e | e
     · omega
     · omega
     · cases e
   have HNX : Hid (∀ k, k < m → ¬ XI g m (.slice none 0 0) k) := hnX
   have HGM : Hid (m = w1.heap.size ∧ g = m + 1 ∧ w.heap.size < m ∧ V.heap.size = m + 2) := ⟨hm, hg, by
     have := (Array.getElem?_eq_some_iff.1 HKW.out).1; omega, by omega⟩
   have HBV : Hid (Below w1.heap.size w1 V) := bV
   have HKV : Hid (V.heap[w.heap.size]? = some (.cells #[.int .i64 0, .string ⟨#[]⟩, .int .i64 0, .slice none 0 0] 24 (0, 0))) := (bV.block _ (Array.getElem?_eq_some_iff.1 HKW.out).1).trans HKW.out
   have hri := wholeO_readI L'
   obtain ⟨R, hR⟩ : ∃ R, R = wholeO (termO false 130 1200 ⟨L', []⟩) := ⟨_, rfl⟩
   rw [← hR] at HWH hri
   replace HWH : Hid _ := HWH
   have hwE : IntKind.i64.wrap ((E : Int) + 1) = (E : Int) + 1 := by have := HEA.out; rw [IntKind.wrap_i64]; omega
   clear hV bV kg km sV hm hg hsW hgb I0 hnX hR
   cases R with
   | none =>
     have HR0 : Hid (rsR L a = ⟨false, noTm, [], E + 1⟩) := by show _ = _; rw [HRS.out, ← hri]; rfl
     clear hri
     go_upto_region 8 with (go_at_call 33; refine (Calls.mono HWH.out ?_); rintro e w5 ⟨v, nv5, F, tm, st5, rfl, ht, hx, hy⟩; obtain ⟨t1, t2, t3, t4, t5, t6, rfl⟩ := ht.form; have HX5 : Hid (FX (XI g m (.slice none 0 0)) (XI g m nv5) V w5) := hx; have HT5 : Hid (TOk 24 (XI g m nv5) V.heap.size w5 tm (.agg #[.int .i64 t1, .string t2, .int .i64 t3, .slice t4 t5 t6]) F) := ht; have HY5 : Hid _ := hy; clear ht hx hy)
     obtain ⟨w6, hw6⟩ : ∃ w6, w6 = w5.alloc (.cells #[.int .i64 t1, .string t2, .int .i64 t3, .slice t4 t5 t6] 24) := ⟨_, rfl⟩
     rw [← hw6]
     have b6 : Below w5.heap.size w5 w6 := by rw [hw6]; exact (Below.refl _ _).alloc (Nat.le_refl _) _
     have hgm := HGM.out
     have hk : w6.heap[w.heap.size]? = _ := (b6.block _ (by have := HX5.out.size; omega)).trans ((HX5.out.block _ (by omega) (HNX.out _ (by omega))).trans HKV.out)
     have HK6 : Hid _ := hk
     have HB6 : Hid (Below w.heap.size w w6) := by
       have h1 : Below w1.heap.size w1 w5 := HBV.out.trans (HX5.out.below (by omega) (fun k hk' => by
         rcases hk' with e | e | e
         · omega
         · omega
         · cases e))
       exact HBW.out.trans ((h1.trans (b6.mono h1.size)).mono HBW.out.size)
     obtain ⟨q0, q1, q2, q3, f0, f1, f2, f3⟩ := blk4 hk
     clear hw6 b6 hgm hk
     go_wp2
     refine bodyPost_ret_by (results_c3 rfl _ _ w.heap.size 24 _ (0, 0) _ rfl (blk4_set HK6.out) Tryz.underlying24 rfl (by kernel_rfl)) rfl ?_
     refine ⟨_, _, [], by rw [HR0.out]; rfl, by rw [HR0.out]; exact TOk.leaf (by omega) (by omega) (by decide), by rw [HR0.out]; exact ⟨rfl, Or.inl ⟨rfl, rfl⟩⟩, (fun b hb => by cases hb), by rw [HR0.out]; exact Nat.zero_le _, blk4_below HB6.out (Nat.le_refl _)⟩
   | some y =>
     have HR0 : Hid (rsR L a = ⟨true, y.1, y.2.names, E + 1⟩) := by show _ = _; rw [HRS.out, ← hri]; rfl
     clear hri
     go_upto_region 8 with (go_at_call 33; refine (Calls.mono HWH.out ?_); rintro e w5 ⟨v, nv5, F, tm, st5, rfl, ht, hx, hy⟩; obtain ⟨t1, t2, t3, t4, t5, t6, rfl⟩ := ht.form; have HX5 : Hid (FX (XI g m (.slice none 0 0)) (XI g m nv5) V w5) := hx; have HT5 : Hid (TOk 24 (XI g m nv5) V.heap.size w5 tm (.agg #[.int .i64 t1, .string t2, .int .i64 t3, .slice t4 t5 t6]) F) := ht; have HY5 : Hid _ := hy; clear ht hx hy)
     obtain ⟨w6, hw6⟩ : ∃ w6, w6 = w5.alloc (.cells #[.int .i64 t1, .string t2, .int .i64 t3, .slice t4 t5 t6] 24) := ⟨_, rfl⟩
     rw [← hw6]
     have b6 : Below w5.heap.size w5 w6 := by rw [hw6]; exact (Below.refl _ _).alloc (Nat.le_refl _) _
     have hgm := HGM.out
     have hk : w6.heap[w.heap.size]? = _ := (b6.block _ (by have := HX5.out.size; omega)).trans ((HX5.out.block _ (by omega) (HNX.out _ (by omega))).trans HKV.out)
     have HK6 : Hid _ := hk
     have HB6 : Hid (Below w.heap.size w w6) := by
       have h1 : Below w1.heap.size w1 w5 := HBV.out.trans (HX5.out.below (by omega) (fun k hk' => by
         rcases hk' with e | e | e
         · omega
         · omega
         · cases e))
       exact HBW.out.trans ((h1.trans (b6.mono h1.size)).mono HBW.out.size)
     obtain ⟨htm, hst, hI5⟩ := HY5.out y rfl
     have hk10 : w6.heap[w5.heap.size]? = some (.cells #[.int .i64 t1, .string t2, .int .i64 t3, .slice t4 t5 t6] 24 (0, 0)) := by rw [hw6]; exact heap_alloc_new _ _
     obtain ⟨p6, ms6, hg6, _, _, hnr, _, _, _, hp6, _, hn6⟩ := (hI5.keep b6).ex
     have HNL : Hid (y.2.names.length ≤ 3000) := by
       show _ ≤ _
       rw [← hst]
       have h1 : st5.names.length ≤ p6 := hn6
       have := HLL.out; have := HEA.out; omega
     clear hp6 hn6
     have HNR : Hid (NRow w6 (max g m + 1) y.2.names nv5) := by rw [← hst]; exact hnr
     have HK10 : Hid _ := hk10
     have HG6 : Hid _ := hg6
     have HT6 : Hid (TOk 24 (XI g m nv5) V.heap.size w6 y.1 (.agg #[.int .i64 t1, .string t2, .int .i64 t3, .slice t4 t5 t6]) F) := by rw [← htm]; exact HT5.out.step (FX.of_below b6)
     obtain ⟨B10, hB10⟩ : ∃ B10, B10 = w5.heap.size := ⟨_, rfl⟩
     rw [← hB10] at HK10 ⊢
     have hn1 : B10 ≠ w.heap.size := by have := HX5.out.size; omega
     have hn2 : g ≠ w.heap.size := by omega
     have HNN : Hid (B10 ≠ w.heap.size ∧ g ≠ w.heap.size) := ⟨hn1, hn2⟩
     clear hw6 b6 hgm hk hk10 hg6 hnr htm hst hI5 hB10 hn1 hn2
     go_upto_region 10 with fail
     obtain ⟨q0, q1, q2, q3, f0, f1, f2, f3⟩ := blk4 HK6.out
     obtain ⟨z0, z1, z2, z3, _⟩ := blk4 HK10.out
     obtain ⟨g0, g1, g2, g3, g4, _⟩ := b5f HG6.out
     have hn1 := HNN.out.1
     have hn2 := HNN.out.2
     have hn3 : ¬ w.heap.size = B10 := fun e => hn1 e.symm
     have hn4 : ¬ w.heap.size = g := fun e => hn2 e.symm
     go_region
     obtain ⟨w7, hw7⟩ : ∃ w7, w7 = (((w6.setCell ⟨w.heap.size, 0, none⟩ (.int .i64 t1)).setCell ⟨w.heap.size, 1, none⟩ (.string t2)).setCell ⟨w.heap.size, 2, none⟩ (.int .i64 t3)).setCell ⟨w.heap.size, 3, none⟩ (.slice t4 t5 t6) := ⟨_, rfl⟩
     rw [← hw7]
     have k7 : w7.drew.heap[w.heap.size]? = some (.cells #[.int .i64 t1, .string t2, .int .i64 t3, .slice t4 t5 t6] 24 (0, 0)) := by
       rw [(rfl : w7.drew.heap = w7.heap), hw7]
       exact blk4_set HK6.out
     have oE : ∀ k, k ≠ w.heap.size → w7.drew.heap[k]? = w6.heap[k]? := fun k hk => by
       rw [(rfl : w7.drew.heap = w7.heap), hw7]
       exact blk4_other hk
     have b7 : Below w.heap.size w w7.drew := by
       refine Below.drew ?_
       rw [hw7]
       exact blk4_below HB6.out (Nat.le_refl _)
     have hgm := HGM.out
     have hnr := HNR.out
     clear hw7 q0 q1 q2 q3 f0 f1 f2 f3 z0 z1 z2 z3 g0 g1 g2 g3 g4
     generalize w7.drew = w8 at *
     go_wp2
     refine bodyPost_ret_by (results_c3 rfl _ _ w.heap.size 24 _ (0, 0) _ rfl k7 Tryz.underlying24 rfl (by kernel_rfl)) rfl ?_
     have ht6 := HT6.out
     refine ⟨_, nv5, F, by rw [HR0.out]; rfl, ?_, ?_, fun b hb hf => (ht6.out b hf).2 (Or.inr (Or.inr hb)), by rw [HR0.out]; exact HNL.out, b7⟩
     · rw [HR0.out]
       exact ⟨Own.keep _ _ _ ht6.own fun k hk => oE k (by have := (ht6.out k hk).1; omega), ht6.nd, fun k hk => ⟨by have := (ht6.out k hk).1; omega, fun h => h⟩⟩
     · rw [HR0.out]
       exact nrow_base (hnr.turn fun b hb => oE b (by have := (hnr.lt b hb).1; omega)) (by omega)
end Go.Proofs.YtbkjcccbjnehbanGreatDoor

namespace Go.Proofs.YtbkjcccbjnehbanGreatDoor
open Go.RowKit
theorem sgsF_sok {t : ByteArray} (ht : t.size ≤ 3000) : ∀ (n i : Nat), ∀ x ∈ sgsF t n i, SOk x := by
 intro n
 induction n with
 | zero => intro i x hx; simp [sgsF] at hx
 | succ n ih =>
   intro i x hx
   unfold sgsF at hx
   split at hx
   · rename_i hi
     rcases List.mem_append.1 hx with h | h
     · unfold stepAt at h
       split at h
       · simp at h
       · split at h
         · simp at h
         · obtain ⟨k, y, m, e, hs, hy, hm⟩ := MkOk.sign t i
           simp only [hs, Option.toList_some, List.mem_singleton] at h
           subst h
           refine ⟨?_, ?_, hm.1, hm.2⟩
           · show y.size ≤ 3000; omega
           · show i ≤ 3000; omega
     · exact ih _ x h
   · simp at hx
theorem signs_sok (t : ByteArray) : ∀ x ∈ (signsR t).1, SOk x := by
 unfold signsR
 split
 · exact sgsF_sok (by omega) _ _
 · intro x hx; cases hx
theorem rsR_le {L : List Sg} {a : Nat} (ha : a ≤ L.length) : (rsR L a).nx ≤ L.length := by
 by_cases h : a < L.length
 · exact (rsR_nx h).2
 · rw [rsR_none (fun h2 => absurd h2 h)]
   show a + behindC (L.drop a) ≤ L.length
   have := behindC_le (L.drop a)
   rw [List.length_drop] at this
   omega
def RtOutI (o : Option (Tm × List ByteArray)) (w : World) (e : Ending) (w' : World) : Prop :=
 ∃ tv nv F, e = .returned (.tuple #[tv, nv, .bool o.isSome]) ∧ TOk 24 (fun _ => False) w.heap.size w' (rtT o) tv F ∧ NRow w' w.heap.size (rtN o) nv ∧ (∀ b, nv.ownBlock = some b → b ∉ F) ∧ (rtN o).length ≤ 3000 ∧ Below w.heap.size w w'
set_option maxHeartbeats 4000000 in
set_option maxRecDepth 20000 in
theorem i_readTerm (t : ByteArray) (w : World) (hT : Lib.Utf8Tabs 0 1 w) : Calls Tryz.prog 6 #[.string t] w (RtOutI (rtR t) w) := by
 have HSG : Hid (∀ w1, Below w.heap.size w w1 → Calls Tryz.prog 20 #[.string t] w1 fun e w' => ∃ v, e = .returned (.tuple #[v, .bool (signsR t).2]) ∧ SgRow w' w1.heap.size (signsR t).1 v ∧ Below w1.heap.size w1 w') := fun w1 hb => impl_all t w1 (tabs_keep hT hb)
 have HLEN : Hid ((signsR t).1.length ≤ 3000) := signsR_len t
 have HOK : Hid (∀ x ∈ (signsR t).1, SOk x) := signs_sok t
 have HRT : Hid (rtR t = if (rsR (signsR t).1 0).ok = true ∧ (rsR (signsR t).1 0).nx = (signsR t).1.length then some ((rsR (signsR t).1 0).t, (rsR (signsR t).1 0).names) else none) := rfl
 generalize (signsR t).1 = L at *
 generalize (signsR t).2 = bb at *
 generalize rtR t = O at *
 obtain ⟨W, hW⟩ : ∃ W, W = w.alloc (.cells #[.int .i64 0, .string ⟨#[]⟩, .int .i64 0, .slice none 0 0] 24) := ⟨_, rfl⟩
 have bW : Below w.heap.size w W := by rw [hW]; exact (Below.refl _ _).alloc (Nat.le_refl _) _
 have HKW : Hid (W.heap[w.heap.size]? = some (.cells #[.int .i64 0, .string ⟨#[]⟩, .int .i64 0, .slice none 0 0] 24 (0, 0))) := by rw [hW]; exact heap_alloc_new _ _
 have HSW : Hid (W.heap.size = w.heap.size + 1) := by show _ = _; rw [hW]; simp
 have HBW : Hid (Below w.heap.size w W) := bW
 have HW : Hid (W = w.alloc (.cells #[.int .i64 0, .string ⟨#[]⟩, .int .i64 0, .slice none 0 0] 24)) := hW
 clear bW
 go_enter Tryz.func6, Tryz.ntmps6
 go_upto_region 1 with (fail)
 rw [← HW.out]
 clear hW
 go_upto_region 2 with (go_at_call 20; refine (Calls.mono (HSG.out _ HBW.out) ?_); rintro e w1 ⟨v1, rfl, r1, b1⟩; obtain ⟨ao, cap, rfl, hcap, hlc⟩ := r1.shape; have R1 : Hid (SgRow w1 W.heap.size L (.slice ao L.length cap)) := r1; have B1 : Hid (Below W.heap.size W w1) := b1; clear r1 b1)
 have HR0 : Hid (SgRow w1 0 L (.slice ao L.length cap)) := ⟨R1.out.1, by
   rcases R1.out.2 with hn | ⟨g, cap', cur, e, _, h2, h3⟩
   · exact Or.inl hn
   · exact Or.inr ⟨g, cap', cur, e, Nat.zero_le _, h2, h3⟩⟩
 have HRS := i_readSigns L (.slice ao L.length cap) 0 w1 (Nat.zero_le _) HLEN.out HOK.out HR0.out
 have hl3 : (L.length : Int) ≤ 3000 := by have := HLEN.out; omega
 obtain ⟨NL, hNL⟩ : ∃ NL, NL = L.length := ⟨_, rfl⟩
 rw [← hNL] at HRS hl3 HRT ⊢
 unfold RsOutI at HRS
 obtain ⟨RR, hRR⟩ : ∃ RR, RR = rsR L 0 := ⟨_, rfl⟩
 have hnxb : (rsR L 0).nx ≤ NL := by rw [hNL]; exact rsR_le (Nat.zero_le _)
 rw [← hRR] at HRS HRT hnxb
 obtain ⟨ok, t0, names, nx⟩ := RR
 have HNXB : Hid (nx ≤ NL) := hnxb
 clear hnxb
 replace HRS : Hid _ := HRS
 clear hRR hNL hlc R1 HR0 HSG HOK HLEN
 unfold maxLen at hcap
 go_upto_region 3 with (go_at_call 21; refine (Calls.mono HRS.out ?_); rintro e w2 ⟨tv, nv, F, rfl, ht, hnr, hdj, hnl, hb⟩; have HNL9 : Hid (names.length ≤ 3000) := hnl; clear hnl; have HDJ : Hid (∀ b, nv.ownBlock = some b → b ∉ F) := hdj; clear hdj; obtain ⟨tk, ts, tn, ta, tl, tc, rfl⟩ := ht.form; have HT2 : Hid (TOk 24 (fun _ => False) w1.heap.size w2 t0 (.agg #[.int .i64 tk, .string ts, .int .i64 tn, .slice ta tl tc]) F) := ht; have HN2 : Hid (NRow w2 w1.heap.size names nv) := hnr; have B2 : Hid (Below w1.heap.size w1 w2) := hb; clear ht hnr hb)
 have HBW2 : Hid (Below w.heap.size w w2) := by
   have h1 := HBW.out.trans (B1.out.mono HBW.out.size)
   exact h1.trans (B2.out.mono h1.size)
 obtain ⟨V, hV⟩ : ∃ V, V = w2.alloc (.cells #[.int .i64 tk, .string ts, .int .i64 tn, .slice ta tl tc] 24) := ⟨_, rfl⟩
 have bV : Below w2.heap.size w2 V := by rw [hV]; exact (Below.refl _ _).alloc (Nat.le_refl _) _
 have HK7 : Hid (V.heap[w2.heap.size]? = some (.cells #[.int .i64 tk, .string ts, .int .i64 tn, .slice ta tl tc] 24 (0, 0))) := by rw [hV]; exact heap_alloc_new _ _
 have HBV : Hid (Below w.heap.size w V) := HBW2.out.trans (bV.mono HBW2.out.size)
 have HLT : Hid (w.heap.size < w2.heap.size ∧ w.heap.size < w1.heap.size) := by have h0 := HSW.out; have h1 := B1.out.size; have h2 := B2.out.size; exact ⟨by omega, by omega⟩
 have HKV : Hid (V.heap[w.heap.size]? = some (.cells #[.int .i64 0, .string ⟨#[]⟩, .int .i64 0, .slice none 0 0] 24 (0, 0))) := by
   have h0 := HSW.out
   have h1 := (B1.out.block w.heap.size (by omega)).trans HKW.out
   have h2 := (B2.out.block w.heap.size HLT.out.2).trans h1
   exact (bV.block w.heap.size HLT.out.1).trans h2
 have HTV : Hid (TOk 24 (fun _ => False) w1.heap.size V t0 (.agg #[.int .i64 tk, .string ts, .int .i64 tn, .slice ta tl tc]) F) := HT2.out.step (FX.of_below bV)
 have HNV : Hid (NRow V w1.heap.size names nv) := nrow_keep HN2.out bV
 have hltV : w.heap.size < V.heap.size := (Array.getElem?_eq_some_iff.1 HKV.out).1
 rw [← hV]
 clear hV bV HT2 HN2 HKW HRS
 cases ok with
 | false =>
   have HON : Hid (O = none) := by show _ = _; rw [HRT.out, if_neg (by simp)]
   clear HRT
   go_upto_region 4 with (fail)
   obtain ⟨q0, q1, q2, q3, z0, z1, z2, z3⟩ := blk4 HKV.out
   go_wp2
   refine bodyPost_ret_by (results_c2 rfl _ _ w.heap.size 24 _ (0, 0) _ rfl (blk4_set HKV.out) Tryz.underlying24 rfl (by kernel_rfl)) rfl ?_
   exact ⟨_, _, [], by rw [HON.out]; rfl, by rw [HON.out]; exact tok_zero _ _, by rw [HON.out]; exact ⟨rfl, Or.inl ⟨rfl, rfl⟩⟩, (fun b hb => by cases hb), by rw [HON.out]; exact Nat.zero_le _, blk4_below HBV.out (Nat.le_refl _)⟩
 | true =>
   by_cases hnx : nx = NL
   · subst hnx
     have HON : Hid (O = some (t0, names)) := by show _ = _; rw [HRT.out, if_pos ⟨rfl, rfl⟩]
     clear HRT
     go_upto_region 5 with (fail)
     obtain ⟨q0, q1, q2, q3, z0, z1, z2, z3⟩ := blk4 HKV.out
     obtain ⟨y0, y1, y2, y3, _⟩ := blk4 HK7.out
     have hne : ¬ w.heap.size = w2.heap.size := by have := HLT.out.1; omega
     go_wp2
     refine bodyPost_ret_by (results_c2 rfl _ _ w.heap.size 24 _ (0, 0) _ rfl (blk4_set HKV.out) Tryz.underlying24 rfl (by kernel_rfl)) rfl ?_
     have h1 := HLT.out
     refine ⟨_, nv, F, by rw [HON.out]; rfl, ?_, ?_, HDJ.out, by rw [HON.out]; exact HNL9.out, blk4_below HBV.out (Nat.le_refl _)⟩
     · rw [HON.out]
       exact ⟨Own.keep _ _ _ HTV.out.own fun f hf => blk4_other (by have := (HTV.out.out f hf).1; omega), HTV.out.nd, fun f hf => ⟨by have := (HTV.out.out f hf).1; omega, fun h => h⟩⟩
     · rw [HON.out]
       exact nrow_base (B := w1.heap.size) (HNV.out.turn fun b hb => blk4_other (by have := (HNV.out.lt b hb).1; omega)) (by omega)
   · have HON : Hid (O = none) := by show _ = _; rw [HRT.out, if_neg (fun h => hnx h.2)]
     have hnb : (nx : Int) < (NL : Int) := by have h9 := HNXB.out; omega
     clear HRT hnx
     go_upto_region 4 with (fail)
     obtain ⟨q0, q1, q2, q3, z0, z1, z2, z3⟩ := blk4 HKV.out
     go_wp2
     refine bodyPost_ret_by (results_c2 rfl _ _ w.heap.size 24 _ (0, 0) _ rfl (blk4_set HKV.out) Tryz.underlying24 rfl (by kernel_rfl)) rfl ?_
     exact ⟨_, _, [], by rw [HON.out]; rfl, by rw [HON.out]; exact tok_zero _ _, by rw [HON.out]; exact ⟨rfl, Or.inl ⟨rfl, rfl⟩⟩, (fun b hb => by cases hb), by rw [HON.out]; exact Nat.zero_le _, blk4_below HBV.out (Nat.le_refl _)⟩
set_option maxHeartbeats 8000000 in
set_option maxRecDepth 20000 in
theorem i_readAll (t : ByteArray) (w : World) (hT : Lib.Utf8Tabs 0 1 w) : Calls Tryz.prog 14 #[.string t] w (RaOut (raR t) w) := by
 obtain ⟨i0, hi, hz0, hz1, hz2⟩ := info_partsS infoT
 have HSG : Hid (∀ w1, Below w.heap.size w w1 → Calls Tryz.prog 20 #[.string t] w1 fun e w' => ∃ v, e = .returned (.tuple #[v, .bool (signsR t).2]) ∧ SgRow w' w1.heap.size (signsR t).1 v ∧ Below w1.heap.size w1 w') := fun w1 hb => impl_all t w1 (tabs_keep hT hb)
 have HLEN : Hid ((signsR t).1.length ≤ 3000) := signsR_len t
 have HOK : Hid (∀ x ∈ (signsR t).1, SOk x) := signs_sok t
 have HRA : Hid (raL (signsR t).1 0 [] 0 = raR t) := rfl
 generalize (signsR t).1 = L at *
 generalize (signsR t).2 = bb at *
 generalize raR t = O at *
 have HBW : Hid (Below w.heap.size w w) := Below.refl _ _
 have HRW : Hid (ROk 24 (fun _ => False) w.heap.size w [] (.slice none 0 0) []) := ROk.nil
 obtain ⟨NL, hNL⟩ : ∃ NL, NL = L.length := ⟨_, rfl⟩
 have HNL : Hid (L.length = NL) := hNL.symm
 have hl3 : (NL : Int) ≤ 3000 := by have := HLEN.out; omega
 clear hNL
 go_enter Tryz.func14, Tryz.ntmps14
 go_upto_region 3 with (fail)
 go_wp2_with (go_at_call 20; refine (Calls.mono (HSG.out _ HBW.out) ?_); rintro e w1 ⟨v1, rfl, r1, b1⟩; obtain ⟨ao, cap, rfl, hcap, hlc⟩ := r1.shape; have R1 : Hid (SgRow w1 w.heap.size L (.slice ao L.length cap)) := r1; have B1 : Hid (Below w.heap.size w w1) := b1; rw [HNL.out] at R1 hlc ⊢; clear r1 b1)
 have HLV0 : Hid (SgRow w1 0 L (.slice ao NL cap)) := ⟨R1.out.1, by
   rcases R1.out.2 with hn | ⟨g, cap', cur, e, _, h2, h3⟩
   · exact Or.inl hn
   · exact Or.inr ⟨g, cap', cur, e, Nat.zero_le _, h2, h3⟩⟩
 have HLB0 : Hid (∀ b, (Value.slice ao NL cap).ownBlock = some b → w.heap.size ≤ b ∧ b < w1.heap.size) := fun b hb => by
   rcases R1.out.2 with ⟨e, _⟩ | ⟨g, cap', cur, e, h1, h2, _⟩
   · rw [e] at hb; cases hb
   · rw [e] at hb; simp only [Value.ownBlock, Option.some.injEq] at hb; subst hb; exact ⟨h1, (Array.getElem?_eq_some_iff.1 h2).1⟩
 have HR0 : Hid (ROk 24 (fun _ => False) w.heap.size w1 [] (.slice none 0 0) []) := HRW.out.step (FX.of_below B1.out)
 clear HRW R1 hlc
 unfold maxLen at hcap
 go_loopw [4, 5, 8] (fun v4 v5 v8 wr => ∃ (a b KN : Nat) (ks : List Tm) (F : List Nat) (ao4 : Option Addr) (cap4 : Nat), a ≤ NL ∧ v8 = .int .i64 (a : Int) ∧ v5 = .int .i64 (b : Int) ∧ v4 = .slice ao4 KN cap4 ∧ b ≤ a ∧ KN ≤ a ∧ Hid (ks.length = KN) ∧ Hid (raL L a ks b = O) ∧ Hid (ROk 24 (fun _ => False) w.heap.size wr ks (.slice ao4 KN cap4) F) ∧ Hid (∀ f ∈ F, (Value.slice ao NL cap).ownBlock ≠ some f) ∧ Hid (SgRow wr 0 L (.slice ao NL cap)) ∧ Hid (Below w.heap.size w wr)) (fun _ _ v8 _ => NL - (intOf v8).toNat)
 case atStart => exact ⟨0, 0, 0, [], [], _, _, Nat.zero_le _, rfl, rfl, rfl, Nat.le_refl _, Nat.le_refl _, rfl, HRA.out, HR0.out, (fun f hf e => by cases hf), HLV0.out, HBW.out.trans (B1.out.mono HBW.out.size)⟩
 case round =>
   clear HLV0 HR0 HRA HLB0
   obtain ⟨a, b, KN, ks, F, ao4, cap4, ha, rfl, rfl, rfl, hba, hka, HKN, HRL, HRO, HFL, HLV, HB⟩ := hrel
   by_cases hlt : a < NL
   · have hltL : a < L.length := by have := HNL.out; omega
     have HRS := i_readSigns L (.slice ao NL cap) a wr (Nat.le_of_lt hltL) HLEN.out HOK.out HLV.out
     have hnx := rsR_nx hltL
     unfold RsOutI at HRS
     have HOKY : Hid ((rsR L a).ok = true → raL L (rsR L a).nx (ks ++ [(rsR L a).t]) b = O) := fun h => by rw [← HRL.out, raL_ok hltL h]
     have HNOY : Hid ((rsR L a).ok = false → raL L (rsR L a).nx ks (b + 1) = O) := fun h => by rw [← HRL.out, raL_no hltL h]
     rw [HNL.out] at hnx
     generalize rsR L a = RR at *
     obtain ⟨ok, t0, names, nx⟩ := RR
     simp only at hnx
     replace HRS : Hid _ := HRS
     have hlv : ∀ k, (Value.slice ao NL cap).ownBlock = some k → k < wr.heap.size := fun k hk => by
       rcases HLV.out.2 with ⟨e, _⟩ | ⟨g, cap', cur, e, _, hh, _⟩
       · rw [e] at hk; cases hk
       · rw [e] at hk; simp only [Value.ownBlock, Option.some.injEq] at hk; subst hk; exact (Array.getElem?_eq_some_iff.1 hh).1
     have HLVB : Hid _ := hlv
     clear hltL HRL hlv
     go_upto_region 7 with (go_at_call 21; refine (Calls.mono HRS.out ?_); rintro e w2 ⟨tv, nv, F2, rfl, ht, hnr, _, _, hb⟩; obtain ⟨tk, ts, tn, ta, tl, tc, rfl⟩ := ht.form; have HT2 : Hid (TOk 24 (fun _ => False) wr.heap.size w2 t0 (.agg #[.int .i64 tk, .string ts, .int .i64 tn, .slice ta tl tc]) F2) := ht; have B2 : Hid (Below wr.heap.size wr w2) := hb; obtain ⟨aon, capn, rfl, _⟩ := hnr.cells; clear ht hnr hb)
     obtain ⟨V, hV⟩ : ∃ V, V = w2.alloc (.cells #[.int .i64 tk, .string ts, .int .i64 tn, .slice ta tl tc] 24) := ⟨_, rfl⟩
     have bV : Below w2.heap.size w2 V := by rw [hV]; exact (Below.refl _ _).alloc (Nat.le_refl _) _
     have HK7 : Hid (V.heap[w2.heap.size]? = some (.cells #[.int .i64 tk, .string ts, .int .i64 tn, .slice ta tl tc] 24 (0, 0))) := by rw [hV]; exact heap_alloc_new _ _
     have HTV : Hid (TOk 24 (fun _ => False) wr.heap.size V t0 (.agg #[.int .i64 tk, .string ts, .int .i64 tn, .slice ta tl tc]) F2) := HT2.out.step (FX.of_below bV)
     have HBV : Hid (Below wr.heap.size wr V) := B2.out.trans (bV.mono B2.out.size)
     have HWV : Hid (w2.heap.size < V.heap.size) := by show _ < _; rw [hV]; simp
     rw [← hV]
     clear hV bV HT2 HRS B2
     have HROV : Hid (ROk 24 (fun _ => False) w.heap.size V ks (.slice ao4 KN cap4) F) := HRO.out.step (FX.of_below HBV.out)
     have HLVV : Hid (SgRow V 0 L (.slice ao NL cap)) := HLV.out.keep HBV.out
     have HBWV : Hid (Below w.heap.size w V) := HB.out.trans (HBV.out.mono HB.out.size)
     cases ok with
     | false =>
       have HRF : Hid _ := HNOY.out rfl
       clear HNOY HOKY
       go_wp2
       go_roundw
       case rel => exact ⟨nx, b + 1, KN, ks, F, ao4, cap4, hnx.2, rfl, by go_num, rfl, by omega, by omega, HKN.out, HRF.out, HROV.out, HFL.out, HLVV.out, HBWV.out⟩
       case measure => simp [intOf]; omega
     | true =>
       have HRF : Hid _ := HOKY.out rfl
       clear HNOY HOKY
       obtain ⟨y0, y1, y2, y3, _⟩ := blk4 HK7.out
       obtain ⟨w5, hw5⟩ : ∃ w5, w5 = V.alloc (.cells #[.int .i64 tk, .string ts, .int .i64 tn, .slice ta tl tc] 24) := ⟨_, rfl⟩
       have b5 : Below V.heap.size V w5 := by rw [hw5]; exact (Below.refl _ _).alloc (Nat.le_refl _) _
       have HRO5 : Hid (ROk 24 (fun _ => False) w.heap.size w5 ks (.slice ao4 KN cap4) F) := HROV.out.step (FX.of_below b5)
       obtain ⟨cs, F0, p1, p2, p3, p4, p5⟩ := HRO5.out.row
       rw [HKN.out, hw5] at p1
       have HP1 : Hid _ := p1
       have HP2 : Hid _ := p2
       have HP3 : Hid _ := p3
       have HP4 : Hid _ := p4
       have HP5 : Hid _ := p5
       have HW5 : Hid (w5 = V.alloc (.cells #[.int .i64 tk, .string ts, .int .i64 tn, .slice ta tl tc] 24)) := hw5
       have HB5 : Hid _ := b5
       clear p1 p2 p3 p4 p5 hw5 b5
       have hszV := HBWV.out.size
       go_wp2_with (at_builtin; go_loud (refine wpList_append_own_at _ rfl _ _ 22 rfl 0 24 i0 (.agg #[.int .i64 0, .string ⟨#[]⟩, .int .i64 0, .slice none 0 0]) 4 56 Tryz.underlying22 hi hz0 hz1 hz2 rfl (by decide) _ _ _ rfl HP1.out ⟨V.heap.size, 0, none⟩ 1 1 [.int .i64 tk, .string ts, .int .i64 tn, .slice ta tl tc] rfl rfl ?c1 ?c2 ?c3 ?c4 ?c5 ?_))
       case c1 =>
         intro q z hq
         match q, hq with
         | 0, hq => simp at hq; subst hq; simp [Addr.add]
         | 1, hq => simp at hq; subst hq; simp [Addr.add]
         | 2, hq => simp at hq; subst hq; simp [Addr.add]
         | 3, hq => simp at hq; subst hq; simp [Addr.add]
       case c2 => intro z hz; simp at hz; rcases hz with rfl | rfl | rfl | rfl <;> rfl
       case c3 => unfold maxLen; omega
       case c4 => omega
       case c5 => omega
       intro v' w6 hown' hgrow _ hat
       rw [← HW5.out] at hgrow
       have hat5 : v'.ownBlock = (Value.slice ao4 KN cap4).ownBlock ∨ v'.ownBlock = some w5.heap.size := by rw [HW5.out]; simpa using hat
       have hbw := HB.out.size
       obtain ⟨⟨F', hF1, hF2⟩, hbel⟩ := row_push (W := w) HRO5.out ((HTV.out.lo_le hbw).step (FX.of_below HB5.out)) (fun f hf g' hg' => by have := HRO.out.lt f hf; have := (HTV.out.out g' hg').1; omega) HP2.out HP3.out HP4.out HP5.out (by rw [HKN.out]; exact hown') hgrow hat5 (HBWV.out.trans (HB5.out.mono hszV))
       obtain ⟨a6, c6, rfl⟩ : ∃ ao cap, v' = .slice ao (KN + 1) cap := by
         rcases hown'.2 with ⟨e, h0⟩ | ⟨g, cap', cur, e, _⟩
         · omega
         · exact ⟨_, _, e⟩
       have HF1 : Hid (ROk 24 (fun _ => False) w.heap.size w6 (ks ++ [t0]) (.slice a6 (KN + 1) c6) F') := hF1
       have HF2 : Hid (∀ f ∈ F', (Value.slice ao NL cap).ownBlock ≠ some f) := fun f hf e => by
         have h1 := HLVB.out f e
         rcases hF2 f hf with h | h | h
         · exact HFL.out f h e
         · have := (HTV.out.out f h).1; omega
         · have := HB5.out.size; have := HBV.out.size; omega
       have HLV6 : Hid (SgRow w6 0 L (.slice ao NL cap)) := (HLVV.out.keep HB5.out).turn fun b hb => hgrow.block b (by have := HLVB.out b hb; have := HB5.out.size; have := HBV.out.size; omega) (fun e => HFL.out b (HP5.out b e.symm) hb)
       have HB6 : Hid (Below w.heap.size w w6) := hbel
       have HKN6 : Hid ((ks ++ [t0]).length = KN + 1) := by show _ = _; rw [List.length_append, HKN.out]; rfl
       clear hown' hgrow hat hat5 hF1 hF2 hbel HP1 HP2 HP3 HP4 HP5 y0 y1 y2 y3
       go_wp2
       go_roundw
       case rel => exact ⟨nx, b, KN + 1, ks ++ [t0], F', a6, c6, hnx.2, rfl, rfl, by go_num, by omega, by omega, HKN6.out, HRF.out, HF1.out, HF2.out, HLV6.out, HB6.out⟩
       case measure => simp [intOf]; omega
   · obtain rfl : a = NL := by omega
     have HE : Hid (O = (ks, b)) := by show _ = _; rw [← HRL.out, raL_end (by rw [HNL.out]; exact hlt)]
     clear HRL
     go_wp2
     go_ret2
     exact ⟨_, F, by rw [HE.out]; rfl, by rw [HE.out]; exact HRO.out, HB.out⟩
end Go.Proofs.YtbkjcccbjnehbanGreatDoor

namespace Go.Proofs.YtbkjcccbjnehbanGreatDoor
def fig (x : Nat) : UInt8 := if x < 10 then UInt8.ofNat (48 + x) else UInt8.ofNat (87 + x)
def hexL (l : List UInt8) : List UInt8 := l.flatMap fun c => [fig (c.toNat / 16), fig (c.toNat % 16)]
theorem fig_nat (x : Nat) (h : x < 16) : (fig x).toNat = if x < 10 then 48 + x else 87 + x := by
 unfold fig
 split <;> simp <;> omega
end Go.Proofs.YtbkjcccbjnehbanGreatDoor

namespace Go.Proofs.YtbkjcccbjnehbanGreatDoor
def decR (n : Nat) : List UInt8 := if _h : 0 < n then decR (n / 10) ++ [fig (n % 10)] else []
theorem decR_pos {n : Nat} (h : 0 < n) : decR n = decR (n / 10) ++ [fig (n % 10)] := by rw [decR]; simp [h]
theorem decR_zero : decR 0 = [] := by rw [decR]; simp
def decB (n : Nat) : List UInt8 := if n = 0 then [48] else decR n
def decI (n : Int) : List UInt8 := if n < 0 then 45 :: decR n.natAbs else decB n.toNat
theorem decR_len (k : Nat) : ∀ n, n < 10 ^ k → (decR n).length ≤ k := by
 induction k with
 | zero => intro n h; obtain rfl : n = 0 := by simpa using h
           rw [decR_zero]; simp
 | succ k ih =>
   intro n h
   by_cases hn : 0 < n
   · rw [decR_pos hn, List.length_append]
     have := ih (n / 10) (by rw [Nat.pow_succ] at h; omega)
     simp; omega
   · obtain rfl : n = 0 := by omega
     rw [decR_zero]; simp
def digit (c : UInt8) : Prop := 48 ≤ c.toNat ∧ c.toNat ≤ 57
def numF (n : Nat) (l : List UInt8) : Nat := l.foldl (fun n c => 10 * n + (c.toNat - 48)) n
def numL (l : List UInt8) : Nat := numF 0 l
def neat (l : List UInt8) : Prop := l ≠ [] ∧ (l.head? = some 48 → l.length = 1)
def rdOk (l : List UInt8) : Prop := neat l ∧ (∀ c ∈ l, digit c) ∧ numL l ≤ 1000000000
def rdNo : Value := .tuple #[.int .i64 0, .bool false]
end Go.Proofs.YtbkjcccbjnehbanGreatDoor

namespace Go.Proofs.YtbkjcccbjnehbanGreatDoor
open Go.RowKit
theorem conv_one (W : World) (b : UInt8) :
   (convert 66 9 (.slice (some ⟨W.heap.size, 0, none⟩) 1 1)).run Tryz.prog (W.alloc (.cells #[.int .u8 (b.toNat : Int)] 5)) = .ok (.string ⟨#[b]⟩) (W.alloc (.cells #[.int .u8 (b.toNat : Int)] 5)) := by
 refine run_convert_bytes_back (P := Tryz.prog) _ 66 9 5 ⟨W.heap.size, 0, none⟩ 1 [b] Tryz.underlying66 Tryz.underlying5 Tryz.underlying9 fun j hj => ?_
 match j, hj with
 | 0, _ => simp [Addr.add]
theorem add_one (b : UInt8) (q : List UInt8) (hq : q.length ≤ 30) (u : World) :
   (Op.stringOp .add ⟨#[b]⟩ ⟨q.toArray⟩).run Tryz.prog u = .ok (.string ⟨(b :: q).toArray⟩) u := by
 have h := run_string_add_sum (P := Tryz.prog) u ⟨#[b]⟩ ⟨q.toArray⟩ (by rw [size_mk, size_mk, List.length_singleton]; omega)
 have e : (⟨#[b]⟩ : ByteArray) ++ ⟨q.toArray⟩ = ⟨(b :: q).toArray⟩ := by rw [ByteArray.mk_append_mk]; congr 1
 rw [h, e]
theorem dec_step {m N : Nat} {q : List UInt8} (hm : 0 < m) (h : decR m ++ q = decR N) : decR (m / 10) ++ (fig (m % 10) :: q) = decR N := by
 rw [decR_pos hm] at h
 rw [← h]; simp
theorem dec_q {m N : Nat} {q : List UInt8} (hN : N ≤ 9223372036854775808) (h : decR m ++ q = decR N) : q.length ≤ 20 := by
 have h1 := decR_len 20 N (by omega)
 rw [← h, List.length_append] at h1
 omega
end Go.Proofs.YtbkjcccbjnehbanGreatDoor

namespace Go.Proofs.YtbkjcccbjnehbanGreatDoor
open Go.RowKit
def mkS (k : Nat) : List UInt8 := 109 :: decR k
set_option maxHeartbeats 1000000 in
theorem mark_any (N : Nat) (w : World) (h0 : 0 < N) (hN : N ≤ 4611686018427387904) :
   Calls Tryz.prog 22 #[.int .i64 (N : Int)] w fun e w' => e = .returned (.string ⟨(mkS N).toArray⟩) ∧ Below w.heap.size w w' := by
 have hfin := add_one 109 (decR N) (by have := decR_len 20 N (by omega); omega)
 unfold mkS
 go_enter Tryz.func22, Tryz.ntmps22
 go_wp2
 go_loopw [0, 3] (fun vn vs wr => ∃ (m : Nat) (q : List UInt8), vn = .int .i64 m ∧ vs = .string ⟨q.toArray⟩ ∧ m ≤ N ∧ q.length ≤ 20 ∧ Hid (decR m ++ q = decR N) ∧ Below w.heap.size w wr)
   (fun vn _ _ => (intOf vn).toNat)
 case atStart => exact ⟨N, [], rfl, rfl, Nat.le_refl _, by simp, by show _ = _; simp, Below.refl _ _⟩
 case round =>
   obtain ⟨m, q, rfl, rfl, hmN, hql, hq, hb⟩ := hrel
   have hsz := hb.size
   by_cases hm : m = 0
   · subst hm
     have hf : q = decR N := by have := hq.out; rwa [decR_zero, List.nil_append] at this
     subst hf
     clear hq
     go_wp2
     go_ret
     exact ⟨rfl, hb⟩
   · have hmp : 0 < m := by omega
     have hadd := add_one (fig (m % 10)) q (by omega)
     have e : ((fig (m % 10)).toNat : Int) = 48 + (m : Int) % 10 := by rw [fig_nat _ (by omega), if_pos (by omega)]; omega
     have hcv : ∀ W : World, (convert 66 9 (.slice (some ⟨W.heap.size, 0, none⟩) 1 1)).run Tryz.prog (W.alloc (.cells #[.int .u8 (48 + (m : Int) % 10)] 5)) = .ok (.string ⟨#[fig (m % 10)]⟩) (W.alloc (.cells #[.int .u8 (48 + (m : Int) % 10)] 5)) := by
       intro W; have := conv_one W (fig (m % 10)); rwa [e] at this
     have hq' : Hid _ := dec_step hmp hq.out
     have hql' := dec_q (by omega) hq'.out
     clear hm hq hfin e
     go_wp2
     go_roundw
     case rel => exact ⟨m / 10, _, by go_num, rfl, by omega, hql', hq', hb.alloc hsz _⟩
     case measure => simp [intOf]; omega
theorem mark_int (n : Int) (w : World) (h0 : 0 < n) (hN : n ≤ 4611686018427387904) :
   Calls Tryz.prog 22 #[.int .i64 n] w fun e w' => e = .returned (.string ⟨(mkS n.toNat).toArray⟩) ∧ Below w.heap.size w w' := by
 have := mark_any n.toNat w (by omega) (by omega)
 rwa [show (n.toNat : Int) = n by omega] at this
end Go.Proofs.YtbkjcccbjnehbanGreatDoor

namespace Go.Proofs.YtbkjcccbjnehbanGreatDoor
open Go.RowKit
def Tm.markT : Tm → Nat → Tm
 | .mk _ _ _ ks, c => .mk (c : Int) ⟨(mkS (c + 1)).toArray⟩ ((c + 2 : Nat) : Int) (markL ks (c + 3))
where markL : List Tm → Nat → List Tm
 | [], _ => []
 | t :: ts, c => t.markT c :: markL ts (c + 3 * t.n)
abbrev markL := Tm.markT.markL
theorem markL_nil (c : Nat) : markL [] c = [] := by simp [markL, Tm.markT.markL]
theorem markL_cons (t : Tm) (ts : List Tm) (c : Nat) : markL (t :: ts) c = t.markT c :: markL ts (c + 3 * t.n) := by simp [markL, Tm.markT.markL]
theorem markT_mk (k : Int) (s : ByteArray) (n : Int) (ks : List Tm) (c : Nat) : (Tm.mk k s n ks).markT c = .mk (c : Int) ⟨(mkS (c + 1)).toArray⟩ ((c + 2 : Nat) : Int) (markL ks (c + 3)) := by simp [Tm.markT, markL]
theorem ns_cons (t : Tm) (ts : List Tm) : ns (t :: ts) = t.n + ns ts := by simp [ns, Tm.n.ns]
theorem markL_append (l m : List Tm) (c : Nat) : markL (l ++ m) c = markL l c ++ markL m (c + 3 * ns l) := by
 induction l generalizing c with
 | nil => simp [markL_nil, ns, Tm.n.ns]
 | cons t r ih => rw [List.cons_append, markL_cons, markL_cons, ih, ns_cons, List.cons_append, show c + 3 * t.n + 3 * ns r = c + 3 * (t.n + ns r) by omega]
theorem markL_len (l : List Tm) (c : Nat) : (markL l c).length = l.length := by
 induction l generalizing c with
 | nil => simp [markL_nil]
 | cons t r ih => rw [markL_cons, List.length_cons, List.length_cons, ih]
theorem markL_at {l : List Tm} {c j : Nat} (h : j < l.length) : (markL l c)[j]'(by rw [markL_len]; exact h) = l[j].markT (c + 3 * ns (l.take j)) := by
 induction l generalizing c j with
 | nil => simp at h
 | cons t r ih =>
   cases j with
   | zero => simp [markL_cons, ns, Tm.n.ns]
   | succ j =>
     simp only [markL_cons, List.getElem_cons_succ, List.take_succ_cons, ns_cons]
     rw [ih (by simpa using h)]
     congr 1
     omega
theorem mkS_len (k : Nat) (h : k ≤ 4611686018427387904) : (mkS k).length ≤ 40 := by
 unfold mkS
 have := decR_len 20 k (by omega)
 simp only [List.length_cons]
 omega
theorem OwnRow.split {e : TypeId} {w : World} : ∀ (l m : List Tm) (cs : List Value) (F : List Nat), OwnRow e w (l ++ m) cs F →
   ∃ cs1 cs2 F1 F2, cs = cs1 ++ cs2 ∧ F = F1 ++ F2 ∧ OwnRow e w l cs1 F1 ∧ OwnRow e w m cs2 F2
 | [], m, cs, F, h => ⟨[], cs, [], F, rfl, rfl, by unfold OwnRow; exact ⟨rfl, rfl⟩, h⟩
 | t :: l, m, cs, F, h => by
   rw [List.cons_append] at h
   unfold OwnRow at h
   obtain ⟨c0, c1, c2, c3, cs', F1, F2, rfl, rfl, h1, h2⟩ := h
   obtain ⟨a, b, G1, G2, rfl, rfl, h3, h4⟩ := OwnRow.split l m cs' F2 h2
   refine ⟨c0 :: c1 :: c2 :: c3 :: a, b, F1 ++ G1, G2, by simp, by simp, ?_, h4⟩
   unfold OwnRow
   exact ⟨c0, c1, c2, c3, a, F1, G1, rfl, rfl, h1, h3⟩
theorem OwnRow.join {e : TypeId} {w : World} : ∀ (l m : List Tm) (cs1 cs2 : List Value) (F1 F2 : List Nat), OwnRow e w l cs1 F1 → OwnRow e w m cs2 F2 → OwnRow e w (l ++ m) (cs1 ++ cs2) (F1 ++ F2)
 | [], m, cs1, cs2, F1, F2, h1, h2 => by
   unfold OwnRow at h1
   obtain ⟨rfl, rfl⟩ := h1
   exact h2
 | t :: l, m, cs1, cs2, F1, F2, h1, h2 => by
   unfold OwnRow at h1
   obtain ⟨c0, c1, c2, c3, cs', G1, G2, rfl, rfl, h3, h4⟩ := h1
   show OwnRow e w (t :: (l ++ m)) _ _
   unfold OwnRow
   exact ⟨c0, c1, c2, c3, cs' ++ cs2, G1, G2 ++ F2, by simp, by simp, h3, OwnRow.join l m cs' cs2 G2 F2 h4 h2⟩
structure Out (F : List Nat) (w w' : World) : Prop where
 os : w'.os = w.os
 tape : w'.tape = w.tape
 output : w'.output = w.output
 size : w.heap.size ≤ w'.heap.size
 block : ∀ k, k < w.heap.size → k ∉ F → w'.heap[k]? = w.heap[k]?
theorem Out.refl (F : List Nat) (w : World) : Out F w w := ⟨rfl, rfl, rfl, Nat.le_refl _, fun _ _ _ => rfl⟩
theorem Out.of_below {F : List Nat} {w w' : World} (h : Below w.heap.size w w') : Out F w w' := ⟨h.os, h.tape, h.output, h.size, fun k hk _ => h.block k hk⟩
theorem Out.set {F : List Nat} {g : Nat} (hg : g ∈ F) (k : Nat) (w : World) (v : Value) : Out F w (w.setCell ⟨g, k, none⟩ v) :=
 ⟨rfl, rfl, rfl, by simp [World.setCell], fun j _ hne => by
   have : g ≠ j := fun h => hne (h ▸ hg)
   simp [World.setCell, Array.getElem?_modify, this]⟩
theorem Out.trans {F : List Nat} {w w' w'' : World} (h : Out F w w') (h' : Out F w' w'') : Out F w w'' :=
 ⟨h'.os.trans h.os, h'.tape.trans h.tape, h'.output.trans h.output, Nat.le_trans h.size h'.size, fun k hk hne => (h'.block k (Nat.lt_of_lt_of_le hk h.size) hne).trans (h.block k hk hne)⟩
theorem Out.mono {F F' : List Nat} {w w' : World} (h : Out F w w') (hs : ∀ f ∈ F, f ∈ F') : Out F' w w' :=
 ⟨h.os, h.tape, h.output, h.size, fun k hk hne => h.block k hk fun h => hne (hs k h)⟩
theorem Out.below {F : List Nat} {B : Nat} {w w' : World} (h : Out F w w') (hF : ∀ f ∈ F, B ≤ f) (hB : B ≤ w.heap.size) : Below B w w' :=
 ⟨h.os, h.tape, h.output, h.size, fun k hk => h.block k (by omega) fun hk' => by have := hF k hk'; omega⟩
end Go.Proofs.YtbkjcccbjnehbanGreatDoor

namespace Go.Proofs.YtbkjcccbjnehbanGreatDoor
open Go.RowKit
def Tm.kids : Tm → List Tm
 | .mk _ _ _ ks => ks
def MarkOk (ks : List Tm) : Prop := ∀ (w : World) (sl : Value) (F : List Nat) (c : Nat), OwnS 24 w ks sl F → F.Nodup → 0 < c → c + 3 * ns ks ≤ 2305843009213693952 →
 Calls Tryz.prog 16 #[sl, .int .i64 (c : Int)] w fun e w' => e = .returned (.int .i64 ((c + 3 * ns ks : Nat) : Int)) ∧ OwnS 24 w' (markL ks c) sl F ∧ Out F w w'
theorem take_setL {cur : Array Value} {m i : Nat} {v : Value} : (cur.setIfInBounds i v).toList.take m = (cur.toList.take m).set i v := by
 rw [Array.toList_setIfInBounds, List.take_set]
theorem set3 {cs1 cs' : List Value} {c0 c1 c2 c3 d0 d1 d2 : Value} {i : Nat} (h : cs1.length = i) :
   (((cs1 ++ c0 :: c1 :: c2 :: c3 :: cs').set i d0).set (i + 1) d1).set (i + 2) d2 = cs1 ++ d0 :: d1 :: d2 :: c3 :: cs' := by
 subst h
 rw [List.set_append_right _ _ (by omega), List.set_append_right _ _ (by omega), List.set_append_right _ _ (by omega)]
 simp [show cs1.length + 1 - cs1.length = 1 by omega, show cs1.length + 2 - cs1.length = 2 by omega]
def RowAt (e : TypeId) (w : World) (g cap : Nat) (ks : List Tm) (F : List Nat) : Prop :=
 ∃ cs cur, w.heap[g]? = some (.cells cur e (0, 0)) ∧ ks.length ≤ cap ∧ cap ≤ maxLen ∧ cur.size = cap * 4 ∧ cur.toList.take (ks.length * 4) = cs ∧ OwnRow e w ks cs F
theorem RowAt.own {e : TypeId} {w : World} {g cap : Nat} {ks : List Tm} {F : List Nat} (h : RowAt e w g cap ks F) : OwnS e w ks (.slice (some ⟨g, 0, none⟩) ks.length cap) (g :: F) := by
 obtain ⟨cs, cur, h1, h2, h3, h4, h5, h6⟩ := h
 exact Or.inr ⟨g, cap, cs, F, rfl, ⟨OwnRow.len _ _ _ h6, Or.inr ⟨g, cap, cur, rfl, Nat.zero_le _, h1, h2, h3, h4, h5⟩⟩, rfl, h6⟩
theorem RowAt.of {e : TypeId} {w : World} {g cap : Nat} {ks : List Tm} {cs : List Value} {F : List Nat} (hrow : w.ownsRow 0 e 4 (.slice (some ⟨g, 0, none⟩) ks.length cap) ks.length cs) (hr : OwnRow e w ks cs F) : RowAt e w g cap ks F := by
 rcases hrow.2 with ⟨h, _⟩ | ⟨g', cap', cur, h1, hz, hh, hnc, hcm, hcs, htk⟩
 · cases h
 · cases h1
   exact ⟨cs, cur, hh, hnc, hcm, hcs, htk, hr⟩
set_option maxHeartbeats 4000000 in
set_option maxRecDepth 20000 in
theorem mark_list (ks : List Tm) (hks : ∀ t ∈ ks, MarkOk t.kids) : MarkOk ks := by
 intro w sl F c hown hnd hc0 hcm
 have hown0 := hown
 rcases hown with ⟨rfl, rfl, rfl⟩ | ⟨g, cap, cs, F', rfl, hrow, rfl, hr⟩
 · have HO : Hid (OwnS 24 w [] (.slice none 0 0) []) := hown0
   clear hown0 hks
   go_enter Tryz.func16, Tryz.ntmps16
   go_wp2
   refine wp_loop_rounds 1 ?_
   rw [rounds_succ]
   go_wp2
   go_ret
   exact ⟨by simp [ns, Tm.n.ns], by rw [markL_nil]; exact HO.out, Out.refl _ _⟩
 · have hra := RowAt.of hrow hr
   have hcap : ks.length ≤ cap ∧ cap ≤ maxLen := by
     obtain ⟨_, _, _, h2, h3, _⟩ := hra
     exact ⟨h2, h3⟩
   unfold maxLen at hcap
   obtain ⟨hcl, hcm2⟩ := hcap
   have HO : Hid _ := hra
   have HND : Hid _ := hnd
   have HKS : Hid _ := hks
   clear hown0 hks hrow hr hnd hra
   have HBD : Hid (∀ j, c + 3 * ns (ks.take j) ≤ c + 3 * ns ks) := fun j => by
     have : ns (ks.take j) + ns (ks.drop j) = ns ks := by rw [← ns_append, List.take_append_drop]
     omega
   go_enter Tryz.func16, Tryz.ntmps16
   go_wp2
   go_loopw [1, 5] (fun vk vi wr => Hid (Out (g :: F') w wr) ∧ ∃ (j cj : Nat), j ≤ ks.length ∧ vi = .int .i64 (j : Int) ∧ vk = .int .i64 (cj : Int) ∧ Hid (cj = c + 3 * ns (ks.take j)) ∧ Hid (RowAt 24 wr g cap (markL (ks.take j) c ++ ks.drop j) F')) (fun _ i _ => ks.length - (intOf i).toNat)
   case atStart => exact ⟨Out.refl _ _, 0, c, by omega, rfl, rfl, by show _ = _; simp [ns, Tm.n.ns], by show RowAt _ _ _ _ _ _; rw [List.take_zero, markL_nil]; exact HO.out⟩
   case round =>
     obtain ⟨HB, j, cj, hj, rfl, rfl, HCJ, HOJ⟩ := hrel
     have hcjm : cj ≤ 2305843009213693952 := by have := HCJ.out; have := HBD.out j; omega
     have hcj0 : 0 < cj := by have := HCJ.out; omega
     by_cases hlt : j < ks.length
     · obtain ⟨cs, cur, hblk, hnc, hcpm, hcs, htk, hr⟩ := HOJ.out
       have hlen : (markL (ks.take j) c ++ ks.drop j).length = ks.length := by rw [List.length_append, markL_len, ← List.length_append, List.take_append_drop]
       rw [hlen] at hnc htk
       rw [List.drop_eq_getElem_cons hlt] at hr
       obtain ⟨cs1, cs2, G1, G2, rfl, rfl, hr1, hr2⟩ := OwnRow.split _ _ _ _ hr
       unfold OwnRow at hr2
       obtain ⟨c0, c1, c2, c3, cs', G3, G4, rfl, rfl, hr3, hr4⟩ := hr2
       obtain ⟨kj, hkj⟩ : ∃ kj, kj = ks[j] := ⟨_, rfl⟩
       have hl1 : cs1.length = j * 4 := by rw [OwnRow.len _ _ _ hr1, markL_len, List.length_take]; congr 1; omega
       have hK1 : MarkOk ks[j].kids := HKS.out ks[j] (List.getElem_mem hlt)
       rw [← hkj] at hr3 hK1
       obtain ⟨k1, s1, n1, kids⟩ := kj
       obtain ⟨sl1, he, hs1⟩ := own_open hr3
       obtain ⟨rfl, rfl, rfl, rfl⟩ : c0 = .int .i64 k1 ∧ c1 = .string s1 ∧ c2 = .int .i64 n1 ∧ c3 = sl1 := by simpa using he
       have hK : kids = ks[j].kids := by rw [← hkj]; rfl
       have hKn : ks[j].n = 1 + ns kids := by rw [← hkj, n_mk]
       clear he
       have hsz : j * 4 + 3 < cur.size := by omega
       have HAT : Hid (∀ i, i < 4 → cur[j * 4 + i]? = [Value.int .i64 k1, .string s1, .int .i64 n1, c3][i]?) := fun i hi => by
         have h1 : (cur.toList.take (ks.length * 4))[j * 4 + i]? = [Value.int .i64 k1, .string s1, .int .i64 n1, c3][i]? := by
           rw [htk, List.getElem?_append_right (by omega), hl1, show j * 4 + i - j * 4 = i by omega]
           match i, hi with
           | 0, _ => rfl
           | 1, _ => rfl
           | 2, _ => rfl
           | 3, _ => rfl
         rw [List.getElem?_take_of_lt (by omega)] at h1
         simpa using h1
       obtain ⟨ao1, len1, cap1, rfl⟩ : ∃ ao1 len1 cap1, c3 = .slice ao1 len1 cap1 := by
         rcases hs1 with ⟨rfl, _⟩ | ⟨g1, cp1, _, _, rfl, _⟩
         · exact ⟨_, _, _, rfl⟩
         · exact ⟨_, _, _, rfl⟩
       have hgF : (g :: (G1 ++ (G3 ++ G4))).Nodup := HND.out
       rw [List.nodup_cons] at hgF
       obtain ⟨hgn, hFn⟩ := hgF
       have hglt : g < wr.heap.size := (Array.getElem?_eq_some_iff.1 hblk).1
       have a0 : wr.cell? ⟨g, j * 4, none⟩ = some (.int .i64 k1) := by
         have := HAT.out 0 (by omega)
         unfold World.cell?; rw [hblk]; simpa using this
       have f0 : wr.frozen? ⟨g, j * 4, none⟩ = false := blk_frozen hblk _
       obtain ⟨WA, hWA⟩ : ∃ WA, WA = wr.setCell ⟨g, j * 4, none⟩ (.int .i64 (cj : Int)) := ⟨_, rfl⟩
       have blkA : WA.heap[g]? = some (.cells (cur.setIfInBounds (j * 4) (.int .i64 (cj : Int))) 24 (0, 0)) := by rw [hWA]; exact blk_set hblk _
       have hszA : WA.heap.size = wr.heap.size := by rw [hWA]; simp [World.setCell]
       obtain ⟨mt, hmt⟩ : ∃ mt : ByteArray, mt = ⟨(mkS (cj + 1)).toArray⟩ := ⟨_, rfl⟩
       have HMK : Hid (Calls Tryz.prog 22 #[.int .i64 ((cj : Int) + 1)] (wr.setCell ⟨g, j * 4, none⟩ (.int .i64 (cj : Int))) fun e w' => e = .returned (.string mt) ∧ Below WA.heap.size WA w') := by
         have := mark_any (cj + 1) WA (by omega) (by omega)
         rw [← hWA, hmt]
         rwa [show ((cj + 1 : Nat) : Int) = (cj : Int) + 1 by omega] at this
       have HP : Hid (∀ w1, Below WA.heap.size WA w1 → w1.heap[g]? = some (.cells (cur.setIfInBounds (j * 4) (.int .i64 (cj : Int))) 24 (0, 0)) ∧ (w1.setCell ⟨g, j * 4 + 1, none⟩ (.string mt)).heap[g]? = some (.cells ((cur.setIfInBounds (j * 4) (.int .i64 (cj : Int))).setIfInBounds (j * 4 + 1) (.string mt)) 24 (0, 0)) ∧ ((w1.setCell ⟨g, j * 4 + 1, none⟩ (.string mt)).setCell ⟨g, j * 4 + 2, none⟩ (.int .i64 ((cj : Int) + 1 + 1))).heap[g]? = some (.cells (((cur.setIfInBounds (j * 4) (.int .i64 (cj : Int))).setIfInBounds (j * 4 + 1) (.string mt)).setIfInBounds (j * 4 + 2) (.int .i64 ((cj : Int) + 1 + 1))) 24 (0, 0))) := fun w1 hb1 => by
         have blk1 := (hb1.block g (by omega)).trans blkA
         have blk2 := blk_set (i := j * 4 + 1) blk1 (.string mt)
         exact ⟨blk1, blk2, blk_set (i := j * 4 + 2) blk2 (.int .i64 ((cj : Int) + 1 + 1))⟩
       have HF : Hid (∀ w1, Below WA.heap.size WA w1 → w1.cell? ⟨g, j * 4 + 1, none⟩ = some (.string s1) ∧ w1.frozen? ⟨g, j * 4 + 1, none⟩ = false ∧ (w1.setCell ⟨g, j * 4 + 1, none⟩ (.string mt)).cell? ⟨g, j * 4 + 2, none⟩ = some (.int .i64 n1) ∧ (w1.setCell ⟨g, j * 4 + 1, none⟩ (.string mt)).frozen? ⟨g, j * 4 + 2, none⟩ = false ∧ ((w1.setCell ⟨g, j * 4 + 1, none⟩ (.string mt)).setCell ⟨g, j * 4 + 2, none⟩ (.int .i64 ((cj : Int) + 1 + 1))).cell? ⟨g, j * 4 + 3, none⟩ = some (.slice ao1 len1 cap1)) := fun w1 hb1 => by
         obtain ⟨blk1, blk2, blk3⟩ := HP.out w1 hb1
         refine ⟨?_, blk_frozen blk1 _, ?_, blk_frozen blk2 _, ?_⟩
         · have := HAT.out 1 (by omega)
           unfold World.cell?; rw [blk1]
           show (cur.setIfInBounds (j * 4) _)[j * 4 + 1]? = _
           rw [Array.getElem?_setIfInBounds, if_neg (by omega)]
           simpa using this
         · have := HAT.out 2 (by omega)
           unfold World.cell?; rw [blk2]
           show ((cur.setIfInBounds (j * 4) _).setIfInBounds (j * 4 + 1) _)[j * 4 + 2]? = _
           rw [Array.getElem?_setIfInBounds, if_neg (by omega), Array.getElem?_setIfInBounds, if_neg (by omega)]
           simpa using this
         · have := HAT.out 3 (by omega)
           unfold World.cell?; rw [blk3]
           show (((cur.setIfInBounds (j * 4) _).setIfInBounds (j * 4 + 1) _).setIfInBounds (j * 4 + 2) _)[j * 4 + 3]? = _
           rw [Array.getElem?_setIfInBounds, if_neg (by omega), Array.getElem?_setIfInBounds, if_neg (by omega), Array.getElem?_setIfInBounds, if_neg (by omega)]
           simpa using this
       have HSAME : Hid (∀ w1, Below WA.heap.size WA w1 → ∀ f, f < wr.heap.size → f ≠ g → ((w1.setCell ⟨g, j * 4 + 1, none⟩ (.string mt)).setCell ⟨g, j * 4 + 2, none⟩ (.int .i64 ((cj : Int) + 1 + 1))).heap[f]? = wr.heap[f]?) := fun w1 hb1 f hf hne => by
         rw [blk_other _ hne, blk_other _ hne, hb1.block f (by omega), hWA, blk_other _ hne]
       have HG3 : Hid (∀ f ∈ G3, f < wr.heap.size ∧ f ≠ g) := fun f hf => ⟨Own.lt _ _ _ hr3 f hf, fun e => hgn (by rw [← e]; simp [hf])⟩
       have hbd3 : cj + 3 + 3 * ns kids ≤ 2305843009213693952 := by
         have h1 := HCJ.out
         have h2 := HBD.out (j + 1)
         rw [List.take_succ_eq_append_getElem hlt, ns_append, show ns [ks[j]] = ks[j].n by simp [ns, Tm.n.ns], hKn] at h2
         omega
       have hnd3 : G3.Nodup := by
         rw [List.nodup_append] at hFn
         have := hFn.2.1
         rw [List.nodup_append] at this
         exact this.1
       have HREC : Hid (∀ w1, Below WA.heap.size WA w1 → Calls Tryz.prog 16 #[.slice ao1 len1 cap1, .int .i64 ((cj : Int) + 1 + 1 + 1)] ((w1.setCell ⟨g, j * 4 + 1, none⟩ (.string mt)).setCell ⟨g, j * 4 + 2, none⟩ (.int .i64 ((cj : Int) + 1 + 1))) fun e w' => e = .returned (.int .i64 ((cj + 3 + 3 * ns kids : Nat) : Int)) ∧ OwnS 24 w' (markL kids (cj + 3)) (.slice ao1 len1 cap1) G3 ∧ Out G3 ((w1.setCell ⟨g, j * 4 + 1, none⟩ (.string mt)).setCell ⟨g, j * 4 + 2, none⟩ (.int .i64 ((cj : Int) + 1 + 1))) w') := fun w1 hb1 => by
         have this : MarkOk kids := hK1
         have h2 := this ((w1.setCell ⟨g, j * 4 + 1, none⟩ (.string mt)).setCell ⟨g, j * 4 + 2, none⟩ (.int .i64 ((cj : Int) + 1 + 1))) (.slice ao1 len1 cap1) G3 (cj + 3) (hs1.keep fun f hf => HSAME.out w1 hb1 f (HG3.out f hf).1 (HG3.out f hf).2) hnd3 (by omega) hbd3
         rwa [show ((cj + 3 : Nat) : Int) = (cj : Int) + 1 + 1 + 1 by omega] at h2
       have HNX : Hid (∀ w1 w4, Below WA.heap.size WA w1 → OwnS 24 w4 (markL kids (cj + 3)) (.slice ao1 len1 cap1) G3 → Out G3 ((w1.setCell ⟨g, j * 4 + 1, none⟩ (.string mt)).setCell ⟨g, j * 4 + 2, none⟩ (.int .i64 ((cj : Int) + 1 + 1))) w4 → RowAt 24 w4 g cap (markL (ks.take (j + 1)) c ++ ks.drop (j + 1)) (G1 ++ (G3 ++ G4)) ∧ Out (g :: (G1 ++ (G3 ++ G4))) w w4) := fun w1 w4 hb1 ho4 hou => by
         obtain ⟨blk1, blk2, blk3⟩ := HP.out w1 hb1
         have hsz3 : (((w1.setCell ⟨g, j * 4 + 1, none⟩ (.string mt)).setCell ⟨g, j * 4 + 2, none⟩ (.int .i64 ((cj : Int) + 1 + 1)))).heap.size = w1.heap.size := by simp [World.setCell]
         have hszw : wr.heap.size ≤ w1.heap.size := by have := hb1.size; omega
         have hg3 : g ∉ G3 := fun h => hgn (by simp [h])
         have blk4 := (hou.block g (by omega) hg3).trans blk3
         have hoth : ∀ f, f < wr.heap.size → f ≠ g → f ∉ G3 → w4.heap[f]? = wr.heap[f]? := fun f hf hne hn => (hou.block f (by omega) hn).trans (HSAME.out w1 hb1 f hf hne)
         have hlist : markL (ks.take (j + 1)) c ++ ks.drop (j + 1) = markL (ks.take j) c ++ ((Tm.mk k1 s1 n1 kids).markT cj :: ks.drop (j + 1)) := by
           rw [List.take_succ_eq_append_getElem hlt, markL_append, markL_cons, markL_nil, hkj, HCJ.out]
           simp
         rw [List.nodup_append] at hFn
         obtain ⟨_, hn2, hdis⟩ := hFn
         rw [List.nodup_append] at hn2
         obtain ⟨_, _, hdis2⟩ := hn2
         refine ⟨?_, ?_⟩
         · refine ⟨cs1 ++ Value.int .i64 (cj : Int) :: .string mt :: .int .i64 ((cj : Int) + 1 + 1) :: .slice ao1 len1 cap1 :: cs', _, blk4, ?_, hcpm, ?_, ?_, ?_⟩
           · rw [List.length_append, markL_len, ← List.length_append, List.take_append_drop]; exact hnc
           · simp only [Array.size_setIfInBounds]; exact hcs
           · rw [List.length_append, markL_len, ← List.length_append, List.take_append_drop, take_setL, take_setL, take_setL, htk]
             exact set3 hl1
           · rw [hlist]
             refine OwnRow.join _ _ _ _ _ _ (OwnRow.keep _ _ _ hr1 fun f hf => hoth f (OwnRow.lt _ _ _ hr1 f hf) (fun e => hgn (by rw [← e]; simp [hf])) (fun h3 => hdis f hf f (by simp [h3]) rfl)) ?_
             unfold OwnRow
             refine ⟨_, _, _, _, cs', G3, G4, rfl, rfl, ?_, OwnRow.keep _ _ _ hr4 fun f hf => hoth f (OwnRow.lt _ _ _ hr4 f hf) (fun e => hgn (by rw [← e]; simp [hf])) (fun h3 => hdis2 f h3 f hf rfl)⟩
             rw [markT_mk, ← hmt, show (cj : Int) + 1 + 1 = ((cj + 2 : Nat) : Int) by omega]
             refine own_mk ho4 (by omega) (by omega) ?_
             have := mkS_len (cj + 1) (by omega)
             rw [hmt]
             show (mkS (cj + 1)).toArray.size ≤ maxLen
             unfold maxLen
             simp only [List.size_toArray]
             omega
         · have hg : g ∈ g :: (G1 ++ (G3 ++ G4)) := by simp
           have o1 : Out (g :: (G1 ++ (G3 ++ G4))) wr WA := by rw [hWA]; exact Out.set hg _ _ _
           exact HB.out.trans (o1.trans ((Out.of_below hb1).trans ((Out.set hg _ _ _).trans ((Out.set hg _ _ _).trans (hou.mono fun f hf => by simp [hf])))))
       have HNC : Hid (cj + 3 + 3 * ns kids = c + 3 * ns (ks.take (j + 1))) := by
         show _ = _
         rw [List.take_succ_eq_append_getElem hlt, ns_append, show ns [ks[j]] = ks[j].n by simp [ns, Tm.n.ns], hKn, HCJ.out]
         omega
       clear blkA hblk hnc hcpm hcs htk hr hr1 hr3 hr4 hK1 hs1 hK hKn hlen hkj hgn hFn hnd3 HAT HP HSAME HG3 HKS HO HND HOJ HBD hWA hmt
       go_wp2_with (first | (go_at_call 22; refine (Calls.mono HMK.out ?_); rintro e w1 ⟨rfl, hb1⟩; have HB1 : Hid _ := hb1; obtain ⟨q1, q2, q3, q4, q5⟩ := HF.out w1 hb1; clear hb1) | (go_at_call 16; refine (Calls.mono (HREC.out w1 HB1.out) ?_); rintro e w4 ⟨rfl, ho4, hou⟩; have HN4 : Hid _ := HNX.out w1 w4 HB1.out ho4 hou; clear ho4 hou))
       go_roundw
       case rel => exact ⟨HN4.out.2, j + 1, cj + 3 + 3 * ns kids, by omega, by go_num, rfl, HNC.out, HN4.out.1⟩
       case measure => simp [intOf]; omega
     · have HE : Hid (OwnS 24 wr (markL ks c) (.slice (some ⟨g, 0, none⟩) ks.length cap) (g :: F')) := by
         have := HOJ.out.own
         rw [List.length_append, markL_len, ← List.length_append, List.take_append_drop, List.take_of_length_le (by omega), List.drop_eq_nil_of_le (by omega), List.append_nil] at this
         exact this
       have HC2 : Hid (cj = c + 3 * ns ks) := by
         have := HCJ.out
         rw [List.take_of_length_le (by omega)] at this
         exact this
       clear HCJ HOJ HO HKS HND HBD
       go_wp2
       go_ret
       exact ⟨by rw [← HC2.out]; rfl, HE.out, HB.out⟩
theorem mark_all (ks : List Tm) : MarkOk ks :=
 tm_ind (p := fun t => MarkOk t.kids) (fun _ _ _ ks h => mark_list ks h) (Tm.mk 0 ⟨#[]⟩ 0 ks)
def Tm.markK : Tm → Nat → Tm
 | .mk k s n ks, c => .mk k s n (markL ks c)
set_option maxRecDepth 20000 in
theorem mark_term (t : Tm) (w : World) (v : Value) (F : List Nat) (c : Nat) (h : Own 24 w t v F) (hnd : F.Nodup) (hc : 0 < c) (hb : c + 3 * ns t.kids ≤ 2305843009213693952) :
   Calls Tryz.prog 9 #[v, .int .i64 (c : Int)] w fun e w' => e = .returned (.int .i64 ((c + 3 * ns t.kids : Nat) : Int)) ∧ Own 24 w' (t.markK c) v F ∧ Out F w w' := by
 obtain ⟨k, s, n, ks⟩ := t
 have hlt := Own.lt _ _ _ h
 have hbd : (-9223372036854775808 ≤ k ∧ k ≤ 9223372036854775807) ∧ (-9223372036854775808 ≤ n ∧ n ≤ 9223372036854775807) ∧ s.size ≤ maxLen := by
   unfold Own at h
   obtain ⟨_, _, h1, h2, h3, _⟩ := h
   exact ⟨h1, h2, h3⟩
 obtain ⟨sl, rfl, ho⟩ := own_open h
 obtain ⟨ao1, len1, cap1, rfl⟩ : ∃ ao1 len1 cap1, sl = .slice ao1 len1 cap1 := by
   rcases ho with ⟨rfl, _⟩ | ⟨g1, cp1, _, _, rfl, _⟩
   · exact ⟨_, _, _, rfl⟩
   · exact ⟨_, _, _, rfl⟩
 obtain ⟨W, hW⟩ : ∃ W, W = w.alloc (.cells #[.int .i64 k, .string s, .int .i64 n, .slice ao1 len1 cap1] 24) := ⟨_, rfl⟩
 have hbW : Below w.heap.size w W := by rw [hW]; exact (Below.refl _ _).alloc (Nat.le_refl _) _
 have HC := mark_all ks W (.slice ao1 len1 cap1) F c (ho.keep fun f hf => hbW.block f (hlt f hf)) hnd hc hb
 rw [hW] at HC
 replace HC : Hid _ := HC
 have HBD : Hid _ := hbd
 have HBW : Hid _ := hbW
 clear h ho hlt hbd hnd hbW
 go_enter Tryz.func9, Tryz.ntmps9
 go_wp2_with (go_at_call 16; refine (Calls.mono HC.out ?_); rintro e w1 ⟨rfl, ho, hou⟩; rw [← hW] at hou; have HO : Hid _ := ho; have HU : Hid _ := hou; clear ho hou)
 go_ret
 exact ⟨rfl, own_mk HO.out HBD.out.1 HBD.out.2.1 HBD.out.2.2, (Out.of_below HBW.out).trans HU.out⟩
end Go.Proofs.YtbkjcccbjnehbanGreatDoor

namespace Go.Proofs.YtbkjcccbjnehbanGreatDoor
open Go.RowKit
def HeldOk (ks : List Tm) : Prop := ∀ (w : World) (ao : Option Addr) (cap c : Nat), 0 < c → c + 3 * ns ks ≤ 2305843009213693952 → ks.length ≤ cap → cap ≤ maxLen → (ks ≠ [] → ∃ b off, ao = some ⟨b, off, none⟩ ∧ TmsIn w (markL ks c) b off) →
 Calls Tryz.prog 17 #[.slice ao ks.length cap, .int .i64 (c : Int)] w fun e w' => e = .returned (.int .i64 ((c + 3 * ns ks : Nat) : Int)) ∧ Below w.heap.size w w'
set_option maxHeartbeats 4000000 in
set_option maxRecDepth 20000 in
theorem held_list (ks : List Tm) (hks : ∀ t ∈ ks, HeldOk t.kids) : HeldOk ks := by
 intro w ao cap c hc0 hcm hlen hcap hrow
 unfold maxLen at hcap
 have HR : Hid (∀ wr, Below w.heap.size w wr → ks ≠ [] → ∃ b off, ao = some ⟨b, off, none⟩ ∧ TmsIn wr (markL ks c) b off) := fun wr hb h0 => by
   obtain ⟨b, off, e, hr⟩ := hrow h0
   exact ⟨b, off, e, TmsIn.keep hb _ b off hr⟩
 have HKS : Hid _ := hks
 clear hks hrow
 have HBD : Hid (∀ j, c + 3 * ns (ks.take j) ≤ c + 3 * ns ks) := fun j => by
   have : ns (ks.take j) + ns (ks.drop j) = ns ks := by rw [← ns_append, List.take_append_drop]
   omega
 go_enter Tryz.func17, Tryz.ntmps17
 go_wp2
 go_loopw [1, 5] (fun vk vi wr => Hid (Below w.heap.size w wr) ∧ ∃ (j cj : Nat), j ≤ ks.length ∧ vi = .int .i64 (j : Int) ∧ vk = .int .i64 (cj : Int) ∧ Hid (cj = c + 3 * ns (ks.take j))) (fun _ i _ => ks.length - (intOf i).toNat)
 case atStart => exact ⟨Below.refl _ _, 0, c, by omega, rfl, rfl, by show _ = _; simp [ns, Tm.n.ns]⟩
 case round =>
   obtain ⟨HB, j, cj, hj, rfl, rfl, HCJ⟩ := hrel
   have hcjm : cj ≤ 2305843009213693952 := by have := HCJ.out; have := HBD.out j; omega
   have hcj0 : 0 < cj := by have := HCJ.out; omega
   by_cases hlt : j < ks.length
   · obtain ⟨b, off, rfl, hin⟩ := HR.out wr HB.out (by intro e; subst e; simp at hlt)
     have hlm : j < (markL ks c).length := by rw [markL_len]; exact hlt
     obtain ⟨c0, c1, c2, c3, h0, h1, h2, h3, ht⟩ := hin.at j hlm
     rw [markL_at hlt, ← HCJ.out] at ht
     obtain ⟨kj, hkj⟩ : ∃ kj, kj = ks[j] := ⟨_, rfl⟩
     have hK1 : HeldOk ks[j].kids := HKS.out ks[j] (List.getElem_mem hlt)
     rw [← hkj] at ht hK1
     obtain ⟨k1, s1, n1, kids⟩ := kj
     have hKn : ks[j].n = 1 + ns kids := by rw [← hkj, n_mk]
     replace hK1 : HeldOk kids := hK1
     rw [markT_mk] at ht
     unfold TmIn at ht
     obtain ⟨ao1, cap1, he, _, _, _, hl1, hm1, hr1⟩ := ht
     rw [markL_len] at he hl1
     obtain ⟨mt, hmt⟩ : ∃ mt : ByteArray, mt = ⟨(mkS (cj + 1)).toArray⟩ := ⟨_, rfl⟩
     rw [← hmt] at he
     obtain ⟨rfl, rfl, rfl, rfl⟩ : c0 = .int .i64 (cj : Int) ∧ c1 = .string mt ∧ c2 = .int .i64 ((cj + 2 : Nat) : Int) ∧ c3 = .slice ao1 kids.length cap1 := by simpa using he
     rw [show ((cj + 2 : Nat) : Int) = (cj : Int) + 1 + 1 by omega] at h2
     have HMK : Hid (∀ w, Calls Tryz.prog 22 #[.int .i64 ((cj : Int) + 1)] w fun e w' => e = .returned (.string mt) ∧ Below w.heap.size w w') := fun w => by
       have := mark_any (cj + 1) w (by omega) (by omega)
       rw [hmt]
       rwa [show ((cj + 1 : Nat) : Int) = (cj : Int) + 1 by omega] at this
     have hbd3 : cj + 3 + 3 * ns kids ≤ 2305843009213693952 := by
       have h1 := HCJ.out
       have h2 := HBD.out (j + 1)
       rw [List.take_succ_eq_append_getElem hlt, ns_append, show ns [ks[j]] = ks[j].n by simp [ns, Tm.n.ns], hKn] at h2
       omega
     have HNC : Hid (cj + 3 + 3 * ns kids = c + 3 * ns (ks.take (j + 1))) := by
       show _ = _
       rw [List.take_succ_eq_append_getElem hlt, ns_append, show ns [ks[j]] = ks[j].n by simp [ns, Tm.n.ns], hKn, HCJ.out]
       omega
     have HREC : Hid (∀ w1, Below wr.heap.size wr w1 → Calls Tryz.prog 17 #[.slice ao1 kids.length cap1, .int .i64 ((cj : Int) + 1 + 1 + 1)] w1 fun e w' => e = .returned (.int .i64 ((cj + 3 + 3 * ns kids : Nat) : Int)) ∧ Below w1.heap.size w1 w') := fun w1 hb => by
       have := hK1 w1 ao1 cap1 (cj + 3) (by omega) hbd3 hl1 hm1 (fun h0 => by
         obtain ⟨b1, off1, e1, hr2⟩ := hr1 (by intro e; apply h0; rw [← List.length_eq_zero_iff, ← markL_len kids (cj + 3), e]; rfl)
         exact ⟨b1, off1, e1, TmsIn.keep hb _ _ _ hr2⟩)
       rwa [show ((cj + 3 : Nat) : Int) = (cj : Int) + 1 + 1 + 1 by omega] at this
     have HCL : Hid (∀ w1, Below wr.heap.size wr w1 → w1.cell? ⟨b, off + j * 4, none⟩ = some (.int .i64 (cj : Int)) ∧ w1.cell? ⟨b, off + j * 4 + 1, none⟩ = some (.string mt) ∧ w1.cell? ⟨b, off + j * 4 + 2, none⟩ = some (.int .i64 ((cj : Int) + 1 + 1)) ∧ w1.cell? ⟨b, off + j * 4 + 3, none⟩ = some (.slice ao1 kids.length cap1)) := fun w1 hb =>
       ⟨cell_keep h0 hb, cell_keep h1 hb, cell_keep h2 hb, cell_keep h3 hb⟩
     have l1 : ∀ u, (later wr u).cell? ⟨b, off + j * 4 + 1, none⟩ = some (.string mt) := fun u => (HCL.out _ (later_below wr u)).2.1
     have hnn : ¬ ((cj + 3 + 3 * ns kids : Nat) : Int) < 0 := by omega
     generalize cj + 3 + 3 * ns kids = nx at *
     clear he hin hr1 hK1 hKn hkj hmt HKS HR HBD
     go_wp2
     refine wp_region_later (by kernel_rfl) (by kernel_rfl) ?_
     repeat (go_big_quiet_step ((go_at_call 22; exact Calls.later_of_below (HMK.out _))))
     refine wpQuiet_nil ?_
     rintro _ ⟨u, rfl⟩
     have HB1 : Hid (Below wr.heap.size wr (later wr u)) := later_below wr u
     generalize later wr u = w1 at *
     obtain ⟨m0, m1, m2, m3⟩ := HCL.out w1 HB1.out
     clear l1
     go_wp2_with (go_at_call 17; refine (Calls.mono (HREC.out w1 HB1.out) ?_); rintro e w4 ⟨rfl, hb⟩; have HB4 : Hid (Below w.heap.size w w4) := HB.out.trans ((HB1.out.trans (hb.mono HB1.out.size)).mono HB.out.size); clear hb)
     go_roundw
     case rel => exact ⟨HB4.out, j + 1, nx, by omega, by go_num, rfl, HNC.out⟩
     case measure => simp [intOf]; omega
   · have HC2 : Hid (cj = c + 3 * ns ks) := by
       have := HCJ.out
       rw [List.take_of_length_le (by omega)] at this
       exact this
     clear HCJ HKS HBD HR
     go_wp2
     go_ret
     exact ⟨by rw [← HC2.out]; rfl, HB.out⟩
theorem held_all (ks : List Tm) : HeldOk ks :=
 tm_ind (p := fun t => HeldOk t.kids) (fun _ _ _ ks h => held_list ks h) (Tm.mk 0 ⟨#[]⟩ 0 ks)
set_option maxRecDepth 20000 in
theorem held_term (t : Tm) (w : World) (v : Value) (c : Nat) (h : TmIn w (t.markK c) v) (hc : 0 < c) (hb : c + 3 * ns t.kids ≤ 2305843009213693952) :
   Calls Tryz.prog 11 #[v, .int .i64 (c : Int)] w fun e w' => e = .returned (.int .i64 ((c + 3 * ns t.kids : Nat) : Int)) ∧ Below w.heap.size w w' := by
 obtain ⟨k, s, n, ks⟩ := t
 unfold Tm.markK TmIn at h
 obtain ⟨ao, cap, rfl, _, _, _, hl, hm, hr⟩ := h
 rw [markL_len] at *
 obtain ⟨W, hW⟩ : ∃ W, W = w.alloc (.cells #[.int .i64 k, .string s, .int .i64 n, .slice ao ks.length cap] 24) := ⟨_, rfl⟩
 have hbW : Below w.heap.size w W := by rw [hW]; exact (Below.refl _ _).alloc (Nat.le_refl _) _
 have HC := held_all ks W ao cap c hc hb hl hm (fun h0 => by
   obtain ⟨b1, off1, e1, hr2⟩ := hr (by intro e; apply h0; rw [← List.length_eq_zero_iff, ← markL_len ks c, e]; rfl)
   exact ⟨b1, off1, e1, TmsIn.keep hbW _ _ _ hr2⟩)
 rw [hW] at HC
 replace HC : Hid _ := HC
 have HBW : Hid _ := hbW
 change c + 3 * ns ks ≤ 2305843009213693952 at hb
 show Calls Tryz.prog 11 _ _ fun e w' => e = .returned (.int .i64 ((c + 3 * ns ks : Nat) : Int)) ∧ Below w.heap.size w w'
 have hnn : ¬ ((c + 3 * ns ks : Nat) : Int) < 0 := by omega
 generalize c + 3 * ns ks = nx at *
 clear hr hbW
 go_enter Tryz.func11, Tryz.ntmps11
 go_wp2_with (go_at_call 17; refine (Calls.mono HC.out ?_); rintro e w1 ⟨rfl, hb⟩; rw [← hW] at hb; have HU : Hid (Below w.heap.size w w1) := HBW.out.trans (hb.mono HBW.out.size); clear hb)
 go_ret
 exact ⟨rfl, HU.out⟩
end Go.Proofs.YtbkjcccbjnehbanGreatDoor

namespace Go.Proofs.YtbkjcccbjnehbanGreatDoor
open Go.RowKit
def EqOk (t : Tm) : Prop := ∀ (w : World) (va vb : Value), TmIn w t va → TmIn w t vb →
 Calls Tryz.prog 7 #[va, vb] w fun e w' => e = .returned (.bool true) ∧ Below w.heap.size w w'
theorem eq_terms (ks : List Tm) (hks : ∀ t ∈ ks, EqOk t) (w : World) (ao bo : Option Addr) (ca cb : Nat) (hlen : ks.length ≤ maxLen) (ha : ks ≠ [] → ∃ b off, ao = some ⟨b, off, none⟩ ∧ TmsIn w ks b off) (hb : ks ≠ [] → ∃ b off, bo = some ⟨b, off, none⟩ ∧ TmsIn w ks b off) :
   Calls Tryz.prog 15 #[.slice ao ks.length ca, .slice bo ks.length cb] w fun e w' => e = .returned (.bool true) ∧ Below w.heap.size w w' := by
 unfold maxLen at hlen
 go_enter Tryz.func15, Tryz.ntmps15
 go_wp2
 go_loopw [5] (fun vi wr => Hid (Below w.heap.size w wr) ∧ ∃ j : Nat, j ≤ ks.length ∧ vi = .int .i64 (j : Int)) (fun i _ => ks.length - (intOf i).toNat)
 case atStart => exact ⟨Below.refl _ _, 0, by omega, rfl⟩
 case round =>
   obtain ⟨HB, j, hj, rfl⟩ := hrel
   by_cases hlt : j < ks.length
   · have hne : ks ≠ [] := by intro e; subst e; simp at hlt
     obtain ⟨b, off, rfl, hin⟩ := ha hne
     obtain ⟨b', off', rfl, hin'⟩ := hb hne
     obtain ⟨c0, c1, c2, c3, h0, h1, h2, h3, ht⟩ := (TmsIn.keep HB.out ks b off hin).at j hlt
     obtain ⟨d0, d1, d2, d3, g0, g1, g2, g3, gt⟩ := (TmsIn.keep HB.out ks b' off' hin').at j hlt
     have HC : Hid (∀ u, Calls Tryz.prog 7 #[.agg #[c0, c1, c2, c3], .agg #[d0, d1, d2, d3]] (later wr u) fun e w' => e = .returned (.bool true) ∧ Below (later wr u).heap.size (later wr u) w') := fun u =>
       hks ks[j] (List.getElem_mem hlt) (later wr u) _ _ (TmIn.keep (later_below wr u) _ _ ht) (TmIn.keep (later_below wr u) _ _ gt)
     have k0 : ∀ u, (later wr u).cell? ⟨b, off + j * 4, none⟩ = some c0 := fun u => cell_keep h0 (later_below wr u)
     have k1 : ∀ u, (later wr u).cell? ⟨b, off + j * 4 + 1, none⟩ = some c1 := fun u => cell_keep h1 (later_below wr u)
     have k2 : ∀ u, (later wr u).cell? ⟨b, off + j * 4 + 2, none⟩ = some c2 := fun u => cell_keep h2 (later_below wr u)
     have k3 : ∀ u, (later wr u).cell? ⟨b, off + j * 4 + 3, none⟩ = some c3 := fun u => cell_keep h3 (later_below wr u)
     have l0 : ∀ u, (later wr u).cell? ⟨b', off' + j * 4, none⟩ = some d0 := fun u => cell_keep g0 (later_below wr u)
     have l1 : ∀ u, (later wr u).cell? ⟨b', off' + j * 4 + 1, none⟩ = some d1 := fun u => cell_keep g1 (later_below wr u)
     have l2 : ∀ u, (later wr u).cell? ⟨b', off' + j * 4 + 2, none⟩ = some d2 := fun u => cell_keep g2 (later_below wr u)
     have l3 : ∀ u, (later wr u).cell? ⟨b', off' + j * 4 + 3, none⟩ = some d3 := fun u => cell_keep g3 (later_below wr u)
     clear hin hin' ht gt ha hb hks h0 h1 h2 h3 g0 g1 g2 g3
     go_wp2
     refine wp_region_later (by kernel_rfl) (by kernel_rfl) ?_
     repeat (go_big_quiet_step ((go_at_call 7; exact Calls.later_of_below (HC.out _))))
     refine wpQuiet_nil ?_
     rintro _ ⟨u, rfl⟩
     have hb2 := later_below wr u
     clear k0 k1 k2 k3 l0 l1 l2 l3
     go_wp2
     go_roundw
     case rel => exact ⟨HB.out.trans (hb2.mono HB.out.size), j + 1, by omega, by go_num⟩
     case measure => simp [intOf]; omega
   · go_wp2
     go_ret
     exact ⟨rfl, HB.out⟩
theorem eq_term (t : Tm) : EqOk t := by
 refine tm_ind (p := EqOk) ?_ t
 clear t
 intro k s n ks hks w va vb hin hin'
 unfold TmIn at hin hin'
 obtain ⟨ao, ca, rfl, hk, hn, hs, hlen, hcap, hrow⟩ := hin
 obtain ⟨bo, cb, rfl, _, _, _, _, _, hrow'⟩ := hin'
 have hb1 : Below w.heap.size w ((w.alloc (.cells #[.int .i64 k, .string s, .int .i64 n, .slice ao ks.length ca] 24)).alloc (.cells #[.int .i64 k, .string s, .int .i64 n, .slice bo ks.length cb] 24)) :=
   ((Below.refl _ _).alloc (Nat.le_refl _) _).alloc (by simp) _
 have HC : Hid _ := eq_terms ks hks _ ao bo ca cb (by omega) (fun h0 => by obtain ⟨b, off, e, hr⟩ := hrow h0; exact ⟨b, off, e, TmsIn.keep hb1 ks b off hr⟩) (fun h0 => by obtain ⟨b, off, e, hr⟩ := hrow' h0; exact ⟨b, off, e, TmsIn.keep hb1 ks b off hr⟩)
 replace hb1 : Hid _ := hb1
 clear hks hrow hrow'
 unfold maxLen at *
 go_enter Tryz.func7, Tryz.ntmps7
 go_wp2_with (go_at_call 15; refine (Calls.mono HC.out ?_); rintro e w1 ⟨rfl, hb⟩; have HB1 : Hid (Below w.heap.size w w1) := hb1.out.trans (hb.mono hb1.out.size); clear hb)
 go_ret
 exact ⟨rfl, HB1.out⟩
end Go.Proofs.YtbkjcccbjnehbanGreatDoor

namespace Go.Proofs.YtbkjcccbjnehbanGreatDoor
open Go.RowKit
def RowIn (w : World) (ks : List Tm) (ao : Option Addr) (cap : Nat) : Prop := ks.length ≤ cap ∧ cap ≤ maxLen ∧ (ks ≠ [] → ∃ b off, ao = some ⟨b, off, none⟩ ∧ TmsIn w ks b off)
theorem RowIn.keep {w w' : World} {ks : List Tm} {ao : Option Addr} {cap : Nat} (h : RowIn w ks ao cap) (hb : Below w.heap.size w w') : RowIn w' ks ao cap :=
 ⟨h.1, h.2.1, fun h0 => by obtain ⟨b, off, e, h4⟩ := h.2.2 h0; exact ⟨b, off, e, TmsIn.keep hb _ _ _ h4⟩⟩
theorem OwnS.rowIn {e : TypeId} {w : World} {ks : List Tm} {ao : Option Addr} {n cap : Nat} {F : List Nat} (h : OwnS e w ks (.slice ao n cap) F) : RowIn w ks ao cap := by
 have h1 : Own e w (.mk 0 ⟨#[]⟩ 0 ks) (.agg #[.int .i64 0, .string ⟨#[]⟩, .int .i64 0, .slice ao n cap]) F := own_mk h (by omega) (by omega) (Nat.zero_le _)
 have h2 := Own.toIn _ _ _ h1
 unfold TmIn at h2
 obtain ⟨ao', cap', he, _, _, _, h3, h4, h5⟩ := h2
 obtain ⟨rfl, _, rfl⟩ : ao = ao' ∧ n = ks.length ∧ cap = cap' := by simpa using he
 exact ⟨h3, h4, h5⟩
theorem readS_ok {r : List Sg} {y : Tm × List ByteArray × List Sg} (h : readS r = some y) : y.1.n ≤ 400 := by
 unfold readS at h
 cases e : termO true 130 1200 ⟨r, []⟩ with
 | none => rw [e] at h; cases h
 | some z =>
   rw [e] at h
   obtain ⟨t, ⟨rest, names⟩⟩ := z
   cases rest with
   | nil => cases h
   | cons x r' =>
     simp only at h
     split at h
     · rename_i hh
       cases h
       have := hh.2
       unfold Tm.ok at this
       rw [Bool.and_eq_true] at this
       exact of_decide_eq_true this.1
     · cases h
theorem rsR_n (L : List Sg) (a : Nat) : (rsR L a).t.n ≤ 400 := by
 unfold rsR
 cases e : (if a < L.length then readS (L.drop a) else none) with
 | none => simp [noTm, Tm.n, Tm.n.ns]
 | some y =>
   obtain ⟨t, names, r⟩ := y
   simp only
   split at e
   · exact readS_ok e
   · cases e
theorem raF_n (L : List Sg) : ∀ (f a : Nat) (ks : List Tm) (b : Nat), (raF L f a ks b).1.length ≤ ks.length + f ∧ ns (raF L f a ks b).1 ≤ ns ks + 400 * f
 | 0, a, ks, b => by simp [raF]
 | f + 1, a, ks, b => by
   unfold raF
   split
   · split
     · have h1 := raF_n L f (rsR L a).nx (ks ++ [(rsR L a).t]) b
       have h2 := rsR_n L a
       rw [ns_append, List.length_append] at h1
       have h3 : ns [(rsR L a).t] = (rsR L a).t.n := by simp [ns, Tm.n.ns]
       simp only [List.length_cons, List.length_nil] at h1
       omega
     · have h1 := raF_n L f (rsR L a).nx ks (b + 1)
       omega
   · simp
theorem raR_n (t : ByteArray) : (raR t).1.length ≤ 3000 ∧ ns (raR t).1 ≤ 1200000 := by
 have h := raF_n (signsR t).1 ((signsR t).1.length - 0) 0 [] 0
 have hl := signsR_len t
 have e : raR t = raF (signsR t).1 ((signsR t).1.length - 0) 0 [] 0 := rfl
 rw [e]
 simp only [List.length_nil, ns, Tm.n.ns] at h ⊢
 omega
end Go.Proofs.YtbkjcccbjnehbanGreatDoor

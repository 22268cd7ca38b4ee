import Derived.Test.YtbkjcccbjnehbanGreatDoorMh47
import Derived.Test.YtbkjcccbjnehbanGreatDoorMh20
import Derived.Carry
namespace Go.Proofs.YtbkjcccbjnehbanGreatDoor
open Go.RowKit
def RsOutI (L : List Sg) (a : Nat) (w : World) (e : Ending) (w' : World) : Prop :=
 ∃ tv nv F, e = .returned (.tuple #[tv, nv, .int .i64 ((rsR L a).nx : Int), .bool (rsR L a).ok]) ∧ TOk 24 (fun _ => False) w.heap.size w' (rsR L a).t tv F ∧ NRow w' w.heap.size (rsR L a).names nv ∧ (∀ b, nv.ownBlock = some b → b ∉ F) ∧ (rsR L a).names.length ≤ 3000 ∧ Below w.heap.size w w'
theorem readS_noend {r : List Sg} (h : NoEnd r) : readS r = none := by
 unfold readS
 cases e : termO true 130 1200 ⟨r, []⟩ with
 | none => rfl
 | some y =>
   obtain ⟨t, ⟨rest, names⟩⟩ := y
   cases rest with
   | nil => rfl
   | cons x r' =>
     have := h x (term_sub true 130 _ _ _ _ e x (by simp))
     simp only
     rw [if_neg (fun hh => this hh.1)]
def aheadL (L : List Sg) (a : Nat) : List Sg := (L.drop a).take (noEndC (L.drop a))
theorem rsR_of {L : List Sg} {a : Nat} (ha : a ≤ L.length) :
   (a + noEndC (L.drop a) = L.length ∧ rsR L a = ⟨false, noTm, [], L.length⟩) ∨
   (a + noEndC (L.drop a) < L.length ∧ (aheadL L a).length = noEndC (L.drop a) ∧ rsR L a = match readI (aheadL L a) with
     | some y => ⟨true, y.1, y.2, a + noEndC (L.drop a) + 1⟩
     | none => ⟨false, noTm, [], a + noEndC (L.drop a) + 1⟩) := by
 have hd : (L.drop a).length = L.length - a := List.length_drop ..
 rcases noEndC_at (L.drop a) with ⟨h1, h2, h3⟩ | ⟨E, tl, h1, h2, h3, h4⟩
 · left
   refine ⟨by omega, ?_⟩
   rw [rsR_none (fun _ => readS_noend h2), h3]
   congr 1
   omega
 · right
   have hl := congrArg List.length h1
   rw [List.length_append, List.length_cons, List.length_take] at hl
   have hc := noEndC_le (L.drop a)
   refine ⟨by omega, ?_, ?_⟩
   · unfold aheadL; rw [List.length_take]; omega
   · have hs : readS (L.drop a) = (readI (aheadL L a)).map fun y => (y.1, y.2, tl) := by
       conv => lhs; rw [h1]
       exact read_same h2 h3
     unfold rsR
     rw [if_pos (by omega), hs, h4]
     cases readI (aheadL L a) with
     | none => simp only [Option.map_none]; congr 1
     | some y =>
       simp only [Option.map_some]
       congr 1
       omega
theorem wholeO_readI (r : List Sg) : (wholeO (termO false 130 1200 ⟨r, []⟩)).map (fun y => (y.1, y.2.names)) = readI r := by
 unfold wholeO readI
 cases termO false 130 1200 ⟨r, []⟩ with
 | none => rfl
 | some y =>
   obtain ⟨t, ⟨rest, names⟩⟩ := y
   cases rest with
   | nil =>
     simp only
     by_cases h : t.ok = true
     · rw [if_pos ⟨trivial, h⟩, if_pos h]; rfl
     · rw [if_neg (fun hh => h hh.2), if_neg h]; rfl
   | cons x r' =>
     simp only
     rw [if_neg (fun hh => by cases hh.1)]; rfl
set_option maxHeartbeats 8000000 in
set_option maxRecDepth 20000 in
theorem i_readSigns (L : List Sg) (lv : Value) (a : Nat) (w : World) (ha : a ≤ L.length) (hL : L.length ≤ 3000) (hO : ∀ x ∈ L, SOk x) (h : SgRow w 0 L lv) :
   Calls Tryz.prog 21 #[lv, .int .i64 (a : Int)] w (RsOutI L a w) := by
 obtain ⟨ao, cap, rfl, hcap, hlc⟩ := h.shape
 obtain ⟨W, hW⟩ : ∃ W, W = w.alloc (.cells #[.int .i64 0, .string ⟨#[]⟩, .int .i64 0, .slice none 0 0] 24) := ⟨_, rfl⟩
 have bW : Below w.heap.size w W := by rw [hW]; exact (Below.refl _ _).alloc (Nat.le_refl _) _
 have kW : W.heap[w.heap.size]? = some (.cells #[.int .i64 0, .string ⟨#[]⟩, .int .i64 0, .slice none 0 0] 24 (0, 0)) := by rw [hW]; exact heap_alloc_new _ _
 have HNE : Hid _ := i_nextEnd L (.slice ao L.length cap) a W ha hL (h.keep bW)
 have HKW : Hid _ := kW
 have HBW : Hid (Below w.heap.size w W) := bW
 have HRW : Hid (SgRow W 0 L (.slice ao L.length cap)) := h.keep bW
 obtain ⟨NL, hNL⟩ : ∃ NL, NL = L.length := ⟨_, rfl⟩
 obtain ⟨E, hE⟩ : ∃ E, E = a + noEndC (L.drop a) := ⟨_, rfl⟩
 have hma : max (a : Int) 0 = (a : Int) := by omega
 rcases rsR_of ha with ⟨h1, h2⟩ | ⟨h1, h2, h3⟩
 · rw [← hE] at HNE h1
   rw [← hNL] at HNE HRW h1 h2 ⊢
   subst h1
   have HRS : Hid (rsR L a = ⟨false, noTm, [], E⟩) := h2
   clear h hNL hE h2 ha hO
   go_enter Tryz.func21, Tryz.ntmps21
   go_upto_region 1 with fail
   rw [← hW]
   clear hW
   obtain ⟨q0, q1, q2, q3, f0, f1, f2, f3⟩ := blk4 HKW.out
   go_wp2_with (go_at_call 32; refine (Calls.mono HNE.out ?_); rintro e w1 ⟨rfl, rfl⟩)
   refine bodyPost_ret_by (results_c3 rfl _ _ w.heap.size 24 _ (0, 0) _ rfl (blk4_set HKW.out) Tryz.underlying24 rfl (by kernel_rfl)) rfl ?_
   refine ⟨_, _, [], by rw [HRS.out]; rfl, by rw [HRS.out]; exact TOk.leaf (by omega) (by omega) (by decide), by rw [HRS.out]; exact ⟨rfl, Or.inl ⟨rfl, rfl⟩⟩, (fun b hb => by cases hb), by rw [HRS.out]; exact Nat.zero_le _, blk4_below HBW.out (Nat.le_refl _)⟩
 · obtain ⟨gb, cap2, hv, _, hgb, _, _, hcells⟩ := h.cells (fun e => by subst e; simp at h1)
   obtain ⟨rfl, _, rfl⟩ : ao = some ⟨gb, 0, none⟩ ∧ L.length = L.length ∧ cap = cap2 := by simpa using hv
   obtain ⟨n, hn⟩ : ∃ n, n = noEndC (L.drop a) := ⟨_, rfl⟩
   rw [← hn] at hE h1 h2 h3
   obtain ⟨L', hL'⟩ : ∃ L', L' = aheadL L a := ⟨_, rfl⟩
   have hSI : SIn W L' (.slice (some ⟨gb, a * 5, none⟩) n (cap - a)) := by
     refine ⟨some ⟨gb, a * 5, none⟩, cap - a, by rw [hL', h2], by rw [hL', h2]; omega, by omega, fun j hj => ⟨gb, a * 5, rfl, ?_⟩⟩
     rw [hL', h2] at hj
     have hjl : a + j < L.length := by omega
     have e : L'[j]'(by rw [hL', h2]; exact hj) = L[a + j] := by
       subst hL'
       simp [aheadL]
     rw [e, show a * 5 + j * 5 = (a + j) * 5 by omega]
     have hk := hcells (a + j) hjl
     have hb : W.heap[gb]? = w.heap[gb]? := bW.block gb hgb
     exact ⟨by rw [World.cell?_of_block (a := ⟨gb, _, none⟩) hb]; exact hk.1, by rw [World.cell?_of_block (a := ⟨gb, _, none⟩) hb]; exact hk.2.1, by rw [World.cell?_of_block (a := ⟨gb, _, none⟩) hb]; exact hk.2.2.1, by rw [World.cell?_of_block (a := ⟨gb, _, none⟩) hb]; exact hk.2.2.2.1, by rw [World.cell?_of_block (a := ⟨gb, _, none⟩) hb]; exact hk.2.2.2.2⟩
   rw [← hL'] at h2 h3
   rw [← hn, ← hE] at HNE
   rw [← hE] at h1 h3
   rw [← hNL] at HNE HRW h1 hL hlc ⊢
   have hne : ((E : Int) == (NL : Int)) = false := beq_false_of_ne (by omega)
   have hneg : ¬ (a : Int) < 0 := by omega
   have hla : (a : Int) ≤ (E : Int) := by omega
   have hlE : (E : Int) ≤ (cap : Int) := by omega
   have hca : ¬ cap = a := by omega
   have hEa : E - a = n := by omega
   have HEA : Hid (E = a + n ∧ E < NL ∧ NL ≤ 3000 ∧ NL ≤ cap ∧ cap ≤ maxLen) := ⟨hE, h1, hL, hlc, hcap⟩
   have HLL : Hid (L'.length = n) := h2
   have HRS : Hid _ := h3
   have HSI : Hid (SIn W L' (.slice (some ⟨gb, a * 5, none⟩) n (cap - a))) := hSI
   have HGB : Hid (gb < w.heap.size) := hgb
   have HO' : Hid (∀ x ∈ L', SOk x) := fun x hx => hO x (by rw [hL'] at hx; exact List.mem_of_mem_drop (List.mem_of_mem_take hx))
   have hmm := @run_makeMap Tryz.prog
   clear h hNL hE h1 h2 h3 ha hO hn hL' hL hlc hcap hv hcells hSI hgb HRW
   go_enter Tryz.func21, Tryz.ntmps21
   go_upto_region 1 with fail
   rw [← hW]
   clear hW
   go_upto_region 6 with (go_at_call 32; refine (Calls.mono HNE.out ?_); rintro e w1 ⟨rfl, rfl⟩)
   go_upto_region 7 with fail
   obtain ⟨V, hV⟩ : ∃ V, V = (w1.alloc (.map #[] 0)).alloc (.cells #[.slice (some ⟨gb, a * 5, none⟩) n (cap - a), .int .i64 0, .int .i64 0, .slice none 0 0, .map (some w1.heap.size)] 63) := ⟨_, rfl⟩
   rw [← hV]
   have bV : Below w1.heap.size w1 V := by rw [hV]; exact ((Below.refl _ _).alloc (Nat.le_refl _) _).alloc (by simp) _
   have kg : V.heap[w1.heap.size + 1]? = some (.cells #[.slice (some ⟨gb, a * 5, none⟩) n (cap - a), .int .i64 0, .int .i64 0, .slice none 0 0, .map (some w1.heap.size)] 63 (0, 0)) := by rw [hV]; exact alloc_at _ _ (by simp)
   have km : V.heap[w1.heap.size]? = some (.map #[] 0) := by rw [hV]; exact (alloc_old _ _ (by simp)).trans (heap_alloc_new _ _)
   have sV : V.heap.size = w1.heap.size + 2 := by rw [hV]; simp
   obtain ⟨m, hm⟩ : ∃ m, m = w1.heap.size := ⟨_, rfl⟩
   obtain ⟨g, hg⟩ : ∃ g, g = m + 1 := ⟨_, rfl⟩
   rw [← hm] at kg km ⊢
   rw [← hg] at kg ⊢
   have hsW := HBW.out.size
   have hgb := HGB.out
   have I0 : IRd g m L' (.slice (some ⟨gb, a * 5, none⟩) n (cap - a)) (.slice none 0 0) V 0 ⟨L', []⟩ := ⟨0, [], kg, HSI.out.turn fun b hb => by
       have : b = gb := by simpa [sliceBlk] using hb.symm
       subst this
       exact bV.block _ (by omega), fun b hb => by
       have : b = gb := by simpa [sliceBlk] using hb.symm
       subst this
       omega, ⟨rfl, Or.inl ⟨rfl, rfl⟩⟩, ⟨#[], 0, km, rfl⟩, MOk.nil, by omega, Nat.zero_le _, rfl, Nat.zero_le _⟩
   have HWH := i_whole g m L' (.slice (some ⟨gb, a * 5, none⟩) n (cap - a)) (.slice none 0 0) ⟨L', []⟩ V (by have := HLL.out; have := HEA.out; omega) HO'.out I0
   have hnX : ∀ k, k < m → ¬ XI g m (.slice none 0 0) k := fun k hk hh => by
     rcases hh with e | e | e
     · omega
     · omega
     · cases e
   have HNX : Hid (∀ k, k < m → ¬ XI g m (.slice none 0 0) k) := hnX
   have HGM : Hid (m = w1.heap.size ∧ g = m + 1 ∧ w.heap.size < m ∧ V.heap.size = m + 2) := ⟨hm, hg, by
     have := (Array.getElem?_eq_some_iff.1 HKW.out).1; omega, by omega⟩
   have HBV : Hid (Below w1.heap.size w1 V) := bV
   have HKV : Hid (V.heap[w.heap.size]? = some (.cells #[.int .i64 0, .string ⟨#[]⟩, .int .i64 0, .slice none 0 0] 24 (0, 0))) := (bV.block _ (Array.getElem?_eq_some_iff.1 HKW.out).1).trans HKW.out
   have hri := wholeO_readI L'
   obtain ⟨R, hR⟩ : ∃ R, R = wholeO (termO false 130 1200 ⟨L', []⟩) := ⟨_, rfl⟩
   rw [← hR] at HWH hri
   replace HWH : Hid _ := HWH
   have hwE : IntKind.i64.wrap ((E : Int) + 1) = (E : Int) + 1 := by have := HEA.out; rw [IntKind.wrap_i64]; omega
   clear hV bV kg km sV hm hg hsW hgb I0 hnX hR
   cases R with
   | none =>
     have HR0 : Hid (rsR L a = ⟨false, noTm, [], E + 1⟩) := by show _ = _; rw [HRS.out, ← hri]; rfl
     clear hri
     go_upto_region 8 with (go_at_call 33; refine (Calls.mono HWH.out ?_); rintro e w5 ⟨v, nv5, F, tm, st5, rfl, ht, hx, hy⟩; obtain ⟨t1, t2, t3, t4, t5, t6, rfl⟩ := ht.form; have HX5 : Hid (FX (XI g m (.slice none 0 0)) (XI g m nv5) V w5) := hx; have HT5 : Hid (TOk 24 (XI g m nv5) V.heap.size w5 tm (.agg #[.int .i64 t1, .string t2, .int .i64 t3, .slice t4 t5 t6]) F) := ht; have HY5 : Hid _ := hy; clear ht hx hy)
     obtain ⟨w6, hw6⟩ : ∃ w6, w6 = w5.alloc (.cells #[.int .i64 t1, .string t2, .int .i64 t3, .slice t4 t5 t6] 24) := ⟨_, rfl⟩
     rw [← hw6]
     have b6 : Below w5.heap.size w5 w6 := by rw [hw6]; exact (Below.refl _ _).alloc (Nat.le_refl _) _
     have hgm := HGM.out
     have hk : w6.heap[w.heap.size]? = _ := (b6.block _ (by have := HX5.out.size; omega)).trans ((HX5.out.block _ (by omega) (HNX.out _ (by omega))).trans HKV.out)
     have HK6 : Hid _ := hk
     have HB6 : Hid (Below w.heap.size w w6) := by
       have h1 : Below w1.heap.size w1 w5 := HBV.out.trans (HX5.out.below (by omega) (fun k hk' => by
         rcases hk' with e | e | e
         · omega
         · omega
         · cases e))
       exact HBW.out.trans ((h1.trans (b6.mono h1.size)).mono HBW.out.size)
     obtain ⟨q0, q1, q2, q3, f0, f1, f2, f3⟩ := blk4 hk
     clear hw6 b6 hgm hk
     go_wp2
     refine bodyPost_ret_by (results_c3 rfl _ _ w.heap.size 24 _ (0, 0) _ rfl (blk4_set HK6.out) Tryz.underlying24 rfl (by kernel_rfl)) rfl ?_
     refine ⟨_, _, [], by rw [HR0.out]; rfl, by rw [HR0.out]; exact TOk.leaf (by omega) (by omega) (by decide), by rw [HR0.out]; exact ⟨rfl, Or.inl ⟨rfl, rfl⟩⟩, (fun b hb => by cases hb), by rw [HR0.out]; exact Nat.zero_le _, blk4_below HB6.out (Nat.le_refl _)⟩
   | some y =>
     have HR0 : Hid (rsR L a = ⟨true, y.1, y.2.names, E + 1⟩) := by show _ = _; rw [HRS.out, ← hri]; rfl
     clear hri
     go_upto_region 8 with (go_at_call 33; refine (Calls.mono HWH.out ?_); rintro e w5 ⟨v, nv5, F, tm, st5, rfl, ht, hx, hy⟩; obtain ⟨t1, t2, t3, t4, t5, t6, rfl⟩ := ht.form; have HX5 : Hid (FX (XI g m (.slice none 0 0)) (XI g m nv5) V w5) := hx; have HT5 : Hid (TOk 24 (XI g m nv5) V.heap.size w5 tm (.agg #[.int .i64 t1, .string t2, .int .i64 t3, .slice t4 t5 t6]) F) := ht; have HY5 : Hid _ := hy; clear ht hx hy)
     obtain ⟨w6, hw6⟩ : ∃ w6, w6 = w5.alloc (.cells #[.int .i64 t1, .string t2, .int .i64 t3, .slice t4 t5 t6] 24) := ⟨_, rfl⟩
     rw [← hw6]
     have b6 : Below w5.heap.size w5 w6 := by rw [hw6]; exact (Below.refl _ _).alloc (Nat.le_refl _) _
     have hgm := HGM.out
     have hk : w6.heap[w.heap.size]? = _ := (b6.block _ (by have := HX5.out.size; omega)).trans ((HX5.out.block _ (by omega) (HNX.out _ (by omega))).trans HKV.out)
     have HK6 : Hid _ := hk
     have HB6 : Hid (Below w.heap.size w w6) := by
       have h1 : Below w1.heap.size w1 w5 := HBV.out.trans (HX5.out.below (by omega) (fun k hk' => by
         rcases hk' with e | e | e
         · omega
         · omega
         · cases e))
       exact HBW.out.trans ((h1.trans (b6.mono h1.size)).mono HBW.out.size)
     obtain ⟨htm, hst, hI5⟩ := HY5.out y rfl
     have hk10 : w6.heap[w5.heap.size]? = some (.cells #[.int .i64 t1, .string t2, .int .i64 t3, .slice t4 t5 t6] 24 (0, 0)) := by rw [hw6]; exact heap_alloc_new _ _
     obtain ⟨p6, ms6, hg6, _, _, hnr, _, _, _, hp6, _, hn6⟩ := (hI5.keep b6).ex
     have HNL : Hid (y.2.names.length ≤ 3000) := by
       show _ ≤ _
       rw [← hst]
       have h1 : st5.names.length ≤ p6 := hn6
       have := HLL.out; have := HEA.out; omega
     clear hp6 hn6
     have HNR : Hid (NRow w6 (max g m + 1) y.2.names nv5) := by rw [← hst]; exact hnr
     have HK10 : Hid _ := hk10
     have HG6 : Hid _ := hg6
     have HT6 : Hid (TOk 24 (XI g m nv5) V.heap.size w6 y.1 (.agg #[.int .i64 t1, .string t2, .int .i64 t3, .slice t4 t5 t6]) F) := by rw [← htm]; exact HT5.out.step (FX.of_below b6)
     obtain ⟨B10, hB10⟩ : ∃ B10, B10 = w5.heap.size := ⟨_, rfl⟩
     rw [← hB10] at HK10 ⊢
     have hn1 : B10 ≠ w.heap.size := by have := HX5.out.size; omega
     have hn2 : g ≠ w.heap.size := by omega
     have HNN : Hid (B10 ≠ w.heap.size ∧ g ≠ w.heap.size) := ⟨hn1, hn2⟩
     clear hw6 b6 hgm hk hk10 hg6 hnr htm hst hI5 hB10 hn1 hn2
     go_upto_region 10 with fail
     obtain ⟨q0, q1, q2, q3, f0, f1, f2, f3⟩ := blk4 HK6.out
     obtain ⟨z0, z1, z2, z3, _⟩ := blk4 HK10.out
     obtain ⟨g0, g1, g2, g3, g4, _⟩ := b5f HG6.out
     have hn1 := HNN.out.1
     have hn2 := HNN.out.2
     have hn3 : ¬ w.heap.size = B10 := fun e => hn1 e.symm
     have hn4 : ¬ w.heap.size = g := fun e => hn2 e.symm
     go_region
     obtain ⟨w7, hw7⟩ : ∃ w7, w7 = (((w6.setCell ⟨w.heap.size, 0, none⟩ (.int .i64 t1)).setCell ⟨w.heap.size, 1, none⟩ (.string t2)).setCell ⟨w.heap.size, 2, none⟩ (.int .i64 t3)).setCell ⟨w.heap.size, 3, none⟩ (.slice t4 t5 t6) := ⟨_, rfl⟩
     rw [← hw7]
     have k7 : w7.drew.heap[w.heap.size]? = some (.cells #[.int .i64 t1, .string t2, .int .i64 t3, .slice t4 t5 t6] 24 (0, 0)) := by
       rw [(rfl : w7.drew.heap = w7.heap), hw7]
       exact blk4_set HK6.out
     have oE : ∀ k, k ≠ w.heap.size → w7.drew.heap[k]? = w6.heap[k]? := fun k hk => by
       rw [(rfl : w7.drew.heap = w7.heap), hw7]
       exact blk4_other hk
     have b7 : Below w.heap.size w w7.drew := by
       refine Below.drew ?_
       rw [hw7]
       exact blk4_below HB6.out (Nat.le_refl _)
     have hgm := HGM.out
     have hnr := HNR.out
     clear hw7 q0 q1 q2 q3 f0 f1 f2 f3 z0 z1 z2 z3 g0 g1 g2 g3 g4
     generalize w7.drew = w8 at *
     go_wp2
     refine bodyPost_ret_by (results_c3 rfl _ _ w.heap.size 24 _ (0, 0) _ rfl k7 Tryz.underlying24 rfl (by kernel_rfl)) rfl ?_
     have ht6 := HT6.out
     refine ⟨_, nv5, F, by rw [HR0.out]; rfl, ?_, ?_, fun b hb hf => (ht6.out b hf).2 (Or.inr (Or.inr hb)), by rw [HR0.out]; exact HNL.out, b7⟩
     · rw [HR0.out]
       exact ⟨Own.keep _ _ _ ht6.own fun k hk => oE k (by have := (ht6.out k hk).1; omega), ht6.nd, fun k hk => ⟨by have := (ht6.out k hk).1; omega, fun h => h⟩⟩
     · rw [HR0.out]
       exact nrow_base (hnr.turn fun b hb => oE b (by have := (hnr.lt b hb).1; omega)) (by omega)
end Go.Proofs.YtbkjcccbjnehbanGreatDoor

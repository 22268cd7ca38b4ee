import Derived.Test.YtbkjcccbjnehbanGreatDoorMh2
import Derived.Test.YtbkjcccbjnehbanGreatDoorMh26
import Derived.Laws.NewBlocks
import Derived.Deep.DeepCutAuto
namespace Go.Proofs.YtbkjcccbjnehbanGreatDoor
open Go.RowKit
structure Fr (N g : Nat) (w w' : World) : Prop where
 os : w'.os = w.os
 tape : w'.tape = w.tape
 output : w'.output = w.output
 size : w.heap.size ≤ w'.heap.size
 block : ∀ k, k < N → k ≠ g → w'.heap[k]? = w.heap[k]?
theorem Fr.refl (N g : Nat) (w : World) : Fr N g w w := ⟨rfl, rfl, rfl, Nat.le_refl _, fun _ _ _ => rfl⟩
theorem Fr.trans {N g : Nat} {a b c : World} (h : Fr N g a b) (k : Fr N g b c) : Fr N g a c :=
 ⟨k.os.trans h.os, k.tape.trans h.tape, k.output.trans h.output, Nat.le_trans h.size k.size, fun i hi hg => (k.block i hi hg).trans (h.block i hi hg)⟩
theorem Fr.of_below {N g B : Nat} {w w' : World} (h : Below B w w') (hN : N ≤ B) : Fr N g w w' := ⟨h.os, h.tape, h.output, h.size, fun k hk _ => h.block k (by omega)⟩
def SnAt (N g : Nat) (t : ByteArray) (mv : Value) (w : World) (L : List Sg) (b : Nat) : Prop :=
 ∃ vo, w.heap[g]? = some (.cells #[.string t, mv, vo, .int .i64 (b : Int)] 59 (0, 0)) ∧ SgRow w N L vo ∧ g < N ∧ N ≤ w.heap.size
theorem SnAt.keep {N g : Nat} {t : ByteArray} {mv : Value} {w w' : World} {L : List Sg} {b : Nat} (h : SnAt N g t mv w L b) (hb : Below w.heap.size w w') : SnAt N g t mv w' L b := by
 obtain ⟨vo, h1, h2, h3, h4⟩ := h
 exact ⟨vo, (hb.block g (by omega)).trans h1, h2.keep hb, h3, Nat.le_trans h4 hb.size⟩
theorem b4 {w : World} {g : Nat} {c0 c1 c2 c3 : Value} {T : TypeId} (h : w.heap[g]? = some (.cells #[c0, c1, c2, c3] T (0, 0))) :
   w.cell? ⟨g, 0, none⟩ = some c0 ∧ w.cell? ⟨g, 1, none⟩ = some c1 ∧ w.cell? ⟨g, 2, none⟩ = some c2 ∧ w.cell? ⟨g, 3, none⟩ = some c3 ∧ (∀ i, w.frozen? ⟨g, i, none⟩ = false) := by
 refine ⟨?_, ?_, ?_, ?_, ?_⟩
 · simp [World.cell?, h]
 · simp [World.cell?, h]
 · simp [World.cell?, h]
 · simp [World.cell?, h]
 · intro i; simp [World.frozen?, h]
theorem b5 {w : World} {g : Nat} {c0 c1 c2 c3 c4 : Value} {T : TypeId} (h : w.heap[g]? = some (.cells #[c0, c1, c2, c3, c4] T (0, 0))) :
   w.cell? ⟨g, 0, none⟩ = some c0 ∧ w.cell? ⟨g, 1, none⟩ = some c1 ∧ w.cell? ⟨g, 2, none⟩ = some c2 ∧ w.cell? ⟨g, 3, none⟩ = some c3 ∧ w.cell? ⟨g, 4, none⟩ = some c4 := by
 refine ⟨?_, ?_, ?_, ?_, ?_⟩
 · simp [World.cell?, h]
 · simp [World.cell?, h]
 · simp [World.cell?, h]
 · simp [World.cell?, h]
 · simp [World.cell?, h]
theorem set_at {w : World} {g i : Nat} {cur : Array Value} {T : TypeId} {fr : Nat × Nat} (h : w.heap[g]? = some (.cells cur T fr)) (v : Value) : (w.setCell ⟨g, i, none⟩ v).heap[g]? = some (.cells (cur.setIfInBounds i v) T fr) := by
 simp [World.setCell, Array.getElem?_modify, h]
theorem set_oth {w : World} {g i f : Nat} (v : Value) (hf : f ≠ g) : (w.setCell ⟨g, i, none⟩ v).heap[f]? = w.heap[f]? := by
 simp [World.setCell, Array.getElem?_modify, Ne.symm hf]
theorem set_size {w : World} {g i : Nat} (v : Value) : (w.setCell ⟨g, i, none⟩ v).heap.size = w.heap.size := by simp [World.setCell]
set_option maxHeartbeats 4000000 in
set_option maxRecDepth 20000 in
theorem add_any (N g : Nat) (t : ByteArray) (mv : Value) (L : List Sg) (b : Nat) (kind : Int) (text : ByteArray) (num : Int) (i e : Nat) (near : Bool) (w : World) (h : SnAt N g t mv w L b) (hL : L.length ≤ 3000)
   (hn : near = (decide (e < t.size) && decide ((at8 t e).toNat = 40))) :
   Calls Tryz.prog 69 #[.pointer (some ⟨g, 0, none⟩), .agg #[.int .i64 kind, .string text, .int .i64 num, .int .i64 (i : Int), .bool false], .int .i64 (e : Int)] w fun r w' => (∃ x, r = .returned x) ∧ SnAt N g t mv w' (L ++ [⟨kind, text, num, i, near⟩]) e ∧ Fr N g w w' := by
 obtain ⟨i0, hi, hz0, hz1, hz2⟩ := info_partsS infoS
 obtain ⟨vo, hg, hrow, hgN, hNw⟩ := h
 obtain ⟨ao, cp, rfl, hcp, hLc⟩ := hrow.shape
 have hgw : g < w.heap.size := by omega
 obtain ⟨c0, c1, c2, c3, cf⟩ := b4 hg
 have hE : (e < t.size ∧ ∃ hh : e < t.size, ((t[e].toNat : Int) == 40) = near) ∨ (¬ e < t.size ∧ near = false) := by
   by_cases he : e < t.size
   · refine Or.inl ⟨he, he, ?_⟩
     rw [hn, at8_eq t e he, decide_eq_true he, Bool.true_and, Bool.eq_iff_iff]; simp; omega
   · exact Or.inr ⟨he, by rw [hn, decide_eq_false he]; rfl⟩
 have HG : Hid (w.heap[g]? = some (.cells #[.string t, mv, .slice ao L.length cp, .int .i64 (b : Int)] 59 (0, 0))) := hg
 have HROW : Hid (SgRow w N L (.slice ao L.length cp)) := hrow
 have HL : Hid (L.length ≤ 3000) := hL
 clear hn hg hrow hL
 go_enter Tryz.func69, Tryz.ntmps69
 rcases hE with ⟨he, hh, e40⟩ | ⟨he, rfl⟩
 · have hce := t[e].toNat_lt
   go_upto_region 2 with fail
   clear e40
   obtain ⟨W, hW⟩ : ∃ W, W = w.alloc (.cells #[.int .i64 kind, .string text, .int .i64 num, .int .i64 (i : Int), .bool near] 45) := ⟨_, rfl⟩
   rw [← hW]
   have bW : Below w.heap.size w W := by rw [hW]; exact (Below.refl _ _).alloc (Nat.le_refl _) _
   have lW : W.heap.size = w.heap.size + 1 := by rw [hW]; simp
   have kW : W.heap[w.heap.size]? = some (.cells #[.int .i64 kind, .string text, .int .i64 num, .int .i64 (i : Int), .bool near] 45 (0, 0)) := by rw [hW]; exact heap_alloc_new _ _
   have HK : Hid (∀ w', Below W.heap.size W w' → w'.heap[g]? = some (.cells #[.string t, mv, .slice ao L.length cp, .int .i64 (b : Int)] 59 (0, 0)) ∧ w'.heap[w.heap.size]? = some (.cells #[.int .i64 kind, .string text, .int .i64 num, .int .i64 (i : Int), .bool near] 45 (0, 0)) ∧ SgRow w' N L (.slice ao L.length cp)) := fun w' hb =>
     ⟨(hb.block g (by omega)).trans ((bW.block g hgw).trans HG.out), (hb.block _ (by omega)).trans kW, (HROW.out.keep bW).keep hb⟩
   have HBW : Hid (Below w.heap.size w W) := bW
   clear hW kW bW c0 c1 c2 c3
   refine FP.wp_region_factsP (v1 := .pointer (some ⟨g, 0, none⟩)) 7 (fun q v S w' => match q with
     | 0 => v = .pointer (some ⟨g, 0, none⟩)
     | 1 => v = .pointer (some ⟨g, 0, none⟩)
     | 2 => v = .pointer (some ⟨g, 0, none⟩)
     | 3 => v = .pointer (some ⟨g, 2, none⟩)
     | 4 => v = .slice ao L.length cp
     | 5 => v = .agg #[.int .i64 kind, .string text, .int .i64 num, .int .i64 (i : Int), .bool near]
     | _ => ∃ g2, v = .slice (some ⟨g2, 0, none⟩) 1 1 ∧ w'.heap[g2]? = some (.cells #[.int .i64 kind, .string text, .int .i64 num, .int .i64 (i : Int), .bool near] 45 (0, 0)) ∧ W.heap.size ≤ g2) (by kernel_rfl) (by kernel_rfl) 37 rfl (by kernel_rfl) (by omega) rfl (by kernel_rfl) (by kernel_rfl) (by kernel_rfl) (fun _ d _ _ _ h => by cases d <;> exact h) ?_ (fun _ _ => rfl) ?_ ?_ ?_
   · refine ⟨rfl, fun w => ?_⟩
     go_simp
   · intro q v S w w' hq h hb
     match q, hq, h with
     | 0, _, h => exact h
     | 1, _, h => exact h
     | 2, _, h => exact h
     | 3, _, h => exact h
     | 4, _, h => exact h
     | 5, _, h => exact h
     | 6, _, ⟨g2, h1, h2, h3⟩ => exact ⟨g2, h1, (hb.block g2 (Array.getElem?_eq_some_iff.1 h2).1).trans h2, h3⟩
   · intro q o hq ho a w' hb hfr hdep
     obtain ⟨z0, z1, _⟩ := HK.out w' hb
     obtain ⟨x0, x1, x2, x3, _⟩ := b4 z0
     obtain ⟨y0, y1, y2, y3, y4⟩ := b5 z1
     have u0 : a.tmps.getD 0 undef = .pointer (some ⟨g, 0, none⟩) := hfr 0 (by decide)
     have u4 : a.tmps.getD 4 undef = .pointer (some ⟨w.heap.size, 0, none⟩) := hfr 4 (by decide)
     match q, hq with
     | 0, _ =>
       obtain rfl : _ = o := by simpa using ho
       refine FP.fact_value (w' := w') (v := .pointer (some ⟨g, 0, none⟩)) ?_ (Below.refl _ _) ⟨[], rfl, by simp⟩
       simp only [execOp, Act.eval, u0]
       go_simp
     | 1, _ =>
       obtain rfl : _ = o := by simpa using ho
       refine FP.fact_value (w' := w') (v := .pointer (some ⟨g, 0, none⟩)) ?_ (Below.refl _ _) ⟨[], rfl, by simp⟩
       simp only [execOp, Act.eval, u0]
       go_simp
     | 2, _ =>
       obtain rfl : _ = o := by simpa using ho
       obtain ⟨_, h0⟩ : ∃ _ : List Nat, a.tmps.getD 24 undef = .pointer (some ⟨g, 0, none⟩) := hdep 1 (by kernel_rfl)
       refine FP.fact_value (w' := w') (v := .pointer (some ⟨g, 0, none⟩)) ?_ (Below.refl _ _) ⟨[], rfl, by simp⟩
       simp only [execOp, Act.eval, h0]
       go_simp
     | 3, _ =>
       obtain rfl : _ = o := by simpa using ho
       obtain ⟨_, h0⟩ : ∃ _ : List Nat, a.tmps.getD 25 undef = .pointer (some ⟨g, 0, none⟩) := hdep 2 (by kernel_rfl)
       refine FP.fact_value (w' := w') (v := .pointer (some ⟨g, 2, none⟩)) ?_ (Below.refl _ _) ⟨[], rfl, by simp⟩
       simp only [execOp, Act.eval, h0]
       go_simp
     | 4, _ =>
       obtain rfl : _ = o := by simpa using ho
       obtain ⟨_, h0⟩ : ∃ _ : List Nat, a.tmps.getD 26 undef = .pointer (some ⟨g, 2, none⟩) := hdep 3 (by kernel_rfl)
       refine FP.fact_value (w' := w') (v := .slice ao L.length cp) ?_ (Below.refl _ _) ⟨[], rfl, by simp⟩
       simp only [execOp, Act.eval, h0]
       go_simp
     | 5, _ =>
       obtain rfl : _ = o := by simpa using ho
       refine FP.fact_value (w' := w') (v := .agg #[.int .i64 kind, .string text, .int .i64 num, .int .i64 (i : Int), .bool near]) ?_ (Below.refl _ _) ⟨[], rfl, by simp⟩
       simp only [execOp, Act.eval, u4]
       go_simp
     | 6, _ =>
       obtain rfl : _ = o := by simpa using ho
       obtain ⟨_, hv⟩ : ∃ _ : List Nat, a.tmps.getD 28 undef = .agg #[.int .i64 kind, .string text, .int .i64 num, .int .i64 (i : Int), .bool near] := hdep 5 (by kernel_rfl)
       have e9 : (#[((0 : Nat), Operand.tmp 28)].map fun x => (x.1, a.eval x.2)) = #[(0, .agg #[.int .i64 kind, .string text, .int .i64 num, .int .i64 (i : Int), .bool near])] := by simp [Act.eval]; simpa using hv
       refine FP.fact_value (w' := w'.alloc (.cells #[.int .i64 kind, .string text, .int .i64 num, .int .i64 (i : Int), .bool near] 45)) (v := .slice (some ⟨w'.heap.size, 0, none⟩) 1 1) ?_ ((Below.refl _ _).alloc (Nat.le_refl _) _) ⟨[], ⟨w'.heap.size, rfl, heap_alloc_new _ _, hb.size⟩, by simp⟩
       clear hdep hfr ho
       simp only [execOp, e9]
       go_simp
   intro vals S w1 hb hf _
   have v0 : vals 0 = .pointer (some ⟨g, 0, none⟩) := (hf 0 (by omega)).1
   have v4 : vals 4 = .slice ao L.length cp := (hf 4 (by omega)).1
   obtain ⟨g2, v6, hg2, hgl⟩ : ∃ g2, vals 6 = .slice (some ⟨g2, 0, none⟩) 1 1 ∧ w1.heap[g2]? = some (.cells #[.int .i64 kind, .string text, .int .i64 num, .int .i64 (i : Int), .bool near] 45 (0, 0)) ∧ W.heap.size ≤ g2 := (hf 6 (by omega)).1
   simp only [FP.putN, List.getElem?_toArray, List.getElem?_cons_zero, List.getElem?_cons_succ, Option.bind_some, List.drop_succ_cons, List.drop_zero, v0, v4, v6]
   generalize vals 1 = m1
   generalize vals 2 = m2
   generalize vals 3 = m3
   generalize vals 5 = m5
   simp only [Act.put, List.setIfInBounds_toArray, List.set_cons_succ, List.set_cons_zero]
   obtain ⟨Z0, _, Z2⟩ := HK.out w1 hb
   obtain ⟨X0, X1, X2, X3, X4⟩ := b5 hg2
   have HZ0 : Hid (w1.heap[g]? = some (.cells #[.string t, mv, .slice ao L.length cp, .int .i64 (b : Int)] 59 (0, 0))) := Z0
   have HZ2 : Hid (SgRow w1 N L (.slice ao L.length cp)) := Z2
   have HX : Hid (w1.cell? ⟨g2, 0, none⟩ = some (.int .i64 kind) ∧ w1.cell? ⟨g2, 1, none⟩ = some (.string text) ∧ w1.cell? ⟨g2, 2, none⟩ = some (.int .i64 num) ∧ w1.cell? ⟨g2, 3, none⟩ = some (.int .i64 (i : Int)) ∧ w1.cell? ⟨g2, 4, none⟩ = some (.bool near)) := ⟨X0, X1, X2, X3, X4⟩
   have HB1 : Hid (Below w.heap.size w w1) := HBW.out.trans (hb.mono HBW.out.size)
   have hs1 := HB1.out.size
   clear hf v0 v4 v6 hg2 X0 X1 X2 X3 X4 Z0 Z2 hb HK HBW hgl lW
   go_wp2_with (at_builtin; go_loud (refine wpList_append_own_at _ rfl _ _ 37 rfl N 45 i0 (.agg #[.int .i64 0, .string ⟨#[]⟩, .int .i64 0, .int .i64 0, .bool false]) 5 48 Tryz.underlying37 hi hz0 hz1 hz2 rfl (by decide) _ _ _ rfl HZ2.out ⟨g2, 0, none⟩ 1 1 [.int .i64 kind, .string text, .int .i64 num, .int .i64 (i : Int), .bool near] rfl rfl ?c1 ?c2 ?c3 ?c4 ?c5 ?_))
   case c1 =>
     intro q z hq
     match q, hq with
     | 0, hq => simp at hq; subst hq; simpa [Addr.add] using HX.out.1
     | 1, hq => simp at hq; subst hq; simpa [Addr.add] using HX.out.2.1
     | 2, hq => simp at hq; subst hq; simpa [Addr.add] using HX.out.2.2.1
     | 3, hq => simp at hq; subst hq; simpa [Addr.add] using HX.out.2.2.2.1
     | 4, hq => simp at hq; subst hq; simpa [Addr.add] using HX.out.2.2.2.2
   case c2 => intro z hz; simp at hz; rcases hz with rfl | rfl | rfl | rfl | rfl <;> rfl
   case c3 => have := HL.out; unfold maxLen; omega
   case c4 => have := HL.out; omega
   case c5 => omega
   intro v' w2 hown' hgrow _ _
   have hblk : ∀ k, k < N → w2.heap[k]? = w1.heap[k]? := fun k hk => hgrow.block k (by omega) (by
     intro e
     rcases HZ2.out.2 with ⟨e2, _⟩ | ⟨g3, cap, cur, e2, hge, _⟩
     · rw [e2] at e; cases e
     · rw [e2] at e; simp [Value.ownBlock] at e; omega)
   have HFR : Hid (Fr N g w w2) := ⟨hgrow.os.trans HB1.out.os, hgrow.tape.trans HB1.out.tape, hgrow.output.trans HB1.out.output, Nat.le_trans HB1.out.size hgrow.size, fun k hk _ => (hblk k hk).trans (HB1.out.block k (by omega))⟩
   have HO2 : Hid (SgRow w2 N (L ++ [⟨kind, text, num, i, near⟩]) v') := by
     show w2.ownsRow N 45 5 v' (L ++ [_]).length (sgsV (L ++ [_]))
     rw [sgsV_push, List.length_append]
     exact hown'
   have HG2 : Hid (w2.heap[g]? = some (.cells #[.string t, mv, .slice ao L.length cp, .int .i64 (b : Int)] 59 (0, 0))) := (hblk g hgN).trans HZ0.out
   have hs2 := HFR.out.size
   obtain ⟨a2, cp2, hv2, _, _⟩ := HO2.out.shape
   rw [List.length_append, List.length_singleton] at hv2
   subst hv2
   obtain ⟨c0, c1, c2, c3, cf2⟩ := b4 HG2.out
   have f2 := cf2 2
   have f3 := cf2 3
   clear hown' hgrow hblk HZ0 HZ2 HX HB1
   go_wp2
   refine bodyPost_end (results_none rfl _ _ _) rfl ?_
   refine ⟨⟨_, rfl⟩, ⟨.slice a2 (L.length + 1) cp2, ?_, ?_, hgN, ?_⟩, ?_⟩
   · have h1 := set_at (i := 2) HG2.out (.slice a2 (L.length + 1) cp2)
     have h2 := set_at (i := 3) h1 (.int .i64 (e : Int))
     simpa using h2
   · refine HO2.out.turn fun k hk => ?_
     have hkN : N ≤ k := by
       rcases HO2.out.2 with ⟨e2, _⟩ | ⟨g3, cap, cur, e2, hge, _⟩
       · rw [e2] at hk; cases hk
       · rw [e2] at hk; simp [Value.ownBlock] at hk; omega
     rw [set_oth _ (by omega), set_oth _ (by omega)]
   · rw [set_size, set_size]; omega
   · exact HFR.out.trans ⟨rfl, rfl, rfl, by rw [set_size, set_size]; exact Nat.le_refl _, fun k _ hkg => by rw [set_oth _ hkg, set_oth _ hkg]⟩
 · go_upto_region 2 with fail
   obtain ⟨W, hW⟩ : ∃ W, W = w.alloc (.cells #[.int .i64 kind, .string text, .int .i64 num, .int .i64 (i : Int), .bool false] 45) := ⟨_, rfl⟩
   rw [← hW]
   have bW : Below w.heap.size w W := by rw [hW]; exact (Below.refl _ _).alloc (Nat.le_refl _) _
   have lW : W.heap.size = w.heap.size + 1 := by rw [hW]; simp
   have kW : W.heap[w.heap.size]? = some (.cells #[.int .i64 kind, .string text, .int .i64 num, .int .i64 (i : Int), .bool false] 45 (0, 0)) := by rw [hW]; exact heap_alloc_new _ _
   have HK : Hid (∀ w', Below W.heap.size W w' → w'.heap[g]? = some (.cells #[.string t, mv, .slice ao L.length cp, .int .i64 (b : Int)] 59 (0, 0)) ∧ w'.heap[w.heap.size]? = some (.cells #[.int .i64 kind, .string text, .int .i64 num, .int .i64 (i : Int), .bool false] 45 (0, 0)) ∧ SgRow w' N L (.slice ao L.length cp)) := fun w' hb =>
     ⟨(hb.block g (by omega)).trans ((bW.block g hgw).trans HG.out), (hb.block _ (by omega)).trans kW, (HROW.out.keep bW).keep hb⟩
   have HBW : Hid (Below w.heap.size w W) := bW
   clear hW kW bW c0 c1 c2 c3
   refine FP.wp_region_factsP (v1 := .pointer (some ⟨g, 0, none⟩)) 7 (fun q v S w' => match q with
     | 0 => v = .pointer (some ⟨g, 0, none⟩)
     | 1 => v = .pointer (some ⟨g, 0, none⟩)
     | 2 => v = .pointer (some ⟨g, 0, none⟩)
     | 3 => v = .pointer (some ⟨g, 2, none⟩)
     | 4 => v = .slice ao L.length cp
     | 5 => v = .agg #[.int .i64 kind, .string text, .int .i64 num, .int .i64 (i : Int), .bool false]
     | _ => ∃ g2, v = .slice (some ⟨g2, 0, none⟩) 1 1 ∧ w'.heap[g2]? = some (.cells #[.int .i64 kind, .string text, .int .i64 num, .int .i64 (i : Int), .bool false] 45 (0, 0)) ∧ W.heap.size ≤ g2) (by kernel_rfl) (by kernel_rfl) 37 rfl (by kernel_rfl) (by omega) rfl (by kernel_rfl) (by kernel_rfl) (by kernel_rfl) (fun _ d _ _ _ h => by cases d <;> exact h) ?_ (fun _ _ => rfl) ?_ ?_ ?_
   · refine ⟨rfl, fun w => ?_⟩
     go_simp
   · intro q v S w w' hq h hb
     match q, hq, h with
     | 0, _, h => exact h
     | 1, _, h => exact h
     | 2, _, h => exact h
     | 3, _, h => exact h
     | 4, _, h => exact h
     | 5, _, h => exact h
     | 6, _, ⟨g2, h1, h2, h3⟩ => exact ⟨g2, h1, (hb.block g2 (Array.getElem?_eq_some_iff.1 h2).1).trans h2, h3⟩
   · intro q o hq ho a w' hb hfr hdep
     obtain ⟨z0, z1, _⟩ := HK.out w' hb
     obtain ⟨x0, x1, x2, x3, _⟩ := b4 z0
     obtain ⟨y0, y1, y2, y3, y4⟩ := b5 z1
     have u0 : a.tmps.getD 0 undef = .pointer (some ⟨g, 0, none⟩) := hfr 0 (by decide)
     have u4 : a.tmps.getD 4 undef = .pointer (some ⟨w.heap.size, 0, none⟩) := hfr 4 (by decide)
     match q, hq with
     | 0, _ =>
       obtain rfl : _ = o := by simpa using ho
       refine FP.fact_value (w' := w') (v := .pointer (some ⟨g, 0, none⟩)) ?_ (Below.refl _ _) ⟨[], rfl, by simp⟩
       simp only [execOp, Act.eval, u0]
       go_simp
     | 1, _ =>
       obtain rfl : _ = o := by simpa using ho
       refine FP.fact_value (w' := w') (v := .pointer (some ⟨g, 0, none⟩)) ?_ (Below.refl _ _) ⟨[], rfl, by simp⟩
       simp only [execOp, Act.eval, u0]
       go_simp
     | 2, _ =>
       obtain rfl : _ = o := by simpa using ho
       obtain ⟨_, h0⟩ : ∃ _ : List Nat, a.tmps.getD 24 undef = .pointer (some ⟨g, 0, none⟩) := hdep 1 (by kernel_rfl)
       refine FP.fact_value (w' := w') (v := .pointer (some ⟨g, 0, none⟩)) ?_ (Below.refl _ _) ⟨[], rfl, by simp⟩
       simp only [execOp, Act.eval, h0]
       go_simp
     | 3, _ =>
       obtain rfl : _ = o := by simpa using ho
       obtain ⟨_, h0⟩ : ∃ _ : List Nat, a.tmps.getD 25 undef = .pointer (some ⟨g, 0, none⟩) := hdep 2 (by kernel_rfl)
       refine FP.fact_value (w' := w') (v := .pointer (some ⟨g, 2, none⟩)) ?_ (Below.refl _ _) ⟨[], rfl, by simp⟩
       simp only [execOp, Act.eval, h0]
       go_simp
     | 4, _ =>
       obtain rfl : _ = o := by simpa using ho
       obtain ⟨_, h0⟩ : ∃ _ : List Nat, a.tmps.getD 26 undef = .pointer (some ⟨g, 2, none⟩) := hdep 3 (by kernel_rfl)
       refine FP.fact_value (w' := w') (v := .slice ao L.length cp) ?_ (Below.refl _ _) ⟨[], rfl, by simp⟩
       simp only [execOp, Act.eval, h0]
       go_simp
     | 5, _ =>
       obtain rfl : _ = o := by simpa using ho
       refine FP.fact_value (w' := w') (v := .agg #[.int .i64 kind, .string text, .int .i64 num, .int .i64 (i : Int), .bool false]) ?_ (Below.refl _ _) ⟨[], rfl, by simp⟩
       simp only [execOp, Act.eval, u4]
       go_simp
     | 6, _ =>
       obtain rfl : _ = o := by simpa using ho
       obtain ⟨_, hv⟩ : ∃ _ : List Nat, a.tmps.getD 28 undef = .agg #[.int .i64 kind, .string text, .int .i64 num, .int .i64 (i : Int), .bool false] := hdep 5 (by kernel_rfl)
       have e9 : (#[((0 : Nat), Operand.tmp 28)].map fun x => (x.1, a.eval x.2)) = #[(0, .agg #[.int .i64 kind, .string text, .int .i64 num, .int .i64 (i : Int), .bool false])] := by simp [Act.eval]; simpa using hv
       refine FP.fact_value (w' := w'.alloc (.cells #[.int .i64 kind, .string text, .int .i64 num, .int .i64 (i : Int), .bool false] 45)) (v := .slice (some ⟨w'.heap.size, 0, none⟩) 1 1) ?_ ((Below.refl _ _).alloc (Nat.le_refl _) _) ⟨[], ⟨w'.heap.size, rfl, heap_alloc_new _ _, hb.size⟩, by simp⟩
       clear hdep hfr ho
       simp only [execOp, e9]
       go_simp
   intro vals S w1 hb hf _
   have v0 : vals 0 = .pointer (some ⟨g, 0, none⟩) := (hf 0 (by omega)).1
   have v4 : vals 4 = .slice ao L.length cp := (hf 4 (by omega)).1
   obtain ⟨g2, v6, hg2, hgl⟩ : ∃ g2, vals 6 = .slice (some ⟨g2, 0, none⟩) 1 1 ∧ w1.heap[g2]? = some (.cells #[.int .i64 kind, .string text, .int .i64 num, .int .i64 (i : Int), .bool false] 45 (0, 0)) ∧ W.heap.size ≤ g2 := (hf 6 (by omega)).1
   simp only [FP.putN, List.getElem?_toArray, List.getElem?_cons_zero, List.getElem?_cons_succ, Option.bind_some, List.drop_succ_cons, List.drop_zero, v0, v4, v6]
   generalize vals 1 = m1
   generalize vals 2 = m2
   generalize vals 3 = m3
   generalize vals 5 = m5
   simp only [Act.put, List.setIfInBounds_toArray, List.set_cons_succ, List.set_cons_zero]
   obtain ⟨Z0, _, Z2⟩ := HK.out w1 hb
   obtain ⟨X0, X1, X2, X3, X4⟩ := b5 hg2
   have HZ0 : Hid (w1.heap[g]? = some (.cells #[.string t, mv, .slice ao L.length cp, .int .i64 (b : Int)] 59 (0, 0))) := Z0
   have HZ2 : Hid (SgRow w1 N L (.slice ao L.length cp)) := Z2
   have HX : Hid (w1.cell? ⟨g2, 0, none⟩ = some (.int .i64 kind) ∧ w1.cell? ⟨g2, 1, none⟩ = some (.string text) ∧ w1.cell? ⟨g2, 2, none⟩ = some (.int .i64 num) ∧ w1.cell? ⟨g2, 3, none⟩ = some (.int .i64 (i : Int)) ∧ w1.cell? ⟨g2, 4, none⟩ = some (.bool false)) := ⟨X0, X1, X2, X3, X4⟩
   have HB1 : Hid (Below w.heap.size w w1) := HBW.out.trans (hb.mono HBW.out.size)
   have hs1 := HB1.out.size
   clear hf v0 v4 v6 hg2 X0 X1 X2 X3 X4 Z0 Z2 hb HK HBW hgl lW
   go_wp2_with (at_builtin; go_loud (refine wpList_append_own_at _ rfl _ _ 37 rfl N 45 i0 (.agg #[.int .i64 0, .string ⟨#[]⟩, .int .i64 0, .int .i64 0, .bool false]) 5 48 Tryz.underlying37 hi hz0 hz1 hz2 rfl (by decide) _ _ _ rfl HZ2.out ⟨g2, 0, none⟩ 1 1 [.int .i64 kind, .string text, .int .i64 num, .int .i64 (i : Int), .bool false] rfl rfl ?c1 ?c2 ?c3 ?c4 ?c5 ?_))
   case c1 =>
     intro q z hq
     match q, hq with
     | 0, hq => simp at hq; subst hq; simpa [Addr.add] using HX.out.1
     | 1, hq => simp at hq; subst hq; simpa [Addr.add] using HX.out.2.1
     | 2, hq => simp at hq; subst hq; simpa [Addr.add] using HX.out.2.2.1
     | 3, hq => simp at hq; subst hq; simpa [Addr.add] using HX.out.2.2.2.1
     | 4, hq => simp at hq; subst hq; simpa [Addr.add] using HX.out.2.2.2.2
   case c2 => intro z hz; simp at hz; rcases hz with rfl | rfl | rfl | rfl | rfl <;> rfl
   case c3 => have := HL.out; unfold maxLen; omega
   case c4 => have := HL.out; omega
   case c5 => omega
   intro v' w2 hown' hgrow _ _
   have hblk : ∀ k, k < N → w2.heap[k]? = w1.heap[k]? := fun k hk => hgrow.block k (by omega) (by
     intro e
     rcases HZ2.out.2 with ⟨e2, _⟩ | ⟨g3, cap, cur, e2, hge, _⟩
     · rw [e2] at e; cases e
     · rw [e2] at e; simp [Value.ownBlock] at e; omega)
   have HFR : Hid (Fr N g w w2) := ⟨hgrow.os.trans HB1.out.os, hgrow.tape.trans HB1.out.tape, hgrow.output.trans HB1.out.output, Nat.le_trans HB1.out.size hgrow.size, fun k hk _ => (hblk k hk).trans (HB1.out.block k (by omega))⟩
   have HO2 : Hid (SgRow w2 N (L ++ [⟨kind, text, num, i, false⟩]) v') := by
     show w2.ownsRow N 45 5 v' (L ++ [_]).length (sgsV (L ++ [_]))
     rw [sgsV_push, List.length_append]
     exact hown'
   have HG2 : Hid (w2.heap[g]? = some (.cells #[.string t, mv, .slice ao L.length cp, .int .i64 (b : Int)] 59 (0, 0))) := (hblk g hgN).trans HZ0.out
   have hs2 := HFR.out.size
   obtain ⟨a2, cp2, hv2, _, _⟩ := HO2.out.shape
   rw [List.length_append, List.length_singleton] at hv2
   subst hv2
   obtain ⟨c0, c1, c2, c3, cf2⟩ := b4 HG2.out
   have f2 := cf2 2
   have f3 := cf2 3
   clear hown' hgrow hblk HZ0 HZ2 HX HB1
   go_wp2
   refine bodyPost_end (results_none rfl _ _ _) rfl ?_
   refine ⟨⟨_, rfl⟩, ⟨.slice a2 (L.length + 1) cp2, ?_, ?_, hgN, ?_⟩, ?_⟩
   · have h1 := set_at (i := 2) HG2.out (.slice a2 (L.length + 1) cp2)
     have h2 := set_at (i := 3) h1 (.int .i64 (e : Int))
     simpa using h2
   · refine HO2.out.turn fun k hk => ?_
     have hkN : N ≤ k := by
       rcases HO2.out.2 with ⟨e2, _⟩ | ⟨g3, cap, cur, e2, hge, _⟩
       · rw [e2] at hk; cases hk
       · rw [e2] at hk; simp [Value.ownBlock] at hk; omega
     rw [set_oth _ (by omega), set_oth _ (by omega)]
   · rw [set_size, set_size]; omega
   · exact HFR.out.trans ⟨rfl, rfl, rfl, by rw [set_size, set_size]; exact Nat.le_refl _, fun k _ hkg => by rw [set_oth _ hkg, set_oth _ hkg]⟩
end Go.Proofs.YtbkjcccbjnehbanGreatDoor

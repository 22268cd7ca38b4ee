import Derived.Test.YtbkjcccbjnehbanGreatDoorMh2
import Derived.Test.YtbkjcccbjnehbanGreatDoorMh6
namespace Go.Proofs.YtbkjcccbjnehbanGreatDoor
open Go.RowKit
theorem FX.grow {X X' : Nat → Prop} {w0 w w' : World} {r : Option Nat} (h : FX X X' w0 w) (hg : w.grownBy w' r) (hr : ∀ k, r = some k → w0.heap.size ≤ k) : FX X X' w0 w' :=
 ⟨hg.os.trans h.os, hg.tape.trans h.tape, hg.output.trans h.output, Nat.le_trans h.size hg.size, fun k hk hx => (hg.block k (Nat.lt_of_lt_of_le hk h.size) (fun e => by have := hr k e.symm; omega)).trans (h.block k hk hx), h.new⟩
theorem ROk.row {e : TypeId} {X : Nat → Prop} {lo : Nat} {w : World} {ks : List Tm} {sl : Value} {F : List Nat} (h : ROk e X lo w ks sl F) :
   ∃ cs F0, w.ownsRow 0 e 4 sl ks.length cs ∧ OwnRow e w ks cs F0 ∧ F0.Nodup ∧ (∀ f ∈ F0, f ∈ F ∧ sl.ownBlock ≠ some f) ∧ (∀ b, sl.ownBlock = some b → b ∈ F) := by
 rcases h.own with ⟨rfl, rfl, rfl⟩ | ⟨g, cap, cs, F', rfl, h5, rfl, h6⟩
 · refine ⟨[], [], ⟨rfl, Or.inl ⟨rfl, rfl⟩⟩, by unfold OwnRow; exact ⟨rfl, rfl⟩, List.nodup_nil, (fun f h => by cases h), (fun b hb => by cases hb)⟩
 · have hn := List.nodup_cons.1 h.nd
   refine ⟨cs, F', h5, h6, hn.2, fun f hf => ⟨List.mem_cons_of_mem _ hf, fun e => ?_⟩, fun b hb => ?_⟩
   · simp [Value.ownBlock] at e; subst e; exact hn.1 hf
   · simp [Value.ownBlock] at hb; subst hb; exact List.mem_cons_self
theorem ROk.push {e : TypeId} {X : Nat → Prop} {lo : Nat} {w w' : World} {ks : List Tm} {sl v' : Value} {F Fx F0 : List Nat} {t : Tm} {c0 c1 c2 c3 : Value} {cs : List Value} (h : ROk e X lo w ks sl F) (ht : TOk e X lo w t (.agg #[c0, c1, c2, c3]) Fx) (hd : ∀ f ∈ F, ∀ g ∈ Fx, f ≠ g)
   (hr : OwnRow e w ks cs F0) (hnd : F0.Nodup) (h0 : ∀ f ∈ F0, f ∈ F ∧ sl.ownBlock ≠ some f) (hs : ∀ b, sl.ownBlock = some b → b ∈ F) (hown : w'.ownsRow 0 e 4 v' (ks.length + 1) (cs ++ [c0, c1, c2, c3])) (hg : w.grownBy w' sl.ownBlock)
   (hat : v'.ownBlock = sl.ownBlock ∨ v'.ownBlock = some w.heap.size) (hl : lo ≤ w.heap.size) (hx : ¬ X w.heap.size) : ∃ F', ROk e X lo w' (ks ++ [t]) v' F' ∧ (∀ f ∈ F', f ∈ F ∨ f ∈ Fx ∨ w.heap.size ≤ f) := by
 rcases hown.2 with ⟨_, hz⟩ | ⟨b, cap, cur, rfl, hb0, hbb, hh⟩
 · omega
 have hk0 : ∀ f ∈ F0, w'.heap[f]? = w.heap[f]? := fun f hf => hg.block f (h.lt f (h0 f hf).1) (fun e => (h0 f hf).2 e.symm)
 have hkx : ∀ f ∈ Fx, w'.heap[f]? = w.heap[f]? := fun f hf => hg.block f (ht.lt f hf) (fun e => hd f (hs f e.symm) f hf rfl)
 have hrow := OwnRow.snoc (Own.keep (w' := w') t _ Fx ht.own hkx) ks cs F0 (OwnRow.keep ks cs F0 hr hk0)
 have hbF : b ∈ F ∨ b = w.heap.size := by
   rcases hat with hat | hat
   · exact Or.inl (hs b (hat.symm.trans rfl))
   · right; simp [Value.ownBlock] at hat; exact hat
 have hb1 : b ∉ F0 := fun hm => by
   rcases hat with hat | hat
   · exact (h0 b hm).2 (hat.symm.trans rfl)
   · simp [Value.ownBlock] at hat; have := h.lt b (h0 b hm).1; omega
 have hb2 : b ∉ Fx := fun hm => by
   rcases hbF with hm' | rfl
   · exact hd b hm' b hm rfl
   · have := ht.lt _ hm; omega
 refine ⟨b :: (F0 ++ Fx), ⟨Or.inr ⟨b, cap, cs ++ [c0, c1, c2, c3], F0 ++ Fx, by simp, by simpa using hown, rfl, hrow⟩, ?_, ?_⟩, ?_⟩
 · refine List.nodup_cons.2 ⟨fun hm => ?_, List.nodup_append.2 ⟨hnd, ht.nd, fun f hf g' hg' => hd f (h0 f hf).1 g' hg'⟩⟩
   rcases List.mem_append.1 hm with hm | hm
   · exact hb1 hm
   · exact hb2 hm
 · intro f hm
   rcases List.mem_cons.1 hm with rfl | hm
   · rcases hbF with hb | rfl
     · exact h.out _ hb
     · exact ⟨hl, hx⟩
   · rcases List.mem_append.1 hm with hm | hm
     · exact h.out f (h0 f hm).1
     · exact ht.out f hm
 · intro f hm
   rcases List.mem_cons.1 hm with rfl | hm
   · rcases hbF with hb | rfl
     · exact Or.inl hb
     · exact Or.inr (Or.inr (Nat.le_refl _))
   · rcases List.mem_append.1 hm with hm | hm
     · exact Or.inl (h0 f hm).1
     · exact Or.inr (Or.inl hm)
theorem ROk.turn {e : TypeId} {X : Nat → Prop} {lo : Nat} {w w' : World} {ks : List Tm} {sl : Value} {F : List Nat} (h : ROk e X lo w ks sl F) (hb : ∀ k, lo ≤ k → ¬ X k → w'.heap[k]? = w.heap[k]?) : ROk e X lo w' ks sl F :=
 ⟨h.own.keep fun f hf => hb f (h.out f hf).1 (h.out f hf).2, h.nd, h.out⟩
theorem TOk.turn {e : TypeId} {X : Nat → Prop} {lo : Nat} {w w' : World} {t : Tm} {v : Value} {F : List Nat} (h : TOk e X lo w t v F) (hb : ∀ k, lo ≤ k → ¬ X k → w'.heap[k]? = w.heap[k]?) : TOk e X lo w' t v F :=
 ⟨Own.keep t v F h.own fun f hf => hb f (h.out f hf).1 (h.out f hf).2, h.nd, h.out⟩
end Go.Proofs.YtbkjcccbjnehbanGreatDoor

namespace Go.Proofs.YtbkjcccbjnehbanGreatDoor
open Go.RowKit
theorem infoT : (Tryz.prog.info? 24).map (fun i => (i.zero, i.size, i.bytes)) = some (some (.agg #[.int .i64 0, .string ⟨#[]⟩, .int .i64 0, .slice none 0 0]), 4, 56) := by kernel_rfl
theorem set4_at {w : World} {g : Nat} {c0 c1 c2 c3 v : Value} {T : TypeId} (h : w.heap[g]? = some (.cells #[c0, c1, c2, c3] T (0, 0))) : (w.setCell ⟨g, 3, none⟩ v).heap[g]? = some (.cells #[c0, c1, c2, v] T (0, 0)) := by
 have := set_at5 (i := 3) h v
 simpa using this
theorem app_step {g : Nat} {L : List Sg} {lv nv nv2 sl v' k0 s0 n0 sl0 c0 c1 c2 c3 : Value} {o : Option (Nat × St)} {W w5 w6 : World} {ks : List Tm} {F Fx F0 : List Nat} {t : Tm} {cs : List Value} {b1 : Nat}
   (H5 : ROk 24 (XS g nv2) (W.heap.size + 1) w5 ks sl F) (T5 : TOk 24 (XS g nv2) (W.heap.size + 1) w5 t (.agg #[c0, c1, c2, c3]) Fx) (hd : ∀ f ∈ F, ∀ g ∈ Fx, f ≠ g)
   (hr : OwnRow 24 w5 ks cs F0) (hnd : F0.Nodup) (h0 : ∀ f ∈ F0, f ∈ F ∧ sl.ownBlock ≠ some f) (hs : ∀ b, sl.ownBlock = some b → b ∈ F) (hown : w6.ownsRow 0 24 4 v' (ks.length + 1) (cs ++ [c0, c1, c2, c3])) (hg : w5.grownBy w6 sl.ownBlock)
   (hat : v'.ownBlock = sl.ownBlock ∨ v'.ownBlock = some w5.heap.size) (S5 : SRd g L lv nv2 w5 o) (X5 : FX (XS g nv) (XS g nv2) W w5) (hb1 : b1 = W.heap.size) (hx1 : ¬ XS g nv2 b1) (hk : w5.heap[b1]? = some (.cells #[k0, s0, n0, sl0] 24 (0, 0))) (hgW : g < W.heap.size) :
   w6.heap[b1]? = some (.cells #[k0, s0, n0, sl0] 24 (0, 0)) ∧ ∃ F', (w6.setCell ⟨b1, 3, none⟩ v').heap[b1]? = some (.cells #[k0, s0, n0, v'] 24 (0, 0)) ∧ ROk 24 (XS g nv2) (W.heap.size + 1) (w6.setCell ⟨b1, 3, none⟩ v') (ks ++ [t]) v' F' ∧ SRd g L lv nv2 (w6.setCell ⟨b1, 3, none⟩ v') o ∧ FX (XS g nv) (XS g nv2) W (w6.setCell ⟨b1, 3, none⟩ v') := by
 have hlt : b1 < w5.heap.size := (Array.getElem?_eq_some_iff.1 hk).1
 have hsl : ∀ k, sl.ownBlock = some k → W.heap.size + 1 ≤ k ∧ ¬ XS g nv2 k := fun k e => H5.out k (hs k e)
 have h6 : w6.heap[b1]? = some (.cells #[k0, s0, n0, sl0] 24 (0, 0)) := (hg.block b1 hlt (fun e => by have := (hsl b1 e.symm).1; omega)).trans hk
 obtain ⟨F', hF', _⟩ := ROk.push H5 T5 hd hr hnd h0 hs hown hg hat (by omega) (S5.xnew _ (Nat.le_refl _))
 refine ⟨h6, F', set4_at h6, hF'.turn fun k hk hx => set_oth5 _ (by omega), ?_, ?_⟩
 · have S6 : SRd g L lv nv2 w6 o := S5.turn fun k hk => hg.block k (by
     rcases hk with hk | hk
     · have := S5.lt; omega
     · rcases Nat.lt_or_ge k w5.heap.size with h | h
       · exact h
       · exact absurd hk (S5.xnew k h)) (fun e => by
     have := hsl k e.symm
     rcases hk with hk | hk
     · omega
     · exact this.2 hk)
   refine S6.turn fun k hkk => set_oth5 _ ?_
   intro e
   rw [e] at hkk
   rcases hkk with hkk | hkk
   · omega
   · exact hx1 hkk
 · exact (X5.grow hg fun k e => by have := (hsl k e).1; omega).set (Or.inr (by omega)) _
def msr (g n : Nat) (w : World) : Nat := match w.cell? ⟨g, 2, none⟩ with | some (.bool false) => n + 1 - (intOf ((w.cell? ⟨g, 1, none⟩).getD undef)).toNat | _ => 0
theorem msr_none {g : Nat} {L : List Sg} {lv nv : Value} {w : World} (n : Nat) (h : SRd g L lv nv w none) : msr g n w = 0 := by
 obtain ⟨a, dv, hg⟩ := h.bad
 obtain ⟨_, _, c2, _⟩ := b5f hg
 simp only [msr, c2]
theorem msr_some {g : Nat} {L : List Sg} {lv nv : Value} {w : World} {d : Nat} {st : St} (h : SRd g L lv nv w (some (d, st))) : msr g L.length w = st.rest.length + 1 := by
 obtain ⟨a, bad, dv, nms, h1, h2, h3, h4⟩ := h.ex
 obtain ⟨rfl, rfl, rfl, p, rfl, hp, hd, hn⟩ := h4
 obtain ⟨_, c1, c2, _⟩ := b5f h1
 simp only [msr, c2, c1, Option.getD_some, intOf]
 rw [← hd, List.length_drop]
 have : ((p : Int)).toNat = p := by simp
 rw [this]; omega
def SomeI (f e0 : Nat) (o : Option (Nat × St)) (ks : List Tm) (T : Option (List Tm × St)) : Prop := (o = none ∧ T = none) ∨ ∃ st, o = some (e0, st) ∧ someO true (termO true f) ks st = T ∧ ks.length ≤ 5
theorem someO_step {f : Nat} {ks : List Tm} {st : St} : someO true (termO true f) ks st = match termO true f 999 st with
   | none => none
   | some (x, s1) => if 5 ≤ ks.length then none else match mk? cRpar s1.rest with
     | some r => some (ks ++ [x], ⟨r, s1.names⟩)
     | none => match mk? cComma s1.rest with
       | some r => someO true (termO true f) (ks ++ [x]) ⟨r, s1.names⟩
       | none => none := by
 rw [someO]
 cases h : termO true f 999 st with
 | none => rfl
 | some y =>
   obtain ⟨x, s1⟩ := y
   have hs := termO_short true f _ _ _ _ h
   simp only
   rw [dif_pos hs]
   simp only [true_and]
   split
   · rfl
   · cases mk? cRpar s1.rest with
     | some r => rfl
     | none => simp only; split <;> simp_all
theorem ROk.slice {e : TypeId} {X : Nat → Prop} {lo : Nat} {w : World} {ks : List Tm} {sl : Value} {F : List Nat} (h : ROk e X lo w ks sl F) : ∃ ao cap, sl = .slice ao ks.length cap := by
 rcases h.own with ⟨rfl, rfl, rfl⟩ | ⟨g, cap, cs, F', rfl, _⟩
 · exact ⟨none, 0, rfl⟩
 · exact ⟨_, cap, rfl⟩
theorem XS_keep {g b : Nat} {nv nv' : Value} {w w' : World} (h : ¬ XS g nv b) (hx : FX (XS g nv) (XS g nv') w w') (hb : b < w.heap.size) : ¬ XS g nv' b := fun hh => (hx.new b hh).elim h (fun h => by omega)
end Go.Proofs.YtbkjcccbjnehbanGreatDoor

namespace Go.Proofs.YtbkjcccbjnehbanGreatDoor
open Go.RowKit
set_option maxHeartbeats 8000000 in
set_option maxRecDepth 20000 in
theorem s_some (f g : Nat) (L : List Sg) (lv nv : Value) (e0 : Nat) (st0 : St) (name : ByteArray) (w : World) (hf : e0 + f = 130) (hL : L.length ≤ 3000) (HT : TermC f g L lv) (hname : name.size ≤ maxLen) (h : SRd g L lv nv w (some (e0, st0))) :
   Calls Tryz.prog 77 #[.pointer (some ⟨g, 0, none⟩), .string name] w fun e w' => ∃ v, e = .returned v ∧ TmR g L lv nv w v w' ((someO true (termO true f) [] st0).map fun y => (structTm name y.1, y.2)) e0 := by
 obtain ⟨i0, hi, hz0, hz1, hz2⟩ := info_partsS infoT
 obtain ⟨T, hT⟩ : ∃ T, T = someO true (termO true f) [] st0 := ⟨_, rfl⟩
 rw [← hT]
 obtain ⟨W, hW⟩ : ∃ W, W = w.alloc (.cells #[.int .i64 0, .string ⟨#[]⟩, .int .i64 0, .slice none 0 0] 24) := ⟨_, rfl⟩
 have bW : Below w.heap.size w W := by rw [hW]; exact (Below.refl _ _).alloc (Nat.le_refl _) _
 have sW : W.heap.size = w.heap.size + 1 := by rw [hW]; simp
 have kW : W.heap[w.heap.size]? = some (.cells #[.int .i64 0, .string ⟨#[]⟩, .int .i64 0, .slice none 0 0] 24 (0, 0)) := by rw [hW]; exact heap_alloc_new _ _
 have SW := h.keep bW
 obtain ⟨W2, hW2⟩ : ∃ W2, W2 = W.alloc (.cells #[.int .i64 4, .string name, .int .i64 0, .slice none 0 0] 24) := ⟨_, rfl⟩
 have bW2 : Below W.heap.size W W2 := by rw [hW2]; exact (Below.refl _ _).alloc (Nat.le_refl _) _
 have kW2 : W2.heap[W.heap.size]? = some (.cells #[.int .i64 4, .string name, .int .i64 0, .slice none 0 0] 24 (0, 0)) := by rw [hW2]; exact heap_alloc_new _ _
 have HS0 : Hid (SRd g L lv nv w (some (e0, st0))) := h
 have HS2 : Hid (SRd g L lv nv W2 (some (e0, st0))) := SW.keep bW2
 have HX1 : Hid (¬ XS g nv W.heap.size) := SW.xnew _ (Nat.le_refl _)
 have HKW : Hid (W.heap[w.heap.size]? = some (.cells #[.int .i64 0, .string ⟨#[]⟩, .int .i64 0, .slice none 0 0] 24 (0, 0))) := kW
 have HKW2 : Hid (W2.heap[W.heap.size]? = some (.cells #[.int .i64 4, .string name, .int .i64 0, .slice none 0 0] 24 (0, 0))) := kW2
 have HBW : Hid (Below w.heap.size w W) := bW
 have HBW2 : Hid (Below W.heap.size W W2) := bW2
 have HSW : Hid (W.heap.size = w.heap.size + 1) := sW
 have HGW : Hid (g < w.heap.size) := h.lt
 have HTT : Hid (∀ nv' W' st, SRd g L lv nv' W' (some (e0, st)) → Calls Tryz.prog 27 #[.pointer (some ⟨g, 0, none⟩), .int .i64 999] W' fun e w' => ∃ v, e = .returned v ∧ TmR g L lv nv' W' v w' (termO true f 999 st) e0) := fun nv' W' st hs => HT e0 999 st nv' W' hf hs
 have HI0 : Hid (SomeI f e0 (some (e0, st0)) [] T) := Or.inr ⟨st0, rfl, hT.symm, Nat.zero_le _⟩
 have HL : Hid (L.length ≤ 3000) := hL
 have HNM : Hid (name.size ≤ maxLen) := hname
 clear h bW sW kW SW bW2 kW2 hL HT hT hname
 obtain ⟨B1, hB1⟩ : ∃ B1, B1 = W.heap.size := ⟨_, rfl⟩
 have HB1 : Hid (B1 = W.heap.size) := hB1
 rw [← hB1] at HX1 HKW2
 go_enter Tryz.func77, Tryz.ntmps77
 go_wp2
 rw [← hW, ← hW2]
 have eb : w.heap.size + 1 = B1 := by rw [hB1]; exact HSW.out.symm
 rw [eb]
 clear hW hW2 hB1 eb
 go_loopw [] (fun wr => ∃ (nv' : Value) (ks : List Tm) (sl : Value) (F : List Nat) (o : Option (Nat × St)), Hid (wr.heap[B1]? = some (.cells #[.int .i64 4, .string name, .int .i64 0, sl] 24 (0, 0))) ∧ Hid (ROk 24 (XS g nv') (W.heap.size + 1) wr ks sl F) ∧ Hid (SRd g L lv nv' wr o) ∧ Hid (FX (XS g nv) (XS g nv') W wr) ∧ Hid (¬ XS g nv' B1) ∧ Hid (SomeI f e0 o ks T)) (fun wr => msr g L.length wr)
 case atStart => exact ⟨nv, [], _, [], _, HKW2.out, ROk.nil, HS2.out, FX.of_below HBW2.out, HX1.out, HI0.out⟩
 case round =>
   obtain ⟨nv', ks, sl, F, o, HK, HR, HS, HX, HN, HI⟩ := hrel
   rcases HI.out with ⟨rfl, hTn⟩ | ⟨st, rfl, hTs, hk5⟩
   · obtain ⟨ao, cap, hsl⟩ := HR.out.slice
     obtain ⟨KN, hKN⟩ : ∃ KN, KN = ks.length := ⟨_, rfl⟩
     rw [← hKN] at hsl
     subst hsl
     clear hKN
     obtain ⟨ba, bdv, hbg⟩ := HS.out.bad
     obtain ⟨c0, c1, c2, c3, c4, cf⟩ := b5f hbg
     have HKZ : Hid _ := HK.out
     have HRZ : Hid _ := HR.out
     have HXZ : Hid _ := HX.out
     have HTZ : Hid (∀ y, T = some y → ks = y.1) := by intro y hy; rw [hTn] at hy; cases hy
     have HSZ : Hid (SRd g L lv nv' wr (T.map fun y => (e0, y.2))) := by rw [hTn]; exact HS.out
     clear hbg cf hTn
     have hk := res_keep HS0.out HSW.out HXZ.out HKW.out
     obtain ⟨z0, z1, z2, z3, q0, q1, q2, q3⟩ := blk4 hk
     obtain ⟨g0, g1, g2, g3, _⟩ := blk4 HKZ.out
     have HK9 : Hid _ := hk
     clear hk
     go_wp2
     refine bodyPost_ret_by (results_cell_row rfl _ _ w.heap.size 24 _ (0, 0) _ rfl (blk4_set HK9.out) Tryz.underlying24 rfl (by kernel_rfl)) rfl ?_
     refine ⟨_, rfl, TmR.fin HS0.out HBW.out HSW.out HXZ.out ((HRZ.out.tm HNM.out).lo_le (Nat.le_succ _)) ?_ ?_⟩
     · intro y hy
       obtain ⟨z, hz, rfl⟩ := Option.map_eq_some_iff.1 hy
       simp only
       rw [HTZ.out z hz]
     · rw [Option.map_map]; exact HSZ.out
   · obtain ⟨ao, cap, hsl⟩ := HR.out.slice
     obtain ⟨KN, hKN⟩ : ∃ KN, KN = ks.length := ⟨_, rfl⟩
     rw [← hKN] at hsl hk5
     subst hsl
     have HKN : Hid (KN = ks.length) := hKN
     have HBL : Hid (B1 < wr.heap.size) := (Array.getElem?_eq_some_iff.1 HK.out).1
     obtain ⟨R1, hR1⟩ : ∃ R1, R1 = termO true f 999 st := ⟨_, rfl⟩
     have HT1 := HTT.out nv' wr st HS.out
     rw [← hR1] at HT1
     have HT1 : Hid _ := HT1
     rw [someO_step, ← hR1, ← hKN] at hTs
     obtain ⟨ga, gbad, gdv, gnm, hg0, _, _, hgb, _⟩ := HS.out.ex
     subst hgb
     obtain ⟨c0, c1, c2, c3, c4, cf⟩ := b5f hg0
     have HMS : Hid (msr g L.length wr = st.rest.length + 1) := msr_some HS.out
     have HSH : Hid (∀ y, R1 = some y → y.2.rest.length < st.rest.length) := by intro y hy; rw [hR1] at hy; exact termO_short true f _ _ y.1 y.2 hy
     clear hR1 hg0 cf c0 c1 c3 c4 hKN
     by_cases h5 : 5 ≤ KN
     · have hTn : T = none := by rw [← hTs]; cases R1 with | none => rfl | some y => simp only [if_pos h5]
       have d5 : decide ((5 : Int) ≤ (KN : Int)) = true := decide_eq_true (by omega)
       have HTN : Hid (T = none) := hTn
       clear hTs hTn
       go_upto_region 9 with (go_at_call 27; go_loud (refine Calls.mono HT1.out ?_); rintro e w3 ⟨v, rfl, t, F2, nv2, ht, hR, hs, hx⟩; have HT3 : Hid (TOk 24 (XS g nv2) wr.heap.size w3 t v F2) := ht; have HR3 : Hid (∀ y, R1 = some y → t = y.1) := hR; have HS3 : Hid (SRd g L lv nv2 w3 (R1.map fun y => (e0, y.2))) := hs; have HX3 : Hid (FX (XS g nv') (XS g nv2) wr w3) := hx; obtain ⟨k1, s1, n1, ao1, ln1, cp1, rfl⟩ := ht.form; have hk3 := (hx.block B1 HBL.out HN.out).trans HK.out; have hlt3 : B1 < w3.heap.size := (Array.getElem?_eq_some_iff.1 hk3).1; obtain ⟨a0, a1, a2, a3, fa0, fa1, fa2, fa3⟩ := blk4 hk3; have HK3 : Hid (w3.heap[B1]? = some (.cells #[.int .i64 4, .string name, .int .i64 0, .slice ao KN cap] 24 (0, 0))) := hk3; obtain ⟨ga, gbad, gdv, gnm, hg3, _⟩ := hs.ex; obtain ⟨c0, c1, c2, c3, c4, cf⟩ := b5f hg3; have f2 := cf 2; have hgl3 : g < w3.heap.size := hs.lt; clear ht hR hs hx hk3 hg3 cf)
       obtain ⟨V, hV⟩ : ∃ V, V = (w3.setCell ⟨g, 2, none⟩ (.bool true)).alloc (.cells #[.int .i64 k1, .string s1, .int .i64 n1, .slice ao1 ln1 cp1] 24) := ⟨_, rfl⟩
       rw [← hV]
       have hBg : B1 ≠ g := by have := HB1.out; have := HGW.out; have := HSW.out; omega
       have bA : Below w3.heap.size (w3.setCell ⟨g, 2, none⟩ (.bool true)) V := by rw [hV]; have := (Below.refl (w3.setCell ⟨g, 2, none⟩ (.bool true)).heap.size (w3.setCell ⟨g, 2, none⟩ (.bool true))).alloc (Nat.le_refl _) (.cells #[.int .i64 k1, .string s1, .int .i64 n1, .slice ao1 ln1 cp1] 24); simpa [World.setCell] using this
       have x3 : FX (XS g nv2) (XS g nv2) w3 V := (FX.set_g _).trans ⟨bA.os, bA.tape, bA.output, bA.size, fun k hk _ => bA.block k (by simpa [World.setCell] using hk), fun _ h => Or.inl h⟩
       have HKZ : Hid (V.heap[B1]? = some (.cells #[.int .i64 4, .string name, .int .i64 0, .slice ao KN cap] 24 (0, 0))) := (bA.block B1 hlt3).trans ((set_oth5 _ hBg).trans HK3.out)
       have HRZ : Hid (ROk 24 (XS g nv2) (W.heap.size + 1) V ks (.slice ao KN cap) F) := (HR.out.step HX3.out).step x3
       have HXZ : Hid (FX (XS g nv) (XS g nv2) W V) := (HX.out.trans HX3.out).trans x3
       have HTZ : Hid (∀ y, T = some y → ks = y.1) := by intro y hy; rw [HTN.out] at hy; cases hy
       have HSZ : Hid (SRd g L lv nv2 V (T.map fun y => (e0, y.2))) := by
         rw [HTN.out]
         exact SRd.keep HS3.out.fall (bA.mono (by simp [World.setCell]))
       clear hV bA x3 a0 a1 a2 a3 fa0 fa1 fa2 fa3 c0 c1 c2 c3 c4 f2 hlt3 hgl3
       have hk := res_keep HS0.out HSW.out HXZ.out HKW.out
       obtain ⟨z0, z1, z2, z3, q0, q1, q2, q3⟩ := blk4 hk
       obtain ⟨g0, g1, g2, g3, _⟩ := blk4 HKZ.out
       have HK9 : Hid _ := hk
       clear hk
       go_wp2
       refine bodyPost_ret_by (results_cell_row rfl _ _ w.heap.size 24 _ (0, 0) _ rfl (blk4_set HK9.out) Tryz.underlying24 rfl (by kernel_rfl)) rfl ?_
       refine ⟨_, rfl, TmR.fin HS0.out HBW.out HSW.out HXZ.out ((HRZ.out.tm HNM.out).lo_le (Nat.le_succ _)) ?_ ?_⟩
       · intro y hy
         obtain ⟨z, hz, rfl⟩ := Option.map_eq_some_iff.1 hy
         simp only
         rw [HTZ.out z hz]
       · rw [Option.map_map]; exact HSZ.out
     · have d5 : decide ((5 : Int) ≤ (KN : Int)) = false := decide_eq_false (by omega)
       by_cases hC : ∃ y r, R1 = some y ∧ mk? cRpar y.2.rest = some r
       · obtain ⟨y, r, hy, hr⟩ := hC
         have HTN : Hid (T = some (ks ++ [y.1], ⟨r, y.2.names⟩)) := by
           show _ = _
           rw [← hTs, hy]; simp only [if_neg h5]; rw [hr]
         have HY0 : Hid (R1 = some y) := hy
         have HMY : Hid (mk? ⟨#[41]⟩ y.2.rest = some r) := hr
         clear hTs hy hr h5
         go_upto_region 6 with (go_at_call 27; go_loud (refine Calls.mono HT1.out ?_); rintro e w3 ⟨v, rfl, t, F2, nv2, ht, hR, hs, hx⟩; have HT3 : Hid (TOk 24 (XS g nv2) wr.heap.size w3 t v F2) := ht; have HR3 : Hid (∀ y, R1 = some y → t = y.1) := hR; have HS3 : Hid (SRd g L lv nv2 w3 (R1.map fun y => (e0, y.2))) := hs; have HX3 : Hid (FX (XS g nv') (XS g nv2) wr w3) := hx; obtain ⟨k1, s1, n1, ao1, ln1, cp1, rfl⟩ := ht.form; have hk3 := (hx.block B1 HBL.out HN.out).trans HK.out; have hlt3 : B1 < w3.heap.size := (Array.getElem?_eq_some_iff.1 hk3).1; obtain ⟨a0, a1, a2, a3, fa0, fa1, fa2, fa3⟩ := blk4 hk3; have HK3 : Hid (w3.heap[B1]? = some (.cells #[.int .i64 4, .string name, .int .i64 0, .slice ao KN cap] 24 (0, 0))) := hk3; obtain ⟨ga, gbad, gdv, gnm, hg3, _⟩ := hs.ex; obtain ⟨c0, c1, c2, c3, c4, cf⟩ := b5f hg3; have f2 := cf 2; have hgl3 : g < w3.heap.size := hs.lt; clear ht hR hs hx hk3 hg3 cf)
         have HY : Hid (∃ cs F0, (((w3.alloc (.cells #[.int .i64 k1, .string s1, .int .i64 n1, .slice ao1 ln1 cp1] 24)).alloc (.cells #[.int .i64 k1, .string s1, .int .i64 n1, .slice ao1 ln1 cp1] 24)).ownsRow 0 24 4 (.slice ao KN cap) KN cs) ∧ OwnRow 24 ((w3.alloc (.cells #[.int .i64 k1, .string s1, .int .i64 n1, .slice ao1 ln1 cp1] 24)).alloc (.cells #[.int .i64 k1, .string s1, .int .i64 n1, .slice ao1 ln1 cp1] 24)) ks cs F0 ∧ F0.Nodup ∧ (∀ f ∈ F0, f ∈ F ∧ (Value.slice ao KN cap).ownBlock ≠ some f) ∧ (∀ b, (Value.slice ao KN cap).ownBlock = some b → b ∈ F)) := by
           have := (((HR.out.step HX3.out).step (FX.of_below ((Below.refl _ _).alloc (Nat.le_refl _) (.cells #[.int .i64 k1, .string s1, .int .i64 n1, .slice ao1 ln1 cp1] 24)))).step (FX.of_below ((Below.refl _ _).alloc (Nat.le_refl _) (.cells #[.int .i64 k1, .string s1, .int .i64 n1, .slice ao1 ln1 cp1] 24)))).row
           rw [← HKN.out] at this
           exact this
         obtain ⟨cs, F0, y1, y2, y3, y4, y5⟩ := HY.out
         have HY1 : Hid _ := y1
         have HY2 : Hid _ := y2
         have HY3 : Hid _ := y3
         have HY4 : Hid _ := y4
         have HY5 : Hid _ := y5
         clear HY y1 y2 y3 y4 y5
         go_wp2_with (at_builtin; go_loud (refine wpList_append_own_at _ rfl _ _ 22 rfl 0 24 i0 (.agg #[.int .i64 0, .string ⟨#[]⟩, .int .i64 0, .slice none 0 0]) 4 56 Tryz.underlying22 hi hz0 hz1 hz2 rfl (by decide) _ _ _ rfl HY1.out ⟨w3.heap.size + 1, 0, none⟩ 1 1 [.int .i64 k1, .string s1, .int .i64 n1, .slice ao1 ln1 cp1] rfl rfl ?c1 ?c2 ?c3 ?c4 ?c5 ?_))
         case c1 =>
           intro q z hq
           match q, hq with
           | 0, hq => simp at hq; subst hq; simp [Addr.add]
           | 1, hq => simp at hq; subst hq; simp [Addr.add]
           | 2, hq => simp at hq; subst hq; simp [Addr.add]
           | 3, hq => simp at hq; subst hq; simp [Addr.add]
         case c2 => intro z hz; simp at hz; rcases hz with rfl | rfl | rfl | rfl <;> rfl
         case c3 => unfold maxLen; omega
         case c4 => omega
         case c5 => omega
         intro v' w6 hown' hgrow _ hat
         obtain ⟨w5, hw5⟩ : ∃ w5, w5 = (w3.alloc (.cells #[.int .i64 k1, .string s1, .int .i64 n1, .slice ao1 ln1 cp1] 24)).alloc (.cells #[.int .i64 k1, .string s1, .int .i64 n1, .slice ao1 ln1 cp1] 24) := ⟨_, rfl⟩
         have b35 : Below w3.heap.size w3 w5 := by rw [hw5]; exact ((Below.refl _ _).alloc (Nat.le_refl _) _).alloc (by simp) _
         have hat5 : v'.ownBlock = (Value.slice ao KN cap).ownBlock ∨ v'.ownBlock = some w5.heap.size := by rw [hw5]; simpa using hat
         rw [← hw5] at hgrow HY1 HY2
         clear hat hw5
         have hB1 := HB1.out
         have hKN := HKN.out
         have hbl := HBL.out
         have AS := app_step ((HR.out.step HX3.out).step (FX.of_below b35)) ((HT3.out.lo_le (by omega)).step (FX.of_below b35)) (fun f hf g' hg' => by have := HR.out.lt f hf; have := (HT3.out.out g' hg').1; omega) HY2.out HY3.out HY4.out HY5.out (by rw [← hKN]; exact hown') hgrow hat5 (HS3.out.keep b35) ((HX.out.trans HX3.out).trans (FX.of_below b35)) hB1 (XS_keep HN.out HX3.out hbl) ((b35.block B1 hlt3).trans HK3.out) (by have := HGW.out; have := HSW.out; omega)
         obtain ⟨hk6, F7, hk7, hr7, hs7, hx7⟩ := AS
         obtain ⟨a2', cp2, hv2⟩ : ∃ ao cap, v' = .slice ao (KN + 1) cap := by obtain ⟨ao', cap', e⟩ := hr7.slice; exact ⟨ao', cap', by rw [e, hKN]; simp⟩
         subst hv2
         have HK7 : Hid _ := hk7
         have HR7 : Hid _ := hr7
         have HS7 : Hid _ := hs7
         have HX7 : Hid _ := hx7
         have HN7 : Hid (¬ XS g nv2 B1) := XS_keep HN.out HX3.out hbl
         obtain ⟨a0, a1, a2, a3, fa0, fa1, fa2, fa3⟩ := blk4 hk6
         clear hk6 hk7 hr7 hs7 hx7 hown' hgrow hat5 b35 HY1 HY2 HY3 HY4 HY5 hB1 hKN hbl c0 c1 c2 c3 c4 f2
         go_upto_region 7 with fail
         obtain ⟨V7, hV7⟩ : ∃ V7, V7 = w6.setCell ⟨B1, 3, none⟩ (.slice a2' (KN + 1) cp2) := ⟨_, rfl⟩
         rw [← hV7]
         rw [← hV7] at HK7 HR7 HS7 HX7
         clear hV7 a0 a1 a2 a3 fa0 fa1 fa2 fa3 hlt3 hgl3
         have S7 : SRd g L lv nv2 V7 (some (e0, y.2)) := by have := HS7.out; rw [HY0.out] at this; exact this
         have HMM : Hid _ := s_mark_yes g L lv nv2 e0 y.2 ⟨#[41]⟩ r V7 HL.out cRpar_ne S7 HMY.out
         clear S7
         go_upto_region 9 with (go_at_call 61; go_loud (refine Calls.mono HMM.out ?_); rintro e w8 ⟨rfl, hs8, hx8⟩; have HS8 : Hid (SRd g L lv nv2 w8 (some (e0, ⟨r, y.2.names⟩))) := hs8; have HX8 : Hid (FX (XS g nv2) (XS g nv2) V7 w8) := hx8; clear hs8 hx8)
         have HKZ : Hid (w8.heap[B1]? = some (.cells #[.int .i64 4, .string name, .int .i64 0, .slice a2' (KN + 1) cp2] 24 (0, 0))) := (HX8.out.block B1 (Array.getElem?_eq_some_iff.1 HK7.out).1 HN7.out).trans HK7.out
         have HRZ : Hid (ROk 24 (XS g nv2) (W.heap.size + 1) w8 (ks ++ [t]) (.slice a2' (KN + 1) cp2) F7) := HR7.out.step HX8.out
         have HXZ : Hid (FX (XS g nv) (XS g nv2) W w8) := HX7.out.trans HX8.out
         have HTZ : Hid (∀ y, T = some y → ks ++ [t] = y.1) := by intro z hz; rw [HTN.out] at hz; cases hz; rw [HR3.out y HY0.out]
         have HSZ : Hid (SRd g L lv nv2 w8 (T.map fun y => (e0, y.2))) := by rw [HTN.out]; exact HS8.out
         clear HMM HMY
         have hk := res_keep HS0.out HSW.out HXZ.out HKW.out
         obtain ⟨z0, z1, z2, z3, q0, q1, q2, q3⟩ := blk4 hk
         obtain ⟨g0, g1, g2, g3, _⟩ := blk4 HKZ.out
         have HK9 : Hid _ := hk
         clear hk
         go_wp2
         refine bodyPost_ret_by (results_cell_row rfl _ _ w.heap.size 24 _ (0, 0) _ rfl (blk4_set HK9.out) Tryz.underlying24 rfl (by kernel_rfl)) rfl ?_
         refine ⟨_, rfl, TmR.fin HS0.out HBW.out HSW.out HXZ.out ((HRZ.out.tm HNM.out).lo_le (Nat.le_succ _)) ?_ ?_⟩
         · intro y hy
           obtain ⟨z, hz, rfl⟩ := Option.map_eq_some_iff.1 hy
           simp only
           rw [HTZ.out z hz]
         · rw [Option.map_map]; exact HSZ.out
       · have HMN : Hid (∀ d st', (R1.map fun y => (e0, y.2)) = some (d, st') → mk? ⟨#[41]⟩ st'.rest = none) := by
           intro d st' e
           obtain ⟨y, hy, e2⟩ := Option.map_eq_some_iff.1 e
           cases e2
           cases hr : mk? ⟨#[41]⟩ y.2.rest with
           | none => rfl
           | some r => exact absurd ⟨y, r, hy, hr⟩ hC
         have HD : Hid (∃ o9, markO (R1.map fun y => (e0, y.2)) ⟨#[44]⟩ = o9 ∧ (∀ t, (∀ y, R1 = some y → t = y.1) → SomeI f e0 o9 (ks ++ [t]) T) ∧ (∀ nv w', SRd g L lv nv w' o9 → msr g L.length w' < st.rest.length + 1)) := by
           cases hR : R1 with
           | none =>
             rw [hR] at hTs
             exact ⟨none, rfl, fun t _ => Or.inl ⟨rfl, hTs.symm⟩, fun nv w' h => by rw [msr_none _ h]; omega⟩
           | some y =>
             have hsh := HSH.out y hR
             have hr : mk? cRpar y.2.rest = none := HMN.out e0 y.2 (by rw [hR]; rfl)
             rw [hR] at hTs
             simp only [if_neg h5] at hTs
             rw [hr] at hTs
             simp only at hTs
             cases hc : mk? cComma y.2.rest with
             | none =>
               rw [hc] at hTs
               refine ⟨none, ?_, fun t _ => Or.inl ⟨rfl, hTs.symm⟩, fun nv w' h => by rw [msr_none _ h]; omega⟩
               have : mk? ⟨#[44]⟩ y.2.rest = none := hc
               simp only [markO, Option.map_some, this, Option.map_none]
             | some r2 =>
               rw [hc] at hTs
               simp only at hTs
               have hl := mk?_len hc
               refine ⟨some (e0, ⟨r2, y.2.names⟩), ?_, fun t ht => Or.inr ⟨_, rfl, by rw [ht y rfl]; exact hTs, by have := HKN.out; simp; omega⟩, fun nv w' h => by rw [msr_some h]; simp only; omega⟩
               have : mk? ⟨#[44]⟩ y.2.rest = some r2 := hc
               simp only [markO, Option.map_some, this]
         clear hTs h5 hC
         go_upto_region 6 with (go_at_call 27; go_loud (refine Calls.mono HT1.out ?_); rintro e w3 ⟨v, rfl, t, F2, nv2, ht, hR, hs, hx⟩; have HT3 : Hid (TOk 24 (XS g nv2) wr.heap.size w3 t v F2) := ht; have HR3 : Hid (∀ y, R1 = some y → t = y.1) := hR; have HS3 : Hid (SRd g L lv nv2 w3 (R1.map fun y => (e0, y.2))) := hs; have HX3 : Hid (FX (XS g nv') (XS g nv2) wr w3) := hx; obtain ⟨k1, s1, n1, ao1, ln1, cp1, rfl⟩ := ht.form; have hk3 := (hx.block B1 HBL.out HN.out).trans HK.out; have hlt3 : B1 < w3.heap.size := (Array.getElem?_eq_some_iff.1 hk3).1; obtain ⟨a0, a1, a2, a3, fa0, fa1, fa2, fa3⟩ := blk4 hk3; have HK3 : Hid (w3.heap[B1]? = some (.cells #[.int .i64 4, .string name, .int .i64 0, .slice ao KN cap] 24 (0, 0))) := hk3; obtain ⟨ga, gbad, gdv, gnm, hg3, _⟩ := hs.ex; obtain ⟨c0, c1, c2, c3, c4, cf⟩ := b5f hg3; have f2 := cf 2; have hgl3 : g < w3.heap.size := hs.lt; clear ht hR hs hx hk3 hg3 cf)
         have HY : Hid (∃ cs F0, (((w3.alloc (.cells #[.int .i64 k1, .string s1, .int .i64 n1, .slice ao1 ln1 cp1] 24)).alloc (.cells #[.int .i64 k1, .string s1, .int .i64 n1, .slice ao1 ln1 cp1] 24)).ownsRow 0 24 4 (.slice ao KN cap) KN cs) ∧ OwnRow 24 ((w3.alloc (.cells #[.int .i64 k1, .string s1, .int .i64 n1, .slice ao1 ln1 cp1] 24)).alloc (.cells #[.int .i64 k1, .string s1, .int .i64 n1, .slice ao1 ln1 cp1] 24)) ks cs F0 ∧ F0.Nodup ∧ (∀ f ∈ F0, f ∈ F ∧ (Value.slice ao KN cap).ownBlock ≠ some f) ∧ (∀ b, (Value.slice ao KN cap).ownBlock = some b → b ∈ F)) := by
           have := (((HR.out.step HX3.out).step (FX.of_below ((Below.refl _ _).alloc (Nat.le_refl _) (.cells #[.int .i64 k1, .string s1, .int .i64 n1, .slice ao1 ln1 cp1] 24)))).step (FX.of_below ((Below.refl _ _).alloc (Nat.le_refl _) (.cells #[.int .i64 k1, .string s1, .int .i64 n1, .slice ao1 ln1 cp1] 24)))).row
           rw [← HKN.out] at this
           exact this
         obtain ⟨cs, F0, y1, y2, y3, y4, y5⟩ := HY.out
         have HY1 : Hid _ := y1
         have HY2 : Hid _ := y2
         have HY3 : Hid _ := y3
         have HY4 : Hid _ := y4
         have HY5 : Hid _ := y5
         clear HY y1 y2 y3 y4 y5
         go_wp2_with (at_builtin; go_loud (refine wpList_append_own_at _ rfl _ _ 22 rfl 0 24 i0 (.agg #[.int .i64 0, .string ⟨#[]⟩, .int .i64 0, .slice none 0 0]) 4 56 Tryz.underlying22 hi hz0 hz1 hz2 rfl (by decide) _ _ _ rfl HY1.out ⟨w3.heap.size + 1, 0, none⟩ 1 1 [.int .i64 k1, .string s1, .int .i64 n1, .slice ao1 ln1 cp1] rfl rfl ?c1 ?c2 ?c3 ?c4 ?c5 ?_))
         case c1 =>
           intro q z hq
           match q, hq with
           | 0, hq => simp at hq; subst hq; simp [Addr.add]
           | 1, hq => simp at hq; subst hq; simp [Addr.add]
           | 2, hq => simp at hq; subst hq; simp [Addr.add]
           | 3, hq => simp at hq; subst hq; simp [Addr.add]
         case c2 => intro z hz; simp at hz; rcases hz with rfl | rfl | rfl | rfl <;> rfl
         case c3 => unfold maxLen; omega
         case c4 => omega
         case c5 => omega
         intro v' w6 hown' hgrow _ hat
         obtain ⟨w5, hw5⟩ : ∃ w5, w5 = (w3.alloc (.cells #[.int .i64 k1, .string s1, .int .i64 n1, .slice ao1 ln1 cp1] 24)).alloc (.cells #[.int .i64 k1, .string s1, .int .i64 n1, .slice ao1 ln1 cp1] 24) := ⟨_, rfl⟩
         have b35 : Below w3.heap.size w3 w5 := by rw [hw5]; exact ((Below.refl _ _).alloc (Nat.le_refl _) _).alloc (by simp) _
         have hat5 : v'.ownBlock = (Value.slice ao KN cap).ownBlock ∨ v'.ownBlock = some w5.heap.size := by rw [hw5]; simpa using hat
         rw [← hw5] at hgrow HY1 HY2
         clear hat hw5
         have hB1 := HB1.out
         have hKN := HKN.out
         have hbl := HBL.out
         have AS := app_step ((HR.out.step HX3.out).step (FX.of_below b35)) ((HT3.out.lo_le (by omega)).step (FX.of_below b35)) (fun f hf g' hg' => by have := HR.out.lt f hf; have := (HT3.out.out g' hg').1; omega) HY2.out HY3.out HY4.out HY5.out (by rw [← hKN]; exact hown') hgrow hat5 (HS3.out.keep b35) ((HX.out.trans HX3.out).trans (FX.of_below b35)) hB1 (XS_keep HN.out HX3.out hbl) ((b35.block B1 hlt3).trans HK3.out) (by have := HGW.out; have := HSW.out; omega)
         obtain ⟨hk6, F7, hk7, hr7, hs7, hx7⟩ := AS
         obtain ⟨a2', cp2, hv2⟩ : ∃ ao cap, v' = .slice ao (KN + 1) cap := by obtain ⟨ao', cap', e⟩ := hr7.slice; exact ⟨ao', cap', by rw [e, hKN]; simp⟩
         subst hv2
         have HK7 : Hid _ := hk7
         have HR7 : Hid _ := hr7
         have HS7 : Hid _ := hs7
         have HX7 : Hid _ := hx7
         have HN7 : Hid (¬ XS g nv2 B1) := XS_keep HN.out HX3.out hbl
         obtain ⟨a0, a1, a2, a3, fa0, fa1, fa2, fa3⟩ := blk4 hk6
         clear hk6 hk7 hr7 hs7 hx7 hown' hgrow hat5 b35 HY1 HY2 HY3 HY4 HY5 hB1 hKN hbl c0 c1 c2 c3 c4 f2
         go_upto_region 7 with fail
         obtain ⟨V7, hV7⟩ : ∃ V7, V7 = w6.setCell ⟨B1, 3, none⟩ (.slice a2' (KN + 1) cp2) := ⟨_, rfl⟩
         rw [← hV7]
         rw [← hV7] at HK7 HR7 HS7 HX7
         clear hV7 a0 a1 a2 a3 fa0 fa1 fa2 fa3 hlt3 hgl3
         go_wp2_with (first | (go_at_call 61; go_loud (refine Calls.mono (s_mark_no g L lv nv2 _ ⟨#[41]⟩ V7 cRpar_ne HS7.out HMN.out) ?_); rintro e w8 ⟨rfl, hb8⟩; have HB8 : Hid (Below V7.heap.size V7 w8) := hb8; clear hb8) | (go_at_call 81; go_loud (refine Calls.mono (s_wants g L lv nv2 _ ⟨#[44]⟩ w8 HL.out cComma_ne (HS7.out.keep HB8.out)) ?_); rintro e w9 ⟨⟨x9, rfl⟩, hs9, hx9⟩; have HS9 : Hid _ := hs9; have HX9 : Hid (FX (XS g nv2) (XS g nv2) w8 w9) := hx9; clear hs9 hx9))
         go_roundw
         case rel =>
           obtain ⟨o9, ho9, hi9, _⟩ := HD.out
           have h9 := HS9.out
           rw [ho9] at h9
           have hb8 : B1 < V7.heap.size := (Array.getElem?_eq_some_iff.1 HK7.out).1
           have x8 : FX (XS g nv2) (XS g nv2) V7 w9 := (FX.of_below HB8.out).trans HX9.out
           exact ⟨nv2, ks ++ [t], _, F7, o9, (x8.block B1 hb8 HN7.out).trans HK7.out, HR7.out.step x8, h9, HX7.out.trans x8, HN7.out, hi9 t HR3.out⟩
         case measure =>
           obtain ⟨o9, ho9, _, hm9⟩ := HD.out
           have h9 := HS9.out
           rw [ho9] at h9
           rw [HMS.out]
           exact hm9 _ _ h9
end Go.Proofs.YtbkjcccbjnehbanGreatDoor

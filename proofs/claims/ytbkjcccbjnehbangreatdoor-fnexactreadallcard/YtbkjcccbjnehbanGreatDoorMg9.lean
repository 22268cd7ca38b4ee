import Derived.Test.YtbkjcccbjnehbanGreatDoorMg8
import Derived.Test.YtbkjcccbjnehbanGreatDoorMg6
import Derived.Test.YtbkjcccbjnehbanGreatDoorRdO
import Derived.Test.YtbkjcccbjnehbanGreatDoorMg2
namespace Go.Proofs.YtbkjcccbjnehbanGreatDoor
open Go.RowKit
structure IRv (g m : Nat) (L : List Sg) (lv nv : Value) (w : World) (d : Nat) (r : List Sg) (names : List ByteArray) : Prop where
 ex : ∃ (p : Nat) (ms : List (ByteArray × Int)), w.heap[g]? = some (.cells #[lv, .int .i64 (p : Int), .int .i64 (d : Int), nv, .map (some m)] 63 (0, 0)) ∧ SIn w L lv ∧ (∀ b, sliceBlk lv = some b → b < g ∧ b < m) ∧
   NRow w (max g m + 1) names nv ∧ NMapAt w m ms ∧ MOk names ms ∧ m ≠ g ∧ p ≤ L.length ∧ L.drop p = r ∧ names.length + 1 ≤ p
theorem IRv.ird {g m : Nat} {L : List Sg} {lv nv : Value} {w : World} {d : Nat} {r : List Sg} {names : List ByteArray} (h : IRv g m L lv nv w d r names) : IRd g m L lv nv w d ⟨r, names⟩ := by
 obtain ⟨p, ms, h1, h2, h3, h4, h5, h6, h7, h8, h9, h10⟩ := h.ex
 exact ⟨p, ms, h1, h2, h3, h4, h5, h6, h7, h8, h9, by show names.length ≤ p; omega⟩
theorem IRv.keep {g m : Nat} {L : List Sg} {lv nv : Value} {w w' : World} {d : Nat} {r : List Sg} {names : List ByteArray} (h : IRv g m L lv nv w d r names) (hb : Below w.heap.size w w') : IRv g m L lv nv w' d r names := by
 have hl := h.ird.lt
 obtain ⟨p, ms, h1, h2, h3, h4, h5, h6, h7, h8⟩ := h.ex
 exact ⟨p, ms, (hb.block g hl.1).trans h1, h2.turn fun b e => hb.block b (by have := (h3 b e).1; omega), h3, h4.turn fun b e => hb.block b (h4.lt b e).2, h5.turn (hb.block m hl.2.1), h6, h7, h8⟩
theorem IRd.stepV {g m : Nat} {L : List Sg} {lv nv : Value} {w : World} {d : Nat} {x : Sg} {r : List Sg} {names : List ByteArray} (h : IRd g m L lv nv w d ⟨x :: r, names⟩) :
   ∃ p : Nat, w.cell? ⟨g, 1, none⟩ = some (.int .i64 (p : Int)) ∧ p < L.length ∧ w.frozen? ⟨g, 1, none⟩ = false ∧ IRv g m L lv nv (w.setCell ⟨g, 1, none⟩ (.int .i64 ((p + 1 : Nat) : Int))) d r names := by
 obtain ⟨p, ms, h1, h2, h3, h4, h5, h6, h7, h8, h9, h10⟩ := h.ex
 obtain ⟨c0, c1, c2, c3, c4, cf⟩ := b5f h1
 have hl := congrArg List.length h9
 rw [List.length_drop, List.length_cons] at hl
 refine ⟨p, c1, by omega, cf 1, ?_⟩
 have hs : (w.setCell ⟨g, 1, none⟩ (.int .i64 ((p + 1 : Nat) : Int))).heap[g]? = some (.cells #[lv, .int .i64 ((p + 1 : Nat) : Int), .int .i64 (d : Int), nv, .map (some m)] 63 (0, 0)) := by
   have := blk_set (i := 1) h1 (.int .i64 ((p + 1 : Nat) : Int))
   simpa using this
 have ho : ∀ k, k ≠ g → (w.setCell ⟨g, 1, none⟩ (.int .i64 ((p + 1 : Nat) : Int))).heap[k]? = w.heap[k]? := fun k hk => blk_other _ hk
 have h10' : names.length ≤ p := h10
 refine ⟨p + 1, ms, hs, h2.turn fun b e => ho b (by have := (h3 b e).1; omega), h3, h4.turn fun b e => ho b (by have := (h4.lt b e).1; omega), h5.turn (ho m h7), h6, h7, by omega, ?_, by omega⟩
 have : L.drop (p + 1) = (L.drop p).drop 1 := by rw [List.drop_drop]
 rw [this, h9]; rfl
theorem i_variable (g m : Nat) (L : List Sg) (lv nv : Value) (d : Nat) (r : List Sg) (names : List ByteArray) (s : ByteArray) (w : World) (hL : L.length ≤ 3000) (hs : s.size ≤ 3000) (h : IRv g m L lv nv w d r names) :
   Calls Tryz.prog 92 #[.pointer (some ⟨g, 0, none⟩), .string s] w fun e w' => ∃ v, e = .returned v ∧ TmRI g m L lv nv w v w' (varTm (varO s names).1, ⟨r, (varO s names).2⟩) d := by
 have hI := h.ird
 obtain ⟨p, ms, h1, h2, h3, h4, h5, h6, h7, h8, h9, h10⟩ := h.ex
 by_cases hu : s = cUs
 · exact i_var_new g m L lv nv d p r names ms s w hL hs h1 h2 h3 h4 h5 h6 h7 h8 h9 h10 (Or.inl hu)
 · cases hf : names.findIdx? fun x => decide (x = s) with
   | none => exact i_var_new g m L lv nv d p r names ms s w hL hs h1 h2 h3 h4 h5 h6 h7 h8 h9 h10 (Or.inr hf)
   | some i => exact i_var_known g m L lv nv d p r names ms s i w hL h1 hI h5 h6 (by omega) hu hf
end Go.Proofs.YtbkjcccbjnehbanGreatDoor

namespace Go.Proofs.YtbkjcccbjnehbanGreatDoor
open Go.RowKit
def noEndC : List Sg → Nat
 | [] => 0
 | x :: r => if x.kind = 5 then 0 else 1 + noEndC r
theorem noEndC_le : ∀ r : List Sg, noEndC r ≤ r.length
 | [] => Nat.le_refl _
 | x :: r => by
   have := noEndC_le r
   simp only [noEndC, List.length_cons]
   split <;> omega
theorem noEndC_at : ∀ r : List Sg, (noEndC r = r.length ∧ (∀ x ∈ r, x.kind ≠ 5) ∧ behindC r = r.length) ∨ (∃ E tl, r = r.take (noEndC r) ++ E :: tl ∧ E.kind = 5 ∧ (∀ x ∈ r.take (noEndC r), x.kind ≠ 5) ∧ behindC r = noEndC r + 1)
 | [] => Or.inl ⟨rfl, fun x hx => by simp at hx, rfl⟩
 | x :: r => by
   by_cases h : x.kind = 5
   · right
     refine ⟨x, r, ?_, h, ?_, ?_⟩
     · simp [noEndC, h]
     · simp [noEndC, h]
     · simp [noEndC, behindC, h]
   · rcases noEndC_at r with ⟨h1, h2, h3⟩ | ⟨E, tl, h1, h2, h3, h4⟩
     · left
       refine ⟨?_, ?_, ?_⟩
       · simp only [noEndC, if_neg h, List.length_cons]; omega
       · intro y hy
         rcases List.mem_cons.1 hy with rfl | hy
         · exact h
         · exact h2 y hy
       · simp only [behindC, if_neg h, List.length_cons]; omega
     · right
       have e : noEndC (x :: r) = noEndC r + 1 := by simp only [noEndC, if_neg h]; omega
       refine ⟨E, tl, ?_, h2, ?_, ?_⟩
       · rw [e, List.take_succ_cons, List.cons_append, ← h1]
       · rw [e, List.take_succ_cons]
         intro y hy
         rcases List.mem_cons.1 hy with rfl | hy
         · exact h
         · exact h3 y hy
       · simp only [behindC, if_neg h]; omega
set_option maxHeartbeats 4000000 in
theorem i_nextEnd (L : List Sg) (lv : Value) (a : Nat) (w : World) (ha : a ≤ L.length) (hL : L.length ≤ 3000) (h : SgRow w 0 L lv) :
   Calls Tryz.prog 32 #[lv, .int .i64 (a : Int)] w fun e w' => e = .returned (.int .i64 ((a + noEndC (L.drop a) : Nat) : Int)) ∧ w' = w := by
 obtain ⟨Z, hZ⟩ : ∃ Z, Z = a + noEndC (L.drop a) := ⟨_, rfl⟩
 rw [← hZ]
 have HZ : Hid (Z = a + noEndC (L.drop a)) := hZ
 obtain ⟨ao, cap, rfl, hcap, hlc⟩ := h.shape
 have HR : Hid (SgRow w 0 L (.slice ao L.length cap)) := h
 obtain ⟨NL, hNL⟩ : ∃ NL, NL = L.length := ⟨_, rfl⟩
 rw [← hNL]
 have HNL : Hid (NL = L.length) := hNL
 have hN3 : (NL : Int) ≤ 3000 := by omega
 have haN : a ≤ NL := by omega
 clear hZ h hcap hlc hNL ha hL
 go_enter Tryz.func32, Tryz.ntmps32
 go_wp2
 go_loopw [5] (fun vi wr => ∃ j : Nat, j ≤ NL ∧ vi = .int .i64 (j : Int) ∧ Hid (Z = j + noEndC (L.drop j)) ∧ wr = w) (fun i _ => NL - (intOf i).toNat)
 case atStart => exact ⟨a, haN, rfl, HZ.out, rfl⟩
 case round =>
   obtain ⟨j, hj, rfl, HJ, hwr⟩ := hrel
   replace hwr := hwr.symm
   subst hwr
   by_cases hlt : j < NL
   · have hjL : j < L.length := by have := HNL.out; omega
     obtain ⟨lb, cap2, e, _, _, _, _, hc⟩ := HR.out.cells (by rintro rfl; simp at hjL)
     obtain ⟨rfl, _, _⟩ := Value.slice.inj e
     obtain ⟨k0, _⟩ := hc j hjL
     obtain ⟨x, hx⟩ : ∃ x, x = L[j] := ⟨_, rfl⟩
     rw [← hx] at k0
     have hdr : L.drop j = x :: L.drop (j + 1) := by rw [hx]; exact List.drop_eq_getElem_cons hjL
     obtain ⟨j1, hj1⟩ : ∃ j1, j1 = j + 1 := ⟨_, rfl⟩
     have hs1 : (j : Int) + 1 = (j1 : Int) := by omega
     have hs2 : (j1 : Int) - 1 = (j : Int) := by omega
     have HJ1 : Hid (j1 = j + 1) := hj1
     by_cases h5 : x.kind = 5
     · have HF : Hid (Z = j) := by
         show _ = _
         rw [HJ.out, hdr]; simp only [noEndC, if_pos h5]; omega
       clear hc e hdr hx hj1
       rw [h5] at k0
       go_wp2
       go_ret
       exact ⟨by rw [HF.out]; rfl, by first | rfl | trivial⟩
     · have HF : Hid (Z = j1 + noEndC (L.drop j1)) := by
         show _ = _
         rw [HJ.out, hdr, hj1]; simp only [noEndC, if_neg h5]; omega
       have e5 : (x.kind == 5) = false := by simpa using h5
       generalize x.kind = xk at *
       clear hc e hdr hx hj1 h5
       go_wp2
       go_roundw
       case rel => exact ⟨j1, by have := HJ1.out; omega, rfl, HF.out, by first | rfl | trivial⟩
       case measure => have := HJ1.out; simp [intOf]; omega
   · obtain rfl : NL = j := by omega
     have HF : Hid (Z = NL) := by
       show _ = _
       rw [HJ.out, List.drop_eq_nil_of_le (by have := HNL.out; omega)]; rfl
     go_wp2
     go_ret
     exact ⟨by rw [HF.out]; rfl, by first | rfl | trivial⟩
end Go.Proofs.YtbkjcccbjnehbanGreatDoor

namespace Go.Proofs.YtbkjcccbjnehbanGreatDoor
open Go.RowKit
def EndI (g m : Nat) (L : List Sg) (lv nv : Value) (w : World) (d : Nat) (R : Option (Tm × St)) (e : Ending) (w' : World) : Prop := match R with
 | some y => ∃ v, e = .returned v ∧ TmRI g m L lv nv w v w' y d
 | none => e = .panicked unreadC ∧ ∃ nv', FX (XI g m nv) (XI g m nv') w w'
def TermCI (f g m : Nat) (L : List Sg) (lv : Value) : Prop := ∀ (d : Nat) (most : Int) (st : St) (nv : Value) (w : World), d + f = 130 → IRd g m L lv nv w d st →
 Calls Tryz.prog 56 #[.pointer (some ⟨g, 0, none⟩), .int .i64 most] w fun e w' => EndI g m L lv nv w d (termO false f most st) e w'
def roundT (tm : Int → St → Option (Tm × St)) (r : List Sg) (names : List ByteArray) : Option (Tm × St) := match tm 1200 ⟨r, names⟩ with
 | none => none
 | some y => match mk? cRpar y.2.rest with
   | some r' => some (y.1, ⟨r', y.2.names⟩)
   | none => none
set_option maxHeartbeats 4000000 in
theorem i_bracketed (f g m : Nat) (L : List Sg) (lv nv : Value) (d : Nat) (x : Sg) (r : List Sg) (names : List ByteArray) (w : World) (hL : L.length ≤ 3000) (hf : d + f = 130) (hT : TermCI f g m L lv) (h : IRd g m L lv nv w d ⟨x :: r, names⟩) :
   Calls Tryz.prog 90 #[.pointer (some ⟨g, 0, none⟩)] w fun e w' => EndI g m L lv nv w d (roundT (termO false f) r names) e w' := by
 obtain ⟨W, hW⟩ : ∃ W, W = w.alloc (.cells #[.int .i64 0, .string ⟨#[]⟩, .int .i64 0, .slice none 0 0] 24) := ⟨_, rfl⟩
 have bW : Below w.heap.size w W := by rw [hW]; exact (Below.refl _ _).alloc (Nat.le_refl _) _
 have sW : w.heap.size < W.heap.size := by rw [hW]; simp
 have kW : W.heap[w.heap.size]? = some (.cells #[.int .i64 0, .string ⟨#[]⟩, .int .i64 0, .slice none 0 0] 24 (0, 0)) := by rw [hW]; exact heap_alloc_new _ _
 have hlt := h.lt
 obtain ⟨p, c1, hp, f1, hI⟩ := (h.keep bW).step
 have hwr : IntKind.i64.wrap ((p : Int) + 1) = ((p + 1 : Nat) : Int) := by rw [IntKind.wrap_i64]; omega
 obtain ⟨V, hV⟩ : ∃ V, V = W.setCell ⟨g, 1, none⟩ (.int .i64 ((p + 1 : Nat) : Int)) := ⟨_, rfl⟩
 rw [← hV] at hI
 have hc : ((p + 1 : Nat) : Int) = (p : Int) + 1 := by omega
 rw [hc] at hwr hV
 clear hc
 have HFV : Hid (FX (XI g m nv) (XI g m nv) w V) := by rw [hV]; exact (FX.of_below bW).set (Or.inl (Or.inl rfl)) _
 have HKV : Hid (V.heap[w.heap.size]? = some (.cells #[.int .i64 0, .string ⟨#[]⟩, .int .i64 0, .slice none 0 0] 24 (0, 0))) := by
   show _ = _
   rw [hV, blk_other _ (by omega)]; exact kW
 have HLT : Hid (g < w.heap.size ∧ m < w.heap.size ∧ w.heap.size < V.heap.size ∧ ∀ k, XI g m nv k → k < w.heap.size) := ⟨hlt.1, hlt.2.1, by rw [hV]; simp [World.setCell]; exact sW, hlt.2.2⟩
 have HT : Hid _ := hT d 1200 ⟨r, names⟩ nv V hf hI
 have HMP : Hid (∀ nv' st' w', IRd g m L lv nv' w' d st' → _) := fun nv' st' w' hh => i_mustPass g m L lv nv' d st' cRpar w' hL hh
 clear hI hT hlt h bW sW kW hf
 cases ht : termO false f 1200 ⟨r, names⟩ with
 | none =>
   have HR : Hid (roundT (termO false f) r names = none) := by show _ = _; unfold roundT; rw [ht]
   rw [ht] at HT
   clear ht
   go_enter Tryz.func90, Tryz.ntmps90
   go_upto_region 1 with fail
   rw [← hW]
   clear hW
   go_upto_region 2 with fail
   rw [← hV]
   clear hV
   go_wp2_with (go_at_call 56; refine (Calls.mono HT.out ?_); rintro e w1 ⟨rfl, nv', hx⟩; have HX : Hid (FX (XI g m nv) (XI g m nv') V w1) := hx; clear hx)
   rw [HR.out]
   exact ⟨rfl, rfl, _, HFV.out.trans HX.out⟩
 | some y =>
   obtain ⟨t, rest, names'⟩ := y
   rw [ht] at HT
   cases hk : mk? cRpar rest with
   | none =>
     have HR : Hid (roundT (termO false f) r names = none) := by show _ = _; unfold roundT; rw [ht]; simp only [hk]
     have HKK : Hid (mk? cRpar rest = none) := hk
     clear ht hk
     rw [show cRpar = ⟨#[41]⟩ from rfl] at HMP HKK
     go_enter Tryz.func90, Tryz.ntmps90
     go_upto_region 1 with fail
     rw [← hW]
     clear hW
     go_upto_region 2 with fail
     rw [← hV]
     clear hV
     go_upto_region 3 with (go_at_call 56; refine (Calls.mono HT.out ?_); rintro e w1 ⟨v, rfl, F, nv', ht, hi, hx⟩; have HX : Hid (FX (XI g m nv) (XI g m nv') V w1) := hx; have HI : Hid (IRd g m L lv nv' w1 d ⟨rest, names'⟩) := hi; obtain ⟨k1, s1, n1, ao1, ln1, cp1, rfl⟩ := ht.form; clear ht hi hx)
     have HM : Hid _ := HMP.out nv' ⟨rest, names'⟩ _ (HI.out.keep ((Below.refl _ _).alloc (Nat.le_refl _) (.cells #[.int .i64 k1, .string s1, .int .i64 n1, .slice ao1 ln1 cp1] 24)))
     go_wp2_with (go_at_call 100; refine (Calls.mono HM.out ?_); rintro e w2 ⟨hx, he⟩; rw [HKK.out] at he; subst he; have HX2 : Hid (FX (XI g m nv') (XI g m nv') _ w2) := hx; clear hx)
     rw [HR.out]
     exact ⟨rfl, rfl, _, ((HFV.out.trans HX.out).trans (FX.of_below ((Below.refl _ _).alloc (Nat.le_refl _) _))).trans HX2.out⟩
   | some r' =>
     have HR : Hid (roundT (termO false f) r names = some (t, ⟨r', names'⟩)) := by show _ = _; unfold roundT; rw [ht]; simp only [hk]
     have HKK : Hid (mk? cRpar rest = some r') := hk
     clear ht hk
     rw [show cRpar = ⟨#[41]⟩ from rfl] at HMP HKK
     go_enter Tryz.func90, Tryz.ntmps90
     go_upto_region 1 with fail
     rw [← hW]
     clear hW
     go_upto_region 2 with fail
     rw [← hV]
     clear hV
     go_upto_region 3 with (go_at_call 56; refine (Calls.mono HT.out ?_); rintro e w1 ⟨v, rfl, F, nv', ht, hi, hx⟩; have HX : Hid (FX (XI g m nv) (XI g m nv') V w1) := hx; have HI : Hid (IRd g m L lv nv' w1 d ⟨rest, names'⟩) := hi; obtain ⟨k1, s1, n1, ao1, ln1, cp1, rfl⟩ := ht.form; have HTK : Hid (TOk 24 (XI g m nv') V.heap.size w1 t (.agg #[.int .i64 k1, .string s1, .int .i64 n1, .slice ao1 ln1 cp1]) F) := ht; clear ht hi hx)
     have HM : Hid _ := HMP.out nv' ⟨rest, names'⟩ _ (HI.out.keep ((Below.refl _ _).alloc (Nat.le_refl _) (.cells #[.int .i64 k1, .string s1, .int .i64 n1, .slice ao1 ln1 cp1] 24)))
     go_upto_region 4 with (go_at_call 100; refine (Calls.mono HM.out ?_); rintro e w2 ⟨hx, he⟩; rw [HKK.out] at he; obtain ⟨rfl, hi2⟩ := he; have HI2 : Hid (IRd g m L lv nv' w2 d ⟨r', names'⟩) := hi2; have HX2 : Hid (FX (XI g m nv') (XI g m nv') (w1.alloc (.cells #[.int .i64 k1, .string s1, .int .i64 n1, .slice ao1 ln1 cp1] 24)) w2) := hx; clear hx hi2)
     have hz := HLT.out
     have hnk : ¬ XI g m nv' w.heap.size := fun hh => by
       rcases HX.out.new _ hh with h1 | h1
       · have := hz.2.2.2 _ h1; omega
       · omega
     have hnn : ¬ XI g m nv' w1.heap.size := fun hh => by have := HI.out.lt.2.2 _ hh; omega
     have hs1 := HX.out.size
     have kz : w2.heap[w1.heap.size]? = some (.cells #[.int .i64 k1, .string s1, .int .i64 n1, .slice ao1 ln1 cp1] 24 (0, 0)) := (HX2.out.block _ (by simp) hnn).trans (heap_alloc_new _ _)
     have ko : w2.heap[w.heap.size]? = some (.cells #[.int .i64 0, .string ⟨#[]⟩, .int .i64 0, .slice none 0 0] 24 (0, 0)) :=
       (HX2.out.block _ (by simp; omega) hnk).trans ((((Below.refl _ _).alloc (Nat.le_refl _) _).block _ (by omega)).trans ((HX.out.block _ hz.2.2.1 (fun hh => by have := hz.2.2.2 _ hh; omega)).trans HKV.out))
     obtain ⟨z0, z1, z2, z3, _⟩ := blk4 kz
     obtain ⟨o0, o1, o2, o3, q0, q1, q2, q3⟩ := blk4 ko
     have HKO : Hid (w2.heap[w.heap.size]? = some (.cells #[.int .i64 0, .string ⟨#[]⟩, .int .i64 0, .slice none 0 0] 24 (0, 0)) ∧ ¬ XI g m nv' w.heap.size ∧ V.heap.size ≤ w1.heap.size) := ⟨ko, hnk, hs1⟩
     have hn1 : ¬ w.heap.size = w1.heap.size := by omega
     have hn2 : ¬ w1.heap.size = w.heap.size := by omega
     clear kz ko hnk hnn hs1 hz
     go_wp2
     refine bodyPost_ret_by (results_cell_row rfl _ _ w.heap.size 24 _ (0, 0) _ rfl (blk4_set HKO.out.1) Tryz.underlying24 rfl (by kernel_rfl)) rfl ?_
     rw [HR.out]
     have hz := HLT.out
     obtain ⟨ko, hnk, hs1⟩ := HKO.out
     have oE : ∀ k, k ≠ w.heap.size → ((((w2.setCell ⟨w.heap.size, 0, none⟩ (.int .i64 k1)).setCell ⟨w.heap.size, 1, none⟩ (.string s1)).setCell ⟨w.heap.size, 2, none⟩ (.int .i64 n1)).setCell ⟨w.heap.size, 3, none⟩ (.slice ao1 ln1 cp1)).heap[k]? = w2.heap[k]? := fun k hk => blk4_other hk
     have hB : FX (XI g m nv') (XI g m nv') w1 w2 := (FX.of_below ((Below.refl _ _).alloc (Nat.le_refl _) _)).trans HX2.out
     refine ⟨_, rfl, F, nv', ?_, ?_, ?_⟩
     · exact ((HTK.out.step hB).turn fun k hk _ => oE k (by omega)).lo_le (by omega)
     · exact HI2.out.turn fun k hk => oE k (fun e => by
         rcases hk with hk | hk
         · omega
         · rw [e] at hk; exact hnk hk)
     · exact ((((HFV.out.trans (HX.out.trans hB)).set (Or.inr (Nat.le_refl _)) _).set (Or.inr (Nat.le_refl _)) _).set (Or.inr (Nat.le_refl _)) _).set (Or.inr (Nat.le_refl _)) _
end Go.Proofs.YtbkjcccbjnehbanGreatDoor

namespace Go.Proofs.YtbkjcccbjnehbanGreatDoor
theorem mk?_two {a b : ByteArray} (hab : a ≠ b) {l r : List Sg} (h : mk? a l = some r) : mk? b l = none := by
 obtain ⟨x, rfl, hx⟩ := mk?_cons h
 cases hb : mk? b (x :: r) with
 | none => rfl
 | some r2 =>
   obtain ⟨y, hy, hz⟩ := mk?_cons hb
   obtain ⟨rfl, _⟩ := List.cons.inj hy
   exact absurd (hx.2.symm.trans hz.2) hab
def termsO (tm : Int → St → Option (Tm × St)) (ks : List Tm) (s : St) : Option (List Tm × St) :=
 match tm 999 s with
 | none => none
 | some (x, s1) =>
   if _h : s1.rest.length < s.rest.length then
     match _hc : mk? cComma s1.rest with
     | some r => termsO tm (ks ++ [x]) ⟨r, s1.names⟩
     | none => some (ks ++ [x], s1)
   else none
termination_by s.rest.length
decreasing_by have := mk?_len _hc; omega
theorem termsO_step {tm : Int → St → Option (Tm × St)} (ht : Short tm) {ks : List Tm} {st : St} : termsO tm ks st = match tm 999 st with
   | none => none
   | some (x, s1) => match mk? cComma s1.rest with
     | some r => termsO tm (ks ++ [x]) ⟨r, s1.names⟩
     | none => some (ks ++ [x], s1) := by
 rw [termsO]
 cases h : tm 999 st with
 | none => rfl
 | some y =>
   obtain ⟨x, s1⟩ := y
   have hs := ht _ _ _ _ h
   simp only
   rw [dif_pos hs]
   split <;> simp_all
theorem someO_stepI {tm : Int → St → Option (Tm × St)} (ht : Short tm) {ks : List Tm} {st : St} : someO false tm ks st = match tm 999 st with
   | none => none
   | some (x, s1) => match mk? cRpar s1.rest with
     | some r => some (ks ++ [x], ⟨r, s1.names⟩)
     | none => match mk? cComma s1.rest with
       | some r => someO false tm (ks ++ [x]) ⟨r, s1.names⟩
       | none => none := by
 rw [someO]
 cases h : tm 999 st with
 | none => rfl
 | some y =>
   obtain ⟨x, s1⟩ := y
   have hs := ht _ _ _ _ h
   simp only
   rw [dif_pos hs, if_neg (by simp)]
   cases mk? cRpar s1.rest with
   | some r => rfl
   | none => simp only; split <;> simp_all
theorem rowO_stepI {tm : Int → St → Option (Tm × St)} (ht : Short tm) {ks : List Tm} {st : St} : rowO tm ks st = match tm 999 st with
   | none => none
   | some (x, s1) => match mk? cRbr s1.rest with
     | some r => some (ks ++ [x], nilTm, ⟨r, s1.names⟩)
     | none => match mk? cBar s1.rest with
       | some r => (match tm 999 ⟨r, s1.names⟩ with
         | none => none
         | some y => match mk? cRbr y.2.rest with
           | some r2 => some (ks ++ [x], y.1, ⟨r2, y.2.names⟩)
           | none => none)
       | none => match mk? cComma s1.rest with
         | some r => rowO tm (ks ++ [x]) ⟨r, s1.names⟩
         | none => none := by
 rw [rowO]
 cases h : tm 999 st with
 | none => rfl
 | some y =>
   obtain ⟨x, s1⟩ := y
   have hs := ht _ _ _ _ h
   simp only
   rw [dif_pos hs]
   cases mk? cRbr s1.rest with
   | some r => rfl
   | none =>
     simp only
     cases mk? cBar s1.rest with
     | some r =>
       simp only
       cases tm 999 ⟨r, s1.names⟩ with
       | none => rfl
       | some z => rfl
     | none => simp only; split <;> simp_all
theorem someO_terms {tm : Int → St → Option (Tm × St)} (ht : Short tm) (n : Nat) : ∀ (ks : List Tm) (s : St), s.rest.length ≤ n → someO false tm ks s = (match termsO tm ks s with
 | none => none
 | some y => match mk? cRpar y.2.rest with
   | some r => some (y.1, ⟨r, y.2.names⟩)
   | none => none) := by
 induction n with
 | zero =>
   intro ks s hn
   rw [someO_stepI ht, termsO_step ht]
   cases h : tm 999 s with
   | none => rfl
   | some y => have := ht _ _ _ _ h; omega
 | succ n ih =>
   intro ks s hn
   rw [someO_stepI ht, termsO_step ht]
   cases h : tm 999 s with
   | none => rfl
   | some y =>
     have hl := ht _ _ _ _ h
     simp only
     cases hr : mk? cRpar y.2.rest with
     | some r =>
       have := mk?_two (show cRpar ≠ cComma by decide) hr
       simp only [this, hr]
     | none =>
       cases hc : mk? cComma y.2.rest with
       | some r2 =>
         have := mk?_len hc
         simp only
         exact ih _ _ (by simp only; omega)
       | none => simp only [hr]
theorem rowO_terms {tm : Int → St → Option (Tm × St)} (ht : Short tm) (n : Nat) : ∀ (ks : List Tm) (s : St), s.rest.length ≤ n → rowO tm ks s = (match termsO tm ks s with
 | none => none
 | some y => match mk? cBar y.2.rest with
   | some r => (match tm 999 ⟨r, y.2.names⟩ with
     | none => none
     | some z => match mk? cRbr z.2.rest with
       | some r2 => some (y.1, z.1, ⟨r2, z.2.names⟩)
       | none => none)
   | none => match mk? cRbr y.2.rest with
     | some r => some (y.1, nilTm, ⟨r, y.2.names⟩)
     | none => none) := by
 induction n with
 | zero =>
   intro ks s hn
   rw [rowO_stepI ht, termsO_step ht]
   cases h : tm 999 s with
   | none => rfl
   | some y => have := ht _ _ _ _ h; omega
 | succ n ih =>
   intro ks s hn
   rw [rowO_stepI ht, termsO_step ht]
   cases h : tm 999 s with
   | none => rfl
   | some y =>
     have hl := ht _ _ _ _ h
     simp only
     cases hr : mk? cRbr y.2.rest with
     | some r =>
       have h1 := mk?_two (show cRbr ≠ cComma by decide) hr
       have h2 := mk?_two (show cRbr ≠ cBar by decide) hr
       simp only [h1, h2, hr]
     | none =>
       cases hb : mk? cBar y.2.rest with
       | some r =>
         have h1 := mk?_two (show cBar ≠ cComma by decide) hb
         simp only [h1, hb]
       | none =>
         cases hc : mk? cComma y.2.rest with
         | some r2 =>
           have := mk?_len hc
           simp only
           exact ih _ _ (by simp only; omega)
         | none => simp only [hr, hb]
end Go.Proofs.YtbkjcccbjnehbanGreatDoor

namespace Go.Proofs.YtbkjcccbjnehbanGreatDoor
open Go.RowKit
def msrI (g n : Nat) (w : World) : Nat := match w.cell? ⟨g, 1, none⟩ with
 | some (.int _ p) => n - p.toNat
 | _ => 0
theorem msrI_of {g m : Nat} {L : List Sg} {lv nv : Value} {w : World} {d : Nat} {st : St} (h : IRd g m L lv nv w d st) : msrI g L.length w = st.rest.length := by
 obtain ⟨p, ms, h1, _, _, _, _, _, _, h8, h9, _⟩ := h.ex
 have c1 : w.cell? ⟨g, 1, none⟩ = some (.int .i64 (p : Int)) := blk_cell (i := 1) h1 (by simp)
 unfold msrI
 rw [c1, ← h9, List.length_drop]
 simp
theorem IRd.rest_le {g m : Nat} {L : List Sg} {lv nv : Value} {w : World} {d : Nat} {st : St} (h : IRd g m L lv nv w d st) : st.rest.length ≤ L.length := by
 obtain ⟨p, ms, h1, _, _, _, _, _, _, h8, h9, _⟩ := h.ex
 rw [← h9, List.length_drop]; omega
def contT (tm : Int → St → Option (Tm × St)) (ks : List Tm) (s : St) : Option (List Tm × St) := match mk? cComma s.rest with
 | some r => termsO tm ks ⟨r, s.names⟩
 | none => some (ks, s)
theorem termsO_cont {tm : Int → St → Option (Tm × St)} (ht : Short tm) {ks : List Tm} {st : St} : termsO tm ks st = match tm 999 st with
   | none => none
   | some y => contT tm (ks ++ [y.1]) y.2 := by
 rw [termsO_step ht]
 cases tm 999 st <;> rfl
def EndTs (g m : Nat) (L : List Sg) (lv nv : Value) (w : World) (d : Nat) (R : Option (List Tm × St)) (e : Ending) (w' : World) : Prop := match R with
 | some y => ∃ ao cap F nv', e = .returned (.slice ao y.1.length cap) ∧ y.1 ≠ [] ∧ y.1.length ≤ L.length ∧ ROk 24 (XI g m nv') w.heap.size w' y.1 (.slice ao y.1.length cap) F ∧ IRd g m L lv nv' w' d y.2 ∧ FX (XI g m nv) (XI g m nv') w w'
 | none => e = .panicked unreadC ∧ ∃ nv', FX (XI g m nv) (XI g m nv') w w'
theorem XI_new {g m : Nat} {L : List Sg} {lv nv : Value} {w : World} {d : Nat} {st : St} (h : IRd g m L lv nv w d st) : ¬ XI g m nv w.heap.size := fun hh => by have := h.lt.2.2 _ hh; omega
set_option maxHeartbeats 8000000 in
set_option maxRecDepth 20000 in
theorem i_terms (f g m : Nat) (L : List Sg) (lv nv : Value) (d : Nat) (st : St) (w : World) (hL : L.length ≤ 3000) (hf : d + f = 130) (hT : TermCI f g m L lv) (h : IRd g m L lv nv w d st) :
   Calls Tryz.prog 101 #[.pointer (some ⟨g, 0, none⟩)] w fun e w' => EndTs g m L lv nv w d (termsO (termO false f) [] st) e w' := by
 obtain ⟨i0, hi, hz0, hz1, hz2⟩ := info_partsS infoT
 have hsh := termO_short false f
 have HT : Hid _ := hT d 999 st nv w hf h
 have HTT : Hid (∀ nv' W' st', IRd g m L lv nv' W' d st' → Calls Tryz.prog 56 #[.pointer (some ⟨g, 0, none⟩), .int .i64 999] W' fun e w' => EndI g m L lv nv' W' d (termO false f 999 st') e w') := fun nv' W' st' hs => hT d 999 st' nv' W' hf hs
 have HP : Hid (∀ nv' W' st', IRd g m L lv nv' W' d st' → Calls Tryz.prog 102 #[.pointer (some ⟨g, 0, none⟩), .string ⟨#[44]⟩] W' (PassR g m L lv nv' d st' ⟨#[44]⟩ W')) := fun nv' W' st' hs => i_passed g m L lv nv' d st' _ W' hL hs
 have HH : Hid (IRd g m L lv nv w d st) := h
 have HL : Hid (L.length ≤ 3000) := hL
 have hrl := h.rest_le
 obtain ⟨T, hTT⟩ : ∃ T, T = termsO (termO false f) [] st := ⟨_, rfl⟩
 rw [← hTT]
 rw [termsO_cont hsh] at hTT
 clear hT h hL
 cases h1 : termO false f 999 st with
 | none =>
   rw [h1] at HT hTT
   have HN : Hid (T = none) := hTT
   clear hTT h1
   go_enter Tryz.func101, Tryz.ntmps101
   go_wp2_with (go_at_call 56; refine (Calls.mono HT.out ?_); rintro e w1 ⟨rfl, nv', hx⟩; have HX : Hid (FX (XI g m nv) (XI g m nv') w w1) := hx; clear hx)
   rw [HN.out]
   exact ⟨rfl, rfl, _, HX.out⟩
 | some y =>
   obtain ⟨t, s1⟩ := y
   have hs1 := hsh _ _ _ _ h1
   rw [h1] at HT hTT
   simp only at hTT
   have HC : Hid (contT (termO false f) [t] s1 = T) := hTT.symm
   have HS1 : Hid (1 + s1.rest.length ≤ L.length) := by show _ ≤ _; omega
   clear hTT h1 hs1 hrl
   go_enter Tryz.func101, Tryz.ntmps101
   go_upto_region 2 with (go_at_call 56; refine (Calls.mono HT.out ?_); rintro e w1 ⟨v, rfl, F, nv', ht, hi, hx⟩; have HX : Hid (FX (XI g m nv) (XI g m nv') w w1) := hx; have HI : Hid (IRd g m L lv nv' w1 d s1) := hi; obtain ⟨k1, s1', n1, ao1, ln1, cp1, rfl⟩ := ht.form; have HTK : Hid (TOk 24 (XI g m nv') w.heap.size w1 t (.agg #[.int .i64 k1, .string s1', .int .i64 n1, .slice ao1 ln1 cp1]) F) := ht; clear ht hi hx)
   have hnx := XI_new HI.out
   have R0 := ROk.one HTK.out (by have := HX.out.size; omega) hnx
   obtain ⟨W, hW⟩ : ∃ W, W = w1.alloc (.cells #[.int .i64 k1, .string s1', .int .i64 n1, .slice ao1 ln1 cp1] 24) := ⟨_, rfl⟩
   have bW : Below w1.heap.size w1 W := by rw [hW]; exact (Below.refl _ _).alloc (Nat.le_refl _) _
   rw [← hW] at R0 ⊢
   have HR0 : Hid _ := R0
   have HI0 : Hid (IRd g m L lv nv' W d s1) := HI.out.keep bW
   have HX0 : Hid (FX (XI g m nv) (XI g m nv') w W) := HX.out.trans (FX.of_below bW)
   clear hnx R0 hW bW HX HI HTK
   go_loopw [3] (fun v wr => ∃ (nv' : Value) (ks : List Tm) (ao : Option Addr) (cap : Nat) (F : List Nat) (s : St), v = .slice ao ks.length cap ∧ Hid (ks ≠ [] ∧ ks.length + s.rest.length ≤ L.length) ∧ Hid (ROk 24 (XI g m nv') w.heap.size wr ks (.slice ao ks.length cap) F) ∧ Hid (IRd g m L lv nv' wr d s) ∧ Hid (FX (XI g m nv) (XI g m nv') w wr) ∧ Hid (contT (termO false f) ks s = T)) (fun _ wr => msrI g L.length wr)
   case atStart => exact ⟨nv', [t], _, 1, _, s1, rfl, ⟨by simp, by simpa using HS1.out⟩, HR0.out, HI0.out, HX0.out, HC.out⟩
   case round =>
     obtain ⟨nv2, ks, ao, cap, F2, s, rfl, HK, HR, HI, HX, HC2⟩ := hrel
     have HMS : Hid (msrI g L.length wr = s.rest.length) := msrI_of HI.out
     have HPC : Hid _ := HP.out nv2 wr s HI.out
     obtain ⟨KN, hKN⟩ : ∃ KN, KN = ks.length := ⟨_, rfl⟩
     rw [← hKN] at HK HR
     simp only [← hKN]
     have HKN : Hid (KN = ks.length) := hKN
     clear hKN
     cases hm : mk? cComma s.rest with
     | none =>
       have HT1 : Hid (T = some (ks, s)) := by show _ = _; rw [← HC2.out]; unfold contT; rw [hm]
       have hm' : mk? ⟨#[44]⟩ s.rest = none := hm
       unfold PassR at HPC
       rw [hm'] at HPC
       clear hm hm'
       go_wp2_with (go_at_call 102; refine (Calls.mono HPC.out ?_); rintro e w5 ⟨rfl, hi, hx⟩; have HI5 : Hid (IRd g m L lv nv2 w5 d s) := hi; have HX5 : Hid (FX (XI g m nv2) (XI g m nv2) wr w5) := hx; clear hi hx)
       go_ret
       rw [HT1.out]
       refine ⟨ao, cap, F2, nv2, by rw [← HKN.out]; rfl, HK.out.1, by have := HK.out.2; have := HKN.out; show ks.length ≤ _; omega, ?_, HI5.out, HX.out.trans HX5.out⟩
       have := HR.out.step HX5.out
       rw [HKN.out] at this
       exact this
     | some r =>
       have hm' : mk? ⟨#[44]⟩ s.rest = some r := hm
       have hTs : (match termO false f 999 ⟨r, s.names⟩ with | none => none | some y => contT (termO false f) (ks ++ [y.1]) y.2) = T := by
         rw [← HC2.out]; unfold contT; rw [hm]; exact (termsO_cont hsh).symm
       have hlr := mk?_len hm
       have HLR : Hid (s.rest.length = r.length + 1) := hlr
       unfold PassR at HPC
       rw [hm'] at HPC
       clear hm hm' hlr
       go_upto_region 3 with (go_at_call 102; refine (Calls.mono HPC.out ?_); rintro e w5 ⟨rfl, hi, hx⟩; have HI5 : Hid (IRd g m L lv nv2 w5 d ⟨r, s.names⟩) := hi; have HX5 : Hid (FX (XI g m nv2) (XI g m nv2) wr w5) := hx; clear hi hx)
       have HT2 : Hid _ := HTT.out nv2 w5 ⟨r, s.names⟩ HI5.out
       cases h2 : termO false f 999 ⟨r, s.names⟩ with
       | none =>
         rw [h2] at hTs HT2
         have HTN : Hid (T = none) := hTs.symm
         clear hTs h2
         go_wp2_with (go_at_call 56; refine (Calls.mono HT2.out ?_); rintro e w6 ⟨rfl, nv3, hx⟩; have HX6 : Hid (FX (XI g m nv2) (XI g m nv3) w5 w6) := hx; clear hx)
         rw [HTN.out]
         exact ⟨rfl, rfl, _, (HX.out.trans HX5.out).trans HX6.out⟩
       | some y =>
         obtain ⟨t3, s3⟩ := y
         have hs3 := hsh _ _ _ _ h2
         rw [h2] at hTs HT2
         have HTN : Hid (contT (termO false f) (ks ++ [t3]) s3 = T) := hTs
         have HS3 : Hid (s3.rest.length < r.length) := hs3
         clear hTs h2 hs3
         have hkl : (KN : Int) ≤ 3000 := by have h1 := HK.out.2; have h2 := HKN.out; have h3 := HL.out; omega
         go_wp2_with (first
           | (go_at_call 56; refine (Calls.mono HT2.out ?_); rintro e w6 ⟨v, rfl, F3, nv3, ht, hi, hx⟩; have HX6 : Hid (FX (XI g m nv2) (XI g m nv3) w5 w6) := hx; have HI6 : Hid (IRd g m L lv nv3 w6 d s3) := hi; obtain ⟨k3, s3', n3, ao3, ln3, cp3, rfl⟩ := ht.form; have HT6 : Hid (TOk 24 (XI g m nv3) w5.heap.size w6 t3 (.agg #[.int .i64 k3, .string s3', .int .i64 n3, .slice ao3 ln3 cp3]) F3) := ht; have HRW : Hid _ := ((HR.out.step (HX5.out.trans HX6.out)).step (FX.of_below ((Below.refl _ _).alloc (Nat.le_refl _) (.cells #[.int .i64 k3, .string s3', .int .i64 n3, .slice ao3 ln3 cp3] 24)))).row; rw [← HKN.out] at HRW; obtain ⟨cs, F0, y1, y2, y3, y4, y5⟩ := HRW.out; have HY1 : Hid _ := y1; have HY2 : Hid _ := y2; have HY3 : Hid (F0.Nodup) := y3; have HY4 : Hid _ := y4; have HY5 : Hid _ := y5; clear ht hi hx y1 y2 y3 y4 y5 HRW)
           | (at_builtin; go_loud (refine wpList_append_own_at _ rfl _ _ 22 rfl 0 24 i0 (.agg #[.int .i64 0, .string ⟨#[]⟩, .int .i64 0, .slice none 0 0]) 4 56 Tryz.underlying22 hi hz0 hz1 hz2 rfl (by decide) _ _ _ rfl HY1.out ⟨w6.heap.size, 0, none⟩ 1 1 [.int .i64 k3, .string s3', .int .i64 n3, .slice ao3 ln3 cp3] rfl rfl ?c1 ?c2 ?c3 ?c4 ?c5 ?_)))
         case c1 =>
           intro q z hq
           match q, hq with
           | 0, hq => simp at hq; subst hq; simp [Addr.add]
           | 1, hq => simp at hq; subst hq; simp [Addr.add]
           | 2, hq => simp at hq; subst hq; simp [Addr.add]
           | 3, hq => simp at hq; subst hq; simp [Addr.add]
         case c2 => intro z hz; simp at hz; rcases hz with rfl | rfl | rfl | rfl <;> rfl
         case c3 => unfold maxLen; omega
         case c4 => omega
         case c5 => omega
         intro v' w7 hown' hgrow _ hat
         obtain ⟨V, hV⟩ : ∃ V, V = w6.alloc (.cells #[.int .i64 k3, .string s3', .int .i64 n3, .slice ao3 ln3 cp3] 24) := ⟨_, rfl⟩
         have bV : Below w6.heap.size w6 V := by rw [hV]; exact (Below.refl _ _).alloc (Nat.le_refl _) _
         have hatV : v'.ownBlock = (Value.slice ao KN cap).ownBlock ∨ v'.ownBlock = some V.heap.size := by rw [hV]; simpa using hat
         rw [← hV] at hgrow HY1 HY2
         clear hat hV
         have hKN := HKN.out
         have x5 := HX.out.trans HX5.out
         have RV := (HR.out.step (HX5.out.trans HX6.out)).step (FX.of_below bV)
         have TV := (HT6.out.lo_le (x5.size)).step (FX.of_below bV)
         have IV := HI6.out.keep bV
         have xV := (x5.trans HX6.out).trans (FX.of_below bV)
         obtain ⟨F7, R7, _⟩ := ROk.push RV TV (fun f hf g' hg' => by have h1 := HR.out.lt f hf; have h2 := (HT6.out.out g' hg').1; have h3 := HX5.out.size; omega) HY2.out HY3.out HY4.out HY5.out (by rw [← hKN]; exact hown') hgrow hatV (xV.size) (XI_new IV)
         have hown : ∀ b, (Value.slice ao KN cap).ownBlock = some b → w.heap.size ≤ b ∧ ¬ XI g m nv3 b := fun b hb => RV.out b (HY5.out b hb)
         have I7 : IRd g m L lv nv3 w7 d s3 := by
           refine IV.turn fun k hk => hgrow.block k ?_ (fun e => ?_)
           · rcases hk with hk | hk
             · have := IV.lt.1; omega
             · exact IV.lt.2.2 k hk
           · have h1 := hown k e.symm
             rcases hk with hk | hk
             · have := HH.out.lt.1; omega
             · exact h1.2 hk
         have X7 : FX (XI g m nv) (XI g m nv3) w w7 := xV.grow hgrow fun k hk => (hown k hk).1
         obtain ⟨a2, cp2, hv2⟩ : ∃ ao cap, v' = .slice ao (KN + 1) cap := by obtain ⟨ao', cap', e⟩ := R7.slice; exact ⟨ao', cap', by rw [e, hKN]; simp⟩
         subst hv2
         have HR7 : Hid _ := R7
         have HI7 : Hid _ := I7
         have HX7 : Hid _ := X7
         clear hown' hgrow hatV x5 RV TV IV xV hown I7 X7 R7 bV hKN HY1 HY2 HY3 HY4 HY5
         go_wp2
         go_roundw
         case rel =>
           have hKN := HKN.out
           have e1 : KN + 1 = (ks ++ [t3]).length := by simp [hKN]
           have h7 := HR7.out
           rw [e1] at h7
           exact ⟨nv3, ks ++ [t3], a2, cp2, F7, s3, by rw [e1], ⟨by simp, by have h1 := HK.out.2; have h2 := HS3.out; have h3 := HLR.out; simp; omega⟩, h7, HI7.out, HX7.out, HTN.out⟩
         case measure =>
           rw [HMS.out, msrI_of HI7.out]
           have h2 := HS3.out; have h3 := HLR.out; omega
end Go.Proofs.YtbkjcccbjnehbanGreatDoor

namespace Go.Proofs.YtbkjcccbjnehbanGreatDoor
open Go.RowKit
theorem fin_keep {g m : Nat} {L : List Sg} {lv nv nv' : Value} {w V w2 : World} {d : Nat} {st : St} (h : IRd g m L lv nv w d st) (hV : w.heap.size < V.heap.size) (hX : FX (XI g m nv) (XI g m nv') V w2) :
   ¬ XI g m nv' w.heap.size ∧ w2.heap[w.heap.size]? = V.heap[w.heap.size]? := by
 have hn : ¬ XI g m nv w.heap.size := fun hh => by have := h.lt.2.2 _ hh; omega
 refine ⟨fun hh => ?_, hX.block _ hV hn⟩
 rcases hX.new _ hh with h1 | h1
 · exact hn h1
 · omega
theorem TmRI.fin {g m : Nat} {L : List Sg} {lv nv nv' : Value} {w w2 w3 : World} {d e : Nat} {st s : St} {t : Tm} {v d0 d1 d2 d3 : Value} {F : List Nat} (h : IRd g m L lv nv w e st) (hX : FX (XI g m nv) (XI g m nv') w w2) (hn : ¬ XI g m nv' w.heap.size)
   (hT : TOk 24 (XI g m nv') (w.heap.size + 1) w2 t v F) (hI : IRd g m L lv nv' w2 d s)
   (hw : w3 = (((w2.setCell ⟨w.heap.size, 0, none⟩ d0).setCell ⟨w.heap.size, 1, none⟩ d1).setCell ⟨w.heap.size, 2, none⟩ d2).setCell ⟨w.heap.size, 3, none⟩ d3) : TmRI g m L lv nv w v w3 (t, s) d := by
 have oE : ∀ k, k ≠ w.heap.size → w3.heap[k]? = w2.heap[k]? := fun k hk => by rw [hw]; exact blk4_other hk
 have hg := h.lt.1
 refine ⟨F, nv', ?_, ?_, ?_⟩
 · exact (hT.turn fun k hk _ => oE k (by omega)).lo_le (by omega)
 · exact hI.turn fun k hk => oE k (fun e => by
     rcases hk with hk | hk
     · omega
     · rw [e] at hk; exact hn hk)
 · rw [hw]
   exact (((hX.set (Or.inr (Nat.le_refl _)) _).set (Or.inr (Nat.le_refl _)) _).set (Or.inr (Nat.le_refl _)) _).set (Or.inr (Nat.le_refl _)) _
def namedO (tm : Int → St → Option (Tm × St)) (s : ByteArray) (r : List Sg) (names : List ByteArray) : Option (Tm × St) := match mk? cLpar r with
 | none => none
 | some r1 => match termsO tm [] ⟨r1, names⟩ with
   | none => none
   | some y => match mk? cRpar y.2.rest with
     | none => none
     | some r2 => some (structTm s y.1, ⟨r2, y.2.names⟩)
set_option maxHeartbeats 4000000 in
theorem i_named (f g m : Nat) (L : List Sg) (lv nv : Value) (d : Nat) (x : Sg) (r : List Sg) (names : List ByteArray) (s : ByteArray) (w : World) (hL : L.length ≤ 3000) (hs : s.size ≤ 3000) (hf : d + f = 130) (hT : TermCI f g m L lv) (h : IRd g m L lv nv w d ⟨x :: r, names⟩) :
   Calls Tryz.prog 87 #[.pointer (some ⟨g, 0, none⟩), .string s] w fun e w' => EndI g m L lv nv w d (namedO (termO false f) s r names) e w' := by
 obtain ⟨W, hW⟩ : ∃ W, W = w.alloc (.cells #[.int .i64 0, .string ⟨#[]⟩, .int .i64 0, .slice none 0 0] 24) := ⟨_, rfl⟩
 have bW : Below w.heap.size w W := by rw [hW]; exact (Below.refl _ _).alloc (Nat.le_refl _) _
 have sW : W.heap.size = w.heap.size + 1 := by rw [hW]; simp
 have kW : W.heap[w.heap.size]? = some (.cells #[.int .i64 0, .string ⟨#[]⟩, .int .i64 0, .slice none 0 0] 24 (0, 0)) := by rw [hW]; exact heap_alloc_new _ _
 have HH : Hid (IRd g m L lv nv w d ⟨x :: r, names⟩) := h
 have hlt := h.lt
 obtain ⟨p, c1, hp, f1, hI⟩ := (h.keep bW).step
 have hwr : IntKind.i64.wrap ((p : Int) + 1) = ((p + 1 : Nat) : Int) := by rw [IntKind.wrap_i64]; omega
 obtain ⟨V, hV⟩ : ∃ V, V = W.setCell ⟨g, 1, none⟩ (.int .i64 ((p + 1 : Nat) : Int)) := ⟨_, rfl⟩
 rw [← hV] at hI
 have hc : ((p + 1 : Nat) : Int) = (p : Int) + 1 := by omega
 rw [hc] at hwr hV
 clear hc
 have HFV : Hid (FX (XI g m nv) (XI g m nv) w V) := by rw [hV]; exact (FX.of_below bW).set (Or.inl (Or.inl rfl)) _
 have HKV : Hid (V.heap[w.heap.size]? = some (.cells #[.int .i64 0, .string ⟨#[]⟩, .int .i64 0, .slice none 0 0] 24 (0, 0))) := by
   show _ = _
   rw [hV, blk_other _ (by omega)]; exact kW
 have HSV : Hid (V.heap.size = w.heap.size + 1) := by show _ = _; rw [hV, ← sW]; simp [World.setCell]
 have HIV : Hid (IRd g m L lv nv V d ⟨r, names⟩) := hI
 have HL : Hid (L.length ≤ 3000) := hL
 have HTC : Hid (TermCI f g m L lv) := hT
 have HF : Hid (d + f = 130) := hf
 have HSZ : Hid (s.size ≤ 3000) := hs
 clear hI hT hlt h bW sW kW hf hL hs
 obtain ⟨N, hN⟩ : ∃ N, N = namedO (termO false f) s r names := ⟨_, rfl⟩
 rw [← hN]
 unfold namedO at hN
 have HM1 := i_mustPass g m L lv nv d ⟨r, names⟩ ⟨#[40]⟩ V HL.out HIV.out
 go_enter Tryz.func87, Tryz.ntmps87
 go_upto_region 1 with fail
 rw [← hW]
 clear hW
 go_upto_region 2 with fail
 rw [← hV]
 clear hV hwr c1 f1 hp
 cases hk : mk? cLpar r with
 | none =>
   have hk' : mk? ⟨#[40]⟩ (⟨r, names⟩ : St).rest = none := hk
   rw [hk'] at HM1
   rw [hk] at hN
   have HN : Hid (N = none) := hN
   replace HM1 : Hid _ := HM1
   clear hk hk' hN
   go_wp2_with (go_at_call 100; refine (Calls.mono HM1.out ?_); rintro e w1 ⟨hx, rfl⟩; have HX1 : Hid (FX (XI g m nv) (XI g m nv) V w1) := hx; clear hx)
   rw [HN.out]
   exact ⟨rfl, rfl, _, HFV.out.trans HX1.out⟩
 | some r1 =>
   have hk' : mk? ⟨#[40]⟩ (⟨r, names⟩ : St).rest = some r1 := hk
   rw [hk'] at HM1
   rw [hk] at hN
   simp only at hN
   replace HM1 : Hid _ := HM1
   clear hk hk'
   go_upto_region 3 with (go_at_call 100; refine (Calls.mono HM1.out ?_); rintro e w1 ⟨hx, rfl, hi⟩; have HX1 : Hid (FX (XI g m nv) (XI g m nv) V w1) := hx; have HI1 : Hid (IRd g m L lv nv w1 d ⟨r1, names⟩) := hi; clear hx hi)
   have HT := i_terms f g m L lv nv d ⟨r1, names⟩ w1 HL.out HF.out HTC.out HI1.out
   cases ht : termsO (termO false f) [] ⟨r1, names⟩ with
   | none =>
     rw [ht] at HT hN
     have HN : Hid (N = none) := hN
     replace HT : Hid _ := HT
     clear ht hN
     go_wp2_with (go_at_call 101; refine (Calls.mono HT.out ?_); rintro e w2 ⟨rfl, nv2, hx⟩; have HX2 : Hid (FX (XI g m nv) (XI g m nv2) w1 w2) := hx; clear hx)
     rw [HN.out]
     exact ⟨rfl, rfl, _, (HFV.out.trans HX1.out).trans HX2.out⟩
   | some y =>
     obtain ⟨ks, s1⟩ := y
     rw [ht] at HT hN
     simp only at hN
     unfold EndTs at HT
     simp only at HT
     replace HT : Hid _ := HT
     obtain ⟨KN, hKN⟩ : ∃ KN, KN = ks.length := ⟨_, rfl⟩
     rw [← hKN] at HT
     have HKN : Hid (KN = ks.length) := hKN
     clear ht hKN
     go_upto_region 4 with (go_at_call 101; refine (Calls.mono HT.out ?_); rintro e w2 ⟨ao, cap, F, nv2, rfl, _, _, hr, hi, hx⟩; have HX2 : Hid (FX (XI g m nv) (XI g m nv2) w1 w2) := hx; have HI2 : Hid (IRd g m L lv nv2 w2 d s1) := hi; have HR2 : Hid (ROk 24 (XI g m nv2) w1.heap.size w2 ks (.slice ao KN cap) F) := hr; clear hx hi hr)
     have HM2 := i_mustPass g m L lv nv2 d s1 ⟨#[41]⟩ w2 HL.out HI2.out
     cases hk : mk? cRpar s1.rest with
     | none =>
       have hk' : mk? ⟨#[41]⟩ s1.rest = none := hk
       rw [hk'] at HM2
       rw [hk] at hN
       have HN : Hid (N = none) := hN
       replace HM2 : Hid _ := HM2
       clear hk hk' hN
       go_wp2_with (go_at_call 100; refine (Calls.mono HM2.out ?_); rintro e w3 ⟨hx, rfl⟩; have HX3 : Hid (FX (XI g m nv2) (XI g m nv2) w2 w3) := hx; clear hx)
       rw [HN.out]
       exact ⟨rfl, rfl, _, ((HFV.out.trans HX1.out).trans HX2.out).trans HX3.out⟩
     | some r2 =>
       have hk' : mk? ⟨#[41]⟩ s1.rest = some r2 := hk
       rw [hk'] at HM2
       rw [hk] at hN
       have HN : Hid (N = some (structTm s ks, ⟨r2, s1.names⟩)) := hN
       replace HM2 : Hid _ := HM2
       clear hk hk' hN
       go_upto_region 5 with (go_at_call 100; refine (Calls.mono HM2.out ?_); rintro e w3 ⟨hx, rfl, hi⟩; have HX3 : Hid (FX (XI g m nv2) (XI g m nv2) w2 w3) := hx; have HI3 : Hid (IRd g m L lv nv2 w3 d ⟨r2, s1.names⟩) := hi; clear hx hi)
       have HST : Hid _ := i_structOf s ao KN cap w3 (by have := HSZ.out; omega)
       have xA : FX (XI g m nv) (XI g m nv2) V w3 := (HX1.out.trans HX2.out).trans HX3.out
       have hsv := HSV.out
       have HA : Hid (∀ w4, Below w3.heap.size w3 w4 → ¬ XI g m nv2 w.heap.size ∧ w4.heap[w.heap.size]? = some (.cells #[.int .i64 0, .string ⟨#[]⟩, .int .i64 0, .slice none 0 0] 24 (0, 0))) := fun w4 hb => by
         have := fin_keep HH.out (by omega) (xA.trans (FX.of_below hb))
         exact ⟨this.1, this.2.trans HKV.out⟩
       have HTZ : Hid (∀ w4, Below w3.heap.size w3 w4 → TOk 24 (XI g m nv2) (w.heap.size + 1) w4 (structTm s ks) (.agg #[.int .i64 4, .string s, .int .i64 0, .slice ao KN cap]) F ∧ IRd g m L lv nv2 w4 d ⟨r2, s1.names⟩ ∧ FX (XI g m nv) (XI g m nv2) w w4) := fun w4 hb =>
         ⟨(((HR2.out.step HX3.out).step (FX.of_below hb)).tm (by have := HSZ.out; unfold maxLen; omega)).lo_le (by have := HX1.out.size; omega), HI3.out.keep hb, (HFV.out.trans xA).trans (FX.of_below hb)⟩
       clear xA hsv
       go_wp2_with (go_at_call 75; refine (Calls.mono HST.out ?_); rintro e w4 ⟨rfl, hb⟩; obtain ⟨hn, hk⟩ := HA.out w4 hb; obtain ⟨q0, q1, q2, q3, fz0, fz1, fz2, fz3⟩ := blk4 hk; have HKE : Hid _ := hk; have HNE : Hid (¬ XI g m nv2 w.heap.size) := hn; have HZZ : Hid _ := HTZ.out w4 hb; clear hb hn hk)
       refine bodyPost_ret_by (results_cell_row rfl _ _ w.heap.size 24 _ (0, 0) _ rfl (blk4_set HKE.out) Tryz.underlying24 rfl (by kernel_rfl)) rfl ?_
       rw [HN.out]
       exact ⟨_, rfl, TmRI.fin HH.out HZZ.out.2.2 HNE.out HZZ.out.1 HZZ.out.2.1 rfl⟩
end Go.Proofs.YtbkjcccbjnehbanGreatDoor

namespace Go.Proofs.YtbkjcccbjnehbanGreatDoor
open Go.RowKit
def XJ (g m : Nat) (nv : Value) (B : Nat) : Nat → Prop := fun k => XI g m nv k ∨ k = B
theorem FX.liftJ {g m B : Nat} {nv nv' : Value} {w w' : World} (h : FX (XI g m nv) (XI g m nv') w w') : FX (XJ g m nv B) (XJ g m nv' B) w w' :=
 ⟨h.os, h.tape, h.output, h.size, fun k hk hx => h.block k hk (fun hh => hx (Or.inl hh)), fun k hk => hk.elim (fun h1 => (h.new k h1).elim (fun h2 => Or.inl (Or.inl h2)) Or.inr) (fun e => Or.inl (Or.inr e))⟩
theorem TOk.weakJ {e : TypeId} {g m B : Nat} {nv : Value} {lo : Nat} {w : World} {t : Tm} {v : Value} {F : List Nat} (h : TOk e (XJ g m nv B) lo w t v F) : TOk e (XI g m nv) lo w t v F :=
 ⟨h.own, h.nd, fun f hf => ⟨(h.out f hf).1, fun hh => (h.out f hf).2 (Or.inl hh)⟩⟩
theorem TOk.toJ {e : TypeId} {g m B : Nat} {nv : Value} {lo : Nat} {w : World} {t : Tm} {v : Value} {F : List Nat} (h : TOk e (XI g m nv) lo w t v F) (hB : ∀ f ∈ F, f ≠ B) : TOk e (XJ g m nv B) lo w t v F :=
 ⟨h.own, h.nd, fun f hf => ⟨(h.out f hf).1, fun hh => hh.elim (h.out f hf).2 (hB f hf)⟩⟩
theorem ROk.toJ {e : TypeId} {g m B : Nat} {nv : Value} {lo : Nat} {w : World} {ks : List Tm} {sl : Value} {F : List Nat} (h : ROk e (XI g m nv) lo w ks sl F) (hB : ∀ f ∈ F, f ≠ B) : ROk e (XJ g m nv B) lo w ks sl F :=
 ⟨h.own, h.nd, fun f hf => ⟨(h.out f hf).1, fun hh => hh.elim (h.out f hf).2 (hB f hf)⟩⟩
theorem ROk.lo_le {e : TypeId} {X : Nat → Prop} {lo lo' : Nat} {w : World} {ks : List Tm} {sl : Value} {F : List Nat} (h : ROk e X lo w ks sl F) (hl : lo' ≤ lo) : ROk e X lo' w ks sl F :=
 ⟨h.own, h.nd, fun f hm => ⟨Nat.le_trans hl (h.out f hm).1, (h.out f hm).2⟩⟩
def itemsO (tm : Int → St → Option (Tm × St)) (r : List Sg) (names : List ByteArray) : Option (Tm × St) := match termsO tm [] ⟨r, names⟩ with
 | none => none
 | some y => match mk? cBar y.2.rest with
   | some r1 => (match tm 999 ⟨r1, y.2.names⟩ with
     | none => none
     | some z => match mk? cRbr z.2.rest with
       | some r2 => some (consTm y.1 z.1, ⟨r2, z.2.names⟩)
       | none => none)
   | none => match mk? cRbr y.2.rest with
     | some r2 => some (consTm y.1 nilTm, ⟨r2, y.2.names⟩)
     | none => none
set_option maxHeartbeats 16000000 in
set_option maxRecDepth 20000 in
theorem i_list (f g m : Nat) (L : List Sg) (lv nv : Value) (d : Nat) (x : Sg) (r : List Sg) (names : List ByteArray) (w : World) (hL : L.length ≤ 3000) (hf : d + f = 130) (hT : TermCI f g m L lv) (h : IRd g m L lv nv w d ⟨x :: r, names⟩) :
   Calls Tryz.prog 91 #[.pointer (some ⟨g, 0, none⟩)] w fun e w' => EndI g m L lv nv w d (itemsO (termO false f) r names) e w' := by
 obtain ⟨W, hW⟩ : ∃ W, W = w.alloc (.cells #[.int .i64 0, .string ⟨#[]⟩, .int .i64 0, .slice none 0 0] 24) := ⟨_, rfl⟩
 have bW : Below w.heap.size w W := by rw [hW]; exact (Below.refl _ _).alloc (Nat.le_refl _) _
 have sW : W.heap.size = w.heap.size + 1 := by rw [hW]; simp
 have kW : W.heap[w.heap.size]? = some (.cells #[.int .i64 0, .string ⟨#[]⟩, .int .i64 0, .slice none 0 0] 24 (0, 0)) := by rw [hW]; exact heap_alloc_new _ _
 have HH : Hid (IRd g m L lv nv w d ⟨x :: r, names⟩) := h
 have hlt := h.lt
 obtain ⟨p, c1, hp, f1, hI⟩ := (h.keep bW).step
 have hwr : IntKind.i64.wrap ((p : Int) + 1) = ((p + 1 : Nat) : Int) := by rw [IntKind.wrap_i64]; omega
 obtain ⟨V, hV⟩ : ∃ V, V = W.setCell ⟨g, 1, none⟩ (.int .i64 ((p + 1 : Nat) : Int)) := ⟨_, rfl⟩
 rw [← hV] at hI
 have hc : ((p + 1 : Nat) : Int) = (p : Int) + 1 := by omega
 rw [hc] at hwr hV
 clear hc
 have HFV : Hid (FX (XI g m nv) (XI g m nv) w V) := by rw [hV]; exact (FX.of_below bW).set (Or.inl (Or.inl rfl)) _
 have HKV : Hid (V.heap[w.heap.size]? = some (.cells #[.int .i64 0, .string ⟨#[]⟩, .int .i64 0, .slice none 0 0] 24 (0, 0))) := by
   show _ = _
   rw [hV, blk_other _ (by omega)]; exact kW
 have HSV : Hid (V.heap.size = w.heap.size + 1) := by show _ = _; rw [hV, ← sW]; simp [World.setCell]
 have HIV : Hid (IRd g m L lv nv V d ⟨r, names⟩) := hI
 have HL : Hid (L.length ≤ 3000) := hL
 have HTC : Hid (TermCI f g m L lv) := hT
 have HF : Hid (d + f = 130) := hf
 clear hI hT hlt h bW sW kW hf hL
 obtain ⟨N, hN⟩ : ∃ N, N = itemsO (termO false f) r names := ⟨_, rfl⟩
 rw [← hN]
 unfold itemsO at hN
 have HT := i_terms f g m L lv nv d ⟨r, names⟩ V HL.out HF.out HTC.out HIV.out
 go_enter Tryz.func91, Tryz.ntmps91
 go_upto_region 1 with fail
 rw [← hW]
 clear hW
 go_upto_region 2 with fail
 rw [← hV]
 clear hV hwr c1 f1 hp
 cases ht : termsO (termO false f) [] ⟨r, names⟩ with
 | none =>
   rw [ht] at HT hN
   have HN : Hid (N = none) := hN
   replace HT : Hid _ := HT
   clear ht hN
   go_wp2_with (go_at_call 101; refine (Calls.mono HT.out ?_); rintro e w2 ⟨rfl, nv2, hx⟩; have HX2 : Hid (FX (XI g m nv) (XI g m nv2) V w2) := hx; clear hx)
   rw [HN.out]
   exact ⟨rfl, rfl, _, HFV.out.trans HX2.out⟩
 | some y =>
   obtain ⟨ks, s0⟩ := y
   rw [ht] at HT hN
   simp only at hN
   unfold EndTs at HT
   simp only at HT
   replace HT : Hid _ := HT
   obtain ⟨KN, hKN⟩ : ∃ KN, KN = ks.length := ⟨_, rfl⟩
   rw [← hKN] at HT
   have HKN : Hid (KN = ks.length) := hKN
   clear ht hKN
   go_upto_region 3 with (go_at_call 101; refine (Calls.mono HT.out ?_); rintro e w1 ⟨ao, cap, F, nv1, rfl, _, hk3, hr, hi, hx⟩; have HX1 : Hid (FX (XI g m nv) (XI g m nv1) V w1) := hx; have HI1 : Hid (IRd g m L lv nv1 w1 d s0) := hi; have HR1 : Hid (ROk 24 (XI g m nv1) V.heap.size w1 ks (.slice ao KN cap) F) := hr; have HK3 : Hid ((KN : Int) ≤ 3000) := (by show _ ≤ _; have := HL.out; omega); clear hx hi hr hk3)
   have HAT : Hid _ := i_atomOf ⟨#[91, 93]⟩ w1 (by decide)
   go_upto_region 4 with (go_at_call 89; refine (Calls.mono HAT.out ?_); rintro e w2 ⟨rfl, hb⟩; have HB2 : Hid (Below w1.heap.size w1 w2) := hb; clear hb)
   obtain ⟨W2, hW2⟩ : ∃ W2, W2 = w2.alloc (.cells #[.int .i64 2, .string ⟨#[91, 93]⟩, .int .i64 0, .slice none 0 0] 24) := ⟨_, rfl⟩
   rw [← hW2]
   obtain ⟨B4, hB4⟩ : ∃ B4, B4 = w2.heap.size := ⟨_, rfl⟩
   rw [← hB4]
   have bW2 : Below w2.heap.size w2 W2 := by rw [hW2]; exact (Below.refl _ _).alloc (Nat.le_refl _) _
   have HBW2 : Hid (Below w1.heap.size w1 W2) := HB2.out.trans (bW2.mono HB2.out.size)
   have HS2 : Hid (B4 + 1 = W2.heap.size ∧ w1.heap.size ≤ B4) := ⟨by rw [hW2, hB4]; simp, by rw [hB4]; exact HB2.out.size⟩
   have HKB2 : Hid (W2.heap[B4]? = some (.cells #[.int .i64 2, .string ⟨#[91, 93]⟩, .int .i64 0, .slice none 0 0] 24 (0, 0))) := by rw [hW2, hB4]; exact heap_alloc_new _ _
   have HI2 : Hid (IRd g m L lv nv1 W2 d s0) := HI1.out.keep HBW2.out
   have HNB : Hid (¬ XI g m nv1 B4) := fun hh => by have := HI1.out.lt.2.2 _ hh; have := HS2.out.2; omega
   have HB4W : Hid (w.heap.size < B4) := by show _ < _; have := HS2.out.2; have := HX1.out.size; have := HSV.out; omega
   have HFB : Hid (∀ f ∈ F, f ≠ B4 ∧ f < B4) := fun f hf => by have := HR1.out.lt f hf; have := HS2.out.2; omega
   have HPA := i_passed g m L lv nv1 d s0 ⟨#[124]⟩ W2 HL.out HI2.out
   clear hW2 hB4 bW2 HAT HB2
   cases hk : mk? cBar s0.rest with
   | some r1 =>
     have hk' : mk? ⟨#[124]⟩ s0.rest = some r1 := hk
     unfold PassR at HPA
     rw [hk'] at HPA
     rw [hk] at hN
     simp only at hN
     replace HPA : Hid _ := HPA
     clear hk hk'
     go_upto_region 5 with (go_at_call 102; refine (Calls.mono HPA.out ?_); rintro e w3 ⟨rfl, hi, hx⟩; have HI3 : Hid (IRd g m L lv nv1 w3 d ⟨r1, s0.names⟩) := hi; have HX3 : Hid (FX (XI g m nv1) (XI g m nv1) W2 w3) := hx; clear hi hx)
     have HT3 := HTC.out d 999 ⟨r1, s0.names⟩ nv1 w3 HF.out HI3.out
     cases ht : termO false f 999 ⟨r1, s0.names⟩ with
     | none =>
       rw [ht] at HT3 hN
       have HN : Hid (N = none) := hN
       replace HT3 : Hid _ := HT3
       clear ht hN
       go_wp2_with (go_at_call 56; refine (Calls.mono HT3.out ?_); rintro e w4 ⟨rfl, nv4, hx⟩; have HX4 : Hid (FX (XI g m nv1) (XI g m nv4) w3 w4) := hx; clear hx)
       rw [HN.out]
       exact ⟨rfl, rfl, _, (((HFV.out.trans HX1.out).trans (FX.of_below HBW2.out)).trans HX3.out).trans HX4.out⟩
     | some z =>
       obtain ⟨tz, s4⟩ := z
       rw [ht] at HT3 hN
       simp only at hN
       replace HT3 : Hid _ := HT3
       clear ht
       have HKB3 : Hid (w3.heap[B4]? = some (.cells #[.int .i64 2, .string ⟨#[91, 93]⟩, .int .i64 0, .slice none 0 0] 24 (0, 0))) := (HX3.out.block B4 (by have := HS2.out.1; omega) HNB.out).trans HKB2.out
       have HB3L : Hid (B4 < w3.heap.size) := (Array.getElem?_eq_some_iff.1 HKB3.out).1
       go_upto_region 6 with (go_at_call 56; refine (Calls.mono HT3.out ?_); rintro e w4 ⟨v, rfl, Ftz, nvz, ht, hi, hx⟩; have HX4 : Hid (FX (XI g m nv1) (XI g m nvz) w3 w4) := hx; have HI4 : Hid (IRd g m L lv nvz w4 d s4) := hi; obtain ⟨k1, s1, n1, ao1, ln1, cp1, rfl⟩ := ht.form; have HT4 : Hid (TOk 24 (XI g m nvz) w3.heap.size w4 tz (.agg #[.int .i64 k1, .string s1, .int .i64 n1, .slice ao1 ln1 cp1]) Ftz) := ht; have hkb := (hx.block B4 HB3L.out HNB.out).trans HKB3.out; obtain ⟨g0, g1, g2, g3, fg0, fg1, fg2, fg3⟩ := blk4 hkb; have HKB4 : Hid _ := hkb; clear ht hi hx hkb)
       obtain ⟨W4, hW4⟩ : ∃ W4, W4 = (((w4.setCell ⟨B4, 0, none⟩ (.int .i64 k1)).setCell ⟨B4, 1, none⟩ (.string s1)).setCell ⟨B4, 2, none⟩ (.int .i64 n1)).setCell ⟨B4, 3, none⟩ (.slice ao1 ln1 cp1) := ⟨_, rfl⟩
       rw [← hW4]
       have hNz : ¬ XI g m nvz B4 := fun hh => (HX4.out.new B4 hh).elim HNB.out (fun h1 => by have := HB3L.out; omega)
       have oE : ∀ k, k ≠ B4 → W4.heap[k]? = w4.heap[k]? := fun k hk => by rw [hW4]; exact blk4_other hk
       have HNZ : Hid (¬ XI g m nvz B4) := hNz
       have hgB : g < B4 := by have := HH.out.lt.1; have := HB4W.out; omega
       have hI4 : IRd g m L lv nvz W4 d s4 := HI4.out.turn fun k hk => oE k (fun e => by
         rcases hk with hk | hk
         · omega
         · rw [e] at hk; exact hNz hk)
       have x04 : FX (XI g m nv) (XI g m nvz) w w4 := (((HFV.out.trans HX1.out).trans (FX.of_below HBW2.out)).trans HX3.out).trans HX4.out
       have HX04 : Hid (FX (XI g m nv) (XI g m nvz) w W4) := by
         have hbw := HB4W.out
         rw [hW4]
         exact (((x04.set (Or.inr (by omega)) _).set (Or.inr (by omega)) _).set (Or.inr (by omega)) _).set (Or.inr (by omega)) _
       have HKB5 : Hid (W4.heap[B4]? = some (.cells #[.int .i64 k1, .string s1, .int .i64 n1, .slice ao1 ln1 cp1] 24 (0, 0))) := by rw [hW4]; exact blk4_set HKB4.out
       have hfz : ∀ f ∈ Ftz, f ≠ B4 := fun f hf => by have := (HT4.out.out f hf).1; have := HB3L.out; omega
       have HT5 : Hid (TOk 24 (XJ g m nvz B4) (w.heap.size + 1) W4 tz (.agg #[.int .i64 k1, .string s1, .int .i64 n1, .slice ao1 ln1 cp1]) Ftz) := ((HT4.out.toJ hfz).turn fun k hk hx => oE k (fun e => hx (Or.inr e))).lo_le (by have := HB3L.out; have := HB4W.out; omega)
       have HR5 : Hid (ROk 24 (XJ g m nvz B4) (w.heap.size + 1) W4 ks (.slice ao KN cap) F) := (((((HR1.out.step (FX.of_below HBW2.out)).step HX3.out).step HX4.out).toJ (fun f hf => (HFB.out f hf).1)).turn fun k hk hx => oE k (fun e => hx (Or.inr e))).lo_le (by have := HSV.out; omega)
       have HD5 : Hid (∀ f ∈ F, ∀ h ∈ Ftz, f ≠ h) := fun f hf h hh e => by have := (HT4.out.out h hh).1; have := (HFB.out f hf).2; have := HB3L.out; omega
       have HI5 : Hid (IRd g m L lv nvz W4 d s4) := hI4
       have HP5 : Hid (¬ XI g m nvz w.heap.size ∧ W4.heap[w.heap.size]? = some (.cells #[.int .i64 0, .string ⟨#[]⟩, .int .i64 0, .slice none 0 0] 24 (0, 0))) := by
         have h1 := fin_keep HH.out (by have := HSV.out; omega) (((HX1.out.trans (FX.of_below HBW2.out)).trans HX3.out).trans HX4.out)
         exact ⟨h1.1, (oE _ (by have := HB4W.out; omega)).trans (h1.2.trans HKV.out)⟩
       have HMP := i_mustPass g m L lv nvz d s4 ⟨#[93]⟩ W4 HL.out hI4
       clear hW4 hNz oE hgB hI4 x04 hfz g0 g1 g2 g3 fg0 fg1 fg2 fg3
       cases hk : mk? cRbr s4.rest with
       | none =>
         have hk' : mk? ⟨#[93]⟩ s4.rest = none := hk
         rw [hk'] at HMP
         rw [hk] at hN
         have HN : Hid (N = none) := hN
         replace HMP : Hid _ := HMP
         clear hk hk' hN
         go_wp2_with (go_at_call 100; refine (Calls.mono HMP.out ?_); rintro e w5 ⟨hx, rfl⟩; have HX5 : Hid (FX (XI g m nvz) (XI g m nvz) W4 w5) := hx; clear hx)
         rw [HN.out]
         exact ⟨rfl, rfl, _, HX04.out.trans HX5.out⟩
       | some r2 =>
         have hk' : mk? ⟨#[93]⟩ s4.rest = some r2 := hk
         rw [hk'] at HMP
         rw [hk] at hN
         have HRES : Hid (N = some (consTm ks tz, ⟨r2, s4.names⟩)) := hN
         replace HMP : Hid _ := HMP
         clear hk hk' hN
         go_upto_region 7 with (go_at_call 100; refine (Calls.mono HMP.out ?_); rintro e wz ⟨hx, rfl, hi⟩; have HX5 : Hid (FX (XI g m nvz) (XI g m nvz) W4 wz) := hx; have HIZ : Hid (IRd g m L lv nvz wz d ⟨r2, s4.names⟩) := hi; clear hx hi)
         have hB5 : B4 < W4.heap.size := (Array.getElem?_eq_some_iff.1 HKB5.out).1
         have HXZ : Hid (FX (XI g m nv) (XI g m nvz) w wz) := HX04.out.trans HX5.out
         have HKZ : Hid (wz.heap[B4]? = _) := (HX5.out.block B4 hB5 HNZ.out).trans HKB5.out
         have HTZ : Hid _ := HT5.out.step HX5.out.liftJ
         have HRZ : Hid _ := HR5.out.step HX5.out.liftJ
         have HDZ : Hid _ := HD5.out
         have HPZ : Hid (¬ XI g m nvz w.heap.size ∧ wz.heap[w.heap.size]? = some (.cells #[.int .i64 0, .string ⟨#[]⟩, .int .i64 0, .slice none 0 0] 24 (0, 0))) := ⟨HP5.out.1, (HX5.out.block _ (by have := HB4W.out; omega) HP5.out.1).trans HP5.out.2⟩
         clear hB5
         have hKN3 : (KN : Int) ≤ 3000 := HK3.out
         obtain ⟨FJ, hj1, hj2, hj3, hj4⟩ := RJ.first HRZ.out
         have HJZ : Hid (RJ 24 wz ks (.slice ao KN cap) KN FJ ∧ FJ.Nodup ∧ (∀ f ∈ FJ, f ∈ F) ∧ (∀ b, (Value.slice ao KN cap).ownBlock = some b → b ∈ F)) := by
           rw [← HKN.out] at hj1
           exact ⟨hj1, hj2, hj3, hj4⟩
         clear hj1 hj2 hj3 hj4
         have HFZ : Hid (∀ f ∈ F, w.heap.size + 1 ≤ f ∧ ¬ XJ g m nvz B4 f) := HRZ.out.out
         have HOZ : Hid (∀ b, (Value.slice ao KN cap).ownBlock = some b → b ∈ F) := HJZ.out.2.2.2
         go_wp2
         go_loopw [5] (fun vi wq => ∃ (j : Nat) (z : Int) (Fj Ft : List Nat) (tt : Tm) (m1 : Int) (m2 : ByteArray) (m3 : Int) (m4 : Option Addr) (m5 m6 : Nat), j ≤ KN ∧ vi = .int .i64 z ∧ Hid (z = (j : Int) - 1) ∧ Hid (RJ 24 wq ks (.slice ao KN cap) j Fj ∧ Fj.Nodup ∧ ∀ f ∈ Fj, f ∈ F) ∧ Hid (wq.heap[B4]? = some (.cells #[.int .i64 m1, .string m2, .int .i64 m3, .slice m4 m5 m6] 24 (0, 0))) ∧ Hid (TOk 24 (XJ g m nvz B4) (w.heap.size + 1) wq tt (.agg #[.int .i64 m1, .string m2, .int .i64 m3, .slice m4 m5 m6]) Ft) ∧ Hid (∀ f ∈ Fj, ∀ h ∈ Ft, f ≠ h) ∧ Hid (IRd g m L lv nvz wq d ⟨r2, s4.names⟩) ∧ Hid (FX (XI g m nv) (XI g m nvz) w wq) ∧ Hid (consTm (ks.take j) tt = consTm ks tz) ∧ Hid (∀ f ∈ F, f < wq.heap.size) ∧ Hid (wq.heap[w.heap.size]? = some (.cells #[.int .i64 0, .string ⟨#[]⟩, .int .i64 0, .slice none 0 0] 24 (0, 0)))) (fun i _ => (intOf i + 1).toNat)
         case atStart => exact ⟨KN, _, FJ, Ftz, tz, k1, s1, n1, ao1, ln1, cp1, Nat.le_refl _, rfl, rfl, ⟨HJZ.out.1, HJZ.out.2.1, HJZ.out.2.2.1⟩, HKZ.out, HTZ.out, (fun f hf h hh => HDZ.out f (HJZ.out.2.2.1 f hf) h hh), HIZ.out, HXZ.out, (by show _ = _; rw [HKN.out, List.take_length]), HRZ.out.lt, HPZ.out.2⟩
         case round =>
           obtain ⟨j, z, Fj, Ft, tt, m1, m2, m3, m4, m5, m6, hjK, rfl, HZ, HRJ, HKB, HTT2, HDD, HSS, HXX, HCC, HFF, HPP⟩ := hrel
           rcases j with _ | i
           · obtain rfl : z = -1 := by have := HZ.out; simpa using this
             have hk := HPP.out
             obtain ⟨z0, z1, z2, z3, q0, q1, q2, q3⟩ := blk4 hk
             obtain ⟨g0, g1, g2, g3, _⟩ := blk4 HKB.out
             have HK9 : Hid _ := hk
             clear hk
             go_wp2
             refine bodyPost_ret_by (results_cell_row rfl _ _ w.heap.size 24 _ (0, 0) _ rfl (blk4_set HK9.out) Tryz.underlying24 rfl (by kernel_rfl)) rfl ?_
             rw [HRES.out]
             have hc := HCC.out
             rw [List.take_zero] at hc
             have ht9 := HTT2.out.weakJ
             have e9 : tt = consTm ks tz := hc
             rw [e9] at ht9
             exact ⟨_, rfl, TmRI.fin HH.out HXX.out HPZ.out.1 ht9 HSS.out rfl⟩
           · obtain rfl : z = (i : Int) := by have := HZ.out; omega
             have hiK : i < KN := by omega
             have hil : i < ks.length := by have := HKN.out; omega
             obtain ⟨gb, x1, x2, x3, x4, x5, x6, F1, F2, hao, t0, t1, t2, t3, hown, hFj, hRJ1⟩ := RJ.item HRJ.out.1 hil
             obtain ⟨g0, g1, g2, g3, _⟩ := blk4 HKB.out
             obtain ⟨kt, hkt⟩ : ∃ kt, kt = ks[i] := ⟨_, rfl⟩
             have hnd := HRJ.out.2.1
             rw [hFj] at hnd
             obtain ⟨hn1, hn2, hn3⟩ := List.nodup_append.1 hnd
             have hF12 : ∀ f, f ∈ F1 ∨ f ∈ F2 → f ∈ F := fun f hf => HRJ.out.2.2 f (by rw [hFj]; exact List.mem_append.2 hf)
             have HIT : Hid (TOk 24 (XJ g m nvz B4) (w.heap.size + 1) wr kt (.agg #[.int .i64 x1, .string x2, .int .i64 x3, .slice x4 x5 x6]) F2) := ⟨by rw [hkt]; exact hown, hn2, fun f hf => HFZ.out f (hF12 f (Or.inr hf))⟩
             have HRJ1 : Hid (RJ 24 wr ks (.slice ao KN cap) i F1 ∧ F1.Nodup ∧ ∀ f ∈ F1, f ∈ F) := ⟨hRJ1, hn1, fun f hf => hF12 f (Or.inl hf)⟩
             have HD2 : Hid (∀ f ∈ F2, ∀ h ∈ Ft, f ≠ h) := fun f hf h hh => HDD.out f (by rw [hFj]; exact List.mem_append.2 (Or.inr hf)) h hh
             have HD1 : Hid (∀ f ∈ F1, f ∉ F2 ∧ f ∉ Ft) := fun f hf => ⟨fun h2 => hn3 f hf f h2 rfl, fun h2 => HDD.out f (by rw [hFj]; exact List.mem_append.2 (Or.inl hf)) f h2 rfl⟩
             have HCN : Hid (consTm (ks.take i) (structTm ⟨#[46]⟩ [kt, tt]) = consTm ks tz) := by
               have := HCC.out
               rw [List.take_succ_eq_append_getElem hil, consTm_snoc, ← hkt] at this
               exact this
             have HBLT : Hid (B4 < wr.heap.size) := (Array.getElem?_eq_some_iff.1 HKB.out).1
             subst hao
             have y0 := fun u => cell_keep t0 (later_below wr u)
             have y1 := fun u => cell_keep t1 (later_below wr u)
             have y2 := fun u => cell_keep t2 (later_below wr u)
             have y3 := fun u => cell_keep t3 (later_below wr u)
             have y4 := fun u => cell_keep g0 (later_below wr u)
             have y5 := fun u => cell_keep g1 (later_below wr u)
             have y6 := fun u => cell_keep g2 (later_below wr u)
             have y7 := fun u => cell_keep g3 (later_below wr u)
             clear t0 t1 t2 t3 g0 g1 g2 g3 hown hFj hRJ1 hnd hn1 hn2 hn3 hF12 HRJ HDD HCC hkt hil HZ hjK
             go_upto_region 10 with fail
             refine wp_region_tail 5 (by kernel_rfl) (by kernel_rfl) ?_
             simp only [List.take_succ_cons, List.take_zero, List.drop_succ_cons, List.drop_zero]
             repeat (go_big_quiet_step (skip))
             refine wpQuiet_nil ?_
             rintro _ ⟨u3, rfl⟩
             have HB3 : Hid (Below wr.heap.size wr (later wr u3)) := later_below wr u3
             clear y0 y1 y2 y3 y4 y5 y6 y7
             generalize later wr u3 = w3 at *
             have R3 := ROk.two (HIT.out.step (FX.of_below HB3.out)) (HTT2.out.step (FX.of_below HB3.out)) HD2.out (by have := HXX.out.size; have := HB3.out.size; have := HB4W.out; have := HBLT.out; omega) (fun hx => hx.elim (XI_new (HSS.out.keep HB3.out)) (fun e => by have := HBLT.out; have := HB3.out.size; omega))
             obtain ⟨V3, hV3⟩ : ∃ V3, V3 = w3.alloc (.cells #[.int .i64 x1, .string x2, .int .i64 x3, .slice x4 x5 x6, .int .i64 m1, .string m2, .int .i64 m3, .slice m4 m5 m6] 24) := ⟨_, rfl⟩
             have bV3 : Below w3.heap.size w3 V3 := by rw [hV3]; exact (Below.refl _ _).alloc (Nat.le_refl _) _
             rw [← hV3] at R3
             have HR3 : Hid _ := R3
             have HBV3 : Hid (Below wr.heap.size wr V3) := HB3.out.trans (bV3.mono HB3.out.size)
             have HSO := i_structOf ⟨#[46]⟩ (some ⟨w3.heap.size, 0, none⟩) 2 2 V3 (by decide)
             rw [hV3] at HSO
             replace HSO : Hid _ := HSO
             clear R3 bV3
             go_wp2_with (go_at_call 75; refine (Calls.mono HSO.out ?_); rintro e w4 ⟨rfl, hb⟩; rw [← hV3] at hb; have HBX : Hid (Below V3.heap.size V3 w4) := hb; have HB4' : Hid (Below wr.heap.size wr w4) := HBV3.out.trans (hb.mono HBV3.out.size); have hkb := (HB4'.out.block B4 HBLT.out).trans HKB.out; obtain ⟨g0, g1, g2, g3, fg0, fg1, fg2, fg3⟩ := blk4 hkb; have HKB4 : Hid _ := hkb; clear hb hkb)
             go_roundw
             case rel =>
               have hb34 := HB4'.out
               have hBlt := HBLT.out
               have hB4W := HB4W.out
               have hgW := HH.out.lt.1
               have x4' : FX (XI g m nvz) (XI g m nvz) wr w4 := FX.of_below hb34
               have hoth : ∀ f ∈ F, (((((w4.setCell ⟨B4, 0, none⟩ (.int .i64 4)).setCell ⟨B4, 1, none⟩ (.string ⟨#[46]⟩)).setCell ⟨B4, 2, none⟩ (.int .i64 0)).setCell ⟨B4, 3, none⟩ (.slice (some ⟨w3.heap.size, 0, none⟩) 2 2))).heap[f]? = wr.heap[f]? := fun f hf => (blk4_other (fun e => (HFZ.out f hf).2 (Or.inr e))).trans (hb34.block f (HFF.out f hf))
               have TN := ((HR3.out.step (FX.of_below HBX.out)).tm (s := ⟨#[46]⟩) (by decide))
               refine ⟨i, (i : Int) - 1, F1, _, structTm ⟨#[46]⟩ [kt, tt], 4, ⟨#[46]⟩, 0, some ⟨w3.heap.size, 0, none⟩, 2, 2, by omega, by go_num, rfl, ?_, ?_, TN.turn fun k hk hx => blk4_other (fun e => hx (Or.inr e)), ?_, ?_, ?_, HCN.out, ?_, ?_⟩
               · exact ⟨HRJ1.out.1.turn (fun b hb => hoth b (HOZ.out b hb)) (fun f hf => hoth f (HRJ1.out.2.2 f hf)), HRJ1.out.2.1, HRJ1.out.2.2⟩
               · exact blk4_set HKB4.out
               · intro f hf h hh e
                 subst e
                 have h1 := HFF.out f (HRJ1.out.2.2 f hf)
                 have h2 := HB3.out.size
                 rcases List.mem_cons.1 hh with h' | h'
                 · omega
                 · rcases List.mem_append.1 h' with h' | h'
                   · exact (HD1.out f hf).1 h'
                   · exact (HD1.out f hf).2 h'
               · exact (HSS.out.keep hb34).turn fun k hk => blk4_other (fun e => by
                   rcases hk with hk | hk
                   · omega
                   · rw [e] at hk; exact HNZ.out hk)
               · exact ((((HXX.out.trans x4').set (Or.inr (by omega)) _).set (Or.inr (by omega)) _).set (Or.inr (by omega)) _).set (Or.inr (by omega)) _
               · intro f hf
                 have := HFF.out f hf
                 have := hb34.size
                 simp [World.setCell]; omega
               · exact (blk4_other (by omega)).trans ((hb34.block _ (by omega)).trans HPP.out)
             case measure => simp [intOf]
   | none =>
     have hk' : mk? ⟨#[124]⟩ s0.rest = none := hk
     unfold PassR at HPA
     rw [hk'] at HPA
     rw [hk] at hN
     simp only at hN
     replace HPA : Hid _ := HPA
     clear hk hk'
     go_upto_region 6 with (go_at_call 102; refine (Calls.mono HPA.out ?_); rintro e W4 ⟨rfl, hi, hx⟩; have HI5 : Hid (IRd g m L lv nv1 W4 d s0) := hi; have HX3 : Hid (FX (XI g m nv1) (XI g m nv1) W2 W4) := hx; clear hi hx)
     have HX04 : Hid (FX (XI g m nv) (XI g m nv1) w W4) := ((HFV.out.trans HX1.out).trans (FX.of_below HBW2.out)).trans HX3.out
     have HNZ : Hid (¬ XI g m nv1 B4) := HNB.out
     have HKB5 : Hid (W4.heap[B4]? = some (.cells #[.int .i64 2, .string ⟨#[91, 93]⟩, .int .i64 0, .slice none 0 0] 24 (0, 0))) := (HX3.out.block B4 (by have := HS2.out.1; omega) HNB.out).trans HKB2.out
     have HT5 : Hid (TOk 24 (XJ g m nv1 B4) (w.heap.size + 1) W4 nilTm (.agg #[.int .i64 2, .string ⟨#[91, 93]⟩, .int .i64 0, .slice none 0 0]) []) := TOk.leaf (by omega) (by omega) (by decide)
     have HR5 : Hid (ROk 24 (XJ g m nv1 B4) (w.heap.size + 1) W4 ks (.slice ao KN cap) F) := (((HR1.out.step (FX.of_below HBW2.out)).step HX3.out).toJ (fun f hf => (HFB.out f hf).1)).lo_le (by have := HSV.out; omega)
     have HD5 : Hid (∀ f ∈ F, ∀ h ∈ ([] : List Nat), f ≠ h) := fun f hf h hh => by cases hh
     have HP5 : Hid (¬ XI g m nv1 w.heap.size ∧ W4.heap[w.heap.size]? = some (.cells #[.int .i64 0, .string ⟨#[]⟩, .int .i64 0, .slice none 0 0] 24 (0, 0))) := by
       have h1 := fin_keep HH.out (by have := HSV.out; omega) ((HX1.out.trans (FX.of_below HBW2.out)).trans HX3.out)
       exact ⟨h1.1, h1.2.trans HKV.out⟩
     have HMP := i_mustPass g m L lv nv1 d s0 ⟨#[93]⟩ W4 HL.out HI5.out
     cases hk : mk? cRbr s0.rest with
     | none =>
       have hk' : mk? ⟨#[93]⟩ s0.rest = none := hk
       rw [hk'] at HMP
       rw [hk] at hN
       have HN : Hid (N = none) := hN
       replace HMP : Hid _ := HMP
       clear hk hk' hN
       go_wp2_with (go_at_call 100; refine (Calls.mono HMP.out ?_); rintro e w5 ⟨hx, rfl⟩; have HX5 : Hid (FX (XI g m nv1) (XI g m nv1) W4 w5) := hx; clear hx)
       rw [HN.out]
       exact ⟨rfl, rfl, _, HX04.out.trans HX5.out⟩
     | some r2 =>
       have hk' : mk? ⟨#[93]⟩ s0.rest = some r2 := hk
       rw [hk'] at HMP
       rw [hk] at hN
       have HRES : Hid (N = some (consTm ks nilTm, ⟨r2, s0.names⟩)) := hN
       replace HMP : Hid _ := HMP
       clear hk hk' hN
       go_upto_region 7 with (go_at_call 100; refine (Calls.mono HMP.out ?_); rintro e wz ⟨hx, rfl, hi⟩; have HX5 : Hid (FX (XI g m nv1) (XI g m nv1) W4 wz) := hx; have HIZ : Hid (IRd g m L lv nv1 wz d ⟨r2, s0.names⟩) := hi; clear hx hi)
       have hB5 : B4 < W4.heap.size := (Array.getElem?_eq_some_iff.1 HKB5.out).1
       have HXZ : Hid (FX (XI g m nv) (XI g m nv1) w wz) := HX04.out.trans HX5.out
       have HKZ : Hid (wz.heap[B4]? = _) := (HX5.out.block B4 hB5 HNZ.out).trans HKB5.out
       have HTZ : Hid _ := HT5.out.step HX5.out.liftJ
       have HRZ : Hid _ := HR5.out.step HX5.out.liftJ
       have HDZ : Hid _ := HD5.out
       have HPZ : Hid (¬ XI g m nv1 w.heap.size ∧ wz.heap[w.heap.size]? = some (.cells #[.int .i64 0, .string ⟨#[]⟩, .int .i64 0, .slice none 0 0] 24 (0, 0))) := ⟨HP5.out.1, (HX5.out.block _ (by have := HB4W.out; omega) HP5.out.1).trans HP5.out.2⟩
       clear hB5
       have hKN3 : (KN : Int) ≤ 3000 := HK3.out
       obtain ⟨FJ, hj1, hj2, hj3, hj4⟩ := RJ.first HRZ.out
       have HJZ : Hid (RJ 24 wz ks (.slice ao KN cap) KN FJ ∧ FJ.Nodup ∧ (∀ f ∈ FJ, f ∈ F) ∧ (∀ b, (Value.slice ao KN cap).ownBlock = some b → b ∈ F)) := by
         rw [← HKN.out] at hj1
         exact ⟨hj1, hj2, hj3, hj4⟩
       clear hj1 hj2 hj3 hj4
       have HFZ : Hid (∀ f ∈ F, w.heap.size + 1 ≤ f ∧ ¬ XJ g m nv1 B4 f) := HRZ.out.out
       have HOZ : Hid (∀ b, (Value.slice ao KN cap).ownBlock = some b → b ∈ F) := HJZ.out.2.2.2
       go_wp2
       go_loopw [5] (fun vi wq => ∃ (j : Nat) (z : Int) (Fj Ft : List Nat) (tt : Tm) (m1 : Int) (m2 : ByteArray) (m3 : Int) (m4 : Option Addr) (m5 m6 : Nat), j ≤ KN ∧ vi = .int .i64 z ∧ Hid (z = (j : Int) - 1) ∧ Hid (RJ 24 wq ks (.slice ao KN cap) j Fj ∧ Fj.Nodup ∧ ∀ f ∈ Fj, f ∈ F) ∧ Hid (wq.heap[B4]? = some (.cells #[.int .i64 m1, .string m2, .int .i64 m3, .slice m4 m5 m6] 24 (0, 0))) ∧ Hid (TOk 24 (XJ g m nv1 B4) (w.heap.size + 1) wq tt (.agg #[.int .i64 m1, .string m2, .int .i64 m3, .slice m4 m5 m6]) Ft) ∧ Hid (∀ f ∈ Fj, ∀ h ∈ Ft, f ≠ h) ∧ Hid (IRd g m L lv nv1 wq d ⟨r2, s0.names⟩) ∧ Hid (FX (XI g m nv) (XI g m nv1) w wq) ∧ Hid (consTm (ks.take j) tt = consTm ks nilTm) ∧ Hid (∀ f ∈ F, f < wq.heap.size) ∧ Hid (wq.heap[w.heap.size]? = some (.cells #[.int .i64 0, .string ⟨#[]⟩, .int .i64 0, .slice none 0 0] 24 (0, 0)))) (fun i _ => (intOf i + 1).toNat)
       case atStart => exact ⟨KN, _, FJ, [], nilTm, 2, ⟨#[91, 93]⟩, 0, none, 0, 0, Nat.le_refl _, rfl, rfl, ⟨HJZ.out.1, HJZ.out.2.1, HJZ.out.2.2.1⟩, HKZ.out, HTZ.out, (fun f hf h hh => HDZ.out f (HJZ.out.2.2.1 f hf) h hh), HIZ.out, HXZ.out, (by show _ = _; rw [HKN.out, List.take_length]), HRZ.out.lt, HPZ.out.2⟩
       case round =>
         obtain ⟨j, z, Fj, Ft, tt, m1, m2, m3, m4, m5, m6, hjK, rfl, HZ, HRJ, HKB, HTT2, HDD, HSS, HXX, HCC, HFF, HPP⟩ := hrel
         rcases j with _ | i
         · obtain rfl : z = -1 := by have := HZ.out; simpa using this
           have hk := HPP.out
           obtain ⟨z0, z1, z2, z3, q0, q1, q2, q3⟩ := blk4 hk
           obtain ⟨g0, g1, g2, g3, _⟩ := blk4 HKB.out
           have HK9 : Hid _ := hk
           clear hk
           go_wp2
           refine bodyPost_ret_by (results_cell_row rfl _ _ w.heap.size 24 _ (0, 0) _ rfl (blk4_set HK9.out) Tryz.underlying24 rfl (by kernel_rfl)) rfl ?_
           rw [HRES.out]
           have hc := HCC.out
           rw [List.take_zero] at hc
           have ht9 := HTT2.out.weakJ
           have e9 : tt = consTm ks nilTm := hc
           rw [e9] at ht9
           exact ⟨_, rfl, TmRI.fin HH.out HXX.out HPZ.out.1 ht9 HSS.out rfl⟩
         · obtain rfl : z = (i : Int) := by have := HZ.out; omega
           have hiK : i < KN := by omega
           have hil : i < ks.length := by have := HKN.out; omega
           obtain ⟨gb, x1, x2, x3, x4, x5, x6, F1, F2, hao, t0, t1, t2, t3, hown, hFj, hRJ1⟩ := RJ.item HRJ.out.1 hil
           obtain ⟨g0, g1, g2, g3, _⟩ := blk4 HKB.out
           obtain ⟨kt, hkt⟩ : ∃ kt, kt = ks[i] := ⟨_, rfl⟩
           have hnd := HRJ.out.2.1
           rw [hFj] at hnd
           obtain ⟨hn1, hn2, hn3⟩ := List.nodup_append.1 hnd
           have hF12 : ∀ f, f ∈ F1 ∨ f ∈ F2 → f ∈ F := fun f hf => HRJ.out.2.2 f (by rw [hFj]; exact List.mem_append.2 hf)
           have HIT : Hid (TOk 24 (XJ g m nv1 B4) (w.heap.size + 1) wr kt (.agg #[.int .i64 x1, .string x2, .int .i64 x3, .slice x4 x5 x6]) F2) := ⟨by rw [hkt]; exact hown, hn2, fun f hf => HFZ.out f (hF12 f (Or.inr hf))⟩
           have HRJ1 : Hid (RJ 24 wr ks (.slice ao KN cap) i F1 ∧ F1.Nodup ∧ ∀ f ∈ F1, f ∈ F) := ⟨hRJ1, hn1, fun f hf => hF12 f (Or.inl hf)⟩
           have HD2 : Hid (∀ f ∈ F2, ∀ h ∈ Ft, f ≠ h) := fun f hf h hh => HDD.out f (by rw [hFj]; exact List.mem_append.2 (Or.inr hf)) h hh
           have HD1 : Hid (∀ f ∈ F1, f ∉ F2 ∧ f ∉ Ft) := fun f hf => ⟨fun h2 => hn3 f hf f h2 rfl, fun h2 => HDD.out f (by rw [hFj]; exact List.mem_append.2 (Or.inl hf)) f h2 rfl⟩
           have HCN : Hid (consTm (ks.take i) (structTm ⟨#[46]⟩ [kt, tt]) = consTm ks nilTm) := by
             have := HCC.out
             rw [List.take_succ_eq_append_getElem hil, consTm_snoc, ← hkt] at this
             exact this
           have HBLT : Hid (B4 < wr.heap.size) := (Array.getElem?_eq_some_iff.1 HKB.out).1
           subst hao
           have y0 := fun u => cell_keep t0 (later_below wr u)
           have y1 := fun u => cell_keep t1 (later_below wr u)
           have y2 := fun u => cell_keep t2 (later_below wr u)
           have y3 := fun u => cell_keep t3 (later_below wr u)
           have y4 := fun u => cell_keep g0 (later_below wr u)
           have y5 := fun u => cell_keep g1 (later_below wr u)
           have y6 := fun u => cell_keep g2 (later_below wr u)
           have y7 := fun u => cell_keep g3 (later_below wr u)
           clear t0 t1 t2 t3 g0 g1 g2 g3 hown hFj hRJ1 hnd hn1 hn2 hn3 hF12 HRJ HDD HCC hkt hil HZ hjK
           go_upto_region 10 with fail
           refine wp_region_tail 5 (by kernel_rfl) (by kernel_rfl) ?_
           simp only [List.take_succ_cons, List.take_zero, List.drop_succ_cons, List.drop_zero]
           repeat (go_big_quiet_step (skip))
           refine wpQuiet_nil ?_
           rintro _ ⟨u3, rfl⟩
           have HB3 : Hid (Below wr.heap.size wr (later wr u3)) := later_below wr u3
           clear y0 y1 y2 y3 y4 y5 y6 y7
           generalize later wr u3 = w3 at *
           have R3 := ROk.two (HIT.out.step (FX.of_below HB3.out)) (HTT2.out.step (FX.of_below HB3.out)) HD2.out (by have := HXX.out.size; have := HB3.out.size; have := HB4W.out; have := HBLT.out; omega) (fun hx => hx.elim (XI_new (HSS.out.keep HB3.out)) (fun e => by have := HBLT.out; have := HB3.out.size; omega))
           obtain ⟨V3, hV3⟩ : ∃ V3, V3 = w3.alloc (.cells #[.int .i64 x1, .string x2, .int .i64 x3, .slice x4 x5 x6, .int .i64 m1, .string m2, .int .i64 m3, .slice m4 m5 m6] 24) := ⟨_, rfl⟩
           have bV3 : Below w3.heap.size w3 V3 := by rw [hV3]; exact (Below.refl _ _).alloc (Nat.le_refl _) _
           rw [← hV3] at R3
           have HR3 : Hid _ := R3
           have HBV3 : Hid (Below wr.heap.size wr V3) := HB3.out.trans (bV3.mono HB3.out.size)
           have HSO := i_structOf ⟨#[46]⟩ (some ⟨w3.heap.size, 0, none⟩) 2 2 V3 (by decide)
           rw [hV3] at HSO
           replace HSO : Hid _ := HSO
           clear R3 bV3
           go_wp2_with (go_at_call 75; refine (Calls.mono HSO.out ?_); rintro e w4 ⟨rfl, hb⟩; rw [← hV3] at hb; have HBX : Hid (Below V3.heap.size V3 w4) := hb; have HB4' : Hid (Below wr.heap.size wr w4) := HBV3.out.trans (hb.mono HBV3.out.size); have hkb := (HB4'.out.block B4 HBLT.out).trans HKB.out; obtain ⟨g0, g1, g2, g3, fg0, fg1, fg2, fg3⟩ := blk4 hkb; have HKB4 : Hid _ := hkb; clear hb hkb)
           go_roundw
           case rel =>
             have hb34 := HB4'.out
             have hBlt := HBLT.out
             have hB4W := HB4W.out
             have hgW := HH.out.lt.1
             have x4' : FX (XI g m nv1) (XI g m nv1) wr w4 := FX.of_below hb34
             have hoth : ∀ f ∈ F, (((((w4.setCell ⟨B4, 0, none⟩ (.int .i64 4)).setCell ⟨B4, 1, none⟩ (.string ⟨#[46]⟩)).setCell ⟨B4, 2, none⟩ (.int .i64 0)).setCell ⟨B4, 3, none⟩ (.slice (some ⟨w3.heap.size, 0, none⟩) 2 2))).heap[f]? = wr.heap[f]? := fun f hf => (blk4_other (fun e => (HFZ.out f hf).2 (Or.inr e))).trans (hb34.block f (HFF.out f hf))
             have TN := ((HR3.out.step (FX.of_below HBX.out)).tm (s := ⟨#[46]⟩) (by decide))
             refine ⟨i, (i : Int) - 1, F1, _, structTm ⟨#[46]⟩ [kt, tt], 4, ⟨#[46]⟩, 0, some ⟨w3.heap.size, 0, none⟩, 2, 2, by omega, by go_num, rfl, ?_, ?_, TN.turn fun k hk hx => blk4_other (fun e => hx (Or.inr e)), ?_, ?_, ?_, HCN.out, ?_, ?_⟩
             · exact ⟨HRJ1.out.1.turn (fun b hb => hoth b (HOZ.out b hb)) (fun f hf => hoth f (HRJ1.out.2.2 f hf)), HRJ1.out.2.1, HRJ1.out.2.2⟩
             · exact blk4_set HKB4.out
             · intro f hf h hh e
               subst e
               have h1 := HFF.out f (HRJ1.out.2.2 f hf)
               have h2 := HB3.out.size
               rcases List.mem_cons.1 hh with h' | h'
               · omega
               · rcases List.mem_append.1 h' with h' | h'
                 · exact (HD1.out f hf).1 h'
                 · exact (HD1.out f hf).2 h'
             · exact (HSS.out.keep hb34).turn fun k hk => blk4_other (fun e => by
                 rcases hk with hk | hk
                 · omega
                 · rw [e] at hk; exact HNZ.out hk)
             · exact ((((HXX.out.trans x4').set (Or.inr (by omega)) _).set (Or.inr (by omega)) _).set (Or.inr (by omega)) _).set (Or.inr (by omega)) _
             · intro f hf
               have := HFF.out f hf
               have := hb34.size
               simp [World.setCell]; omega
             · exact (blk4_other (by omega)).trans ((hb34.block _ (by omega)).trans HPP.out)
           case measure => simp [intOf]
end Go.Proofs.YtbkjcccbjnehbanGreatDoor

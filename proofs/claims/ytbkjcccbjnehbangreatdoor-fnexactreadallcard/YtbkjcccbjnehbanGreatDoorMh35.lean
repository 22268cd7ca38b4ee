import Derived.Test.YtbkjcccbjnehbanGreatDoorMh34
import Derived.Test.YtbkjcccbjnehbanGreatDoorMh18
namespace Go.Proofs.YtbkjcccbjnehbanGreatDoor
open Go.RowKit
structure IRv (g m : Nat) (L : List Sg) (lv nv : Value) (w : World) (d : Nat) (r : List Sg) (names : List ByteArray) : Prop where
 ex : ∃ (p : Nat) (ms : List (ByteArray × Int)), w.heap[g]? = some (.cells #[lv, .int .i64 (p : Int), .int .i64 (d : Int), nv, .map (some m)] 63 (0, 0)) ∧ SIn w L lv ∧ (∀ b, sliceBlk lv = some b → b < g ∧ b < m) ∧
   NRow w (max g m + 1) names nv ∧ NMapAt w m ms ∧ MOk names ms ∧ m ≠ g ∧ p ≤ L.length ∧ L.drop p = r ∧ names.length + 1 ≤ p
theorem IRv.ird {g m : Nat} {L : List Sg} {lv nv : Value} {w : World} {d : Nat} {r : List Sg} {names : List ByteArray} (h : IRv g m L lv nv w d r names) : IRd g m L lv nv w d ⟨r, names⟩ := by
 obtain ⟨p, ms, h1, h2, h3, h4, h5, h6, h7, h8, h9, h10⟩ := h.ex
 exact ⟨p, ms, h1, h2, h3, h4, h5, h6, h7, h8, h9, by show names.length ≤ p; omega⟩
theorem IRv.keep {g m : Nat} {L : List Sg} {lv nv : Value} {w w' : World} {d : Nat} {r : List Sg} {names : List ByteArray} (h : IRv g m L lv nv w d r names) (hb : Below w.heap.size w w') : IRv g m L lv nv w' d r names := by
 have hl := h.ird.lt
 obtain ⟨p, ms, h1, h2, h3, h4, h5, h6, h7, h8⟩ := h.ex
 exact ⟨p, ms, (hb.block g hl.1).trans h1, h2.turn fun b e => hb.block b (by have := (h3 b e).1; omega), h3, h4.turn fun b e => hb.block b (h4.lt b e).2, h5.turn (hb.block m hl.2.1), h6, h7, h8⟩
theorem IRd.stepV {g m : Nat} {L : List Sg} {lv nv : Value} {w : World} {d : Nat} {x : Sg} {r : List Sg} {names : List ByteArray} (h : IRd g m L lv nv w d ⟨x :: r, names⟩) :
   ∃ p : Nat, w.cell? ⟨g, 1, none⟩ = some (.int .i64 (p : Int)) ∧ p < L.length ∧ w.frozen? ⟨g, 1, none⟩ = false ∧ IRv g m L lv nv (w.setCell ⟨g, 1, none⟩ (.int .i64 ((p + 1 : Nat) : Int))) d r names := by
 obtain ⟨p, ms, h1, h2, h3, h4, h5, h6, h7, h8, h9, h10⟩ := h.ex
 obtain ⟨c0, c1, c2, c3, c4, cf⟩ := b5f h1
 have hl := congrArg List.length h9
 rw [List.length_drop, List.length_cons] at hl
 refine ⟨p, c1, by omega, cf 1, ?_⟩
 have hs : (w.setCell ⟨g, 1, none⟩ (.int .i64 ((p + 1 : Nat) : Int))).heap[g]? = some (.cells #[lv, .int .i64 ((p + 1 : Nat) : Int), .int .i64 (d : Int), nv, .map (some m)] 63 (0, 0)) := by
   have := blk_set (i := 1) h1 (.int .i64 ((p + 1 : Nat) : Int))
   simpa using this
 have ho : ∀ k, k ≠ g → (w.setCell ⟨g, 1, none⟩ (.int .i64 ((p + 1 : Nat) : Int))).heap[k]? = w.heap[k]? := fun k hk => blk_other _ hk
 have h10' : names.length ≤ p := h10
 refine ⟨p + 1, ms, hs, h2.turn fun b e => ho b (by have := (h3 b e).1; omega), h3, h4.turn fun b e => ho b (by have := (h4.lt b e).1; omega), h5.turn (ho m h7), h6, h7, by omega, ?_, by omega⟩
 have : L.drop (p + 1) = (L.drop p).drop 1 := by rw [List.drop_drop]
 rw [this, h9]; rfl
theorem i_variable (g m : Nat) (L : List Sg) (lv nv : Value) (d : Nat) (r : List Sg) (names : List ByteArray) (s : ByteArray) (w : World) (hL : L.length ≤ 3000) (hs : s.size ≤ 3000) (h : IRv g m L lv nv w d r names) :
   Calls Tryz.prog 92 #[.pointer (some ⟨g, 0, none⟩), .string s] w fun e w' => ∃ v, e = .returned v ∧ TmRI g m L lv nv w v w' (varTm (varO s names).1, ⟨r, (varO s names).2⟩) d := by
 have hI := h.ird
 obtain ⟨p, ms, h1, h2, h3, h4, h5, h6, h7, h8, h9, h10⟩ := h.ex
 by_cases hu : s = cUs
 · exact i_var_new g m L lv nv d p r names ms s w hL hs h1 h2 h3 h4 h5 h6 h7 h8 h9 h10 (Or.inl hu)
 · cases hf : names.findIdx? fun x => decide (x = s) with
   | none => exact i_var_new g m L lv nv d p r names ms s w hL hs h1 h2 h3 h4 h5 h6 h7 h8 h9 h10 (Or.inr hf)
   | some i => exact i_var_known g m L lv nv d p r names ms s i w hL h1 hI h5 h6 (by omega) hu hf
end Go.Proofs.YtbkjcccbjnehbanGreatDoor

namespace Go.Proofs.YtbkjcccbjnehbanGreatDoor
open Go.RowKit
def noEndC : List Sg → Nat
 | [] => 0
 | x :: r => if x.kind = 5 then 0 else 1 + noEndC r
theorem noEndC_le : ∀ r : List Sg, noEndC r ≤ r.length
 | [] => Nat.le_refl _
 | x :: r => by
   have := noEndC_le r
   simp only [noEndC, List.length_cons]
   split <;> omega
theorem noEndC_at : ∀ r : List Sg, (noEndC r = r.length ∧ (∀ x ∈ r, x.kind ≠ 5) ∧ behindC r = r.length) ∨ (∃ E tl, r = r.take (noEndC r) ++ E :: tl ∧ E.kind = 5 ∧ (∀ x ∈ r.take (noEndC r), x.kind ≠ 5) ∧ behindC r = noEndC r + 1)
 | [] => Or.inl ⟨rfl, fun x hx => by simp at hx, rfl⟩
 | x :: r => by
   by_cases h : x.kind = 5
   · right
     refine ⟨x, r, ?_, h, ?_, ?_⟩
     · simp [noEndC, h]
     · simp [noEndC, h]
     · simp [noEndC, behindC, h]
   · rcases noEndC_at r with ⟨h1, h2, h3⟩ | ⟨E, tl, h1, h2, h3, h4⟩
     · left
       refine ⟨?_, ?_, ?_⟩
       · simp only [noEndC, if_neg h, List.length_cons]; omega
       · intro y hy
         rcases List.mem_cons.1 hy with rfl | hy
         · exact h
         · exact h2 y hy
       · simp only [behindC, if_neg h, List.length_cons]; omega
     · right
       have e : noEndC (x :: r) = noEndC r + 1 := by simp only [noEndC, if_neg h]; omega
       refine ⟨E, tl, ?_, h2, ?_, ?_⟩
       · rw [e, List.take_succ_cons, List.cons_append, ← h1]
       · rw [e, List.take_succ_cons]
         intro y hy
         rcases List.mem_cons.1 hy with rfl | hy
         · exact h
         · exact h3 y hy
       · simp only [behindC, if_neg h]; omega
set_option maxHeartbeats 4000000 in
theorem i_nextEnd (L : List Sg) (lv : Value) (a : Nat) (w : World) (ha : a ≤ L.length) (hL : L.length ≤ 3000) (h : SgRow w 0 L lv) :
   Calls Tryz.prog 32 #[lv, .int .i64 (a : Int)] w fun e w' => e = .returned (.int .i64 ((a + noEndC (L.drop a) : Nat) : Int)) ∧ w' = w := by
 obtain ⟨Z, hZ⟩ : ∃ Z, Z = a + noEndC (L.drop a) := ⟨_, rfl⟩
 rw [← hZ]
 have HZ : Hid (Z = a + noEndC (L.drop a)) := hZ
 obtain ⟨ao, cap, rfl, hcap, hlc⟩ := h.shape
 have HR : Hid (SgRow w 0 L (.slice ao L.length cap)) := h
 obtain ⟨NL, hNL⟩ : ∃ NL, NL = L.length := ⟨_, rfl⟩
 rw [← hNL]
 have HNL : Hid (NL = L.length) := hNL
 have hN3 : (NL : Int) ≤ 3000 := by omega
 have haN : a ≤ NL := by omega
 clear hZ h hcap hlc hNL ha hL
 go_enter Tryz.func32, Tryz.ntmps32
 go_wp2
 go_loopw [5] (fun vi wr => ∃ j : Nat, j ≤ NL ∧ vi = .int .i64 (j : Int) ∧ Hid (Z = j + noEndC (L.drop j)) ∧ wr = w) (fun i _ => NL - (intOf i).toNat)
 case atStart => exact ⟨a, haN, rfl, HZ.out, rfl⟩
 case round =>
   obtain ⟨j, hj, rfl, HJ, hwr⟩ := hrel
   replace hwr := hwr.symm
   subst hwr
   by_cases hlt : j < NL
   · have hjL : j < L.length := by have := HNL.out; omega
     obtain ⟨lb, cap2, e, _, _, _, _, hc⟩ := HR.out.cells (by rintro rfl; simp at hjL)
     obtain ⟨rfl, _, _⟩ := Value.slice.inj e
     obtain ⟨k0, _⟩ := hc j hjL
     obtain ⟨x, hx⟩ : ∃ x, x = L[j] := ⟨_, rfl⟩
     rw [← hx] at k0
     have hdr : L.drop j = x :: L.drop (j + 1) := by rw [hx]; exact List.drop_eq_getElem_cons hjL
     obtain ⟨j1, hj1⟩ : ∃ j1, j1 = j + 1 := ⟨_, rfl⟩
     have hs1 : (j : Int) + 1 = (j1 : Int) := by omega
     have hs2 : (j1 : Int) - 1 = (j : Int) := by omega
     have HJ1 : Hid (j1 = j + 1) := hj1
     by_cases h5 : x.kind = 5
     · have HF : Hid (Z = j) := by
         show _ = _
         rw [HJ.out, hdr]; simp only [noEndC, if_pos h5]; omega
       clear hc e hdr hx hj1
       rw [h5] at k0
       go_wp2
       go_ret
       exact ⟨by rw [HF.out]; rfl, by first | rfl | trivial⟩
     · have HF : Hid (Z = j1 + noEndC (L.drop j1)) := by
         show _ = _
         rw [HJ.out, hdr, hj1]; simp only [noEndC, if_neg h5]; omega
       have e5 : (x.kind == 5) = false := by simpa using h5
       generalize x.kind = xk at *
       clear hc e hdr hx hj1 h5
       go_wp2
       go_roundw
       case rel => exact ⟨j1, by have := HJ1.out; omega, rfl, HF.out, by first | rfl | trivial⟩
       case measure => have := HJ1.out; simp [intOf]; omega
   · obtain rfl : NL = j := by omega
     have HF : Hid (Z = NL) := by
       show _ = _
       rw [HJ.out, List.drop_eq_nil_of_le (by have := HNL.out; omega)]; rfl
     go_wp2
     go_ret
     exact ⟨by rw [HF.out]; rfl, by first | rfl | trivial⟩
end Go.Proofs.YtbkjcccbjnehbanGreatDoor

namespace Go.Proofs.YtbkjcccbjnehbanGreatDoor
open Go.RowKit
def EndI (g m : Nat) (L : List Sg) (lv nv : Value) (w : World) (d : Nat) (R : Option (Tm × St)) (e : Ending) (w' : World) : Prop := match R with
 | some y => ∃ v, e = .returned v ∧ TmRI g m L lv nv w v w' y d
 | none => e = .panicked unreadC ∧ ∃ nv', FX (XI g m nv) (XI g m nv') w w'
def TermCI (f g m : Nat) (L : List Sg) (lv : Value) : Prop := ∀ (d : Nat) (most : Int) (st : St) (nv : Value) (w : World), d + f = 130 → IRd g m L lv nv w d st →
 Calls Tryz.prog 56 #[.pointer (some ⟨g, 0, none⟩), .int .i64 most] w fun e w' => EndI g m L lv nv w d (termO false f most st) e w'
def roundT (tm : Int → St → Option (Tm × St)) (r : List Sg) (names : List ByteArray) : Option (Tm × St) := match tm 1200 ⟨r, names⟩ with
 | none => none
 | some y => match mk? cRpar y.2.rest with
   | some r' => some (y.1, ⟨r', y.2.names⟩)
   | none => none
set_option maxHeartbeats 4000000 in
theorem i_bracketed (f g m : Nat) (L : List Sg) (lv nv : Value) (d : Nat) (x : Sg) (r : List Sg) (names : List ByteArray) (w : World) (hL : L.length ≤ 3000) (hf : d + f = 130) (hT : TermCI f g m L lv) (h : IRd g m L lv nv w d ⟨x :: r, names⟩) :
   Calls Tryz.prog 90 #[.pointer (some ⟨g, 0, none⟩)] w fun e w' => EndI g m L lv nv w d (roundT (termO false f) r names) e w' := by
 obtain ⟨W, hW⟩ : ∃ W, W = w.alloc (.cells #[.int .i64 0, .string ⟨#[]⟩, .int .i64 0, .slice none 0 0] 24) := ⟨_, rfl⟩
 have bW : Below w.heap.size w W := by rw [hW]; exact (Below.refl _ _).alloc (Nat.le_refl _) _
 have sW : w.heap.size < W.heap.size := by rw [hW]; simp
 have kW : W.heap[w.heap.size]? = some (.cells #[.int .i64 0, .string ⟨#[]⟩, .int .i64 0, .slice none 0 0] 24 (0, 0)) := by rw [hW]; exact heap_alloc_new _ _
 have hlt := h.lt
 obtain ⟨p, c1, hp, f1, hI⟩ := (h.keep bW).step
 have hwr : IntKind.i64.wrap ((p : Int) + 1) = ((p + 1 : Nat) : Int) := by rw [IntKind.wrap_i64]; omega
 obtain ⟨V, hV⟩ : ∃ V, V = W.setCell ⟨g, 1, none⟩ (.int .i64 ((p + 1 : Nat) : Int)) := ⟨_, rfl⟩
 rw [← hV] at hI
 have hc : ((p + 1 : Nat) : Int) = (p : Int) + 1 := by omega
 rw [hc] at hwr hV
 clear hc
 have HFV : Hid (FX (XI g m nv) (XI g m nv) w V) := by rw [hV]; exact (FX.of_below bW).set (Or.inl (Or.inl rfl)) _
 have HKV : Hid (V.heap[w.heap.size]? = some (.cells #[.int .i64 0, .string ⟨#[]⟩, .int .i64 0, .slice none 0 0] 24 (0, 0))) := by
   show _ = _
   rw [hV, blk_other _ (by omega)]; exact kW
 have HLT : Hid (g < w.heap.size ∧ m < w.heap.size ∧ w.heap.size < V.heap.size ∧ ∀ k, XI g m nv k → k < w.heap.size) := ⟨hlt.1, hlt.2.1, by rw [hV]; simp [World.setCell]; exact sW, hlt.2.2⟩
 have HT : Hid _ := hT d 1200 ⟨r, names⟩ nv V hf hI
 have HMP : Hid (∀ nv' st' w', IRd g m L lv nv' w' d st' → _) := fun nv' st' w' hh => i_mustPass g m L lv nv' d st' cRpar w' hL hh
 clear hI hT hlt h bW sW kW hf
 cases ht : termO false f 1200 ⟨r, names⟩ with
 | none =>
   have HR : Hid (roundT (termO false f) r names = none) := by show _ = _; unfold roundT; rw [ht]
   rw [ht] at HT
   clear ht
   go_enter Tryz.func90, Tryz.ntmps90
   go_upto_region 1 with fail
   rw [← hW]
   clear hW
   go_upto_region 2 with fail
   rw [← hV]
   clear hV
   go_wp2_with (go_at_call 56; refine (Calls.mono HT.out ?_); rintro e w1 ⟨rfl, nv', hx⟩; have HX : Hid (FX (XI g m nv) (XI g m nv') V w1) := hx; clear hx)
   rw [HR.out]
   exact ⟨rfl, rfl, _, HFV.out.trans HX.out⟩
 | some y =>
   obtain ⟨t, rest, names'⟩ := y
   rw [ht] at HT
   cases hk : mk? cRpar rest with
   | none =>
     have HR : Hid (roundT (termO false f) r names = none) := by show _ = _; unfold roundT; rw [ht]; simp only [hk]
     have HKK : Hid (mk? cRpar rest = none) := hk
     clear ht hk
     rw [show cRpar = ⟨#[41]⟩ from rfl] at HMP HKK
     go_enter Tryz.func90, Tryz.ntmps90
     go_upto_region 1 with fail
     rw [← hW]
     clear hW
     go_upto_region 2 with fail
     rw [← hV]
     clear hV
     go_upto_region 3 with (go_at_call 56; refine (Calls.mono HT.out ?_); rintro e w1 ⟨v, rfl, F, nv', ht, hi, hx⟩; have HX : Hid (FX (XI g m nv) (XI g m nv') V w1) := hx; have HI : Hid (IRd g m L lv nv' w1 d ⟨rest, names'⟩) := hi; obtain ⟨k1, s1, n1, ao1, ln1, cp1, rfl⟩ := ht.form; clear ht hi hx)
     have HM : Hid _ := HMP.out nv' ⟨rest, names'⟩ _ (HI.out.keep ((Below.refl _ _).alloc (Nat.le_refl _) (.cells #[.int .i64 k1, .string s1, .int .i64 n1, .slice ao1 ln1 cp1] 24)))
     go_wp2_with (go_at_call 100; refine (Calls.mono HM.out ?_); rintro e w2 ⟨hx, he⟩; rw [HKK.out] at he; subst he; have HX2 : Hid (FX (XI g m nv') (XI g m nv') _ w2) := hx; clear hx)
     rw [HR.out]
     exact ⟨rfl, rfl, _, ((HFV.out.trans HX.out).trans (FX.of_below ((Below.refl _ _).alloc (Nat.le_refl _) _))).trans HX2.out⟩
   | some r' =>
     have HR : Hid (roundT (termO false f) r names = some (t, ⟨r', names'⟩)) := by show _ = _; unfold roundT; rw [ht]; simp only [hk]
     have HKK : Hid (mk? cRpar rest = some r') := hk
     clear ht hk
     rw [show cRpar = ⟨#[41]⟩ from rfl] at HMP HKK
     go_enter Tryz.func90, Tryz.ntmps90
     go_upto_region 1 with fail
     rw [← hW]
     clear hW
     go_upto_region 2 with fail
     rw [← hV]
     clear hV
     go_upto_region 3 with (go_at_call 56; refine (Calls.mono HT.out ?_); rintro e w1 ⟨v, rfl, F, nv', ht, hi, hx⟩; have HX : Hid (FX (XI g m nv) (XI g m nv') V w1) := hx; have HI : Hid (IRd g m L lv nv' w1 d ⟨rest, names'⟩) := hi; obtain ⟨k1, s1, n1, ao1, ln1, cp1, rfl⟩ := ht.form; have HTK : Hid (TOk 24 (XI g m nv') V.heap.size w1 t (.agg #[.int .i64 k1, .string s1, .int .i64 n1, .slice ao1 ln1 cp1]) F) := ht; clear ht hi hx)
     have HM : Hid _ := HMP.out nv' ⟨rest, names'⟩ _ (HI.out.keep ((Below.refl _ _).alloc (Nat.le_refl _) (.cells #[.int .i64 k1, .string s1, .int .i64 n1, .slice ao1 ln1 cp1] 24)))
     go_upto_region 4 with (go_at_call 100; refine (Calls.mono HM.out ?_); rintro e w2 ⟨hx, he⟩; rw [HKK.out] at he; obtain ⟨rfl, hi2⟩ := he; have HI2 : Hid (IRd g m L lv nv' w2 d ⟨r', names'⟩) := hi2; have HX2 : Hid (FX (XI g m nv') (XI g m nv') (w1.alloc (.cells #[.int .i64 k1, .string s1, .int .i64 n1, .slice ao1 ln1 cp1] 24)) w2) := hx; clear hx hi2)
     have hz := HLT.out
     have hnk : ¬ XI g m nv' w.heap.size := fun hh => by
       rcases HX.out.new _ hh with h1 | h1
       · have := hz.2.2.2 _ h1; omega
       · omega
     have hnn : ¬ XI g m nv' w1.heap.size := fun hh => by have := HI.out.lt.2.2 _ hh; omega
     have hs1 := HX.out.size
     have kz : w2.heap[w1.heap.size]? = some (.cells #[.int .i64 k1, .string s1, .int .i64 n1, .slice ao1 ln1 cp1] 24 (0, 0)) := (HX2.out.block _ (by simp) hnn).trans (heap_alloc_new _ _)
     have ko : w2.heap[w.heap.size]? = some (.cells #[.int .i64 0, .string ⟨#[]⟩, .int .i64 0, .slice none 0 0] 24 (0, 0)) :=
       (HX2.out.block _ (by simp; omega) hnk).trans ((((Below.refl _ _).alloc (Nat.le_refl _) _).block _ (by omega)).trans ((HX.out.block _ hz.2.2.1 (fun hh => by have := hz.2.2.2 _ hh; omega)).trans HKV.out))
     obtain ⟨z0, z1, z2, z3, _⟩ := blk4 kz
     obtain ⟨o0, o1, o2, o3, q0, q1, q2, q3⟩ := blk4 ko
     have HKO : Hid (w2.heap[w.heap.size]? = some (.cells #[.int .i64 0, .string ⟨#[]⟩, .int .i64 0, .slice none 0 0] 24 (0, 0)) ∧ ¬ XI g m nv' w.heap.size ∧ V.heap.size ≤ w1.heap.size) := ⟨ko, hnk, hs1⟩
     have hn1 : ¬ w.heap.size = w1.heap.size := by omega
     have hn2 : ¬ w1.heap.size = w.heap.size := by omega
     clear kz ko hnk hnn hs1 hz
     go_wp2
     refine bodyPost_ret_by (results_cell_row rfl _ _ w.heap.size 24 _ (0, 0) _ rfl (blk4_set HKO.out.1) Tryz.underlying24 rfl (by kernel_rfl)) rfl ?_
     rw [HR.out]
     have hz := HLT.out
     obtain ⟨ko, hnk, hs1⟩ := HKO.out
     have oE : ∀ k, k ≠ w.heap.size → ((((w2.setCell ⟨w.heap.size, 0, none⟩ (.int .i64 k1)).setCell ⟨w.heap.size, 1, none⟩ (.string s1)).setCell ⟨w.heap.size, 2, none⟩ (.int .i64 n1)).setCell ⟨w.heap.size, 3, none⟩ (.slice ao1 ln1 cp1)).heap[k]? = w2.heap[k]? := fun k hk => blk4_other hk
     have hB : FX (XI g m nv') (XI g m nv') w1 w2 := (FX.of_below ((Below.refl _ _).alloc (Nat.le_refl _) _)).trans HX2.out
     refine ⟨_, rfl, F, nv', ?_, ?_, ?_⟩
     · exact ((HTK.out.step hB).turn fun k hk _ => oE k (by omega)).lo_le (by omega)
     · exact HI2.out.turn fun k hk => oE k (fun e => by
         rcases hk with hk | hk
         · omega
         · rw [e] at hk; exact hnk hk)
     · exact ((((HFV.out.trans (HX.out.trans hB)).set (Or.inr (Nat.le_refl _)) _).set (Or.inr (Nat.le_refl _)) _).set (Or.inr (Nat.le_refl _)) _).set (Or.inr (Nat.le_refl _)) _
end Go.Proofs.YtbkjcccbjnehbanGreatDoor

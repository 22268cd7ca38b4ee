import Derived.Test.YtbkjcccbjnehbanGreatDoorMh25
import Derived.Test.YtbkjcccbjnehbanGreatDoorMh30
import Derived.Test.YtbkjcccbjnehbanGreatDoorMh24
import Derived.Test.YtbkjcccbjnehbanGreatDoorMh16
import Derived.Test.YtbkjcccbjnehbanGreatDoorMh22
namespace Go.Proofs.YtbkjcccbjnehbanGreatDoor
open Go.RowKit
def signsR (t : ByteArray) : List Sg × Bool := if (t.size : Int) ≤ 3000 then (sgs t 0, true) else ([], false)
theorem sgsF_len {t : ByteArray} : ∀ (n i : Nat), (sgsF t n i).length ≤ n := by
 intro n
 induction n with
 | zero => intro i; simp [sgsF]
 | succ n ih =>
   intro i
   unfold sgsF
   split
   · have := ih (stepAt t i).2
     rw [List.length_append]
     cases (stepAt t i).1 <;> simp <;> omega
   · simp
theorem signsR_len (t : ByteArray) : (signsR t).1.length ≤ 3000 := by
 unfold signsR
 split
 · have := sgsF_len (t := t) (t.size - 0) 0
   show (sgs t 0).length ≤ 3000
   unfold sgs; omega
 · simp
theorem spec_all (t : ByteArray) (w : World) :
   Calls Tryz.prog 18 #[.string t] w fun e w' => ∃ v, e = .returned (.tuple #[v, .bool (signsR t).2]) ∧ SgRow w' w.heap.size (signsR t).1 v ∧ Below w.heap.size w w' := by
 by_cases hs : (t.size : Int) ≤ 3000
 · have := spec_signs t hs w
   unfold signsR; rw [if_pos hs]; exact this
 · unfold signsR; rw [if_neg hs]
   go_enter Tryz.func18, Tryz.ntmps18
   go_wp2
   go_ret2
   exact ⟨_, rfl, SgRow.new (Nat.le_refl _), (Below.refl _ _).alloc (Nat.le_refl _) _⟩
theorem impl_all (t : ByteArray) (w : World) (hT : Lib.Utf8Tabs 0 1 w) :
   Calls Tryz.prog 20 #[.string t] w fun e w' => ∃ v, e = .returned (.tuple #[v, .bool (signsR t).2]) ∧ SgRow w' w.heap.size (signsR t).1 v ∧ Below w.heap.size w w' := by
 by_cases hs : (t.size : Int) ≤ 3000
 · have := impl_signs t hs w hT
   unfold signsR; rw [if_pos hs]; exact this
 · unfold signsR; rw [if_neg hs]
   clear hT
   go_enter Tryz.func20, Tryz.ntmps20
   go_wp2
   go_ret2
   exact ⟨_, rfl, SgRow.nil _ _, Below.refl _ _⟩
end Go.Proofs.YtbkjcccbjnehbanGreatDoor

namespace Go.Proofs.YtbkjcccbjnehbanGreatDoor
open Go.RowKit
section
variable {T t : ByteArray} {p : Nat} {pre : List UInt8}
theorem ext_data (u : ByteArray) (a b : Nat) : (u.extract a b).data.toList = (u.data.toList.drop a).take (b - a) := by
 have h1 : (u.extract a b).data = u.data.extract a b := by simp
 rw [h1, Array.toList_extract]
end
end Go.Proofs.YtbkjcccbjnehbanGreatDoor

namespace Go.Proofs.YtbkjcccbjnehbanGreatDoor
open Go.RowKit
theorem sgNum_rng : ∀ (l : List UInt8) (a v : Int) (k : Nat), sgNum l a = some (v, k) → 0 ≤ a → a ≤ 999999999 → 0 ≤ v ∧ v ≤ 999999999 := by
 intro l
 induction l with
 | nil => intro a v k h h0 h1; simp [sgNum] at h; omega
 | cons c l ih =>
   intro a v k h h0 h1
   unfold sgNum at h
   split at h
   · rename_i hc
     have hc2 : 48 ≤ c.toNat := by unfold isFig at hc; simp at hc; omega
     split at h
     · cases h
     · rename_i hb
       rw [Option.map_eq_some_iff] at h
       obtain ⟨⟨v', k'⟩, e1, e2⟩ := h
       simp at e2
       have := ih _ _ _ e1 (by omega) (by omega)
       omega
   · simp at h; omega
theorem rdl_ext_size (t : ByteArray) (a b : Nat) : (t.extract a b).size ≤ t.size := by
 have : (t.extract a b).size = (t.extract a b).data.toList.length := rfl
 rw [this, ext_data, List.length_take, List.length_drop]
 have e : t.data.toList.length = t.size := rfl
 omega
def MkOk (t : ByteArray) (i : Nat) (s : Sg × Nat) : Prop := ∃ k x n e, s = mkSg t k x n i e ∧ x.size ≤ t.size ∧ (0 ≤ n ∧ n ≤ 999999999)
theorem MkOk.bad (t : ByteArray) (i : Nat) : MkOk t i (badSg t i) := ⟨_, _, _, _, rfl, rdl_ext_size _ _ _, by omega⟩
theorem MkOk.one (t : ByteArray) (k : Int) (i : Nat) : MkOk t i (oneSg t k i) := ⟨_, _, _, _, rfl, rdl_ext_size _ _ _, by omega⟩
theorem MkOk.name (t : ByteArray) (k : Int) (p : UInt8 → Bool) (i : Nat) : MkOk t i (nameSg t k p i) := by
 unfold nameSg
 split
 · exact ⟨_, _, _, _, rfl, rdl_ext_size _ _ _, by omega⟩
 · exact MkOk.bad t i
theorem MkOk.sign (t : ByteArray) (i : Nat) : MkOk t i (signAt t i) := by
 unfold signAt
 split
 · exact MkOk.name _ _ _ _
 split
 · exact MkOk.name _ _ _ _
 split
 · unfold numSg
   split
   · rename_i v k hk
     have := sgNum_rng _ _ _ _ hk (by omega) (by omega)
     exact ⟨_, _, _, _, rfl, Nat.zero_le _, this⟩
   · exact MkOk.bad t i
 split
 · unfold quotSg
   split
   · exact ⟨_, _, _, _, rfl, rdl_ext_size _ _ _, by omega⟩
   · exact MkOk.bad t i
 split
 · exact MkOk.one _ _ _
 split
 · exact MkOk.one _ _ _
 split
 · exact MkOk.one _ _ _
 split
 · exact MkOk.name _ _ _ _
 · exact MkOk.bad t i
theorem lpar_step {t : ByteArray} {e : Nat} (he : e < t.size) (h40 : (at8 t e).toNat = 40) : stepAt t e = (some (oneSg t 4 e).1, e + 1) ∧ (oneSg t 4 e).1.kind = 4 ∧ (oneSg t 4 e).1.text = cLpar := by
 have hb : at8 t e = 40 := UInt8.toNat_inj.1 (by rw [h40]; rfl)
 refine ⟨?_, rfl, ?_⟩
 · unfold stepAt signAt
   rw [hb]
   simp only [show isBlank 40 = false from rfl, show ¬ (40 : UInt8).toNat = 37 from by decide, show isSmall 40 = false from rfl, show isGreat 40 = false from rfl, show isFig 40 = false from rfl, show ¬ (40 : UInt8).toNat = 39 from by decide, show isLone 40 = false from rfl, show isMark 40 = true from rfl, if_true, if_false, Bool.false_eq_true]
   rfl
 · show t.extract e (e + 1) = cLpar
   have h1 : (t.extract e (e + 1)).data.toList = [40] := by
     rw [ext_data, drop_at t e he, show e + 1 - e = 1 by omega]
     simp only [List.take_succ_cons, List.take_zero]
     rw [← at8_eq t e he, hb]
   have h2 : t.extract e (e + 1) = ⟨⟨(t.extract e (e + 1)).data.toList⟩⟩ := rfl
   rw [h2, h1]; rfl
theorem sgsF_ok {t : ByteArray} (ht : t.size ≤ 3000) : ∀ (n i : Nat), t.size - i ≤ n → LOk (sgsF t n i) := by
 intro n
 induction n with
 | zero => intro i _; exact trivial
 | succ n ih =>
   intro i hn
   unfold sgsF
   split
   · rename_i hi
     unfold stepAt
     split
     · exact ih _ (by omega)
     split
     · rename_i h37
       have hr : 0 < run t not10 i := by
         have hp : not10 t[i] = true := by rw [at8_eq t i hi] at h37; unfold not10; simp; omega
         rw [run_yes hi hp]; omega
       exact ih _ (by show t.size - (i + run t not10 i) ≤ n; omega)
     · obtain ⟨k, x, m, e, hs, hx, hm⟩ := MkOk.sign t i
       have hend := signAt_end hi
       rw [hs] at hend
       have e2 : (mkSg t k x m i e).2 = e := rfl
       rw [e2] at hend
       simp only [Option.toList_some, List.singleton_append, hs, e2]
       refine ⟨⟨?_, ?_, ?_, ?_⟩, ih e (by omega)⟩
       · show x.size ≤ maxLen
         unfold maxLen; omega
       · show _ ≤ m ∧ m ≤ _
         omega
       · show i ≤ 100000
         omega
       · intro _ hnear
         have hnear2 : (decide (e < t.size) && decide ((at8 t e).toNat = 40)) = true := hnear
         simp only [Bool.and_eq_true, decide_eq_true_eq] at hnear2
         obtain ⟨h1, h2⟩ := hnear2
         obtain ⟨q1, q2, q3⟩ := lpar_step h1 h2
         obtain ⟨m', rfl⟩ : ∃ m', n = m' + 1 := ⟨n - 1, by omega⟩
         refine ⟨sgsF t m' (e + 1), ?_⟩
         have q0 : sgsF t (m' + 1) e = (oneSg t 4 e).1 :: sgsF t m' (e + 1) := by
           show (if e < t.size then (stepAt t e).1.toList ++ sgsF t m' (stepAt t e).2 else []) = _
           rw [if_pos h1, q1]; rfl
         rw [q0]
         simp only [mk?]
         have q4 : (oneSg t 4 e).1.kind = 4 ∧ (oneSg t 4 e).1.text = cLpar := ⟨q2, q3⟩
         exact if_pos q4
   · exact trivial
theorem sgs_ok {t : ByteArray} (ht : t.size ≤ 3000) : LOk (sgs t 0) := sgsF_ok ht _ 0 (by omega)
end Go.Proofs.YtbkjcccbjnehbanGreatDoor

namespace Go.Proofs.YtbkjcccbjnehbanGreatDoor
open Go.RowKit
theorem results_c2 {P : Program} {fn : Func} {p u x : Tmp} {ty : TypeId} (h : fn.results = #[.cell p ty, .tmp u, .tmp x]) (tmps : Array Value) (w : World) (g : Nat) (t : TypeId) (cs : Array Value) (fr : Nat × Nat) (d : TypeDesc)
   (hp : tmps.getD p undef = .pointer (some ⟨g, 0, none⟩)) (hg : w.heap[g]? = some (.cells cs t fr))
   (hu : P.underlying ty = some d) (hd : (match d with | .struct _ | .array _ _ => true | _ => false) = true) (hi : (P.info? ty).map (·.size) = some cs.size) :
   (results fn tmps).run P w = .ok (.tuple #[.agg cs, tmps.getD u undef, tmps.getD x undef]) w := by
 have hp' : tmps[p]?.getD undef = .pointer (some ⟨g, 0, none⟩) := by simpa using hp
 simp [results, h, hp', asAddr, run_loadVar_row w g t ty cs fr d hg hu hd hi]
theorem signs_ok (t : ByteArray) : LOk (signsR t).1 := by
 unfold signsR
 split
 · exact sgs_ok (by omega)
 · trivial
def rtR (t : ByteArray) : Option (Tm × List ByteArray) :=
 if (rsR (signsR t).1 0).ok = true ∧ (rsR (signsR t).1 0).nx = (signsR t).1.length then some ((rsR (signsR t).1 0).t, (rsR (signsR t).1 0).names) else none
def rtT (o : Option (Tm × List ByteArray)) : Tm := match o with | some x => x.1 | none => noTm
def rtN (o : Option (Tm × List ByteArray)) : List ByteArray := match o with | some x => x.2 | none => []
def RtOut (o : Option (Tm × List ByteArray)) (w : World) (e : Ending) (w' : World) : Prop :=
 ∃ tv nv F, e = .returned (.tuple #[tv, nv, .bool o.isSome]) ∧ TOk 24 (fun _ => False) w.heap.size w' (rtT o) tv F ∧ NRow w' w.heap.size (rtN o) nv ∧ Below w.heap.size w w'
set_option maxHeartbeats 4000000 in
set_option maxRecDepth 20000 in
theorem s_readTerm (t : ByteArray) (w : World) : Calls Tryz.prog 5 #[.string t] w (RtOut (rtR t) w) := by
 have HSG : Hid (∀ w, Calls Tryz.prog 18 #[.string t] w fun e w' => ∃ v, e = .returned (.tuple #[v, .bool (signsR t).2]) ∧ SgRow w' w.heap.size (signsR t).1 v ∧ Below w.heap.size w w') := spec_all t
 have HLEN : Hid ((signsR t).1.length ≤ 3000) := signsR_len t
 have HOK : Hid (LOk (signsR t).1) := signs_ok t
 have HRT : Hid (rtR t = if (rsR (signsR t).1 0).ok = true ∧ (rsR (signsR t).1 0).nx = (signsR t).1.length then some ((rsR (signsR t).1 0).t, (rsR (signsR t).1 0).names) else none) := rfl
 generalize (signsR t).1 = L at *
 generalize (signsR t).2 = bb at *
 generalize rtR t = O at *
 obtain ⟨W, hW⟩ : ∃ W, W = w.alloc (.cells #[.int .i64 0, .string ⟨#[]⟩, .int .i64 0, .slice none 0 0] 24) := ⟨_, rfl⟩
 have bW : Below w.heap.size w W := by rw [hW]; exact (Below.refl _ _).alloc (Nat.le_refl _) _
 have HKW : Hid (W.heap[w.heap.size]? = some (.cells #[.int .i64 0, .string ⟨#[]⟩, .int .i64 0, .slice none 0 0] 24 (0, 0))) := by rw [hW]; exact heap_alloc_new _ _
 have HSW : Hid (W.heap.size = w.heap.size + 1) := by show _ = _; rw [hW]; simp
 have HBW : Hid (Below w.heap.size w W) := bW
 have HW : Hid (W = w.alloc (.cells #[.int .i64 0, .string ⟨#[]⟩, .int .i64 0, .slice none 0 0] 24)) := hW
 clear bW
 go_enter Tryz.func5, Tryz.ntmps5
 go_upto_region 1 with (fail)
 rw [← HW.out]
 clear hW
 go_upto_region 2 with (go_at_call 18; refine (Calls.mono (HSG.out _) ?_); rintro e w1 ⟨v1, rfl, r1, b1⟩; obtain ⟨ao, cap, rfl, hcap, hlc⟩ := r1.shape; have R1 : Hid (SgRow w1 W.heap.size L (.slice ao L.length cap)) := r1; have B1 : Hid (Below W.heap.size W w1) := b1; clear r1 b1)
 have HR0 : Hid (SgRow w1 0 L (.slice ao L.length cap)) := ⟨R1.out.1, by
   rcases R1.out.2 with hn | ⟨g, cap', cur, e, _, h2, h3⟩
   · exact Or.inl hn
   · exact Or.inr ⟨g, cap', cur, e, Nat.zero_le _, h2, h3⟩⟩
 have HRS := s_readSigns L (.slice ao L.length cap) 0 w1 (Nat.zero_le _) HLEN.out HOK.out HR0.out
 have hl3 : (L.length : Int) ≤ 3000 := by have := HLEN.out; omega
 obtain ⟨NL, hNL⟩ : ∃ NL, NL = L.length := ⟨_, rfl⟩
 rw [← hNL] at HRS hl3 HRT ⊢
 unfold RsOut at HRS
 obtain ⟨RR, hRR⟩ : ∃ RR, RR = rsR L 0 := ⟨_, rfl⟩
 rw [← hRR] at HRS HRT
 obtain ⟨ok, t0, names, nx⟩ := RR
 replace HRS : Hid _ := HRS
 clear hRR hNL hlc R1 HR0 HSG HOK HLEN
 unfold maxLen at hcap
 go_upto_region 3 with (go_at_call 19; refine (Calls.mono HRS.out ?_); rintro e w2 ⟨tv, nv, F, rfl, ht, hnr, hb⟩; obtain ⟨tk, ts, tn, ta, tl, tc, rfl⟩ := ht.form; have HT2 : Hid (TOk 24 (fun _ => False) w1.heap.size w2 t0 (.agg #[.int .i64 tk, .string ts, .int .i64 tn, .slice ta tl tc]) F) := ht; have HN2 : Hid (NRow w2 w1.heap.size names nv) := hnr; have B2 : Hid (Below w1.heap.size w1 w2) := hb; clear ht hnr hb)
 have HBW2 : Hid (Below w.heap.size w w2) := by
   have h1 := HBW.out.trans (B1.out.mono HBW.out.size)
   exact h1.trans (B2.out.mono h1.size)
 obtain ⟨V, hV⟩ : ∃ V, V = w2.alloc (.cells #[.int .i64 tk, .string ts, .int .i64 tn, .slice ta tl tc] 24) := ⟨_, rfl⟩
 have bV : Below w2.heap.size w2 V := by rw [hV]; exact (Below.refl _ _).alloc (Nat.le_refl _) _
 have HK7 : Hid (V.heap[w2.heap.size]? = some (.cells #[.int .i64 tk, .string ts, .int .i64 tn, .slice ta tl tc] 24 (0, 0))) := by rw [hV]; exact heap_alloc_new _ _
 have HBV : Hid (Below w.heap.size w V) := HBW2.out.trans (bV.mono HBW2.out.size)
 have HLT : Hid (w.heap.size < w2.heap.size ∧ w.heap.size < w1.heap.size) := by have h0 := HSW.out; have h1 := B1.out.size; have h2 := B2.out.size; exact ⟨by omega, by omega⟩
 have HKV : Hid (V.heap[w.heap.size]? = some (.cells #[.int .i64 0, .string ⟨#[]⟩, .int .i64 0, .slice none 0 0] 24 (0, 0))) := by
   have h0 := HSW.out
   have h1 := (B1.out.block w.heap.size (by omega)).trans HKW.out
   have h2 := (B2.out.block w.heap.size HLT.out.2).trans h1
   exact (bV.block w.heap.size HLT.out.1).trans h2
 have HTV : Hid (TOk 24 (fun _ => False) w1.heap.size V t0 (.agg #[.int .i64 tk, .string ts, .int .i64 tn, .slice ta tl tc]) F) := HT2.out.step (FX.of_below bV)
 have HNV : Hid (NRow V w1.heap.size names nv) := nrow_keep HN2.out bV
 have hltV : w.heap.size < V.heap.size := (Array.getElem?_eq_some_iff.1 HKV.out).1
 rw [← hV]
 clear hV bV HT2 HN2 HKW HRS
 cases ok with
 | false =>
   have HON : Hid (O = none) := by show _ = _; rw [HRT.out, if_neg (by simp)]
   clear HRT
   go_upto_region 4 with (fail)
   obtain ⟨q0, q1, q2, q3, z0, z1, z2, z3⟩ := blk4 HKV.out
   go_wp2
   have hF := fin_false HBV.out HKV.out
   refine bodyPost_ret_by (results_c2 rfl _ _ w.heap.size 24 _ (0, 0) _ rfl hF.1 Tryz.underlying24 rfl (by kernel_rfl)) rfl ?_
   exact ⟨_, _, [], by rw [HON.out]; rfl, by rw [HON.out]; exact tok_zero _ _, by rw [HON.out]; exact hF.2.1, hF.2.2⟩
 | true =>
   by_cases hnx : nx = NL
   · subst hnx
     have HON : Hid (O = some (t0, names)) := by show _ = _; rw [HRT.out, if_pos ⟨rfl, rfl⟩]
     clear HRT
     go_upto_region 5 with (fail)
     obtain ⟨q0, q1, q2, q3, z0, z1, z2, z3⟩ := blk4 HKV.out
     obtain ⟨y0, y1, y2, y3, _⟩ := blk4 HK7.out
     have hne : ¬ w.heap.size = w2.heap.size := by have := HLT.out.1; omega
     go_wp2
     refine bodyPost_ret_by (results_c2 rfl _ _ w.heap.size 24 _ (0, 0) _ rfl (blk4_set HKV.out) Tryz.underlying24 rfl (by kernel_rfl)) rfl ?_
     have h1 := HLT.out
     refine ⟨_, nv, F, by rw [HON.out]; rfl, ?_, ?_, blk4_below HBV.out (Nat.le_refl _)⟩
     · rw [HON.out]
       exact ⟨Own.keep _ _ _ HTV.out.own fun f hf => blk4_other (by have := (HTV.out.out f hf).1; omega), HTV.out.nd, fun f hf => ⟨by have := (HTV.out.out f hf).1; omega, fun h => h⟩⟩
     · rw [HON.out]
       exact nrow_base (B := w1.heap.size) (HNV.out.turn fun b hb => blk4_other (by have := (HNV.out.lt b hb).1; omega)) (by omega)
   · have HON : Hid (O = none) := by show _ = _; rw [HRT.out, if_neg (fun h => hnx h.2)]
     have hnb : ((nx : Int) != (NL : Int)) = true := by simpa using (show ¬ (nx : Int) = (NL : Int) by omega)
     clear HRT hnx
     go_upto_region 4 with (fail)
     obtain ⟨q0, q1, q2, q3, z0, z1, z2, z3⟩ := blk4 HKV.out
     go_wp2
     have hF := fin_false HBV.out HKV.out
     refine bodyPost_ret_by (results_c2 rfl _ _ w.heap.size 24 _ (0, 0) _ rfl hF.1 Tryz.underlying24 rfl (by kernel_rfl)) rfl ?_
     exact ⟨_, _, [], by rw [HON.out]; rfl, by rw [HON.out]; exact tok_zero _ _, by rw [HON.out]; exact hF.2.1, hF.2.2⟩
end Go.Proofs.YtbkjcccbjnehbanGreatDoor

import Derived.Test.YtbkjcccbjnehbanGreatDoorMh31
import Derived.Test.YtbkjcccbjnehbanGreatDoorMh8
import Derived.Test.YtbkjcccbjnehbanGreatDoorRows
import Derived.Test.YtbkjcccbjnehbanGreatDoorMh2
import Derived.MapKept
import Derived.ProofKit
import Derived.Test.YtbkjcccbjnehbanGreatDoorMh5
import Derived.Deep.DeepCutAuto
namespace Go.Proofs.YtbkjcccbjnehbanGreatDoor
open Go.RowKit
theorem behindC_pos {r : List Sg} (h : r ≠ []) : 1 ≤ behindC r := by
 cases r with
 | nil => exact absurd rfl h
 | cons x r => simp only [behindC]; split <;> omega
theorem rsR_nx {L : List Sg} {a : Nat} (h : a < L.length) : a < (rsR L a).nx ∧ (rsR L a).nx ≤ L.length := by
 unfold rsR
 rw [if_pos h]
 cases hr : readS (L.drop a) with
 | none =>
   have h1 := behindC_pos (r := L.drop a) (by intro e; have := congrArg List.length e; simp at this; omega)
   have h2 := behindC_le (L.drop a)
   rw [List.length_drop] at h2
   show a < a + behindC (L.drop a) ∧ a + behindC (L.drop a) ≤ L.length
   omega
 | some y =>
   obtain ⟨t, names, r⟩ := y
   show a < L.length - r.length ∧ L.length - r.length ≤ L.length
   unfold readS at hr
   cases hT : termO true 130 1200 ⟨L.drop a, []⟩ with
   | none => rw [hT] at hr; cases hr
   | some q =>
     obtain ⟨t', ⟨_ | ⟨x, r'⟩, nm⟩⟩ := q
     · rw [hT] at hr; cases hr
     · rw [hT] at hr
       have hs := termO_short true 130 _ _ _ _ hT
       simp only [List.length_cons, List.length_drop] at hs
       simp only at hr
       split at hr
       · cases hr
         omega
       · cases hr
def raF (L : List Sg) : Nat → Nat → List Tm → Nat → List Tm × Nat
 | 0, _, ks, b => (ks, b)
 | f + 1, a, ks, b => if a < L.length then (if (rsR L a).ok then raF L f (rsR L a).nx (ks ++ [(rsR L a).t]) b else raF L f (rsR L a).nx ks (b + 1)) else (ks, b)
theorem raF_more (L : List Sg) : ∀ (f g a : Nat) (ks : List Tm) (b : Nat), L.length - a ≤ f → L.length - a ≤ g → raF L f a ks b = raF L g a ks b
 | 0, 0, _, _, _, _, _ => rfl
 | 0, g + 1, a, ks, b, h, _ => by simp only [raF]; rw [if_neg (by omega)]
 | f + 1, 0, a, ks, b, _, h => by simp only [raF]; rw [if_neg (by omega)]
 | f + 1, g + 1, a, ks, b, h1, h2 => by
   simp only [raF]
   by_cases h : a < L.length
   · have := rsR_nx h
     rw [if_pos h, if_pos h, raF_more L f g _ _ _ (by omega) (by omega), raF_more L f g _ _ _ (by omega) (by omega)]
   · rw [if_neg h, if_neg h]
def raL (L : List Sg) (a : Nat) (ks : List Tm) (b : Nat) : List Tm × Nat := raF L (L.length - a) a ks b
theorem raL_end {L : List Sg} {a : Nat} {ks : List Tm} {b : Nat} (h : ¬ a < L.length) : raL L a ks b = (ks, b) := by
 unfold raL
 rw [show L.length - a = 0 by omega]; rfl
theorem raL_ok {L : List Sg} {a : Nat} {ks : List Tm} {b : Nat} (h : a < L.length) (hk : (rsR L a).ok = true) : raL L a ks b = raL L (rsR L a).nx (ks ++ [(rsR L a).t]) b := by
 unfold raL
 have := rsR_nx h
 obtain ⟨f, hf⟩ : ∃ f, L.length - a = f + 1 := ⟨L.length - a - 1, by omega⟩
 rw [hf]
 simp only [raF]
 rw [if_pos h, if_pos hk]
 exact raF_more _ _ _ _ _ _ (by omega) (by omega)
theorem raL_no {L : List Sg} {a : Nat} {ks : List Tm} {b : Nat} (h : a < L.length) (hk : (rsR L a).ok = false) : raL L a ks b = raL L (rsR L a).nx ks (b + 1) := by
 unfold raL
 have := rsR_nx h
 obtain ⟨f, hf⟩ : ∃ f, L.length - a = f + 1 := ⟨L.length - a - 1, by omega⟩
 rw [hf]
 simp only [raF]
 rw [if_pos h, if_neg (by rw [hk]; simp)]
 exact raF_more _ _ _ _ _ _ (by omega) (by omega)
def raR (t : ByteArray) : List Tm × Nat := raL (signsR t).1 0 [] 0
def RaOut (R : List Tm × Nat) (w : World) (e : Ending) (w' : World) : Prop :=
 ∃ v F, e = .returned (.tuple #[v, .int .i64 (R.2 : Int)]) ∧ ROk 24 (fun _ => False) w.heap.size w' R.1 v F ∧ Below w.heap.size w w'
theorem row_push {W w5 w6 : World} {ks : List Tm} {sl v' c0 c1 c2 c3 : Value} {F Fx F0 : List Nat} {t : Tm} {cs : List Value}
   (H5 : ROk 24 (fun _ => False) W.heap.size w5 ks sl F) (T5 : TOk 24 (fun _ => False) W.heap.size w5 t (.agg #[c0, c1, c2, c3]) Fx) (hd : ∀ f ∈ F, ∀ g ∈ Fx, f ≠ g)
   (hr : OwnRow 24 w5 ks cs F0) (hnd : F0.Nodup) (h0 : ∀ f ∈ F0, f ∈ F ∧ sl.ownBlock ≠ some f) (hs : ∀ b, sl.ownBlock = some b → b ∈ F) (hown : w6.ownsRow 0 24 4 v' (ks.length + 1) (cs ++ [c0, c1, c2, c3])) (hg : w5.grownBy w6 sl.ownBlock)
   (hat : v'.ownBlock = sl.ownBlock ∨ v'.ownBlock = some w5.heap.size) (hb : Below W.heap.size W w5) :
   (∃ F', ROk 24 (fun _ => False) W.heap.size w6 (ks ++ [t]) v' F' ∧ ∀ f ∈ F', f ∈ F ∨ f ∈ Fx ∨ w5.heap.size ≤ f) ∧ Below W.heap.size W w6 := by
 obtain ⟨F', h1, h2⟩ := H5.push T5 hd hr hnd h0 hs hown hg hat hb.size (fun h => h)
 refine ⟨⟨F', h1, h2⟩, hg.os.trans hb.os, hg.tape.trans hb.tape, hg.output.trans hb.output, Nat.le_trans hb.size hg.size, fun k hk => ?_⟩
 rw [hg.block k (Nat.lt_of_lt_of_le hk hb.size) (fun e => by have := (H5.out k (hs k e.symm)).1; omega)]
 exact hb.block k hk
set_option maxHeartbeats 8000000 in
set_option maxRecDepth 20000 in
theorem s_readAll (t : ByteArray) (w : World) : Calls Tryz.prog 13 #[.string t] w (RaOut (raR t) w) := by
 obtain ⟨i0, hi, hz0, hz1, hz2⟩ := info_partsS infoT
 have HSG : Hid (∀ w, Calls Tryz.prog 18 #[.string t] w fun e w' => ∃ v, e = .returned (.tuple #[v, .bool (signsR t).2]) ∧ SgRow w' w.heap.size (signsR t).1 v ∧ Below w.heap.size w w') := spec_all t
 have HLEN : Hid ((signsR t).1.length ≤ 3000) := signsR_len t
 have HOK : Hid (LOk (signsR t).1) := signs_ok t
 have HRA : Hid (raL (signsR t).1 0 [] 0 = raR t) := rfl
 generalize (signsR t).1 = L at *
 generalize (signsR t).2 = bb at *
 generalize raR t = O at *
 obtain ⟨W, hW⟩ : ∃ W, W = w.alloc (.cells #[] 24) := ⟨_, rfl⟩
 have HW : Hid (W = w.alloc (.cells #[] 24)) := hW
 have HBW : Hid (Below w.heap.size w W) := by rw [hW]; exact (Below.refl _ _).alloc (Nat.le_refl _) _
 have HRW : Hid (ROk 24 (fun _ => False) w.heap.size W [] (.slice (some ⟨w.heap.size, 0, none⟩) 0 0) [w.heap.size]) := by rw [hW]; exact ROk.fresh (Nat.le_refl _) (fun h => h)
 obtain ⟨NL, hNL⟩ : ∃ NL, NL = L.length := ⟨_, rfl⟩
 have HNL : Hid (L.length = NL) := hNL.symm
 have hl3 : (NL : Int) ≤ 3000 := by have := HLEN.out; omega
 clear hNL
 go_enter Tryz.func13, Tryz.ntmps13
 go_upto_region 3 with (fail)
 rw [← HW.out]
 clear hW
 go_wp2_with (go_at_call 18; refine (Calls.mono (HSG.out _) ?_); rintro e w1 ⟨v1, rfl, r1, b1⟩; obtain ⟨ao, cap, rfl, hcap, hlc⟩ := r1.shape; have R1 : Hid (SgRow w1 W.heap.size L (.slice ao L.length cap)) := r1; have B1 : Hid (Below W.heap.size W w1) := b1; rw [HNL.out] at R1 hlc ⊢; clear r1 b1)
 have HLV0 : Hid (SgRow w1 0 L (.slice ao NL cap)) := ⟨R1.out.1, by
   rcases R1.out.2 with hn | ⟨g, cap', cur, e, _, h2, h3⟩
   · exact Or.inl hn
   · exact Or.inr ⟨g, cap', cur, e, Nat.zero_le _, h2, h3⟩⟩
 have HLB0 : Hid (∀ b, (Value.slice ao NL cap).ownBlock = some b → W.heap.size ≤ b ∧ b < w1.heap.size) := fun b hb => by
   rcases R1.out.2 with ⟨e, _⟩ | ⟨g, cap', cur, e, h1, h2, _⟩
   · rw [e] at hb; cases hb
   · rw [e] at hb; simp only [Value.ownBlock, Option.some.injEq] at hb; subst hb; exact ⟨h1, (Array.getElem?_eq_some_iff.1 h2).1⟩
 have HSW : Hid (W.heap.size = w.heap.size + 1) := by show _ = _; rw [HW.out]; simp
 have HR0 : Hid (ROk 24 (fun _ => False) w.heap.size w1 [] (.slice (some ⟨w.heap.size, 0, none⟩) 0 0) [w.heap.size]) := HRW.out.step (FX.of_below B1.out)
 clear HRW R1 hlc
 unfold maxLen at hcap
 go_loopw [4, 5, 8] (fun v4 v5 v8 wr => ∃ (a b KN : Nat) (ks : List Tm) (F : List Nat) (ao4 : Option Addr) (cap4 : Nat), a ≤ NL ∧ v8 = .int .i64 (a : Int) ∧ v5 = .int .i64 (b : Int) ∧ v4 = .slice ao4 KN cap4 ∧ b ≤ a ∧ KN ≤ a ∧ Hid (ks.length = KN) ∧ Hid (raL L a ks b = O) ∧ Hid (ROk 24 (fun _ => False) w.heap.size wr ks (.slice ao4 KN cap4) F) ∧ Hid (∀ f ∈ F, (Value.slice ao NL cap).ownBlock ≠ some f) ∧ Hid (SgRow wr 0 L (.slice ao NL cap)) ∧ Hid (Below w.heap.size w wr)) (fun _ _ v8 _ => NL - (intOf v8).toNat)
 case atStart => exact ⟨0, 0, 0, [], [w.heap.size], _, _, Nat.zero_le _, rfl, rfl, rfl, Nat.le_refl _, Nat.le_refl _, rfl, HRA.out, HR0.out, fun f hf e => by simp at hf; subst hf; have := (HLB0.out _ e).1; have := HSW.out; omega, HLV0.out, HBW.out.trans (B1.out.mono HBW.out.size)⟩
 case round =>
   clear HLV0 HR0 HRA HLB0
   obtain ⟨a, b, KN, ks, F, ao4, cap4, ha, rfl, rfl, rfl, hba, hka, HKN, HRL, HRO, HFL, HLV, HB⟩ := hrel
   by_cases hlt : a < NL
   · have hltL : a < L.length := by have := HNL.out; omega
     have HRS := s_readSigns L (.slice ao NL cap) a wr (Nat.le_of_lt hltL) HLEN.out HOK.out HLV.out
     have hnx := rsR_nx hltL
     unfold RsOut at HRS
     have HOKY : Hid ((rsR L a).ok = true → raL L (rsR L a).nx (ks ++ [(rsR L a).t]) b = O) := fun h => by rw [← HRL.out, raL_ok hltL h]
     have HNOY : Hid ((rsR L a).ok = false → raL L (rsR L a).nx ks (b + 1) = O) := fun h => by rw [← HRL.out, raL_no hltL h]
     rw [HNL.out] at hnx
     generalize rsR L a = RR at *
     obtain ⟨ok, t0, names, nx⟩ := RR
     simp only at hnx
     replace HRS : Hid _ := HRS
     have hlv : ∀ k, (Value.slice ao NL cap).ownBlock = some k → k < wr.heap.size := fun k hk => by
       rcases HLV.out.2 with ⟨e, _⟩ | ⟨g, cap', cur, e, _, hh, _⟩
       · rw [e] at hk; cases hk
       · rw [e] at hk; simp only [Value.ownBlock, Option.some.injEq] at hk; subst hk; exact (Array.getElem?_eq_some_iff.1 hh).1
     have HLVB : Hid _ := hlv
     clear hltL HRL hlv
     go_upto_region 7 with (go_at_call 19; refine (Calls.mono HRS.out ?_); rintro e w2 ⟨tv, nv, F2, rfl, ht, hnr, hb⟩; obtain ⟨tk, ts, tn, ta, tl, tc, rfl⟩ := ht.form; have HT2 : Hid (TOk 24 (fun _ => False) wr.heap.size w2 t0 (.agg #[.int .i64 tk, .string ts, .int .i64 tn, .slice ta tl tc]) F2) := ht; have B2 : Hid (Below wr.heap.size wr w2) := hb; obtain ⟨aon, capn, rfl, _⟩ := hnr.cells; clear ht hnr hb)
     obtain ⟨V, hV⟩ : ∃ V, V = w2.alloc (.cells #[.int .i64 tk, .string ts, .int .i64 tn, .slice ta tl tc] 24) := ⟨_, rfl⟩
     have bV : Below w2.heap.size w2 V := by rw [hV]; exact (Below.refl _ _).alloc (Nat.le_refl _) _
     have HK7 : Hid (V.heap[w2.heap.size]? = some (.cells #[.int .i64 tk, .string ts, .int .i64 tn, .slice ta tl tc] 24 (0, 0))) := by rw [hV]; exact heap_alloc_new _ _
     have HTV : Hid (TOk 24 (fun _ => False) wr.heap.size V t0 (.agg #[.int .i64 tk, .string ts, .int .i64 tn, .slice ta tl tc]) F2) := HT2.out.step (FX.of_below bV)
     have HBV : Hid (Below wr.heap.size wr V) := B2.out.trans (bV.mono B2.out.size)
     have HWV : Hid (w2.heap.size < V.heap.size) := by show _ < _; rw [hV]; simp
     rw [← hV]
     clear hV bV HT2 HRS B2
     have HROV : Hid (ROk 24 (fun _ => False) w.heap.size V ks (.slice ao4 KN cap4) F) := HRO.out.step (FX.of_below HBV.out)
     have HLVV : Hid (SgRow V 0 L (.slice ao NL cap)) := HLV.out.keep HBV.out
     have HBWV : Hid (Below w.heap.size w V) := HB.out.trans (HBV.out.mono HB.out.size)
     cases ok with
     | false =>
       have HRF : Hid _ := HNOY.out rfl
       clear HNOY HOKY
       go_wp2
       go_roundw
       case rel => exact ⟨nx, b + 1, KN, ks, F, ao4, cap4, hnx.2, rfl, by go_num, rfl, by omega, by omega, HKN.out, HRF.out, HROV.out, HFL.out, HLVV.out, HBWV.out⟩
       case measure => simp [intOf]; omega
     | true =>
       have HRF : Hid _ := HOKY.out rfl
       clear HNOY HOKY
       obtain ⟨y0, y1, y2, y3, _⟩ := blk4 HK7.out
       obtain ⟨w5, hw5⟩ : ∃ w5, w5 = V.alloc (.cells #[.int .i64 tk, .string ts, .int .i64 tn, .slice ta tl tc] 24) := ⟨_, rfl⟩
       have b5 : Below V.heap.size V w5 := by rw [hw5]; exact (Below.refl _ _).alloc (Nat.le_refl _) _
       have HRO5 : Hid (ROk 24 (fun _ => False) w.heap.size w5 ks (.slice ao4 KN cap4) F) := HROV.out.step (FX.of_below b5)
       obtain ⟨cs, F0, p1, p2, p3, p4, p5⟩ := HRO5.out.row
       rw [HKN.out, hw5] at p1
       have HP1 : Hid _ := p1
       have HP2 : Hid _ := p2
       have HP3 : Hid _ := p3
       have HP4 : Hid _ := p4
       have HP5 : Hid _ := p5
       have HW5 : Hid (w5 = V.alloc (.cells #[.int .i64 tk, .string ts, .int .i64 tn, .slice ta tl tc] 24)) := hw5
       have HB5 : Hid _ := b5
       clear p1 p2 p3 p4 p5 hw5 b5
       have hszV := HBWV.out.size
       go_wp2_with (at_builtin; go_loud (refine wpList_append_own_at _ rfl _ _ 22 rfl 0 24 i0 (.agg #[.int .i64 0, .string ⟨#[]⟩, .int .i64 0, .slice none 0 0]) 4 56 Tryz.underlying22 hi hz0 hz1 hz2 rfl (by decide) _ _ _ rfl HP1.out ⟨V.heap.size, 0, none⟩ 1 1 [.int .i64 tk, .string ts, .int .i64 tn, .slice ta tl tc] rfl rfl ?c1 ?c2 ?c3 ?c4 ?c5 ?_))
       case c1 =>
         intro q z hq
         match q, hq with
         | 0, hq => simp at hq; subst hq; simp [Addr.add]
         | 1, hq => simp at hq; subst hq; simp [Addr.add]
         | 2, hq => simp at hq; subst hq; simp [Addr.add]
         | 3, hq => simp at hq; subst hq; simp [Addr.add]
       case c2 => intro z hz; simp at hz; rcases hz with rfl | rfl | rfl | rfl <;> rfl
       case c3 => unfold maxLen; omega
       case c4 => omega
       case c5 => omega
       intro v' w6 hown' hgrow _ hat
       rw [← HW5.out] at hgrow
       have hat5 : v'.ownBlock = (Value.slice ao4 KN cap4).ownBlock ∨ v'.ownBlock = some w5.heap.size := by rw [HW5.out]; simpa using hat
       have hbw := HB.out.size
       obtain ⟨⟨F', hF1, hF2⟩, hbel⟩ := row_push (W := w) HRO5.out ((HTV.out.lo_le hbw).step (FX.of_below HB5.out)) (fun f hf g' hg' => by have := HRO.out.lt f hf; have := (HTV.out.out g' hg').1; omega) HP2.out HP3.out HP4.out HP5.out (by rw [HKN.out]; exact hown') hgrow hat5 (HBWV.out.trans (HB5.out.mono hszV))
       obtain ⟨a6, c6, rfl⟩ : ∃ ao cap, v' = .slice ao (KN + 1) cap := by
         rcases hown'.2 with ⟨e, h0⟩ | ⟨g, cap', cur, e, _⟩
         · omega
         · exact ⟨_, _, e⟩
       have HF1 : Hid (ROk 24 (fun _ => False) w.heap.size w6 (ks ++ [t0]) (.slice a6 (KN + 1) c6) F') := hF1
       have HF2 : Hid (∀ f ∈ F', (Value.slice ao NL cap).ownBlock ≠ some f) := fun f hf e => by
         have h1 := HLVB.out f e
         rcases hF2 f hf with h | h | h
         · exact HFL.out f h e
         · have := (HTV.out.out f h).1; omega
         · have := HB5.out.size; have := HBV.out.size; omega
       have HLV6 : Hid (SgRow w6 0 L (.slice ao NL cap)) := (HLVV.out.keep HB5.out).turn fun b hb => hgrow.block b (by have := HLVB.out b hb; have := HB5.out.size; have := HBV.out.size; omega) (fun e => HFL.out b (HP5.out b e.symm) hb)
       have HB6 : Hid (Below w.heap.size w w6) := hbel
       have HKN6 : Hid ((ks ++ [t0]).length = KN + 1) := by show _ = _; rw [List.length_append, HKN.out]; rfl
       clear hown' hgrow hat hat5 hF1 hF2 hbel HP1 HP2 HP3 HP4 HP5 y0 y1 y2 y3
       go_wp2
       go_roundw
       case rel => exact ⟨nx, b, KN + 1, ks ++ [t0], F', a6, c6, hnx.2, rfl, rfl, by go_num, by omega, by omega, HKN6.out, HRF.out, HF1.out, HF2.out, HLV6.out, HB6.out⟩
       case measure => simp [intOf]; omega
   · obtain rfl : a = NL := by omega
     have HE : Hid (O = (ks, b)) := by show _ = _; rw [← HRL.out, raL_end (by rw [HNL.out]; exact hlt)]
     clear HRL
     go_wp2
     go_ret2
     exact ⟨_, F, by rw [HE.out]; rfl, by rw [HE.out]; exact HRO.out, HB.out⟩
end Go.Proofs.YtbkjcccbjnehbanGreatDoor

namespace Go.Proofs.YtbkjcccbjnehbanGreatDoor
open Go.RowKit
def putB (w : World) (m : Nat) (o : Obj) : World := { w with heap := w.heap.setIfInBounds m o }
theorem putB_at {w : World} {m : Nat} {o o' : Obj} (h : w.heap[m]? = some o') : (putB w m o).heap[m]? = some o := by
 have := (Array.getElem?_eq_some_iff.1 h).1
 simp [putB, this]
theorem putB_other {w : World} {m k : Nat} {o : Obj} (h : k ≠ m) : (putB w m o).heap[k]? = w.heap[k]? := by
 simp [putB, Ne.symm h]
def mget (s : ByteArray) : List (ByteArray × Int) → Option Int
 | [] => none
 | x :: r => if x.1 = s then some x.2 else mget s r
def mput (s : ByteArray) (n : Int) : List (ByteArray × Int) → List (ByteArray × Int)
 | [] => [(s, n)]
 | x :: r => if x.1 = s then (s, n) :: r else x :: mput s n r
theorem mget_put {s : ByteArray} {n : Int} (a : ByteArray) : ∀ ms, mget a (mput s n ms) = if s = a then some n else mget a ms
 | [] => by simp [mput, mget]
 | x :: r => by
   unfold mput
   by_cases h : x.1 = s
   · rw [if_pos h]
     simp only [mget]
     by_cases h2 : s = a
     · rw [if_pos h2, if_pos h2]
     · rw [if_neg h2, if_neg h2, if_neg (by rw [h]; exact h2)]
   · rw [if_neg h]
     simp only [mget]
     rw [mget_put a r]
     by_cases h2 : x.1 = a
     · rw [if_pos h2]
       by_cases h3 : s = a
       · exact absurd (h2.trans h3.symm) h
       · rw [if_neg h3, if_pos h2]
     · rw [if_neg h2, if_neg h2]
def mkv (x : ByteArray × Int) : Value × Value := (.string x.1, .int .i64 x.2)
def NMapAt (w : World) (m : Nat) (ms : List (ByteArray × Int)) : Prop := ∃ es clock, w.heap[m]? = some (.map es clock) ∧ es.toList.map (fun e => (e.key, e.val)) = ms.map mkv
theorem NMapAt.turn {w w' : World} {m : Nat} {ms : List (ByteArray × Int)} (h : NMapAt w m ms) (hb : w'.heap[m]? = w.heap[m]?) : NMapAt w' m ms := by
 obtain ⟨es, c, h1, h2⟩ := h
 exact ⟨es, c, hb.trans h1, h2⟩
theorem beq_bytes (a b : ByteArray) : (a == b) = decide (a = b) := by
 obtain ⟨x⟩ := a
 obtain ⟨y⟩ := b
 by_cases h : x = y
 · subst h
   rw [decide_eq_true rfl]
   show (x == x) = true
   simp
 · rw [decide_eq_false (fun e => h (ByteArray.mk.inj e))]
   show (x == y) = false
   simpa using h
theorem nnow (s : ByteArray) : ∀ (ms : List (ByteArray × Int)) (es : List MapEntry) (i : Nat), es.map (fun e => (e.key, e.val)) = ms.map mkv →
   (mget s ms = none → Instr.findNow .string (.string s) es i = some none) ∧ (∀ n, mget s ms = some n → ∃ j, Instr.findNow .string (.string s) es i = some (some (i + j, .int .i64 n)) ∧ j < es.length ∧ ((es[j]?).map (·.key)) = some (.string s) ∧
     ∀ (v : Int) (e' : MapEntry), e'.key = .string s → e'.val = .int .i64 v → (es.set j e').map (fun e => (e.key, e.val)) = (mput s v ms).map mkv)
 | [], [], i, _ => ⟨fun _ => rfl, fun n h => by cases h⟩
 | [], e :: es, i, h => by simp at h
 | x :: ms, [], i, h => by simp at h
 | x :: ms, e :: es, i, h => by
   simp only [List.map_cons, List.cons.injEq, mkv, Prod.mk.injEq] at h
   obtain ⟨⟨hk, hv⟩, hr⟩ := h
   obtain ⟨h1, h2⟩ := nnow s ms es (i + 1) hr
   have hs : Instr.sameNow .string (.string s) e.key = some (s == x.1) := by rw [hk]; rfl
   by_cases hx : x.1 = s
   · have hb : (s == x.1) = true := by rw [beq_bytes, hx]; exact decide_eq_true rfl
     rw [hb] at hs
     refine ⟨fun hn => by simp [mget, hx] at hn, fun n hn => ⟨0, ?_, by simp, by simp [hk, hx], fun v e' h3 h4 => ?_⟩⟩
     · simp only [mget, if_pos hx, Option.some.injEq] at hn
       simp [Instr.findNow, hs, hv, hn]
     · simp only [List.set_cons_zero, List.map_cons, mput, if_pos hx, h3, h4, hr]
       rfl
   · have hb : (s == x.1) = false := by
       rw [beq_bytes]; exact decide_eq_false fun e => hx e.symm
     rw [hb] at hs
     refine ⟨fun hn => ?_, fun n hn => ?_⟩
     · simp only [mget, if_neg hx] at hn
       simp [Instr.findNow, hs, h1 hn]
     · simp only [mget, if_neg hx] at hn
       obtain ⟨j, hj, hjl, hjk, hjs⟩ := h2 n hn
       refine ⟨j + 1, ?_, by simpa using hjl, by simpa using hjk, fun v e' h3 h4 => ?_⟩
       · simp only [Instr.findNow, hs, hj]
         rw [show i + 1 + j = i + (j + 1) by omega]
       · simp only [List.set_cons_succ, List.map_cons, mput, if_neg hx, hjs v e' h3 h4, hk, hv]
         rfl
theorem schk (d : Nat) (em : Bool) (w : World) (s : ByteArray) : (Instr.checkKey em (d + 1) 9 (.string s)).run Tryz.prog w = .ok () w := by simp [Instr.checkKey, run_underlying Tryz.underlying9]
theorem nmap_look (w : World) (m : Nat) (ms : List (ByteArray × Int)) (h : NMapAt w m ms) (s : ByteArray) :
   (Instr.lookup 61 (.map (some m)) (.string s) true).run Tryz.prog w = .ok (.tuple #[.int .i64 ((mget s ms).getD 0), .bool (mget s ms).isSome]) w := by
 obtain ⟨es, clock, h1, h2⟩ := h
 obtain ⟨q1, q2⟩ := nnow s ms es.toList 0 h2
 have hc := schk 9999 es.isEmpty w s
 cases hg : mget s ms with
 | some n =>
   obtain ⟨j, hj, _⟩ := q2 n hg
   simp [Instr.lookup, run_underlying Tryz.underlying61, run_underlying Tryz.underlying9, MapKept.run_getObj_map h1, hc, Instr.findKey, hj]
 | none =>
   have hj := q1 hg
   simp [Instr.lookup, run_underlying Tryz.underlying61, run_underlying Tryz.underlying9, MapKept.run_getObj_map h1, hc, Instr.findKey, hj]
theorem nmap_put (w : World) (m : Nat) (ms : List (ByteArray × Int)) (h : NMapAt w m ms) (s : ByteArray) (n : Int) :
   ∃ o, (Instr.mapUpdate 61 (.map (some m)) (.string s) (.int .i64 n)).run Tryz.prog w = .ok () (putB w m o) ∧ NMapAt (putB w m o) m (mput s n ms) := by
 obtain ⟨es, clock, h1, h2⟩ := h
 obtain ⟨q1, q2⟩ := nnow s ms es.toList 0 h2
 have hc := schk 9999 false w s
 cases hg : mget s ms with
 | none =>
   have hj := q1 hg
   refine ⟨.map (es.push { key := .string s, val := .int .i64 n, born := clock }) (clock + 1), ?_, _, _, putB_at h1, ?_⟩
   · simp [Instr.mapUpdate, run_underlying Tryz.underlying61, run_underlying Tryz.underlying9, MapKept.run_getObj_map h1, hc, Instr.findKey, hj, MapKept.run_setObj_map _ h1, putB]
   · rw [Array.toList_push, List.map_append, h2]
     have : mput s n ms = ms ++ [(s, n)] := by
       clear h2 q1 q2 hj
       induction ms with
       | nil => rfl
       | cons x r ih =>
         simp only [mget] at hg
         split at hg
         · cases hg
         · rename_i hx
           simp only [mput, if_neg hx, ih hg, List.cons_append]
     rw [this, List.map_append]
     rfl
 | some z =>
   obtain ⟨j, hj, hjl, hjk, hjs⟩ := q2 z hg
   rw [Nat.zero_add] at hj
   have hjl' : j < es.size := by simpa using hjl
   have hkey : ((es[j]?).map (·.key)).getD (.string s) = .string s := by
     have : es.toList[j]? = es[j]? := by simp
     rw [← this, hjk]; rfl
   have hst : (Instr.keyThatStays (.string s) (.string s)).run Tryz.prog w = .ok (.string s) w := by
     have hb : (s == s) = true := by rw [beq_bytes]; exact decide_eq_true rfl
     simp [Instr.keyThatStays, Instr.sameBits, hb]
   refine ⟨.map (es.modify j fun e => { e with key := .string s, val := .int .i64 n }) clock, ?_, _, _, putB_at h1, ?_⟩
   · simp [Instr.mapUpdate, run_underlying Tryz.underlying61, run_underlying Tryz.underlying9, MapKept.run_getObj_map h1, hc, Instr.findKey, hj, hkey, hst, MapKept.run_setObj_map _ h1, putB]
   · have e1 : (es.modify j fun e => { e with key := .string s, val := .int .i64 n }).toList = es.toList.set j { es[j] with key := .string s, val := .int .i64 n } := by
       apply List.ext_getElem?
       intro i
       rw [List.getElem?_set, Array.getElem?_toList, Array.getElem?_modify, Array.length_toList]
       by_cases h : j = i
       · subst h; simp [hjl']
       · simp [h]
     rw [e1]
     exact hjs n _ rfl rfl
end Go.Proofs.YtbkjcccbjnehbanGreatDoor

namespace Go.Proofs.YtbkjcccbjnehbanGreatDoor
open Go.RowKit
def SIn (w : World) (L : List Sg) (lv : Value) : Prop := ∃ ao cap, lv = .slice ao L.length cap ∧ L.length ≤ cap ∧ cap ≤ maxLen ∧ ∀ j (hj : j < L.length), ∃ b off, ao = some ⟨b, off, none⟩ ∧
 w.cell? ⟨b, off + j * 5, none⟩ = some (.int .i64 L[j].kind) ∧ w.cell? ⟨b, off + j * 5 + 1, none⟩ = some (.string L[j].text) ∧ w.cell? ⟨b, off + j * 5 + 2, none⟩ = some (.int .i64 L[j].num) ∧ w.cell? ⟨b, off + j * 5 + 3, none⟩ = some (.int .i64 (L[j].at_ : Int)) ∧ w.cell? ⟨b, off + j * 5 + 4, none⟩ = some (.bool L[j].near)
def sliceBlk : Value → Option Nat
 | .slice (some a) _ _ => some a.block
 | _ => none
theorem SIn.turn {w w' : World} {L : List Sg} {lv : Value} (h : SIn w L lv) (hb : ∀ b, sliceBlk lv = some b → w'.heap[b]? = w.heap[b]?) : SIn w' L lv := by
 obtain ⟨ao, cap, rfl, h1, h2, h3⟩ := h
 refine ⟨ao, cap, rfl, h1, h2, fun j hj => ?_⟩
 obtain ⟨b, off, rfl, q0, q1, q2, q3, q4⟩ := h3 j hj
 have hk := hb b rfl
 exact ⟨b, off, rfl, by rw [World.cell?_of_block (a := ⟨b, _, none⟩) hk]; exact q0, by rw [World.cell?_of_block (a := ⟨b, _, none⟩) hk]; exact q1, by rw [World.cell?_of_block (a := ⟨b, _, none⟩) hk]; exact q2, by rw [World.cell?_of_block (a := ⟨b, _, none⟩) hk]; exact q3, by rw [World.cell?_of_block (a := ⟨b, _, none⟩) hk]; exact q4⟩
def MOk (names : List ByteArray) (ms : List (ByteArray × Int)) : Prop := ∀ s, s ≠ cUs → mget s ms = (names.findIdx? fun x => decide (x = s)).map fun i => (i : Int)
theorem MOk.nil : MOk [] [] := fun _ _ => rfl
def XI (g m : Nat) (nv : Value) : Nat → Prop := fun k => k = g ∨ k = m ∨ nv.ownBlock = some k
structure IRd (g m : Nat) (L : List Sg) (lv nv : Value) (w : World) (d : Nat) (st : St) : Prop where
 ex : ∃ (p : Nat) (ms : List (ByteArray × Int)), w.heap[g]? = some (.cells #[lv, .int .i64 (p : Int), .int .i64 (d : Int), nv, .map (some m)] 63 (0, 0)) ∧ SIn w L lv ∧ (∀ b, sliceBlk lv = some b → b < g ∧ b < m) ∧
   NRow w (max g m + 1) st.names nv ∧ NMapAt w m ms ∧ MOk st.names ms ∧ m ≠ g ∧ p ≤ L.length ∧ L.drop p = st.rest ∧ st.names.length ≤ p
theorem NMapAt.lt {w : World} {m : Nat} {ms : List (ByteArray × Int)} (h : NMapAt w m ms) : m < w.heap.size := by
 obtain ⟨es, c, h1, _⟩ := h
 exact (Array.getElem?_eq_some_iff.1 h1).1
theorem IRd.turn {g m : Nat} {L : List Sg} {lv nv : Value} {w w' : World} {d : Nat} {st : St} (h : IRd g m L lv nv w d st) (hb : ∀ k, k < g ∨ XI g m nv k → w'.heap[k]? = w.heap[k]?) : IRd g m L lv nv w' d st := by
 obtain ⟨p, ms, h1, h2, h3, h4, h5, h6, h7, h8⟩ := h.ex
 exact ⟨p, ms, (hb g (Or.inr (Or.inl rfl))).trans h1, h2.turn fun b e => hb b (Or.inl (h3 b e).1), h3, h4.turn fun b e => hb b (Or.inr (Or.inr (Or.inr e))), h5.turn (hb m (Or.inr (Or.inr (Or.inl rfl)))), h6, h7, h8⟩
theorem IRd.lt {g m : Nat} {L : List Sg} {lv nv : Value} {w : World} {d : Nat} {st : St} (h : IRd g m L lv nv w d st) : g < w.heap.size ∧ m < w.heap.size ∧ ∀ k, XI g m nv k → k < w.heap.size := by
 obtain ⟨p, ms, h1, h2, h3, h4, h5, h6, h7, h8⟩ := h.ex
 have hg := (Array.getElem?_eq_some_iff.1 h1).1
 refine ⟨hg, h5.lt, fun k hk => ?_⟩
 rcases hk with rfl | rfl | e
 · exact hg
 · exact h5.lt
 · exact (h4.lt k e).2
theorem IRd.keep {g m : Nat} {L : List Sg} {lv nv : Value} {w w' : World} {d : Nat} {st : St} (h : IRd g m L lv nv w d st) (hb : Below w.heap.size w w') : IRd g m L lv nv w' d st :=
 h.turn fun k hk => hb.block k (by rcases hk with hk | hk; · have := h.lt.1; omega
                                   · exact h.lt.2.2 k hk)
abbrev sgA (s : Sg) : Value := .agg #[.int .i64 s.kind, .string s.text, .int .i64 s.num, .int .i64 (s.at_ : Int), .bool s.near]
theorem b5_set {w : World} {g : Nat} {c0 c1 c2 c3 c4 d0 d1 d2 d3 d4 : Value} {T : TypeId} (h : w.heap[g]? = some (.cells #[c0, c1, c2, c3, c4] T (0, 0))) :
   (((((w.setCell ⟨g, 0, none⟩ d0).setCell ⟨g, 1, none⟩ d1).setCell ⟨g, 2, none⟩ d2).setCell ⟨g, 3, none⟩ d3).setCell ⟨g, 4, none⟩ d4).heap[g]? = some (.cells #[d0, d1, d2, d3, d4] T (0, 0)) := by
 have := blk_set (i := 4) (blk_set (i := 3) (blk_set (i := 2) (blk_set (i := 1) (blk_set (i := 0) h d0) d1) d2) d3) d4
 simpa using this
theorem b5_below {B : Nat} {w w' : World} {g : Nat} {d0 d1 d2 d3 d4 : Value} (hb : Below B w w') (hg : B ≤ g) :
   Below B w (((((w'.setCell ⟨g, 0, none⟩ d0).setCell ⟨g, 1, none⟩ d1).setCell ⟨g, 2, none⟩ d2).setCell ⟨g, 3, none⟩ d3).setCell ⟨g, 4, none⟩ d4) :=
 below_set (below_set (below_set (below_set (below_set hb hg _) hg _) hg _) hg _) hg _
def sg0 : Sg := ⟨0, ⟨#[]⟩, 0, 0, false⟩
def aheadP (st : St) (n : Nat) : Sg := (st.rest[n]?).getD sg0
set_option maxHeartbeats 4000000 in
theorem i_ahead (g m : Nat) (L : List Sg) (lv nv : Value) (d : Nat) (st : St) (n : Nat) (w : World) (hn : n ≤ 2) (hL : L.length ≤ 3000) (h : IRd g m L lv nv w d st) :
   Calls Tryz.prog 86 #[.pointer (some ⟨g, 0, none⟩), .int .i64 (n : Int)] w fun e w' => e = .returned (sgA (aheadP st n)) ∧ Below w.heap.size w w' := by
 obtain ⟨p, ms, hg, ⟨ao, cap, rfl, hlc, hcap, hc⟩, hblk, _, _, _, _, hp, hdrop, _⟩ := h.ex
 obtain ⟨c0, c1, c2, c3, c4, cf⟩ := b5f hg
 obtain ⟨NL, hNL⟩ : ∃ NL, NL = L.length := ⟨_, rfl⟩
 have HNL : Hid (L.length = NL) := hNL.symm
 have hgw : g < w.heap.size := (Array.getElem?_eq_some_iff.1 hg).1
 obtain ⟨W, hW⟩ : ∃ W, W = w.alloc (.cells #[.int .i64 0, .string ⟨#[]⟩, .int .i64 0, .int .i64 0, .bool false] 45) := ⟨_, rfl⟩
 have bW : Below w.heap.size w W := by rw [hW]; exact (Below.refl _ _).alloc (Nat.le_refl _) _
 have HK : Hid (W.heap[w.heap.size]? = some (.cells #[.int .i64 0, .string ⟨#[]⟩, .int .i64 0, .int .i64 0, .bool false] 45 (0, 0))) := by rw [hW]; exact heap_alloc_new _ _
 have HBW : Hid (Below w.heap.size w W) := bW
 have k0 := cell_keep c0 bW
 have k1 := cell_keep c1 bW
 have hp3 : (p : Int) ≤ 3000 := by omega
 have hn2 : (n : Int) ≤ 2 := by omega
 rw [← hNL] at k0
 have hNp : (NL : Int) ≤ 3000 := by omega
 have HP : Hid (aheadP st n = (L[p + n]?).getD sg0) := by
   show _ = _
   unfold aheadP
   rw [← hdrop, List.getElem?_drop]
 by_cases hlt : p + n < L.length
 · have hge : decide ((p : Int) + n ≥ NL) = false := decide_eq_false (by omega)
   obtain ⟨b, off, rfl, y0, y1, y2, y3, y4⟩ := hc (p + n) hlt
   have HV : Hid (aheadP st n = L[p + n]) := by show _ = _; rw [HP.out, List.getElem?_eq_getElem hlt]; rfl
   have hwr : IntKind.i64.wrap ((p : Int) + n) = (p : Int) + n := by rw [IntKind.wrap_i64]; omega
   have hin1 : (p : Int) + n < NL := by omega
   obtain ⟨x, hx⟩ : ∃ x, x = L[p + n] := ⟨_, rfl⟩
   rw [← hx] at y0 y1 y2 y3 y4 HV
   obtain ⟨kk, xx, nn, aa, bb⟩ := x
   obtain ⟨PN, hPN⟩ : ∃ PN, PN = p + n := ⟨_, rfl⟩
   have hpn : (p : Int) + n = (PN : Int) := by omega
   rw [← hPN] at y0 y1 y2 y3 y4
   rw [hpn] at hge hin1
   replace hwr : IntKind.i64.wrap ((p : Int) + n) = (PN : Int) := by rw [hwr, hpn]
   have z0 := cell_keep y0 bW
   have z1 := cell_keep y1 bW
   have z2 := cell_keep y2 bW
   have z3 := cell_keep y3 bW
   have z4 := cell_keep y4 bW
   have hPL : PN < NL := by omega
   clear hc hdrop hg c0 c1 c2 c3 c4 cf hblk hNL hlt hL hlc hp hn h bW y0 y1 y2 y3 y4 hx
   unfold maxLen at hcap
   go_enter Tryz.func86, Tryz.ntmps86
   go_upto_region 1 with (fail)
   rw [← hW]
   clear hW
   clear hpn hPN
   go_quiet (fail)
   have HKD : Hid ((W.drewN nq).heap[w.heap.size]? = some (.cells #[.int .i64 0, .string ⟨#[]⟩, .int .i64 0, .int .i64 0, .bool false] 45 (0, 0))) := HK.out
   have HBD : Hid (Below w.heap.size w (W.drewN nq)) := HBW.out.trans ⟨rfl, rfl, rfl, Nat.le_refl _, fun _ _ => rfl⟩
   have e0 : (W.drewN nq).cell? ⟨b, off + PN * 5, none⟩ = some (.int .i64 kk) := z0
   have e1 : (W.drewN nq).cell? ⟨b, off + PN * 5 + 1, none⟩ = some (.string xx) := z1
   have e2 : (W.drewN nq).cell? ⟨b, off + PN * 5 + 2, none⟩ = some (.int .i64 nn) := z2
   have e3 : (W.drewN nq).cell? ⟨b, off + PN * 5 + 3, none⟩ = some (.int .i64 (aa : Int)) := z3
   have e4 : (W.drewN nq).cell? ⟨b, off + PN * 5 + 4, none⟩ = some (.bool bb) := z4
   have g0 : (W.drewN nq).cell? ⟨g, 0, none⟩ = some (.slice (some ⟨b, off, none⟩) NL cap) := k0
   have g1 : (W.drewN nq).cell? ⟨g, 1, none⟩ = some (.int .i64 (p : Int)) := k1
   generalize W.drewN nq = V at *
   clear z0 z1 z2 z3 z4 k0 k1
   obtain ⟨q0, q1, q2, q3, q4, qf⟩ := b5f HKD.out
   have z0 := fun u => cell_keep e0 (later_below V u)
   have z1 := fun u => cell_keep e1 (later_below V u)
   have z2 := fun u => cell_keep e2 (later_below V u)
   have z3 := fun u => cell_keep e3 (later_below V u)
   have z4 := fun u => cell_keep e4 (later_below V u)
   have k0 := fun u => cell_keep g0 (later_below V u)
   have k1 := fun u => cell_keep g1 (later_below V u)
   clear e0 e1 e2 e3 e4 g0 g1 q0 q1 q2 q3 q4 qf
   go_upto_region 3 with (fail)
   refine wp_region_tail 12 (by kernel_rfl) (by kernel_rfl) ?_
   simp only [List.take_succ_cons, List.take_zero, List.drop_succ_cons, List.drop_zero]
   repeat (go_big_quiet_step (skip))
   refine wpQuiet_nil ?_
   rintro _ ⟨u3, rfl⟩
   have HB3 : Hid (Below V.heap.size V (later V u3)) := later_below V u3
   clear z0 z1 z2 z3 z4 k0 k1
   generalize later V u3 = w3 at *
   have HK3 : Hid (w3.heap[w.heap.size]? = some (.cells #[.int .i64 0, .string ⟨#[]⟩, .int .i64 0, .int .i64 0, .bool false] 45 (0, 0))) := (HB3.out.block _ (Array.getElem?_eq_some_iff.1 HKD.out).1).trans HKD.out
   obtain ⟨q0, q1, q2, q3, q4, qf⟩ := b5f HK3.out
   have f0 := qf 0
   have f1 := qf 1
   have f2 := qf 2
   have f3 := qf 3
   have f4 := qf 4
   clear qf
   go_wp2
   refine bodyPost_ret_by (results_cell_row rfl _ _ w.heap.size 45 _ (0, 0) _ rfl (b5_set HK3.out) Tryz.underlying45 rfl (by kernel_rfl)) rfl ?_
   exact ⟨by rw [HV.out], b5_below (HBD.out.trans (HB3.out.mono HBD.out.size)) (Nat.le_refl _)⟩
 · have hge : decide ((p : Int) + n ≥ NL) = true := decide_eq_true (by omega)
   have HV : Hid (aheadP st n = sg0) := by show _ = _; rw [HP.out, List.getElem?_eq_none (by omega)]; rfl
   have hwr : IntKind.i64.wrap ((p : Int) + n) = (p : Int) + n := by rw [IntKind.wrap_i64]; omega
   clear hc hdrop hg c0 c1 c2 c3 c4 cf hblk hNL hlt hL hlc hp hn h bW
   unfold maxLen at hcap
   go_enter Tryz.func86, Tryz.ntmps86
   go_upto_region 1 with (fail)
   rw [← hW]
   clear hW
   go_quiet (fail)
   have HKD : Hid ((W.drewN nq).heap[w.heap.size]? = some (.cells #[.int .i64 0, .string ⟨#[]⟩, .int .i64 0, .int .i64 0, .bool false] 45 (0, 0))) := HK.out
   have HBD : Hid (Below w.heap.size w (W.drewN nq)) := HBW.out.trans ⟨rfl, rfl, rfl, Nat.le_refl _, fun _ _ => rfl⟩
   generalize W.drewN nq = V at *
   obtain ⟨q0, q1, q2, q3, q4, qf⟩ := b5f HKD.out
   have f0 := qf 0
   have f1 := qf 1
   have f2 := qf 2
   have f3 := qf 3
   have f4 := qf 4
   clear qf
   go_wp2
   refine bodyPost_ret_by (results_cell_row rfl _ _ w.heap.size 45 _ (0, 0) _ rfl (b5_set HKD.out) Tryz.underlying45 rfl (by kernel_rfl)) rfl ?_
   exact ⟨by rw [HV.out]; rfl, b5_below HBD.out (Nat.le_refl _)⟩
end Go.Proofs.YtbkjcccbjnehbanGreatDoor

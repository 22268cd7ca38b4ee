import Derived.Test.YtbkjcccbjnehbanGreatDoorMh1
import Derived.Test.YtbkjcccbjnehbanGreatDoorMh35
import Derived.Test.YtbkjcccbjnehbanGreatDoorMh7
namespace Go.Proofs.YtbkjcccbjnehbanGreatDoor
theorem mk?_two {a b : ByteArray} (hab : a ≠ b) {l r : List Sg} (h : mk? a l = some r) : mk? b l = none := by
 obtain ⟨x, rfl, hx⟩ := mk?_cons h
 cases hb : mk? b (x :: r) with
 | none => rfl
 | some r2 =>
   obtain ⟨y, hy, hz⟩ := mk?_cons hb
   obtain ⟨rfl, _⟩ := List.cons.inj hy
   exact absurd (hx.2.symm.trans hz.2) hab
def termsO (tm : Int → St → Option (Tm × St)) (ks : List Tm) (s : St) : Option (List Tm × St) :=
 match tm 999 s with
 | none => none
 | some (x, s1) =>
   if _h : s1.rest.length < s.rest.length then
     match _hc : mk? cComma s1.rest with
     | some r => termsO tm (ks ++ [x]) ⟨r, s1.names⟩
     | none => some (ks ++ [x], s1)
   else none
termination_by s.rest.length
decreasing_by have := mk?_len _hc; omega
theorem termsO_step {tm : Int → St → Option (Tm × St)} (ht : Short tm) {ks : List Tm} {st : St} : termsO tm ks st = match tm 999 st with
   | none => none
   | some (x, s1) => match mk? cComma s1.rest with
     | some r => termsO tm (ks ++ [x]) ⟨r, s1.names⟩
     | none => some (ks ++ [x], s1) := by
 rw [termsO]
 cases h : tm 999 st with
 | none => rfl
 | some y =>
   obtain ⟨x, s1⟩ := y
   have hs := ht _ _ _ _ h
   simp only
   rw [dif_pos hs]
   split <;> simp_all
theorem someO_stepI {tm : Int → St → Option (Tm × St)} (ht : Short tm) {ks : List Tm} {st : St} : someO false tm ks st = match tm 999 st with
   | none => none
   | some (x, s1) => match mk? cRpar s1.rest with
     | some r => some (ks ++ [x], ⟨r, s1.names⟩)
     | none => match mk? cComma s1.rest with
       | some r => someO false tm (ks ++ [x]) ⟨r, s1.names⟩
       | none => none := by
 rw [someO]
 cases h : tm 999 st with
 | none => rfl
 | some y =>
   obtain ⟨x, s1⟩ := y
   have hs := ht _ _ _ _ h
   simp only
   rw [dif_pos hs, if_neg (by simp)]
   cases mk? cRpar s1.rest with
   | some r => rfl
   | none => simp only; split <;> simp_all
theorem rowO_stepI {tm : Int → St → Option (Tm × St)} (ht : Short tm) {ks : List Tm} {st : St} : rowO tm ks st = match tm 999 st with
   | none => none
   | some (x, s1) => match mk? cRbr s1.rest with
     | some r => some (ks ++ [x], nilTm, ⟨r, s1.names⟩)
     | none => match mk? cBar s1.rest with
       | some r => (match tm 999 ⟨r, s1.names⟩ with
         | none => none
         | some y => match mk? cRbr y.2.rest with
           | some r2 => some (ks ++ [x], y.1, ⟨r2, y.2.names⟩)
           | none => none)
       | none => match mk? cComma s1.rest with
         | some r => rowO tm (ks ++ [x]) ⟨r, s1.names⟩
         | none => none := by
 rw [rowO]
 cases h : tm 999 st with
 | none => rfl
 | some y =>
   obtain ⟨x, s1⟩ := y
   have hs := ht _ _ _ _ h
   simp only
   rw [dif_pos hs]
   cases mk? cRbr s1.rest with
   | some r => rfl
   | none =>
     simp only
     cases mk? cBar s1.rest with
     | some r =>
       simp only
       cases tm 999 ⟨r, s1.names⟩ with
       | none => rfl
       | some z => rfl
     | none => simp only; split <;> simp_all
theorem someO_terms {tm : Int → St → Option (Tm × St)} (ht : Short tm) (n : Nat) : ∀ (ks : List Tm) (s : St), s.rest.length ≤ n → someO false tm ks s = (match termsO tm ks s with
 | none => none
 | some y => match mk? cRpar y.2.rest with
   | some r => some (y.1, ⟨r, y.2.names⟩)
   | none => none) := by
 induction n with
 | zero =>
   intro ks s hn
   rw [someO_stepI ht, termsO_step ht]
   cases h : tm 999 s with
   | none => rfl
   | some y => have := ht _ _ _ _ h; omega
 | succ n ih =>
   intro ks s hn
   rw [someO_stepI ht, termsO_step ht]
   cases h : tm 999 s with
   | none => rfl
   | some y =>
     have hl := ht _ _ _ _ h
     simp only
     cases hr : mk? cRpar y.2.rest with
     | some r =>
       have := mk?_two (show cRpar ≠ cComma by decide) hr
       simp only [this, hr]
     | none =>
       cases hc : mk? cComma y.2.rest with
       | some r2 =>
         have := mk?_len hc
         simp only
         exact ih _ _ (by simp only; omega)
       | none => simp only [hr]
theorem rowO_terms {tm : Int → St → Option (Tm × St)} (ht : Short tm) (n : Nat) : ∀ (ks : List Tm) (s : St), s.rest.length ≤ n → rowO tm ks s = (match termsO tm ks s with
 | none => none
 | some y => match mk? cBar y.2.rest with
   | some r => (match tm 999 ⟨r, y.2.names⟩ with
     | none => none
     | some z => match mk? cRbr z.2.rest with
       | some r2 => some (y.1, z.1, ⟨r2, z.2.names⟩)
       | none => none)
   | none => match mk? cRbr y.2.rest with
     | some r => some (y.1, nilTm, ⟨r, y.2.names⟩)
     | none => none) := by
 induction n with
 | zero =>
   intro ks s hn
   rw [rowO_stepI ht, termsO_step ht]
   cases h : tm 999 s with
   | none => rfl
   | some y => have := ht _ _ _ _ h; omega
 | succ n ih =>
   intro ks s hn
   rw [rowO_stepI ht, termsO_step ht]
   cases h : tm 999 s with
   | none => rfl
   | some y =>
     have hl := ht _ _ _ _ h
     simp only
     cases hr : mk? cRbr y.2.rest with
     | some r =>
       have h1 := mk?_two (show cRbr ≠ cComma by decide) hr
       have h2 := mk?_two (show cRbr ≠ cBar by decide) hr
       simp only [h1, h2, hr]
     | none =>
       cases hb : mk? cBar y.2.rest with
       | some r =>
         have h1 := mk?_two (show cBar ≠ cComma by decide) hb
         simp only [h1, hb]
       | none =>
         cases hc : mk? cComma y.2.rest with
         | some r2 =>
           have := mk?_len hc
           simp only
           exact ih _ _ (by simp only; omega)
         | none => simp only [hr, hb]
end Go.Proofs.YtbkjcccbjnehbanGreatDoor

namespace Go.Proofs.YtbkjcccbjnehbanGreatDoor
open Go.RowKit
def msrI (g n : Nat) (w : World) : Nat := match w.cell? ⟨g, 1, none⟩ with
 | some (.int _ p) => n - p.toNat
 | _ => 0
theorem msrI_of {g m : Nat} {L : List Sg} {lv nv : Value} {w : World} {d : Nat} {st : St} (h : IRd g m L lv nv w d st) : msrI g L.length w = st.rest.length := by
 obtain ⟨p, ms, h1, _, _, _, _, _, _, h8, h9, _⟩ := h.ex
 have c1 : w.cell? ⟨g, 1, none⟩ = some (.int .i64 (p : Int)) := blk_cell (i := 1) h1 (by simp)
 unfold msrI
 rw [c1, ← h9, List.length_drop]
 simp
theorem IRd.rest_le {g m : Nat} {L : List Sg} {lv nv : Value} {w : World} {d : Nat} {st : St} (h : IRd g m L lv nv w d st) : st.rest.length ≤ L.length := by
 obtain ⟨p, ms, h1, _, _, _, _, _, _, h8, h9, _⟩ := h.ex
 rw [← h9, List.length_drop]; omega
def contT (tm : Int → St → Option (Tm × St)) (ks : List Tm) (s : St) : Option (List Tm × St) := match mk? cComma s.rest with
 | some r => termsO tm ks ⟨r, s.names⟩
 | none => some (ks, s)
theorem termsO_cont {tm : Int → St → Option (Tm × St)} (ht : Short tm) {ks : List Tm} {st : St} : termsO tm ks st = match tm 999 st with
   | none => none
   | some y => contT tm (ks ++ [y.1]) y.2 := by
 rw [termsO_step ht]
 cases tm 999 st <;> rfl
def EndTs (g m : Nat) (L : List Sg) (lv nv : Value) (w : World) (d : Nat) (R : Option (List Tm × St)) (e : Ending) (w' : World) : Prop := match R with
 | some y => ∃ ao cap F nv', e = .returned (.slice ao y.1.length cap) ∧ y.1 ≠ [] ∧ y.1.length ≤ L.length ∧ ROk 24 (XI g m nv') w.heap.size w' y.1 (.slice ao y.1.length cap) F ∧ IRd g m L lv nv' w' d y.2 ∧ FX (XI g m nv) (XI g m nv') w w'
 | none => e = .panicked unreadC ∧ ∃ nv', FX (XI g m nv) (XI g m nv') w w'
theorem XI_new {g m : Nat} {L : List Sg} {lv nv : Value} {w : World} {d : Nat} {st : St} (h : IRd g m L lv nv w d st) : ¬ XI g m nv w.heap.size := fun hh => by have := h.lt.2.2 _ hh; omega
set_option maxHeartbeats 8000000 in
set_option maxRecDepth 20000 in
theorem i_terms (f g m : Nat) (L : List Sg) (lv nv : Value) (d : Nat) (st : St) (w : World) (hL : L.length ≤ 3000) (hf : d + f = 130) (hT : TermCI f g m L lv) (h : IRd g m L lv nv w d st) :
   Calls Tryz.prog 101 #[.pointer (some ⟨g, 0, none⟩)] w fun e w' => EndTs g m L lv nv w d (termsO (termO false f) [] st) e w' := by
 obtain ⟨i0, hi, hz0, hz1, hz2⟩ := info_partsS infoT
 have hsh := termO_short false f
 have HT : Hid _ := hT d 999 st nv w hf h
 have HTT : Hid (∀ nv' W' st', IRd g m L lv nv' W' d st' → Calls Tryz.prog 56 #[.pointer (some ⟨g, 0, none⟩), .int .i64 999] W' fun e w' => EndI g m L lv nv' W' d (termO false f 999 st') e w') := fun nv' W' st' hs => hT d 999 st' nv' W' hf hs
 have HP : Hid (∀ nv' W' st', IRd g m L lv nv' W' d st' → Calls Tryz.prog 102 #[.pointer (some ⟨g, 0, none⟩), .string ⟨#[44]⟩] W' (PassR g m L lv nv' d st' ⟨#[44]⟩ W')) := fun nv' W' st' hs => i_passed g m L lv nv' d st' _ W' hL hs
 have HH : Hid (IRd g m L lv nv w d st) := h
 have HL : Hid (L.length ≤ 3000) := hL
 have hrl := h.rest_le
 obtain ⟨T, hTT⟩ : ∃ T, T = termsO (termO false f) [] st := ⟨_, rfl⟩
 rw [← hTT]
 rw [termsO_cont hsh] at hTT
 clear hT h hL
 cases h1 : termO false f 999 st with
 | none =>
   rw [h1] at HT hTT
   have HN : Hid (T = none) := hTT
   clear hTT h1
   go_enter Tryz.func101, Tryz.ntmps101
   go_wp2_with (go_at_call 56; refine (Calls.mono HT.out ?_); rintro e w1 ⟨rfl, nv', hx⟩; have HX : Hid (FX (XI g m nv) (XI g m nv') w w1) := hx; clear hx)
   rw [HN.out]
   exact ⟨rfl, rfl, _, HX.out⟩
 | some y =>
   obtain ⟨t, s1⟩ := y
   have hs1 := hsh _ _ _ _ h1
   rw [h1] at HT hTT
   simp only at hTT
   have HC : Hid (contT (termO false f) [t] s1 = T) := hTT.symm
   have HS1 : Hid (1 + s1.rest.length ≤ L.length) := by show _ ≤ _; omega
   clear hTT h1 hs1 hrl
   go_enter Tryz.func101, Tryz.ntmps101
   go_upto_region 2 with (go_at_call 56; refine (Calls.mono HT.out ?_); rintro e w1 ⟨v, rfl, F, nv', ht, hi, hx⟩; have HX : Hid (FX (XI g m nv) (XI g m nv') w w1) := hx; have HI : Hid (IRd g m L lv nv' w1 d s1) := hi; obtain ⟨k1, s1', n1, ao1, ln1, cp1, rfl⟩ := ht.form; have HTK : Hid (TOk 24 (XI g m nv') w.heap.size w1 t (.agg #[.int .i64 k1, .string s1', .int .i64 n1, .slice ao1 ln1 cp1]) F) := ht; clear ht hi hx)
   have hnx := XI_new HI.out
   have R0 := ROk.one HTK.out (by have := HX.out.size; omega) hnx
   obtain ⟨W, hW⟩ : ∃ W, W = w1.alloc (.cells #[.int .i64 k1, .string s1', .int .i64 n1, .slice ao1 ln1 cp1] 24) := ⟨_, rfl⟩
   have bW : Below w1.heap.size w1 W := by rw [hW]; exact (Below.refl _ _).alloc (Nat.le_refl _) _
   rw [← hW] at R0 ⊢
   have HR0 : Hid _ := R0
   have HI0 : Hid (IRd g m L lv nv' W d s1) := HI.out.keep bW
   have HX0 : Hid (FX (XI g m nv) (XI g m nv') w W) := HX.out.trans (FX.of_below bW)
   clear hnx R0 hW bW HX HI HTK
   go_loopw [3] (fun v wr => ∃ (nv' : Value) (ks : List Tm) (ao : Option Addr) (cap : Nat) (F : List Nat) (s : St), v = .slice ao ks.length cap ∧ Hid (ks ≠ [] ∧ ks.length + s.rest.length ≤ L.length) ∧ Hid (ROk 24 (XI g m nv') w.heap.size wr ks (.slice ao ks.length cap) F) ∧ Hid (IRd g m L lv nv' wr d s) ∧ Hid (FX (XI g m nv) (XI g m nv') w wr) ∧ Hid (contT (termO false f) ks s = T)) (fun _ wr => msrI g L.length wr)
   case atStart => exact ⟨nv', [t], _, 1, _, s1, rfl, ⟨by simp, by simpa using HS1.out⟩, HR0.out, HI0.out, HX0.out, HC.out⟩
   case round =>
     obtain ⟨nv2, ks, ao, cap, F2, s, rfl, HK, HR, HI, HX, HC2⟩ := hrel
     have HMS : Hid (msrI g L.length wr = s.rest.length) := msrI_of HI.out
     have HPC : Hid _ := HP.out nv2 wr s HI.out
     obtain ⟨KN, hKN⟩ : ∃ KN, KN = ks.length := ⟨_, rfl⟩
     rw [← hKN] at HK HR
     simp only [← hKN]
     have HKN : Hid (KN = ks.length) := hKN
     clear hKN
     cases hm : mk? cComma s.rest with
     | none =>
       have HT1 : Hid (T = some (ks, s)) := by show _ = _; rw [← HC2.out]; unfold contT; rw [hm]
       have hm' : mk? ⟨#[44]⟩ s.rest = none := hm
       unfold PassR at HPC
       rw [hm'] at HPC
       clear hm hm'
       go_wp2_with (go_at_call 102; refine (Calls.mono HPC.out ?_); rintro e w5 ⟨rfl, hi, hx⟩; have HI5 : Hid (IRd g m L lv nv2 w5 d s) := hi; have HX5 : Hid (FX (XI g m nv2) (XI g m nv2) wr w5) := hx; clear hi hx)
       go_ret
       rw [HT1.out]
       refine ⟨ao, cap, F2, nv2, by rw [← HKN.out]; rfl, HK.out.1, by have := HK.out.2; have := HKN.out; show ks.length ≤ _; omega, ?_, HI5.out, HX.out.trans HX5.out⟩
       have := HR.out.step HX5.out
       rw [HKN.out] at this
       exact this
     | some r =>
       have hm' : mk? ⟨#[44]⟩ s.rest = some r := hm
       have hTs : (match termO false f 999 ⟨r, s.names⟩ with | none => none | some y => contT (termO false f) (ks ++ [y.1]) y.2) = T := by
         rw [← HC2.out]; unfold contT; rw [hm]; exact (termsO_cont hsh).symm
       have hlr := mk?_len hm
       have HLR : Hid (s.rest.length = r.length + 1) := hlr
       unfold PassR at HPC
       rw [hm'] at HPC
       clear hm hm' hlr
       go_upto_region 3 with (go_at_call 102; refine (Calls.mono HPC.out ?_); rintro e w5 ⟨rfl, hi, hx⟩; have HI5 : Hid (IRd g m L lv nv2 w5 d ⟨r, s.names⟩) := hi; have HX5 : Hid (FX (XI g m nv2) (XI g m nv2) wr w5) := hx; clear hi hx)
       have HT2 : Hid _ := HTT.out nv2 w5 ⟨r, s.names⟩ HI5.out
       cases h2 : termO false f 999 ⟨r, s.names⟩ with
       | none =>
         rw [h2] at hTs HT2
         have HTN : Hid (T = none) := hTs.symm
         clear hTs h2
         go_wp2_with (go_at_call 56; refine (Calls.mono HT2.out ?_); rintro e w6 ⟨rfl, nv3, hx⟩; have HX6 : Hid (FX (XI g m nv2) (XI g m nv3) w5 w6) := hx; clear hx)
         rw [HTN.out]
         exact ⟨rfl, rfl, _, (HX.out.trans HX5.out).trans HX6.out⟩
       | some y =>
         obtain ⟨t3, s3⟩ := y
         have hs3 := hsh _ _ _ _ h2
         rw [h2] at hTs HT2
         have HTN : Hid (contT (termO false f) (ks ++ [t3]) s3 = T) := hTs
         have HS3 : Hid (s3.rest.length < r.length) := hs3
         clear hTs h2 hs3
         have hkl : (KN : Int) ≤ 3000 := by have h1 := HK.out.2; have h2 := HKN.out; have h3 := HL.out; omega
         go_wp2_with (first
           | (go_at_call 56; refine (Calls.mono HT2.out ?_); rintro e w6 ⟨v, rfl, F3, nv3, ht, hi, hx⟩; have HX6 : Hid (FX (XI g m nv2) (XI g m nv3) w5 w6) := hx; have HI6 : Hid (IRd g m L lv nv3 w6 d s3) := hi; obtain ⟨k3, s3', n3, ao3, ln3, cp3, rfl⟩ := ht.form; have HT6 : Hid (TOk 24 (XI g m nv3) w5.heap.size w6 t3 (.agg #[.int .i64 k3, .string s3', .int .i64 n3, .slice ao3 ln3 cp3]) F3) := ht; have HRW : Hid _ := ((HR.out.step (HX5.out.trans HX6.out)).step (FX.of_below ((Below.refl _ _).alloc (Nat.le_refl _) (.cells #[.int .i64 k3, .string s3', .int .i64 n3, .slice ao3 ln3 cp3] 24)))).row; rw [← HKN.out] at HRW; obtain ⟨cs, F0, y1, y2, y3, y4, y5⟩ := HRW.out; have HY1 : Hid _ := y1; have HY2 : Hid _ := y2; have HY3 : Hid (F0.Nodup) := y3; have HY4 : Hid _ := y4; have HY5 : Hid _ := y5; clear ht hi hx y1 y2 y3 y4 y5 HRW)
           | (at_builtin; go_loud (refine wpList_append_own_at _ rfl _ _ 22 rfl 0 24 i0 (.agg #[.int .i64 0, .string ⟨#[]⟩, .int .i64 0, .slice none 0 0]) 4 56 Tryz.underlying22 hi hz0 hz1 hz2 rfl (by decide) _ _ _ rfl HY1.out ⟨w6.heap.size, 0, none⟩ 1 1 [.int .i64 k3, .string s3', .int .i64 n3, .slice ao3 ln3 cp3] rfl rfl ?c1 ?c2 ?c3 ?c4 ?c5 ?_)))
         case c1 =>
           intro q z hq
           match q, hq with
           | 0, hq => simp at hq; subst hq; simp [Addr.add]
           | 1, hq => simp at hq; subst hq; simp [Addr.add]
           | 2, hq => simp at hq; subst hq; simp [Addr.add]
           | 3, hq => simp at hq; subst hq; simp [Addr.add]
         case c2 => intro z hz; simp at hz; rcases hz with rfl | rfl | rfl | rfl <;> rfl
         case c3 => unfold maxLen; omega
         case c4 => omega
         case c5 => omega
         intro v' w7 hown' hgrow _ hat
         obtain ⟨V, hV⟩ : ∃ V, V = w6.alloc (.cells #[.int .i64 k3, .string s3', .int .i64 n3, .slice ao3 ln3 cp3] 24) := ⟨_, rfl⟩
         have bV : Below w6.heap.size w6 V := by rw [hV]; exact (Below.refl _ _).alloc (Nat.le_refl _) _
         have hatV : v'.ownBlock = (Value.slice ao KN cap).ownBlock ∨ v'.ownBlock = some V.heap.size := by rw [hV]; simpa using hat
         rw [← hV] at hgrow HY1 HY2
         clear hat hV
         have hKN := HKN.out
         have x5 := HX.out.trans HX5.out
         have RV := (HR.out.step (HX5.out.trans HX6.out)).step (FX.of_below bV)
         have TV := (HT6.out.lo_le (x5.size)).step (FX.of_below bV)
         have IV := HI6.out.keep bV
         have xV := (x5.trans HX6.out).trans (FX.of_below bV)
         obtain ⟨F7, R7, _⟩ := ROk.push RV TV (fun f hf g' hg' => by have h1 := HR.out.lt f hf; have h2 := (HT6.out.out g' hg').1; have h3 := HX5.out.size; omega) HY2.out HY3.out HY4.out HY5.out (by rw [← hKN]; exact hown') hgrow hatV (xV.size) (XI_new IV)
         have hown : ∀ b, (Value.slice ao KN cap).ownBlock = some b → w.heap.size ≤ b ∧ ¬ XI g m nv3 b := fun b hb => RV.out b (HY5.out b hb)
         have I7 : IRd g m L lv nv3 w7 d s3 := by
           refine IV.turn fun k hk => hgrow.block k ?_ (fun e => ?_)
           · rcases hk with hk | hk
             · have := IV.lt.1; omega
             · exact IV.lt.2.2 k hk
           · have h1 := hown k e.symm
             rcases hk with hk | hk
             · have := HH.out.lt.1; omega
             · exact h1.2 hk
         have X7 : FX (XI g m nv) (XI g m nv3) w w7 := xV.grow hgrow fun k hk => (hown k hk).1
         obtain ⟨a2, cp2, hv2⟩ : ∃ ao cap, v' = .slice ao (KN + 1) cap := by obtain ⟨ao', cap', e⟩ := R7.slice; exact ⟨ao', cap', by rw [e, hKN]; simp⟩
         subst hv2
         have HR7 : Hid _ := R7
         have HI7 : Hid _ := I7
         have HX7 : Hid _ := X7
         clear hown' hgrow hatV x5 RV TV IV xV hown I7 X7 R7 bV hKN HY1 HY2 HY3 HY4 HY5
         go_wp2
         go_roundw
         case rel =>
           have hKN := HKN.out
           have e1 : KN + 1 = (ks ++ [t3]).length := by simp [hKN]
           have h7 := HR7.out
           rw [e1] at h7
           exact ⟨nv3, ks ++ [t3], a2, cp2, F7, s3, by rw [e1], ⟨by simp, by have h1 := HK.out.2; have h2 := HS3.out; have h3 := HLR.out; simp; omega⟩, h7, HI7.out, HX7.out, HTN.out⟩
         case measure =>
           rw [HMS.out, msrI_of HI7.out]
           have h2 := HS3.out; have h3 := HLR.out; omega
end Go.Proofs.YtbkjcccbjnehbanGreatDoor

namespace Go.Proofs.YtbkjcccbjnehbanGreatDoor
open Go.RowKit
theorem fin_keep {g m : Nat} {L : List Sg} {lv nv nv' : Value} {w V w2 : World} {d : Nat} {st : St} (h : IRd g m L lv nv w d st) (hV : w.heap.size < V.heap.size) (hX : FX (XI g m nv) (XI g m nv') V w2) :
   ¬ XI g m nv' w.heap.size ∧ w2.heap[w.heap.size]? = V.heap[w.heap.size]? := by
 have hn : ¬ XI g m nv w.heap.size := fun hh => by have := h.lt.2.2 _ hh; omega
 refine ⟨fun hh => ?_, hX.block _ hV hn⟩
 rcases hX.new _ hh with h1 | h1
 · exact hn h1
 · omega
theorem TmRI.fin {g m : Nat} {L : List Sg} {lv nv nv' : Value} {w w2 w3 : World} {d e : Nat} {st s : St} {t : Tm} {v d0 d1 d2 d3 : Value} {F : List Nat} (h : IRd g m L lv nv w e st) (hX : FX (XI g m nv) (XI g m nv') w w2) (hn : ¬ XI g m nv' w.heap.size)
   (hT : TOk 24 (XI g m nv') (w.heap.size + 1) w2 t v F) (hI : IRd g m L lv nv' w2 d s)
   (hw : w3 = (((w2.setCell ⟨w.heap.size, 0, none⟩ d0).setCell ⟨w.heap.size, 1, none⟩ d1).setCell ⟨w.heap.size, 2, none⟩ d2).setCell ⟨w.heap.size, 3, none⟩ d3) : TmRI g m L lv nv w v w3 (t, s) d := by
 have oE : ∀ k, k ≠ w.heap.size → w3.heap[k]? = w2.heap[k]? := fun k hk => by rw [hw]; exact blk4_other hk
 have hg := h.lt.1
 refine ⟨F, nv', ?_, ?_, ?_⟩
 · exact (hT.turn fun k hk _ => oE k (by omega)).lo_le (by omega)
 · exact hI.turn fun k hk => oE k (fun e => by
     rcases hk with hk | hk
     · omega
     · rw [e] at hk; exact hn hk)
 · rw [hw]
   exact (((hX.set (Or.inr (Nat.le_refl _)) _).set (Or.inr (Nat.le_refl _)) _).set (Or.inr (Nat.le_refl _)) _).set (Or.inr (Nat.le_refl _)) _
def namedO (tm : Int → St → Option (Tm × St)) (s : ByteArray) (r : List Sg) (names : List ByteArray) : Option (Tm × St) := match mk? cLpar r with
 | none => none
 | some r1 => match termsO tm [] ⟨r1, names⟩ with
   | none => none
   | some y => match mk? cRpar y.2.rest with
     | none => none
     | some r2 => some (structTm s y.1, ⟨r2, y.2.names⟩)
set_option maxHeartbeats 4000000 in
theorem i_named (f g m : Nat) (L : List Sg) (lv nv : Value) (d : Nat) (x : Sg) (r : List Sg) (names : List ByteArray) (s : ByteArray) (w : World) (hL : L.length ≤ 3000) (hs : s.size ≤ 3000) (hf : d + f = 130) (hT : TermCI f g m L lv) (h : IRd g m L lv nv w d ⟨x :: r, names⟩) :
   Calls Tryz.prog 87 #[.pointer (some ⟨g, 0, none⟩), .string s] w fun e w' => EndI g m L lv nv w d (namedO (termO false f) s r names) e w' := by
 obtain ⟨W, hW⟩ : ∃ W, W = w.alloc (.cells #[.int .i64 0, .string ⟨#[]⟩, .int .i64 0, .slice none 0 0] 24) := ⟨_, rfl⟩
 have bW : Below w.heap.size w W := by rw [hW]; exact (Below.refl _ _).alloc (Nat.le_refl _) _
 have sW : W.heap.size = w.heap.size + 1 := by rw [hW]; simp
 have kW : W.heap[w.heap.size]? = some (.cells #[.int .i64 0, .string ⟨#[]⟩, .int .i64 0, .slice none 0 0] 24 (0, 0)) := by rw [hW]; exact heap_alloc_new _ _
 have HH : Hid (IRd g m L lv nv w d ⟨x :: r, names⟩) := h
 have hlt := h.lt
 obtain ⟨p, c1, hp, f1, hI⟩ := (h.keep bW).step
 have hwr : IntKind.i64.wrap ((p : Int) + 1) = ((p + 1 : Nat) : Int) := by rw [IntKind.wrap_i64]; omega
 obtain ⟨V, hV⟩ : ∃ V, V = W.setCell ⟨g, 1, none⟩ (.int .i64 ((p + 1 : Nat) : Int)) := ⟨_, rfl⟩
 rw [← hV] at hI
 have hc : ((p + 1 : Nat) : Int) = (p : Int) + 1 := by omega
 rw [hc] at hwr hV
 clear hc
 have HFV : Hid (FX (XI g m nv) (XI g m nv) w V) := by rw [hV]; exact (FX.of_below bW).set (Or.inl (Or.inl rfl)) _
 have HKV : Hid (V.heap[w.heap.size]? = some (.cells #[.int .i64 0, .string ⟨#[]⟩, .int .i64 0, .slice none 0 0] 24 (0, 0))) := by
   show _ = _
   rw [hV, blk_other _ (by omega)]; exact kW
 have HSV : Hid (V.heap.size = w.heap.size + 1) := by show _ = _; rw [hV, ← sW]; simp [World.setCell]
 have HIV : Hid (IRd g m L lv nv V d ⟨r, names⟩) := hI
 have HL : Hid (L.length ≤ 3000) := hL
 have HTC : Hid (TermCI f g m L lv) := hT
 have HF : Hid (d + f = 130) := hf
 have HSZ : Hid (s.size ≤ 3000) := hs
 clear hI hT hlt h bW sW kW hf hL hs
 obtain ⟨N, hN⟩ : ∃ N, N = namedO (termO false f) s r names := ⟨_, rfl⟩
 rw [← hN]
 unfold namedO at hN
 have HM1 := i_mustPass g m L lv nv d ⟨r, names⟩ ⟨#[40]⟩ V HL.out HIV.out
 go_enter Tryz.func87, Tryz.ntmps87
 go_upto_region 1 with fail
 rw [← hW]
 clear hW
 go_upto_region 2 with fail
 rw [← hV]
 clear hV hwr c1 f1 hp
 cases hk : mk? cLpar r with
 | none =>
   have hk' : mk? ⟨#[40]⟩ (⟨r, names⟩ : St).rest = none := hk
   rw [hk'] at HM1
   rw [hk] at hN
   have HN : Hid (N = none) := hN
   replace HM1 : Hid _ := HM1
   clear hk hk' hN
   go_wp2_with (go_at_call 100; refine (Calls.mono HM1.out ?_); rintro e w1 ⟨hx, rfl⟩; have HX1 : Hid (FX (XI g m nv) (XI g m nv) V w1) := hx; clear hx)
   rw [HN.out]
   exact ⟨rfl, rfl, _, HFV.out.trans HX1.out⟩
 | some r1 =>
   have hk' : mk? ⟨#[40]⟩ (⟨r, names⟩ : St).rest = some r1 := hk
   rw [hk'] at HM1
   rw [hk] at hN
   simp only at hN
   replace HM1 : Hid _ := HM1
   clear hk hk'
   go_upto_region 3 with (go_at_call 100; refine (Calls.mono HM1.out ?_); rintro e w1 ⟨hx, rfl, hi⟩; have HX1 : Hid (FX (XI g m nv) (XI g m nv) V w1) := hx; have HI1 : Hid (IRd g m L lv nv w1 d ⟨r1, names⟩) := hi; clear hx hi)
   have HT := i_terms f g m L lv nv d ⟨r1, names⟩ w1 HL.out HF.out HTC.out HI1.out
   cases ht : termsO (termO false f) [] ⟨r1, names⟩ with
   | none =>
     rw [ht] at HT hN
     have HN : Hid (N = none) := hN
     replace HT : Hid _ := HT
     clear ht hN
     go_wp2_with (go_at_call 101; refine (Calls.mono HT.out ?_); rintro e w2 ⟨rfl, nv2, hx⟩; have HX2 : Hid (FX (XI g m nv) (XI g m nv2) w1 w2) := hx; clear hx)
     rw [HN.out]
     exact ⟨rfl, rfl, _, (HFV.out.trans HX1.out).trans HX2.out⟩
   | some y =>
     obtain ⟨ks, s1⟩ := y
     rw [ht] at HT hN
     simp only at hN
     unfold EndTs at HT
     simp only at HT
     replace HT : Hid _ := HT
     obtain ⟨KN, hKN⟩ : ∃ KN, KN = ks.length := ⟨_, rfl⟩
     rw [← hKN] at HT
     have HKN : Hid (KN = ks.length) := hKN
     clear ht hKN
     go_upto_region 4 with (go_at_call 101; refine (Calls.mono HT.out ?_); rintro e w2 ⟨ao, cap, F, nv2, rfl, _, _, hr, hi, hx⟩; have HX2 : Hid (FX (XI g m nv) (XI g m nv2) w1 w2) := hx; have HI2 : Hid (IRd g m L lv nv2 w2 d s1) := hi; have HR2 : Hid (ROk 24 (XI g m nv2) w1.heap.size w2 ks (.slice ao KN cap) F) := hr; clear hx hi hr)
     have HM2 := i_mustPass g m L lv nv2 d s1 ⟨#[41]⟩ w2 HL.out HI2.out
     cases hk : mk? cRpar s1.rest with
     | none =>
       have hk' : mk? ⟨#[41]⟩ s1.rest = none := hk
       rw [hk'] at HM2
       rw [hk] at hN
       have HN : Hid (N = none) := hN
       replace HM2 : Hid _ := HM2
       clear hk hk' hN
       go_wp2_with (go_at_call 100; refine (Calls.mono HM2.out ?_); rintro e w3 ⟨hx, rfl⟩; have HX3 : Hid (FX (XI g m nv2) (XI g m nv2) w2 w3) := hx; clear hx)
       rw [HN.out]
       exact ⟨rfl, rfl, _, ((HFV.out.trans HX1.out).trans HX2.out).trans HX3.out⟩
     | some r2 =>
       have hk' : mk? ⟨#[41]⟩ s1.rest = some r2 := hk
       rw [hk'] at HM2
       rw [hk] at hN
       have HN : Hid (N = some (structTm s ks, ⟨r2, s1.names⟩)) := hN
       replace HM2 : Hid _ := HM2
       clear hk hk' hN
       go_upto_region 5 with (go_at_call 100; refine (Calls.mono HM2.out ?_); rintro e w3 ⟨hx, rfl, hi⟩; have HX3 : Hid (FX (XI g m nv2) (XI g m nv2) w2 w3) := hx; have HI3 : Hid (IRd g m L lv nv2 w3 d ⟨r2, s1.names⟩) := hi; clear hx hi)
       have HST : Hid _ := i_structOf s ao KN cap w3 (by have := HSZ.out; omega)
       have xA : FX (XI g m nv) (XI g m nv2) V w3 := (HX1.out.trans HX2.out).trans HX3.out
       have hsv := HSV.out
       have HA : Hid (∀ w4, Below w3.heap.size w3 w4 → ¬ XI g m nv2 w.heap.size ∧ w4.heap[w.heap.size]? = some (.cells #[.int .i64 0, .string ⟨#[]⟩, .int .i64 0, .slice none 0 0] 24 (0, 0))) := fun w4 hb => by
         have := fin_keep HH.out (by omega) (xA.trans (FX.of_below hb))
         exact ⟨this.1, this.2.trans HKV.out⟩
       have HTZ : Hid (∀ w4, Below w3.heap.size w3 w4 → TOk 24 (XI g m nv2) (w.heap.size + 1) w4 (structTm s ks) (.agg #[.int .i64 4, .string s, .int .i64 0, .slice ao KN cap]) F ∧ IRd g m L lv nv2 w4 d ⟨r2, s1.names⟩ ∧ FX (XI g m nv) (XI g m nv2) w w4) := fun w4 hb =>
         ⟨(((HR2.out.step HX3.out).step (FX.of_below hb)).tm (by have := HSZ.out; unfold maxLen; omega)).lo_le (by have := HX1.out.size; omega), HI3.out.keep hb, (HFV.out.trans xA).trans (FX.of_below hb)⟩
       clear xA hsv
       go_wp2_with (go_at_call 75; refine (Calls.mono HST.out ?_); rintro e w4 ⟨rfl, hb⟩; obtain ⟨hn, hk⟩ := HA.out w4 hb; obtain ⟨q0, q1, q2, q3, fz0, fz1, fz2, fz3⟩ := blk4 hk; have HKE : Hid _ := hk; have HNE : Hid (¬ XI g m nv2 w.heap.size) := hn; have HZZ : Hid _ := HTZ.out w4 hb; clear hb hn hk)
       refine bodyPost_ret_by (results_cell_row rfl _ _ w.heap.size 24 _ (0, 0) _ rfl (blk4_set HKE.out) Tryz.underlying24 rfl (by kernel_rfl)) rfl ?_
       rw [HN.out]
       exact ⟨_, rfl, TmRI.fin HH.out HZZ.out.2.2 HNE.out HZZ.out.1 HZZ.out.2.1 rfl⟩
end Go.Proofs.YtbkjcccbjnehbanGreatDoor

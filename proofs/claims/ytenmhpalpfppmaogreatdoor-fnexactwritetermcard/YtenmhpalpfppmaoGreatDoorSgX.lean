/- The code's signer: one step. -/
import Derived.Test.YtenmhpalpfppmaoGreatDoorMrg13
import Derived.Test.YtenmhpalpfppmaoGreatDoorSgMap
namespace Go.Proofs.YtenmhpalpfppmaoGreatDoor
open Go.RowKit

theorem SnAt.set {N g : Nat} {t : ByteArray} {mv : Value} {w : World} {L : List Sg} {b : Nat} (h : SnAt N g t mv w L b) (e : Nat) : SnAt N g t mv (w.setCell ⟨g, 3, none⟩ (.int .i64 (e : Int))) L e ∧ Fr N g w (w.setCell ⟨g, 3, none⟩ (.int .i64 (e : Int))) := by
  obtain ⟨vo, h1, h2, h3, h4⟩ := h
  refine ⟨⟨vo, ?_, ?_, h3, by rw [set_size]; exact h4⟩, ⟨rfl, rfl, rfl, by rw [set_size]; exact Nat.le_refl _, fun k _ hk => set_oth _ hk⟩⟩
  · have := set_at (i := 3) h1 (.int .i64 (e : Int))
    simpa using this
  · refine h2.turn fun k hk => set_oth _ ?_
    rcases h2.2 with ⟨e2, _⟩ | ⟨g3, cap, cur, e2, hge, _⟩
    · rw [e2] at hk; cases hk
    · rw [e2] at hk; simp [Value.ownBlock] at hk; omega

/-- what one step takes, and where it ends -/
def takeTo (t : ByteArray) (i : Nat) : List Sg × Nat :=
  if (at8 t i).toNat < 128 then ((stepAt t i).1.toList, (stepAt t i).2) else ((List.range (Utf8.decode t i).2).map (fun q => (badSg t (i + q)).1), i + (Utf8.decode t i).2)

theorem alone_no {r : Int} (h : ¬ (r = 40 ∨ r = 41 ∨ r = 91 ∨ r = 93 ∨ r = 44 ∨ r = 124 ∨ r = 33 ∨ r = 59)) : aloneB r = false ∧ aloneK r = 0 := by
  refine ⟨decide_eq_false h, ?_⟩
  unfold aloneK; rw [if_neg (by omega), if_neg (by omega)]

set_option maxHeartbeats 4000000 in
set_option maxRecDepth 20000 in
theorem take_any (N g m : Nat) (t : ByteArray) (L : List Sg) (b i : Nat) (r : Int) (w : World) (h : SnAt N g t (.map (some m)) w L b) (hM : MapIn w m) (hs : (t.size : Int) ≤ 3000) (hL : L.length + t.size ≤ 3000 + i) (hi : i < t.size) (hT : ∀ w', Fr N g w w' → Lib.Utf8Tabs 3 4 w')
    (hr : (t[i].toNat < 128 ∧ r = (t[i].toNat : Int)) ∨ (128 ≤ t[i].toNat ∧ 128 ≤ r ∧ r ≤ 2147483647)) :
    Calls Tryz.prog 76 #[.pointer (some ⟨g, 0, none⟩), .int .i64 (i : Int), .int .i32 r] w (Res N g t (.map (some m)) (L ++ (takeTo t i).1) (takeTo t i).2 w) := by
  obtain ⟨c0, c1, c3, cf, hgN, hNw⟩ := h.cells
  have f3 := cf 3
  have lk := look_alone w m hM r
  have HS : Hid (SnAt N g t (.map (some m)) w L b) := h
  have hL1 : L.length ≤ 3000 := by omega
  obtain ⟨TT, hTT⟩ : ∃ TT, TT = takeTo t i := ⟨_, rfl⟩
  rw [← hTT]
  rcases hr with ⟨hasc, hr⟩ | ⟨hhi, hr1, hr2⟩
  · have hst : TT = ((stepAt t i).1.toList, (stepAt t i).2) := by rw [hTT]; unfold takeTo; rw [at8_eq t i hi, if_pos hasc]
    have hbl : isBlank t[i] = decide (t[i].toNat = 32 ∨ t[i].toNat = 9 ∨ t[i].toNat = 10) := rfl
    clear hTT
    by_cases hB : t[i].toNat = 32 ∨ t[i].toNat = 9 ∨ t[i].toNat = 10
    · have HD : Hid (TT = ([], i + 1)) := by show _ = _; rw [hst]; unfold stepAt; rw [at8_eq t i hi, hbl, decide_eq_true hB]; rfl
      obtain ⟨hb1, hb2⟩ := alone_no (r := r) (by omega)
      rw [hb1, hb2] at lk
      have HST : Hid _ := HS.out.set (i + 1)
      clear hst hbl hL1 hL hT hM h
      have hB' : r = 32 ∨ r = 9 ∨ r = 10 := by omega
      clear hB hr hasc
      rcases hB' with rfl | rfl | rfl
      · go_enter Tryz.func76, Tryz.ntmps76
        go_wp2
        refine bodyPost_end (results_none rfl _ _ _) rfl ?_
        exact ⟨⟨_, rfl⟩, by rw [HD.out]; rw [List.append_nil]; exact HST.out.1, HST.out.2⟩
      · go_enter Tryz.func76, Tryz.ntmps76
        go_wp2
        refine bodyPost_end (results_none rfl _ _ _) rfl ?_
        exact ⟨⟨_, rfl⟩, by rw [HD.out]; rw [List.append_nil]; exact HST.out.1, HST.out.2⟩
      · go_enter Tryz.func76, Tryz.ntmps76
        go_wp2
        refine bodyPost_end (results_none rfl _ _ _) rfl ?_
        exact ⟨⟨_, rfl⟩, by rw [HD.out]; rw [List.append_nil]; exact HST.out.1, HST.out.2⟩
    · have hbf : isBlank t[i] = false := decide_eq_false hB
      by_cases h37 : t[i].toNat = 37
      · have HD : Hid (TT = ([], i + run t not10 i)) := by show _ = _; rw [hst]; unfold stepAt; rw [at8_eq t i hi, hbf, if_pos h37]; rfl
        obtain ⟨hb1, hb2⟩ := alone_no (r := r) (by omega)
        rw [hb1, hb2] at lk
        have HST : Hid _ := HS.out.set (i + run t not10 i)
        have HLE : Hid _ := line_end N g t _ L b i w h hs (by omega)
        generalize i + run t not10 i = E at *
        have e32 : (r == 32) = false := beq_eq_false_iff_ne.2 (by omega)
        have e9 : (r == 9) = false := beq_eq_false_iff_ne.2 (by omega)
        have e10 : (r == 10) = false := beq_eq_false_iff_ne.2 (by omega)
        have e37 : (r == 37) = true := beq_iff_eq.2 (by omega)
        clear hst hbl hbf hL1 hL hT hM h hB hr hasc h37
        go_enter Tryz.func76, Tryz.ntmps76
        go_wp2_with (go_at_call 82; go_loud (refine (Calls.mono HLE.out ?_)); rintro e w' ⟨rfl, hw'⟩; subst hw')
        refine bodyPost_end (results_none rfl _ _ _) rfl ?_
        exact ⟨⟨_, rfl⟩, by rw [HD.out]; rw [List.append_nil]; exact HST.out.1, HST.out.2⟩
      · have hsg : TT = ([(signAt t i).1], (signAt t i).2) := by rw [hst]; unfold stepAt; rw [at8_eq t i hi, hbf, if_neg h37]; rfl
        have hd : signAt t i = if isSmall t[i] then nameSg t 1 isWord i
          else if isGreat t[i] then nameSg t 2 isWord i
          else if isFig t[i] then numSg t i
          else if t[i].toNat = 39 then quotSg t i
          else if isLone t[i] then oneSg t 1 i
          else if isMark t[i] then oneSg t 4 i
          else if isEnd t i then oneSg t 5 i
          else if isSym t[i] then nameSg t 1 isSym i
          else badSg t i := by unfold signAt; rw [at8_eq t i hi]
        clear hst hbl hbf
        by_cases h1 : isSmall t[i] = true
        · have HD : Hid (TT = ([(nameSg t 1 isWord i).1], (nameSg t 1 isWord i).2)) := by show _ = _; rw [hsg, hd, h1]; rfl
          have hp : isWord t[i] = true := by unfold isWord; rw [h1]; rfl
          have HT : Hid _ := take_word N g t _ L b i 1 w h hs hL hi hp hasc hT
          have h1' := of_decide_eq_true h1
          obtain ⟨q1, q2⟩ : 97 ≤ r ∧ r ≤ 122 := by omega
          obtain ⟨hb1, hb2⟩ := alone_no (r := r) (by omega)
          rw [hb1, hb2] at lk
          have e32 : (r == 32) = false := beq_eq_false_iff_ne.2 (by omega)
          have e9 : (r == 9) = false := beq_eq_false_iff_ne.2 (by omega)
          have e10 : (r == 10) = false := beq_eq_false_iff_ne.2 (by omega)
          have e37 : (r == 37) = false := beq_eq_false_iff_ne.2 (by omega)
          have e46 : (r == 46) = false := beq_eq_false_iff_ne.2 (by omega)
          have e39 : (r == 39) = false := beq_eq_false_iff_ne.2 (by omega)
          clear hsg hd h1 hp h1' hr hL1 hL hT hM h hB h37 hasc HS
          go_enter Tryz.func76, Tryz.ntmps76
          go_wp2_with (go_at_call 87; go_loud (refine (Calls.mono HT.out ?_)); rintro e w2 ⟨⟨x, rfl⟩, hs2, hf2⟩; have HS2 : Hid _ := hs2; have HF2 : Hid _ := hf2; clear hs2 hf2)
          all_goals
            refine bodyPost_end (results_none rfl _ _ _) rfl ?_
            exact ⟨⟨_, rfl⟩, by rw [HD.out]; exact HS2.out, HF2.out⟩
        have h1f : isSmall t[i] = false := by simpa using h1
        have h1' : ¬ (97 ≤ t[i].toNat ∧ t[i].toNat ≤ 122) := of_decide_eq_false h1f
        by_cases h2 : isGreat t[i] = true
        · have HD : Hid (TT = ([(nameSg t 2 isWord i).1], (nameSg t 2 isWord i).2)) := by show _ = _; rw [hsg, hd, h1f, h2]; rfl
          have hp : isWord t[i] = true := by unfold isWord; rw [h2]; simp
          have HT : Hid _ := take_word N g t _ L b i 2 w h hs hL hi hp hasc hT
          have h2' := of_decide_eq_true h2
          obtain ⟨hb1, hb2⟩ := alone_no (r := r) (by omega)
          rw [hb1, hb2] at lk
          have e32 : (r == 32) = false := beq_eq_false_iff_ne.2 (by omega)
          have e9 : (r == 9) = false := beq_eq_false_iff_ne.2 (by omega)
          have e10 : (r == 10) = false := beq_eq_false_iff_ne.2 (by omega)
          have e37 : (r == 37) = false := beq_eq_false_iff_ne.2 (by omega)
          have e46 : (r == 46) = false := beq_eq_false_iff_ne.2 (by omega)
          have e39 : (r == 39) = false := beq_eq_false_iff_ne.2 (by omega)
          have q : (65 ≤ r ∧ r ≤ 90) ∨ r = 95 := by omega
          clear hsg hd h1 h2 hp h1' h2' h1f hr hL1 hL hT hM h hB h37 hasc HS
          rcases q with ⟨q1, q2⟩ | q
          · go_enter Tryz.func76, Tryz.ntmps76
            go_wp2_with (go_at_call 87; go_loud (refine (Calls.mono HT.out ?_)); rintro e w2 ⟨⟨x, rfl⟩, hs2, hf2⟩; have HS2 : Hid _ := hs2; have HF2 : Hid _ := hf2; clear hs2 hf2)
            all_goals
              refine bodyPost_end (results_none rfl _ _ _) rfl ?_
              exact ⟨⟨_, rfl⟩, by rw [HD.out]; exact HS2.out, HF2.out⟩
          · subst q
            go_enter Tryz.func76, Tryz.ntmps76
            go_wp2_with (go_at_call 87; go_loud (refine (Calls.mono HT.out ?_)); rintro e w2 ⟨⟨x, rfl⟩, hs2, hf2⟩; have HS2 : Hid _ := hs2; have HF2 : Hid _ := hf2; clear hs2 hf2)
            all_goals
              refine bodyPost_end (results_none rfl _ _ _) rfl ?_
              exact ⟨⟨_, rfl⟩, by rw [HD.out]; exact HS2.out, HF2.out⟩
        have h2f : isGreat t[i] = false := by simpa using h2
        have h2' : ¬ ((65 ≤ t[i].toNat ∧ t[i].toNat ≤ 90) ∨ t[i].toNat = 95) := of_decide_eq_false h2f
        by_cases h3 : isFig t[i] = true
        · have HD : Hid (TT = ([(numSg t i).1], (numSg t i).2)) := by show _ = _; rw [hsg, hd, h1f, h2f, h3]; rfl
          have HT : Hid _ := take_number N g t _ L b i w h hs hL hi hasc hT
          have h3' := of_decide_eq_true h3
          obtain ⟨q1, q2⟩ : 48 ≤ r ∧ r ≤ 57 := by omega
          obtain ⟨hb1, hb2⟩ := alone_no (r := r) (by omega)
          rw [hb1, hb2] at lk
          have e32 : (r == 32) = false := beq_eq_false_iff_ne.2 (by omega)
          have e9 : (r == 9) = false := beq_eq_false_iff_ne.2 (by omega)
          have e10 : (r == 10) = false := beq_eq_false_iff_ne.2 (by omega)
          have e37 : (r == 37) = false := beq_eq_false_iff_ne.2 (by omega)
          have e46 : (r == 46) = false := beq_eq_false_iff_ne.2 (by omega)
          have e39 : (r == 39) = false := beq_eq_false_iff_ne.2 (by omega)
          clear hsg hd h1 h2 h3 h1' h2' h3' h1f h2f hr hL1 hL hT hM h hB h37 hasc HS
          go_enter Tryz.func76, Tryz.ntmps76
          go_wp2_with (go_at_call 86; go_loud (refine (Calls.mono HT.out ?_)); rintro e w2 ⟨⟨x, rfl⟩, hs2, hf2⟩; have HS2 : Hid _ := hs2; have HF2 : Hid _ := hf2; clear hs2 hf2)
          all_goals
            refine bodyPost_end (results_none rfl _ _ _) rfl ?_
            exact ⟨⟨_, rfl⟩, by rw [HD.out]; exact HS2.out, HF2.out⟩
        have h3f : isFig t[i] = false := by simpa using h3
        have h3' : ¬ (48 ≤ t[i].toNat ∧ t[i].toNat ≤ 57) := of_decide_eq_false h3f
        by_cases h4 : t[i].toNat = 39
        · have HD : Hid (TT = ([(quotSg t i).1], (quotSg t i).2)) := by show _ = _; rw [hsg, hd, h1f, h2f, h3f, if_pos h4]; rfl
          have HT : Hid _ := take_quoted N g t _ L b i w h hs hL hi hasc hT
          obtain ⟨hb1, hb2⟩ := alone_no (r := r) (by omega)
          rw [hb1, hb2] at lk
          have e32 : (r == 32) = false := beq_eq_false_iff_ne.2 (by omega)
          have e9 : (r == 9) = false := beq_eq_false_iff_ne.2 (by omega)
          have e10 : (r == 10) = false := beq_eq_false_iff_ne.2 (by omega)
          have e37 : (r == 37) = false := beq_eq_false_iff_ne.2 (by omega)
          have e46 : (r == 46) = false := beq_eq_false_iff_ne.2 (by omega)
          have e39 : (r == 39) = true := beq_iff_eq.2 (by omega)
          clear hsg hd h1 h2 h3 h1' h2' h3' h1f h2f h3f h4 hr hL1 hL hT hM h hB h37 hasc HS
          go_enter Tryz.func76, Tryz.ntmps76
          go_wp2_with (go_at_call 85; go_loud (refine (Calls.mono HT.out ?_)); rintro e w2 ⟨⟨x, rfl⟩, hs2, hf2⟩; have HS2 : Hid _ := hs2; have HF2 : Hid _ := hf2; clear hs2 hf2)
          all_goals
            refine bodyPost_end (results_none rfl _ _ _) rfl ?_
            exact ⟨⟨_, rfl⟩, by rw [HD.out]; exact HS2.out, HF2.out⟩
        by_cases h5 : isLone t[i] = true
        · have HD : Hid (TT = ([(oneSg t 1 i).1], (oneSg t 1 i).2)) := by show _ = _; rw [hsg, hd, h1f, h2f, h3f, if_neg h4, h5]; rfl
          have HT : Hid _ := add_piece N g t _ L b 1 i (i + 1) w h hL1 hs (by omega) (by omega)
          have h5' := of_decide_eq_true h5
          have hb1 : aloneB r = true := decide_eq_true (by omega)
          have hb2 : aloneK r = 1 := by unfold aloneK; rw [if_neg (by omega), if_pos (by omega)]
          rw [hb1, hb2] at lk
          have e32 : (r == 32) = false := beq_eq_false_iff_ne.2 (by omega)
          have e9 : (r == 9) = false := beq_eq_false_iff_ne.2 (by omega)
          have e10 : (r == 10) = false := beq_eq_false_iff_ne.2 (by omega)
          have e37 : (r == 37) = false := beq_eq_false_iff_ne.2 (by omega)
          clear hsg hd h1 h2 h3 h1' h2' h3' h1f h2f h3f h4 h5 h5' hr hL1 hL hT hM h hB h37 hasc HS hb1 hb2
          go_enter Tryz.func76, Tryz.ntmps76
          go_wp2_with (go_at_call 83; go_loud (refine (Calls.mono HT.out ?_)); rintro e w2 ⟨⟨x, rfl⟩, hs2, hf2⟩; have HS2 : Hid _ := hs2; have HF2 : Hid _ := hf2; clear hs2 hf2)
          all_goals
            refine bodyPost_end (results_none rfl _ _ _) rfl ?_
            exact ⟨⟨_, rfl⟩, by rw [HD.out]; exact HS2.out, HF2.out⟩
        have h5f : isLone t[i] = false := by simpa using h5
        have h5' : ¬ (t[i].toNat = 33 ∨ t[i].toNat = 59) := of_decide_eq_false h5f
        by_cases h6 : isMark t[i] = true
        · have HD : Hid (TT = ([(oneSg t 4 i).1], (oneSg t 4 i).2)) := by show _ = _; rw [hsg, hd, h1f, h2f, h3f, if_neg h4, h5f, h6]; rfl
          have HT : Hid _ := add_piece N g t _ L b 4 i (i + 1) w h hL1 hs (by omega) (by omega)
          have h6' := of_decide_eq_true h6
          have hb1 : aloneB r = true := decide_eq_true (by omega)
          have hb2 : aloneK r = 4 := by unfold aloneK; rw [if_pos (by omega)]
          rw [hb1, hb2] at lk
          have e32 : (r == 32) = false := beq_eq_false_iff_ne.2 (by omega)
          have e9 : (r == 9) = false := beq_eq_false_iff_ne.2 (by omega)
          have e10 : (r == 10) = false := beq_eq_false_iff_ne.2 (by omega)
          have e37 : (r == 37) = false := beq_eq_false_iff_ne.2 (by omega)
          clear hsg hd h1 h2 h3 h1' h2' h3' h1f h2f h3f h4 h6 h6' hr hL1 hL hT hM h hB h37 hasc HS hb1 hb2
          go_enter Tryz.func76, Tryz.ntmps76
          go_wp2_with (go_at_call 83; go_loud (refine (Calls.mono HT.out ?_)); rintro e w2 ⟨⟨x, rfl⟩, hs2, hf2⟩; have HS2 : Hid _ := hs2; have HF2 : Hid _ := hf2; clear hs2 hf2)
          all_goals
            refine bodyPost_end (results_none rfl _ _ _) rfl ?_
            exact ⟨⟨_, rfl⟩, by rw [HD.out]; exact HS2.out, HF2.out⟩
        have h6f : isMark t[i] = false := by simpa using h6
        have h6' : ¬ (t[i].toNat = 40 ∨ t[i].toNat = 41 ∨ t[i].toNat = 91 ∨ t[i].toNat = 93 ∨ t[i].toNat = 44 ∨ t[i].toNat = 124) := of_decide_eq_false h6f
        obtain ⟨hb1, hb2⟩ := alone_no (r := r) (by omega)
        rw [hb1, hb2] at lk
        by_cases h7 : isEnd t i = true
        · have HD : Hid (TT = ([(oneSg t 5 i).1], (oneSg t 5 i).2)) := by show _ = _; rw [hsg, hd, h1f, h2f, h3f, if_neg h4, h5f, h6f, h7]; rfl
          have HT : Hid _ := add_piece N g t _ L b 5 i (i + 1) w h hL1 hs (by omega) (by omega)
          have h46 : t[i].toNat = 46 := Classical.byContradiction fun hh => by rw [isEnd_no hi hh] at h7; exact Bool.noConfusion h7
          have HE := ends_at N g t _ L b i w h hs hi h46
          rw [h7] at HE
          replace HE : Hid _ := HE
          have e32 : (r == 32) = false := beq_eq_false_iff_ne.2 (by omega)
          have e9 : (r == 9) = false := beq_eq_false_iff_ne.2 (by omega)
          have e10 : (r == 10) = false := beq_eq_false_iff_ne.2 (by omega)
          have e37 : (r == 37) = false := beq_eq_false_iff_ne.2 (by omega)
          have e46 : (r == 46) = true := beq_iff_eq.2 (by omega)
          clear hsg hd h1 h2 h3 h1' h2' h3' h1f h2f h3f h4 h5 h5' h5f h6 h6' h6f h7 h46 hr hL1 hL hT hM h hB h37 hasc HS hb1 hb2
          go_enter Tryz.func76, Tryz.ntmps76
          go_wp2_with (first | (go_at_call 84; go_loud (refine (Calls.mono HE.out ?_)); rintro e w' ⟨rfl, hw'⟩; subst hw') | (go_at_call 83; go_loud (refine (Calls.mono HT.out ?_)); rintro e w2 ⟨⟨x, rfl⟩, hs2, hf2⟩; have HS2 : Hid _ := hs2; have HF2 : Hid _ := hf2; clear hs2 hf2))
          all_goals
            refine bodyPost_end (results_none rfl _ _ _) rfl ?_
            exact ⟨⟨_, rfl⟩, by rw [HD.out]; exact HS2.out, HF2.out⟩
        have h7f : isEnd t i = false := by simpa using h7
        have HY0 := impl_sym t[i] w
        have hcc := t[i].toNat_lt
        subst hr
        by_cases h8 : isSym t[i] = true
        · have HD : Hid (TT = ([(nameSg t 1 isSym i).1], (nameSg t 1 isSym i).2)) := by show _ = _; rw [hsg, hd, h1f, h2f, h3f, if_neg h4, h5f, h6f, h7f, h8]; rfl
          have HT : Hid _ := take_sym N g t _ L b i 1 w h hs hL hi h8 hasc hT
          rw [h8] at HY0
          have HY : Hid _ := HY0
          by_cases h46 : t[i].toNat = 46
          · have HE := ends_at N g t _ L b i w h hs hi h46
            rw [h7f] at HE
            replace HE : Hid _ := HE
            have e32 : ((t[i].toNat : Int) == 32) = false := beq_eq_false_iff_ne.2 (by omega)
            have e9 : ((t[i].toNat : Int) == 9) = false := beq_eq_false_iff_ne.2 (by omega)
            have e10 : ((t[i].toNat : Int) == 10) = false := beq_eq_false_iff_ne.2 (by omega)
            have e37 : ((t[i].toNat : Int) == 37) = false := beq_eq_false_iff_ne.2 (by omega)
            have e46 : ((t[i].toNat : Int) == 46) = true := beq_iff_eq.2 (by omega)
            have e39 : ((t[i].toNat : Int) == 39) = false := beq_eq_false_iff_ne.2 (by omega)
            have e95 : ((t[i].toNat : Int) == 95) = false := beq_eq_false_iff_ne.2 (by omega)
            clear hsg hd h1 h2 h3 h1f h2f h3f h4 h5 h5f h6 h6f h7 h7f h8 hL1 hL hT hM h hB h37 HS hb1 hb2 HY0 h46
            go_enter Tryz.func76, Tryz.ntmps76
            go_wp2_with (first | (go_at_call 84; go_loud (refine (Calls.mono HE.out ?_)); rintro e w' ⟨rfl, hw'⟩; subst hw') | (go_at_call 89; go_loud (refine (Calls.mono HY.out ?_)); rintro e w' ⟨rfl, hw'⟩; subst hw') | (go_at_call 87; go_loud (refine (Calls.mono HT.out ?_)); rintro e w2 ⟨⟨x, rfl⟩, hs2, hf2⟩; have HS2 : Hid _ := hs2; have HF2 : Hid _ := hf2; clear hs2 hf2))
            all_goals
              refine bodyPost_end (results_none rfl _ _ _) rfl ?_
              exact ⟨⟨_, rfl⟩, by rw [HD.out]; exact HS2.out, HF2.out⟩
          ·
            have e32 : ((t[i].toNat : Int) == 32) = false := beq_eq_false_iff_ne.2 (by omega)
            have e9 : ((t[i].toNat : Int) == 9) = false := beq_eq_false_iff_ne.2 (by omega)
            have e10 : ((t[i].toNat : Int) == 10) = false := beq_eq_false_iff_ne.2 (by omega)
            have e37 : ((t[i].toNat : Int) == 37) = false := beq_eq_false_iff_ne.2 (by omega)
            have e46 : ((t[i].toNat : Int) == 46) = false := beq_eq_false_iff_ne.2 (by omega)
            have e39 : ((t[i].toNat : Int) == 39) = false := beq_eq_false_iff_ne.2 (by omega)
            have e95 : ((t[i].toNat : Int) == 95) = false := beq_eq_false_iff_ne.2 (by omega)
            clear hsg hd h1 h2 h3 h1f h2f h3f h4 h5 h5f h6 h6f h7 h7f h8 hL1 hL hT hM h hB h37 HS hb1 hb2 HY0 h46
            go_enter Tryz.func76, Tryz.ntmps76
            go_wp2_with (first | (go_at_call 89; go_loud (refine (Calls.mono HY.out ?_)); rintro e w' ⟨rfl, hw'⟩; subst hw') | (go_at_call 87; go_loud (refine (Calls.mono HT.out ?_)); rintro e w2 ⟨⟨x, rfl⟩, hs2, hf2⟩; have HS2 : Hid _ := hs2; have HF2 : Hid _ := hf2; clear hs2 hf2))
            all_goals
              refine bodyPost_end (results_none rfl _ _ _) rfl ?_
              exact ⟨⟨_, rfl⟩, by rw [HD.out]; exact HS2.out, HF2.out⟩
        · have h8f : isSym t[i] = false := by simpa using h8
          have HD : Hid (TT = ([(badSg t i).1], i + 1)) := by show _ = _; rw [hsg, hd, h1f, h2f, h3f, if_neg h4, h5f, h6f, h7f, h8f]; rfl
          have HT : Hid (Calls Tryz.prog 90 #[.pointer (some ⟨g, 0, none⟩), .int .i64 (i : Int)] w (Res N g t (.map (some m)) (L ++ [(badSg t i).1]) (i + 1) w)) := by
            have := take_bad N g t _ L b i w h hs hL hi hT
            rw [decode_ascii t i hi hasc] at this
            exact this
          rw [h8f] at HY0
          have HY : Hid _ := HY0
          have h46 : t[i].toNat ≠ 46 := fun hh => by
            have : isSym t[i] = true := by unfold isSym; have : t[i] = 46 := UInt8.toNat_inj.1 hh; rw [this]; rfl
            exact h8 this
          have e32 : ((t[i].toNat : Int) == 32) = false := beq_eq_false_iff_ne.2 (by omega)
          have e9 : ((t[i].toNat : Int) == 9) = false := beq_eq_false_iff_ne.2 (by omega)
          have e10 : ((t[i].toNat : Int) == 10) = false := beq_eq_false_iff_ne.2 (by omega)
          have e37 : ((t[i].toNat : Int) == 37) = false := beq_eq_false_iff_ne.2 (by omega)
          have e46 : ((t[i].toNat : Int) == 46) = false := beq_eq_false_iff_ne.2 (by omega)
          have e39 : ((t[i].toNat : Int) == 39) = false := beq_eq_false_iff_ne.2 (by omega)
          have e95 : ((t[i].toNat : Int) == 95) = false := beq_eq_false_iff_ne.2 (by omega)
          clear hsg hd h1 h2 h3 h1f h2f h3f h4 h5 h5f h6 h6f h7 h7f h8 h8f hL1 hL hT hM h hB h37 HS hb1 hb2 HY0 h46
          go_enter Tryz.func76, Tryz.ntmps76
          go_wp2_with (first | (go_at_call 89; go_loud (refine (Calls.mono HY.out ?_)); rintro e w' ⟨rfl, hw'⟩; subst hw') | (go_at_call 90; go_loud (refine (Calls.mono HT.out ?_)); rintro e w2 ⟨⟨x, rfl⟩, hs2, hf2⟩; have HS2 : Hid _ := hs2; have HF2 : Hid _ := hf2; clear hs2 hf2))
          all_goals
            refine bodyPost_end (results_none rfl _ _ _) rfl ?_
            exact ⟨⟨_, rfl⟩, by rw [HD.out]; exact HS2.out, HF2.out⟩
  · have HD : Hid (TT = ((List.range (Utf8.decode t i).2).map (fun q => (badSg t (i + q)).1), i + (Utf8.decode t i).2)) := by show _ = _; rw [hTT]; unfold takeTo; rw [at8_eq t i hi, if_neg (by omega)]
    have HT : Hid _ := take_bad N g t _ L b i w h hs hL hi hT
    obtain ⟨hb1, hb2⟩ := alone_no (r := r) (by omega)
    rw [hb1, hb2] at lk
    have e32 : (r == 32) = false := beq_eq_false_iff_ne.2 (by omega)
    have e9 : (r == 9) = false := beq_eq_false_iff_ne.2 (by omega)
    have e10 : (r == 10) = false := beq_eq_false_iff_ne.2 (by omega)
    have e37 : (r == 37) = false := beq_eq_false_iff_ne.2 (by omega)
    have e46 : (r == 46) = false := beq_eq_false_iff_ne.2 (by omega)
    have e39 : (r == 39) = false := beq_eq_false_iff_ne.2 (by omega)
    have e95 : (r == 95) = false := beq_eq_false_iff_ne.2 (by omega)
    clear hTT hhi hL1 hL hT hM h HS hb1 hb2
    go_enter Tryz.func76, Tryz.ntmps76
    go_wp2_with (go_at_call 90; go_loud (refine (Calls.mono HT.out ?_)); rintro e w2 ⟨⟨x, rfl⟩, hs2, hf2⟩; have HS2 : Hid _ := hs2; have HF2 : Hid _ := hf2; clear hs2 hf2)
    all_goals
      refine bodyPost_end (results_none rfl _ _ _) rfl ?_
      exact ⟨⟨_, rfl⟩, by rw [HD.out]; exact HS2.out, HF2.out⟩
end Go.Proofs.YtenmhpalpfppmaoGreatDoor

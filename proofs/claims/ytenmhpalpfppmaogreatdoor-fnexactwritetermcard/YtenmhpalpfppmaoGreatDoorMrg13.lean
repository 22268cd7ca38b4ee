/- Four texts in one. -/
import Derived.Test.YtenmhpalpfppmaoGreatDoorMrg11
import Derived.Test.YtenmhpalpfppmaoGreatDoorMrg12
import Derived.Test.YtenmhpalpfppmaoGreatDoorMrg9
import Derived.Test.YtenmhpalpfppmaoGreatDoorRows
import Derived.Test.YtenmhpalpfppmaoGreatDoorMrg2
import Derived.Test.YtenmhpalpfppmaoGreatDoorMrg10
/- The code's signer: addPiece, lineEnd, endsAt, wordByte, takeBad. -/
namespace Go.Proofs.YtenmhpalpfppmaoGreatDoor
open Go.RowKit

/-- what a method of the signer leaves -/
def Res (N g : Nat) (t : ByteArray) (mv : Value) (L : List Sg) (b : Nat) (w : World) (r : Ending) (w' : World) : Prop := (∃ x, r = .returned x) ∧ SnAt N g t mv w' L b ∧ Fr N g w w'
theorem SnAt.cells {N g : Nat} {t : ByteArray} {mv : Value} {w : World} {L : List Sg} {b : Nat} (h : SnAt N g t mv w L b) : w.cell? ⟨g, 0, none⟩ = some (.string t) ∧ w.cell? ⟨g, 1, none⟩ = some mv ∧ w.cell? ⟨g, 3, none⟩ = some (.int .i64 (b : Int)) ∧ (∀ i, w.frozen? ⟨g, i, none⟩ = false) ∧ g < N ∧ N ≤ w.heap.size := by
  obtain ⟨vo, h1, _, h3, h4⟩ := h
  obtain ⟨c0, c1, _, c3, cf⟩ := b4 h1
  exact ⟨c0, c1, c3, cf, h3, h4⟩

set_option maxRecDepth 20000 in
theorem add_piece (N g : Nat) (t : ByteArray) (mv : Value) (L : List Sg) (b : Nat) (kind : Int) (i e : Nat) (w : World) (h : SnAt N g t mv w L b) (hL : L.length ≤ 3000) (hs : (t.size : Int) ≤ 3000) (hie : i ≤ e) (het : e ≤ t.size) :
    Calls Tryz.prog 83 #[.pointer (some ⟨g, 0, none⟩), .int .i64 kind, .int .i64 (i : Int), .int .i64 (e : Int)] w (Res N g t mv (L ++ [(mkSg t kind (t.extract i e) 0 i e).1]) e w) := by
  obtain ⟨c0, c1, c3, cf, hgN, hNw⟩ := h.cells
  have HS : Hid (SnAt N g t mv w L b) := h
  have HC := clone_any (t.extract i e)
  have hsz : (t.extract i e).size ≤ 1048576 := by rw [ByteArray.size_extract]; omega
  have HL : Hid (L.length ≤ 3000) := hL
  clear h hL
  go_enter Tryz.func83, Tryz.ntmps83
  go_wp2_with (first
    | (go_at_call 67; refine (HC _ hsz).mono ?_; rintro r w1 ⟨rfl, hb1⟩; have HB1 : Hid (Below w.heap.size w w1) := hb1; clear hb1; have HA : Hid _ := add_any N g t mv L b kind (t.extract i e) 0 i e _ w1 (HS.out.keep HB1.out) HL.out rfl)
    | (go_at_call 94; refine (Calls.mono HA.out ?_); rintro r w2 ⟨⟨x, rfl⟩, hs2, hf2⟩; have HS2 : Hid _ := hs2; have HF2 : Hid _ := hf2; clear hs2 hf2))
  refine bodyPost_end (results_none rfl _ _ _) rfl ?_
  exact ⟨⟨_, rfl⟩, HS2.out, (Fr.of_below HB1.out hNw).trans HF2.out⟩

theorem line_end (N g : Nat) (t : ByteArray) (mv : Value) (L : List Sg) (b i : Nat) (w : World) (h : SnAt N g t mv w L b) (hs : (t.size : Int) ≤ 3000) (hi : i ≤ t.size) :
    Calls Tryz.prog 82 #[.pointer (some ⟨g, 0, none⟩), .int .i64 (i : Int)] w fun r w' => r = .returned (.int .i64 ((i + run t not10 i : Nat) : Int)) ∧ w' = w := by
  obtain ⟨c0, _, _, _, hgN, hNw⟩ := h.cells
  clear h
  have hrl := run_le t not10 i
  have HIX : Lib.indexByte (t.extract i t.size).data.toList 10 = if i + run t not10 i < t.size then (run t not10 i : Int) else -1 := by
    rw [ext_list]
    refine index_run t 10 not10 (fun x => ?_) _ i (Nat.le_refl _)
    unfold not10
    rw [Bool.eq_iff_iff]
    simp [← UInt8.toNat_inj]
  have HX := strings_index (t.extract i t.size) 10
  have e10 : (10 : Int).toNat.toUInt8 = 10 := rfl
  rw [e10, HIX] at HX
  by_cases hc : i + run t not10 i < t.size
  · rw [if_pos hc] at HX
    replace HX : Hid _ := HX
    have HR : Hid (((i + run t not10 i : Nat) : Int) = (i : Int) + (run t not10 i : Int)) := by show _ = _; omega
    clear HIX
    generalize run t not10 i = r at *
    go_enter Tryz.func82, Tryz.ntmps82
    go_wp2_with (go_at_call 93; refine (HX.out _).mono ?_; rintro e w' ⟨rfl, rfl⟩)
    go_ret
    exact ⟨by rw [HR.out]; rfl, rfl⟩
  · rw [if_neg hc] at HX
    replace HX : Hid _ := HX
    have HR : Hid (i + run t not10 i = t.size) := by show _ = _; omega
    clear HIX hc hrl
    generalize i + run t not10 i = r at *
    go_enter Tryz.func82, Tryz.ntmps82
    go_wp2_with (go_at_call 93; refine (HX.out _).mono ?_; rintro e w' ⟨rfl, rfl⟩)
    go_ret
    exact ⟨by rw [HR.out]; rfl, rfl⟩

theorem bads_push (t : ByteArray) (i k : Nat) : (List.range (k + 1)).map (fun q => (badSg t (i + q)).1) = (List.range k).map (fun q => (badSg t (i + q)).1) ++ [(badSg t (i + k)).1] := by
  rw [List.range_succ, List.map_append]; rfl

set_option maxRecDepth 20000 in
theorem take_bad (N g : Nat) (t : ByteArray) (mv : Value) (L : List Sg) (b i : Nat) (w : World) (h : SnAt N g t mv w L b) (hs : (t.size : Int) ≤ 3000) (hL : L.length + t.size ≤ 3000 + i) (hi : i < t.size) (hT : ∀ w', Fr N g w w' → Lib.Utf8Tabs 3 4 w') :
    Calls Tryz.prog 90 #[.pointer (some ⟨g, 0, none⟩), .int .i64 (i : Int)] w (Res N g t mv (L ++ (List.range (Utf8.decode t i).2).map (fun q => (badSg t (i + q)).1)) (i + (Utf8.decode t i).2) w) := by
  obtain ⟨c0, _, _, _, hgN, hNw⟩ := h.cells
  have HD := sh_utf8_DecodeRuneInString (t.extract i t.size) w (hT w (Fr.refl _ _ _))
  rw [decodeGo_at t i hi] at HD
  obtain ⟨d1, d2, _, _⟩ := decode_end t i hi
  generalize (Utf8.decode t i).1 = ru at *
  generalize (Utf8.decode t i).2 = W at *
  replace HD : Hid _ := HD
  have HS : Hid (SnAt N g t mv w L b) := h
  have HL : Hid (L.length + t.size ≤ 3000 + i) := hL
  clear h hL hT
  go_enter Tryz.func90, Tryz.ntmps90
  go_wp2_with (go_at_call 95; refine (Calls.mono HD.out ?_); rintro e w1 ⟨rfl, hb1⟩; have HB1 : Hid (Below w.heap.size w w1) := hb1; clear hb1)
  go_loopw [6] (fun vj wr => ∃ k b' : Nat, k ≤ W ∧ vj = .int .i64 ((i + k : Nat) : Int) ∧ Hid (SnAt N g t mv wr (L ++ (List.range k).map (fun q => (badSg t (i + q)).1)) b' ∧ (k = W → b' = i + W)) ∧ Hid (Fr N g w wr)) (fun vj _ => i + W - (intOf vj).toNat)
  case atStart =>
    refine ⟨0, b, by omega, by simp, ⟨?_, by omega⟩, Fr.of_below HB1.out hNw⟩
    have := HS.out.keep HB1.out
    simpa using this
  case round =>
    obtain ⟨k, b', hk, rfl, HSB, HF⟩ := hrel
    have HSK : Hid (SnAt N g t mv wr (L ++ (List.range k).map (fun q => (badSg t (i + q)).1)) b') := HSB.out.1
    obtain ⟨c0', _, _, _, _, hNw'⟩ := HSK.out.cells
    by_cases hlt : k < W
    · have HA : Hid (Calls Tryz.prog 83 #[.pointer (some ⟨g, 0, none⟩), .int .i64 6, .int .i64 ((i + k : Nat) : Int), .int .i64 ((i + k + 1 : Nat) : Int)] wr (Res N g t mv (L ++ (List.range (k + 1)).map (fun q => (badSg t (i + q)).1)) (i + k + 1) wr)) := by
        have := add_piece N g t mv _ b' 6 (i + k) (i + k + 1) wr HSK.out (by have := HL.out; simp; omega) hs (by omega) (by omega)
        rw [bads_push, ← List.append_assoc]
        exact this
      clear HSB HSK HS HB1 HD c0
      go_wp2_with (go_at_call 83; refine (Calls.mono HA.out ?_); rintro r w2 ⟨⟨x, rfl⟩, hs2, hf2⟩; have HS2 : Hid _ := hs2; have HF2 : Hid (Fr N g wr w2) := hf2; clear hs2 hf2)
      go_roundw
      case rel => exact ⟨k + 1, i + k + 1, by omega, by go_num, ⟨HS2.out, by omega⟩, HF.out.trans HF2.out⟩
      case measure => simp [intOf]; omega
    · obtain rfl : k = W := by omega
      obtain rfl : b' = i + k := HSB.out.2 rfl
      clear HSB HS HB1 HD c0
      go_wp2
      refine bodyPost_end (results_none rfl _ _ _) rfl ?_
      exact ⟨⟨_, rfl⟩, HSK.out, HF.out⟩
end Go.Proofs.YtenmhpalpfppmaoGreatDoor

/- The code's signer: endsAt, wordByte, takeName. -/
namespace Go.Proofs.YtenmhpalpfppmaoGreatDoor
open Go.RowKit

theorem i_word (c : UInt8) (w : World) : Calls Tryz.prog 88 #[.int .u8 (c.toNat : Int)] w fun e w' => e = .returned (.bool (isWord c)) ∧ w' = w := by
  have hb := c.toNat_lt
  have hcs : (97 ≤ c.toNat ∧ c.toNat ≤ 122) ∨ (65 ≤ c.toNat ∧ c.toNat ≤ 90) ∨ (48 ≤ c.toNat ∧ c.toNat ≤ 57) ∨ c.toNat = 95 ∨ c.toNat < 48 ∨ (57 < c.toNat ∧ c.toNat < 65) ∨ (90 < c.toNat ∧ c.toNat < 95) ∨ c.toNat = 96 ∨ 122 < c.toNat := by omega
  have hw : isWord c = decide ((97 ≤ c.toNat ∧ c.toNat ≤ 122) ∨ (65 ≤ c.toNat ∧ c.toNat ≤ 90) ∨ c.toNat = 95 ∨ (48 ≤ c.toNat ∧ c.toNat ≤ 57)) := by
    unfold isWord isSmall isGreat isFig
    rw [Bool.eq_iff_iff]; simp; omega
  rw [hw]
  clear hw
  rcases hcs with ⟨h1, h2⟩ | ⟨h1, h2⟩ | ⟨h1, h2⟩ | h1 | h1 | ⟨h1, h2⟩ | ⟨h1, h2⟩ | h1 | h1
  · rw [decide_eq_true (by omega)]
    go_enter Tryz.func88, Tryz.ntmps88
    go_wp2
    go_ret
    exact ⟨by first | rfl | exact ret_b (decide_eq_true (by omega)) | exact ret_b (decide_eq_false (by omega)) | exact ret_b (beq_iff_eq.2 (by omega)) | exact ret_b (beq_eq_false_iff_ne.2 (by omega)), rfl⟩
  · rw [decide_eq_true (by omega)]
    go_enter Tryz.func88, Tryz.ntmps88
    go_wp2
    go_ret
    exact ⟨by first | rfl | exact ret_b (decide_eq_true (by omega)) | exact ret_b (decide_eq_false (by omega)) | exact ret_b (beq_iff_eq.2 (by omega)) | exact ret_b (beq_eq_false_iff_ne.2 (by omega)), rfl⟩
  · rw [decide_eq_true (by omega)]
    go_enter Tryz.func88, Tryz.ntmps88
    go_wp2
    go_ret
    exact ⟨by first | rfl | exact ret_b (decide_eq_true (by omega)) | exact ret_b (decide_eq_false (by omega)) | exact ret_b (beq_iff_eq.2 (by omega)) | exact ret_b (beq_eq_false_iff_ne.2 (by omega)), rfl⟩
  · rw [decide_eq_true (by omega)]
    go_enter Tryz.func88, Tryz.ntmps88
    go_wp2
    go_ret
    exact ⟨by first | rfl | exact ret_b (decide_eq_true (by omega)) | exact ret_b (decide_eq_false (by omega)) | exact ret_b (beq_iff_eq.2 (by omega)) | exact ret_b (beq_eq_false_iff_ne.2 (by omega)), rfl⟩
  · rw [decide_eq_false (by omega)]
    have e1 : ((c.toNat : Int) == 95) = false := beq_eq_false_iff_ne.2 (by omega)
    go_enter Tryz.func88, Tryz.ntmps88
    go_wp2
    go_ret
    exact ⟨by first | rfl | exact ret_b (decide_eq_true (by omega)) | exact ret_b (decide_eq_false (by omega)) | exact ret_b (beq_iff_eq.2 (by omega)) | exact ret_b (beq_eq_false_iff_ne.2 (by omega)), rfl⟩
  · rw [decide_eq_false (by omega)]
    have d57 : ¬ (c.toNat : Int) ≤ 57 := by omega
    have e1 : ((c.toNat : Int) == 95) = false := beq_eq_false_iff_ne.2 (by omega)
    go_enter Tryz.func88, Tryz.ntmps88
    go_wp2
    go_ret
    exact ⟨by first | rfl | exact ret_b (decide_eq_true (by omega)) | exact ret_b (decide_eq_false (by omega)) | exact ret_b (beq_iff_eq.2 (by omega)) | exact ret_b (beq_eq_false_iff_ne.2 (by omega)), rfl⟩
  · rw [decide_eq_false (by omega)]
    have d57 : ¬ (c.toNat : Int) ≤ 57 := by omega
    have d90 : ¬ (c.toNat : Int) ≤ 90 := by omega
    have e1 : ((c.toNat : Int) == 95) = false := beq_eq_false_iff_ne.2 (by omega)
    go_enter Tryz.func88, Tryz.ntmps88
    go_wp2
    go_ret
    exact ⟨by first | rfl | exact ret_b (decide_eq_true (by omega)) | exact ret_b (decide_eq_false (by omega)) | exact ret_b (beq_iff_eq.2 (by omega)) | exact ret_b (beq_eq_false_iff_ne.2 (by omega)), rfl⟩
  · rw [decide_eq_false (by omega)]
    have d57 : ¬ (c.toNat : Int) ≤ 57 := by omega
    have d90 : ¬ (c.toNat : Int) ≤ 90 := by omega
    have e1 : ((c.toNat : Int) == 95) = false := beq_eq_false_iff_ne.2 (by omega)
    go_enter Tryz.func88, Tryz.ntmps88
    go_wp2
    go_ret
    exact ⟨by first | rfl | exact ret_b (decide_eq_true (by omega)) | exact ret_b (decide_eq_false (by omega)) | exact ret_b (beq_iff_eq.2 (by omega)) | exact ret_b (beq_eq_false_iff_ne.2 (by omega)), rfl⟩
  · rw [decide_eq_false (by omega)]
    have d57 : ¬ (c.toNat : Int) ≤ 57 := by omega
    have d90 : ¬ (c.toNat : Int) ≤ 90 := by omega
    have d122 : ¬ (c.toNat : Int) ≤ 122 := by omega
    have e1 : ((c.toNat : Int) == 95) = false := beq_eq_false_iff_ne.2 (by omega)
    go_enter Tryz.func88, Tryz.ntmps88
    go_wp2
    go_ret
    exact ⟨by first | rfl | exact ret_b (decide_eq_true (by omega)) | exact ret_b (decide_eq_false (by omega)) | exact ret_b (beq_iff_eq.2 (by omega)) | exact ret_b (beq_eq_false_iff_ne.2 (by omega)), rfl⟩

theorem blank_index (c : UInt8) : decide (0 ≤ Lib.indexByte [32, 9, 10, 37] c) = (isBlank c || decide (c.toNat = 37)) := by
  rw [← Lib.contains_iff_indexByte, Bool.eq_iff_iff]
  unfold isBlank
  simp [← UInt8.toNat_inj]
  omega

set_option maxHeartbeats 1000000 in
theorem ends_at (N g : Nat) (t : ByteArray) (mv : Value) (L : List Sg) (b i : Nat) (w : World) (h : SnAt N g t mv w L b) (hs : (t.size : Int) ≤ 3000) (hi : i < t.size) (h46 : t[i].toNat = 46) :
    Calls Tryz.prog 84 #[.pointer (some ⟨g, 0, none⟩), .int .i64 (i : Int)] w fun r w' => r = .returned (.bool (isEnd t i)) ∧ w' = w := by
  obtain ⟨c0, _, _, _, hgN, hNw⟩ := h.cells
  clear h
  by_cases hi0 : i = 0
  · have hA : aheadOk t i := Or.inl (decide_eq_true hi0)
    have e0 : ¬ (0 : Int) < (i : Int) := by omega
    by_cases he : i + 1 = t.size
    · have HR : Hid (isEnd t (i) = true) := isEnd_last hi h46 hA he
      have e1 : ((i : Int) + 1 == (t.size : Int)) = true := by rw [← he]; simp
      clear he hA h46 hi0
      go_enter Tryz.func84, Tryz.ntmps84
      go_wp2
      go_ret
      exact ⟨by rw [HR.out]; rfl, rfl⟩
    · have hl : i + 1 < t.size := by omega
      have HR : Hid (isEnd t (i) = decide (0 ≤ Lib.indexByte [32, 9, 10, 37] t[i + 1])) := by show _ = _; rw [blank_index]; exact isEnd_mid hi h46 hA hl
      have e1 : ((i : Int) + 1 == (t.size : Int)) = false := beq_eq_false_iff_ne.2 (by omega)
      have hc1 := t[i + 1].toNat_lt
      have HX : Hid (∀ w, Calls Tryz.prog 93 #[.string ⟨#[32, 9, 10, 37]⟩, .int .u8 (t[i + 1].toNat : Int)] w fun e w' => e = .returned (.int .i64 (Lib.indexByte [32, 9, 10, 37] t[i + 1])) ∧ w' = w) := fun w => by
        have := strings_index ⟨#[32, 9, 10, 37]⟩ (t[i + 1].toNat : Int) w
        rw [u8_cast] at this; exact this
      generalize Lib.indexByte [32, 9, 10, 37] t[i + 1] = X at *
      clear he hA h46 hi0
      go_enter Tryz.func84, Tryz.ntmps84
      go_wp2_with (first | (go_at_call 93; refine (HX.out _).mono ?_; rintro e w' ⟨rfl, rfl⟩))
      go_ret
      exact ⟨by rw [HR.out]; rfl, rfl⟩
  · obtain ⟨i', rfl⟩ : ∃ i', i = i' + 1 := ⟨i - 1, by omega⟩
    have h1' : i' < t.size := by omega
    have e0 : (0 : Int) < ((i' + 1 : Nat) : Int) := by omega
    have hc' := t[i'].toNat_lt
    cases hsy : isSym t[i'] with
    | true =>
      have HR : Hid (isEnd t (i' + 1) = false) := isEnd_ahead hi0 h1' hsy
      have HS : Hid (∀ w, Calls Tryz.prog 89 #[.int .u8 (t[i'].toNat : Int)] w fun e w' => e = .returned (.bool true) ∧ w' = w) := fun w => by have := impl_sym t[i'] w; rw [hsy] at this; exact this
      clear hsy hi0 h46
      go_enter Tryz.func84, Tryz.ntmps84
      go_wp2_with (go_at_call 89; refine (HS.out _).mono ?_; rintro e w' ⟨rfl, rfl⟩)
      go_ret
      exact ⟨by rw [HR.out]; rfl, rfl⟩
    | false =>
      have hA : aheadOk t (i' + 1) := Or.inr ⟨h1', hsy⟩
      have HS : Hid (∀ w, Calls Tryz.prog 89 #[.int .u8 (t[i'].toNat : Int)] w fun e w' => e = .returned (.bool false) ∧ w' = w) := fun w => by have := impl_sym t[i'] w; rw [hsy] at this; exact this
      by_cases he : i' + 1 + 1 = t.size
      · have HR : Hid (isEnd t (i' + 1) = true) := isEnd_last hi h46 hA he
        have e1 : ((i' : Int) + 1 + 1 == (t.size : Int)) = true := by rw [← he]; simp
        clear he hA h46 hi0 hsy
        go_enter Tryz.func84, Tryz.ntmps84
        go_wp2_with (go_at_call 89; refine (HS.out _).mono ?_; rintro e w' ⟨rfl, rfl⟩)
        go_ret
        exact ⟨by rw [HR.out]; rfl, rfl⟩
      · have hl : i' + 1 + 1 < t.size := by omega
        have HR : Hid (isEnd t (i' + 1) = decide (0 ≤ Lib.indexByte [32, 9, 10, 37] t[i' + 1 + 1])) := by show _ = _; rw [blank_index]; exact isEnd_mid hi h46 hA hl
        have e1 : ((i' : Int) + 1 + 1 == (t.size : Int)) = false := beq_eq_false_iff_ne.2 (by omega)
        have hc1 := t[i' + 1 + 1].toNat_lt
        have HX : Hid (∀ w, Calls Tryz.prog 93 #[.string ⟨#[32, 9, 10, 37]⟩, .int .u8 (t[i' + 1 + 1].toNat : Int)] w fun e w' => e = .returned (.int .i64 (Lib.indexByte [32, 9, 10, 37] t[i' + 1 + 1])) ∧ w' = w) := fun w => by
          have := strings_index ⟨#[32, 9, 10, 37]⟩ (t[i' + 1 + 1].toNat : Int) w
          rw [u8_cast] at this; exact this
        generalize Lib.indexByte [32, 9, 10, 37] t[i' + 1 + 1] = X at *
        clear he hA h46 hi0 hsy
        go_enter Tryz.func84, Tryz.ntmps84
        go_wp2_with (first | (go_at_call 89; refine (HS.out _).mono ?_; rintro e w' ⟨rfl, rfl⟩) | (go_at_call 93; refine (HX.out _).mono ?_; rintro e w' ⟨rfl, rfl⟩))
        go_ret
        exact ⟨by rw [HR.out]; rfl, rfl⟩

set_option maxHeartbeats 1000000 in
set_option maxRecDepth 20000 in
theorem take_word (N g : Nat) (t : ByteArray) (mv : Value) (L : List Sg) (b i : Nat) (kind : Int) (w : World) (h : SnAt N g t mv w L b) (hs : (t.size : Int) ≤ 3000) (hL : L.length + t.size ≤ 3000 + i) (hi : i < t.size) (hp : isWord t[i] = true) (hasc : t[i].toNat < 128) (hT : ∀ w', Fr N g w w' → Lib.Utf8Tabs 3 4 w') :
    Calls Tryz.prog 87 #[.pointer (some ⟨g, 0, none⟩), .int .i64 kind, .int .i64 (i : Int), .func (.func 88) #[] #[]] w (Res N g t mv (L ++ [(nameSg t kind isWord i).1]) (nameSg t kind isWord i).2 w) := by
  obtain ⟨c0, _, _, _, hgN, hNw⟩ := h.cells
  have HBAD : Hid (Calls Tryz.prog 90 #[.pointer (some ⟨g, 0, none⟩), .int .i64 (i : Int)] w (Res N g t mv (L ++ [(badSg t i).1]) (i + 1) w)) := by
    have := take_bad N g t mv L b i w h hs hL hi hT
    rw [decode_ascii t i hi hasc] at this
    exact this
  obtain ⟨R, hR⟩ : ∃ R, R = i + run t isWord i := ⟨_, rfl⟩
  have hRl : R ≤ t.size := by have := run_le t isWord i; omega
  have hiR : i + 1 ≤ R := by rw [hR, run_yes hi hp]; omega
  have HR : Hid (i + run t isWord i = R) := hR.symm
  have HR1 : Hid (i + 1 + run t isWord (i + 1) = R) := by have h1 := run_yes hi hp; show _ = _; omega
  have HPC : Hid (∀ e, i ≤ e → e ≤ t.size → Calls Tryz.prog 83 #[.pointer (some ⟨g, 0, none⟩), .int .i64 kind, .int .i64 (i : Int), .int .i64 (e : Int)] w (Res N g t mv (L ++ [(mkSg t kind (t.extract i e) 0 i e).1]) e w)) := fun e h1 h2 => add_piece N g t mv L b kind i e w h (by omega) hs h1 h2
  have HBEL : Hid (∀ (c : UInt8) (w : World), Calls Tryz.prog 88 #[.int .u8 (c.toNat : Int)] w fun e w' => e = .returned (.bool (isWord c)) ∧ w' = w) := i_word
  obtain ⟨SG, hSG⟩ : ∃ SG, SG = nameSg t kind isWord i := ⟨_, rfl⟩
  rw [← hSG]
  have HSG : Hid (SG = nameSg t kind isWord i) := hSG
  clear h hT hp hasc hR hSG
  go_enter Tryz.func87, Tryz.ntmps87
  go_wp2
  go_loopw [8] (fun vj wr => wr = w ∧ ∃ j : Nat, i + 1 ≤ j ∧ j ≤ i + 21 ∧ j ≤ t.size ∧ vj = .int .i64 (j : Int) ∧ Hid (j + run t isWord j = R)) (fun vj _ => t.size - (intOf vj).toNat)
  case atStart => exact ⟨rfl, i + 1, Nat.le_refl _, by omega, by omega, by go_num, HR1⟩
  case round =>
    obtain ⟨rfl, j, hij, hj21, hjt, rfl, HJ⟩ := hrel
    by_cases hbig : i + 20 < j
    · have HB : Hid (SG = badSg t i) := by
        show _ = _; rw [HSG.out]; unfold nameSg
        rw [if_neg (by have := HR.out; have := HJ.out; omega)]
      clear HSG HJ HR HR1
      by_cases hlt : j < t.size
      · go_wp2_with (go_at_call 90; refine (Calls.mono HBAD.out ?_); rintro r w2 ⟨⟨x, rfl⟩, hs2, hf2⟩; have HS2 : Hid _ := hs2; have HF2 : Hid _ := hf2; clear hs2 hf2)
        refine bodyPost_ret_by (results_none rfl _ _ _) rfl ?_
        exact ⟨⟨_, rfl⟩, by rw [HB.out]; exact HS2.out, HF2.out⟩
      · go_wp2_with (go_at_call 90; refine (Calls.mono HBAD.out ?_); rintro r w2 ⟨⟨x, rfl⟩, hs2, hf2⟩; have HS2 : Hid _ := hs2; have HF2 : Hid _ := hf2; clear hs2 hf2)
        refine bodyPost_ret_by (results_none rfl _ _ _) rfl ?_
        exact ⟨⟨_, rfl⟩, by rw [HB.out]; exact HS2.out, HF2.out⟩
    · by_cases hlt : j < t.size
      · have hcj := t[j].toNat_lt
        have HBJ := HBEL.out t[j]
        cases hpj : isWord t[j] with
        | true =>
          rw [hpj] at HBJ
          have HJ' : Hid (j + 1 + run t isWord (j + 1) = R) := by have := HJ.out; rw [run_yes hlt hpj] at this; show _ = _; omega
          clear hpj HJ HBAD HPC HSG HR HR1
          go_wp2_with (go_at_call 88; refine (HBJ _).mono ?_; rintro e w' ⟨rfl, rfl⟩)
          go_roundw
          case rel => exact ⟨trivial, j + 1, by omega, by omega, by omega, by go_num, HJ'⟩
          case measure => simp [intOf]; omega
        | false =>
          rw [hpj] at HBJ
          obtain rfl : j = R := by have := HJ.out; rw [run_no hlt hpj] at this; omega
          have HB : Hid (SG = mkSg t kind (t.extract i j) 0 i j) := by
            show _ = _; rw [HSG.out]; unfold nameSg
            rw [if_pos (by have := HR.out; omega), HR.out]
          have HPJ : Hid _ := HPC.out j (by omega) hjt
          clear hpj HJ HBAD HPC HSG HR HR1
          go_wp2_with (first | (go_at_call 88; refine (HBJ _).mono ?_; rintro e w' ⟨rfl, rfl⟩) | (go_at_call 83; refine (Calls.mono HPJ.out ?_); rintro r w2 ⟨⟨x, rfl⟩, hs2, hf2⟩; have HS2 : Hid _ := hs2; have HF2 : Hid _ := hf2; clear hs2 hf2))
          refine bodyPost_end (results_none rfl _ _ _) rfl ?_
          exact ⟨⟨_, rfl⟩, by rw [HB.out]; exact HS2.out, HF2.out⟩
      · obtain rfl : j = R := by have := HJ.out; rw [run_end hlt] at this; omega
        have HB : Hid (SG = mkSg t kind (t.extract i j) 0 i j) := by
          show _ = _; rw [HSG.out]; unfold nameSg
          rw [if_pos (by have := HR.out; omega), HR.out]
        have HPJ : Hid _ := HPC.out j (by omega) hjt
        clear HJ HBAD HPC HSG HR HR1
        go_wp2_with (go_at_call 83; refine (Calls.mono HPJ.out ?_); rintro r w2 ⟨⟨x, rfl⟩, hs2, hf2⟩; have HS2 : Hid _ := hs2; have HF2 : Hid _ := hf2; clear hs2 hf2)
        refine bodyPost_end (results_none rfl _ _ _) rfl ?_
        exact ⟨⟨_, rfl⟩, by rw [HB.out]; exact HS2.out, HF2.out⟩

set_option maxHeartbeats 1000000 in
set_option maxRecDepth 20000 in
theorem take_sym (N g : Nat) (t : ByteArray) (mv : Value) (L : List Sg) (b i : Nat) (kind : Int) (w : World) (h : SnAt N g t mv w L b) (hs : (t.size : Int) ≤ 3000) (hL : L.length + t.size ≤ 3000 + i) (hi : i < t.size) (hp : isSym t[i] = true) (hasc : t[i].toNat < 128) (hT : ∀ w', Fr N g w w' → Lib.Utf8Tabs 3 4 w') :
    Calls Tryz.prog 87 #[.pointer (some ⟨g, 0, none⟩), .int .i64 kind, .int .i64 (i : Int), .func (.func 89) #[] #[]] w (Res N g t mv (L ++ [(nameSg t kind isSym i).1]) (nameSg t kind isSym i).2 w) := by
  obtain ⟨c0, _, _, _, hgN, hNw⟩ := h.cells
  have HBAD : Hid (Calls Tryz.prog 90 #[.pointer (some ⟨g, 0, none⟩), .int .i64 (i : Int)] w (Res N g t mv (L ++ [(badSg t i).1]) (i + 1) w)) := by
    have := take_bad N g t mv L b i w h hs hL hi hT
    rw [decode_ascii t i hi hasc] at this
    exact this
  obtain ⟨R, hR⟩ : ∃ R, R = i + run t isSym i := ⟨_, rfl⟩
  have hRl : R ≤ t.size := by have := run_le t isSym i; omega
  have hiR : i + 1 ≤ R := by rw [hR, run_yes hi hp]; omega
  have HR : Hid (i + run t isSym i = R) := hR.symm
  have HR1 : Hid (i + 1 + run t isSym (i + 1) = R) := by have h1 := run_yes hi hp; show _ = _; omega
  have HPC : Hid (∀ e, i ≤ e → e ≤ t.size → Calls Tryz.prog 83 #[.pointer (some ⟨g, 0, none⟩), .int .i64 kind, .int .i64 (i : Int), .int .i64 (e : Int)] w (Res N g t mv (L ++ [(mkSg t kind (t.extract i e) 0 i e).1]) e w)) := fun e h1 h2 => add_piece N g t mv L b kind i e w h (by omega) hs h1 h2
  have HBEL : Hid (∀ (c : UInt8) (w : World), Calls Tryz.prog 89 #[.int .u8 (c.toNat : Int)] w fun e w' => e = .returned (.bool (isSym c)) ∧ w' = w) := impl_sym
  obtain ⟨SG, hSG⟩ : ∃ SG, SG = nameSg t kind isSym i := ⟨_, rfl⟩
  rw [← hSG]
  have HSG : Hid (SG = nameSg t kind isSym i) := hSG
  clear h hT hp hasc hR hSG
  go_enter Tryz.func87, Tryz.ntmps87
  go_wp2
  go_loopw [8] (fun vj wr => wr = w ∧ ∃ j : Nat, i + 1 ≤ j ∧ j ≤ i + 21 ∧ j ≤ t.size ∧ vj = .int .i64 (j : Int) ∧ Hid (j + run t isSym j = R)) (fun vj _ => t.size - (intOf vj).toNat)
  case atStart => exact ⟨rfl, i + 1, Nat.le_refl _, by omega, by omega, by go_num, HR1⟩
  case round =>
    obtain ⟨rfl, j, hij, hj21, hjt, rfl, HJ⟩ := hrel
    by_cases hbig : i + 20 < j
    · have HB : Hid (SG = badSg t i) := by
        show _ = _; rw [HSG.out]; unfold nameSg
        rw [if_neg (by have := HR.out; have := HJ.out; omega)]
      clear HSG HJ HR HR1
      by_cases hlt : j < t.size
      · go_wp2_with (go_at_call 90; refine (Calls.mono HBAD.out ?_); rintro r w2 ⟨⟨x, rfl⟩, hs2, hf2⟩; have HS2 : Hid _ := hs2; have HF2 : Hid _ := hf2; clear hs2 hf2)
        refine bodyPost_ret_by (results_none rfl _ _ _) rfl ?_
        exact ⟨⟨_, rfl⟩, by rw [HB.out]; exact HS2.out, HF2.out⟩
      · go_wp2_with (go_at_call 90; refine (Calls.mono HBAD.out ?_); rintro r w2 ⟨⟨x, rfl⟩, hs2, hf2⟩; have HS2 : Hid _ := hs2; have HF2 : Hid _ := hf2; clear hs2 hf2)
        refine bodyPost_ret_by (results_none rfl _ _ _) rfl ?_
        exact ⟨⟨_, rfl⟩, by rw [HB.out]; exact HS2.out, HF2.out⟩
    · by_cases hlt : j < t.size
      · have hcj := t[j].toNat_lt
        have HBJ := HBEL.out t[j]
        cases hpj : isSym t[j] with
        | true =>
          rw [hpj] at HBJ
          have HJ' : Hid (j + 1 + run t isSym (j + 1) = R) := by have := HJ.out; rw [run_yes hlt hpj] at this; show _ = _; omega
          clear hpj HJ HBAD HPC HSG HR HR1
          go_wp2_with (go_at_call 89; refine (HBJ _).mono ?_; rintro e w' ⟨rfl, rfl⟩)
          go_roundw
          case rel => exact ⟨trivial, j + 1, by omega, by omega, by omega, by go_num, HJ'⟩
          case measure => simp [intOf]; omega
        | false =>
          rw [hpj] at HBJ
          obtain rfl : j = R := by have := HJ.out; rw [run_no hlt hpj] at this; omega
          have HB : Hid (SG = mkSg t kind (t.extract i j) 0 i j) := by
            show _ = _; rw [HSG.out]; unfold nameSg
            rw [if_pos (by have := HR.out; omega), HR.out]
          have HPJ : Hid _ := HPC.out j (by omega) hjt
          clear hpj HJ HBAD HPC HSG HR HR1
          go_wp2_with (first | (go_at_call 89; refine (HBJ _).mono ?_; rintro e w' ⟨rfl, rfl⟩) | (go_at_call 83; refine (Calls.mono HPJ.out ?_); rintro r w2 ⟨⟨x, rfl⟩, hs2, hf2⟩; have HS2 : Hid _ := hs2; have HF2 : Hid _ := hf2; clear hs2 hf2))
          refine bodyPost_end (results_none rfl _ _ _) rfl ?_
          exact ⟨⟨_, rfl⟩, by rw [HB.out]; exact HS2.out, HF2.out⟩
      · obtain rfl : j = R := by have := HJ.out; rw [run_end hlt] at this; omega
        have HB : Hid (SG = mkSg t kind (t.extract i j) 0 i j) := by
          show _ = _; rw [HSG.out]; unfold nameSg
          rw [if_pos (by have := HR.out; omega), HR.out]
        have HPJ : Hid _ := HPC.out j (by omega) hjt
        clear HJ HBAD HPC HSG HR HR1
        go_wp2_with (go_at_call 83; refine (Calls.mono HPJ.out ?_); rintro r w2 ⟨⟨x, rfl⟩, hs2, hf2⟩; have HS2 : Hid _ := hs2; have HF2 : Hid _ := hf2; clear hs2 hf2)
        refine bodyPost_end (results_none rfl _ _ _) rfl ?_
        exact ⟨⟨_, rfl⟩, by rw [HB.out]; exact HS2.out, HF2.out⟩
end Go.Proofs.YtenmhpalpfppmaoGreatDoor

/- impl.nameOk. -/
namespace Go.Proofs.YtenmhpalpfppmaoGreatDoor
open Go.RowKit

theorem implName (s : ByteArray) (hs : s.size ≤ maxLen) (w : World) :
    Calls Tryz.prog 51 #[.string s] w fun e w' => e = .returned (.bool (nameOk s)) ∧ w' = w := by
  unfold maxLen at hs
  by_cases h1 : s.size < 1
  · have HF : Hid (nameOk s = false) := by
      show _ = _
      unfold nameOk
      rw [Bool.and_eq_false_iff]; right
      exact decide_eq_false (by omega)
    go_enter Tryz.func51, Tryz.ntmps51
    go_wp2
    go_ret
    exact ⟨by rw [HF.out]; rfl, rfl⟩
  by_cases h20 : 20 < s.size
  · have HF : Hid (nameOk s = false) := by
      show _ = _
      unfold nameOk
      rw [Bool.and_eq_false_iff]; right
      exact decide_eq_false (by omega)
    go_enter Tryz.func51, Tryz.ntmps51
    go_wp2
    go_ret
    exact ⟨by rw [HF.out]; rfl, rfl⟩
  go_enter Tryz.func51, Tryz.ntmps51
  go_wp2
  go_loopw [3] (fun i wr => wr = w ∧ ∃ k : Nat, k ≤ s.size ∧ i = .int .i64 (k : Int) ∧ Hid ((s.data.toList.take k).all charOk = true)) (fun i _ => s.size - (intOf i).toNat)
  case atStart => exact ⟨rfl, 0, by omega, rfl, by show _ = _; simp⟩
  case round =>
    obtain ⟨rfl, k, hk, rfl, hp⟩ := hrel
    by_cases hlt : k < s.size
    · have hc := s[k].toNat_lt
      by_cases hb : charOk s[k] = true
      · have hp' : Hid ((s.data.toList.take (k + 1)).all charOk = true) := by show _ = _; rw [take_at s k hlt, List.all_append, hp.out]; simp [hb]
        have h4 : 33 ≤ s[k].toNat ∧ s[k].toNat ≤ 126 ∧ s[k].toNat ≠ 39 ∧ s[k].toNat ≠ 34 := by
          unfold charOk at hb; simp at hb; omega
        obtain ⟨b1, b2, b3, b4⟩ := h4
        have e3 : ((s[k].toNat : Int) == 39) = false := beq_eq_false_iff_ne.2 (by omega)
        have e4 : ((s[k].toNat : Int) == 34) = false := beq_eq_false_iff_ne.2 (by omega)
        clear hp hb
        go_wp2
        go_roundw
        case rel => exact ⟨trivial, k + 1, by omega, by go_num, hp'⟩
        case measure => simp [intOf]; omega
      · have hf : nameOk s = false := by
          unfold nameOk
          rw [Bool.and_eq_false_iff]; left
          rw [List.all_eq_false]
          exact ⟨s[k], mem_s s k hlt, hb⟩
        have HF : Hid _ := hf
        have h4 : s[k].toNat < 33 ∨ (33 ≤ s[k].toNat ∧ 126 < s[k].toNat) ∨ s[k].toNat = 39 ∨ s[k].toNat = 34 := by
          unfold charOk at hb; simp at hb; omega
        clear hp hb hf
        rcases h4 with h4 | ⟨h4, h5⟩ | h4 | h4
        all_goals go_wp2; go_ret; exact ⟨by rw [HF.out]; rfl, rfl⟩
    · have hf : nameOk s = true := by
        have := hp.out
        rw [List.take_of_length_le (by simp; omega)] at this
        unfold nameOk
        rw [this, Bool.true_and]
        exact decide_eq_true (by omega)
      have HF : Hid _ := hf
      clear hp hf
      go_wp2
      go_ret
      exact ⟨by rw [HF.out]; rfl, rfl⟩

end Go.Proofs.YtenmhpalpfppmaoGreatDoor

/- The code's signer: takeNumber, takeQuoted. -/
namespace Go.Proofs.YtenmhpalpfppmaoGreatDoor
open Go.RowKit

set_option maxHeartbeats 1000000 in
set_option maxRecDepth 20000 in
theorem take_number (N g : Nat) (t : ByteArray) (mv : Value) (L : List Sg) (b i : Nat) (w : World) (h : SnAt N g t mv w L b) (hs : (t.size : Int) ≤ 3000) (hL : L.length + t.size ≤ 3000 + i) (hi : i < t.size) (hasc : t[i].toNat < 128) (hT : ∀ w', Fr N g w w' → Lib.Utf8Tabs 3 4 w') :
    Calls Tryz.prog 86 #[.pointer (some ⟨g, 0, none⟩), .int .i64 (i : Int)] w (Res N g t mv (L ++ [(numSg t i).1]) (numSg t i).2 w) := by
  obtain ⟨c0, _, _, _, hgN, hNw⟩ := h.cells
  have HBAD : Hid (Calls Tryz.prog 90 #[.pointer (some ⟨g, 0, none⟩), .int .i64 (i : Int)] w (Res N g t mv (L ++ [(badSg t i).1]) (i + 1) w)) := by
    have := take_bad N g t mv L b i w h hs hL hi hT
    rw [decode_ascii t i hi hasc] at this
    exact this
  have HADD : Hid (∀ (a : Int) (j : Nat), Calls Tryz.prog 94 #[.pointer (some ⟨g, 0, none⟩), .agg #[.int .i64 3, .string ⟨#[]⟩, .int .i64 a, .int .i64 (i : Int), .bool false], .int .i64 (j : Int)] w fun r w' => (∃ x, r = .returned x) ∧ SnAt N g t mv w' (L ++ [(mkSg t 3 ⟨#[]⟩ a i j).1]) j ∧ Fr N g w w') := fun a j => add_any N g t mv L b 3 ⟨#[]⟩ a i j _ w h (by omega) rfl
  obtain ⟨SG, hSG⟩ : ∃ SG, SG = numSg t i := ⟨_, rfl⟩
  rw [← hSG]
  have HSG : Hid (SG = numSg t i) := hSG
  clear h hT hasc hSG
  go_enter Tryz.func86, Tryz.ntmps86
  go_wp2
  go_loopw [4, 5] (fun va vj wr => wr = w ∧ ∃ (j : Nat) (a : Int), i ≤ j ∧ j ≤ t.size ∧ vj = .int .i64 (j : Int) ∧ va = .int .i64 a ∧ 0 ≤ a ∧ a ≤ 999999999 ∧ Hid (NumAt t i j a)) (fun _ vj _ => t.size - (intOf vj).toNat)
  case atStart => exact ⟨rfl, i, 0, Nat.le_refl _, by omega, rfl, rfl, by omega, by omega, NumAt.start t i⟩
  case round =>
    obtain ⟨rfl, j, a, hij, hj, rfl, rfl, ha0, ha1, HN⟩ := hrel
    by_cases hlt : j < t.size
    · have hcj := t[j].toNat_lt
      cases hf : isFig t[j] with
      | true =>
        have hfg : 48 ≤ t[j].toNat ∧ t[j].toNat ≤ 57 := by unfold isFig at hf; exact of_decide_eq_true hf
        obtain ⟨hf1, hf2⟩ := hfg
        have HN' : Hid (NumAt t i (j + 1) (a * 10 + ((t[j].toNat : Int) - 48))) := by
          have := HN.out.next ha1 hij hlt hf
          rw [show 10 * a + (t[j].toNat : Int) - 48 = a * 10 + ((t[j].toNat : Int) - 48) by omega] at this
          exact this
        by_cases hm : a * 10 + ((t[j].toNat : Int) - 48) ≤ 999999999
        · clear hf HN HSG HBAD HADD
          go_wp2
          go_roundw
          case rel => exact ⟨trivial, j + 1, _, by omega, by omega, by go_num, rfl, by omega, by omega, HN'⟩
          case measure => simp [intOf]; omega
        · have HB : Hid (SG = badSg t i) := by show _ = _; rw [HSG.out]; exact HN'.out.over (by omega)
          clear hf HN HN' HSG HADD
          go_wp2_with (go_at_call 90; refine (Calls.mono HBAD.out ?_); rintro r w2 ⟨⟨x, rfl⟩, hs2, hf2⟩; have HS2 : Hid _ := hs2; have HF2 : Hid _ := hf2; clear hs2 hf2)
          refine bodyPost_ret_by (results_none rfl _ _ _) rfl ?_
          exact ⟨⟨_, rfl⟩, by rw [HB.out]; exact HS2.out, HF2.out⟩
      | false =>
        have HB : Hid (SG = mkSg t 3 ⟨#[]⟩ a i j) := by show _ = _; rw [HSG.out]; exact HN.out.done ha1 hij (fun _ => hf)
        have hnf : ¬ (48 ≤ t[j].toNat ∧ t[j].toNat ≤ 57) := by unfold isFig at hf; exact of_decide_eq_false hf
        have HAJ : Hid _ := HADD.out a j
        clear hf HN HSG HBAD HADD
        by_cases h48 : 48 ≤ t[j].toNat
        · have h57 : ¬ t[j].toNat ≤ 57 := fun h => hnf ⟨h48, h⟩
          clear hnf
          go_wp2_with (go_at_call 94; refine (Calls.mono HAJ.out ?_); rintro r w2 ⟨⟨x, rfl⟩, hs2, hf2⟩; have HS2 : Hid _ := hs2; have HF2 : Hid _ := hf2; clear hs2 hf2)
          refine bodyPost_end (results_none rfl _ _ _) rfl ?_
          exact ⟨⟨_, rfl⟩, by rw [HB.out]; exact HS2.out, HF2.out⟩
        · clear hnf
          go_wp2_with (go_at_call 94; refine (Calls.mono HAJ.out ?_); rintro r w2 ⟨⟨x, rfl⟩, hs2, hf2⟩; have HS2 : Hid _ := hs2; have HF2 : Hid _ := hf2; clear hs2 hf2)
          refine bodyPost_end (results_none rfl _ _ _) rfl ?_
          exact ⟨⟨_, rfl⟩, by rw [HB.out]; exact HS2.out, HF2.out⟩
    · have HB : Hid (SG = mkSg t 3 ⟨#[]⟩ a i j) := by show _ = _; rw [HSG.out]; exact HN.out.done ha1 hij (fun h => absurd h hlt)
      have HAJ : Hid _ := HADD.out a j
      clear HN HSG HBAD HADD
      go_wp2_with (go_at_call 94; refine (Calls.mono HAJ.out ?_); rintro r w2 ⟨⟨x, rfl⟩, hs2, hf2⟩; have HS2 : Hid _ := hs2; have HF2 : Hid _ := hf2; clear hs2 hf2)
      refine bodyPost_end (results_none rfl _ _ _) rfl ?_
      exact ⟨⟨_, rfl⟩, by rw [HB.out]; exact HS2.out, HF2.out⟩

set_option maxHeartbeats 1000000 in
set_option maxRecDepth 20000 in
theorem take_quoted (N g : Nat) (t : ByteArray) (mv : Value) (L : List Sg) (b i : Nat) (w : World) (h : SnAt N g t mv w L b) (hs : (t.size : Int) ≤ 3000) (hL : L.length + t.size ≤ 3000 + i) (hi : i < t.size) (hasc : t[i].toNat < 128) (hT : ∀ w', Fr N g w w' → Lib.Utf8Tabs 3 4 w') :
    Calls Tryz.prog 85 #[.pointer (some ⟨g, 0, none⟩), .int .i64 (i : Int)] w (Res N g t mv (L ++ [(quotSg t i).1]) (quotSg t i).2 w) := by
  obtain ⟨c0, _, _, _, hgN, hNw⟩ := h.cells
  have HBAD : Hid (Calls Tryz.prog 90 #[.pointer (some ⟨g, 0, none⟩), .int .i64 (i : Int)] w (Res N g t mv (L ++ [(badSg t i).1]) (i + 1) w)) := by
    have := take_bad N g t mv L b i w h hs hL hi hT
    rw [decode_ascii t i hi hasc] at this
    exact this
  have hrl := run_le t not39 (i + 1)
  obtain ⟨r, hr⟩ : ∃ r, r = run t not39 (i + 1) := ⟨_, rfl⟩
  have HIX : Lib.indexByte (t.extract (i + 1) t.size).data.toList 39 = if i + 1 + r < t.size then (r : Int) else -1 := by
    rw [ext_list, hr]
    refine index_run t 39 not39 (fun x => ?_) _ (i + 1) (Nat.le_refl _)
    unfold not39
    rw [Bool.eq_iff_iff]
    simp [← UInt8.toNat_inj]
  have HX := strings_index (t.extract (i + 1) t.size) 39
  have e39 : (39 : Int).toNat.toUInt8 = 39 := rfl
  rw [e39, HIX] at HX
  have hq : quotSg t i = if i + 1 + r < t.size ∧ nameOk (t.extract (i + 1) (i + 1 + r)) = true then mkSg t 1 (t.extract (i + 1) (i + 1 + r)) 0 i (i + r + 2) else badSg t i := by unfold quotSg; rw [← hr]
  rw [← hr] at hrl
  obtain ⟨SG, hSG⟩ : ∃ SG, SG = quotSg t i := ⟨_, rfl⟩
  rw [← hSG]
  rw [← hSG] at hq
  have HS : Hid (SnAt N g t mv w L b) := h
  have HL : Hid (L.length ≤ 3000) := by show _ ≤ _; omega
  clear h hT hasc hSG HIX hr e39 hL
  by_cases hc : i + 1 + r < t.size
  · rw [if_pos hc] at HX
    replace HX : Hid _ := HX
    have hsz : (t.extract (i + 1) (i + 1 + r)).size ≤ 1048576 := by rw [ByteArray.size_extract]; omega
    have HNM : Hid (∀ w, Calls Tryz.prog 51 #[.string (t.extract (i + 1) (i + 1 + r))] w fun e w' => e = .returned (.bool (nameOk (t.extract (i + 1) (i + 1 + r)))) ∧ w' = w) := implName _ (by unfold maxLen; omega)
    cases hn : nameOk (t.extract (i + 1) (i + 1 + r)) with
    | true =>
      rw [hn] at HNM
      have HB : Hid (SG = mkSg t 1 (t.extract (i + 1) (i + 1 + r)) 0 i (i + r + 2)) := by show _ = _; rw [hq, if_pos ⟨hc, hn⟩]
      have HCL : Hid _ := clone_any (t.extract (i + 1) (i + 1 + r)) w hsz
      clear hq hn HBAD hsz
      go_enter Tryz.func85, Tryz.ntmps85
      go_wp2_with (first
        | (go_at_call 93; refine (HX.out _).mono ?_; rintro e w' ⟨rfl, rfl⟩)
        | (go_at_call 51; refine (HNM.out _).mono ?_; rintro e w' ⟨rfl, rfl⟩)
        | (go_at_call 67; go_loud (refine (Calls.mono HCL.out ?_)); rintro e w1 ⟨rfl, hb1⟩; have HB1 : Hid (Below _ _ w1) := hb1; clear hb1; have HA : Hid _ := add_any N g t mv L b 1 (t.extract (i + 1) (i + 1 + r)) 0 i (i + r + 2) _ w1 (HS.out.keep HB1.out) HL.out rfl)
        | (go_at_call 94; go_loud (refine (Calls.mono HA.out ?_)); rintro e w2 ⟨⟨x, rfl⟩, hs2, hf2⟩; have HS2 : Hid _ := hs2; have HF2 : Hid _ := hf2; clear hs2 hf2))
      refine bodyPost_end (results_none rfl _ _ _) rfl ?_
      exact ⟨⟨_, rfl⟩, by rw [HB.out]; exact HS2.out, (Fr.of_below HB1.out hNw).trans HF2.out⟩
    | false =>
      rw [hn] at HNM
      have HB : Hid (SG = badSg t i) := by show _ = _; rw [hq, if_neg (fun h => by rw [hn] at h; exact Bool.noConfusion h.2)]
      clear hq hn hsz HS HL
      go_enter Tryz.func85, Tryz.ntmps85
      go_wp2_with (first
        | (go_at_call 93; refine (HX.out _).mono ?_; rintro e w' ⟨rfl, rfl⟩)
        | (go_at_call 51; refine (HNM.out _).mono ?_; rintro e w' ⟨rfl, rfl⟩)
        | (go_at_call 90; go_loud (refine (Calls.mono HBAD.out ?_)); rintro e w2 ⟨⟨x, rfl⟩, hs2, hf2⟩; have HS2 : Hid _ := hs2; have HF2 : Hid _ := hf2; clear hs2 hf2))
      refine bodyPost_ret_by (results_none rfl _ _ _) rfl ?_
      exact ⟨⟨_, rfl⟩, by rw [HB.out]; exact HS2.out, HF2.out⟩
  · rw [if_neg hc] at HX
    replace HX : Hid _ := HX
    have HB : Hid (SG = badSg t i) := by show _ = _; rw [hq, if_neg (fun h => hc h.1)]
    clear hq HS HL hc hrl
    go_enter Tryz.func85, Tryz.ntmps85
    go_wp2_with (first
      | (go_at_call 93; refine (HX.out _).mono ?_; rintro e w' ⟨rfl, rfl⟩)
      | (go_at_call 90; go_loud (refine (Calls.mono HBAD.out ?_)); rintro e w2 ⟨⟨x, rfl⟩, hs2, hf2⟩; have HS2 : Hid _ := hs2; have HF2 : Hid _ := hf2; clear hs2 hf2))
    refine bodyPost_ret_by (results_none rfl _ _ _) rfl ?_
    exact ⟨⟨_, rfl⟩, by rw [HB.out]; exact HS2.out, HF2.out⟩
end Go.Proofs.YtenmhpalpfppmaoGreatDoor

/- The code's signer: endsAt, wordByte, takeName. -/
import Derived.Test.YtbkjcccbjnehbanGreatDoorSgJ
namespace Go.Proofs.YtbkjcccbjnehbanGreatDoor
open Go.RowKit

theorem i_word (c : UInt8) (w : World) : Calls Tryz.prog 52 #[.int .u8 (c.toNat : Int)] w fun e w' => e = .returned (.bool (isWord c)) ∧ w' = w := by
  have hb := c.toNat_lt
  have hcs : (97 ≤ c.toNat ∧ c.toNat ≤ 122) ∨ (65 ≤ c.toNat ∧ c.toNat ≤ 90) ∨ (48 ≤ c.toNat ∧ c.toNat ≤ 57) ∨ c.toNat = 95 ∨ c.toNat < 48 ∨ (57 < c.toNat ∧ c.toNat < 65) ∨ (90 < c.toNat ∧ c.toNat < 95) ∨ c.toNat = 96 ∨ 122 < c.toNat := by omega
  have hw : isWord c = decide ((97 ≤ c.toNat ∧ c.toNat ≤ 122) ∨ (65 ≤ c.toNat ∧ c.toNat ≤ 90) ∨ c.toNat = 95 ∨ (48 ≤ c.toNat ∧ c.toNat ≤ 57)) := by
    unfold isWord isSmall isGreat isFig
    rw [Bool.eq_iff_iff]; simp; omega
  rw [hw]
  clear hw
  rcases hcs with ⟨h1, h2⟩ | ⟨h1, h2⟩ | ⟨h1, h2⟩ | h1 | h1 | ⟨h1, h2⟩ | ⟨h1, h2⟩ | h1 | h1
  · rw [decide_eq_true (by omega)]
    go_enter Tryz.func52, Tryz.ntmps52
    go_wp2
    go_ret
    exact ⟨by first | rfl | exact ret_b (decide_eq_true (by omega)) | exact ret_b (decide_eq_false (by omega)) | exact ret_b (beq_iff_eq.2 (by omega)) | exact ret_b (beq_eq_false_iff_ne.2 (by omega)), rfl⟩
  · rw [decide_eq_true (by omega)]
    go_enter Tryz.func52, Tryz.ntmps52
    go_wp2
    go_ret
    exact ⟨by first | rfl | exact ret_b (decide_eq_true (by omega)) | exact ret_b (decide_eq_false (by omega)) | exact ret_b (beq_iff_eq.2 (by omega)) | exact ret_b (beq_eq_false_iff_ne.2 (by omega)), rfl⟩
  · rw [decide_eq_true (by omega)]
    go_enter Tryz.func52, Tryz.ntmps52
    go_wp2
    go_ret
    exact ⟨by first | rfl | exact ret_b (decide_eq_true (by omega)) | exact ret_b (decide_eq_false (by omega)) | exact ret_b (beq_iff_eq.2 (by omega)) | exact ret_b (beq_eq_false_iff_ne.2 (by omega)), rfl⟩
  · rw [decide_eq_true (by omega)]
    go_enter Tryz.func52, Tryz.ntmps52
    go_wp2
    go_ret
    exact ⟨by first | rfl | exact ret_b (decide_eq_true (by omega)) | exact ret_b (decide_eq_false (by omega)) | exact ret_b (beq_iff_eq.2 (by omega)) | exact ret_b (beq_eq_false_iff_ne.2 (by omega)), rfl⟩
  · rw [decide_eq_false (by omega)]
    have e1 : ((c.toNat : Int) == 95) = false := beq_eq_false_iff_ne.2 (by omega)
    go_enter Tryz.func52, Tryz.ntmps52
    go_wp2
    go_ret
    exact ⟨by first | rfl | exact ret_b (decide_eq_true (by omega)) | exact ret_b (decide_eq_false (by omega)) | exact ret_b (beq_iff_eq.2 (by omega)) | exact ret_b (beq_eq_false_iff_ne.2 (by omega)), rfl⟩
  · rw [decide_eq_false (by omega)]
    have d57 : ¬ (c.toNat : Int) ≤ 57 := by omega
    have e1 : ((c.toNat : Int) == 95) = false := beq_eq_false_iff_ne.2 (by omega)
    go_enter Tryz.func52, Tryz.ntmps52
    go_wp2
    go_ret
    exact ⟨by first | rfl | exact ret_b (decide_eq_true (by omega)) | exact ret_b (decide_eq_false (by omega)) | exact ret_b (beq_iff_eq.2 (by omega)) | exact ret_b (beq_eq_false_iff_ne.2 (by omega)), rfl⟩
  · rw [decide_eq_false (by omega)]
    have d57 : ¬ (c.toNat : Int) ≤ 57 := by omega
    have d90 : ¬ (c.toNat : Int) ≤ 90 := by omega
    have e1 : ((c.toNat : Int) == 95) = false := beq_eq_false_iff_ne.2 (by omega)
    go_enter Tryz.func52, Tryz.ntmps52
    go_wp2
    go_ret
    exact ⟨by first | rfl | exact ret_b (decide_eq_true (by omega)) | exact ret_b (decide_eq_false (by omega)) | exact ret_b (beq_iff_eq.2 (by omega)) | exact ret_b (beq_eq_false_iff_ne.2 (by omega)), rfl⟩
  · rw [decide_eq_false (by omega)]
    have d57 : ¬ (c.toNat : Int) ≤ 57 := by omega
    have d90 : ¬ (c.toNat : Int) ≤ 90 := by omega
    have e1 : ((c.toNat : Int) == 95) = false := beq_eq_false_iff_ne.2 (by omega)
    go_enter Tryz.func52, Tryz.ntmps52
    go_wp2
    go_ret
    exact ⟨by first | rfl | exact ret_b (decide_eq_true (by omega)) | exact ret_b (decide_eq_false (by omega)) | exact ret_b (beq_iff_eq.2 (by omega)) | exact ret_b (beq_eq_false_iff_ne.2 (by omega)), rfl⟩
  · rw [decide_eq_false (by omega)]
    have d57 : ¬ (c.toNat : Int) ≤ 57 := by omega
    have d90 : ¬ (c.toNat : Int) ≤ 90 := by omega
    have d122 : ¬ (c.toNat : Int) ≤ 122 := by omega
    have e1 : ((c.toNat : Int) == 95) = false := beq_eq_false_iff_ne.2 (by omega)
    go_enter Tryz.func52, Tryz.ntmps52
    go_wp2
    go_ret
    exact ⟨by first | rfl | exact ret_b (decide_eq_true (by omega)) | exact ret_b (decide_eq_false (by omega)) | exact ret_b (beq_iff_eq.2 (by omega)) | exact ret_b (beq_eq_false_iff_ne.2 (by omega)), rfl⟩

theorem blank_index (c : UInt8) : decide (0 ≤ Lib.indexByte [32, 9, 10, 37] c) = (isBlank c || decide (c.toNat = 37)) := by
  rw [← Lib.contains_iff_indexByte, Bool.eq_iff_iff]
  unfold isBlank
  simp [← UInt8.toNat_inj]
  omega

set_option maxHeartbeats 1000000 in
theorem ends_at (N g : Nat) (t : ByteArray) (mv : Value) (L : List Sg) (b i : Nat) (w : World) (h : SnAt N g t mv w L b) (hs : (t.size : Int) ≤ 3000) (hi : i < t.size) (h46 : t[i].toNat = 46) :
    Calls Tryz.prog 48 #[.pointer (some ⟨g, 0, none⟩), .int .i64 (i : Int)] w fun r w' => r = .returned (.bool (isEnd t i)) ∧ w' = w := by
  obtain ⟨c0, _, _, _, hgN, hNw⟩ := h.cells
  clear h
  by_cases hi0 : i = 0
  · have hA : aheadOk t i := Or.inl (decide_eq_true hi0)
    have e0 : ¬ (0 : Int) < (i : Int) := by omega
    by_cases he : i + 1 = t.size
    · have HR : Hid (isEnd t (i) = true) := isEnd_last hi h46 hA he
      have e1 : ((i : Int) + 1 == (t.size : Int)) = true := by rw [← he]; simp
      clear he hA h46 hi0
      go_enter Tryz.func48, Tryz.ntmps48
      go_wp2
      go_ret
      exact ⟨by rw [HR.out]; rfl, rfl⟩
    · have hl : i + 1 < t.size := by omega
      have HR : Hid (isEnd t (i) = decide (0 ≤ Lib.indexByte [32, 9, 10, 37] t[i + 1])) := by show _ = _; rw [blank_index]; exact isEnd_mid hi h46 hA hl
      have e1 : ((i : Int) + 1 == (t.size : Int)) = false := beq_eq_false_iff_ne.2 (by omega)
      have hc1 := t[i + 1].toNat_lt
      have HX : Hid (∀ w, Calls Tryz.prog 68 #[.string ⟨#[32, 9, 10, 37]⟩, .int .u8 (t[i + 1].toNat : Int)] w fun e w' => e = .returned (.int .i64 (Lib.indexByte [32, 9, 10, 37] t[i + 1])) ∧ w' = w) := fun w => by
        have := strings_index ⟨#[32, 9, 10, 37]⟩ (t[i + 1].toNat : Int) w
        rw [u8_cast] at this; exact this
      generalize Lib.indexByte [32, 9, 10, 37] t[i + 1] = X at *
      clear he hA h46 hi0
      go_enter Tryz.func48, Tryz.ntmps48
      go_wp2_with (first | (go_at_call 68; refine (HX.out _).mono ?_; rintro e w' ⟨rfl, rfl⟩))
      go_ret
      exact ⟨by rw [HR.out]; rfl, rfl⟩
  · obtain ⟨i', rfl⟩ : ∃ i', i = i' + 1 := ⟨i - 1, by omega⟩
    have h1' : i' < t.size := by omega
    have e0 : (0 : Int) < ((i' + 1 : Nat) : Int) := by omega
    have hc' := t[i'].toNat_lt
    cases hsy : isSym t[i'] with
    | true =>
      have HR : Hid (isEnd t (i' + 1) = false) := isEnd_ahead hi0 h1' hsy
      have HS : Hid (∀ w, Calls Tryz.prog 53 #[.int .u8 (t[i'].toNat : Int)] w fun e w' => e = .returned (.bool true) ∧ w' = w) := fun w => by have := impl_sym t[i'] w; rw [hsy] at this; exact this
      clear hsy hi0 h46
      go_enter Tryz.func48, Tryz.ntmps48
      go_wp2_with (go_at_call 53; refine (HS.out _).mono ?_; rintro e w' ⟨rfl, rfl⟩)
      go_ret
      exact ⟨by rw [HR.out]; rfl, rfl⟩
    | false =>
      have hA : aheadOk t (i' + 1) := Or.inr ⟨h1', hsy⟩
      have HS : Hid (∀ w, Calls Tryz.prog 53 #[.int .u8 (t[i'].toNat : Int)] w fun e w' => e = .returned (.bool false) ∧ w' = w) := fun w => by have := impl_sym t[i'] w; rw [hsy] at this; exact this
      by_cases he : i' + 1 + 1 = t.size
      · have HR : Hid (isEnd t (i' + 1) = true) := isEnd_last hi h46 hA he
        have e1 : ((i' : Int) + 1 + 1 == (t.size : Int)) = true := by rw [← he]; simp
        clear he hA h46 hi0 hsy
        go_enter Tryz.func48, Tryz.ntmps48
        go_wp2_with (go_at_call 53; refine (HS.out _).mono ?_; rintro e w' ⟨rfl, rfl⟩)
        go_ret
        exact ⟨by rw [HR.out]; rfl, rfl⟩
      · have hl : i' + 1 + 1 < t.size := by omega
        have HR : Hid (isEnd t (i' + 1) = decide (0 ≤ Lib.indexByte [32, 9, 10, 37] t[i' + 1 + 1])) := by show _ = _; rw [blank_index]; exact isEnd_mid hi h46 hA hl
        have e1 : ((i' : Int) + 1 + 1 == (t.size : Int)) = false := beq_eq_false_iff_ne.2 (by omega)
        have hc1 := t[i' + 1 + 1].toNat_lt
        have HX : Hid (∀ w, Calls Tryz.prog 68 #[.string ⟨#[32, 9, 10, 37]⟩, .int .u8 (t[i' + 1 + 1].toNat : Int)] w fun e w' => e = .returned (.int .i64 (Lib.indexByte [32, 9, 10, 37] t[i' + 1 + 1])) ∧ w' = w) := fun w => by
          have := strings_index ⟨#[32, 9, 10, 37]⟩ (t[i' + 1 + 1].toNat : Int) w
          rw [u8_cast] at this; exact this
        generalize Lib.indexByte [32, 9, 10, 37] t[i' + 1 + 1] = X at *
        clear he hA h46 hi0 hsy
        go_enter Tryz.func48, Tryz.ntmps48
        go_wp2_with (first | (go_at_call 53; refine (HS.out _).mono ?_; rintro e w' ⟨rfl, rfl⟩) | (go_at_call 68; refine (HX.out _).mono ?_; rintro e w' ⟨rfl, rfl⟩))
        go_ret
        exact ⟨by rw [HR.out]; rfl, rfl⟩

set_option maxHeartbeats 1000000 in
set_option maxRecDepth 20000 in
theorem take_word (N g : Nat) (t : ByteArray) (mv : Value) (L : List Sg) (b i : Nat) (kind : Int) (w : World) (h : SnAt N g t mv w L b) (hs : (t.size : Int) ≤ 3000) (hL : L.length + t.size ≤ 3000 + i) (hi : i < t.size) (hp : isWord t[i] = true) (hasc : t[i].toNat < 128) (hT : ∀ w', Fr N g w w' → Lib.Utf8Tabs 0 1 w') :
    Calls Tryz.prog 51 #[.pointer (some ⟨g, 0, none⟩), .int .i64 kind, .int .i64 (i : Int), .func (.func 52) #[] #[]] w (Res N g t mv (L ++ [(nameSg t kind isWord i).1]) (nameSg t kind isWord i).2 w) := by
  obtain ⟨c0, _, _, _, hgN, hNw⟩ := h.cells
  have HBAD : Hid (Calls Tryz.prog 54 #[.pointer (some ⟨g, 0, none⟩), .int .i64 (i : Int)] w (Res N g t mv (L ++ [(badSg t i).1]) (i + 1) w)) := by
    have := take_bad N g t mv L b i w h hs hL hi hT
    rw [decode_ascii t i hi hasc] at this
    exact this
  obtain ⟨R, hR⟩ : ∃ R, R = i + run t isWord i := ⟨_, rfl⟩
  have hRl : R ≤ t.size := by have := run_le t isWord i; omega
  have hiR : i + 1 ≤ R := by rw [hR, run_yes hi hp]; omega
  have HR : Hid (i + run t isWord i = R) := hR.symm
  have HR1 : Hid (i + 1 + run t isWord (i + 1) = R) := by have h1 := run_yes hi hp; show _ = _; omega
  have HPC : Hid (∀ e, i ≤ e → e ≤ t.size → Calls Tryz.prog 47 #[.pointer (some ⟨g, 0, none⟩), .int .i64 kind, .int .i64 (i : Int), .int .i64 (e : Int)] w (Res N g t mv (L ++ [(mkSg t kind (t.extract i e) 0 i e).1]) e w)) := fun e h1 h2 => add_piece N g t mv L b kind i e w h (by omega) hs h1 h2
  have HBEL : Hid (∀ (c : UInt8) (w : World), Calls Tryz.prog 52 #[.int .u8 (c.toNat : Int)] w fun e w' => e = .returned (.bool (isWord c)) ∧ w' = w) := i_word
  obtain ⟨SG, hSG⟩ : ∃ SG, SG = nameSg t kind isWord i := ⟨_, rfl⟩
  rw [← hSG]
  have HSG : Hid (SG = nameSg t kind isWord i) := hSG
  clear h hT hp hasc hR hSG
  go_enter Tryz.func51, Tryz.ntmps51
  go_wp2
  go_loopw [8] (fun vj wr => wr = w ∧ ∃ j : Nat, i + 1 ≤ j ∧ j ≤ i + 21 ∧ j ≤ t.size ∧ vj = .int .i64 (j : Int) ∧ Hid (j + run t isWord j = R)) (fun vj _ => t.size - (intOf vj).toNat)
  case atStart => exact ⟨rfl, i + 1, Nat.le_refl _, by omega, by omega, by go_num, HR1⟩
  case round =>
    obtain ⟨rfl, j, hij, hj21, hjt, rfl, HJ⟩ := hrel
    by_cases hbig : i + 20 < j
    · have HB : Hid (SG = badSg t i) := by
        show _ = _; rw [HSG.out]; unfold nameSg
        rw [if_neg (by have := HR.out; have := HJ.out; omega)]
      clear HSG HJ HR HR1
      by_cases hlt : j < t.size
      · go_wp2_with (go_at_call 54; refine (Calls.mono HBAD.out ?_); rintro r w2 ⟨⟨x, rfl⟩, hs2, hf2⟩; have HS2 : Hid _ := hs2; have HF2 : Hid _ := hf2; clear hs2 hf2)
        refine bodyPost_ret_by (results_none rfl _ _ _) rfl ?_
        exact ⟨⟨_, rfl⟩, by rw [HB.out]; exact HS2.out, HF2.out⟩
      · go_wp2_with (go_at_call 54; refine (Calls.mono HBAD.out ?_); rintro r w2 ⟨⟨x, rfl⟩, hs2, hf2⟩; have HS2 : Hid _ := hs2; have HF2 : Hid _ := hf2; clear hs2 hf2)
        refine bodyPost_ret_by (results_none rfl _ _ _) rfl ?_
        exact ⟨⟨_, rfl⟩, by rw [HB.out]; exact HS2.out, HF2.out⟩
    · by_cases hlt : j < t.size
      · have hcj := t[j].toNat_lt
        have HBJ := HBEL.out t[j]
        cases hpj : isWord t[j] with
        | true =>
          rw [hpj] at HBJ
          have HJ' : Hid (j + 1 + run t isWord (j + 1) = R) := by have := HJ.out; rw [run_yes hlt hpj] at this; show _ = _; omega
          clear hpj HJ HBAD HPC HSG HR HR1
          go_wp2_with (go_at_call 52; refine (HBJ _).mono ?_; rintro e w' ⟨rfl, rfl⟩)
          go_roundw
          case rel => exact ⟨trivial, j + 1, by omega, by omega, by omega, by go_num, HJ'⟩
          case measure => simp [intOf]; omega
        | false =>
          rw [hpj] at HBJ
          obtain rfl : j = R := by have := HJ.out; rw [run_no hlt hpj] at this; omega
          have HB : Hid (SG = mkSg t kind (t.extract i j) 0 i j) := by
            show _ = _; rw [HSG.out]; unfold nameSg
            rw [if_pos (by have := HR.out; omega), HR.out]
          have HPJ : Hid _ := HPC.out j (by omega) hjt
          clear hpj HJ HBAD HPC HSG HR HR1
          go_wp2_with (first | (go_at_call 52; refine (HBJ _).mono ?_; rintro e w' ⟨rfl, rfl⟩) | (go_at_call 47; refine (Calls.mono HPJ.out ?_); rintro r w2 ⟨⟨x, rfl⟩, hs2, hf2⟩; have HS2 : Hid _ := hs2; have HF2 : Hid _ := hf2; clear hs2 hf2))
          refine bodyPost_end (results_none rfl _ _ _) rfl ?_
          exact ⟨⟨_, rfl⟩, by rw [HB.out]; exact HS2.out, HF2.out⟩
      · obtain rfl : j = R := by have := HJ.out; rw [run_end hlt] at this; omega
        have HB : Hid (SG = mkSg t kind (t.extract i j) 0 i j) := by
          show _ = _; rw [HSG.out]; unfold nameSg
          rw [if_pos (by have := HR.out; omega), HR.out]
        have HPJ : Hid _ := HPC.out j (by omega) hjt
        clear HJ HBAD HPC HSG HR HR1
        go_wp2_with (go_at_call 47; refine (Calls.mono HPJ.out ?_); rintro r w2 ⟨⟨x, rfl⟩, hs2, hf2⟩; have HS2 : Hid _ := hs2; have HF2 : Hid _ := hf2; clear hs2 hf2)
        refine bodyPost_end (results_none rfl _ _ _) rfl ?_
        exact ⟨⟨_, rfl⟩, by rw [HB.out]; exact HS2.out, HF2.out⟩

set_option maxHeartbeats 1000000 in
set_option maxRecDepth 20000 in
theorem take_sym (N g : Nat) (t : ByteArray) (mv : Value) (L : List Sg) (b i : Nat) (kind : Int) (w : World) (h : SnAt N g t mv w L b) (hs : (t.size : Int) ≤ 3000) (hL : L.length + t.size ≤ 3000 + i) (hi : i < t.size) (hp : isSym t[i] = true) (hasc : t[i].toNat < 128) (hT : ∀ w', Fr N g w w' → Lib.Utf8Tabs 0 1 w') :
    Calls Tryz.prog 51 #[.pointer (some ⟨g, 0, none⟩), .int .i64 kind, .int .i64 (i : Int), .func (.func 53) #[] #[]] w (Res N g t mv (L ++ [(nameSg t kind isSym i).1]) (nameSg t kind isSym i).2 w) := by
  obtain ⟨c0, _, _, _, hgN, hNw⟩ := h.cells
  have HBAD : Hid (Calls Tryz.prog 54 #[.pointer (some ⟨g, 0, none⟩), .int .i64 (i : Int)] w (Res N g t mv (L ++ [(badSg t i).1]) (i + 1) w)) := by
    have := take_bad N g t mv L b i w h hs hL hi hT
    rw [decode_ascii t i hi hasc] at this
    exact this
  obtain ⟨R, hR⟩ : ∃ R, R = i + run t isSym i := ⟨_, rfl⟩
  have hRl : R ≤ t.size := by have := run_le t isSym i; omega
  have hiR : i + 1 ≤ R := by rw [hR, run_yes hi hp]; omega
  have HR : Hid (i + run t isSym i = R) := hR.symm
  have HR1 : Hid (i + 1 + run t isSym (i + 1) = R) := by have h1 := run_yes hi hp; show _ = _; omega
  have HPC : Hid (∀ e, i ≤ e → e ≤ t.size → Calls Tryz.prog 47 #[.pointer (some ⟨g, 0, none⟩), .int .i64 kind, .int .i64 (i : Int), .int .i64 (e : Int)] w (Res N g t mv (L ++ [(mkSg t kind (t.extract i e) 0 i e).1]) e w)) := fun e h1 h2 => add_piece N g t mv L b kind i e w h (by omega) hs h1 h2
  have HBEL : Hid (∀ (c : UInt8) (w : World), Calls Tryz.prog 53 #[.int .u8 (c.toNat : Int)] w fun e w' => e = .returned (.bool (isSym c)) ∧ w' = w) := impl_sym
  obtain ⟨SG, hSG⟩ : ∃ SG, SG = nameSg t kind isSym i := ⟨_, rfl⟩
  rw [← hSG]
  have HSG : Hid (SG = nameSg t kind isSym i) := hSG
  clear h hT hp hasc hR hSG
  go_enter Tryz.func51, Tryz.ntmps51
  go_wp2
  go_loopw [8] (fun vj wr => wr = w ∧ ∃ j : Nat, i + 1 ≤ j ∧ j ≤ i + 21 ∧ j ≤ t.size ∧ vj = .int .i64 (j : Int) ∧ Hid (j + run t isSym j = R)) (fun vj _ => t.size - (intOf vj).toNat)
  case atStart => exact ⟨rfl, i + 1, Nat.le_refl _, by omega, by omega, by go_num, HR1⟩
  case round =>
    obtain ⟨rfl, j, hij, hj21, hjt, rfl, HJ⟩ := hrel
    by_cases hbig : i + 20 < j
    · have HB : Hid (SG = badSg t i) := by
        show _ = _; rw [HSG.out]; unfold nameSg
        rw [if_neg (by have := HR.out; have := HJ.out; omega)]
      clear HSG HJ HR HR1
      by_cases hlt : j < t.size
      · go_wp2_with (go_at_call 54; refine (Calls.mono HBAD.out ?_); rintro r w2 ⟨⟨x, rfl⟩, hs2, hf2⟩; have HS2 : Hid _ := hs2; have HF2 : Hid _ := hf2; clear hs2 hf2)
        refine bodyPost_ret_by (results_none rfl _ _ _) rfl ?_
        exact ⟨⟨_, rfl⟩, by rw [HB.out]; exact HS2.out, HF2.out⟩
      · go_wp2_with (go_at_call 54; refine (Calls.mono HBAD.out ?_); rintro r w2 ⟨⟨x, rfl⟩, hs2, hf2⟩; have HS2 : Hid _ := hs2; have HF2 : Hid _ := hf2; clear hs2 hf2)
        refine bodyPost_ret_by (results_none rfl _ _ _) rfl ?_
        exact ⟨⟨_, rfl⟩, by rw [HB.out]; exact HS2.out, HF2.out⟩
    · by_cases hlt : j < t.size
      · have hcj := t[j].toNat_lt
        have HBJ := HBEL.out t[j]
        cases hpj : isSym t[j] with
        | true =>
          rw [hpj] at HBJ
          have HJ' : Hid (j + 1 + run t isSym (j + 1) = R) := by have := HJ.out; rw [run_yes hlt hpj] at this; show _ = _; omega
          clear hpj HJ HBAD HPC HSG HR HR1
          go_wp2_with (go_at_call 53; refine (HBJ _).mono ?_; rintro e w' ⟨rfl, rfl⟩)
          go_roundw
          case rel => exact ⟨trivial, j + 1, by omega, by omega, by omega, by go_num, HJ'⟩
          case measure => simp [intOf]; omega
        | false =>
          rw [hpj] at HBJ
          obtain rfl : j = R := by have := HJ.out; rw [run_no hlt hpj] at this; omega
          have HB : Hid (SG = mkSg t kind (t.extract i j) 0 i j) := by
            show _ = _; rw [HSG.out]; unfold nameSg
            rw [if_pos (by have := HR.out; omega), HR.out]
          have HPJ : Hid _ := HPC.out j (by omega) hjt
          clear hpj HJ HBAD HPC HSG HR HR1
          go_wp2_with (first | (go_at_call 53; refine (HBJ _).mono ?_; rintro e w' ⟨rfl, rfl⟩) | (go_at_call 47; refine (Calls.mono HPJ.out ?_); rintro r w2 ⟨⟨x, rfl⟩, hs2, hf2⟩; have HS2 : Hid _ := hs2; have HF2 : Hid _ := hf2; clear hs2 hf2))
          refine bodyPost_end (results_none rfl _ _ _) rfl ?_
          exact ⟨⟨_, rfl⟩, by rw [HB.out]; exact HS2.out, HF2.out⟩
      · obtain rfl : j = R := by have := HJ.out; rw [run_end hlt] at this; omega
        have HB : Hid (SG = mkSg t kind (t.extract i j) 0 i j) := by
          show _ = _; rw [HSG.out]; unfold nameSg
          rw [if_pos (by have := HR.out; omega), HR.out]
        have HPJ : Hid _ := HPC.out j (by omega) hjt
        clear HJ HBAD HPC HSG HR HR1
        go_wp2_with (go_at_call 47; refine (Calls.mono HPJ.out ?_); rintro r w2 ⟨⟨x, rfl⟩, hs2, hf2⟩; have HS2 : Hid _ := hs2; have HF2 : Hid _ := hf2; clear hs2 hf2)
        refine bodyPost_end (results_none rfl _ _ _) rfl ?_
        exact ⟨⟨_, rfl⟩, by rw [HB.out]; exact HS2.out, HF2.out⟩
end Go.Proofs.YtbkjcccbjnehbanGreatDoor

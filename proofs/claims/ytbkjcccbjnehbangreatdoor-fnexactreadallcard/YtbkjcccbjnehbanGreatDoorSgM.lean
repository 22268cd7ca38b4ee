/- The code's signer: takeNumber, takeQuoted. -/
import Derived.Test.YtbkjcccbjnehbanGreatDoorSgK
import Derived.Test.YtbkjcccbjnehbanGreatDoorSgN
import Derived.Test.YtbkjcccbjnehbanGreatDoorNameI
namespace Go.Proofs.YtbkjcccbjnehbanGreatDoor
open Go.RowKit

set_option maxHeartbeats 1000000 in
set_option maxRecDepth 20000 in
theorem take_number (N g : Nat) (t : ByteArray) (mv : Value) (L : List Sg) (b i : Nat) (w : World) (h : SnAt N g t mv w L b) (hs : (t.size : Int) ≤ 3000) (hL : L.length + t.size ≤ 3000 + i) (hi : i < t.size) (hasc : t[i].toNat < 128) (hT : ∀ w', Fr N g w w' → Lib.Utf8Tabs 0 1 w') :
    Calls Tryz.prog 50 #[.pointer (some ⟨g, 0, none⟩), .int .i64 (i : Int)] w (Res N g t mv (L ++ [(numSg t i).1]) (numSg t i).2 w) := by
  obtain ⟨c0, _, _, _, hgN, hNw⟩ := h.cells
  have HBAD : Hid (Calls Tryz.prog 54 #[.pointer (some ⟨g, 0, none⟩), .int .i64 (i : Int)] w (Res N g t mv (L ++ [(badSg t i).1]) (i + 1) w)) := by
    have := take_bad N g t mv L b i w h hs hL hi hT
    rw [decode_ascii t i hi hasc] at this
    exact this
  have HADD : Hid (∀ (a : Int) (j : Nat), Calls Tryz.prog 69 #[.pointer (some ⟨g, 0, none⟩), .agg #[.int .i64 3, .string ⟨#[]⟩, .int .i64 a, .int .i64 (i : Int), .bool false], .int .i64 (j : Int)] w fun r w' => (∃ x, r = .returned x) ∧ SnAt N g t mv w' (L ++ [(mkSg t 3 ⟨#[]⟩ a i j).1]) j ∧ Fr N g w w') := fun a j => add_any N g t mv L b 3 ⟨#[]⟩ a i j _ w h (by omega) rfl
  obtain ⟨SG, hSG⟩ : ∃ SG, SG = numSg t i := ⟨_, rfl⟩
  rw [← hSG]
  have HSG : Hid (SG = numSg t i) := hSG
  clear h hT hasc hSG
  go_enter Tryz.func50, Tryz.ntmps50
  go_wp2
  go_loopw [4, 5] (fun va vj wr => wr = w ∧ ∃ (j : Nat) (a : Int), i ≤ j ∧ j ≤ t.size ∧ vj = .int .i64 (j : Int) ∧ va = .int .i64 a ∧ 0 ≤ a ∧ a ≤ 999999999 ∧ Hid (NumAt t i j a)) (fun _ vj _ => t.size - (intOf vj).toNat)
  case atStart => exact ⟨rfl, i, 0, Nat.le_refl _, by omega, rfl, rfl, by omega, by omega, NumAt.start t i⟩
  case round =>
    obtain ⟨rfl, j, a, hij, hj, rfl, rfl, ha0, ha1, HN⟩ := hrel
    by_cases hlt : j < t.size
    · have hcj := t[j].toNat_lt
      cases hf : isFig t[j] with
      | true =>
        have hfg : 48 ≤ t[j].toNat ∧ t[j].toNat ≤ 57 := by unfold isFig at hf; exact of_decide_eq_true hf
        obtain ⟨hf1, hf2⟩ := hfg
        have HN' : Hid (NumAt t i (j + 1) (a * 10 + ((t[j].toNat : Int) - 48))) := by
          have := HN.out.next ha1 hij hlt hf
          rw [show 10 * a + (t[j].toNat : Int) - 48 = a * 10 + ((t[j].toNat : Int) - 48) by omega] at this
          exact this
        by_cases hm : a * 10 + ((t[j].toNat : Int) - 48) ≤ 999999999
        · clear hf HN HSG HBAD HADD
          go_wp2
          go_roundw
          case rel => exact ⟨trivial, j + 1, _, by omega, by omega, by go_num, rfl, by omega, by omega, HN'⟩
          case measure => simp [intOf]; omega
        · have HB : Hid (SG = badSg t i) := by show _ = _; rw [HSG.out]; exact HN'.out.over (by omega)
          clear hf HN HN' HSG HADD
          go_wp2_with (go_at_call 54; refine (Calls.mono HBAD.out ?_); rintro r w2 ⟨⟨x, rfl⟩, hs2, hf2⟩; have HS2 : Hid _ := hs2; have HF2 : Hid _ := hf2; clear hs2 hf2)
          refine bodyPost_ret_by (results_none rfl _ _ _) rfl ?_
          exact ⟨⟨_, rfl⟩, by rw [HB.out]; exact HS2.out, HF2.out⟩
      | false =>
        have HB : Hid (SG = mkSg t 3 ⟨#[]⟩ a i j) := by show _ = _; rw [HSG.out]; exact HN.out.done ha1 hij (fun _ => hf)
        have hnf : ¬ (48 ≤ t[j].toNat ∧ t[j].toNat ≤ 57) := by unfold isFig at hf; exact of_decide_eq_false hf
        have HAJ : Hid _ := HADD.out a j
        clear hf HN HSG HBAD HADD
        by_cases h48 : 48 ≤ t[j].toNat
        · have h57 : ¬ t[j].toNat ≤ 57 := fun h => hnf ⟨h48, h⟩
          clear hnf
          go_wp2_with (go_at_call 69; refine (Calls.mono HAJ.out ?_); rintro r w2 ⟨⟨x, rfl⟩, hs2, hf2⟩; have HS2 : Hid _ := hs2; have HF2 : Hid _ := hf2; clear hs2 hf2)
          refine bodyPost_end (results_none rfl _ _ _) rfl ?_
          exact ⟨⟨_, rfl⟩, by rw [HB.out]; exact HS2.out, HF2.out⟩
        · clear hnf
          go_wp2_with (go_at_call 69; refine (Calls.mono HAJ.out ?_); rintro r w2 ⟨⟨x, rfl⟩, hs2, hf2⟩; have HS2 : Hid _ := hs2; have HF2 : Hid _ := hf2; clear hs2 hf2)
          refine bodyPost_end (results_none rfl _ _ _) rfl ?_
          exact ⟨⟨_, rfl⟩, by rw [HB.out]; exact HS2.out, HF2.out⟩
    · have HB : Hid (SG = mkSg t 3 ⟨#[]⟩ a i j) := by show _ = _; rw [HSG.out]; exact HN.out.done ha1 hij (fun h => absurd h hlt)
      have HAJ : Hid _ := HADD.out a j
      clear HN HSG HBAD HADD
      go_wp2_with (go_at_call 69; refine (Calls.mono HAJ.out ?_); rintro r w2 ⟨⟨x, rfl⟩, hs2, hf2⟩; have HS2 : Hid _ := hs2; have HF2 : Hid _ := hf2; clear hs2 hf2)
      refine bodyPost_end (results_none rfl _ _ _) rfl ?_
      exact ⟨⟨_, rfl⟩, by rw [HB.out]; exact HS2.out, HF2.out⟩

set_option maxHeartbeats 1000000 in
set_option maxRecDepth 20000 in
theorem take_quoted (N g : Nat) (t : ByteArray) (mv : Value) (L : List Sg) (b i : Nat) (w : World) (h : SnAt N g t mv w L b) (hs : (t.size : Int) ≤ 3000) (hL : L.length + t.size ≤ 3000 + i) (hi : i < t.size) (hasc : t[i].toNat < 128) (hT : ∀ w', Fr N g w w' → Lib.Utf8Tabs 0 1 w') :
    Calls Tryz.prog 49 #[.pointer (some ⟨g, 0, none⟩), .int .i64 (i : Int)] w (Res N g t mv (L ++ [(quotSg t i).1]) (quotSg t i).2 w) := by
  obtain ⟨c0, _, _, _, hgN, hNw⟩ := h.cells
  have HBAD : Hid (Calls Tryz.prog 54 #[.pointer (some ⟨g, 0, none⟩), .int .i64 (i : Int)] w (Res N g t mv (L ++ [(badSg t i).1]) (i + 1) w)) := by
    have := take_bad N g t mv L b i w h hs hL hi hT
    rw [decode_ascii t i hi hasc] at this
    exact this
  have hrl := run_le t not39 (i + 1)
  obtain ⟨r, hr⟩ : ∃ r, r = run t not39 (i + 1) := ⟨_, rfl⟩
  have HIX : Lib.indexByte (t.extract (i + 1) t.size).data.toList 39 = if i + 1 + r < t.size then (r : Int) else -1 := by
    rw [ext_list, hr]
    refine index_run t 39 not39 (fun x => ?_) _ (i + 1) (Nat.le_refl _)
    unfold not39
    rw [Bool.eq_iff_iff]
    simp [← UInt8.toNat_inj]
  have HX := strings_index (t.extract (i + 1) t.size) 39
  have e39 : (39 : Int).toNat.toUInt8 = 39 := rfl
  rw [e39, HIX] at HX
  have hq : quotSg t i = if i + 1 + r < t.size ∧ nameOk (t.extract (i + 1) (i + 1 + r)) = true then mkSg t 1 (t.extract (i + 1) (i + 1 + r)) 0 i (i + r + 2) else badSg t i := by unfold quotSg; rw [← hr]
  rw [← hr] at hrl
  obtain ⟨SG, hSG⟩ : ∃ SG, SG = quotSg t i := ⟨_, rfl⟩
  rw [← hSG]
  rw [← hSG] at hq
  have HS : Hid (SnAt N g t mv w L b) := h
  have HL : Hid (L.length ≤ 3000) := by show _ ≤ _; omega
  clear h hT hasc hSG HIX hr e39 hL
  by_cases hc : i + 1 + r < t.size
  · rw [if_pos hc] at HX
    replace HX : Hid _ := HX
    have hsz : (t.extract (i + 1) (i + 1 + r)).size ≤ 1048576 := by rw [ByteArray.size_extract]; omega
    have HNM : Hid (∀ w, Calls Tryz.prog 71 #[.string (t.extract (i + 1) (i + 1 + r))] w fun e w' => e = .returned (.bool (nameOk (t.extract (i + 1) (i + 1 + r)))) ∧ w' = w) := implName _ (by unfold maxLen; omega)
    cases hn : nameOk (t.extract (i + 1) (i + 1 + r)) with
    | true =>
      rw [hn] at HNM
      have HB : Hid (SG = mkSg t 1 (t.extract (i + 1) (i + 1 + r)) 0 i (i + r + 2)) := by show _ = _; rw [hq, if_pos ⟨hc, hn⟩]
      have HCL : Hid _ := clone_any (t.extract (i + 1) (i + 1 + r)) w hsz
      clear hq hn HBAD hsz
      go_enter Tryz.func49, Tryz.ntmps49
      go_wp2_with (first
        | (go_at_call 68; refine (HX.out _).mono ?_; rintro e w' ⟨rfl, rfl⟩)
        | (go_at_call 71; refine (HNM.out _).mono ?_; rintro e w' ⟨rfl, rfl⟩)
        | (go_at_call 70; go_loud (refine (Calls.mono HCL.out ?_)); rintro e w1 ⟨rfl, hb1⟩; have HB1 : Hid (Below _ _ w1) := hb1; clear hb1; have HA : Hid _ := add_any N g t mv L b 1 (t.extract (i + 1) (i + 1 + r)) 0 i (i + r + 2) _ w1 (HS.out.keep HB1.out) HL.out rfl)
        | (go_at_call 69; go_loud (refine (Calls.mono HA.out ?_)); rintro e w2 ⟨⟨x, rfl⟩, hs2, hf2⟩; have HS2 : Hid _ := hs2; have HF2 : Hid _ := hf2; clear hs2 hf2))
      refine bodyPost_end (results_none rfl _ _ _) rfl ?_
      exact ⟨⟨_, rfl⟩, by rw [HB.out]; exact HS2.out, (Fr.of_below HB1.out hNw).trans HF2.out⟩
    | false =>
      rw [hn] at HNM
      have HB : Hid (SG = badSg t i) := by show _ = _; rw [hq, if_neg (fun h => by rw [hn] at h; exact Bool.noConfusion h.2)]
      clear hq hn hsz HS HL
      go_enter Tryz.func49, Tryz.ntmps49
      go_wp2_with (first
        | (go_at_call 68; refine (HX.out _).mono ?_; rintro e w' ⟨rfl, rfl⟩)
        | (go_at_call 71; refine (HNM.out _).mono ?_; rintro e w' ⟨rfl, rfl⟩)
        | (go_at_call 54; go_loud (refine (Calls.mono HBAD.out ?_)); rintro e w2 ⟨⟨x, rfl⟩, hs2, hf2⟩; have HS2 : Hid _ := hs2; have HF2 : Hid _ := hf2; clear hs2 hf2))
      refine bodyPost_ret_by (results_none rfl _ _ _) rfl ?_
      exact ⟨⟨_, rfl⟩, by rw [HB.out]; exact HS2.out, HF2.out⟩
  · rw [if_neg hc] at HX
    replace HX : Hid _ := HX
    have HB : Hid (SG = badSg t i) := by show _ = _; rw [hq, if_neg (fun h => hc h.1)]
    clear hq HS HL hc hrl
    go_enter Tryz.func49, Tryz.ntmps49
    go_wp2_with (first
      | (go_at_call 68; refine (HX.out _).mono ?_; rintro e w' ⟨rfl, rfl⟩)
      | (go_at_call 54; go_loud (refine (Calls.mono HBAD.out ?_)); rintro e w2 ⟨⟨x, rfl⟩, hs2, hf2⟩; have HS2 : Hid _ := hs2; have HF2 : Hid _ := hf2; clear hs2 hf2))
    refine bodyPost_ret_by (results_none rfl _ _ _) rfl ?_
    exact ⟨⟨_, rfl⟩, by rw [HB.out]; exact HS2.out, HF2.out⟩
end Go.Proofs.YtbkjcccbjnehbanGreatDoor

import Derived.Test.YtbkjcccbjnehbanGreatDoorMh1
import Derived.Laws.RangeAny
import Derived.Lib.IndexBytes
import Derived.Shelf.Unicode.DecodeSlow
import Derived.Test.YtbkjcccbjnehbanGreatDoorRows
import Derived.Test.YtbkjcccbjnehbanGreatDoorCln
import Derived.WalkKit
import Derived.WalkSpells
import Derived.BigCall
import Derived.Test.YtbkjcccbjnehbanGreatDoorMh27
import Derived.Test.YtbkjcccbjnehbanGreatDoorMh24
import Derived.Test.YtbkjcccbjnehbanGreatDoorUtf
namespace Go.Proofs.YtbkjcccbjnehbanGreatDoor
open Go.RowKit
theorem get8 (t : ByteArray) (i : Nat) : t.get! i = at8 t i := by
 unfold at8
 simp only [ByteArray.get!, List.getD_eq_getElem?_getD, Array.getElem?_toList]
 rw [getElem!_def]
 cases t.data[i]? <;> rfl
theorem ext_list (t : ByteArray) (i : Nat) : (t.extract i t.size).data.toList = t.data.toList.drop i := by
 have h1 : (t.extract i t.size).data = t.data.extract i t.size := by simp
 rw [h1, Array.toList_extract]
 show List.take (t.size - i) (List.drop i t.data.toList) = _
 exact List.take_of_length_le (by simp)
theorem get_shift (t : ByteArray) (i k : Nat) : (t.extract i t.size).get! k = t.get! (i + k) := by
 rw [get8, get8]; unfold at8
 rw [ext_list]
 simp [List.getD_eq_getElem?_getD]
theorem ext_size (t : ByteArray) (i : Nat) : (t.extract i t.size).size = t.size - i := by
 rw [ByteArray.size_extract]; omega
theorem decode_shift (t : ByteArray) (i : Nat) : Utf8.decode (t.extract i t.size) 0 = Utf8.decode t i := by
 have hc : ∀ k, decide (k < (t.extract i t.size).size) = decide (i + k < t.size) := fun k => by
   rw [ext_size]; by_cases h : i + k < t.size
   · rw [decide_eq_true h, decide_eq_true (by omega)]
   · rw [decide_eq_false h, decide_eq_false (by omega)]
 unfold Utf8.decode
 simp only [get_shift, Nat.zero_add, hc]
theorem decode_end (t : ByteArray) (i : Nat) (h : i < t.size) : 1 ≤ (Utf8.decode t i).2 ∧ i + (Utf8.decode t i).2 ≤ t.size ∧ (Utf8.decode t i).2 ≤ 4 ∧ ∀ k, 0 < k → k < (Utf8.decode t i).2 → 128 ≤ (at8 t (i + k)).toNat := by
 have hg : ∀ k, (t.get! (i + k)).toNat = (at8 t (i + k)).toNat := fun k => by rw [get8]
 unfold Utf8.decode
 simp only [hg, Bool.and_eq_true, decide_eq_true_eq, beq_iff_eq]
 repeat' split
 all_goals refine ⟨by simp, ?_, by simp, ?_⟩
 all_goals first
   | (simp; omega)
   | (intro k h1 h2; simp at h2; omega)
   | (intro k h1 h2
      have : k = 1 ∨ k = 2 ∨ k = 3 := by simp at h2; omega
      rcases this with rfl | rfl | rfl <;> simp at h2 <;> omega)
theorem decodeGo_at (t : ByteArray) (i : Nat) (h : i < t.size) : Lib.decodeGo (t.extract i t.size) = Utf8.decode t i := by
 unfold Lib.decodeGo
 rw [if_neg (by rw [ext_size]; omega), decode_shift]
theorem index_run (t : ByteArray) (c : UInt8) (p : UInt8 → Bool) (hp : ∀ x, p x = !(x == c)) : ∀ (n i : Nat), t.size - i ≤ n → Lib.indexByte (t.data.toList.drop i) c = if i + run t p i < t.size then (run t p i : Int) else -1 := by
 intro n
 induction n with
 | zero =>
   intro i hn
   rw [drop_end t i (by omega), if_neg (by omega)]; rfl
 | succ n ih =>
   intro i hn
   by_cases hi : i < t.size
   · rw [drop_at t i hi]
     unfold Lib.indexByte
     by_cases hc : (t[i] == c) = true
     · have hp0 : p t[i] = false := by rw [hp, hc]; rfl
       rw [if_pos hc, run_no hi hp0, if_pos (by omega)]; rfl
     · have hp1 : p t[i] = true := by rw [hp]; simpa using hc
       rw [if_neg hc, ih (i + 1) (by omega), run_yes hi hp1]
       by_cases hl : i + 1 + run t p (i + 1) < t.size
       · rw [if_pos hl, if_neg (by simp), if_pos (by omega)]; rfl
       · rw [if_neg hl, if_pos (by rfl), if_neg (by omega)]
   · rw [drop_end t i hi, if_neg (by rw [run_end hi]; omega)]; rfl
end Go.Proofs.YtbkjcccbjnehbanGreatDoor

namespace Go.Proofs.YtbkjcccbjnehbanGreatDoor
open Go.RowKit
theorem clone_any (s : ByteArray) (w : World) (hlim : s.size ≤ 1048576) :
   Calls Tryz.prog 70 #[.string s] w fun e w' => e = .returned (.string s) ∧ Below w.heap.size w w' := by
 go_enter Tryz.func70, Tryz.ntmps70
 go_wp2_with (go_at_call 84; refine (sh_stringslite_Clone _ _ (by omega)).mono ?_; rintro e w1 ⟨rfl, hb⟩)
 go_ret
 exact ⟨rfl, hb⟩
end Go.Proofs.YtbkjcccbjnehbanGreatDoor

namespace Go.Proofs.YtbkjcccbjnehbanGreatDoor
open Go.RowKit
set_option maxRecDepth 100000 in
theorem lite_index (s : ByteArray) (c : Int) (w : World) :
   Calls Tryz.prog 83 #[.string s, .int .u8 c] w fun e w' => e = .returned (.int .i64 (Lib.indexByte s.data.toList c.toNat.toUInt8)) ∧ w' = w := by
 go_enter Tryz.func83, Tryz.ntmps83
 go_wp2
 rw [run_callFunc_extern Tryz.func99 (by kernel_rfl) (by kernel_rfl) (by kernel_rfl) (e := Extern.BytealgIndexByte.indexByte) (by kernel_rfl), Lib.run_indexByteString]
 simp only [Result.andThen]
 rw [Oper.upon_value]
 go_wp2
 go_ret
 exact ⟨rfl, rfl⟩
theorem strings_index (s : ByteArray) (c : Int) (w : World) :
   Calls Tryz.prog 68 #[.string s, .int .u8 c] w fun e w' => e = .returned (.int .i64 (Lib.indexByte s.data.toList c.toNat.toUInt8)) ∧ w' = w := by
 go_enter Tryz.func68, Tryz.ntmps68
 go_wp2_with (go_at_call 83; refine (lite_index _ _ _).mono ?_; rintro e w' ⟨rfl, rfl⟩)
 go_ret
 exact ⟨rfl, rfl⟩
theorem impl_sym (c : UInt8) (w : World) :
   Calls Tryz.prog 53 #[.int .u8 (c.toNat : Int)] w fun e w' => e = .returned (.bool (isSym c)) ∧ w' = w := by
 obtain ⟨R, hR⟩ : ∃ R, R = isSym c := ⟨_, rfl⟩
 rw [← hR]
 have HR : Hid (isSym c = R) := hR.symm
 clear hR
 go_enter Tryz.func53, Tryz.ntmps53
 go_wp2_with (go_at_call 68; refine (strings_index _ _ _).mono ?_; rintro e w' ⟨rfl, rfl⟩)
 go_ret
 exact ⟨by rw [← HR.out, ← isSym_index]; rfl, rfl⟩
end Go.Proofs.YtbkjcccbjnehbanGreatDoor

namespace Go.Proofs.YtbkjcccbjnehbanGreatDoor
open Go.RowKit
def Res (N g : Nat) (t : ByteArray) (mv : Value) (L : List Sg) (b : Nat) (w : World) (r : Ending) (w' : World) : Prop := (∃ x, r = .returned x) ∧ SnAt N g t mv w' L b ∧ Fr N g w w'
theorem SnAt.cells {N g : Nat} {t : ByteArray} {mv : Value} {w : World} {L : List Sg} {b : Nat} (h : SnAt N g t mv w L b) : w.cell? ⟨g, 0, none⟩ = some (.string t) ∧ w.cell? ⟨g, 1, none⟩ = some mv ∧ w.cell? ⟨g, 3, none⟩ = some (.int .i64 (b : Int)) ∧ (∀ i, w.frozen? ⟨g, i, none⟩ = false) ∧ g < N ∧ N ≤ w.heap.size := by
 obtain ⟨vo, h1, _, h3, h4⟩ := h
 obtain ⟨c0, c1, _, c3, cf⟩ := b4 h1
 exact ⟨c0, c1, c3, cf, h3, h4⟩
set_option maxRecDepth 20000 in
theorem add_piece (N g : Nat) (t : ByteArray) (mv : Value) (L : List Sg) (b : Nat) (kind : Int) (i e : Nat) (w : World) (h : SnAt N g t mv w L b) (hL : L.length ≤ 3000) (hs : (t.size : Int) ≤ 3000) (hie : i ≤ e) (het : e ≤ t.size) :
   Calls Tryz.prog 47 #[.pointer (some ⟨g, 0, none⟩), .int .i64 kind, .int .i64 (i : Int), .int .i64 (e : Int)] w (Res N g t mv (L ++ [(mkSg t kind (t.extract i e) 0 i e).1]) e w) := by
 obtain ⟨c0, c1, c3, cf, hgN, hNw⟩ := h.cells
 have HS : Hid (SnAt N g t mv w L b) := h
 have HC := clone_any (t.extract i e)
 have hsz : (t.extract i e).size ≤ 1048576 := by rw [ByteArray.size_extract]; omega
 have HL : Hid (L.length ≤ 3000) := hL
 clear h hL
 go_enter Tryz.func47, Tryz.ntmps47
 go_wp2_with (first
   | (go_at_call 70; refine (HC _ hsz).mono ?_; rintro r w1 ⟨rfl, hb1⟩; have HB1 : Hid (Below w.heap.size w w1) := hb1; clear hb1; have HA : Hid _ := add_any N g t mv L b kind (t.extract i e) 0 i e _ w1 (HS.out.keep HB1.out) HL.out rfl)
   | (go_at_call 69; refine (Calls.mono HA.out ?_); rintro r w2 ⟨⟨x, rfl⟩, hs2, hf2⟩; have HS2 : Hid _ := hs2; have HF2 : Hid _ := hf2; clear hs2 hf2))
 refine bodyPost_end (results_none rfl _ _ _) rfl ?_
 exact ⟨⟨_, rfl⟩, HS2.out, (Fr.of_below HB1.out hNw).trans HF2.out⟩
theorem line_end (N g : Nat) (t : ByteArray) (mv : Value) (L : List Sg) (b i : Nat) (w : World) (h : SnAt N g t mv w L b) (hs : (t.size : Int) ≤ 3000) (hi : i ≤ t.size) :
   Calls Tryz.prog 46 #[.pointer (some ⟨g, 0, none⟩), .int .i64 (i : Int)] w fun r w' => r = .returned (.int .i64 ((i + run t not10 i : Nat) : Int)) ∧ w' = w := by
 obtain ⟨c0, _, _, _, hgN, hNw⟩ := h.cells
 clear h
 have hrl := run_le t not10 i
 have HIX : Lib.indexByte (t.extract i t.size).data.toList 10 = if i + run t not10 i < t.size then (run t not10 i : Int) else -1 := by
   rw [ext_list]
   refine index_run t 10 not10 (fun x => ?_) _ i (Nat.le_refl _)
   unfold not10
   rw [Bool.eq_iff_iff]
   simp [← UInt8.toNat_inj]
 have HX := strings_index (t.extract i t.size) 10
 have e10 : (10 : Int).toNat.toUInt8 = 10 := rfl
 rw [e10, HIX] at HX
 by_cases hc : i + run t not10 i < t.size
 · rw [if_pos hc] at HX
   replace HX : Hid _ := HX
   have HR : Hid (((i + run t not10 i : Nat) : Int) = (i : Int) + (run t not10 i : Int)) := by show _ = _; omega
   clear HIX
   generalize run t not10 i = r at *
   go_enter Tryz.func46, Tryz.ntmps46
   go_wp2_with (go_at_call 68; refine (HX.out _).mono ?_; rintro e w' ⟨rfl, rfl⟩)
   go_ret
   exact ⟨by rw [HR.out]; rfl, rfl⟩
 · rw [if_neg hc] at HX
   replace HX : Hid _ := HX
   have HR : Hid (i + run t not10 i = t.size) := by show _ = _; omega
   clear HIX hc hrl
   generalize i + run t not10 i = r at *
   go_enter Tryz.func46, Tryz.ntmps46
   go_wp2_with (go_at_call 68; refine (HX.out _).mono ?_; rintro e w' ⟨rfl, rfl⟩)
   go_ret
   exact ⟨by rw [HR.out]; rfl, rfl⟩
theorem bads_push (t : ByteArray) (i k : Nat) : (List.range (k + 1)).map (fun q => (badSg t (i + q)).1) = (List.range k).map (fun q => (badSg t (i + q)).1) ++ [(badSg t (i + k)).1] := by
 rw [List.range_succ, List.map_append]; rfl
set_option maxRecDepth 20000 in
theorem take_bad (N g : Nat) (t : ByteArray) (mv : Value) (L : List Sg) (b i : Nat) (w : World) (h : SnAt N g t mv w L b) (hs : (t.size : Int) ≤ 3000) (hL : L.length + t.size ≤ 3000 + i) (hi : i < t.size) (hT : ∀ w', Fr N g w w' → Lib.Utf8Tabs 0 1 w') :
   Calls Tryz.prog 54 #[.pointer (some ⟨g, 0, none⟩), .int .i64 (i : Int)] w (Res N g t mv (L ++ (List.range (Utf8.decode t i).2).map (fun q => (badSg t (i + q)).1)) (i + (Utf8.decode t i).2) w) := by
 obtain ⟨c0, _, _, _, hgN, hNw⟩ := h.cells
 have HD := sh_utf8_DecodeRuneInString (t.extract i t.size) w (hT w (Fr.refl _ _ _))
 rw [decodeGo_at t i hi] at HD
 obtain ⟨d1, d2, _, _⟩ := decode_end t i hi
 generalize (Utf8.decode t i).1 = ru at *
 generalize (Utf8.decode t i).2 = W at *
 replace HD : Hid _ := HD
 have HS : Hid (SnAt N g t mv w L b) := h
 have HL : Hid (L.length + t.size ≤ 3000 + i) := hL
 clear h hL hT
 go_enter Tryz.func54, Tryz.ntmps54
 go_wp2_with (go_at_call 72; refine (Calls.mono HD.out ?_); rintro e w1 ⟨rfl, hb1⟩; have HB1 : Hid (Below w.heap.size w w1) := hb1; clear hb1)
 go_loopw [6] (fun vj wr => ∃ k b' : Nat, k ≤ W ∧ vj = .int .i64 ((i + k : Nat) : Int) ∧ Hid (SnAt N g t mv wr (L ++ (List.range k).map (fun q => (badSg t (i + q)).1)) b' ∧ (k = W → b' = i + W)) ∧ Hid (Fr N g w wr)) (fun vj _ => i + W - (intOf vj).toNat)
 case atStart =>
   refine ⟨0, b, by omega, by simp, ⟨?_, by omega⟩, Fr.of_below HB1.out hNw⟩
   have := HS.out.keep HB1.out
   simpa using this
 case round =>
   obtain ⟨k, b', hk, rfl, HSB, HF⟩ := hrel
   have HSK : Hid (SnAt N g t mv wr (L ++ (List.range k).map (fun q => (badSg t (i + q)).1)) b') := HSB.out.1
   obtain ⟨c0', _, _, _, _, hNw'⟩ := HSK.out.cells
   by_cases hlt : k < W
   · have HA : Hid (Calls Tryz.prog 47 #[.pointer (some ⟨g, 0, none⟩), .int .i64 6, .int .i64 ((i + k : Nat) : Int), .int .i64 ((i + k + 1 : Nat) : Int)] wr (Res N g t mv (L ++ (List.range (k + 1)).map (fun q => (badSg t (i + q)).1)) (i + k + 1) wr)) := by
       have := add_piece N g t mv _ b' 6 (i + k) (i + k + 1) wr HSK.out (by have := HL.out; simp; omega) hs (by omega) (by omega)
       rw [bads_push, ← List.append_assoc]
       exact this
     clear HSB HSK HS HB1 HD c0
     go_wp2_with (go_at_call 47; refine (Calls.mono HA.out ?_); rintro r w2 ⟨⟨x, rfl⟩, hs2, hf2⟩; have HS2 : Hid _ := hs2; have HF2 : Hid (Fr N g wr w2) := hf2; clear hs2 hf2)
     go_roundw
     case rel => exact ⟨k + 1, i + k + 1, by omega, by go_num, ⟨HS2.out, by omega⟩, HF.out.trans HF2.out⟩
     case measure => simp [intOf]; omega
   · obtain rfl : k = W := by omega
     obtain rfl : b' = i + k := HSB.out.2 rfl
     clear HSB HS HB1 HD c0
     go_wp2
     refine bodyPost_end (results_none rfl _ _ _) rfl ?_
     exact ⟨⟨_, rfl⟩, HSK.out, HF.out⟩
end Go.Proofs.YtbkjcccbjnehbanGreatDoor

namespace Go.Proofs.YtbkjcccbjnehbanGreatDoor
open Go.RowKit
theorem i_word (c : UInt8) (w : World) : Calls Tryz.prog 52 #[.int .u8 (c.toNat : Int)] w fun e w' => e = .returned (.bool (isWord c)) ∧ w' = w := by
 have hb := c.toNat_lt
 have hcs : (97 ≤ c.toNat ∧ c.toNat ≤ 122) ∨ (65 ≤ c.toNat ∧ c.toNat ≤ 90) ∨ (48 ≤ c.toNat ∧ c.toNat ≤ 57) ∨ c.toNat = 95 ∨ c.toNat < 48 ∨ (57 < c.toNat ∧ c.toNat < 65) ∨ (90 < c.toNat ∧ c.toNat < 95) ∨ c.toNat = 96 ∨ 122 < c.toNat := by omega
 have hw : isWord c = decide ((97 ≤ c.toNat ∧ c.toNat ≤ 122) ∨ (65 ≤ c.toNat ∧ c.toNat ≤ 90) ∨ c.toNat = 95 ∨ (48 ≤ c.toNat ∧ c.toNat ≤ 57)) := by
   unfold isWord isSmall isGreat isFig
   rw [Bool.eq_iff_iff]; simp; omega
 rw [hw]
 clear hw
 rcases hcs with ⟨h1, h2⟩ | ⟨h1, h2⟩ | ⟨h1, h2⟩ | h1 | h1 | ⟨h1, h2⟩ | ⟨h1, h2⟩ | h1 | h1
 · rw [decide_eq_true (by omega)]
   go_enter Tryz.func52, Tryz.ntmps52
   go_wp2
   go_ret
   exact ⟨by first | rfl | exact ret_b (decide_eq_true (by omega)) | exact ret_b (decide_eq_false (by omega)) | exact ret_b (beq_iff_eq.2 (by omega)) | exact ret_b (beq_eq_false_iff_ne.2 (by omega)), rfl⟩
 · rw [decide_eq_true (by omega)]
   go_enter Tryz.func52, Tryz.ntmps52
   go_wp2
   go_ret
   exact ⟨by first | rfl | exact ret_b (decide_eq_true (by omega)) | exact ret_b (decide_eq_false (by omega)) | exact ret_b (beq_iff_eq.2 (by omega)) | exact ret_b (beq_eq_false_iff_ne.2 (by omega)), rfl⟩
 · rw [decide_eq_true (by omega)]
   go_enter Tryz.func52, Tryz.ntmps52
   go_wp2
   go_ret
   exact ⟨by first | rfl | exact ret_b (decide_eq_true (by omega)) | exact ret_b (decide_eq_false (by omega)) | exact ret_b (beq_iff_eq.2 (by omega)) | exact ret_b (beq_eq_false_iff_ne.2 (by omega)), rfl⟩
 · rw [decide_eq_true (by omega)]
   go_enter Tryz.func52, Tryz.ntmps52
   go_wp2
   go_ret
   exact ⟨by first | rfl | exact ret_b (decide_eq_true (by omega)) | exact ret_b (decide_eq_false (by omega)) | exact ret_b (beq_iff_eq.2 (by omega)) | exact ret_b (beq_eq_false_iff_ne.2 (by omega)), rfl⟩
 · rw [decide_eq_false (by omega)]
   have e1 : ((c.toNat : Int) == 95) = false := beq_eq_false_iff_ne.2 (by omega)
   go_enter Tryz.func52, Tryz.ntmps52
   go_wp2
   go_ret
   exact ⟨by first | rfl | exact ret_b (decide_eq_true (by omega)) | exact ret_b (decide_eq_false (by omega)) | exact ret_b (beq_iff_eq.2 (by omega)) | exact ret_b (beq_eq_false_iff_ne.2 (by omega)), rfl⟩
 · rw [decide_eq_false (by omega)]
   have d57 : ¬ (c.toNat : Int) ≤ 57 := by omega
   have e1 : ((c.toNat : Int) == 95) = false := beq_eq_false_iff_ne.2 (by omega)
   go_enter Tryz.func52, Tryz.ntmps52
   go_wp2
   go_ret
   exact ⟨by first | rfl | exact ret_b (decide_eq_true (by omega)) | exact ret_b (decide_eq_false (by omega)) | exact ret_b (beq_iff_eq.2 (by omega)) | exact ret_b (beq_eq_false_iff_ne.2 (by omega)), rfl⟩
 · rw [decide_eq_false (by omega)]
   have d57 : ¬ (c.toNat : Int) ≤ 57 := by omega
   have d90 : ¬ (c.toNat : Int) ≤ 90 := by omega
   have e1 : ((c.toNat : Int) == 95) = false := beq_eq_false_iff_ne.2 (by omega)
   go_enter Tryz.func52, Tryz.ntmps52
   go_wp2
   go_ret
   exact ⟨by first | rfl | exact ret_b (decide_eq_true (by omega)) | exact ret_b (decide_eq_false (by omega)) | exact ret_b (beq_iff_eq.2 (by omega)) | exact ret_b (beq_eq_false_iff_ne.2 (by omega)), rfl⟩
 · rw [decide_eq_false (by omega)]
   have d57 : ¬ (c.toNat : Int) ≤ 57 := by omega
   have d90 : ¬ (c.toNat : Int) ≤ 90 := by omega
   have e1 : ((c.toNat : Int) == 95) = false := beq_eq_false_iff_ne.2 (by omega)
   go_enter Tryz.func52, Tryz.ntmps52
   go_wp2
   go_ret
   exact ⟨by first | rfl | exact ret_b (decide_eq_true (by omega)) | exact ret_b (decide_eq_false (by omega)) | exact ret_b (beq_iff_eq.2 (by omega)) | exact ret_b (beq_eq_false_iff_ne.2 (by omega)), rfl⟩
 · rw [decide_eq_false (by omega)]
   have d57 : ¬ (c.toNat : Int) ≤ 57 := by omega
   have d90 : ¬ (c.toNat : Int) ≤ 90 := by omega
   have d122 : ¬ (c.toNat : Int) ≤ 122 := by omega
   have e1 : ((c.toNat : Int) == 95) = false := beq_eq_false_iff_ne.2 (by omega)
   go_enter Tryz.func52, Tryz.ntmps52
   go_wp2
   go_ret
   exact ⟨by first | rfl | exact ret_b (decide_eq_true (by omega)) | exact ret_b (decide_eq_false (by omega)) | exact ret_b (beq_iff_eq.2 (by omega)) | exact ret_b (beq_eq_false_iff_ne.2 (by omega)), rfl⟩
theorem blank_index (c : UInt8) : decide (0 ≤ Lib.indexByte [32, 9, 10, 37] c) = (isBlank c || decide (c.toNat = 37)) := by
 rw [← Lib.contains_iff_indexByte, Bool.eq_iff_iff]
 unfold isBlank
 simp [← UInt8.toNat_inj]
 omega
set_option maxHeartbeats 1000000 in
theorem ends_at (N g : Nat) (t : ByteArray) (mv : Value) (L : List Sg) (b i : Nat) (w : World) (h : SnAt N g t mv w L b) (hs : (t.size : Int) ≤ 3000) (hi : i < t.size) (h46 : t[i].toNat = 46) :
   Calls Tryz.prog 48 #[.pointer (some ⟨g, 0, none⟩), .int .i64 (i : Int)] w fun r w' => r = .returned (.bool (isEnd t i)) ∧ w' = w := by
 obtain ⟨c0, _, _, _, hgN, hNw⟩ := h.cells
 clear h
 by_cases hi0 : i = 0
 · have hA : aheadOk t i := Or.inl (decide_eq_true hi0)
   have e0 : ¬ (0 : Int) < (i : Int) := by omega
   by_cases he : i + 1 = t.size
   · have HR : Hid (isEnd t (i) = true) := isEnd_last hi h46 hA he
     have e1 : ((i : Int) + 1 == (t.size : Int)) = true := by rw [← he]; simp
     clear he hA h46 hi0
     go_enter Tryz.func48, Tryz.ntmps48
     go_wp2
     go_ret
     exact ⟨by rw [HR.out]; rfl, rfl⟩
   · have hl : i + 1 < t.size := by omega
     have HR : Hid (isEnd t (i) = decide (0 ≤ Lib.indexByte [32, 9, 10, 37] t[i + 1])) := by show _ = _; rw [blank_index]; exact isEnd_mid hi h46 hA hl
     have e1 : ((i : Int) + 1 == (t.size : Int)) = false := beq_eq_false_iff_ne.2 (by omega)
     have hc1 := t[i + 1].toNat_lt
     have HX : Hid (∀ w, Calls Tryz.prog 68 #[.string ⟨#[32, 9, 10, 37]⟩, .int .u8 (t[i + 1].toNat : Int)] w fun e w' => e = .returned (.int .i64 (Lib.indexByte [32, 9, 10, 37] t[i + 1])) ∧ w' = w) := fun w => by
       have := strings_index ⟨#[32, 9, 10, 37]⟩ (t[i + 1].toNat : Int) w
       rw [u8_cast] at this; exact this
     generalize Lib.indexByte [32, 9, 10, 37] t[i + 1] = X at *
     clear he hA h46 hi0
     go_enter Tryz.func48, Tryz.ntmps48
     go_wp2_with (first | (go_at_call 68; refine (HX.out _).mono ?_; rintro e w' ⟨rfl, rfl⟩))
     go_ret
     exact ⟨by rw [HR.out]; rfl, rfl⟩
 · obtain ⟨i', rfl⟩ : ∃ i', i = i' + 1 := ⟨i - 1, by omega⟩
   have h1' : i' < t.size := by omega
   have e0 : (0 : Int) < ((i' + 1 : Nat) : Int) := by omega
   have hc' := t[i'].toNat_lt
   cases hsy : isSym t[i'] with
   | true =>
     have HR : Hid (isEnd t (i' + 1) = false) := isEnd_ahead hi0 h1' hsy
     have HS : Hid (∀ w, Calls Tryz.prog 53 #[.int .u8 (t[i'].toNat : Int)] w fun e w' => e = .returned (.bool true) ∧ w' = w) := fun w => by have := impl_sym t[i'] w; rw [hsy] at this; exact this
     clear hsy hi0 h46
     go_enter Tryz.func48, Tryz.ntmps48
     go_wp2_with (go_at_call 53; refine (HS.out _).mono ?_; rintro e w' ⟨rfl, rfl⟩)
     go_ret
     exact ⟨by rw [HR.out]; rfl, rfl⟩
   | false =>
     have hA : aheadOk t (i' + 1) := Or.inr ⟨h1', hsy⟩
     have HS : Hid (∀ w, Calls Tryz.prog 53 #[.int .u8 (t[i'].toNat : Int)] w fun e w' => e = .returned (.bool false) ∧ w' = w) := fun w => by have := impl_sym t[i'] w; rw [hsy] at this; exact this
     by_cases he : i' + 1 + 1 = t.size
     · have HR : Hid (isEnd t (i' + 1) = true) := isEnd_last hi h46 hA he
       have e1 : ((i' : Int) + 1 + 1 == (t.size : Int)) = true := by rw [← he]; simp
       clear he hA h46 hi0 hsy
       go_enter Tryz.func48, Tryz.ntmps48
       go_wp2_with (go_at_call 53; refine (HS.out _).mono ?_; rintro e w' ⟨rfl, rfl⟩)
       go_ret
       exact ⟨by rw [HR.out]; rfl, rfl⟩
     · have hl : i' + 1 + 1 < t.size := by omega
       have HR : Hid (isEnd t (i' + 1) = decide (0 ≤ Lib.indexByte [32, 9, 10, 37] t[i' + 1 + 1])) := by show _ = _; rw [blank_index]; exact isEnd_mid hi h46 hA hl
       have e1 : ((i' : Int) + 1 + 1 == (t.size : Int)) = false := beq_eq_false_iff_ne.2 (by omega)
       have hc1 := t[i' + 1 + 1].toNat_lt
       have HX : Hid (∀ w, Calls Tryz.prog 68 #[.string ⟨#[32, 9, 10, 37]⟩, .int .u8 (t[i' + 1 + 1].toNat : Int)] w fun e w' => e = .returned (.int .i64 (Lib.indexByte [32, 9, 10, 37] t[i' + 1 + 1])) ∧ w' = w) := fun w => by
         have := strings_index ⟨#[32, 9, 10, 37]⟩ (t[i' + 1 + 1].toNat : Int) w
         rw [u8_cast] at this; exact this
       generalize Lib.indexByte [32, 9, 10, 37] t[i' + 1 + 1] = X at *
       clear he hA h46 hi0 hsy
       go_enter Tryz.func48, Tryz.ntmps48
       go_wp2_with (first | (go_at_call 53; refine (HS.out _).mono ?_; rintro e w' ⟨rfl, rfl⟩) | (go_at_call 68; refine (HX.out _).mono ?_; rintro e w' ⟨rfl, rfl⟩))
       go_ret
       exact ⟨by rw [HR.out]; rfl, rfl⟩
set_option maxHeartbeats 1000000 in
set_option maxRecDepth 20000 in
theorem take_word (N g : Nat) (t : ByteArray) (mv : Value) (L : List Sg) (b i : Nat) (kind : Int) (w : World) (h : SnAt N g t mv w L b) (hs : (t.size : Int) ≤ 3000) (hL : L.length + t.size ≤ 3000 + i) (hi : i < t.size) (hp : isWord t[i] = true) (hasc : t[i].toNat < 128) (hT : ∀ w', Fr N g w w' → Lib.Utf8Tabs 0 1 w') :
   Calls Tryz.prog 51 #[.pointer (some ⟨g, 0, none⟩), .int .i64 kind, .int .i64 (i : Int), .func (.func 52) #[] #[]] w (Res N g t mv (L ++ [(nameSg t kind isWord i).1]) (nameSg t kind isWord i).2 w) := by
 obtain ⟨c0, _, _, _, hgN, hNw⟩ := h.cells
 have HBAD : Hid (Calls Tryz.prog 54 #[.pointer (some ⟨g, 0, none⟩), .int .i64 (i : Int)] w (Res N g t mv (L ++ [(badSg t i).1]) (i + 1) w)) := by
   have := take_bad N g t mv L b i w h hs hL hi hT
   rw [decode_ascii t i hi hasc] at this
   exact this
 obtain ⟨R, hR⟩ : ∃ R, R = i + run t isWord i := ⟨_, rfl⟩
 have hRl : R ≤ t.size := by have := run_le t isWord i; omega
 have hiR : i + 1 ≤ R := by rw [hR, run_yes hi hp]; omega
 have HR : Hid (i + run t isWord i = R) := hR.symm
 have HR1 : Hid (i + 1 + run t isWord (i + 1) = R) := by have h1 := run_yes hi hp; show _ = _; omega
 have HPC : Hid (∀ e, i ≤ e → e ≤ t.size → Calls Tryz.prog 47 #[.pointer (some ⟨g, 0, none⟩), .int .i64 kind, .int .i64 (i : Int), .int .i64 (e : Int)] w (Res N g t mv (L ++ [(mkSg t kind (t.extract i e) 0 i e).1]) e w)) := fun e h1 h2 => add_piece N g t mv L b kind i e w h (by omega) hs h1 h2
 have HBEL : Hid (∀ (c : UInt8) (w : World), Calls Tryz.prog 52 #[.int .u8 (c.toNat : Int)] w fun e w' => e = .returned (.bool (isWord c)) ∧ w' = w) := i_word
 obtain ⟨SG, hSG⟩ : ∃ SG, SG = nameSg t kind isWord i := ⟨_, rfl⟩
 rw [← hSG]
 have HSG : Hid (SG = nameSg t kind isWord i) := hSG
 clear h hT hp hasc hR hSG
 go_enter Tryz.func51, Tryz.ntmps51
 go_wp2
 go_loopw [8] (fun vj wr => wr = w ∧ ∃ j : Nat, i + 1 ≤ j ∧ j ≤ i + 21 ∧ j ≤ t.size ∧ vj = .int .i64 (j : Int) ∧ Hid (j + run t isWord j = R)) (fun vj _ => t.size - (intOf vj).toNat)
 case atStart => exact ⟨rfl, i + 1, Nat.le_refl _, by omega, by omega, by go_num, HR1⟩
 case round =>
   obtain ⟨rfl, j, hij, hj21, hjt, rfl, HJ⟩ := hrel
   by_cases hbig : i + 20 < j
   · have HB : Hid (SG = badSg t i) := by
       show _ = _; rw [HSG.out]; unfold nameSg
       rw [if_neg (by have := HR.out; have := HJ.out; omega)]
     clear HSG HJ HR HR1
     by_cases hlt : j < t.size
     · go_wp2_with (go_at_call 54; refine (Calls.mono HBAD.out ?_); rintro r w2 ⟨⟨x, rfl⟩, hs2, hf2⟩; have HS2 : Hid _ := hs2; have HF2 : Hid _ := hf2; clear hs2 hf2)
       refine bodyPost_ret_by (results_none rfl _ _ _) rfl ?_
       exact ⟨⟨_, rfl⟩, by rw [HB.out]; exact HS2.out, HF2.out⟩
     · go_wp2_with (go_at_call 54; refine (Calls.mono HBAD.out ?_); rintro r w2 ⟨⟨x, rfl⟩, hs2, hf2⟩; have HS2 : Hid _ := hs2; have HF2 : Hid _ := hf2; clear hs2 hf2)
       refine bodyPost_ret_by (results_none rfl _ _ _) rfl ?_
       exact ⟨⟨_, rfl⟩, by rw [HB.out]; exact HS2.out, HF2.out⟩
   · by_cases hlt : j < t.size
     · have hcj := t[j].toNat_lt
       have HBJ := HBEL.out t[j]
       cases hpj : isWord t[j] with
       | true =>
         rw [hpj] at HBJ
         have HJ' : Hid (j + 1 + run t isWord (j + 1) = R) := by have := HJ.out; rw [run_yes hlt hpj] at this; show _ = _; omega
         clear hpj HJ HBAD HPC HSG HR HR1
         go_wp2_with (go_at_call 52; refine (HBJ _).mono ?_; rintro e w' ⟨rfl, rfl⟩)
         go_roundw
         case rel => exact ⟨trivial, j + 1, by omega, by omega, by omega, by go_num, HJ'⟩
         case measure => simp [intOf]; omega
       | false =>
         rw [hpj] at HBJ
         obtain rfl : j = R := by have := HJ.out; rw [run_no hlt hpj] at this; omega
         have HB : Hid (SG = mkSg t kind (t.extract i j) 0 i j) := by
           show _ = _; rw [HSG.out]; unfold nameSg
           rw [if_pos (by have := HR.out; omega), HR.out]
         have HPJ : Hid _ := HPC.out j (by omega) hjt
         clear hpj HJ HBAD HPC HSG HR HR1
         go_wp2_with (first | (go_at_call 52; refine (HBJ _).mono ?_; rintro e w' ⟨rfl, rfl⟩) | (go_at_call 47; refine (Calls.mono HPJ.out ?_); rintro r w2 ⟨⟨x, rfl⟩, hs2, hf2⟩; have HS2 : Hid _ := hs2; have HF2 : Hid _ := hf2; clear hs2 hf2))
         refine bodyPost_end (results_none rfl _ _ _) rfl ?_
         exact ⟨⟨_, rfl⟩, by rw [HB.out]; exact HS2.out, HF2.out⟩
     · obtain rfl : j = R := by have := HJ.out; rw [run_end hlt] at this; omega
       have HB : Hid (SG = mkSg t kind (t.extract i j) 0 i j) := by
         show _ = _; rw [HSG.out]; unfold nameSg
         rw [if_pos (by have := HR.out; omega), HR.out]
       have HPJ : Hid _ := HPC.out j (by omega) hjt
       clear HJ HBAD HPC HSG HR HR1
       go_wp2_with (go_at_call 47; refine (Calls.mono HPJ.out ?_); rintro r w2 ⟨⟨x, rfl⟩, hs2, hf2⟩; have HS2 : Hid _ := hs2; have HF2 : Hid _ := hf2; clear hs2 hf2)
       refine bodyPost_end (results_none rfl _ _ _) rfl ?_
       exact ⟨⟨_, rfl⟩, by rw [HB.out]; exact HS2.out, HF2.out⟩
set_option maxHeartbeats 1000000 in
set_option maxRecDepth 20000 in
theorem take_sym (N g : Nat) (t : ByteArray) (mv : Value) (L : List Sg) (b i : Nat) (kind : Int) (w : World) (h : SnAt N g t mv w L b) (hs : (t.size : Int) ≤ 3000) (hL : L.length + t.size ≤ 3000 + i) (hi : i < t.size) (hp : isSym t[i] = true) (hasc : t[i].toNat < 128) (hT : ∀ w', Fr N g w w' → Lib.Utf8Tabs 0 1 w') :
   Calls Tryz.prog 51 #[.pointer (some ⟨g, 0, none⟩), .int .i64 kind, .int .i64 (i : Int), .func (.func 53) #[] #[]] w (Res N g t mv (L ++ [(nameSg t kind isSym i).1]) (nameSg t kind isSym i).2 w) := by
 obtain ⟨c0, _, _, _, hgN, hNw⟩ := h.cells
 have HBAD : Hid (Calls Tryz.prog 54 #[.pointer (some ⟨g, 0, none⟩), .int .i64 (i : Int)] w (Res N g t mv (L ++ [(badSg t i).1]) (i + 1) w)) := by
   have := take_bad N g t mv L b i w h hs hL hi hT
   rw [decode_ascii t i hi hasc] at this
   exact this
 obtain ⟨R, hR⟩ : ∃ R, R = i + run t isSym i := ⟨_, rfl⟩
 have hRl : R ≤ t.size := by have := run_le t isSym i; omega
 have hiR : i + 1 ≤ R := by rw [hR, run_yes hi hp]; omega
 have HR : Hid (i + run t isSym i = R) := hR.symm
 have HR1 : Hid (i + 1 + run t isSym (i + 1) = R) := by have h1 := run_yes hi hp; show _ = _; omega
 have HPC : Hid (∀ e, i ≤ e → e ≤ t.size → Calls Tryz.prog 47 #[.pointer (some ⟨g, 0, none⟩), .int .i64 kind, .int .i64 (i : Int), .int .i64 (e : Int)] w (Res N g t mv (L ++ [(mkSg t kind (t.extract i e) 0 i e).1]) e w)) := fun e h1 h2 => add_piece N g t mv L b kind i e w h (by omega) hs h1 h2
 have HBEL : Hid (∀ (c : UInt8) (w : World), Calls Tryz.prog 53 #[.int .u8 (c.toNat : Int)] w fun e w' => e = .returned (.bool (isSym c)) ∧ w' = w) := impl_sym
 obtain ⟨SG, hSG⟩ : ∃ SG, SG = nameSg t kind isSym i := ⟨_, rfl⟩
 rw [← hSG]
 have HSG : Hid (SG = nameSg t kind isSym i) := hSG
 clear h hT hp hasc hR hSG
 go_enter Tryz.func51, Tryz.ntmps51
 go_wp2
 go_loopw [8] (fun vj wr => wr = w ∧ ∃ j : Nat, i + 1 ≤ j ∧ j ≤ i + 21 ∧ j ≤ t.size ∧ vj = .int .i64 (j : Int) ∧ Hid (j + run t isSym j = R)) (fun vj _ => t.size - (intOf vj).toNat)
 case atStart => exact ⟨rfl, i + 1, Nat.le_refl _, by omega, by omega, by go_num, HR1⟩
 case round =>
   obtain ⟨rfl, j, hij, hj21, hjt, rfl, HJ⟩ := hrel
   by_cases hbig : i + 20 < j
   · have HB : Hid (SG = badSg t i) := by
       show _ = _; rw [HSG.out]; unfold nameSg
       rw [if_neg (by have := HR.out; have := HJ.out; omega)]
     clear HSG HJ HR HR1
     by_cases hlt : j < t.size
     · go_wp2_with (go_at_call 54; refine (Calls.mono HBAD.out ?_); rintro r w2 ⟨⟨x, rfl⟩, hs2, hf2⟩; have HS2 : Hid _ := hs2; have HF2 : Hid _ := hf2; clear hs2 hf2)
       refine bodyPost_ret_by (results_none rfl _ _ _) rfl ?_
       exact ⟨⟨_, rfl⟩, by rw [HB.out]; exact HS2.out, HF2.out⟩
     · go_wp2_with (go_at_call 54; refine (Calls.mono HBAD.out ?_); rintro r w2 ⟨⟨x, rfl⟩, hs2, hf2⟩; have HS2 : Hid _ := hs2; have HF2 : Hid _ := hf2; clear hs2 hf2)
       refine bodyPost_ret_by (results_none rfl _ _ _) rfl ?_
       exact ⟨⟨_, rfl⟩, by rw [HB.out]; exact HS2.out, HF2.out⟩
   · by_cases hlt : j < t.size
     · have hcj := t[j].toNat_lt
       have HBJ := HBEL.out t[j]
       cases hpj : isSym t[j] with
       | true =>
         rw [hpj] at HBJ
         have HJ' : Hid (j + 1 + run t isSym (j + 1) = R) := by have := HJ.out; rw [run_yes hlt hpj] at this; show _ = _; omega
         clear hpj HJ HBAD HPC HSG HR HR1
         go_wp2_with (go_at_call 53; refine (HBJ _).mono ?_; rintro e w' ⟨rfl, rfl⟩)
         go_roundw
         case rel => exact ⟨trivial, j + 1, by omega, by omega, by omega, by go_num, HJ'⟩
         case measure => simp [intOf]; omega
       | false =>
         rw [hpj] at HBJ
         obtain rfl : j = R := by have := HJ.out; rw [run_no hlt hpj] at this; omega
         have HB : Hid (SG = mkSg t kind (t.extract i j) 0 i j) := by
           show _ = _; rw [HSG.out]; unfold nameSg
           rw [if_pos (by have := HR.out; omega), HR.out]
         have HPJ : Hid _ := HPC.out j (by omega) hjt
         clear hpj HJ HBAD HPC HSG HR HR1
         go_wp2_with (first | (go_at_call 53; refine (HBJ _).mono ?_; rintro e w' ⟨rfl, rfl⟩) | (go_at_call 47; refine (Calls.mono HPJ.out ?_); rintro r w2 ⟨⟨x, rfl⟩, hs2, hf2⟩; have HS2 : Hid _ := hs2; have HF2 : Hid _ := hf2; clear hs2 hf2))
         refine bodyPost_end (results_none rfl _ _ _) rfl ?_
         exact ⟨⟨_, rfl⟩, by rw [HB.out]; exact HS2.out, HF2.out⟩
     · obtain rfl : j = R := by have := HJ.out; rw [run_end hlt] at this; omega
       have HB : Hid (SG = mkSg t kind (t.extract i j) 0 i j) := by
         show _ = _; rw [HSG.out]; unfold nameSg
         rw [if_pos (by have := HR.out; omega), HR.out]
       have HPJ : Hid _ := HPC.out j (by omega) hjt
       clear HJ HBAD HPC HSG HR HR1
       go_wp2_with (go_at_call 47; refine (Calls.mono HPJ.out ?_); rintro r w2 ⟨⟨x, rfl⟩, hs2, hf2⟩; have HS2 : Hid _ := hs2; have HF2 : Hid _ := hf2; clear hs2 hf2)
       refine bodyPost_end (results_none rfl _ _ _) rfl ?_
       exact ⟨⟨_, rfl⟩, by rw [HB.out]; exact HS2.out, HF2.out⟩
end Go.Proofs.YtbkjcccbjnehbanGreatDoor

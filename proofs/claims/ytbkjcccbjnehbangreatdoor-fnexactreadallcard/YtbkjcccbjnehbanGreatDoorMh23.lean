import Derived.Test.YtbkjcccbjnehbanGreatDoorMh1
import Derived.BigCall
import Derived.WalkKit
import Derived.WalkSpells
import Derived.ProofKit
import Derived.Laws.IdiomStrings
namespace Go.Proofs.YtbkjcccbjnehbanGreatDoor
open Go.RowKit
theorem c_small (c : UInt8) (w : World) : Calls Tryz.prog 34 #[.int .u8 (c.toNat : Int)] w fun e w' => e = .returned (.bool (isSmall c)) ∧ w' = w := by
 have hb := c.toNat_lt
 by_cases h : 97 ≤ c.toNat
 · by_cases h2 : c.toNat ≤ 122
   · have HR : Hid (isSmall c = true) := by show _ = _; unfold isSmall; exact decide_eq_true ⟨h, h2⟩
     go_enter Tryz.func34, Tryz.ntmps34
     go_wp2
     go_ret
     exact ⟨by rw [HR.out]; first | rfl | exact ret_b (decide_eq_true (by omega)) | exact ret_b (decide_eq_false (by omega)) | exact ret_b (beq_iff_eq.2 (by omega)) | exact ret_b (beq_eq_false_iff_ne.2 (by omega)), rfl⟩
   · have HR : Hid (isSmall c = false) := by show _ = _; unfold isSmall; exact decide_eq_false (fun x => h2 x.2)
     go_enter Tryz.func34, Tryz.ntmps34
     go_wp2
     go_ret
     exact ⟨by rw [HR.out]; first | rfl | exact ret_b (decide_eq_true (by omega)) | exact ret_b (decide_eq_false (by omega)) | exact ret_b (beq_iff_eq.2 (by omega)) | exact ret_b (beq_eq_false_iff_ne.2 (by omega)), rfl⟩
 · have HR : Hid (isSmall c = false) := by show _ = _; unfold isSmall; exact decide_eq_false (fun x => h x.1)
   go_enter Tryz.func34, Tryz.ntmps34
   go_wp2
   go_ret
   exact ⟨by rw [HR.out]; first | rfl | exact ret_b (decide_eq_true (by omega)) | exact ret_b (decide_eq_false (by omega)) | exact ret_b (beq_iff_eq.2 (by omega)) | exact ret_b (beq_eq_false_iff_ne.2 (by omega)), rfl⟩
theorem c_fig (c : UInt8) (w : World) : Calls Tryz.prog 37 #[.int .u8 (c.toNat : Int)] w fun e w' => e = .returned (.bool (isFig c)) ∧ w' = w := by
 have hb := c.toNat_lt
 by_cases h : 48 ≤ c.toNat
 · by_cases h2 : c.toNat ≤ 57
   · have HR : Hid (isFig c = true) := by show _ = _; unfold isFig; exact decide_eq_true ⟨h, h2⟩
     go_enter Tryz.func37, Tryz.ntmps37
     go_wp2
     go_ret
     exact ⟨by rw [HR.out]; first | rfl | exact ret_b (decide_eq_true (by omega)) | exact ret_b (decide_eq_false (by omega)) | exact ret_b (beq_iff_eq.2 (by omega)) | exact ret_b (beq_eq_false_iff_ne.2 (by omega)), rfl⟩
   · have HR : Hid (isFig c = false) := by show _ = _; unfold isFig; exact decide_eq_false (fun x => h2 x.2)
     go_enter Tryz.func37, Tryz.ntmps37
     go_wp2
     go_ret
     exact ⟨by rw [HR.out]; first | rfl | exact ret_b (decide_eq_true (by omega)) | exact ret_b (decide_eq_false (by omega)) | exact ret_b (beq_iff_eq.2 (by omega)) | exact ret_b (beq_eq_false_iff_ne.2 (by omega)), rfl⟩
 · have HR : Hid (isFig c = false) := by show _ = _; unfold isFig; exact decide_eq_false (fun x => h x.1)
   go_enter Tryz.func37, Tryz.ntmps37
   go_wp2
   go_ret
   exact ⟨by rw [HR.out]; first | rfl | exact ret_b (decide_eq_true (by omega)) | exact ret_b (decide_eq_false (by omega)) | exact ret_b (beq_iff_eq.2 (by omega)) | exact ret_b (beq_eq_false_iff_ne.2 (by omega)), rfl⟩
theorem c_great (c : UInt8) (w : World) : Calls Tryz.prog 35 #[.int .u8 (c.toNat : Int)] w fun e w' => e = .returned (.bool (isGreat c)) ∧ w' = w := by
 have hb := c.toNat_lt
 have hcs : (65 ≤ c.toNat ∧ c.toNat ≤ 90) ∨ c.toNat = 95 ∨ (c.toNat < 65 ∧ c.toNat ≠ 95) ∨ (65 ≤ c.toNat ∧ 90 < c.toNat ∧ c.toNat ≠ 95) := by omega
 rcases hcs with ⟨h, h2⟩ | h | ⟨h, h2⟩ | ⟨h, h2, h3⟩
 · have HR : Hid (isGreat c = true) := by show _ = _; unfold isGreat; exact decide_eq_true (Or.inl ⟨h, h2⟩)
   go_enter Tryz.func35, Tryz.ntmps35
   go_wp2
   go_ret
   exact ⟨by rw [HR.out]; first | rfl | exact ret_b (decide_eq_true (by omega)) | exact ret_b (decide_eq_false (by omega)) | exact ret_b (beq_iff_eq.2 (by omega)) | exact ret_b (beq_eq_false_iff_ne.2 (by omega)), rfl⟩
 · have HR : Hid (isGreat c = true) := by show _ = _; unfold isGreat; exact decide_eq_true (Or.inr h)
   go_enter Tryz.func35, Tryz.ntmps35
   go_wp2
   go_ret
   exact ⟨by rw [HR.out]; first | rfl | exact ret_b (decide_eq_true (by omega)) | exact ret_b (decide_eq_false (by omega)) | exact ret_b (beq_iff_eq.2 (by omega)) | exact ret_b (beq_eq_false_iff_ne.2 (by omega)), rfl⟩
 · have HR : Hid (isGreat c = false) := by show _ = _; unfold isGreat; exact decide_eq_false (by omega)
   have e1 : ((c.toNat : Int) == 95) = false := beq_eq_false_iff_ne.2 (by omega)
   go_enter Tryz.func35, Tryz.ntmps35
   go_wp2
   go_ret
   exact ⟨by rw [HR.out]; first | rfl | exact ret_b (decide_eq_true (by omega)) | exact ret_b (decide_eq_false (by omega)) | exact ret_b (beq_iff_eq.2 (by omega)) | exact ret_b (beq_eq_false_iff_ne.2 (by omega)), rfl⟩
 · have HR : Hid (isGreat c = false) := by show _ = _; unfold isGreat; exact decide_eq_false (by omega)
   have e1 : ((c.toNat : Int) == 95) = false := beq_eq_false_iff_ne.2 (by omega)
   go_enter Tryz.func35, Tryz.ntmps35
   go_wp2
   go_ret
   exact ⟨by rw [HR.out]; first | rfl | exact ret_b (decide_eq_true (by omega)) | exact ret_b (decide_eq_false (by omega)) | exact ret_b (beq_iff_eq.2 (by omega)) | exact ret_b (beq_eq_false_iff_ne.2 (by omega)), rfl⟩
theorem c_blank (c : UInt8) (w : World) : Calls Tryz.prog 23 #[.int .u8 (c.toNat : Int)] w fun e w' => e = .returned (.bool (isBlank c)) ∧ w' = w := by
 have hb := c.toNat_lt
 have hcs : c.toNat = 32 ∨ c.toNat = 9 ∨ c.toNat = 10 ∨ (c.toNat ≠ 32 ∧ c.toNat ≠ 9 ∧ c.toNat ≠ 10) := by omega
 rcases hcs with h | h | h | ⟨h, h2, h3⟩
 · have HR : Hid (isBlank c = true) := by show _ = _; unfold isBlank; exact decide_eq_true (by omega)
   go_enter Tryz.func23, Tryz.ntmps23
   go_wp2
   go_ret
   exact ⟨by rw [HR.out]; first | rfl | exact ret_b (decide_eq_true (by omega)) | exact ret_b (decide_eq_false (by omega)) | exact ret_b (beq_iff_eq.2 (by omega)) | exact ret_b (beq_eq_false_iff_ne.2 (by omega)), rfl⟩
 · have HR : Hid (isBlank c = true) := by show _ = _; unfold isBlank; exact decide_eq_true (by omega)
   go_enter Tryz.func23, Tryz.ntmps23
   go_wp2
   go_ret
   exact ⟨by rw [HR.out]; first | rfl | exact ret_b (decide_eq_true (by omega)) | exact ret_b (decide_eq_false (by omega)) | exact ret_b (beq_iff_eq.2 (by omega)) | exact ret_b (beq_eq_false_iff_ne.2 (by omega)), rfl⟩
 · have HR : Hid (isBlank c = true) := by show _ = _; unfold isBlank; exact decide_eq_true (by omega)
   go_enter Tryz.func23, Tryz.ntmps23
   go_wp2
   go_ret
   exact ⟨by rw [HR.out]; first | rfl | exact ret_b (decide_eq_true (by omega)) | exact ret_b (decide_eq_false (by omega)) | exact ret_b (beq_iff_eq.2 (by omega)) | exact ret_b (beq_eq_false_iff_ne.2 (by omega)), rfl⟩
 · have HR : Hid (isBlank c = false) := by show _ = _; unfold isBlank; exact decide_eq_false (by omega)
   have e1 : ((c.toNat : Int) == 32) = false := beq_eq_false_iff_ne.2 (by omega)
   have e2 : ((c.toNat : Int) == 9) = false := beq_eq_false_iff_ne.2 (by omega)
   have e3 : ((c.toNat : Int) == 10) = false := beq_eq_false_iff_ne.2 (by omega)
   go_enter Tryz.func23, Tryz.ntmps23
   go_wp2
   go_ret
   exact ⟨by rw [HR.out]; first | rfl | exact ret_b (decide_eq_true (by omega)) | exact ret_b (decide_eq_false (by omega)) | exact ret_b (beq_iff_eq.2 (by omega)) | exact ret_b (beq_eq_false_iff_ne.2 (by omega)), rfl⟩
theorem c_word (c : UInt8) (w : World) : Calls Tryz.prog 58 #[.int .u8 (c.toNat : Int)] w fun e w' => e = .returned (.bool (isWord c)) ∧ w' = w := by
 have HS := c_small c
 have HG := c_great c
 have HF := c_fig c
 have hw : isWord c = (isSmall c || isGreat c || isFig c) := rfl
 rw [hw]
 generalize isSmall c = a at *
 generalize isGreat c = b at *
 generalize isFig c = d at *
 clear hw
 cases a <;> cases b <;> cases d
 all_goals
   go_enter Tryz.func58, Tryz.ntmps58
   go_wp2_with (first | (go_at_call 34; refine (HS _).mono ?_; rintro e w' ⟨rfl, rfl⟩) | (go_at_call 35; refine (HG _).mono ?_; rintro e w' ⟨rfl, rfl⟩) | (go_at_call 37; refine (HF _).mono ?_; rintro e w' ⟨rfl, rfl⟩))
   go_ret
   exact ⟨rfl, rfl⟩
end Go.Proofs.YtbkjcccbjnehbanGreatDoor

namespace Go.Proofs.YtbkjcccbjnehbanGreatDoor
open Go.RowKit
def varB (n : Nat) : List UInt8 := if h : 127 < n then UInt8.ofNat (n % 128 + 128) :: varB (n / 128) else [UInt8.ofNat n]
theorem size_mk (l : List UInt8) : (⟨l.toArray⟩ : ByteArray).size = l.length := by simp [ByteArray.size]
def bytesV (l : List UInt8) : List Value := l.map fun b => Value.int .u8 (b.toNat : Int)
end Go.Proofs.YtbkjcccbjnehbanGreatDoor

namespace Go.Proofs.YtbkjcccbjnehbanGreatDoor
open Go.RowKit
set_option maxRecDepth 100000 in
theorem spec_sym (c : UInt8) (w : World) :
   Calls Tryz.prog 40 #[.int .u8 (c.toNat : Int)] w fun e w' => e = .returned (.bool (isSym c)) ∧ w' = w := by
 obtain ⟨R, hR⟩ : ∃ R, R = isSym c := ⟨_, rfl⟩
 rw [← hR]
 have HR : Hid (isSym c = R) := hR.symm
 clear hR
 go_enter Tryz.func40, Tryz.ntmps40
 have hb := c.toNat_lt
 go_wp2
 go_loopw [4] (fun i wr => wr = w ∧ ∃ k : Nat, k ≤ 17 ∧ i = .int .i64 (k : Int) ∧ Hid (c ∉ symL.take k)) (fun i _ => 17 - (intOf i).toNat)
 case atStart => exact ⟨rfl, 0, by omega, rfl, by show _ ∉ _; simp⟩
 case round =>
   obtain ⟨rfl, k, hk, rfl, hp⟩ := hrel
   by_cases hlt : k < 17
   · have hsz : k < symS.size := hlt
     have hc := symS[k].toNat_lt
     have hmem : symS[k] ∈ symL := by
       show symS.data.toList[k] ∈ symL
       exact List.getElem_mem _
     have htk : symL.take (k + 1) = symL.take k ++ [symS[k]] := by
       rw [List.take_succ_eq_append_getElem (show k < symL.length from hlt)]
       rfl
     by_cases he : symS[k] = c
     · have HT : Hid (R = true) := by
         show _ = _
         rw [← HR.out, ← he]; unfold isSym; simpa using hmem
       have e1 : ((symS[k].toNat : Int) == (c.toNat : Int)) = true := by rw [he]; simp
       clear hp hmem htk HR
       go_wp2
       go_ret
       exact ⟨by rw [HT.out]; rfl, rfl⟩
     · have hp' : Hid (c ∉ symL.take (k + 1)) := by
         show _ ∉ _
         rw [htk]
         intro hm
         rcases List.mem_append.1 hm with h | h
         · exact hp.out h
         · simp at h; exact he h.symm
       have e1 : ((symS[k].toNat : Int) == (c.toNat : Int)) = false := by
         apply beq_eq_false_iff_ne.2
         intro h
         exact he (UInt8.toNat_inj.1 (by omega))
       clear hp hmem htk HR
       go_wp2
       go_roundw
       case rel => exact ⟨trivial, k + 1, by omega, by go_num, hp'⟩
       case measure => simp [intOf]; omega
   · have HF : Hid (R = false) := by
       show _ = _
       rw [← HR.out]
       have := hp.out
       rw [List.take_of_length_le (show symL.length ≤ k by show 17 ≤ k; omega)] at this
       unfold isSym; simpa using this
     obtain rfl : k = 17 := by omega
     clear hp HR
     go_wp2
     go_ret
     exact ⟨by rw [HF.out]; rfl, rfl⟩
end Go.Proofs.YtbkjcccbjnehbanGreatDoor

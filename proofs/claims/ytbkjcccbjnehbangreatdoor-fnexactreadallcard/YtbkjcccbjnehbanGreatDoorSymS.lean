/- spec.SymbolByte. -/
import Derived.Test.YtbkjcccbjnehbanGreatDoorSymP
import Derived.Test.YtbkjcccbjnehbanGreatDoorVarPlain
import Derived.BigCall
namespace Go.Proofs.YtbkjcccbjnehbanGreatDoor
open Go.RowKit

set_option maxRecDepth 100000 in
theorem spec_sym (c : UInt8) (w : World) :
    Calls Tryz.prog 40 #[.int .u8 (c.toNat : Int)] w fun e w' => e = .returned (.bool (isSym c)) ∧ w' = w := by
  obtain ⟨R, hR⟩ : ∃ R, R = isSym c := ⟨_, rfl⟩
  rw [← hR]
  have HR : Hid (isSym c = R) := hR.symm
  clear hR
  go_enter Tryz.func40, Tryz.ntmps40
  have hb := c.toNat_lt
  go_wp2
  go_loopw [4] (fun i wr => wr = w ∧ ∃ k : Nat, k ≤ 17 ∧ i = .int .i64 (k : Int) ∧ Hid (c ∉ symL.take k)) (fun i _ => 17 - (intOf i).toNat)
  case atStart => exact ⟨rfl, 0, by omega, rfl, by show _ ∉ _; simp⟩
  case round =>
    obtain ⟨rfl, k, hk, rfl, hp⟩ := hrel
    by_cases hlt : k < 17
    · have hsz : k < symS.size := hlt
      have hc := symS[k].toNat_lt
      have hmem : symS[k] ∈ symL := by
        show symS.data.toList[k] ∈ symL
        exact List.getElem_mem _
      have htk : symL.take (k + 1) = symL.take k ++ [symS[k]] := by
        rw [List.take_succ_eq_append_getElem (show k < symL.length from hlt)]
        rfl
      by_cases he : symS[k] = c
      · have HT : Hid (R = true) := by
          show _ = _
          rw [← HR.out, ← he]; unfold isSym; simpa using hmem
        have e1 : ((symS[k].toNat : Int) == (c.toNat : Int)) = true := by rw [he]; simp
        clear hp hmem htk HR
        go_wp2
        go_ret
        exact ⟨by rw [HT.out]; rfl, rfl⟩
      · have hp' : Hid (c ∉ symL.take (k + 1)) := by
          show _ ∉ _
          rw [htk]
          intro hm
          rcases List.mem_append.1 hm with h | h
          · exact hp.out h
          · simp at h; exact he h.symm
        have e1 : ((symS[k].toNat : Int) == (c.toNat : Int)) = false := by
          apply beq_eq_false_iff_ne.2
          intro h
          exact he (UInt8.toNat_inj.1 (by omega))
        clear hp hmem htk HR
        go_wp2
        go_roundw
        case rel => exact ⟨trivial, k + 1, by omega, by go_num, hp'⟩
        case measure => simp [intOf]; omega
    · have HF : Hid (R = false) := by
        show _ = _
        rw [← HR.out]
        have := hp.out
        rw [List.take_of_length_le (show symL.length ≤ k by show 17 ≤ k; omega)] at this
        unfold isSym; simpa using this
      obtain rfl : k = 17 := by omega
      clear hp HR
      go_wp2
      go_ret
      exact ⟨by rw [HF.out]; rfl, rfl⟩
end Go.Proofs.YtbkjcccbjnehbanGreatDoor

/- slices.Contains and slices.Index of []string. -/
import Derived.Test.YtmhmlkdoaojimapDoorRows
import Derived.Test.YtmhmlkdoaojimapDoorMrg2
import Derived.ProofKit
namespace Go.Proofs.YtmhmlkdoaojimapDoor
open Go.RowKit

theorem toL_mk (s : ByteArray) : (⟨s.toList.toArray⟩ : ByteArray) = s := by
  rw [ByteArray.toList_eq]

theorem index_strs (xs : List ByteArray) (w : World) (sl : Value) (name : ByteArray) (h : SsIn w xs sl) :
    Calls Tryd.prog 65 #[sl, .string name] w fun e w' => ∃ r : Int, e = .returned (.int .i64 r) ∧ (0 ≤ r ↔ name ∈ xs) ∧ w' = w := by
  obtain ⟨ao, cap, rfl, hcap, hmax, h⟩ := h
  have hlen : xs.length ≤ maxLen := by omega
  unfold maxLen at hlen
  clear hcap hmax
  go_enter Tryd.func65, Tryd.ntmps65
  go_wp2
  go_loopw [5, 8] (fun v5 v8 wr => Hid (wr = w) ∧ ∃ j : Nat, j ≤ xs.length ∧ v8 = .int .i64 (j : Int) ∧ Hid (∀ k (hk : k < xs.length), k < j → xs[k] ≠ name)) (fun _ i _ => xs.length - (intOf i).toNat)
  case atStart => exact ⟨rfl, 0, by omega, rfl, fun k _ hk => by omega⟩
  case round =>
    obtain ⟨HB, j, hj, rfl, HN⟩ := hrel
    obtain rfl := HB.out
    by_cases hlt : j < xs.length
    · obtain ⟨b, off, rfl, hin⟩ := h (by intro e; subst e; simp at hlt)
      obtain ⟨hc, _⟩ := hin j hlt
      have HM : Hid (xs[j] ∈ xs) := List.getElem_mem hlt
      have HS : Hid (xs[j] ≠ name → ∀ k (hk : k < xs.length), k < j + 1 → xs[k] ≠ name) := fun hne k hk hkj => by
        by_cases e : k = j
        · subst e; exact hne
        · exact HN.out k hk (by omega)
      clear hin h HN
      generalize xs[j] = xj at *
      by_cases e : xj = name
      · subst e
        go_wp2
        go_ret
        exact ⟨_, rfl, ⟨fun _ => HM.out, fun _ => by omega⟩, rfl⟩
      · have e' : ¬ name = xj := fun h => e h.symm
        have e3 : (name.toList == xj.toList) = false := by
          rw [beq_eq_false_iff_ne]
          intro h
          exact e' (by rw [← toL_mk name, ← toL_mk xj, h])
        go_wp2
        go_roundw
        case rel => exact ⟨by first | exact rfl | exact trivial, j + 1, by omega, by go_num, HS.out e⟩
        case measure => simp [intOf]; omega
    · go_wp2
      go_ret
      refine ⟨_, rfl, ⟨fun h => by omega, fun hm => ?_⟩, rfl⟩
      obtain ⟨k, hk, he⟩ := List.mem_iff_getElem.1 hm
      exact absurd he (HN.out k hk (by omega))

theorem contains_strs (xs : List ByteArray) (w : World) (sl : Value) (name : ByteArray) (h : SsIn w xs sl) :
    Calls Tryd.prog 45 #[sl, .string name] w fun e w' => ∃ q : Bool, e = .returned (.bool q) ∧ (q = true ↔ name ∈ xs) ∧ w' = w := by
  have HC : Hid _ := index_strs xs w sl name h
  obtain ⟨ao, cap, rfl, -⟩ := h
  go_enter Tryd.func45, Tryd.ntmps45
  go_wp2_with (go_at_call 65; refine (Calls.mono HC.out ?_); rintro e w1 ⟨r, rfl, hr, rfl⟩; have HR : Hid (0 ≤ r ↔ name ∈ xs) := hr; clear hr)
  go_ret
  exact ⟨_, rfl, by rw [← HR.out]; simp, rfl⟩
end Go.Proofs.YtmhmlkdoaojimapDoor

/- The code's together and parted: texts one behind the other. -/
import Derived.Test.YtceclkcmiaehkaoDoorBldI
import Derived.Test.YtceclkcmiaehkaoDoorWtP
namespace Go.Proofs.YtceclkcmiaehkaoDoor
open Go.RowKit

/-- texts in a row of cells -/
def TxtAt (w : World) (g off : Nat) (xs : List (List UInt8)) : Prop := ∀ j (hj : j < xs.length), w.cell? ⟨g, off + j, none⟩ = some (.string ⟨xs[j].toArray⟩)
theorem TxtAt.keep {w w' : World} {g off : Nat} {xs : List (List UInt8)} (h : TxtAt w g off xs) (hb : Below w.heap.size w w') : TxtAt w' g off xs := fun j hj => cell_keep (h j hj) hb

theorem flat_take {xs : List (List UInt8)} {j : Nat} (hj : j < xs.length) : (xs.take (j + 1)).flatten = (xs.take j).flatten ++ xs[j] := by
  rw [List.take_succ_eq_append_getElem hj, List.flatten_append, List.flatten_cons, List.flatten_nil, List.append_nil]
theorem flat_le {xs : List (List UInt8)} {j : Nat} (hj : j < xs.length) : (xs.take j).flatten.length + xs[j].length ≤ xs.flatten.length := by
  rw [← List.length_append, ← flat_take hj]
  conv => rhs; rw [← List.take_append_drop (j + 1) xs, List.flatten_append, List.length_append]
  omega

set_option maxHeartbeats 1000000 in
theorem tog_any (xs : List (List UInt8)) (g off : Nat) (n cap : Nat) (w : World) (hn : xs.length = n) (hx : TxtAt w g off xs) (hc : n ≤ cap) (hcap : cap ≤ maxLen) (hl : xs.flatten.length ≤ 1099511627776) :
    Calls Tryd.prog 8 #[.slice (some ⟨g, off, none⟩) n cap] w fun e w' => e = .returned (.string ⟨xs.flatten.toArray⟩) ∧ Below w.heap.size w w' := by
  unfold maxLen at hcap
  have HN : Hid (xs.length = n) := hn
  have HX : Hid (TxtAt w g off xs) := hx
  have HL : Hid (xs.flatten.length ≤ 1099511627776) := hl
  obtain ⟨W, hW⟩ : ∃ W, W = w.alloc (.cells #[.pointer none, .slice none 0 0] 37) := ⟨_, rfl⟩
  have HB0 : Hid (Lib.IsBuilder 37 5 w.heap.size w.heap.size (Lib.byteCells []) W) := by rw [hW]; exact fresh_builder w
  have HBW : Hid (Below w.heap.size w W) := by rw [hW]; exact (Below.refl _ _).alloc (Nat.le_refl _) _
  clear hn hx hl
  go_enter Tryd.func8, Tryd.ntmps8
  go_wp2
  rw [← hW]
  clear hW
  go_loopw [8] (fun vi wr => ∃ j : Nat, j ≤ n ∧ vi = .int .i64 (j : Int) ∧ Hid (Below w.heap.size w wr) ∧ Hid (Lib.IsBuilder 37 5 w.heap.size w.heap.size (Lib.byteCells (xs.take j).flatten) wr)) (fun vi _ => n - (intOf vi).toNat)
  case atStart => exact ⟨0, Nat.zero_le _, rfl, HBW.out, by rw [List.take_zero]; exact HB0.out⟩
  case round =>
    obtain ⟨j, hj, rfl, HB, HI⟩ := hrel
    by_cases hlt : j < n
    · have hjx : j < xs.length := by have := HN.out; omega
      have hcell := HX.out j hjx
      have hcell' : wr.cell? ⟨g, off + j, none⟩ = some (.string ⟨xs[j].toArray⟩) := cell_keep hcell HB.out
      have HT := flat_take hjx
      have HLE := flat_le hjx
      generalize xs[j] = x at *
      replace HT : Hid _ := HT
      have HLE' : Hid ((Lib.byteCells (xs.take j).flatten).length + x.length ≤ 1099511627776) := by show _ ≤ _; rw [byte_cells_len]; have := HL.out; omega
      clear HLE hjx hcell
      go_wp2_with (go_at_call 12; refine (write_string _ _ _ _ _ HI.out (by have := HLE'.out; simp [ByteArray.size] at *; omega) HB.out.size).mono ?_; rintro e w1 ⟨rfl, h1, b1⟩; have HI1 : Hid _ := h1; have HB1 : Hid (Below w.heap.size w w1) := HB.out.trans (b1.mono (Nat.le_refl _)); clear h1 b1)
      go_roundw
      case rel => exact ⟨j + 1, by omega, by go_num, HB1.out, by rw [HT.out, byte_cells_append]; have := HI1.out; rwa [str_cells] at this⟩
      case measure => simp [intOf]; omega
    · obtain rfl : j = n := by omega
      have HF : Hid (Lib.IsBuilder 37 5 w.heap.size w.heap.size (Lib.byteCells xs.flatten) wr) := by
        have := HI.out
        rwa [List.take_of_length_le (by rw [HN.out]; exact Nat.le_refl _)] at this
      clear HI
      go_wp2_with (go_at_call 13; refine (sh_Builder_String_any _ _ _ _ HF.out HB.out.size).mono ?_; rintro e w1 ⟨rfl, b1⟩; have HB1 : Hid (Below w.heap.size w w1) := HB.out.trans (b1.mono (Nat.le_refl _)); clear b1)
      go_ret
      exact ⟨rfl, HB1.out⟩
end Go.Proofs.YtceclkcmiaehkaoDoor

/- Texts: unlike ones, joined ones, ones laid in a block. -/
import Derived.Test.YtceclkcmiaehkaoDoorTogI
import Derived.Laws.Concat
namespace Go.Proofs.YtceclkcmiaehkaoDoor
open Go.RowKit

theorem toL_ne2 {a b : ByteArray} (h : ¬ a = b) : (a.toList == b.toList) = false := by
  rw [beq_eq_false_iff_ne]
  intro e
  apply h
  rw [ByteArray.toList_eq, ByteArray.toList_eq] at e
  apply ByteArray.ext
  exact Array.toList_inj.1 e

theorem add_txt (a b : List UInt8) (h : a.length + b.length ≤ 1099511627776) (u : World) :
    (Op.stringOp .add ⟨a.toArray⟩ ⟨b.toArray⟩).run Tryd.prog u = .ok (.string ⟨(a ++ b).toArray⟩) u := by
  have h := run_string_add_sum (P := Tryd.prog) u ⟨a.toArray⟩ ⟨b.toArray⟩ (by rw [size_mk, size_mk]; omega)
  have e : (⟨a.toArray⟩ : ByteArray) ++ ⟨b.toArray⟩ = ⟨(a ++ b).toArray⟩ := by rw [ByteArray.mk_append_mk]
  rw [h, e]
theorem mk_data (s : ByteArray) : (⟨s.data.toList.toArray⟩ : ByteArray) = s := by simp

/-- texts laid in a new block -/
theorem txt_new (w : World) (xs : List (List UInt8)) : TxtAt (w.alloc (.cells (xs.map fun x => Value.string ⟨x.toArray⟩).toArray 9)) w.heap.size 0 xs := by
  intro j hj
  rw [Lib.cell_of_heap (heap_alloc_new w _)]
  simp [hj]

theorem txt1 (w : World) (a : List UInt8) : TxtAt (w.alloc (.cells #[Value.string ⟨a.toArray⟩] 9)) w.heap.size 0 [a] := txt_new w [a]
theorem txt2 (w : World) (a b : List UInt8) : TxtAt (w.alloc (.cells #[Value.string ⟨a.toArray⟩, Value.string ⟨b.toArray⟩] 9)) w.heap.size 0 [a, b] := txt_new w [a, b]
theorem txt3 (w : World) (a b c : List UInt8) : TxtAt (w.alloc (.cells #[Value.string ⟨a.toArray⟩, Value.string ⟨b.toArray⟩, Value.string ⟨c.toArray⟩] 9)) w.heap.size 0 [a, b, c] := txt_new w [a, b, c]
theorem txt5 (w : World) (a b c d e : List UInt8) : TxtAt (w.alloc (.cells #[Value.string ⟨a.toArray⟩, Value.string ⟨b.toArray⟩, Value.string ⟨c.toArray⟩, Value.string ⟨d.toArray⟩, Value.string ⟨e.toArray⟩] 9)) w.heap.size 0 [a, b, c, d, e] := txt_new w [a, b, c, d, e]
theorem tog1 (x1 : List UInt8) (h : x1.length ≤ 1000000) (w : World) :
    Calls Tryd.prog 8 #[.slice (some ⟨w.heap.size, 0, none⟩) 1 1] (w.alloc (.cells #[.string ⟨x1.toArray⟩] 9)) fun e w' => e = .returned (.string ⟨(x1).toArray⟩) ∧ Below w.heap.size w w' := by
  refine (tog_any [x1] w.heap.size 0 1 1 _ rfl (txt1 w x1) (Nat.le_refl _) (by unfold maxLen; omega) (by simp only [List.flatten_cons, List.flatten_nil, List.append_nil]; omega)).mono ?_
  rintro e w' ⟨rfl, hb⟩
  exact ⟨by simp only [List.flatten_cons, List.flatten_nil, List.append_nil], ((Below.refl _ _).alloc (Nat.le_refl _) _).trans (hb.mono (by simp))⟩
theorem tog2 (x1 x2 : List UInt8) (h : x1.length + x2.length ≤ 1000000) (w : World) :
    Calls Tryd.prog 8 #[.slice (some ⟨w.heap.size, 0, none⟩) 2 2] (w.alloc (.cells #[.string ⟨x1.toArray⟩, .string ⟨x2.toArray⟩] 9)) fun e w' => e = .returned (.string ⟨(x1 ++ x2).toArray⟩) ∧ Below w.heap.size w w' := by
  refine (tog_any [x1, x2] w.heap.size 0 2 2 _ rfl (txt2 w x1 x2) (Nat.le_refl _) (by unfold maxLen; omega) (by simp only [List.flatten_cons, List.flatten_nil, List.append_nil, List.length_append]; omega)).mono ?_
  rintro e w' ⟨rfl, hb⟩
  exact ⟨by simp only [List.flatten_cons, List.flatten_nil, List.append_nil], ((Below.refl _ _).alloc (Nat.le_refl _) _).trans (hb.mono (by simp))⟩
theorem tog3 (x1 x2 x3 : List UInt8) (h : x1.length + x2.length + x3.length ≤ 1000000) (w : World) :
    Calls Tryd.prog 8 #[.slice (some ⟨w.heap.size, 0, none⟩) 3 3] (w.alloc (.cells #[.string ⟨x1.toArray⟩, .string ⟨x2.toArray⟩, .string ⟨x3.toArray⟩] 9)) fun e w' => e = .returned (.string ⟨(x1 ++ x2 ++ x3).toArray⟩) ∧ Below w.heap.size w w' := by
  refine (tog_any [x1, x2, x3] w.heap.size 0 3 3 _ rfl (txt3 w x1 x2 x3) (Nat.le_refl _) (by unfold maxLen; omega) (by simp only [List.flatten_cons, List.flatten_nil, List.append_nil, List.length_append]; omega)).mono ?_
  rintro e w' ⟨rfl, hb⟩
  exact ⟨by simp only [List.flatten_cons, List.flatten_nil, List.append_nil, List.append_assoc], ((Below.refl _ _).alloc (Nat.le_refl _) _).trans (hb.mono (by simp))⟩
theorem txt4 (w : World) (x1 x2 x3 x4 : List UInt8) : TxtAt (w.alloc (.cells #[.string ⟨x1.toArray⟩, .string ⟨x2.toArray⟩, .string ⟨x3.toArray⟩, .string ⟨x4.toArray⟩] 9)) w.heap.size 0 [x1, x2, x3, x4] := txt_new w [x1, x2, x3, x4]
theorem tog4 (x1 x2 x3 x4 : List UInt8) (h : x1.length + x2.length + x3.length + x4.length ≤ 1000000) (w : World) :
    Calls Tryd.prog 8 #[.slice (some ⟨w.heap.size, 0, none⟩) 4 4] (w.alloc (.cells #[.string ⟨x1.toArray⟩, .string ⟨x2.toArray⟩, .string ⟨x3.toArray⟩, .string ⟨x4.toArray⟩] 9)) fun e w' => e = .returned (.string ⟨(x1 ++ x2 ++ x3 ++ x4).toArray⟩) ∧ Below w.heap.size w w' := by
  refine (tog_any [x1, x2, x3, x4] w.heap.size 0 4 4 _ rfl (txt4 w x1 x2 x3 x4) (Nat.le_refl _) (by unfold maxLen; omega) (by simp only [List.flatten_cons, List.flatten_nil, List.append_nil, List.length_append]; omega)).mono ?_
  rintro e w' ⟨rfl, hb⟩
  exact ⟨by simp only [List.flatten_cons, List.flatten_nil, List.append_nil, List.append_assoc], ((Below.refl _ _).alloc (Nat.le_refl _) _).trans (hb.mono (by simp))⟩
theorem tog5 (x1 x2 x3 x4 x5 : List UInt8) (h : x1.length + x2.length + x3.length + x4.length + x5.length ≤ 1000000) (w : World) :
    Calls Tryd.prog 8 #[.slice (some ⟨w.heap.size, 0, none⟩) 5 5] (w.alloc (.cells #[.string ⟨x1.toArray⟩, .string ⟨x2.toArray⟩, .string ⟨x3.toArray⟩, .string ⟨x4.toArray⟩, .string ⟨x5.toArray⟩] 9)) fun e w' => e = .returned (.string ⟨(x1 ++ x2 ++ x3 ++ x4 ++ x5).toArray⟩) ∧ Below w.heap.size w w' := by
  refine (tog_any [x1, x2, x3, x4, x5] w.heap.size 0 5 5 _ rfl (txt5 w x1 x2 x3 x4 x5) (Nat.le_refl _) (by unfold maxLen; omega) (by simp only [List.flatten_cons, List.flatten_nil, List.append_nil, List.length_append]; omega)).mono ?_
  rintro e w' ⟨rfl, hb⟩
  exact ⟨by simp only [List.flatten_cons, List.flatten_nil, List.append_nil, List.append_assoc], ((Below.refl _ _).alloc (Nat.le_refl _) _).trans (hb.mono (by simp))⟩
theorem txt7 (w : World) (x1 x2 x3 x4 x5 x6 x7 : List UInt8) : TxtAt (w.alloc (.cells #[.string ⟨x1.toArray⟩, .string ⟨x2.toArray⟩, .string ⟨x3.toArray⟩, .string ⟨x4.toArray⟩, .string ⟨x5.toArray⟩, .string ⟨x6.toArray⟩, .string ⟨x7.toArray⟩] 9)) w.heap.size 0 [x1, x2, x3, x4, x5, x6, x7] := txt_new w [x1, x2, x3, x4, x5, x6, x7]
theorem tog7 (x1 x2 x3 x4 x5 x6 x7 : List UInt8) (h : x1.length + x2.length + x3.length + x4.length + x5.length + x6.length + x7.length ≤ 1000000) (w : World) :
    Calls Tryd.prog 8 #[.slice (some ⟨w.heap.size, 0, none⟩) 7 7] (w.alloc (.cells #[.string ⟨x1.toArray⟩, .string ⟨x2.toArray⟩, .string ⟨x3.toArray⟩, .string ⟨x4.toArray⟩, .string ⟨x5.toArray⟩, .string ⟨x6.toArray⟩, .string ⟨x7.toArray⟩] 9)) fun e w' => e = .returned (.string ⟨(x1 ++ x2 ++ x3 ++ x4 ++ x5 ++ x6 ++ x7).toArray⟩) ∧ Below w.heap.size w w' := by
  refine (tog_any [x1, x2, x3, x4, x5, x6, x7] w.heap.size 0 7 7 _ rfl (txt7 w x1 x2 x3 x4 x5 x6 x7) (Nat.le_refl _) (by unfold maxLen; omega) (by simp only [List.flatten_cons, List.flatten_nil, List.append_nil, List.length_append]; omega)).mono ?_
  rintro e w' ⟨rfl, hb⟩
  exact ⟨by simp only [List.flatten_cons, List.flatten_nil, List.append_nil, List.append_assoc], ((Below.refl _ _).alloc (Nat.le_refl _) _).trans (hb.mono (by simp))⟩
end Go.Proofs.YtceclkcmiaehkaoDoor

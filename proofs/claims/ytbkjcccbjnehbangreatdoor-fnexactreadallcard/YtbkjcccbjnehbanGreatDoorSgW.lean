/- Rows of signs in blocks of their own. -/
import Derived.Test.YtbkjcccbjnehbanGreatDoorRows
import Derived.Test.YtbkjcccbjnehbanGreatDoorSgP
import Derived.Maps.AppendAt
import Derived.ProofKit
namespace Go.Proofs.YtbkjcccbjnehbanGreatDoor
open Go.RowKit

def sgCells (s : Sg) : List Value := [.int .i64 s.kind, .string s.text, .int .i64 s.num, .int .i64 (s.at_ : Int), .bool s.near]
def sgsV (L : List Sg) : List Value := L.flatMap sgCells
theorem sgsV_push (L : List Sg) (s : Sg) : sgsV (L ++ [s]) = sgsV L ++ sgCells s := by simp [sgsV]
theorem sgsV_len (L : List Sg) : (sgsV L).length = L.length * 5 := by
  induction L with
  | nil => rfl
  | cons s r ih =>
    have : sgsV (s :: r) = sgCells s ++ sgsV r := by simp [sgsV]
    rw [this, List.length_append, ih, List.length_cons]
    simp [sgCells]; omega
theorem sgsV_at (L : List Sg) (j k : Nat) (hj : j < L.length) (hk : k < 5) : (sgsV L)[j * 5 + k]? = (sgCells L[j])[k]? := by
  induction L generalizing j with
  | nil => simp at hj
  | cons s r ih =>
    have e : sgsV (s :: r) = sgCells s ++ sgsV r := by simp [sgsV]
    rw [e]
    have hl : (sgCells s).length = 5 := rfl
    cases j with
    | zero => rw [List.getElem?_append_left (by omega)]; simp
    | succ j =>
      rw [List.getElem?_append_right (by omega), hl, show (j + 1) * 5 + k - 5 = j * 5 + k by omega, ih j (by simpa using hj)]
      rfl

theorem infoS : (Tryz.prog.info? 45).map (fun i => (i.zero, i.size, i.bytes)) = some (some (.agg #[.int .i64 0, .string ⟨#[]⟩, .int .i64 0, .int .i64 0, .bool false]), 5, 48) := by kernel_rfl
theorem info_partsS {P : Program} {e : TypeId} {z : Value} {s b : Nat} (h : (P.info? e).map (fun i => (i.zero, i.size, i.bytes)) = some (some z, s, b)) : ∃ i, P.info? e = some i ∧ i.zero = some z ∧ i.size = s ∧ i.bytes = b := by
  cases h' : P.info? e with
  | none => rw [h'] at h; cases h
  | some i => rw [h'] at h; simp at h; exact ⟨i, rfl, h.1, h.2.1, h.2.2⟩

/-- a row of signs in a block of its own, above B -/
def SgRow (w : World) (B : Nat) (L : List Sg) (v : Value) : Prop := w.ownsRow B 45 5 v L.length (sgsV L)
theorem SgRow.shape {w : World} {B : Nat} {L : List Sg} {v : Value} (h : SgRow w B L v) : ∃ ao cap, v = .slice ao L.length cap ∧ cap ≤ maxLen ∧ L.length ≤ cap := by
  rcases h.2 with ⟨rfl, h0⟩ | ⟨g, cap, cur, rfl, hb, hh, h1, h2, h3, h4⟩
  · exact ⟨none, 0, by rw [h0], Nat.zero_le _, by omega⟩
  · exact ⟨_, cap, rfl, h2, h1⟩
theorem SgRow.keep {w w' : World} {B : Nat} {L : List Sg} {v : Value} (h : SgRow w B L v) (hb : Below w.heap.size w w') : SgRow w' B L v := by
  refine ⟨h.1, ?_⟩
  rcases h.2 with hn | ⟨g, cap, cur, e, h1, h2, h3⟩
  · exact Or.inl hn
  · exact Or.inr ⟨g, cap, cur, e, h1, (hb.block g (Array.getElem?_eq_some_iff.1 h2).1).trans h2, h3⟩
theorem SgRow.turn {w w' : World} {B : Nat} {L : List Sg} {v : Value} (h : SgRow w B L v) (hb : ∀ b, v.ownBlock = some b → w'.heap[b]? = w.heap[b]?) : SgRow w' B L v := by
  refine ⟨h.1, ?_⟩
  rcases h.2 with hn | ⟨g, cap, cur, e, h1, h2, h3⟩
  · exact Or.inl hn
  · exact Or.inr ⟨g, cap, cur, e, h1, (hb g (by rw [e]; rfl)).trans h2, h3⟩
theorem SgRow.nil (w : World) (B : Nat) : SgRow w B [] (.slice none 0 0) := ⟨by simp [sgsV], Or.inl ⟨rfl, rfl⟩⟩
theorem SgRow.new {w : World} {B : Nat} (hB : B ≤ w.heap.size) : SgRow (w.alloc (.cells #[] 45)) B [] (.slice (some ⟨w.heap.size, 0, none⟩) 0 0) :=
  ⟨by simp [sgsV], Or.inr ⟨w.heap.size, 0, #[], rfl, hB, heap_alloc_new w _, Nat.zero_le _, Nat.zero_le _, by simp, by simp [sgsV]⟩⟩
/-- what stands in it -/
theorem SgRow.cells {w : World} {B : Nat} {L : List Sg} {v : Value} (h : SgRow w B L v) (hL : L ≠ []) : ∃ g cap, v = .slice (some ⟨g, 0, none⟩) L.length cap ∧ B ≤ g ∧ g < w.heap.size ∧ L.length ≤ cap ∧ cap ≤ maxLen ∧
    ∀ j (hj : j < L.length), w.cell? ⟨g, j * 5, none⟩ = some (.int .i64 L[j].kind) ∧ w.cell? ⟨g, j * 5 + 1, none⟩ = some (.string L[j].text) ∧ w.cell? ⟨g, j * 5 + 2, none⟩ = some (.int .i64 L[j].num) ∧ w.cell? ⟨g, j * 5 + 3, none⟩ = some (.int .i64 (L[j].at_ : Int)) ∧ w.cell? ⟨g, j * 5 + 4, none⟩ = some (.bool L[j].near) := by
  rcases h.2 with ⟨rfl, h0⟩ | ⟨g, cap, cur, rfl, hb, hh, h1, h2, h3, h4⟩
  · exact absurd (List.length_eq_zero_iff.1 h0) hL
  · refine ⟨g, cap, rfl, hb, (Array.getElem?_eq_some_iff.1 hh).1, h1, h2, fun j hj => ?_⟩
    have hc : ∀ k, k < 5 → w.cell? ⟨g, j * 5 + k, none⟩ = (sgCells L[j])[k]? := fun k hk => by
      have := h.cellAt (j * 5 + k) (by omega)
      rw [this, sgsV_at L j k hj hk]
    refine ⟨by simpa [sgCells] using hc 0 (by omega), by simpa [sgCells] using hc 1 (by omega), by simpa [sgCells] using hc 2 (by omega), by simpa [sgCells] using hc 3 (by omega), by simpa [sgCells] using hc 4 (by omega)⟩
end Go.Proofs.YtbkjcccbjnehbanGreatDoor

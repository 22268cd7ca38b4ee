/- The code's signer: addPiece, lineEnd, endsAt, wordByte, takeBad. -/
import Derived.Test.YtbkjcccbjnehbanGreatDoorSgI
import Derived.Test.YtbkjcccbjnehbanGreatDoorSgD
import Derived.Test.YtbkjcccbjnehbanGreatDoorClone
import Derived.Test.YtbkjcccbjnehbanGreatDoorSymI
import Derived.Test.YtbkjcccbjnehbanGreatDoorSgE0
import Derived.Test.YtbkjcccbjnehbanGreatDoorUtf
namespace Go.Proofs.YtbkjcccbjnehbanGreatDoor
open Go.RowKit

/-- what a method of the signer leaves -/
def Res (N g : Nat) (t : ByteArray) (mv : Value) (L : List Sg) (b : Nat) (w : World) (r : Ending) (w' : World) : Prop := (∃ x, r = .returned x) ∧ SnAt N g t mv w' L b ∧ Fr N g w w'
theorem SnAt.cells {N g : Nat} {t : ByteArray} {mv : Value} {w : World} {L : List Sg} {b : Nat} (h : SnAt N g t mv w L b) : w.cell? ⟨g, 0, none⟩ = some (.string t) ∧ w.cell? ⟨g, 1, none⟩ = some mv ∧ w.cell? ⟨g, 3, none⟩ = some (.int .i64 (b : Int)) ∧ (∀ i, w.frozen? ⟨g, i, none⟩ = false) ∧ g < N ∧ N ≤ w.heap.size := by
  obtain ⟨vo, h1, _, h3, h4⟩ := h
  obtain ⟨c0, c1, _, c3, cf⟩ := b4 h1
  exact ⟨c0, c1, c3, cf, h3, h4⟩

set_option maxRecDepth 20000 in
theorem add_piece (N g : Nat) (t : ByteArray) (mv : Value) (L : List Sg) (b : Nat) (kind : Int) (i e : Nat) (w : World) (h : SnAt N g t mv w L b) (hL : L.length ≤ 3000) (hs : (t.size : Int) ≤ 3000) (hie : i ≤ e) (het : e ≤ t.size) :
    Calls Tryz.prog 47 #[.pointer (some ⟨g, 0, none⟩), .int .i64 kind, .int .i64 (i : Int), .int .i64 (e : Int)] w (Res N g t mv (L ++ [(mkSg t kind (t.extract i e) 0 i e).1]) e w) := by
  obtain ⟨c0, c1, c3, cf, hgN, hNw⟩ := h.cells
  have HS : Hid (SnAt N g t mv w L b) := h
  have HC := clone_any (t.extract i e)
  have hsz : (t.extract i e).size ≤ 1048576 := by rw [ByteArray.size_extract]; omega
  have HL : Hid (L.length ≤ 3000) := hL
  clear h hL
  go_enter Tryz.func47, Tryz.ntmps47
  go_wp2_with (first
    | (go_at_call 70; refine (HC _ hsz).mono ?_; rintro r w1 ⟨rfl, hb1⟩; have HB1 : Hid (Below w.heap.size w w1) := hb1; clear hb1; have HA : Hid _ := add_any N g t mv L b kind (t.extract i e) 0 i e _ w1 (HS.out.keep HB1.out) HL.out rfl)
    | (go_at_call 69; refine (Calls.mono HA.out ?_); rintro r w2 ⟨⟨x, rfl⟩, hs2, hf2⟩; have HS2 : Hid _ := hs2; have HF2 : Hid _ := hf2; clear hs2 hf2))
  refine bodyPost_end (results_none rfl _ _ _) rfl ?_
  exact ⟨⟨_, rfl⟩, HS2.out, (Fr.of_below HB1.out hNw).trans HF2.out⟩

theorem line_end (N g : Nat) (t : ByteArray) (mv : Value) (L : List Sg) (b i : Nat) (w : World) (h : SnAt N g t mv w L b) (hs : (t.size : Int) ≤ 3000) (hi : i ≤ t.size) :
    Calls Tryz.prog 46 #[.pointer (some ⟨g, 0, none⟩), .int .i64 (i : Int)] w fun r w' => r = .returned (.int .i64 ((i + run t not10 i : Nat) : Int)) ∧ w' = w := by
  obtain ⟨c0, _, _, _, hgN, hNw⟩ := h.cells
  clear h
  have hrl := run_le t not10 i
  have HIX : Lib.indexByte (t.extract i t.size).data.toList 10 = if i + run t not10 i < t.size then (run t not10 i : Int) else -1 := by
    rw [ext_list]
    refine index_run t 10 not10 (fun x => ?_) _ i (Nat.le_refl _)
    unfold not10
    rw [Bool.eq_iff_iff]
    simp [← UInt8.toNat_inj]
  have HX := strings_index (t.extract i t.size) 10
  have e10 : (10 : Int).toNat.toUInt8 = 10 := rfl
  rw [e10, HIX] at HX
  by_cases hc : i + run t not10 i < t.size
  · rw [if_pos hc] at HX
    replace HX : Hid _ := HX
    have HR : Hid (((i + run t not10 i : Nat) : Int) = (i : Int) + (run t not10 i : Int)) := by show _ = _; omega
    clear HIX
    generalize run t not10 i = r at *
    go_enter Tryz.func46, Tryz.ntmps46
    go_wp2_with (go_at_call 68; refine (HX.out _).mono ?_; rintro e w' ⟨rfl, rfl⟩)
    go_ret
    exact ⟨by rw [HR.out]; rfl, rfl⟩
  · rw [if_neg hc] at HX
    replace HX : Hid _ := HX
    have HR : Hid (i + run t not10 i = t.size) := by show _ = _; omega
    clear HIX hc hrl
    generalize i + run t not10 i = r at *
    go_enter Tryz.func46, Tryz.ntmps46
    go_wp2_with (go_at_call 68; refine (HX.out _).mono ?_; rintro e w' ⟨rfl, rfl⟩)
    go_ret
    exact ⟨by rw [HR.out]; rfl, rfl⟩

theorem bads_push (t : ByteArray) (i k : Nat) : (List.range (k + 1)).map (fun q => (badSg t (i + q)).1) = (List.range k).map (fun q => (badSg t (i + q)).1) ++ [(badSg t (i + k)).1] := by
  rw [List.range_succ, List.map_append]; rfl

set_option maxRecDepth 20000 in
theorem take_bad (N g : Nat) (t : ByteArray) (mv : Value) (L : List Sg) (b i : Nat) (w : World) (h : SnAt N g t mv w L b) (hs : (t.size : Int) ≤ 3000) (hL : L.length + t.size ≤ 3000 + i) (hi : i < t.size) (hT : ∀ w', Fr N g w w' → Lib.Utf8Tabs 0 1 w') :
    Calls Tryz.prog 54 #[.pointer (some ⟨g, 0, none⟩), .int .i64 (i : Int)] w (Res N g t mv (L ++ (List.range (Utf8.decode t i).2).map (fun q => (badSg t (i + q)).1)) (i + (Utf8.decode t i).2) w) := by
  obtain ⟨c0, _, _, _, hgN, hNw⟩ := h.cells
  have HD := sh_utf8_DecodeRuneInString (t.extract i t.size) w (hT w (Fr.refl _ _ _))
  rw [decodeGo_at t i hi] at HD
  obtain ⟨d1, d2, _, _⟩ := decode_end t i hi
  generalize (Utf8.decode t i).1 = ru at *
  generalize (Utf8.decode t i).2 = W at *
  replace HD : Hid _ := HD
  have HS : Hid (SnAt N g t mv w L b) := h
  have HL : Hid (L.length + t.size ≤ 3000 + i) := hL
  clear h hL hT
  go_enter Tryz.func54, Tryz.ntmps54
  go_wp2_with (go_at_call 72; refine (Calls.mono HD.out ?_); rintro e w1 ⟨rfl, hb1⟩; have HB1 : Hid (Below w.heap.size w w1) := hb1; clear hb1)
  go_loopw [6] (fun vj wr => ∃ k b' : Nat, k ≤ W ∧ vj = .int .i64 ((i + k : Nat) : Int) ∧ Hid (SnAt N g t mv wr (L ++ (List.range k).map (fun q => (badSg t (i + q)).1)) b' ∧ (k = W → b' = i + W)) ∧ Hid (Fr N g w wr)) (fun vj _ => i + W - (intOf vj).toNat)
  case atStart =>
    refine ⟨0, b, by omega, by simp, ⟨?_, by omega⟩, Fr.of_below HB1.out hNw⟩
    have := HS.out.keep HB1.out
    simpa using this
  case round =>
    obtain ⟨k, b', hk, rfl, HSB, HF⟩ := hrel
    have HSK : Hid (SnAt N g t mv wr (L ++ (List.range k).map (fun q => (badSg t (i + q)).1)) b') := HSB.out.1
    obtain ⟨c0', _, _, _, _, hNw'⟩ := HSK.out.cells
    by_cases hlt : k < W
    · have HA : Hid (Calls Tryz.prog 47 #[.pointer (some ⟨g, 0, none⟩), .int .i64 6, .int .i64 ((i + k : Nat) : Int), .int .i64 ((i + k + 1 : Nat) : Int)] wr (Res N g t mv (L ++ (List.range (k + 1)).map (fun q => (badSg t (i + q)).1)) (i + k + 1) wr)) := by
        have := add_piece N g t mv _ b' 6 (i + k) (i + k + 1) wr HSK.out (by have := HL.out; simp; omega) hs (by omega) (by omega)
        rw [bads_push, ← List.append_assoc]
        exact this
      clear HSB HSK HS HB1 HD c0
      go_wp2_with (go_at_call 47; refine (Calls.mono HA.out ?_); rintro r w2 ⟨⟨x, rfl⟩, hs2, hf2⟩; have HS2 : Hid _ := hs2; have HF2 : Hid (Fr N g wr w2) := hf2; clear hs2 hf2)
      go_roundw
      case rel => exact ⟨k + 1, i + k + 1, by omega, by go_num, ⟨HS2.out, by omega⟩, HF.out.trans HF2.out⟩
      case measure => simp [intOf]; omega
    · obtain rfl : k = W := by omega
      obtain rfl : b' = i + k := HSB.out.2 rfl
      clear HSB HS HB1 HD c0
      go_wp2
      refine bodyPost_end (results_none rfl _ _ _) rfl ?_
      exact ⟨⟨_, rfl⟩, HSK.out, HF.out⟩
end Go.Proofs.YtbkjcccbjnehbanGreatDoor

/- Four texts in one. -/
import Derived.Test.YtceclkcmiaehkaoGreatDoorRows
import Derived.Test.YtceclkcmiaehkaoGreatDoorMrg11
import Derived.WalkKit
import Derived.WalkSpells
import Derived.Test.YtceclkcmiaehkaoGreatDoorMrg2
import Derived.BigCall
import Derived.Shelf.Strings.Builder1
import Derived.Shelf.Small.Strs
import Derived.Shelf.Strings.BuilderF
import Derived.Shelf.Strings.BuilderK
import Derived.Shelf.Strconv.Itoa0
import Derived.Shelf.Strconv.Itoa1
import Derived.Shelf.LaysM
import Derived.Shelf.Strconv.Itoa2
import Derived.Shelf.Strconv.Itoa3
import Derived.Shelf.Strconv.Clone
import Derived.Shelf.Strings.Search1
import Derived.Shelf.Unicode.Decode
import Derived.Shelf.Unicode.DecodeSlow
import Derived.Shelf.Unicode.DecodeAny
import Derived.Test.YtceclkcmiaehkaoGreatDoorProg
import Derived.Test.YtceclkcmiaehkaoGreatDoorMrg9
/- strings.Clone hands back the same bytes, and nothing that was there has turned. -/
namespace Go.Proofs.YtceclkcmiaehkaoGreatDoor
open Go.RowKit

theorem clone_any (s : ByteArray) (w : World) (hlim : s.size ≤ 1048576) :
    Calls Tryz.prog 65 #[.string s] w fun e w' => e = .returned (.string s) ∧ Below w.heap.size w w' := by
  go_enter Tryz.func65, Tryz.ntmps65
  go_wp2_with (go_at_call 72; refine (sh_stringslite_Clone _ _ (by omega)).mono ?_; rintro e w1 ⟨rfl, hb⟩)
  go_ret
  exact ⟨rfl, hb⟩
end Go.Proofs.YtceclkcmiaehkaoGreatDoor

/- impl.SymbolByte, and the library's search for a byte. -/
namespace Go.Proofs.YtceclkcmiaehkaoGreatDoor
open Go.RowKit

set_option maxRecDepth 100000 in
theorem lite_index (s : ByteArray) (c : Int) (w : World) :
    Calls Tryz.prog 94 #[.string s, .int .u8 c] w fun e w' => e = .returned (.int .i64 (Lib.indexByte s.data.toList c.toNat.toUInt8)) ∧ w' = w := by
  go_enter Tryz.func94, Tryz.ntmps94
  go_wp2
  rw [run_callFunc_extern Tryz.func96 (by kernel_rfl) (by kernel_rfl) (by kernel_rfl) (e := Extern.BytealgIndexByte.indexByte) (by kernel_rfl), Lib.run_indexByteString]
  simp only [Result.andThen]
  rw [Oper.upon_value]
  go_wp2
  go_ret
  exact ⟨rfl, rfl⟩

theorem strings_index (s : ByteArray) (c : Int) (w : World) :
    Calls Tryz.prog 91 #[.string s, .int .u8 c] w fun e w' => e = .returned (.int .i64 (Lib.indexByte s.data.toList c.toNat.toUInt8)) ∧ w' = w := by
  go_enter Tryz.func91, Tryz.ntmps91
  go_wp2_with (go_at_call 94; refine (lite_index _ _ _).mono ?_; rintro e w' ⟨rfl, rfl⟩)
  go_ret
  exact ⟨rfl, rfl⟩

theorem impl_sym (c : UInt8) (w : World) :
    Calls Tryz.prog 87 #[.int .u8 (c.toNat : Int)] w fun e w' => e = .returned (.bool (isSym c)) ∧ w' = w := by
  obtain ⟨R, hR⟩ : ∃ R, R = isSym c := ⟨_, rfl⟩
  rw [← hR]
  have HR : Hid (isSym c = R) := hR.symm
  clear hR
  go_enter Tryz.func87, Tryz.ntmps87
  go_wp2_with (go_at_call 91; refine (strings_index _ _ _).mono ?_; rintro e w' ⟨rfl, rfl⟩)
  go_ret
  exact ⟨by rw [← HR.out, ← isSym_index]; rfl, rfl⟩
end Go.Proofs.YtceclkcmiaehkaoGreatDoor

/- The library contracts that are proved once over any program, at this translation: no walk, one application each. -/
namespace Go.Proofs.YtceclkcmiaehkaoGreatDoor
open Go.Proofs
open Go.Shelf
def sh_lays197_ren : Go.Shelf.Ren := ⟨fun | 197 => 93 | 260 => 95 | n => n, fun | 9 => 9 | 21 => 21 | 3 => 3 | 4 => 4 | 5 => 5 | 105 => 120 | 119 => 124 | 0 => 0 | 46 => 110 | 139 => 127 | 138 => 126 | n => n, fun | 3 => 3 | 4 => 4 | n => n⟩
theorem sh_lays197 : Go.Proofs.Lays.n197 Tryz.prog sh_lays197_ren := {
  mixed := by kernel_rfl
  f197 := Tryz.func93.trans (congrArg some (by kernel_rfl))
  f260 := Tryz.func95.trans (congrArg some (by kernel_rfl))
  t0 := Tryz.underlying0
  a0 := Tryz.isAgg0
  z0 := Tryz.sizeOf0
  v0 := Tryz.zeroValue0
  t3 := Tryz.underlying3
  a3 := Tryz.isAgg3
  z3 := Tryz.sizeOf3
  v3 := Tryz.zeroValue3
  t4 := Tryz.underlying4
  a4 := Tryz.isAgg4
  z4 := Tryz.sizeOf4
  v4 := Tryz.zeroValue4
  t5 := Tryz.underlying5
  a5 := Tryz.isAgg5
  z5 := Tryz.sizeOf5
  v5 := Tryz.zeroValue5
  t9 := Tryz.underlying9
  a9 := Tryz.isAgg9
  z9 := Tryz.sizeOf9
  v9 := Tryz.zeroValue9
  t21 := Tryz.underlying21
  a21 := Tryz.isAgg21
  z21 := Tryz.sizeOf21
  v21 := Tryz.zeroValue21
  t46 := Tryz.underlying110
  a46 := Tryz.isAgg110
  z46 := Tryz.sizeOf110
  v46 := Tryz.zeroValue110
  t105 := Tryz.underlying120
  a105 := Tryz.isAgg120
  z105 := Tryz.sizeOf120
  v105 := Tryz.zeroValue120
  t119 := Tryz.underlying124
  a119 := Tryz.isAgg124
  z119 := Tryz.sizeOf124
  t138 := Tryz.underlying126
  a138 := Tryz.isAgg126
  z138 := Tryz.sizeOf126
  v138 := Tryz.zeroValue126
  t139 := Tryz.underlying127
  a139 := Tryz.isAgg127
  z139 := Tryz.sizeOf127
  v139 := Tryz.zeroValue127
  g3 := by kernel_rfl
  g4 := by kernel_rfl }
open Go.RowKit Go.Lib in
theorem sh_utf8_DecodeRuneInString (s : ByteArray) (w : World) (hT : Lib.Utf8Tabs 3 4 w) :
    Calls Tryz.prog 93 #[.string s] w fun e w' => e = .returned (.tuple #[.int .i32 (Lib.decodeGo s).1, .int .i64 (Lib.decodeGo s).2]) ∧ Below w.heap.size w w' := Any.utf8_DecodeRuneInString sh_lays197 s w hT
end Go.Proofs.YtceclkcmiaehkaoGreatDoor

/- The code's signer: addPiece, lineEnd, endsAt, wordByte, takeBad. -/
namespace Go.Proofs.YtceclkcmiaehkaoGreatDoor
open Go.RowKit

/-- what a method of the signer leaves -/
def Res (N g : Nat) (t : ByteArray) (mv : Value) (L : List Sg) (b : Nat) (w : World) (r : Ending) (w' : World) : Prop := (∃ x, r = .returned x) ∧ SnAt N g t mv w' L b ∧ Fr N g w w'
theorem SnAt.cells {N g : Nat} {t : ByteArray} {mv : Value} {w : World} {L : List Sg} {b : Nat} (h : SnAt N g t mv w L b) : w.cell? ⟨g, 0, none⟩ = some (.string t) ∧ w.cell? ⟨g, 1, none⟩ = some mv ∧ w.cell? ⟨g, 3, none⟩ = some (.int .i64 (b : Int)) ∧ (∀ i, w.frozen? ⟨g, i, none⟩ = false) ∧ g < N ∧ N ≤ w.heap.size := by
  obtain ⟨vo, h1, _, h3, h4⟩ := h
  obtain ⟨c0, c1, _, c3, cf⟩ := b4 h1
  exact ⟨c0, c1, c3, cf, h3, h4⟩

set_option maxRecDepth 20000 in
theorem add_piece (N g : Nat) (t : ByteArray) (mv : Value) (L : List Sg) (b : Nat) (kind : Int) (i e : Nat) (w : World) (h : SnAt N g t mv w L b) (hL : L.length ≤ 3000) (hs : (t.size : Int) ≤ 3000) (hie : i ≤ e) (het : e ≤ t.size) :
    Calls Tryz.prog 81 #[.pointer (some ⟨g, 0, none⟩), .int .i64 kind, .int .i64 (i : Int), .int .i64 (e : Int)] w (Res N g t mv (L ++ [(mkSg t kind (t.extract i e) 0 i e).1]) e w) := by
  obtain ⟨c0, c1, c3, cf, hgN, hNw⟩ := h.cells
  have HS : Hid (SnAt N g t mv w L b) := h
  have HC := clone_any (t.extract i e)
  have hsz : (t.extract i e).size ≤ 1048576 := by rw [ByteArray.size_extract]; omega
  have HL : Hid (L.length ≤ 3000) := hL
  clear h hL
  go_enter Tryz.func81, Tryz.ntmps81
  go_wp2_with (first
    | (go_at_call 65; refine (HC _ hsz).mono ?_; rintro r w1 ⟨rfl, hb1⟩; have HB1 : Hid (Below w.heap.size w w1) := hb1; clear hb1; have HA : Hid _ := add_any N g t mv L b kind (t.extract i e) 0 i e _ w1 (HS.out.keep HB1.out) HL.out rfl)
    | (go_at_call 92; refine (Calls.mono HA.out ?_); rintro r w2 ⟨⟨x, rfl⟩, hs2, hf2⟩; have HS2 : Hid _ := hs2; have HF2 : Hid _ := hf2; clear hs2 hf2))
  refine bodyPost_end (results_none rfl _ _ _) rfl ?_
  exact ⟨⟨_, rfl⟩, HS2.out, (Fr.of_below HB1.out hNw).trans HF2.out⟩

theorem line_end (N g : Nat) (t : ByteArray) (mv : Value) (L : List Sg) (b i : Nat) (w : World) (h : SnAt N g t mv w L b) (hs : (t.size : Int) ≤ 3000) (hi : i ≤ t.size) :
    Calls Tryz.prog 80 #[.pointer (some ⟨g, 0, none⟩), .int .i64 (i : Int)] w fun r w' => r = .returned (.int .i64 ((i + run t not10 i : Nat) : Int)) ∧ w' = w := by
  obtain ⟨c0, _, _, _, hgN, hNw⟩ := h.cells
  clear h
  have hrl := run_le t not10 i
  have HIX : Lib.indexByte (t.extract i t.size).data.toList 10 = if i + run t not10 i < t.size then (run t not10 i : Int) else -1 := by
    rw [ext_list]
    refine index_run t 10 not10 (fun x => ?_) _ i (Nat.le_refl _)
    unfold not10
    rw [Bool.eq_iff_iff]
    simp [← UInt8.toNat_inj]
  have HX := strings_index (t.extract i t.size) 10
  have e10 : (10 : Int).toNat.toUInt8 = 10 := rfl
  rw [e10, HIX] at HX
  by_cases hc : i + run t not10 i < t.size
  · rw [if_pos hc] at HX
    replace HX : Hid _ := HX
    have HR : Hid (((i + run t not10 i : Nat) : Int) = (i : Int) + (run t not10 i : Int)) := by show _ = _; omega
    clear HIX
    generalize run t not10 i = r at *
    go_enter Tryz.func80, Tryz.ntmps80
    go_wp2_with (go_at_call 91; refine (HX.out _).mono ?_; rintro e w' ⟨rfl, rfl⟩)
    go_ret
    exact ⟨by rw [HR.out]; rfl, rfl⟩
  · rw [if_neg hc] at HX
    replace HX : Hid _ := HX
    have HR : Hid (i + run t not10 i = t.size) := by show _ = _; omega
    clear HIX hc hrl
    generalize i + run t not10 i = r at *
    go_enter Tryz.func80, Tryz.ntmps80
    go_wp2_with (go_at_call 91; refine (HX.out _).mono ?_; rintro e w' ⟨rfl, rfl⟩)
    go_ret
    exact ⟨by rw [HR.out]; rfl, rfl⟩

theorem bads_push (t : ByteArray) (i k : Nat) : (List.range (k + 1)).map (fun q => (badSg t (i + q)).1) = (List.range k).map (fun q => (badSg t (i + q)).1) ++ [(badSg t (i + k)).1] := by
  rw [List.range_succ, List.map_append]; rfl

set_option maxRecDepth 20000 in
theorem take_bad (N g : Nat) (t : ByteArray) (mv : Value) (L : List Sg) (b i : Nat) (w : World) (h : SnAt N g t mv w L b) (hs : (t.size : Int) ≤ 3000) (hL : L.length + t.size ≤ 3000 + i) (hi : i < t.size) (hT : ∀ w', Fr N g w w' → Lib.Utf8Tabs 3 4 w') :
    Calls Tryz.prog 88 #[.pointer (some ⟨g, 0, none⟩), .int .i64 (i : Int)] w (Res N g t mv (L ++ (List.range (Utf8.decode t i).2).map (fun q => (badSg t (i + q)).1)) (i + (Utf8.decode t i).2) w) := by
  obtain ⟨c0, _, _, _, hgN, hNw⟩ := h.cells
  have HD := sh_utf8_DecodeRuneInString (t.extract i t.size) w (hT w (Fr.refl _ _ _))
  rw [decodeGo_at t i hi] at HD
  obtain ⟨d1, d2, _, _⟩ := decode_end t i hi
  generalize (Utf8.decode t i).1 = ru at *
  generalize (Utf8.decode t i).2 = W at *
  replace HD : Hid _ := HD
  have HS : Hid (SnAt N g t mv w L b) := h
  have HL : Hid (L.length + t.size ≤ 3000 + i) := hL
  clear h hL hT
  go_enter Tryz.func88, Tryz.ntmps88
  go_wp2_with (go_at_call 93; refine (Calls.mono HD.out ?_); rintro e w1 ⟨rfl, hb1⟩; have HB1 : Hid (Below w.heap.size w w1) := hb1; clear hb1)
  go_loopw [6] (fun vj wr => ∃ k b' : Nat, k ≤ W ∧ vj = .int .i64 ((i + k : Nat) : Int) ∧ Hid (SnAt N g t mv wr (L ++ (List.range k).map (fun q => (badSg t (i + q)).1)) b' ∧ (k = W → b' = i + W)) ∧ Hid (Fr N g w wr)) (fun vj _ => i + W - (intOf vj).toNat)
  case atStart =>
    refine ⟨0, b, by omega, by simp, ⟨?_, by omega⟩, Fr.of_below HB1.out hNw⟩
    have := HS.out.keep HB1.out
    simpa using this
  case round =>
    obtain ⟨k, b', hk, rfl, HSB, HF⟩ := hrel
    have HSK : Hid (SnAt N g t mv wr (L ++ (List.range k).map (fun q => (badSg t (i + q)).1)) b') := HSB.out.1
    obtain ⟨c0', _, _, _, _, hNw'⟩ := HSK.out.cells
    by_cases hlt : k < W
    · have HA : Hid (Calls Tryz.prog 81 #[.pointer (some ⟨g, 0, none⟩), .int .i64 6, .int .i64 ((i + k : Nat) : Int), .int .i64 ((i + k + 1 : Nat) : Int)] wr (Res N g t mv (L ++ (List.range (k + 1)).map (fun q => (badSg t (i + q)).1)) (i + k + 1) wr)) := by
        have := add_piece N g t mv _ b' 6 (i + k) (i + k + 1) wr HSK.out (by have := HL.out; simp; omega) hs (by omega) (by omega)
        rw [bads_push, ← List.append_assoc]
        exact this
      clear HSB HSK HS HB1 HD c0
      go_wp2_with (go_at_call 81; refine (Calls.mono HA.out ?_); rintro r w2 ⟨⟨x, rfl⟩, hs2, hf2⟩; have HS2 : Hid _ := hs2; have HF2 : Hid (Fr N g wr w2) := hf2; clear hs2 hf2)
      go_roundw
      case rel => exact ⟨k + 1, i + k + 1, by omega, by go_num, ⟨HS2.out, by omega⟩, HF.out.trans HF2.out⟩
      case measure => simp [intOf]; omega
    · obtain rfl : k = W := by omega
      obtain rfl : b' = i + k := HSB.out.2 rfl
      clear HSB HS HB1 HD c0
      go_wp2
      refine bodyPost_end (results_none rfl _ _ _) rfl ?_
      exact ⟨⟨_, rfl⟩, HSK.out, HF.out⟩
end Go.Proofs.YtceclkcmiaehkaoGreatDoor

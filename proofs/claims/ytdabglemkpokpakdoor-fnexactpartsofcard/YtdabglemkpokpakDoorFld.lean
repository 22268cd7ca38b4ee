/- The library contracts that are proved once over any program, at this translation: no walk, one application each. -/
import Derived.Shelf.LaysM
import Derived.Shelf.Strconv.Clone
import Derived.Shelf.Strings.Fields
import Derived.Shelf.Strings.SplitShaped
import Derived.Shelf.Unicode.Latin
import Derived.Shelf.Unicode.Is16White
import Derived.Shelf.Unicode.IsSpaceAny
import Derived.Shelf.Unicode.Is16Any
import Derived.Shelf.Unicode.Is32Any
import Derived.Shelf.Unicode.ExclAny
import Derived.Test.YtdabglemkpokpakDoorProg
namespace Go.Proofs.YtdabglemkpokpakDoor
open Go.Proofs
open Go.Shelf
def sh_lays157_ren : Go.Shelf.Ren := ⟨fun | 157 => 22 | 229 => 28 | 199 => 29 | 261 => 32 | 311 => 33 | 312 => 34 | n => n, fun | 9 => 9 | 31 => 22 | 3 => 3 | 5 => 5 | 4 => 4 | 119 => 41 | 0 => 0 | 40 => 43 | 152 => 47 | 21 => 21 | 154 => 49 | 51 => 28 | 141 => 51 | 196 => 57 | 193 => 54 | 198 => 60 | 49 => 58 | 194 => 55 | 201 => 63 | 226 => 65 | 46 => 46 | 227 => 66 | n => n, fun | 0 => 0 | 6 => 1 | n => n⟩
theorem sh_lays157 : Go.Proofs.Lays.n157 Tryd.prog sh_lays157_ren := {
  mixed := by kernel_rfl
  f157 := Tryd.func22.trans (congrArg some (by kernel_rfl))
  f199 := Tryd.func29.trans (congrArg some (by kernel_rfl))
  f229 := Tryd.func28.trans (congrArg some (by kernel_rfl))
  f261 := Tryd.func32.trans (congrArg some (by kernel_rfl))
  f311 := Tryd.func33.trans (congrArg some (by kernel_rfl))
  f312 := Tryd.func34.trans (congrArg some (by kernel_rfl))
  t0 := Tryd.underlying0
  a0 := Tryd.isAgg0
  z0 := Tryd.sizeOf0
  v0 := Tryd.zeroValue0
  t3 := Tryd.underlying3
  a3 := Tryd.isAgg3
  z3 := Tryd.sizeOf3
  v3 := Tryd.zeroValue3
  t4 := Tryd.underlying4
  a4 := Tryd.isAgg4
  z4 := Tryd.sizeOf4
  v4 := Tryd.zeroValue4
  t5 := Tryd.underlying5
  a5 := Tryd.isAgg5
  z5 := Tryd.sizeOf5
  v5 := Tryd.zeroValue5
  t9 := Tryd.underlying9
  a9 := Tryd.isAgg9
  z9 := Tryd.sizeOf9
  v9 := Tryd.zeroValue9
  t21 := Tryd.underlying21
  a21 := Tryd.isAgg21
  z21 := Tryd.sizeOf21
  v21 := Tryd.zeroValue21
  t31 := Tryd.underlying22
  a31 := Tryd.isAgg22
  z31 := Tryd.sizeOf22
  v31 := Tryd.zeroValue22
  t40 := Tryd.underlying43
  a40 := Tryd.isAgg43
  z40 := Tryd.sizeOf43
  v40 := Tryd.zeroValue43
  t46 := Tryd.underlying46
  a46 := Tryd.isAgg46
  z46 := Tryd.sizeOf46
  v46 := Tryd.zeroValue46
  t49 := Tryd.underlying58
  a49 := Tryd.isAgg58
  z49 := Tryd.sizeOf58
  v49 := Tryd.zeroValue58
  t51 := Tryd.underlying28
  a51 := Tryd.isAgg28
  z51 := Tryd.sizeOf28
  v51 := Tryd.zeroValue28
  t119 := Tryd.underlying41
  a119 := Tryd.isAgg41
  z119 := Tryd.sizeOf41
  t141 := Tryd.underlying51
  a141 := Tryd.isAgg51
  z141 := Tryd.sizeOf51
  v141 := Tryd.zeroValue51
  t152 := Tryd.underlying47
  a152 := Tryd.isAgg47
  z152 := Tryd.sizeOf47
  v152 := Tryd.zeroValue47
  t154 := Tryd.underlying49
  a154 := Tryd.isAgg49
  z154 := Tryd.sizeOf49
  v154 := Tryd.zeroValue49
  t193 := Tryd.underlying54
  a193 := Tryd.isAgg54
  z193 := Tryd.sizeOf54
  v193 := Tryd.zeroValue54
  t194 := Tryd.underlying55
  a194 := Tryd.isAgg55
  z194 := Tryd.sizeOf55
  v194 := Tryd.zeroValue55
  t196 := Tryd.underlying57
  a196 := Tryd.isAgg57
  z196 := Tryd.sizeOf57
  v196 := Tryd.zeroValue57
  t198 := Tryd.underlying60
  a198 := Tryd.isAgg60
  z198 := Tryd.sizeOf60
  v198 := Tryd.zeroValue60
  t201 := Tryd.underlying63
  a201 := Tryd.isAgg63
  z201 := Tryd.sizeOf63
  v201 := Tryd.zeroValue63
  t226 := Tryd.underlying65
  a226 := Tryd.isAgg65
  z226 := Tryd.sizeOf65
  v226 := Tryd.zeroValue65
  t227 := Tryd.underlying66
  a227 := Tryd.isAgg66
  z227 := Tryd.sizeOf66
  v227 := Tryd.zeroValue66
  g0 := by kernel_rfl
  g6 := by kernel_rfl }
open Go.RowKit Go.Lib in
theorem sh_strings_Fields (s : ByteArray) (w : World) (hs : s.size < 4294967281) (hascii : ∀ (j : Nat) b, s.data.toList[j]? = some b → b.toNat < 128) (htab : Lib.TabIs Tryd.prog w "strings.asciiSpace" .u8 Lib.asciiSpaceTab) :
    Calls Tryd.prog 22 #[.string s] w fun e w' =>
      e = .returned (.slice (some ⟨w.heap.size, 0, none⟩) (Lib.fields s.data.toList).length (Lib.fields s.data.toList).length) ∧ w' = w.alloc (.cells ((Lib.fields s.data.toList).map fun l => Value.string ⟨l.toArray⟩).toArray 9) := Any.strings_Fields sh_lays157 (by kernel_rfl) (by kernel_rfl) s w hs hascii htab
end Go.Proofs.YtdabglemkpokpakDoor

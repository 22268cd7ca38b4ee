/- The library contracts that are proved once over any program, at this translation: no walk, one application each. -/
import Derived.Shelf.Strings.Fields
import Derived.Shelf.LaysM
import Derived.Shelf.Strings.SplitShaped
import Derived.Shelf.Unicode.Latin
import Derived.Shelf.Unicode.Is16White
import Derived.Shelf.Unicode.IsSpaceAny
import Derived.Shelf.Unicode.Is16Any
import Derived.Shelf.Unicode.Is32Any
import Derived.Shelf.Unicode.ExclAny
import Derived.Test.YtmpjlacmpiofbakDoorProg
namespace Go.Proofs.YtmpjlacmpiofbakDoor
open Go.Proofs
open Go.Shelf
def sh_lays157_ren : Go.Shelf.Ren := ⟨fun | 157 => 10 | 229 => 13 | 199 => 14 | 261 => 16 | 311 => 17 | 312 => 18 | n => n, fun | 9 => 9 | 31 => 22 | 3 => 3 | 5 => 5 | 4 => 4 | 119 => 31 | 0 => 0 | 40 => 33 | 152 => 35 | 21 => 21 | 154 => 37 | 51 => 38 | 141 => 40 | 196 => 45 | 193 => 42 | 198 => 48 | 49 => 46 | 194 => 43 | 201 => 51 | 226 => 53 | 46 => 54 | 227 => 55 | n => n, fun | 0 => 0 | 6 => 1 | n => n⟩
theorem sh_lays157 : Go.Proofs.Lays.n157 Tryd.prog sh_lays157_ren := {
  mixed := by kernel_rfl
  f157 := Tryd.func10.trans (congrArg some (by kernel_rfl))
  f199 := Tryd.func14.trans (congrArg some (by kernel_rfl))
  f229 := Tryd.func13.trans (congrArg some (by kernel_rfl))
  f261 := Tryd.func16.trans (congrArg some (by kernel_rfl))
  f311 := Tryd.func17.trans (congrArg some (by kernel_rfl))
  f312 := Tryd.func18.trans (congrArg some (by kernel_rfl))
  t0 := Tryd.underlying0
  a0 := Tryd.isAgg0
  z0 := Tryd.sizeOf0
  v0 := Tryd.zeroValue0
  t3 := Tryd.underlying3
  a3 := Tryd.isAgg3
  z3 := Tryd.sizeOf3
  v3 := Tryd.zeroValue3
  t4 := Tryd.underlying4
  a4 := Tryd.isAgg4
  z4 := Tryd.sizeOf4
  v4 := Tryd.zeroValue4
  t5 := Tryd.underlying5
  a5 := Tryd.isAgg5
  z5 := Tryd.sizeOf5
  v5 := Tryd.zeroValue5
  t9 := Tryd.underlying9
  a9 := Tryd.isAgg9
  z9 := Tryd.sizeOf9
  v9 := Tryd.zeroValue9
  t21 := Tryd.underlying21
  a21 := Tryd.isAgg21
  z21 := Tryd.sizeOf21
  v21 := Tryd.zeroValue21
  t31 := Tryd.underlying22
  a31 := Tryd.isAgg22
  z31 := Tryd.sizeOf22
  v31 := Tryd.zeroValue22
  t40 := Tryd.underlying33
  a40 := Tryd.isAgg33
  z40 := Tryd.sizeOf33
  v40 := Tryd.zeroValue33
  t46 := Tryd.underlying54
  a46 := Tryd.isAgg54
  z46 := Tryd.sizeOf54
  v46 := Tryd.zeroValue54
  t49 := Tryd.underlying46
  a49 := Tryd.isAgg46
  z49 := Tryd.sizeOf46
  v49 := Tryd.zeroValue46
  t51 := Tryd.underlying38
  a51 := Tryd.isAgg38
  z51 := Tryd.sizeOf38
  v51 := Tryd.zeroValue38
  t119 := Tryd.underlying31
  a119 := Tryd.isAgg31
  z119 := Tryd.sizeOf31
  t141 := Tryd.underlying40
  a141 := Tryd.isAgg40
  z141 := Tryd.sizeOf40
  v141 := Tryd.zeroValue40
  t152 := Tryd.underlying35
  a152 := Tryd.isAgg35
  z152 := Tryd.sizeOf35
  v152 := Tryd.zeroValue35
  t154 := Tryd.underlying37
  a154 := Tryd.isAgg37
  z154 := Tryd.sizeOf37
  v154 := Tryd.zeroValue37
  t193 := Tryd.underlying42
  a193 := Tryd.isAgg42
  z193 := Tryd.sizeOf42
  v193 := Tryd.zeroValue42
  t194 := Tryd.underlying43
  a194 := Tryd.isAgg43
  z194 := Tryd.sizeOf43
  v194 := Tryd.zeroValue43
  t196 := Tryd.underlying45
  a196 := Tryd.isAgg45
  z196 := Tryd.sizeOf45
  v196 := Tryd.zeroValue45
  t198 := Tryd.underlying48
  a198 := Tryd.isAgg48
  z198 := Tryd.sizeOf48
  v198 := Tryd.zeroValue48
  t201 := Tryd.underlying51
  a201 := Tryd.isAgg51
  z201 := Tryd.sizeOf51
  v201 := Tryd.zeroValue51
  t226 := Tryd.underlying53
  a226 := Tryd.isAgg53
  z226 := Tryd.sizeOf53
  v226 := Tryd.zeroValue53
  t227 := Tryd.underlying55
  a227 := Tryd.isAgg55
  z227 := Tryd.sizeOf55
  v227 := Tryd.zeroValue55
  g0 := by kernel_rfl
  g6 := by kernel_rfl }
open Go.RowKit Go.Lib in
theorem sh_strings_Fields (s : ByteArray) (w : World) (hs : s.size < 4294967281) (hascii : ∀ (j : Nat) b, s.data.toList[j]? = some b → b.toNat < 128) (htab : Lib.TabIs Tryd.prog w "strings.asciiSpace" .u8 Lib.asciiSpaceTab) :
    Calls Tryd.prog 10 #[.string s] w fun e w' =>
      e = .returned (.slice (some ⟨w.heap.size, 0, none⟩) (Lib.fields s.data.toList).length (Lib.fields s.data.toList).length) ∧ w' = w.alloc (.cells ((Lib.fields s.data.toList).map fun l => Value.string ⟨l.toArray⟩).toArray 9) := Any.strings_Fields sh_lays157 (by kernel_rfl) (by kernel_rfl) s w hs hascii htab
end Go.Proofs.YtmpjlacmpiofbakDoor

/- What the rows over the table share: the table as it is laid, read, and kept. -/
import Derived.Test.YtdabglemkpokpaaDoorCards
import Derived.Test.YtdabglemkpokpaaDoorTie
import Derived.Test.YtdabglemkpokpaaDoorSumI
import Derived.ChangeVars
import Derived.ProofKit
import Derived.OpenShut
import Derived.Deep.DeepHandedRow
import Derived.Lib.LaidTab
import Derived.Stop.LaidErr
namespace Go.Proofs.YtdabglemkpokpaaDoor
open Go.ChangeShapes Go.WideShapes Go.ChangeAt Go.RowKit

theorem ownK : ownKnob Tryd.prog.godebug = none := by kernel_rfl
theorem gHalfType : (Tryd.prog.globals[0]?).map (·.type) = some 61 := by kernel_rfl
theorem halfCellsT : Tryd.prog.cellsOf 61 = 16 := by kernel_rfl
theorem halfCellsE : Tryd.prog.cellsOf 51 = 1 := by kernel_rfl

abbrev halfCells : Array Value := (halfTab.map fun z => Value.int .u32 z).toArray
abbrev halfH {H : Type} : DataW H := Lib.tabData .u32 halfTab
theorem reads_half {H : Type} (enc : TypeId × Value → H) (W : World) (sp : Nat → Bool) : DataW.trod enc Tryd.prog W 0 sp true 3 61 halfCells.toList = some (halfH, []) := by kernel_rfl

abbrev halfLaid : List (String × DataW Unit) := [("loop.example/g00469/impl.halfSteps", Rows.laid_loop_example_g00469_impl_halfSteps)]
theorem tab_of_laid {W : World} (h : laidMetH Tryd.prog halfLaid W) : Tab W :=
  Lib.tabIs_of_head (rest := []) gHalf gHalfType Tryd.underlying61 Tryd.underlying51 halfCellsE halfCellsT h

theorem lt_of_tab {w : World} (h : Tab w) : 0 < w.heap.size := by
  unfold Tab Lib.TabIs World.var? at h
  rw [gHalf, Option.bind_some] at h
  cases hb : w.heap[0]? with
  | none => rw [hb] at h; cases h
  | some o => exact (Array.getElem?_eq_some_iff.1 hb).1

theorem Tab.below {w w' : World} {B : Nat} (h : Tab w) (hb : Below B w w') (hB : 0 < B) : Tab w' := by
  unfold Tab Lib.TabIs World.var? at *
  rw [gHalf, Option.bind_some] at *
  rw [hb.block _ hB]
  exact h

theorem half_vars {H : Type} (enc : TypeId × Value → H) (W : World) (h : Tab W) (sp : Nat → Bool) :
    DataW.TrodVars enc Tryd.prog W sp ["loop.example/g00469/impl.halfSteps"] [halfH] (MemPlace.row ⟨0, 0, none⟩ halfCells.size ++ [] ++ []) :=
  ⟨0, 61, halfCells, 3, [], [], gHalf, gHalfType, h, reads_half enc W sp, rfl, rfl⟩

theorem half_open {H : Type} {enc : TypeId × Value → H} {W : World} {sp : Nat → Bool} {gs : List (DataW H)} {q : List MemPlace} (h : Tab W)
    (hV : DataW.TrodVars enc Tryd.prog W sp ["loop.example/g00469/impl.halfSteps"] gs q) : gs = [halfH] := by
  obtain ⟨g, t, cs, fuel, d, p', rfl, hg, ht, hvar, hd, rfl⟩ := trodVars_one hV
  obtain rfl := Option.some.inj (gHalf.symm.trans hg)
  obtain rfl := Option.some.inj (gHalfType.symm.trans ht)
  obtain rfl : cs = halfCells := Option.some.inj (hvar.symm.trans h)
  obtain ⟨rfl, rfl⟩ := DataW.Trod.unique (v := .agg halfCells) ⟨fuel, hd⟩ ⟨3, reads_half enc W _⟩
  rfl

def setTab (cs : Array Value) : Obj → Obj
  | .cells _ t frozen => .cells cs t frozen
  | o => o
/-- a world for the witness: the settled one, the table holding what its initialiser lays -/
noncomputable def laidWorld (os : Os) : World :=
  { World.holding Tryd.prog os ⟨#[], #[], []⟩ with heap := (World.holding Tryd.prog os ⟨#[], #[], []⟩).heap.modify 0 (setTab halfCells) }
end Go.Proofs.YtdabglemkpokpaaDoor

/- FnNumbers answers true at every code, the library's tables being as its text lays them. No other condition. -/
import Derived.Test.YtdabglemkpokpaaDoorCards
import Derived.Test.YtdabglemkpokpaaDoorTie
import Derived.Test.YtdabglemkpokpaaDoorCurV
import Derived.Test.YtdabglemkpokpaaDoorCodeRow
import Derived.Test.YtdabglemkpokpaaDoorNumPlain
import Derived.Test.YtdabglemkpokpaaDoorStI
import Derived.Test.YtdabglemkpokpaaDoorHexI
import Derived.Test.YtdabglemkpokpaaDoorUhI
import Derived.Test.YtdabglemkpokpaaDoorRdI
import Derived.Test.YtdabglemkpokpaaDoorDecI
import Derived.Carry
import Derived.ChangeOld
import Derived.Below
import Derived.Deep.DeepHandedRow
import Derived.Lib.LaidTab
import Derived.Stop.LaidErr
namespace Go.Proofs.YtdabglemkpokpaaDoor.fnNumbers
open Go.ChangeShapes Go.WideShapes Go.ChangeAt Go.RowKit

theorem gTab : Tryd.prog.globalNamed "internal/strconv.uint64pow10" = some 1 := by kernel_rfl
def TabP (w : World) : Prop := Lib.TabIs Tryd.prog w "internal/strconv.uint64pow10" .u64 Lib.pow10Tab
theorem TabP.lt {w : World} (h : TabP w) : 1 < w.heap.size := by
  unfold TabP Lib.TabIs World.var? at h
  rw [gTab, Option.bind_some] at h
  cases hb : w.heap[1]? with
  | none => rw [hb] at h; cases h
  | some o => exact (Array.getElem?_eq_some_iff.1 hb).1
theorem TabP.below {w w' : World} (h : TabP w) (hb : Below w.heap.size w w') : TabP w' := by
  have hB := h.lt
  unfold TabP Lib.TabIs World.var? at *
  rw [gTab, Option.bind_some] at *
  rw [hb.block _ hB]
  exact h

theorem numFacts (N : Nat) (hN : N ≤ 1000000000) : ∃ r d : ByteArray, r.size ≤ 5 ∧ d.size ≤ 20 ∧
    Hid (∀ w, Calls Tryd.prog 7 #[.int .i64 (N : Int)] w fun e w' => e = .returned (.tuple #[.string r, .bool true]) ∧ Below w.heap.size w w') ∧
    Hid (∀ w, Calls Tryd.prog 8 #[.string (⟨#[120]⟩ ++ r ++ ⟨#[121]⟩), .int .i64 1] w fun e w' => e = .returned (.tuple #[.int .i64 (N : Int), .int .i64 ((r.size : Int) + 1), .bool true]) ∧ w' = w) ∧
    Hid (∀ w, TabP w → Calls Tryd.prog 10 #[.int .i64 (N : Int)] w fun e w' => e = .returned (.string d) ∧ Below w.heap.size w w') ∧
    Hid (∀ w, Calls Tryd.prog 9 #[.string d] w fun e w' => e = .returned (.tuple #[.int .i64 (N : Int), .bool true]) ∧ w' = w) := by
  have hl := varB_len5 4 N (by omega)
  have hd : (decI (N : Int)).length ≤ 10 := by
    have e : decI (N : Int) = decB N := by unfold decI; rw [if_neg (by omega)]; rfl
    rw [e]; unfold decB
    split
    · simp
    · exact decR_len 10 N (by omega)
  have hsz : (⟨(varB N).toArray⟩ : ByteArray).size = (varB N).length := size_mk _
  refine ⟨⟨(varB N).toArray⟩, ⟨(decI (N : Int)).toArray⟩, by rw [size_mk]; omega, by rw [size_mk]; omega, ?_, ?_, ?_, ?_⟩
  · exact fun w => implVar_yes (N : Int) w (by omega) (by omega)
  · intro w
    have hall : ((⟨#[120]⟩ : ByteArray) ++ ⟨(varB N).toArray⟩ ++ ⟨#[121]⟩).size = (varB N).length + 2 := by
      rw [ByteArray.size_append, ByteArray.size_append, hsz]
      show 1 + (varB N).length + 1 = _
      omega
    have hdat : ((⟨#[120]⟩ : ByteArray) ++ ⟨(varB N).toArray⟩ ++ ⟨#[121]⟩).data.toList = 120 :: (varB N ++ [121]) := by
      rw [ByteArray.data_append, ByteArray.data_append, Array.toList_append, Array.toList_append]; rfl
    have h := implRv_in (⟨#[120]⟩ ++ ⟨(varB N).toArray⟩ ++ ⟨#[121]⟩) 1 w (by omega) (by omega)
    rw [hdat, rv_back N hN] at h
    rw [hsz]
    have e : ((1 + (varB N).length : Nat) : Int) = ((varB N).length : Int) + 1 := by omega
    rw [e] at h
    exact h
  · exact fun w ht => impl_any (N : Int) w (by omega) (by omega) ht
  · intro w
    have h := implRd_any ⟨(decI (N : Int)).toArray⟩ w (by rw [size_mk]; omega)
    rw [show (⟨(decI (N : Int)).toArray⟩ : ByteArray).data.toList = decI (N : Int) from rfl, rd_back N hN] at h
    exact h

theorem textFacts (t : ByteArray) (ht : t.size ≤ 300) : ∃ a h : ByteArray, a.size ≤ 400 ∧ h.size ≤ 600 ∧
    Hid (∀ w, Calls Tryd.prog 12 #[.string t] w fun e w' => e = .returned (.tuple #[.string a, .bool true]) ∧ Below w.heap.size w w') ∧
    Hid (∀ w, Calls Tryd.prog 13 #[.string a, .int .i64 0] w fun e w' => e = .returned (.tuple #[.string t, .int .i64 (a.size : Int), .bool true]) ∧ Below w.heap.size w w') ∧
    Hid (∀ w, Calls Tryd.prog 14 #[.string t] w fun e w' => e = .returned (.tuple #[.string h, .bool true]) ∧ Below w.heap.size w w') ∧
    Hid (∀ w, Calls Tryd.prog 15 #[.string h] w fun e w' => e = .returned (.tuple #[.string t, .bool true]) ∧ Below w.heap.size w w') := by
  have hl := varB_len5 4 t.size (by omega)
  have hsz : ((⟨(varB t.size).toArray⟩ : ByteArray) ++ t).size = (varB t.size).length + t.size := by rw [ByteArray.size_append, size_mk]
  have htl : t.data.toList.length = t.size := by rw [Array.length_toList]; rfl
  have hh : (⟨(hexL t.data.toList).toArray⟩ : ByteArray).size = 2 * t.size := by rw [size_mk, hexL_len, htl]
  refine ⟨⟨(varB t.size).toArray⟩ ++ t, ⟨(hexL t.data.toList).toArray⟩, by omega, by omega, ?_, ?_, ?_, ?_⟩
  · exact fun w => implSt_yes t w (by omega)
  · intro w
    have h := implRs_in (⟨(varB t.size).toArray⟩ ++ t) 0 w (by omega) (by omega)
    rw [rs_back t (by omega)] at h
    rw [hsz]
    exact h
  · exact fun w => implHex_yes t w (by omega)
  · intro w
    have h := implUh_yes ⟨(hexL t.data.toList).toArray⟩ w (by omega) (by omega)
    rw [show (⟨(hexL t.data.toList).toArray⟩ : ByteArray).data.toList = hexL t.data.toList from rfl, uhRes_some (uh_back _)] at h
    exact h
/-- .. walk: a code of bytes, at most 2^20 of them -/
theorem walk (v : Value) (n : Nat) (w : World) (hv : CodeIn w.heap.size w v n) (ht : TabP w) :
    Calls Tryd.prog 3 #[v] w fun e w' => e = .returned (.bool true) ∧ Below w.heap.size w w' := by
  have HT : Hid (∀ w', Below w.heap.size w w' → TabP w') := fun w' hb => ht.below hb
  have HK : Hid (∀ w', Below w.heap.size w w' → CodeIn w.heap.size w' v n) := fun w' hb => hv.below hb (Nat.le_refl _)
  obtain ⟨ao, cap, rfl, hn, hrest⟩ := hv
  clear ht hrest
  go_enter Tryd.func3, Tryd.ntmps3
  go_wp2_with (go_at_call 5; refine (big_no _ _ _ hn _).mono ?_; rintro e w0 ⟨rfl, rfl⟩; have HB : Hid (Below w0.heap.size w0 w0) := Below.refl _ _)
  go_at_call 6
  refine (drawVar_any _ _ _ n (HK.out _ HB.out) HB.out.size).mono ?_
  rintro e w1 ⟨⟨x, hx0, hx1, rfl⟩, hb⟩
  replace HB : Hid (Below w0.heap.size w0 w1) := HB.out.trans (hb.mono HB.out.size)
  clear hb
  by_cases hx : 0 ≤ x ∧ x ≤ 1000000000
  · obtain ⟨N, hN, rfl⟩ : ∃ N : Nat, N ≤ 1000000000 ∧ x = (N : Int) := ⟨x.toNat, by omega, by omega⟩
    clear hx hx0 hx1
    obtain ⟨r, d, hr, hd, HV, HRV, HD, HRD⟩ := numFacts N hN
    go_wp2_with (first
      | (go_at_call 7; refine (HV.out _).mono ?_; rintro e w2 ⟨rfl, hb⟩; replace HB : Hid (Below w0.heap.size w0 w2) := HB.out.trans (hb.mono HB.out.size); clear hb)
      | (go_at_call 8; refine (HRV.out _).mono ?_; rintro e w3 ⟨rfl, rfl⟩)
      | (go_at_call 10; refine (HD.out _ (HT.out _ HB.out)).mono ?_; rintro e w4 ⟨rfl, hb⟩; replace HB : Hid (Below w0.heap.size w0 w4) := HB.out.trans (hb.mono HB.out.size); clear hb)
      | (go_at_call 9; refine (HRD.out _).mono ?_; rintro e w5 ⟨rfl, rfl⟩))
    clear HV HRV HD HRD
    go_at_call 11
    refine (drawHex_any _ _ _ n (HK.out _ HB.out) HB.out.size).mono ?_
    rintro e w6 ⟨⟨t, ht, rfl⟩, hb⟩
    replace HB : Hid (Below w0.heap.size w0 w6) := HB.out.trans (hb.mono HB.out.size)
    clear hb HK HT
    by_cases h3 : 300 < t.size
    · obtain ⟨a, h, ha, hh, HS, HRS, HH, HU⟩ := textFacts ⟨#[97, 98, 99]⟩ (by decide)
      go_wp2_with (first
        | (go_at_call 12; refine (HS.out _).mono ?_; rintro e w7 ⟨rfl, hb⟩; replace HB : Hid (Below w0.heap.size w0 w7) := HB.out.trans (hb.mono HB.out.size); clear hb)
        | (go_at_call 13; refine (HRS.out _).mono ?_; rintro e w8 ⟨rfl, hb⟩; replace HB : Hid (Below w0.heap.size w0 w8) := HB.out.trans (hb.mono HB.out.size); clear hb)
        | (go_at_call 14; refine (HH.out _).mono ?_; rintro e w9 ⟨rfl, hb⟩; replace HB : Hid (Below w0.heap.size w0 w9) := HB.out.trans (hb.mono HB.out.size); clear hb)
        | (go_at_call 15; refine (HU.out _).mono ?_; rintro e w10 ⟨rfl, hb⟩; replace HB : Hid (Below w0.heap.size w0 w10) := HB.out.trans (hb.mono HB.out.size); clear hb))
      go_ret
      exact ⟨by simp, HB.out⟩
    · obtain ⟨a, h, ha, hh, HS, HRS, HH, HU⟩ := textFacts t (by omega)
      go_wp2_with (first
        | (go_at_call 12; refine (HS.out _).mono ?_; rintro e w7 ⟨rfl, hb⟩; replace HB : Hid (Below w0.heap.size w0 w7) := HB.out.trans (hb.mono HB.out.size); clear hb)
        | (go_at_call 13; refine (HRS.out _).mono ?_; rintro e w8 ⟨rfl, hb⟩; replace HB : Hid (Below w0.heap.size w0 w8) := HB.out.trans (hb.mono HB.out.size); clear hb)
        | (go_at_call 14; refine (HH.out _).mono ?_; rintro e w9 ⟨rfl, hb⟩; replace HB : Hid (Below w0.heap.size w0 w9) := HB.out.trans (hb.mono HB.out.size); clear hb)
        | (go_at_call 15; refine (HU.out _).mono ?_; rintro e w10 ⟨rfl, hb⟩; replace HB : Hid (Below w0.heap.size w0 w10) := HB.out.trans (hb.mono HB.out.size); clear hb))
      go_ret
      exact ⟨by simp, HB.out⟩
  · by_cases hneg : x < 0
    · clear hx
      obtain ⟨r, d, hr, hd, HV, HRV, HD, HRD⟩ := numFacts 12345 (by decide)
      go_wp2_with (first
        | (go_at_call 7; refine (HV.out _).mono ?_; rintro e w2 ⟨rfl, hb⟩; replace HB : Hid (Below w0.heap.size w0 w2) := HB.out.trans (hb.mono HB.out.size); clear hb)
        | (go_at_call 8; refine (HRV.out _).mono ?_; rintro e w3 ⟨rfl, rfl⟩)
        | (go_at_call 10; refine (HD.out _ (HT.out _ HB.out)).mono ?_; rintro e w4 ⟨rfl, hb⟩; replace HB : Hid (Below w0.heap.size w0 w4) := HB.out.trans (hb.mono HB.out.size); clear hb)
        | (go_at_call 9; refine (HRD.out _).mono ?_; rintro e w5 ⟨rfl, rfl⟩))
      clear HV HRV HD HRD
      go_at_call 11
      refine (drawHex_any _ _ _ n (HK.out _ HB.out) HB.out.size).mono ?_
      rintro e w6 ⟨⟨t, ht, rfl⟩, hb⟩
      replace HB : Hid (Below w0.heap.size w0 w6) := HB.out.trans (hb.mono HB.out.size)
      clear hb HK HT
      by_cases h3 : 300 < t.size
      · obtain ⟨a, h, ha, hh, HS, HRS, HH, HU⟩ := textFacts ⟨#[97, 98, 99]⟩ (by decide)
        go_wp2_with (first
          | (go_at_call 12; refine (HS.out _).mono ?_; rintro e w7 ⟨rfl, hb⟩; replace HB : Hid (Below w0.heap.size w0 w7) := HB.out.trans (hb.mono HB.out.size); clear hb)
          | (go_at_call 13; refine (HRS.out _).mono ?_; rintro e w8 ⟨rfl, hb⟩; replace HB : Hid (Below w0.heap.size w0 w8) := HB.out.trans (hb.mono HB.out.size); clear hb)
          | (go_at_call 14; refine (HH.out _).mono ?_; rintro e w9 ⟨rfl, hb⟩; replace HB : Hid (Below w0.heap.size w0 w9) := HB.out.trans (hb.mono HB.out.size); clear hb)
          | (go_at_call 15; refine (HU.out _).mono ?_; rintro e w10 ⟨rfl, hb⟩; replace HB : Hid (Below w0.heap.size w0 w10) := HB.out.trans (hb.mono HB.out.size); clear hb))
        go_ret
        exact ⟨by simp, HB.out⟩
      · obtain ⟨a, h, ha, hh, HS, HRS, HH, HU⟩ := textFacts t (by omega)
        go_wp2_with (first
          | (go_at_call 12; refine (HS.out _).mono ?_; rintro e w7 ⟨rfl, hb⟩; replace HB : Hid (Below w0.heap.size w0 w7) := HB.out.trans (hb.mono HB.out.size); clear hb)
          | (go_at_call 13; refine (HRS.out _).mono ?_; rintro e w8 ⟨rfl, hb⟩; replace HB : Hid (Below w0.heap.size w0 w8) := HB.out.trans (hb.mono HB.out.size); clear hb)
          | (go_at_call 14; refine (HH.out _).mono ?_; rintro e w9 ⟨rfl, hb⟩; replace HB : Hid (Below w0.heap.size w0 w9) := HB.out.trans (hb.mono HB.out.size); clear hb)
          | (go_at_call 15; refine (HU.out _).mono ?_; rintro e w10 ⟨rfl, hb⟩; replace HB : Hid (Below w0.heap.size w0 w10) := HB.out.trans (hb.mono HB.out.size); clear hb))
        go_ret
        exact ⟨by simp, HB.out⟩
    · have hbig : 1000000000 < x := by omega
      clear hx
      obtain ⟨r, d, hr, hd, HV, HRV, HD, HRD⟩ := numFacts 12345 (by decide)
      go_wp2_with (first
        | (go_at_call 7; refine (HV.out _).mono ?_; rintro e w2 ⟨rfl, hb⟩; replace HB : Hid (Below w0.heap.size w0 w2) := HB.out.trans (hb.mono HB.out.size); clear hb)
        | (go_at_call 8; refine (HRV.out _).mono ?_; rintro e w3 ⟨rfl, rfl⟩)
        | (go_at_call 10; refine (HD.out _ (HT.out _ HB.out)).mono ?_; rintro e w4 ⟨rfl, hb⟩; replace HB : Hid (Below w0.heap.size w0 w4) := HB.out.trans (hb.mono HB.out.size); clear hb)
        | (go_at_call 9; refine (HRD.out _).mono ?_; rintro e w5 ⟨rfl, rfl⟩))
      clear HV HRV HD HRD
      go_at_call 11
      refine (drawHex_any _ _ _ n (HK.out _ HB.out) HB.out.size).mono ?_
      rintro e w6 ⟨⟨t, ht, rfl⟩, hb⟩
      replace HB : Hid (Below w0.heap.size w0 w6) := HB.out.trans (hb.mono HB.out.size)
      clear hb HK HT
      by_cases h3 : 300 < t.size
      · obtain ⟨a, h, ha, hh, HS, HRS, HH, HU⟩ := textFacts ⟨#[97, 98, 99]⟩ (by decide)
        go_wp2_with (first
          | (go_at_call 12; refine (HS.out _).mono ?_; rintro e w7 ⟨rfl, hb⟩; replace HB : Hid (Below w0.heap.size w0 w7) := HB.out.trans (hb.mono HB.out.size); clear hb)
          | (go_at_call 13; refine (HRS.out _).mono ?_; rintro e w8 ⟨rfl, hb⟩; replace HB : Hid (Below w0.heap.size w0 w8) := HB.out.trans (hb.mono HB.out.size); clear hb)
          | (go_at_call 14; refine (HH.out _).mono ?_; rintro e w9 ⟨rfl, hb⟩; replace HB : Hid (Below w0.heap.size w0 w9) := HB.out.trans (hb.mono HB.out.size); clear hb)
          | (go_at_call 15; refine (HU.out _).mono ?_; rintro e w10 ⟨rfl, hb⟩; replace HB : Hid (Below w0.heap.size w0 w10) := HB.out.trans (hb.mono HB.out.size); clear hb))
        go_ret
        exact ⟨by simp, HB.out⟩
      · obtain ⟨a, h, ha, hh, HS, HRS, HH, HU⟩ := textFacts t (by omega)
        go_wp2_with (first
          | (go_at_call 12; refine (HS.out _).mono ?_; rintro e w7 ⟨rfl, hb⟩; replace HB : Hid (Below w0.heap.size w0 w7) := HB.out.trans (hb.mono HB.out.size); clear hb)
          | (go_at_call 13; refine (HRS.out _).mono ?_; rintro e w8 ⟨rfl, hb⟩; replace HB : Hid (Below w0.heap.size w0 w8) := HB.out.trans (hb.mono HB.out.size); clear hb)
          | (go_at_call 14; refine (HH.out _).mono ?_; rintro e w9 ⟨rfl, hb⟩; replace HB : Hid (Below w0.heap.size w0 w9) := HB.out.trans (hb.mono HB.out.size); clear hb)
          | (go_at_call 15; refine (HU.out _).mono ?_; rintro e w10 ⟨rfl, hb⟩; replace HB : Hid (Below w0.heap.size w0 w10) := HB.out.trans (hb.mono HB.out.size); clear hb))
        go_ret
        exact ⟨by simp, HB.out⟩
theorem ownK : ownKnob Tryd.prog.godebug = none := by kernel_rfl
theorem gTabType : (Tryd.prog.globals[1]?).map (·.type) = some 70 := by kernel_rfl
theorem cellsT : Tryd.prog.cellsOf 70 = 20 := by kernel_rfl
theorem cellsE : Tryd.prog.cellsOf 63 = 1 := by kernel_rfl

/-- the cells that a table of numbers lays -/
def litCells : DataW Unit → Array Value
  | .agg parts => (parts.map fun
    | .lit (.int k z) => Value.int k z
    | _ => Value.bool false).toArray
  | _ => #[]

def setTab (cs : Array Value) : Obj → Obj
  | .cells _ t frozen => .cells cs t frozen
  | o => o

theorem table {W : World} (h : laidMetH Tryd.prog Rows.fnNumbersRow.laid W) : TabP W :=
  Lib.tabIs_of_head (rest := []) gTab gTabType Tryd.underlying70 Tryd.underlying63 cellsE cellsT (laidMet.tail (laidMet.tail h))

/-- a world for the witness: the settled one, the three tables holding what their initialisers lay -/
noncomputable def laidWorld (os : Os) : World :=
  { World.holding Tryd.prog os ⟨#[], #[], []⟩ with heap := (((World.holding Tryd.prog os ⟨#[], #[], []⟩).heap.modify 2 (setTab (litCells Rows.laid_math_bits_deBruijn32tab))).modify 3 (setTab (litCells Rows.laid_math_bits_deBruijn64tab))).modify 1 (setTab (litCells Rows.laid_internal_strconv_uint64pow10)) }

theorem walk_big (ao : Option Addr) (n cap : Nat) (h : 1048576 < n) (hm : n ≤ maxLen) (w : World) :
    Calls Tryd.prog 3 #[.slice ao n cap] w fun e w' => e = .returned (.bool true) ∧ Below w.heap.size w w' := by
  go_enter Tryd.func3, Tryd.ntmps3
  go_wp2_with (go_at_call 5; refine (big_yes _ _ _ h hm _).mono ?_; rintro e w0 ⟨rfl, rfl⟩)
  go_ret
  exact ⟨rfl, Below.refl _ _⟩

theorem contract (H : Type) (enc : TypeId × Value → H) (W : World) (base : Nat) (args : Array Value) (ds gs : List (DataW H)) (before : List MemPlace)
    (hval : ∀ (j : Nat) t v, Tryd.f3.params[j]? = some t → args[j]? = some v → Value.okWide Tryd.prog W .any base t v)
    (hW : DataW.Whole enc Tryd.prog Tryd.f3.params.toList Rows.fnNumbersSpec.vars false W args.toList ds gs before) (hL : laidMetH Tryd.prog Rows.fnNumbersRow.laid W) :
    Calls Tryd.prog 3 args W fun e W' => ∃ v, e = .returned v ∧ Rows.fnNumbersSpec.post enc Tryd.prog Tryd.f3 false true false false W args v W' := by
  have ht : TabP W := table hL
  have hW' := hW
  have hlt := hW.lt
  obtain ⟨p, q, hA0, hV, rfl, hfz, hnd⟩ := hW
  have hA : DataW.TrodAll enc Tryd.prog W 0 (fun _ => true) true Tryd.f3.params.toList args.toList ds p := hA0
  rw [Tryd.params3] at hA hval
  obtain ⟨v0, vs0, d0, ds0, p0, q0, hargs, rfl, rfl, h0, r0⟩ := trodAll_cons hA
  obtain ⟨rfl, rfl, rfl⟩ := trodAll_nil r0
  obtain rfl : args = #[v0] := by cases args; simp_all
  obtain ⟨rfl, rfl⟩ := trodVars_none hV
  simp only [List.append_nil] at hW'
  obtain ⟨ao, n, cap, hv0, hm, hcode⟩ := code_split (hval 0 22 v0 rfl rfl) h0
  clear hA0
  have fin : ∀ (e : Ending) (W' : World), e = .returned (.bool true) ∧ Below W.heap.size W W' → ∃ v, e = .returned v ∧ Rows.fnNumbersSpec.post enc Tryd.prog Tryd.f3 false true false false W #[v0] v W' := fun e W' ⟨he, bel⟩ => by
    subst he
    exact ⟨_, rfl, _, _, _, [], _, [], hW', trodAll_mk1 (shut_bool Tryd.underlying4 _), trodAll_cons_mk (Below.trod laidOutK readsCode rowCode h0 bel (fun x hx => hlt x (by simp [hx]))) trodAll_mk0, rfl, bel.frame _, fun h => by cases h⟩
  by_cases hn : n ≤ 1048576
  · exact (walk v0 n W (hcode hn) ht).mono fin
  · subst hv0
    exact (walk_big ao n cap (by omega) hm W).mono fin

theorem laid_met (os : Os) : laidMet Tryd.prog Rows.fnNumbersRow.laid ((laidWorld os).forCall (fun _ _ => 0) ⟨#[], #[.slice none 0 0], []⟩).memory :=
  laidMet_of_run' 8 (by kernel_rfl) (by kernel_rfl)
theorem reads (os : Os) {H : Type} (enc : TypeId × Value → H) : ∃ places, DataW.whole enc Tryd.prog ((laidWorld os).forCall (fun _ _ => 0) ⟨#[], #[.slice none 0 0], []⟩).memory Tryd.f3.params.toList Rows.fnNumbersSpec.vars false (#[Value.slice none 0 0] : Array Value).toList 8 = some ([.nil], [], places) :=
  ⟨[], by kernel_rfl⟩

set_option maxRecDepth 100000 in
theorem lifted (os : Os) (started : os.Started) (H : Type) (enc : TypeId × Value → H) (F : Stop.Interp) :
    ReturnsInHanded {} Tryd.checked os 3 .any ((OpenSpec.ofChange Rows.fnNumbersSpec).preRow enc Tryd.prog Tryd.f3 Rows.fnNumbersRow.domain false Rows.fnNumbersRow.laid) (((OpenSpec.ofChange Rows.fnNumbersSpec).at F).post enc Tryd.prog Tryd.f3 false true false false) := by
  obtain ⟨places, hx⟩ := reads os enc
  refine returnsInHanded_of_row (C := Tryd.checked) (s := OpenSpec.ofChange Rows.fnNumbersSpec) ownK started (by kernel_rfl) Tryd.func3
    (witness_row_at (enc := enc) (C := Tryd.checked) false (laidWorld os) #[.slice none 0 0] rfl (by kernel_rfl) (by kernel_rfl) (by kernel_rfl)
      (OpenSpec.preRow_of_cond 8 hx (by kernel_rfl) (fun k hk => by cases hk) (by kernel_rfl) (laid_met os))) ?_
  intro W base args ds gs before hval hW _ _ _ hL _ _
  exact contract H enc W base args ds gs before hval hW hL

theorem said : Rows.FnNumbersSaid :=
  OpenClaim.holds_of_cond 3 Tryd.f3 rfl rfl rfl rfl rfl rfl rfl ⟨rfl, rfl, rfl, rfl, rfl⟩ rfl rfl rfl rfl rfl (by kernel_rfl) Tryd.func3 (by kernel_rfl)
    (of_decide_eq_true (by kernel_rfl)) (by unfold Func.isWrapper; first | (rw [if_pos (by decide +kernel)]; kernel_rfl) | (rw [if_neg (by decide +kernel)]; exact ⟨rfl, rfl⟩))
    (fun os started H enc _ F => by rw [OpenClaim.pre_eq_preRow]; exact lifted os started H enc F)

theorem plain (f : FuncId) (fn : Func) (hf : Tryd.pinned.checked.prog.funcNamed "loop.example/g00469/laws.FnNumbers" = some f) (hfn : Tryd.pinned.checked.prog.funcs[f]? = some fn) :
    false = Tryd.pinned.checked.prog.looks [] ∧ ∀ (j : Nat) t, fn.params[j]? = some t → Tryd.pinned.checked.prog.wantsStandIn t = false := by
  obtain rfl : f = 3 := Option.some.inj ((show Tryd.prog.funcNamed "loop.example/g00469/laws.FnNumbers" = some 3 by kernel_rfl).symm.trans hf) |>.symm
  obtain rfl : fn = Tryd.f3 := (Option.some.inj (Tryd.func3.symm.trans hfn)).symm
  refine ⟨by kernel_rfl, fun j t ht => ?_⟩
  rw [Tryd.params3] at ht
  have hm := Array.mem_of_getElem? ht
  simp only [List.mem_toArray, List.mem_cons, List.not_mem_nil, or_false] at hm
  rcases hm with rfl
  exact (show Tryd.prog.wantsStandIn 22 = false by kernel_rfl)

theorem proved : Rows.FnNumbersCardSaid :=
  Claim7.holds_tied_plain_at .later [] _ _ _ _ said (fun _ h => by cases h) (by kernel_rfl) (fun _ h => by cases h) fnNumbers_row_tie rfl ⟨rfl, rfl⟩ (by kernel_rfl) rfl plain (by kernel_rfl)
#print axioms proved
end Go.Proofs.YtdabglemkpokpaaDoor.fnNumbers

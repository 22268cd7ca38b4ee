/- The code's parted and writtenAll. -/
import Derived.Test.YtenmhpalpfppmaoGreatDoorWtI
namespace Go.Proofs.YtenmhpalpfppmaoGreatDoor
open Go.RowKit

set_option maxHeartbeats 2000000 in
theorem parted_any (xs : List (List UInt8)) (g off n cap : Nat) (w : World) (hn : xs.length = n) (hx : TxtAt w g off xs) (hc : n ≤ cap) (hcap : cap ≤ maxLen) (hl : (commaL xs).length ≤ 1000000) :
    Calls Tryz.prog 45 #[.string ⟨#[44]⟩, .slice (some ⟨g, off, none⟩) n cap] w fun e w' => e = .returned (.string ⟨(commaL xs).toArray⟩) ∧ Below w.heap.size w w' := by
  unfold maxLen at hcap
  have HN : Hid (xs.length = n) := hn
  have HX : Hid (TxtAt w g off xs) := hx
  have HL : Hid (∀ j, (commaT xs j).length ≤ 1000000) := fun j => Nat.le_trans (commaT_le j) hl
  obtain ⟨W, hW⟩ : ∃ W, W = w.alloc (.cells #[.pointer none, .slice none 0 0] 74) := ⟨_, rfl⟩
  have HB0 : Hid (Lib.IsBuilder 74 5 w.heap.size w.heap.size (Lib.byteCells []) W) := by rw [hW]; exact fresh_builder w
  have HBW : Hid (Below w.heap.size w W) := by rw [hW]; exact (Below.refl _ _).alloc (Nat.le_refl _) _
  have h44 : (⟨#[44]⟩ : ByteArray).size = 1 := rfl
  clear hn hx hl
  go_enter Tryz.func45, Tryz.ntmps45
  go_wp2
  rw [← hW]
  clear hW
  go_loopw [10] (fun vi wr => ∃ j : Nat, j ≤ n ∧ vi = .int .i64 (j : Int) ∧ Hid (Below w.heap.size w wr) ∧ Hid (Lib.IsBuilder 74 5 w.heap.size w.heap.size (Lib.byteCells (commaT xs j)) wr)) (fun vi _ => n - (intOf vi).toNat)
  case atStart => exact ⟨0, Nat.zero_le _, rfl, HBW.out, by unfold commaT; rw [List.take_zero]; exact HB0.out⟩
  case round =>
    obtain ⟨j, hj, rfl, HB, HI⟩ := hrel
    by_cases hlt : j < n
    · have hjx : j < xs.length := by have := HN.out; omega
      have hcell' : wr.cell? ⟨g, off + j, none⟩ = some (.string ⟨xs[j].toArray⟩) := cell_keep (HX.out j hjx) HB.out
      have hst := commaT_succ hjx
      have hl1 := HL.out j
      have hl2 := HL.out (j + 1)
      generalize xs[j] = x at *
      by_cases hj0 : j = 0
      · subst hj0
        rw [if_pos rfl] at hst
        have e0 : commaT xs 0 = [] := by unfold commaT; rw [List.take_zero]; rfl
        rw [e0] at HI
        have HT : Hid (commaT xs 1 = x) := hst
        have HLX : Hid (x.length ≤ 1000000) := by show _ ≤ _; rw [hst] at hl2; exact hl2
        rw [Nat.add_zero] at hcell'
        clear hst hl1 hl2 e0 hjx
        go_wp2_with (go_at_call 36; refine (write_string _ _ _ _ _ HI.out (by have := HLX.out; rw [byte_cells_len, size_mk, List.length_nil]; omega) HB.out.size).mono ?_; rintro e w1 ⟨rfl, h1, b1⟩; have HI1 : Hid _ := h1; have HB1 : Hid (Below w.heap.size w w1) := HB.out.trans (b1.mono (Nat.le_refl _)); clear h1 b1)
        go_roundw
        case rel => exact ⟨1, by omega, by go_num, HB1.out, by rw [HT.out]; have := HI1.out; rwa [str_cells] at this⟩
        case measure => simp [intOf]; omega
      · rw [if_neg hj0] at hst
        have hjp : 0 < j := by omega
        have HT : Hid (commaT xs (j + 1) = commaT xs j ++ (44 :: x)) := hst
        have HLX : Hid ((commaT xs j).length + 1 + x.length ≤ 1000000) := by show _ ≤ _; rw [hst, List.length_append, List.length_cons] at hl2; omega
        clear hst hl1 hl2 hjx hj0
        go_upto_region 7 with (go_at_call 36; refine (write_string _ _ _ _ _ HI.out (by have := HLX.out; rw [byte_cells_len, h44]; omega) HB.out.size).mono ?_; rintro e w1 ⟨rfl, h1, b1⟩; have HI1 : Hid _ := h1; have HB1 : Hid (Below w.heap.size w w1) := HB.out.trans (b1.mono (Nat.le_refl _)); clear h1 b1)
        have HI2 : Hid (Lib.IsBuilder 74 5 w.heap.size w.heap.size (Lib.byteCells (commaT xs j ++ [44])) w1) := by have := HI1.out; rw [str_cells] at this; show Lib.IsBuilder _ _ _ _ _ _; rw [byte_cells_append]; exact this
        clear HI HI1
        go_wp2_with (go_at_call 36; refine (write_string _ _ _ _ _ HI2.out (by have := HLX.out; rw [byte_cells_len, size_mk, List.length_append, List.length_singleton]; omega) HB1.out.size).mono ?_; rintro e w2 ⟨rfl, h2, b2⟩; have HI3 : Hid _ := h2; have HB2 : Hid (Below w.heap.size w w2) := HB1.out.trans (b2.mono (Nat.le_refl _)); clear h2 b2)
        go_roundw
        case rel => exact ⟨j + 1, by omega, by go_num, HB2.out, by rw [HT.out, show commaT xs j ++ 44 :: x = commaT xs j ++ [44] ++ x by simp, byte_cells_append]; have := HI3.out; rwa [str_cells] at this⟩
        case measure => simp [intOf]; omega
    · obtain rfl : j = n := by omega
      have HF : Hid (Lib.IsBuilder 74 5 w.heap.size w.heap.size (Lib.byteCells (commaL xs)) wr) := by
        have := HI.out
        rwa [commaT, List.take_of_length_le (by rw [HN.out]; exact Nat.le_refl _)] at this
      clear HI
      go_wp2_with (go_at_call 37; refine (sh_Builder_String_any _ _ _ _ HF.out HB.out.size).mono ?_; rintro e w1 ⟨rfl, b1⟩; have HB1 : Hid (Below w.heap.size w w1) := HB.out.trans (b1.mono (Nat.le_refl _)); clear b1)
      go_ret
      exact ⟨rfl, HB1.out⟩

theorem infoStr : (Tryz.prog.info? 9).map (fun i => (i.zero, i.size, i.bytes)) = some (some (.string ⟨#[]⟩), 1, 16) := by kernel_rfl
theorem make_texts (n : Nat) (h1 : n ≤ 1048576) : ∃ M : Array Value, M.size = n ∧
    (∀ W : World, (Instr.makeSlice 71 (.int .i64 (n : Int)) (.int .i64 (n : Int))).run Tryz.prog W = .ok (.slice (some ⟨W.heap.size, 0, none⟩) n n) (W.alloc (.cells M 9))) := by
  obtain ⟨i0, hi, hz0, hz1, hz2⟩ := bld_parts infoStr
  refine ⟨madeCells (Value.string ⟨#[]⟩).cells (n * i0.size), ?_, ?_⟩
  · rw [size_madeCells, hz1, Nat.mul_one]
  · intro W
    have h := run_make (P := Tryz.prog) W 71 9 i0 _ Tryz.underlying71 hi hz0 .i64 .i64 n n (by omega) (by omega) (by rw [hz2]; omega) (by omega)
    simpa using h

set_option maxHeartbeats 2000000 in
set_option maxRecDepth 20000 in
theorem all_any (ks : List Tm) (w : World) (b off n cap : Nat) (hn : ks.length = n) (h400 : n ≤ 400) (hks : TmsIn w ks b off)
    (hk : ∀ u ∈ ks, ∀ V v, Below w.heap.size w V → TmIn V u v → Calls Tryz.prog 14 #[v] V fun e w' => e = .returned (.string ⟨u.wr.toArray⟩) ∧ Below V.heap.size V w') :
    Calls Tryz.prog 46 #[.slice (some ⟨b, off, none⟩) n cap] w fun e w' => ∃ g, e = .returned (.slice (some ⟨g, 0, none⟩) n n) ∧ TxtAt w' g 0 (ks.map Tm.wr) ∧ Below w.heap.size w w' := by
  obtain ⟨M, hM, hmk⟩ := make_texts n (by omega)
  obtain ⟨W, hW⟩ : ∃ W, W = w.alloc (.cells M 9) := ⟨_, rfl⟩
  have HN : Hid (ks.length = n) := hn
  have HBW : Hid (Below w.heap.size w W) := by rw [hW]; exact (Below.refl _ _).alloc (Nat.le_refl _) _
  have HG : Hid (W.heap[w.heap.size]? = some (.cells M 9 (0, 0))) := by rw [hW]; exact heap_alloc_new w _
  have HM : Hid (M.size = n) := hM
  have HKS : Hid (TmsIn w ks b off) := hks
  have HK : Hid _ := hk
  have hlen : (n : Int) ≤ 400 := by omega
  clear hn hM hks hk h400
  go_enter Tryz.func46, Tryz.ntmps46
  go_wp2
  clear hmk
  rw [← hW]
  clear hW
  go_loopw [11] (fun vi wr => ∃ (j : Nat) (cur : Array Value), j ≤ n ∧ vi = .int .i64 (j : Int) ∧ Hid (Below w.heap.size w wr) ∧ Hid (wr.heap[w.heap.size]? = some (.cells cur 9 (0, 0))) ∧ Hid (cur.size = n) ∧ Hid (∀ i (hi : i < ks.length), i < j → cur[i]? = some (.string ⟨ks[i].wr.toArray⟩))) (fun i _ => n - (intOf i).toNat)
  case atStart => exact ⟨0, M, by omega, rfl, HBW.out, HG.out, HM.out, fun i hi h => by omega⟩
  case round =>
    obtain ⟨j, cur, hj, rfl, HB, HG, HSZ, HC⟩ := hrel
    by_cases hlt : j < n
    · have hjk : j < ks.length := by have := HN.out; omega
      obtain ⟨c0, c1, c2, c3, h0, h1, h2, h3, ht⟩ := HKS.out.at j hjk
      obtain ⟨kk, ss, nn, aa, ll, cc, e4⟩ := tm_shape ht
      simp only [Value.agg.injEq, Array.mk.injEq, List.cons.injEq, and_true] at e4
      obtain ⟨rfl, rfl, rfl, rfl⟩ := e4
      have HCW : Hid (∀ V, Below w.heap.size w V → Calls Tryz.prog 14 #[.agg #[.int .i64 kk, .string ss, .int .i64 nn, .slice aa ll cc]] V fun e w' => e = .returned (.string ⟨ks[j].wr.toArray⟩) ∧ Below V.heap.size V w') := fun V hb => HK.out ks[j] (List.getElem_mem hjk) V _ hb (TmIn.keep hb _ _ ht)
      replace h0 := cell_keep h0 HB.out
      replace h1 := cell_keep h1 HB.out
      replace h2 := cell_keep h2 HB.out
      replace h3 := cell_keep h3 HB.out
      have HN2 : Hid (∀ i (hi : i < ks.length), i < j + 1 → (cur.setIfInBounds j (.string ⟨ks[j].wr.toArray⟩))[i]? = some (.string ⟨ks[i].wr.toArray⟩)) := fun i hi h => by
        rw [Array.getElem?_setIfInBounds]
        by_cases e : j = i
        · subst e; rw [if_pos rfl, if_pos (by have := HSZ.out; omega)]
        · rw [if_neg e]; exact HC.out i hi (by omega)
      generalize ks[j].wr = X at *
      obtain ⟨V, hV⟩ : ∃ V, V = wr.alloc (.cells #[.int .i64 kk, .string ss, .int .i64 nn, .slice aa ll cc] 29) := ⟨_, rfl⟩
      have BV : Hid (Below w.heap.size w V) := by rw [hV]; exact HB.out.alloc HB.out.size _
      have HV : Hid (V = wr.alloc (.cells #[.int .i64 kk, .string ss, .int .i64 nn, .slice aa ll cc] 29)) := hV
      have HGV : Hid (V.heap[w.heap.size]? = some (.cells cur 9 (0, 0))) := by rw [hV]; exact (alloc_old _ _ (Array.getElem?_eq_some_iff.1 HG.out).1).trans HG.out
      have HCV : Hid _ := HCW.out V BV.out
      clear ht hjk hV
      go_upto_region 5 with (fail)
      rw [← HV.out]
      have HKV : Hid (V.heap[wr.heap.size]? = some (.cells #[.int .i64 kk, .string ss, .int .i64 nn, .slice aa ll cc] 29 (0, 0))) := by rw [HV.out]; exact heap_alloc_new wr _
      clear h0 h1 h2 h3 HV
      obtain ⟨q0, q1, q2, q3, _⟩ := blk4 HKV.out
      go_wp2_with (go_at_call 14; refine (Calls.mono HCV.out ?_); rintro e w2 ⟨rfl, b2⟩; have B2 : Hid (Below w.heap.size w w2) := BV.out.trans (b2.mono BV.out.size); have HG2 : Hid (w2.heap[w.heap.size]? = some (.cells cur 9 (0, 0))) := (b2.block _ (Array.getElem?_eq_some_iff.1 HGV.out).1).trans HGV.out; have hf2 : w2.frozen? ⟨w.heap.size, j, none⟩ = false := blk_frozen HG2.out j; have hq2 : w2.cell? ⟨w.heap.size, j, none⟩ = some (cur[j]'(by have := HSZ.out; omega)) := blk_cell HG2.out (by have := HSZ.out; omega); clear b2)
      go_roundw
      case rel => exact ⟨j + 1, _, by omega, by go_num, below_set B2.out (Nat.le_refl _) _, blk_set HG2.out _, by rw [Array.size_setIfInBounds]; exact HSZ.out, HN2.out⟩
      case measure => simp [intOf]; omega
    · obtain rfl : j = n := by omega
      go_wp2
      go_ret
      refine ⟨w.heap.size, rfl, fun i hi => ?_, HB.out⟩
      have hi2 : i < ks.length := by simpa using hi
      rw [Nat.zero_add, Lib.cell_of_heap HG.out]
      have := HC.out i hi2 (by have := HN.out; omega)
      rw [this]
      simp
end Go.Proofs.YtenmhpalpfppmaoGreatDoor

/- impl.namesOf, (names).of, (names).walked: names stand for terms behind pointers. -/
import Derived.Test.YtdcphfcenaafbamRows
import Derived.Test.YtdcphfcenaafbamWalkP
import Derived.Test.YtdcphfcenaafbamTmTo
import Derived.Laws.OwnMore
import Derived.ProofKit
namespace Go.Proofs.Ytdcphfcenaafbam
open Go.RowKit

/-- at that place lies the term -/
def PAt (w : World) (pb po : Nat) (t : Tm) : Prop :=
  ∃ c0 c1 c2 c3, w.cell? ⟨pb, po, none⟩ = some c0 ∧ w.cell? ⟨pb, po + 1, none⟩ = some c1 ∧ w.cell? ⟨pb, po + 2, none⟩ = some c2 ∧ w.cell? ⟨pb, po + 3, none⟩ = some c3 ∧ TmIn w t (.agg #[c0, c1, c2, c3])

theorem PAt.keep {w w' : World} {pb po : Nat} {t : Tm} (h : PAt w pb po t) (hb : Below w.heap.size w w') : PAt w' pb po t := by
  obtain ⟨c0, c1, c2, c3, h0, h1, h2, h3, ht⟩ := h
  exact ⟨c0, c1, c2, c3, cell_keep h0 hb, cell_keep h1 hb, cell_keep h2 hb, cell_keep h3 hb, TmIn.keep hb _ _ ht⟩

theorem PAt.open {w : World} {pb po : Nat} {t : Tm} (h : PAt w pb po t) : ∃ s ao len cap, w.cell? ⟨pb, po, none⟩ = some (.int .i64 t.kind) ∧ w.cell? ⟨pb, po + 1, none⟩ = some (.string s) ∧ w.cell? ⟨pb, po + 2, none⟩ = some (.int .i64 t.num) ∧ w.cell? ⟨pb, po + 3, none⟩ = some (.slice ao len cap) ∧ (-9223372036854775808 ≤ t.num ∧ t.num ≤ 9223372036854775807) := by
  obtain ⟨k, s, n, ks⟩ := t
  obtain ⟨c0, c1, c2, c3, h0, h1, h2, h3, ht⟩ := h
  unfold TmIn at ht
  obtain ⟨ao, cap, he, _, hn, _⟩ := ht
  obtain ⟨rfl, rfl, rfl, rfl⟩ : c0 = .int .i64 k ∧ c1 = .string s ∧ c2 = .int .i64 n ∧ c3 = .slice ao ks.length cap := by simpa using he
  exact ⟨s, ao, _, cap, h0, h1, h2, h3, hn⟩

/-- the pointers to the terms of a row -/
def NamesAt (w : World) (g : Nat) (ks : List Tm) (b off : Nat) : Prop :=
  ∀ j (hj : j < ks.length), w.cell? ⟨g, j, none⟩ = some (if ks[j].kind = 0 then .pointer none else .pointer (some ⟨b, off + j * 4, none⟩))

def ofV (ks : List Tm) (b off : Nat) (t : Tm) : Value := match nextT ks t with
  | none => .pointer none
  | some _ => .pointer (some ⟨b, off + t.num.toNat * 4, none⟩)

set_option maxRecDepth 20000 in
theorem of_any (ks : List Tm) (t : Tm) (w : World) (g b off pb po : Nat) (hn : NamesAt w g ks b off) (hp : PAt w pb po t) :
    Calls Try.prog 61 #[.slice (some ⟨g, 0, none⟩) ks.length ks.length, .pointer (some ⟨pb, po, none⟩)] w fun e w' => e = .returned (ofV ks b off t) ∧ w' = w := by
  obtain ⟨s, ao, len, cap, h0, h1, h2, h3, b1, b2⟩ := hp.open
  obtain ⟨R, hR⟩ : ∃ R, R = ofV ks b off t := ⟨_, rfl⟩
  rw [← hR]
  by_cases hk : t.kind = 1
  · by_cases hin : 0 ≤ t.num ∧ t.num < (ks.length : Int)
    · obtain ⟨j, hj⟩ : ∃ j : Nat, t.num = (j : Int) := ⟨t.num.toNat, by omega⟩
      have hlt : j < ks.length := by omega
      have hc := hn j hlt
      have HR : Hid ((if ks[j].kind = 0 then Value.pointer none else Value.pointer (some ⟨b, off + j * 4, none⟩)) = R) := by
        show _ = _
        rw [hR]
        unfold ofV
        rw [nextT_at hk hj hlt, show t.num.toNat = j by omega]
        split <;> rfl
      rw [show (if ks[j].kind = 0 then Value.pointer none else Value.pointer (some ⟨b, off + j * 4, none⟩)) = R from HR.out] at hc
      rw [hk] at h0
      rw [hj] at h2 hin
      obtain ⟨q, rfl⟩ : ∃ q, R = .pointer q := by rw [← HR.out]; split <;> exact ⟨_, rfl⟩
      clear hR HR hj hk b1 b2 hn hp
      go_enter Try.func61, Try.ntmps61
      go_wp2
      go_ret
      exact ⟨rfl, rfl⟩
    · have HR : Hid (R = .pointer none) := by
        show _ = _
        rw [hR]; unfold ofV
        rw [nextT_out (by omega)]
      rw [hk] at h0
      clear hR hn hp hk
      by_cases hneg : t.num < 0
      · clear hin
        go_enter Try.func61, Try.ntmps61
        go_wp2
        go_ret
        exact ⟨by rw [HR.out]; rfl, rfl⟩
      · have hge : ¬ t.num < (ks.length : Int) := by omega
        clear hin
        go_enter Try.func61, Try.ntmps61
        go_wp2
        go_ret
        exact ⟨by rw [HR.out]; rfl, rfl⟩
  · have HR : Hid (R = .pointer none) := by
      show _ = _
      rw [hR]; unfold ofV
      rw [nextT_kind hk]
    have hk2 : (t.kind != 1) = true := by simpa using hk
    clear hR hn hp
    go_enter Try.func61, Try.ntmps61
    go_wp2
    go_ret
    exact ⟨by rw [HR.out]; rfl, rfl⟩

theorem ofV_none {ks : List Tm} {b off : Nat} {t : Tm} (h : nextT ks t = none) : ofV ks b off t = .pointer none := by unfold ofV; rw [h]
theorem ofV_some {ks : List Tm} {b off : Nat} {t u : Tm} (h : nextT ks t = some u) : ∃ j, ∃ hj : j < ks.length, ofV ks b off t = .pointer (some ⟨b, off + j * 4, none⟩) ∧ ks[j] = u := by
  have h' := h
  unfold nextT at h
  split at h
  · split at h
    · cases h
    · rename_i x hx
      split at h
      · cases h
      · cases h
        obtain ⟨hj, e⟩ := List.getElem?_eq_some_iff.1 hx
        exact ⟨t.num.toNat, hj, by unfold ofV; rw [h'], e⟩
  · cases h

/-- where it ends: at the place where it began, or at one of the row's -/
def WEnd (ks : List Tm) (b off pb po : Nat) (t R : Tm) (qb qo : Nat) : Prop :=
  (qb = pb ∧ qo = po ∧ R = t) ∨ ∃ j, ∃ hj : j < ks.length, qb = b ∧ qo = off + j * 4 ∧ ks[j] = R

set_option maxHeartbeats 1000000 in
set_option maxRecDepth 20000 in
theorem walked_any (ks : List Tm) (t : Tm) (w : World) (g b off pb po : Nat) (hn : NamesAt w g ks b off) (hr : ks ≠ [] → TmsIn w ks b off) (hp : PAt w pb po t) :
    Calls Try.prog 42 #[.slice (some ⟨g, 0, none⟩) ks.length ks.length, .pointer (some ⟨pb, po, none⟩)] w fun e w' => ∃ qb qo, e = .returned (.pointer (some ⟨qb, qo, none⟩)) ∧ WEnd ks b off pb po t (walkT ks 5000 t) qb qo ∧ w' = w := by
  obtain ⟨NN, hNN⟩ : ∃ NN : Nat, NN = 5000 := ⟨_, rfl⟩
  rw [← hNN]
  have HNN : Hid _ := hNN
  clear hNN
  obtain ⟨R, hR⟩ : ∃ R, R = walkT ks NN t := ⟨_, rfl⟩
  rw [← hR]
  have HC : Hid (∀ u qb qo, PAt w qb qo u → Calls Try.prog 61 #[.slice (some ⟨g, 0, none⟩) ks.length ks.length, .pointer (some ⟨qb, qo, none⟩)] w fun e w' => e = .returned (ofV ks b off u) ∧ w' = w) := fun u qb qo h => of_any ks u w g b off qb qo hn h
  have HRW : Hid (∀ j, ∀ hj : j < ks.length, PAt w b (off + j * 4) ks[j]) := fun j hj => (hr (by intro e; subst e; simp at hj)).at j hj
  have HS : Hid (walkT ks (NN - 0) t = R) := hR.symm
  have HP : Hid (PAt w pb po t) := hp
  clear hn hr hp hR
  go_enter Try.func42, Try.ntmps42
  go_wp2
  go_loopw [1, 6] (fun vt vi wr => ∃ (i qb qo : Nat) (u : Tm), Hid (i ≤ NN) ∧ vi = .int .i64 (i : Int) ∧ vt = .pointer (some ⟨qb, qo, none⟩) ∧ w = wr ∧ Hid (PAt w qb qo u) ∧ Hid (WEnd ks b off pb po t u qb qo) ∧ Hid (walkT ks (NN - i) u = R)) (fun _ i _ => NN - (intOf i).toNat)
  case atStart => exact ⟨0, pb, po, t, Nat.zero_le _, rfl, rfl, rfl, HP.out, Or.inl ⟨rfl, rfl, rfl⟩, HS.out⟩
  case round =>
    obtain ⟨i, qb, qo, u, HI, rfl, rfl, rfl, HP1, HE, HW⟩ := hrel
    by_cases hi5 : (i : Int) < 5000
    · have HCC : Hid _ := HC.out u qb qo HP1.out
      cases hnx : nextT ks u with
      | none =>
        have HU : Hid (R = u) := by
          have h2 : walkT ks (NN - i) u = R := HW.out
          rw [walkT_none hnx] at h2
          exact h2.symm
        rw [ofV_none hnx] at HCC
        replace HCC : Hid _ := HCC
        clear hnx
        go_wp2_with (go_at_call 61; refine (Calls.mono HCC.out ?_); rintro e w1 ⟨rfl, rfl⟩)
        go_ret
        exact ⟨qb, qo, rfl, by rw [HU.out]; exact HE.out, rfl⟩
      | some u2 =>
        obtain ⟨j, hj, e1, e2⟩ := ofV_some (b := b) (off := off) hnx
        have HWN : Hid (walkT ks (NN - (i + 1)) u2 = R) := by
          have h2 : walkT ks (NN - i) u = R := HW.out
          have h3 : NN = 5000 := HNN.out
          rw [show NN - i = (NN - (i + 1)) + 1 by omega, walkT_some hnx] at h2
          exact h2
        rw [e1] at HCC
        replace HCC : Hid _ := HCC
        have HP2 : Hid (PAt w b (off + j * 4) u2) := by have := HRW.out j hj; rw [e2] at this; exact this
        have HE2 : Hid (WEnd ks b off pb po t u2 b (off + j * 4)) := Or.inr ⟨j, hj, rfl, rfl, e2⟩
        have HI7 : Hid (i + 1 ≤ NN) := by
          have h3 : NN = 5000 := HNN.out
          show _ ≤ _
          omega
        clear hnx e1 e2
        go_wp2_with (go_at_call 61; refine (Calls.mono HCC.out ?_); rintro e w1 ⟨rfl, rfl⟩)
        go_roundw
        case rel => exact ⟨i + 1, b, off + j * 4, u2, HI7.out, by go_num, rfl, trivial, HP2.out, HE2.out, HWN.out⟩
        case measure =>
          have h7 : i + 1 ≤ NN := HI7.out
          simp [intOf]
          omega
    · have HU : Hid (R = u) := by
        have h2 : walkT ks (NN - i) u = R := HW.out
        have h3 : NN = 5000 := HNN.out
        rw [show NN - i = 0 by omega] at h2
        exact h2.symm
      go_wp2
      go_ret
      exact ⟨qb, qo, rfl, by rw [HU.out]; exact HE.out, rfl⟩

theorem infoP : (Try.prog.info? 60).map (fun i => (i.zero, i.size, i.bytes)) = some (some (.pointer none), 1, 8) := by kernel_rfl

theorem make_ptrs (n : Nat) (h1 : n ≤ 1048576) : ∃ M : Array Value, M.toList = List.replicate n (Value.pointer none) ∧
    (∀ W : World, (Instr.makeSlice 62 (.int .i64 (n : Int)) (.int .i64 (n : Int))).run Try.prog W = .ok (.slice (some ⟨W.heap.size, 0, none⟩) n n) (W.alloc (.cells M 60))) := by
  obtain ⟨i0, hi, hz0, hz1, hz2⟩ := info_parts infoP
  refine ⟨madeCells (Value.pointer none).cells (n * i0.size), ?_, ?_⟩
  · rw [hz1, Nat.mul_one]; exact toList_madeCells_one _ _
  · intro W
    have h := run_make (P := Try.prog) W 62 60 i0 _ Try.underlying62 hi hz0 .i64 .i64 n n (by omega) (by omega) (by rw [hz2]; omega) (by omega)
    simpa using h

set_option maxRecDepth 20000 in
theorem names_any (ks : List Tm) (w : World) (ao : Option Addr) (cap b off : Nat) (hl : ks.length ≤ 1048576) (hr : ks ≠ [] → ao = some ⟨b, off, none⟩ ∧ TmsIn w ks b off) :
    Calls Try.prog 41 #[.agg #[.slice ao ks.length cap]] w fun e w' => ∃ g, e = .returned (.slice (some ⟨g, 0, none⟩) ks.length ks.length) ∧ NamesAt w' g ks b off ∧ w.heap.size ≤ g ∧ g < w'.heap.size ∧ Below w.heap.size w w' := by
  obtain ⟨M, hM, hmk⟩ := make_ptrs ks.length hl
  obtain ⟨W, hW⟩ : ∃ W, W = (w.alloc (.cells #[.slice ao ks.length cap] 35)).alloc (.cells M 60) := ⟨_, rfl⟩
  have bW : Below w.heap.size w W := by rw [hW]; exact ((Below.refl _ _).alloc (Nat.le_refl _) _).alloc (by simp) _
  have k1 : W.heap[w.heap.size]? = some (.cells #[.slice ao ks.length cap] 35 (0, 0)) := by rw [hW]; exact (alloc_old _ _ (by simp)).trans (alloc_at _ _ rfl)
  have k2 : W.heap[w.heap.size + 1]? = some (.cells M 60 (0, 0)) := by rw [hW]; exact alloc_at _ _ (by simp)
  have HK1 : Hid _ := k1
  have HK2 : Hid _ := k2
  have HM : Hid _ := hM
  have HBW : Hid _ := bW
  have HR : Hid _ := hr
  clear k1 k2 hM bW hr
  go_enter Try.func41, Try.ntmps41
  go_wp2
  clear hmk
  rw [← hW]
  have HST : Hid (∀ i, i < ks.length → M[i]? = some (Value.pointer none)) := fun i hi => by
    rw [← Array.getElem?_toList, HM.out, List.getElem?_replicate, if_pos hi]
  have hsM : M.size = ks.length := by rw [← Array.length_toList, HM.out, List.length_replicate]
  clear hW HM
  go_loopw [12] (fun vi wr => ∃ (j : Nat) (cur : Array Value), j ≤ ks.length ∧ vi = .int .i64 (j : Int) ∧ Hid (Below w.heap.size w wr) ∧ Hid (wr.heap[w.heap.size]? = some (.cells #[.slice ao ks.length cap] 35 (0, 0))) ∧ Hid (wr.heap[w.heap.size + 1]? = some (.cells cur 60 (0, 0))) ∧ Hid (cur.size = ks.length) ∧ Hid ((∀ i (hi : i < ks.length), i < j → cur[i]? = some (if ks[i].kind = 0 then .pointer none else .pointer (some ⟨b, off + i * 4, none⟩))) ∧ ∀ i, j ≤ i → i < ks.length → cur[i]? = some (.pointer none))) (fun i _ => ks.length - (intOf i).toNat)
  case atStart => exact ⟨0, M, by omega, rfl, HBW.out, HK1.out, HK2.out, hsM, fun i hi h => by omega, fun i _ hi => HST.out i hi⟩
  case round =>
    obtain ⟨j, cur, hj, rfl, HB, HX, HG, HSZ, HC⟩ := hrel
    have x0 : wr.cell? ⟨w.heap.size, 0, none⟩ = some (.slice ao ks.length cap) := blk_cell (i := 0) HX.out (by simp)
    by_cases hlt : j < ks.length
    · obtain ⟨rfl, hin⟩ := HR.out (by intro e; subst e; simp at hlt)
      obtain ⟨c0, c1, c2, c3, h0, h1, h2, h3, ht⟩ := hin.at j hlt
      obtain ⟨s1, ao1, len1, cap1, g0, _, _, _, _⟩ := PAt.open ⟨c0, c1, c2, c3, h0, h1, h2, h3, ht⟩
      replace g0 := cell_keep g0 HB.out
      have hjs : j < cur.size := by have := HSZ.out; omega
      have y0 : wr.cell? ⟨w.heap.size + 1, j, none⟩ = some (.pointer none) := by
        have := blk_cell HG.out hjs
        rw [this]
        have := HC.out.2 j (Nat.le_refl _) hlt
        rwa [Array.getElem?_eq_getElem hjs] at this
      have y1 : wr.frozen? ⟨w.heap.size + 1, j, none⟩ = false := blk_frozen HG.out _
      have HN : Hid (∀ v : Value, (v = if ks[j].kind = 0 then .pointer none else .pointer (some ⟨b, off + j * 4, none⟩)) → (∀ i (hi : i < ks.length), i < j + 1 → (cur.setIfInBounds j v)[i]? = some (if ks[i].kind = 0 then .pointer none else .pointer (some ⟨b, off + i * 4, none⟩))) ∧ ∀ i, j + 1 ≤ i → i < ks.length → (cur.setIfInBounds j v)[i]? = some (.pointer none)) := fun v hv => by
        refine ⟨fun i hi h => ?_, fun i h hi => ?_⟩
        · rw [Array.getElem?_setIfInBounds]
          by_cases e : j = i
          · subst e; rw [if_pos rfl, if_pos hjs, hv]
          · rw [if_neg e]; exact HC.out.1 i hi (by omega)
        · rw [Array.getElem?_setIfInBounds, if_neg (by omega)]; exact HC.out.2 i (by omega) hi
      have HN0 : Hid (ks[j].kind = 0 → (∀ i (hi : i < ks.length), i < j + 1 → cur[i]? = some (if ks[i].kind = 0 then .pointer none else .pointer (some ⟨b, off + i * 4, none⟩))) ∧ ∀ i, j + 1 ≤ i → i < ks.length → cur[i]? = some (.pointer none)) := fun hz => by
        refine ⟨fun i hi h => ?_, fun i h hi => HC.out.2 i (by omega) hi⟩
        by_cases e : j = i
        · subst e; rw [if_pos hz]; exact HC.out.2 j (Nat.le_refl _) hi
        · exact HC.out.1 i hi (by omega)
      clear hin h0 h1 h2 h3 ht hjs
      by_cases hz : ks[j].kind = 0
      · replace HN0 : Hid _ := HN0.out hz
        rw [hz] at g0
        clear hz HN
        go_wp2
        go_roundw
        case rel => exact ⟨j + 1, cur, by omega, by go_num, HB.out, HX.out, HG.out, HSZ.out, HN0.out⟩
        case measure => simp [intOf]; omega
      · replace HN : Hid _ := HN.out (.pointer (some ⟨b, off + j * 4, none⟩)) (by rw [if_neg hz])
        have hz2 : (ks[j].kind != 0) = true := by simpa using hz
        generalize ks[j].kind = kk at *
        clear hz HN0
        go_wp2
        go_roundw
        case rel => exact ⟨j + 1, _, by omega, by go_num, below_set HB.out (by omega) _, (blk_other _ (by omega)).trans HX.out, blk_set HG.out _, by rw [Array.size_setIfInBounds]; exact HSZ.out, HN.out⟩
        case measure => simp [intOf]; omega
    · go_wp2
      go_ret
      obtain rfl : j = ks.length := by omega
      refine ⟨w.heap.size + 1, rfl, fun i hi => ?_, by omega, (Array.getElem?_eq_some_iff.1 HG.out).1, HB.out⟩
      have hi2 : i < cur.size := by have := HSZ.out; omega
      rw [blk_cell HG.out hi2]
      have := HC.out.1 i hi hi
      rwa [Array.getElem?_eq_getElem hi2] at this
end Go.Proofs.Ytdcphfcenaafbam

/- impl.copiedClauses by a new copier. -/
import Derived.Test.YtmhmlkdoaojimapDoorKCla
import Derived.Test.YtmhmlkdoaojimapDoorMrg9
import Derived.Test.YtmhmlkdoaojimapDoorMrg11
namespace Go.Proofs.YtmhmlkdoaojimapDoor
open Go.RowKit

/-- the clauses of a row, each in blocks of its own -/
theorem OwnCs.parts {e : TypeId} {w : World} : ∀ {ks : List Cla} {cs : List Value} {F : List Nat}, OwnCs e w ks cs F → F.Nodup → ∃ G : Nat → List Nat,
    (∀ j (hj : j < ks.length), OwnC e w ks[j] ((cs.drop (j * 9)).take 9) (G j)) ∧ (∀ j, j < ks.length → (∀ f ∈ G j, f ∈ F) ∧ (G j).Nodup) ∧ (∀ i j, i < j → j < ks.length → ∀ f ∈ G i, f ∉ G j)
  | [], _, _, _, _ => ⟨fun _ => [], fun j hj => by simp at hj, fun j hj => by simp at hj, fun i j _ hj => by simp at hj⟩
  | c :: ks, cs, F, h, hnd => by
    obtain ⟨c1, c2, F1, F2, rfl, rfl, h1, h2⟩ := h
    obtain ⟨n1, n2, n3⟩ := List.nodup_append.1 hnd
    obtain ⟨G, g1, g2, g3⟩ := OwnCs.parts h2 n2
    have hl := h1.len
    refine ⟨fun j => match j with | 0 => F1 | j + 1 => G j, fun j hj => ?_, fun j hj => ?_, fun i j hij hj f hf => ?_⟩
    · match j, hj with
      | 0, _ =>
        rw [Nat.zero_mul, List.drop_zero, List.take_append_of_le_length (by omega), List.take_of_length_le (by omega)]
        exact h1
      | j + 1, hj =>
        rw [List.drop_append, List.drop_eq_nil_of_le (by omega), List.nil_append, show (j + 1) * 9 - c1.length = j * 9 by omega]
        exact g1 j (by simpa using hj)
    · match j, hj with
      | 0, _ => exact ⟨fun f hf => List.mem_append_left _ hf, n1⟩
      | j + 1, hj => exact ⟨fun f hf => List.mem_append_right _ ((g2 j (by simpa using hj)).1 f hf), (g2 j (by simpa using hj)).2⟩
    · match i, j, hij, hj with
      | 0, j + 1, _, hj => exact fun h => n3 f hf f ((g2 j (by simpa using hj)).1 f h) rfl
      | i + 1, j + 1, hij, hj => exact g3 i j (by omega) (by simpa using hj) f hf

theorem claWts_take_succ {ks : List Cla} {j : Nat} (h : j < ks.length) : claWts (ks.take (j + 1)) = claWts (ks.take j) + ks[j].wt := by
  rw [List.take_succ_eq_append_getElem h, claWts_append]
  simp [claWts]
theorem claWts_take_le (ks : List Cla) (j : Nat) : claWts (ks.take j) ≤ claWts ks := by
  have := claWts_append (ks.take j) (ks.drop j)
  rw [List.take_append_drop] at this
  omega

/-- what turns nothing below B, behind what turned two blocks alone -/
theorem below_out {F : List Nat} {w w1 w2 : World} (hb : Below w.heap.size w1 w2) (h : Out F w w1) : Out F w w2 :=
  ⟨hb.os.trans h.os, hb.tape.trans h.tape, hb.output.trans h.output, Nat.le_trans h.size hb.size, fun k hk hk2 => (hb.block k hk).trans (h.block k hk hk2)⟩

/-- the copier within the loop -/
def CcSt (gc m : Nat) (ks : List Cla) (G : Nat → List Nat) (B : Nat) (j : Nat) (wr : World) : Prop :=
  ∃ T D osl, KSt wr gc m T D osl ∧ T ≤ claWts (ks.take j) + 2 * j ∧ (∀ d ∈ D, (∃ i, i < j ∧ d ∈ G i) ∨ B < d) ∧ (∀ z, osl.ownBlock = some z → B < z)

set_option maxHeartbeats 8000000 in
set_option maxRecDepth 20000 in
theorem copied_clauses (ks : List Cla) (w : World) (sl : Value) (F : List Nat) (gc m : Nat) (hlen : ks.length + claWts ks ≤ 1048576) (h : OwnClS 57 46 w ks sl F) (hnd : F.Nodup) (hst : KSt w gc m 0 [] (.slice none 0 0)) (hF : ∀ f ∈ F, f ≠ gc ∧ f ≠ m) :
    Calls Tryd.prog 38 #[.pointer (some ⟨gc, 0, none⟩), sl] w fun e w' => ∃ sl F, e = .returned sl ∧ OwnClS 57 46 w' ks sl F ∧ (∀ f ∈ F, w.heap.size ≤ f) ∧ F.Nodup ∧ Out [gc, m] w w' := by
  obtain ⟨M, hM, hmk⟩ := make_clauses ks.length (by omega)
  have hlt := h.lt
  have hkl := hst.lt
  have hgl := hkl gc (Or.inl rfl)
  have hml := hkl m (Or.inr (Or.inl rfl))
  obtain ⟨g, cap, G, hsl, HSRC⟩ : ∃ (g cap : Nat) (G : Nat → List Nat), (ks ≠ [] → sl = .slice (some ⟨g, 0, none⟩) ks.length cap) ∧ (∀ j (hj : j < ks.length), ∃ cur cc, w.heap[g]? = some (.cells cur 57 (0, 0)) ∧ g < w.heap.size ∧ g ≠ gc ∧ g ≠ m ∧ (∀ i, i < 9 → cur[j * 9 + i]? = cc[i]?) ∧ OwnC 46 w ks[j] cc (G j) ∧ (G j).Nodup ∧ (∀ f ∈ G j, f ≠ gc ∧ f ≠ m ∧ f < w.heap.size) ∧ (∀ i, i < j → ∀ f ∈ G i, f ∉ G j)) := by
    rcases h with ⟨rfl, rfl, rfl⟩ | ⟨g, cap, cs, F', rfl, h5, rfl, h6⟩
    · exact ⟨0, 0, fun _ => [], fun h => absurd rfl h, fun j hj => by simp at hj⟩
    · obtain ⟨G, g1, g2, g3⟩ := OwnCs.parts h6 (List.nodup_cons.1 hnd).2
      refine ⟨g, cap, G, fun _ => rfl, fun j hj => ?_⟩
      obtain ⟨hl, h5⟩ := h5
      rcases h5 with ⟨h5, _⟩ | ⟨g', cap', cur, e', _, hblk, hc1, hc2, hc3, hc4⟩
      · cases h5
      · simp only [Value.slice.injEq, Option.some.injEq, Addr.mk.injEq, and_true, true_and] at e'
        obtain ⟨rfl, rfl⟩ := e'
        have hg9 := hF g (by simp)
        refine ⟨cur, _, hblk, (Array.getElem?_eq_some_iff.1 hblk).1, hg9.1, hg9.2, fun i hi => ?_, g1 j hj, (g2 j hj).2, fun f hf => ?_, fun i hi => g3 i j hi hj⟩
        · have hl6 := OwnCs.len _ _ _ h6
          rw [List.getElem?_take, if_pos hi, List.getElem?_drop, ← hc4, List.getElem?_take, if_pos (by omega)]
          simp
        · have h9 := List.mem_cons_of_mem g ((g2 j hj).1 f hf)
          exact ⟨(hF f h9).1, (hF f h9).2, hlt f h9⟩
  obtain ⟨ao, cp, rfl⟩ := ownClS_shape h
  have HS0 : Hid (CcSt gc m ks G w.heap.size 0 w) := ⟨0, [], _, hst, by omega, fun d hd => (by cases hd), fun z hz => (by cases hz)⟩
  have HSR : Hid _ := HSRC
  have HGM : Hid (gc < w.heap.size ∧ m < w.heap.size) := ⟨hgl, hml⟩
  clear h hnd hst hF hlt hkl hgl hml HSRC
  go_enter Tryd.func38, Tryd.ntmps38
  go_wp2
  clear hmk
  go_loopw [13] (fun vi wr => ∃ (j : Nat) (cur : Array Value) (F : List Nat), j ≤ ks.length ∧ vi = .int .i64 (j : Int) ∧ Hid (Out [gc, m] w wr) ∧ wr.heap[w.heap.size]? = some (.cells cur 57 (0, 0)) ∧ cur.size = ks.length * 9 ∧
      Hid (OwnCs 46 wr (ks.take j) (cur.toList.take (j * 9)) F ∧ (∀ f ∈ F, w.heap.size < f) ∧ F.Nodup ∧ ∃ T D osl, KSt wr gc m T D osl ∧ T ≤ claWts (ks.take j) + 2 * j ∧ (∀ d ∈ D, (∃ i, i < j ∧ d ∈ G i) ∨ w.heap.size < d) ∧ (∀ z, osl.ownBlock = some z → w.heap.size < z ∧ z ∉ F))) (fun i _ => ks.length - (intOf i).toNat)
  case atStart =>
    obtain ⟨T, D, osl, q1, q2, q3, q4⟩ := HS0.out
    refine ⟨0, M, [], by omega, rfl, Out.of_below ((Below.refl _ _).alloc (Nat.le_refl _) _), by rw [heap_alloc_new], hM, ?_⟩
    exact ⟨by simp [OwnCs], by simp, by simp, T, D, osl, q1.keep ((Below.refl _ _).alloc (Nat.le_refl _) _), q2, q3, fun z hz => ⟨q4 z hz, by simp⟩⟩
  case round =>
    obtain ⟨j, cur, F, hj, rfl, HB, hblk, hcs, HO⟩ := hrel
    by_cases hlt : j < ks.length
    · obtain ⟨scur, cc, s1, s2, s3, s4, s5, s6, s7, s8, s9⟩ := HSR.out j hlt
      have hsl' := hsl (by intro e; subst e; simp at hlt)
      obtain ⟨rfl, rfl⟩ : ao = some ⟨g, 0, none⟩ ∧ cp = cap := by simpa using hsl'
      obtain ⟨k1, t1, n1, a1, l1, m1, k2, t2, n2, a2, l2, m2, F1, F2, rfl, hFF, hf, o1, o2⟩ := s6
      have hgb := (HB.out.block g s2 (by simp [s3, s4])).trans s1
      have x0 := cell_of_row (i := j * 9) hgb ((s5 0 (by omega)).trans rfl)
      have x1 := cell_of_row (i := j * 9 + 1) hgb ((s5 1 (by omega)).trans rfl)
      have x2 := cell_of_row (i := j * 9 + 2) hgb ((s5 2 (by omega)).trans rfl)
      have x3 := cell_of_row (i := j * 9 + 3) hgb ((s5 3 (by omega)).trans rfl)
      have x4 := cell_of_row (i := j * 9 + 4) hgb ((s5 4 (by omega)).trans rfl)
      have x5 := cell_of_row (i := j * 9 + 5) hgb ((s5 5 (by omega)).trans rfl)
      have x6 := cell_of_row (i := j * 9 + 6) hgb ((s5 6 (by omega)).trans rfl)
      have x7 := cell_of_row (i := j * 9 + 7) hgb ((s5 7 (by omega)).trans rfl)
      have x8 := cell_of_row (i := j * 9 + 8) hgb ((s5 8 (by omega)).trans rfl)
      have HBLK : Hid (wr.heap[w.heap.size]? = _ ∧ w.heap.size < wr.heap.size) := ⟨hblk, (Array.getElem?_eq_some_iff.1 hblk).1⟩
      obtain ⟨r1, r2, r3, T, D, osl, hk, hT, hD, hz⟩ := HO.out
      have hgm := HGM.out
      have hwj := claWts_take_succ hlt
      have hwl := claWts_take_le ks (j + 1)
      have hlt1 := OwnCs.lt _ _ _ r1
      obtain ⟨U, hU⟩ : ∃ U, U = wr.alloc (.cells #[.int .i64 k1, .string t1, .int .i64 n1, .slice a1 l1 m1, .int .i64 k2, .string t2, .int .i64 n2, .slice a2 l2 m2, .string ks[j].f] 57) := ⟨_, rfl⟩
      have bU : Below wr.heap.size wr U := by rw [hU]; exact (Below.refl _ _).alloc (Nat.le_refl _) _
      have hsU : U.heap.size = wr.heap.size + 1 := by rw [hU]; simp
      have hso := HB.out.size
      have hg0 := HBLK.out.2
      have oc : OwnC 46 U ks[j] [.int .i64 k1, .string t1, .int .i64 n1, .slice a1 l1 m1, .int .i64 k2, .string t2, .int .i64 n2, .slice a2 l2 m2, .string ks[j].f] (G j) :=
        OwnC.keep ⟨k1, t1, n1, a1, l1, m1, k2, t2, n2, a2, l2, m2, F1, F2, rfl, hFF, hf, o1, o2⟩ fun f hf9 => by
          have h9 := s8 f hf9
          exact (bU.block f (by omega)).trans (HB.out.block f h9.2.2 (by simp [h9.1, h9.2.1]))
      have HC0 := copied_any ks[j] _ (G j) U gc m T D osl oc s7 (by omega) (hk.keep bU) (by omega) (fun f hf9 => by
        have h9 := s8 f hf9
        refine ⟨h9.1, h9.2.1, fun e => by have := hz f e; omega, fun h => ?_⟩
        rcases hD f h with ⟨i, hi, h⟩ | h
        · exact s9 i hi f h hf9
        · omega)
      have HPOST : Hid (∀ e w1, CcPost T D osl gc m ks[j] (G j) U e w1 → ∃ k s n ao l c k' s' n' ao' l' c' F', e = .returned (.agg #[.int .i64 k, .string s, .int .i64 n, .slice ao l c, .int .i64 k', .string s', .int .i64 n', .slice ao' l' c', .string ks[j].f]) ∧ w1.heap[w.heap.size]? = some (.cells cur 57 (0, 0)) ∧
          OwnC 46 w1 ks[j] [.int .i64 k, .string s, .int .i64 n, .slice ao l c, .int .i64 k', .string s', .int .i64 n', .slice ao' l' c', .string ks[j].f] F' ∧ OwnCs 46 w1 (ks.take j) (cur.toList.take (j * 9)) F ∧ (∀ f ∈ F ++ F', w.heap.size < f) ∧ (F ++ F').Nodup ∧ Out [gc, m] w w1 ∧
          ∃ T D osl, KSt w1 gc m T D osl ∧ T ≤ claWts (ks.take (j + 1)) + 2 * (j + 1) ∧ (∀ d ∈ D, (∃ i, i < j + 1 ∧ d ∈ G i) ∨ w.heap.size < d) ∧ (∀ z, osl.ownBlock = some z → w.heap.size < z ∧ z ∉ F ++ F')) := by
        rintro e w1 ⟨cs', F', T1, D1, osl1, rfl, oc1, f1, nd1, ho, hk1, hT1, hD1, hz1⟩
        have hkp : ∀ k, k < wr.heap.size → k ≠ gc → k ≠ m → osl.ownBlock ≠ some k → w1.heap[k]? = wr.heap[k]? := fun k hk1 hk2 hk3 hk4 =>
          (ho.block k (by omega) (by simp [hk2, hk3]; exact hk4)).trans (bU.block k hk1)
        have hso1 := ho.size
        have ow1 : OwnCs 46 w1 (ks.take j) (cur.toList.take (j * 9)) F := OwnCs.keep _ _ _ r1 fun f hf9 => hkp f (hlt1 f hf9) (by have := r2 f hf9; omega) (by have := r2 f hf9; omega) (fun e => (hz f e).2 hf9)
        obtain ⟨k, s, n, ao, l, c, k', s', n', ao', l', c', G1, G2, rfl, hGG, hf', p1, p2⟩ := oc1
        refine ⟨k, s, n, ao, l, c, k', s', n', ao', l', c', F', rfl, (hkp _ hg0 (by omega) (by omega) (fun e => by have := (hz _ e).1; omega)).trans HBLK.out.1, ⟨k, s, n, ao, l, c, k', s', n', ao', l', c', G1, G2, rfl, hGG, hf', p1, p2⟩, ow1, fun f hf9 => ?_, List.nodup_append.2 ⟨r3, nd1, fun x hx y hy e => ?_⟩, ⟨ho.os.trans (bU.os.trans HB.out.os), ho.tape.trans (bU.tape.trans HB.out.tape), ho.output.trans (bU.output.trans HB.out.output), by omega, fun k hk1 hk2 => ?_⟩, T1, D1, osl1, hk1, ?_, fun d hd => ?_, fun z hz9 => ⟨?_, fun h => ?_⟩⟩
        · rcases List.mem_append.1 hf9 with h | h
          · exact r2 f h
          · have := (f1 f h).1; omega
        · have := hlt1 x hx
          have := (f1 y hy).1
          omega
        · simp only [List.mem_cons, not_or] at hk2
          exact (hkp k (by omega) hk2.1 hk2.2.1 (fun e => by have := (hz _ e).1; omega)).trans (HB.out.block k hk1 (by simp [hk2.1, hk2.2.1]))
        · have : ks[j].wt = ks[j].h.wt + ks[j].b.wt + ks[j].f.size := rfl
          omega
        · rcases hD1 d hd with h | h | h
          · rcases hD d h with ⟨i, hi, h⟩ | h
            · exact Or.inl ⟨i, by omega, h⟩
            · exact Or.inr h
          · exact Or.inl ⟨j, by omega, h⟩
          · exact Or.inr (by omega)
        · rcases hz1 z hz9 with h | h
          · exact (hz z h).1
          · omega
        · rcases List.mem_append.1 h with h | h
          · rcases hz1 z hz9 with h' | h'
            · exact (hz z h').2 h
            · have := hlt1 z h; omega
          · exact (f1 z h).2 hz9
      have HTK : Hid (ks.take (j + 1) = ks.take j ++ [ks[j]]) := List.take_succ_eq_append_getElem hlt
      have HS8 : Hid (∀ i, i < j + 1 → ∀ f ∈ G i, f < w.heap.size) := fun i hi f hf9 => by
        obtain ⟨_, _, _, _, _, _, _, _, _, q8, _⟩ := HSR.out i (by omega)
        exact (q8 f hf9).2.2
      have HU : Hid (U = _) := hU
      rw [hU] at HC0
      have HC : Hid _ := HC0
      clear s1 s5 hgb hblk hf o1 o2 hFF s8 s9 HC0 r1 r2 r3 hk hT hD hz hwj hwl hlt1 bU hsU oc s7 HSR HS0 HO hU
      generalize ks[j] = kj at *
      go_wp2_with (go_at_call 64; refine (Calls.mono HC.out ?_); intro e w1 hcc; obtain ⟨k, s, n, ao, l, c, k', s', n', ao', l', c', F', rfl, hg1, hrest⟩ := HPOST.out e w1 (by rw [HU.out]; exact hcc); have HREST : Hid _ := hrest; clear hrest hcc; have y0 := blk_cell (i := j * 9) hg1 (by omega); have y1 := blk_cell (i := j * 9 + 1) hg1 (by omega); have y2 := blk_cell (i := j * 9 + 2) hg1 (by omega); have y3 := blk_cell (i := j * 9 + 3) hg1 (by omega); have y4 := blk_cell (i := j * 9 + 4) hg1 (by omega); have y5 := blk_cell (i := j * 9 + 5) hg1 (by omega); have y6 := blk_cell (i := j * 9 + 6) hg1 (by omega); have y7 := blk_cell (i := j * 9 + 7) hg1 (by omega); have y8 := blk_cell (i := j * 9 + 8) hg1 (by omega); have z0 := blk_frozen hg1 (j * 9); have z1 := blk_frozen hg1 (j * 9 + 1); have z2 := blk_frozen hg1 (j * 9 + 2); have z3 := blk_frozen hg1 (j * 9 + 3); have z4 := blk_frozen hg1 (j * 9 + 4); have z5 := blk_frozen hg1 (j * 9 + 5); have z6 := blk_frozen hg1 (j * 9 + 6); have z7 := blk_frozen hg1 (j * 9 + 7); have z8 := blk_frozen hg1 (j * 9 + 8); have HG : Hid _ := hg1; clear hg1)
      go_roundw
      case rel =>
        have hg1 := HG.out
        obtain ⟨oc, ow, hlo, hnd, ho, T, D, osl, hk, hT, hD, hz⟩ := HREST.out
        have hgm := HGM.out
        have hne : ∀ f, w.heap.size < f → f ≠ w.heap.size := fun f hf => by omega
        refine ⟨j + 1, _, F ++ F', by omega, by go_num, ?_, blk_set (blk_set (blk_set (blk_set (blk_set (blk_set (blk_set (blk_set (blk_set hg1 _) _) _) _) _) _) _) _) _, by simp; exact hcs, ?_, hlo, hnd, T, D, osl, hk.turn fun k hk9 => ?_, hT, hD, hz⟩
        · exact below_out (below_set (below_set (below_set (below_set (below_set (below_set (below_set (below_set (below_set (Below.refl w.heap.size _) (Nat.le_refl _) _) (Nat.le_refl _) _) (Nat.le_refl _) _) (Nat.le_refl _) _) (Nat.le_refl _) _) (Nat.le_refl _) _) (Nat.le_refl _) _) (Nat.le_refl _) _) (Nat.le_refl _) _) ho
        · rw [HTK.out, set9_take (by omega)]
          refine OwnCs.snoc (oc.keep fun f hf => ?_) _ _ _ (OwnCs.keep _ _ _ ow fun f hf => ?_)
          · have h1 := hlo f (List.mem_append_right _ hf)
            rw [blk_other _ (hne f (by omega)), blk_other _ (hne f (by omega)), blk_other _ (hne f (by omega)), blk_other _ (hne f (by omega)), blk_other _ (hne f (by omega)), blk_other _ (hne f (by omega)), blk_other _ (hne f (by omega)), blk_other _ (hne f (by omega)), blk_other _ (hne f (by omega))]
          · have h1 := hlo f (List.mem_append_left _ hf)
            rw [blk_other _ (hne f h1), blk_other _ (hne f h1), blk_other _ (hne f h1), blk_other _ (hne f h1), blk_other _ (hne f h1), blk_other _ (hne f h1), blk_other _ (hne f h1), blk_other _ (hne f h1), blk_other _ (hne f h1)]
        · have hkn : k ≠ w.heap.size := by
            rcases hk9 with rfl | rfl | h | h
            · omega
            · omega
            · rcases hD k h with ⟨i, hi, h⟩ | h
              · have := HS8.out i hi k h; omega
              · omega
            · have := (hz k h).1; omega
          rw [blk_other _ hkn, blk_other _ hkn, blk_other _ hkn, blk_other _ hkn, blk_other _ hkn, blk_other _ hkn, blk_other _ hkn, blk_other _ hkn, blk_other _ hkn]
      case measure => simp [intOf]; omega
    · obtain rfl : j = ks.length := by omega
      go_wp2
      go_ret
      obtain ⟨o1, o2, o3, -⟩ := HO.out
      rw [List.take_of_length_le (Nat.le_refl _)] at o1
      refine ⟨_, w.heap.size :: F, rfl, Or.inr ⟨w.heap.size, ks.length, cur.toList.take (ks.length * 9), F, rfl, ⟨by simp [hcs], Or.inr ⟨w.heap.size, ks.length, cur, rfl, Nat.zero_le _, hblk, Nat.le_refl _, by unfold maxLen; omega, hcs, rfl⟩⟩, rfl, o1⟩, ?_, ?_, HB.out⟩
      · intro f hf
        rcases List.mem_cons.1 hf with rfl | hf
        · exact Nat.le_refl _
        · have := o2 f hf; omega
      · refine List.nodup_cons.2 ⟨fun hf => ?_, o3⟩
        have := o2 _ hf
        omega
end Go.Proofs.YtmhmlkdoaojimapDoor

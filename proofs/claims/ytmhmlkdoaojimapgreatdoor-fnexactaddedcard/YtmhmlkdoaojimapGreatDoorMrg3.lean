/- Four texts in one. -/
import Derived.Test.YtmhmlkdoaojimapGreatDoorMrg1
import Derived.Test.YtmhmlkdoaojimapGreatDoorMrg2
import Derived.Laws.MakeOwn
import Derived.WalkKit
import Derived.BigQuiet
import Derived.Test.YtmhmlkdoaojimapGreatDoorRows
import Derived.ProofKit
/- A row of clauses in blocks of their own. -/
namespace Go.Proofs.YtmhmlkdoaojimapGreatDoor
open Go.RowKit

/-- one clause, its nine cells -/
def OwnC (e : TypeId) (w : World) (c : Cla) (cs : List Value) (F : List Nat) : Prop :=
  ∃ k1 s1 n1 a1 l1 m1 k2 s2 n2 a2 l2 m2 F1 F2, cs = [.int .i64 k1, .string s1, .int .i64 n1, .slice a1 l1 m1, .int .i64 k2, .string s2, .int .i64 n2, .slice a2 l2 m2, .string c.f] ∧ F = F1 ++ F2 ∧ c.f.size ≤ maxLen ∧
    Own e w c.h (.agg #[.int .i64 k1, .string s1, .int .i64 n1, .slice a1 l1 m1]) F1 ∧ Own e w c.b (.agg #[.int .i64 k2, .string s2, .int .i64 n2, .slice a2 l2 m2]) F2
/-- the cells of a row, nine each -/
def OwnCs (e : TypeId) (w : World) : List Cla → List Value → List Nat → Prop
  | [], cs, F => cs = [] ∧ F = []
  | c :: ks, cs, F => ∃ c1 c2 F1 F2, cs = c1 ++ c2 ∧ F = F1 ++ F2 ∧ OwnC e w c c1 F1 ∧ OwnCs e w ks c2 F2
/-- a slice of clauses, its own row and theirs -/
def OwnClS (ec e : TypeId) (w : World) (ks : List Cla) (sl : Value) (F : List Nat) : Prop :=
  (sl = .slice none 0 0 ∧ ks = [] ∧ F = []) ∨ ∃ g cap cs F', sl = .slice (some ⟨g, 0, none⟩) ks.length cap ∧ w.ownsRow 0 ec 9 sl ks.length cs ∧ F = g :: F' ∧ OwnCs e w ks cs F'

theorem OwnC.keep {e : TypeId} {w w' : World} {c : Cla} {cs : List Value} {F : List Nat} (h : OwnC e w c cs F) (hF : ∀ f ∈ F, w'.heap[f]? = w.heap[f]?) : OwnC e w' c cs F := by
  obtain ⟨k1, s1, n1, a1, l1, m1, k2, s2, n2, a2, l2, m2, F1, F2, rfl, rfl, hf, o1, o2⟩ := h
  exact ⟨k1, s1, n1, a1, l1, m1, k2, s2, n2, a2, l2, m2, F1, F2, rfl, rfl, hf, Own.keep _ _ _ o1 fun f h => hF f (by simp [h]), Own.keep _ _ _ o2 fun f h => hF f (by simp [h])⟩
theorem OwnC.lt {e : TypeId} {w : World} {c : Cla} {cs : List Value} {F : List Nat} (h : OwnC e w c cs F) : ∀ f ∈ F, f < w.heap.size := by
  obtain ⟨k1, s1, n1, a1, l1, m1, k2, s2, n2, a2, l2, m2, F1, F2, rfl, rfl, hf, o1, o2⟩ := h
  intro f hf
  rcases List.mem_append.1 hf with hf | hf
  · exact Own.lt _ _ _ o1 f hf
  · exact Own.lt _ _ _ o2 f hf
theorem OwnC.len {e : TypeId} {w : World} {c : Cla} {cs : List Value} {F : List Nat} (h : OwnC e w c cs F) : cs.length = 9 := by
  obtain ⟨k1, s1, n1, a1, l1, m1, k2, s2, n2, a2, l2, m2, F1, F2, rfl, _⟩ := h
  rfl
theorem OwnCs.keep {e : TypeId} {w w' : World} : ∀ (ks : List Cla) (cs : List Value) (F : List Nat), OwnCs e w ks cs F → (∀ f ∈ F, w'.heap[f]? = w.heap[f]?) → OwnCs e w' ks cs F
  | [], _, _, h, _ => h
  | c :: ks, cs, F, h, hF => by
    obtain ⟨c1, c2, F1, F2, rfl, rfl, h1, h2⟩ := h
    exact ⟨c1, c2, F1, F2, rfl, rfl, h1.keep fun f hf => hF f (by simp [hf]), OwnCs.keep ks c2 F2 h2 fun f hf => hF f (by simp [hf])⟩
theorem OwnCs.lt {e : TypeId} {w : World} : ∀ (ks : List Cla) (cs : List Value) (F : List Nat), OwnCs e w ks cs F → ∀ f ∈ F, f < w.heap.size
  | [], _, _, h => by obtain ⟨_, rfl⟩ := h; intro f hf; cases hf
  | c :: ks, cs, F, h => by
    obtain ⟨c1, c2, F1, F2, rfl, rfl, h1, h2⟩ := h
    intro f hf
    rcases List.mem_append.1 hf with hf | hf
    · exact h1.lt f hf
    · exact OwnCs.lt ks c2 F2 h2 f hf
theorem OwnCs.len {e : TypeId} {w : World} : ∀ (ks : List Cla) (cs : List Value) (F : List Nat), OwnCs e w ks cs F → cs.length = ks.length * 9
  | [], _, _, h => by obtain ⟨rfl, _⟩ := h; simp
  | c :: ks, cs, F, h => by
    obtain ⟨c1, c2, F1, F2, rfl, rfl, h1, h2⟩ := h
    have := h1.len
    have := OwnCs.len ks c2 F2 h2
    simp only [List.length_append, List.length_cons]; omega
theorem OwnCs.snoc {e : TypeId} {w : World} {c : Cla} {cc : List Value} {F2 : List Nat} (h2 : OwnC e w c cc F2) : ∀ (ks : List Cla) (cs : List Value) (F : List Nat), OwnCs e w ks cs F → OwnCs e w (ks ++ [c]) (cs ++ cc) (F ++ F2)
  | [], _, _, h => by
    obtain ⟨rfl, rfl⟩ := h
    exact ⟨cc, [], F2, [], by simp, by simp, h2, rfl, rfl⟩
  | c' :: ks, cs, F, h => by
    obtain ⟨d1, d2, F1, F3, rfl, rfl, h1, h3⟩ := h
    exact ⟨d1, d2 ++ cc, F1, F3 ++ F2, by simp, by simp, h1, OwnCs.snoc h2 ks d2 F3 h3⟩
/-- one of them -/
theorem OwnCs.at {e : TypeId} {w : World} : ∀ {ks : List Cla} {cs : List Value} {F : List Nat}, OwnCs e w ks cs F → ∀ (j : Nat) (hj : j < ks.length), ∃ F', OwnC e w ks[j] ((cs.drop (j * 9)).take 9) F' ∧ ∀ f ∈ F', f ∈ F
  | [], _, _, _, j, hj => by simp at hj
  | c :: ks, cs, F, h, 0, _ => by
    obtain ⟨c1, c2, F1, F2, rfl, rfl, h1, h2⟩ := h
    refine ⟨F1, ?_, fun f hf => by simp [hf]⟩
    have := h1.len
    rw [Nat.zero_mul, List.drop_zero, List.take_append_of_le_length (by omega), List.take_of_length_le (by omega)]
    exact h1
  | c :: ks, cs, F, h, j + 1, hj => by
    obtain ⟨c1, c2, F1, F2, rfl, rfl, h1, h2⟩ := h
    obtain ⟨F', o, hm⟩ := OwnCs.at h2 j (by simpa using hj)
    refine ⟨F', ?_, fun f hf => by simp [hm f hf]⟩
    have := h1.len
    rw [List.drop_append, List.drop_eq_nil_of_le (by omega), List.nil_append, show (j + 1) * 9 - c1.length = j * 9 by omega]
    exact o
theorem OwnClS.keep {ec e : TypeId} {w w' : World} {ks : List Cla} {sl : Value} {F : List Nat} (h : OwnClS ec e w ks sl F) (hF : ∀ f ∈ F, w'.heap[f]? = w.heap[f]?) : OwnClS ec e w' ks sl F := by
  rcases h with h | ⟨g, cap, cs, F', rfl, h5, rfl, h6⟩
  · exact Or.inl h
  · exact Or.inr ⟨g, cap, cs, F', rfl, row_keep h5 (hF g (by simp)), rfl, OwnCs.keep ks cs F' h6 (fun f hf => hF f (by simp [hf]))⟩
theorem OwnClS.lt {ec e : TypeId} {w : World} {ks : List Cla} {sl : Value} {F : List Nat} (h : OwnClS ec e w ks sl F) : ∀ f ∈ F, f < w.heap.size := by
  rcases h with ⟨_, _, rfl⟩ | ⟨g, cap, cs, F', rfl, h5, rfl, h6⟩
  · intro f hf; cases hf
  · intro f hf
    rcases List.mem_cons.1 hf with rfl | hf
    · exact (h5.lt _ rfl).2
    · exact OwnCs.lt ks cs F' h6 f hf
theorem ownClS_shape {ec e : TypeId} {w : World} {ks : List Cla} {sl : Value} {F : List Nat} (h : OwnClS ec e w ks sl F) : ∃ ao cap, sl = .slice ao ks.length cap := by
  rcases h with ⟨rfl, rfl, _⟩ | ⟨g, cap, cs, F', rfl, _⟩
  · exact ⟨none, 0, rfl⟩
  · exact ⟨_, cap, rfl⟩

theorem take_set1 {l : List Value} {i : Nat} {d : Value} (h : i < l.length) : (l.set i d).take (i + 1) = l.take i ++ [d] := by
  rw [List.take_succ_eq_append_getElem (by simpa using h), List.getElem_set_self, List.take_set_of_le (Nat.le_refl _)]
theorem set9_take {cur : Array Value} {j : Nat} {d0 d1 d2 d3 d4 d5 d6 d7 d8 : Value} (h : j * 9 + 8 < cur.size) :
    (((((((((cur.setIfInBounds (j * 9) d0).setIfInBounds (j * 9 + 1) d1).setIfInBounds (j * 9 + 2) d2).setIfInBounds (j * 9 + 3) d3).setIfInBounds (j * 9 + 4) d4).setIfInBounds (j * 9 + 5) d5).setIfInBounds (j * 9 + 6) d6).setIfInBounds (j * 9 + 7) d7).setIfInBounds (j * 9 + 8) d8).toList.take ((j + 1) * 9) = cur.toList.take (j * 9) ++ [d0, d1, d2, d3, d4, d5, d6, d7, d8] := by
  have hl : cur.toList.length = cur.size := by simp
  simp only [Array.toList_setIfInBounds]
  generalize cur.toList = l at *
  rw [show (j + 1) * 9 = j * 9 + 8 + 1 by omega, take_set1 (by simp only [List.length_set]; omega), take_set1 (by simp only [List.length_set]; omega), take_set1 (by simp only [List.length_set]; omega), take_set1 (by simp only [List.length_set]; omega), take_set1 (by simp only [List.length_set]; omega), take_set1 (by simp only [List.length_set]; omega), take_set1 (by simp only [List.length_set]; omega), take_set1 (by simp only [List.length_set]; omega), take_set1 (by omega)]
  simp
end Go.Proofs.YtmhmlkdoaojimapGreatDoor

/- laws.toClauseS. -/
namespace Go.Proofs.YtmhmlkdoaojimapGreatDoor
open Go.RowKit

theorem infoC : (Tryz.prog.info? 43).map (fun i => (i.zero, i.size, i.bytes)) = some (some (.agg #[.int .i64 0, .string ⟨#[]⟩, .int .i64 0, .slice none 0 0, .int .i64 0, .string ⟨#[]⟩, .int .i64 0, .slice none 0 0, .string ⟨#[]⟩]), 9, 128) := by kernel_rfl

theorem make_clauses (n : Nat) (h1 : n ≤ 1048576) : ∃ M : Array Value, M.size = n * 9 ∧
    (∀ W : World, (Instr.makeSlice 33 (.int .i64 (n : Int)) (.int .i64 (n : Int))).run Tryz.prog W = .ok (.slice (some ⟨W.heap.size, 0, none⟩) n n) (W.alloc (.cells M 43))) := by
  obtain ⟨i0, hi, hz0, hz1, hz2⟩ := info_parts infoC
  refine ⟨madeCells (Value.agg #[.int .i64 0, .string ⟨#[]⟩, .int .i64 0, .slice none 0 0, .int .i64 0, .string ⟨#[]⟩, .int .i64 0, .slice none 0 0, .string ⟨#[]⟩]).cells (n * i0.size), ?_, ?_⟩
  · rw [size_madeCells, hz1]
  · intro W
    have h := run_make (P := Tryz.prog) W 33 43 i0 _ Tryz.underlying33 hi hz0 .i64 .i64 n n (by omega) (by omega) (by rw [hz2]; omega) (by omega)
    simpa using h

theorem claWt_le {ks : List Cla} {c : Cla} (h : c ∈ ks) : c.wt ≤ claWts ks := by
  induction ks with
  | nil => cases h
  | cons a r ih =>
    simp only [claWts]
    rcases List.mem_cons.1 h with rfl | h
    · omega
    · have := ih h; omega

set_option maxHeartbeats 4000000 in
set_option maxRecDepth 20000 in
theorem to_clauses (ks : List Cla) (w : World) (sl : Value) (hlen : ks.length + claWts ks ≤ 1048576) (h : ClsIn w ks sl) :
    Calls Tryz.prog 20 #[sl] w fun e w' => ∃ sl F, e = .returned sl ∧ OwnClS 43 41 w' ks sl F ∧ (∀ f ∈ F, w.heap.size ≤ f) ∧ F.Nodup ∧ Below w.heap.size w w' := by
  obtain ⟨ao, cap, rfl, hcap, hmax, h⟩ := h
  clear hcap hmax
  obtain ⟨M, hM, hmk⟩ := make_clauses ks.length (by omega)
  go_enter Tryz.func20, Tryz.ntmps20
  go_wp2
  clear hmk
  go_loopw [4] (fun vi wr => ∃ (j : Nat) (cur : Array Value) (F : List Nat), j ≤ ks.length ∧ vi = .int .i64 (j : Int) ∧ Hid (Below w.heap.size w wr) ∧ wr.heap[w.heap.size]? = some (.cells cur 43 (0, 0)) ∧ cur.size = ks.length * 9 ∧
      Hid (OwnCs 41 wr (ks.take j) (cur.toList.take (j * 9)) F ∧ (∀ f ∈ F, w.heap.size < f) ∧ F.Nodup)) (fun i _ => ks.length - (intOf i).toNat)
  case atStart =>
    refine ⟨0, M, [], by omega, rfl, (Below.refl _ _).alloc (Nat.le_refl _) _, by rw [heap_alloc_new], hM, ?_⟩
    exact ⟨by simp [OwnCs], by simp, by simp⟩
  case round =>
    obtain ⟨j, cur, F, hj, rfl, HB, hblk, hcs, HO⟩ := hrel
    by_cases hlt : j < ks.length
    · obtain ⟨b, off, rfl, hin⟩ := h (by intro e; subst e; simp at hlt)
      obtain ⟨k1, s1, n1, a1, l1, m1, k2, s2, n2, a2, l2, m2, h0, h1, h2, h3, h4, h5, h6, h7, h8, hf, i1, i2⟩ := (hin j hlt).keep HB.out
      have hwj := claWt_le (List.getElem_mem hlt)
      have hwj1 : ks[j].h.wt ≤ 1048576 := by unfold Cla.wt at hwj; omega
      have hwj2 : ks[j].b.wt ≤ 1048576 := by unfold Cla.wt at hwj; omega
      have HC : Hid _ := to_clause ks[j].h ks[j].b ks[j].f wr k1 s1 n1 a1 l1 m1 k2 s2 n2 a2 l2 m2 i1 i2 hwj1 hwj2
      have HSF : Hid (ks[j].f.size ≤ maxLen) := hf
      have HTK : Hid (ks.take (j + 1) = ks.take j ++ [ks[j]]) := List.take_succ_eq_append_getElem hlt
      have hg : w.heap.size < wr.heap.size := (Array.getElem?_eq_some_iff.1 hblk).1
      have hkeep : ∀ w1 : World, Below wr.heap.size wr w1 → w1.heap[w.heap.size]? = some (.cells cur 43 (0, 0)) := fun w1 hb => (hb.block _ hg).trans hblk
      have HK : Hid _ := hkeep
      clear hin i1 i2 h hf hkeep hblk hwj hwj1 hwj2
      generalize ks[j] = kj at *
      obtain ⟨kh, kb, kf⟩ := kj
      simp only at h8 HC HSF
      go_wp2_with (go_at_call 8; refine (Calls.mono HC.out ?_); rintro e w1 ⟨k, s, n, ao, l, c, k', s', n', ao', l', c', F1, G1, rfl, o1, o2, f1, f2, nd1, nd2, ap, hb⟩; have hg1 := HK.out w1 hb; have x0 := blk_cell (i := j * 9) hg1 (by omega); have x1 := blk_cell (i := j * 9 + 1) hg1 (by omega); have x2 := blk_cell (i := j * 9 + 2) hg1 (by omega); have x3 := blk_cell (i := j * 9 + 3) hg1 (by omega); have x4 := blk_cell (i := j * 9 + 4) hg1 (by omega); have x5 := blk_cell (i := j * 9 + 5) hg1 (by omega); have x6 := blk_cell (i := j * 9 + 6) hg1 (by omega); have x7 := blk_cell (i := j * 9 + 7) hg1 (by omega); have x8 := blk_cell (i := j * 9 + 8) hg1 (by omega); have z0 := blk_frozen hg1 (j * 9); have z1 := blk_frozen hg1 (j * 9 + 1); have z2 := blk_frozen hg1 (j * 9 + 2); have z3 := blk_frozen hg1 (j * 9 + 3); have z4 := blk_frozen hg1 (j * 9 + 4); have z5 := blk_frozen hg1 (j * 9 + 5); have z6 := blk_frozen hg1 (j * 9 + 6); have z7 := blk_frozen hg1 (j * 9 + 7); have z8 := blk_frozen hg1 (j * 9 + 8); have HO1 : Hid _ := o1; have HO2 : Hid _ := o2; have HFR : Hid ((∀ x ∈ F1 ++ G1, wr.heap.size ≤ x) ∧ (F1 ++ G1).Nodup) := ⟨fun x hx => (List.mem_append.1 hx).elim (f1 x) (f2 x), List.nodup_append.2 ⟨nd1, nd2, fun a ha b hb e => ap b hb (e ▸ ha)⟩⟩; have HG : Hid _ := hg1; have HBB : Hid _ := hb; clear o1 o2 f1 f2 nd1 nd2 ap hg1 hb)
      go_roundw
      case rel =>
        have hsz := HB.out.size
        have hb1 := HBB.out
        have hg1 := HG.out
        obtain ⟨o1, o2, o3⟩ := HO.out
        have hlt1 := OwnCs.lt _ _ _ o1
        have hne : ∀ f, w.heap.size < f → f ≠ w.heap.size := fun f hf => by omega
        refine ⟨j + 1, _, F ++ (F1 ++ G1), by omega, by go_num, ?_, blk_set (blk_set (blk_set (blk_set (blk_set (blk_set (blk_set (blk_set (blk_set hg1 _) _) _) _) _) _) _) _) _, by simp; exact hcs, ?_, ?_, ?_⟩
        · exact below_set (below_set (below_set (below_set (below_set (below_set (below_set (below_set (below_set (HB.out.trans (hb1.mono hsz)) (Nat.le_refl _) _) (Nat.le_refl _) _) (Nat.le_refl _) _) (Nat.le_refl _) _) (Nat.le_refl _) _) (Nat.le_refl _) _) (Nat.le_refl _) _) (Nat.le_refl _) _) (Nat.le_refl _) _
        · rw [HTK.out, set9_take (by omega)]
          have hoc : OwnC 41 w1 ⟨kh, kb, kf⟩ [.int .i64 k, .string s, .int .i64 n, .slice ao l c, .int .i64 k', .string s', .int .i64 n', .slice ao' l' c', .string kf] (F1 ++ G1) := ⟨k, s, n, ao, l, c, k', s', n', ao', l', c', F1, G1, rfl, rfl, HSF.out, HO1.out, HO2.out⟩
          refine OwnCs.snoc (hoc.keep fun f hf => ?_) _ _ _ (OwnCs.keep _ _ _ o1 fun f hf => ?_)
          · have h1 := HFR.out.1 f hf
            rw [blk_other _ (hne f (by omega)), blk_other _ (hne f (by omega)), blk_other _ (hne f (by omega)), blk_other _ (hne f (by omega)), blk_other _ (hne f (by omega)), blk_other _ (hne f (by omega)), blk_other _ (hne f (by omega)), blk_other _ (hne f (by omega)), blk_other _ (hne f (by omega))]
          · have h1 := o2 f hf
            rw [blk_other _ (hne f h1), blk_other _ (hne f h1), blk_other _ (hne f h1), blk_other _ (hne f h1), blk_other _ (hne f h1), blk_other _ (hne f h1), blk_other _ (hne f h1), blk_other _ (hne f h1), blk_other _ (hne f h1)]
            exact hb1.block f (hlt1 f hf)
        · intro f hf
          rcases List.mem_append.1 hf with hf | hf
          · exact o2 f hf
          · have := HFR.out.1 f hf; omega
        · refine List.nodup_append.2 ⟨o3, HFR.out.2, fun a ha b hb => ?_⟩
          have h1 := hlt1 a ha
          have h2 := HFR.out.1 b hb
          omega
      case measure => simp [intOf]; omega
    · obtain rfl : j = ks.length := by omega
      go_wp2
      go_ret
      obtain ⟨o1, o2, o3⟩ := HO.out
      rw [List.take_of_length_le (Nat.le_refl _)] at o1
      refine ⟨_, w.heap.size :: F, rfl, Or.inr ⟨w.heap.size, ks.length, cur.toList.take (ks.length * 9), F, rfl, ⟨by simp [hcs], Or.inr ⟨w.heap.size, ks.length, cur, rfl, Nat.zero_le _, hblk, Nat.le_refl _, by unfold maxLen; omega, hcs, rfl⟩⟩, rfl, o1⟩, ?_, ?_, HB.out⟩
      · intro f hf
        rcases List.mem_cons.1 hf with rfl | hf
        · exact Nat.le_refl _
        · have := o2 f hf; omega
      · refine List.nodup_cons.2 ⟨fun hf => ?_, o3⟩
        have := o2 _ hf
        omega
end Go.Proofs.YtmhmlkdoaojimapGreatDoor

/- A region that draws its order, reads memory, and holds calls which make memory, but whose values do not hang on what is made: walked once, in the order of the text, over all worlds that are as the first one was below its end. -/
namespace Go.Proofs.YtmhmlkdoaojimapGreatDoor
open Go.RowKit

/-- any world that is as W was below W's end (and W itself in the place of any other) -/
noncomputable def later (W u : World) : World := @ite _ (Below W.heap.size W u) (Classical.propDecidable _) u W

theorem later_below (W u : World) : Below W.heap.size W (later W u) := by
  unfold later
  split
  · assumption
  · exact Below.refl _ _
theorem later_of {W u : World} (h : Below W.heap.size W u) : u = later W u := by
  unfold later
  rw [if_pos h]

theorem wp_region_later {P : Program} {id : Nat} {Q : Exit → Act → World → Prop} {a : Act} {w : World} {l : List Oper} (hm : P.follows .mixedOrders = true) (hB : Region.lexB .any l.toArray = true)
    (h : wpQuiet P l.toArray (fun w' => ∃ u, w' = later w u) (fun a' => ∀ w', (∃ u, w' = later w u) → Q .normal a' w') l a) : (Code.region id l.toArray true).wp P Q a w :=
  wp_region_quiet (C := fun w' => ∃ u, w' = later w u) hm hB ⟨w.drew, later_of (Below.refl w.heap.size w).drew⟩ (by simpa using h)
theorem Calls.later_of_below {P : Program} {f : FuncId} {args : Array Value} {w u : World} {v : Value} (h : Calls P f args (later w u) fun e w' => e = .returned v ∧ Below (later w u).heap.size (later w u) w') :
    Calls P f args (later w u) fun e w' => e = .returned v ∧ ∃ u', w' = later w u' :=
  h.mono fun _ w' ⟨he, hb⟩ => ⟨he, w', later_of ((later_below w u).trans (hb.mono (later_below w u).size))⟩
theorem Calls.later_of_same {P : Program} {f : FuncId} {args : Array Value} {w u : World} {v : Value} (h : Calls P f args (later w u) fun e w' => e = .returned v ∧ w' = later w u) :
    Calls P f args (later w u) fun e w' => e = .returned v ∧ ∃ u', w' = later w u' :=
  h.mono fun _ _ ⟨he, hb⟩ => ⟨he, u, hb⟩
end Go.Proofs.YtmhmlkdoaojimapGreatDoor

/- The laws' comparison of terms: of the same term it says so. -/
namespace Go.Proofs.YtmhmlkdoaojimapGreatDoor
open Go.RowKit

def EqOk (t : Tm) : Prop := ∀ (w : World) (va vb : Value), TmIn w t va → TmIn w t vb →
  Calls Tryz.prog 28 #[va, vb] w fun e w' => e = .returned (.bool true) ∧ Below w.heap.size w w'

theorem eq_terms (ks : List Tm) (hks : ∀ t ∈ ks, EqOk t) (w : World) (ao bo : Option Addr) (ca cb : Nat) (hlen : ks.length ≤ maxLen) (ha : ks ≠ [] → ∃ b off, ao = some ⟨b, off, none⟩ ∧ TmsIn w ks b off) (hb : ks ≠ [] → ∃ b off, bo = some ⟨b, off, none⟩ ∧ TmsIn w ks b off) :
    Calls Tryz.prog 47 #[.slice ao ks.length ca, .slice bo ks.length cb] w fun e w' => e = .returned (.bool true) ∧ Below w.heap.size w w' := by
  unfold maxLen at hlen
  go_enter Tryz.func47, Tryz.ntmps47
  go_wp2
  go_loopw [5] (fun vi wr => Hid (Below w.heap.size w wr) ∧ ∃ j : Nat, j ≤ ks.length ∧ vi = .int .i64 (j : Int)) (fun i _ => ks.length - (intOf i).toNat)
  case atStart => exact ⟨Below.refl _ _, 0, by omega, rfl⟩
  case round =>
    obtain ⟨HB, j, hj, rfl⟩ := hrel
    by_cases hlt : j < ks.length
    · have hne : ks ≠ [] := by intro e; subst e; simp at hlt
      obtain ⟨b, off, rfl, hin⟩ := ha hne
      obtain ⟨b', off', rfl, hin'⟩ := hb hne
      obtain ⟨c0, c1, c2, c3, h0, h1, h2, h3, ht⟩ := (TmsIn.keep HB.out ks b off hin).at j hlt
      obtain ⟨d0, d1, d2, d3, g0, g1, g2, g3, gt⟩ := (TmsIn.keep HB.out ks b' off' hin').at j hlt
      have HC : Hid (∀ u, Calls Tryz.prog 28 #[.agg #[c0, c1, c2, c3], .agg #[d0, d1, d2, d3]] (later wr u) fun e w' => e = .returned (.bool true) ∧ Below (later wr u).heap.size (later wr u) w') := fun u =>
        hks ks[j] (List.getElem_mem hlt) (later wr u) _ _ (TmIn.keep (later_below wr u) _ _ ht) (TmIn.keep (later_below wr u) _ _ gt)
      have k0 : ∀ u, (later wr u).cell? ⟨b, off + j * 4, none⟩ = some c0 := fun u => cell_keep h0 (later_below wr u)
      have k1 : ∀ u, (later wr u).cell? ⟨b, off + j * 4 + 1, none⟩ = some c1 := fun u => cell_keep h1 (later_below wr u)
      have k2 : ∀ u, (later wr u).cell? ⟨b, off + j * 4 + 2, none⟩ = some c2 := fun u => cell_keep h2 (later_below wr u)
      have k3 : ∀ u, (later wr u).cell? ⟨b, off + j * 4 + 3, none⟩ = some c3 := fun u => cell_keep h3 (later_below wr u)
      have l0 : ∀ u, (later wr u).cell? ⟨b', off' + j * 4, none⟩ = some d0 := fun u => cell_keep g0 (later_below wr u)
      have l1 : ∀ u, (later wr u).cell? ⟨b', off' + j * 4 + 1, none⟩ = some d1 := fun u => cell_keep g1 (later_below wr u)
      have l2 : ∀ u, (later wr u).cell? ⟨b', off' + j * 4 + 2, none⟩ = some d2 := fun u => cell_keep g2 (later_below wr u)
      have l3 : ∀ u, (later wr u).cell? ⟨b', off' + j * 4 + 3, none⟩ = some d3 := fun u => cell_keep g3 (later_below wr u)
      clear hin hin' ht gt ha hb hks h0 h1 h2 h3 g0 g1 g2 g3
      go_wp2
      refine wp_region_later (by kernel_rfl) (by kernel_rfl) ?_
      repeat (go_big_quiet_step ((go_at_call 28; exact Calls.later_of_below (HC.out _))))
      refine wpQuiet_nil ?_
      rintro _ ⟨u, rfl⟩
      have hb2 := later_below wr u
      clear k0 k1 k2 k3 l0 l1 l2 l3
      go_wp2
      go_roundw
      case rel => exact ⟨HB.out.trans (hb2.mono HB.out.size), j + 1, by omega, by go_num⟩
      case measure => simp [intOf]; omega
    · go_wp2
      go_ret
      exact ⟨rfl, HB.out⟩

theorem eq_term (t : Tm) : EqOk t := by
  refine tm_ind (p := EqOk) ?_ t
  clear t
  intro k s n ks hks w va vb hin hin'
  unfold TmIn at hin hin'
  obtain ⟨ao, ca, rfl, hk, hn, hs, hlen, hcap, hrow⟩ := hin
  obtain ⟨bo, cb, rfl, _, _, _, _, _, hrow'⟩ := hin'
  have hb1 : Below w.heap.size w ((w.alloc (.cells #[.int .i64 k, .string s, .int .i64 n, .slice ao ks.length ca] 41)).alloc (.cells #[.int .i64 k, .string s, .int .i64 n, .slice bo ks.length cb] 41)) :=
    ((Below.refl _ _).alloc (Nat.le_refl _) _).alloc (by simp) _
  have HC : Hid _ := eq_terms ks hks _ ao bo ca cb (by omega) (fun h0 => by obtain ⟨b, off, e, hr⟩ := hrow h0; exact ⟨b, off, e, TmsIn.keep hb1 ks b off hr⟩) (fun h0 => by obtain ⟨b, off, e, hr⟩ := hrow' h0; exact ⟨b, off, e, TmsIn.keep hb1 ks b off hr⟩)
  replace hb1 : Hid _ := hb1
  clear hks hrow hrow'
  unfold maxLen at *
  go_enter Tryz.func28, Tryz.ntmps28
  go_wp2_with (go_at_call 47; refine (Calls.mono HC.out ?_); rintro e w1 ⟨rfl, hb⟩; have HB1 : Hid (Below w.heap.size w w1) := hb1.out.trans (hb.mono hb1.out.size); clear hb)
  go_ret
  exact ⟨rfl, HB1.out⟩
end Go.Proofs.YtmhmlkdoaojimapGreatDoor

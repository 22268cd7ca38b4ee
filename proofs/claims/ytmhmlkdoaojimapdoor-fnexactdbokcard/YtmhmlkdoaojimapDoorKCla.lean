/- impl.copiedClause of any terms, by a copier that was used before. -/
import Derived.Test.YtmhmlkdoaojimapDoorMrg19
import Derived.Test.YtmhmlkdoaojimapDoorMrg9
import Derived.Test.YtmhmlkdoaojimapDoorMrg15
import Derived.Test.YtmhmlkdoaojimapDoorMrg8
import Derived.Test.YtmhmlkdoaojimapDoorRegFactI
import Derived.Deep.RegionWith
import Derived.Deep.DeepCutAuto
namespace Go.Proofs.YtmhmlkdoaojimapDoor
open Go.RowKit

/-- what copiedClause leaves -/
def CcPost (T0 : Nat) (D0 : List Nat) (osl : Value) (gc m : Nat) (c : Cla) (F : List Nat) (w : World) (e : Ending) (w' : World) : Prop :=
  ∃ cs F' T1 D1 osl', e = .returned (.agg (List.toArray cs)) ∧ OwnC 46 w' c cs F' ∧ (∀ f ∈ F', w.heap.size ≤ f ∧ osl'.ownBlock ≠ some f) ∧ F'.Nodup ∧ Out (gc :: m :: osl.ownBlock.toList) w w' ∧ KSt w' gc m T1 D1 osl' ∧ T1 ≤ T0 + (c.h.wt + c.b.wt + 2) ∧ (∀ d ∈ D1, d ∈ D0 ∨ d ∈ F ∨ w.heap.size ≤ d) ∧ (∀ z, osl'.ownBlock = some z → osl.ownBlock = some z ∨ w.heap.size ≤ z)

/-- what stands when both terms are copied -/
def CcHas (T0 : Nat) (D0 : List Nat) (osl : Value) (gc m : Nat) (H B : Tm) (F : List Nat) (p : Nat) (w : World) (v3 v7 : Value) (w4 : World) : Prop :=
  ∃ k5 s5 n5 a5 l5 c5 G1 k6 s6 n6 a6 l6 c6 G2 T2 D2 osl2, v3 = .agg #[.int .i64 k5, .string s5, .int .i64 n5, .slice a5 l5 c5] ∧ v7 = .agg #[.int .i64 k6, .string s6, .int .i64 n6, .slice a6 l6 c6] ∧
    Own 46 w4 H (.agg #[.int .i64 k5, .string s5, .int .i64 n5, .slice a5 l5 c5]) G1 ∧ Own 46 w4 B (.agg #[.int .i64 k6, .string s6, .int .i64 n6, .slice a6 l6 c6]) G2 ∧
    (∀ x ∈ G1, p + 2 ≤ x ∧ osl2.ownBlock ≠ some x) ∧ (∀ x ∈ G2, p + 2 ≤ x ∧ osl2.ownBlock ≠ some x) ∧ G1.Nodup ∧ G2.Nodup ∧ (∀ x ∈ G1, x ∉ G2) ∧
    Out (gc :: m :: osl.ownBlock.toList) w w4 ∧ p + 2 ≤ w4.heap.size ∧ KSt w4 gc m T2 D2 osl2 ∧ T2 ≤ T0 + (H.wt + B.wt + 2) ∧ (∀ d ∈ D2, d ∈ D0 ∨ d ∈ F ∨ p + 2 ≤ d) ∧ (∀ z, osl2.ownBlock = some z → osl.ownBlock = some z ∨ p + 2 ≤ z)

/-- what stands when the first one is copied -/
def CcOne (T0 : Nat) (D0 : List Nat) (osl : Value) (gc m : Nat) (H B : Tm) (F : List Nat) (p : Nat) (cb : Value) (A Z : Obj) (w : World) (v3 : Value) (w3 : World) : Prop :=
  ∀ u, Below w3.heap.size w3 u → Calls Tryd.prog 88 #[.pointer (some ⟨gc, 0, none⟩), cb] u fun e w' => ∃ v7, e = .returned v7 ∧ CcHas T0 D0 osl gc m H B F p w v3 v7 w' ∧ w'.heap[p]? = some A ∧ w'.heap[p + 1]? = some Z

set_option maxHeartbeats 8000000 in
set_option maxRecDepth 20000 in
theorem copied_any (c : Cla) (cs : List Value) (F : List Nat) (w : World) (gc m T0 : Nat) (D0 : List Nat) (osl : Value) (hown : OwnC 46 w c cs F) (hnd : F.Nodup) (hwt : c.wt ≤ 1048576) (hst : KSt w gc m T0 D0 osl) (hT : T0 + c.wt + 2 ≤ 2097152) (hF : ∀ f ∈ F, f ≠ gc ∧ f ≠ m ∧ osl.ownBlock ≠ some f ∧ f ∉ D0) :
    Calls Tryd.prog 64 #[.pointer (some ⟨gc, 0, none⟩), .agg cs.toArray] w (CcPost T0 D0 osl gc m c F w) := by
  obtain ⟨k1, s1, n1, a1, l1, c1, k2, s2, n2, a2, l2, c2, F1, F2, rfl, rfl, hfs, o1, o2⟩ := hown
  obtain ⟨H, B, f⟩ := c
  simp only at o1 o2 hfs
  have hw0 : H.wt + B.wt + f.size ≤ 1048576 := hwt
  have hT0 : T0 + (H.wt + B.wt + f.size) + 2 ≤ 2097152 := hT
  obtain ⟨d1, d2, d3⟩ := List.nodup_append.1 hnd
  show Calls Tryd.prog 64 #[.pointer (some ⟨gc, 0, none⟩), .agg #[.int .i64 k1, .string s1, .int .i64 n1, .slice a1 l1 c1, .int .i64 k2, .string s2, .int .i64 n2, .slice a2 l2 c2, .string f]] w _
  obtain ⟨W, hW⟩ : ∃ W, W = (w.alloc (.cells #[.int .i64 k1, .string s1, .int .i64 n1, .slice a1 l1 c1, .int .i64 k2, .string s2, .int .i64 n2, .slice a2 l2 c2, .string f] 57)).alloc (.cells #[.int .i64 0, .string ⟨#[]⟩, .int .i64 0, .slice none 0 0, .int .i64 0, .string ⟨#[]⟩, .int .i64 0, .slice none 0 0, .string ⟨#[]⟩] 57) := ⟨_, rfl⟩
  have bW : Below w.heap.size w W := by rw [hW]; exact ((Below.refl _ _).alloc (Nat.le_refl _) _).alloc (by simp) _
  have lW : W.heap.size = w.heap.size + 2 := by rw [hW]; simp
  have q1 : W.heap[w.heap.size]? = some (.cells #[.int .i64 k1, .string s1, .int .i64 n1, .slice a1 l1 c1, .int .i64 k2, .string s2, .int .i64 n2, .slice a2 l2 c2, .string f] 57 (0, 0)) := by rw [hW]; exact (alloc_old _ _ (by simp)).trans (alloc_at _ _ rfl)
  have q3 : W.heap[w.heap.size + 1]? = some (.cells #[.int .i64 0, .string ⟨#[]⟩, .int .i64 0, .slice none 0 0, .int .i64 0, .string ⟨#[]⟩, .int .i64 0, .slice none 0 0, .string ⟨#[]⟩] 57 (0, 0)) := by rw [hW]; exact alloc_at _ _ (by simp)
  have hlt1 := Own.lt _ _ _ o1
  have hlt2 := Own.lt _ _ _ o2
  have hstW := hst.keep bW
  have hkl := hst.lt
  have hgm := hst.gm
  obtain ⟨p, hp⟩ : ∃ p, p = w.heap.size := ⟨_, rfl⟩
  obtain ⟨A, hA⟩ : ∃ A, A = Obj.cells #[.int .i64 k1, .string s1, .int .i64 n1, .slice a1 l1 c1, .int .i64 k2, .string s2, .int .i64 n2, .slice a2 l2 c2, .string f] 57 (0, 0) := ⟨_, rfl⟩
  obtain ⟨Z, hZ⟩ : ∃ Z, Z = Obj.cells #[.int .i64 0, .string ⟨#[]⟩, .int .i64 0, .slice none 0 0, .int .i64 0, .string ⟨#[]⟩, .int .i64 0, .slice none 0 0, .string ⟨#[]⟩] 57 (0, 0) := ⟨_, rfl⟩
  rw [← hA, ← hp] at q1
  rw [← hZ, ← hp] at q3
  rw [← hp] at lW
  have HC1 : Hid (∀ u, Below W.heap.size W u → Calls Tryd.prog 88 #[.pointer (some ⟨gc, 0, none⟩), .agg #[.int .i64 k1, .string s1, .int .i64 n1, .slice a1 l1 c1]] u fun e w' => KPost T0 D0 osl gc m H F1 W e w') := fun u hb => by
    have hBu := bW.trans (hb.mono bW.size)
    exact Calls.mono (copy_any H _ F1 u gc m T0 D0 osl (Own.keep _ _ _ o1 fun x hx => hBu.block x (hlt1 x hx)) d1 (by omega) (hstW.keep hb) (by omega) (fun x hx => hF x (List.mem_append_left _ hx))) fun e w' h => KPost.base hb h
  have HAFT : Hid (∀ e w3, KPost T0 D0 osl gc m H F1 W e w3 → ∃ k5 s5 n5 a5 l5 c5, e = .returned (.agg #[.int .i64 k5, .string s5, .int .i64 n5, .slice a5 l5 c5]) ∧ w3.heap[p]? = some A ∧ w3.heap[p + 1]? = some Z ∧ CcOne T0 D0 osl gc m H B (F1 ++ F2) p (.agg #[.int .i64 k2, .string s2, .int .i64 n2, .slice a2 l2 c2]) A Z w (.agg #[.int .i64 k5, .string s5, .int .i64 n5, .slice a5 l5 c5]) w3) := by
    rintro e w3 ⟨v', G1, T1, D1, osl1, rfl, r1, f1, nd1, ho, hk, hT', hD, hz⟩
    obtain ⟨k5, s5, n5, a5, l5, c5, rfl⟩ := own_shape r1
    have hgl := hkl gc (Or.inl rfl)
    have hml := hkl m (Or.inr (Or.inl rfl))
    have hol : ∀ z, osl.ownBlock = some z → z < p := fun z h => by have := hkl z (Or.inr (Or.inr (Or.inr h))); omega
    have hobl : ∀ k, k < W.heap.size → k ≠ gc → k ≠ m → osl.ownBlock ≠ some k → w3.heap[k]? = W.heap[k]? := fun k hk1 hk2 hk3 hk4 => ho.block k hk1 (by simp [hk2, hk3]; exact hk4)
    have hp3 := (hobl p (by omega) (by omega) (by omega) (fun e => by have := hol p e; omega)).trans q1
    have hr3 := (hobl (p + 1) (by omega) (by omega) (by omega) (fun e => by have := hol _ e; omega)).trans q3
    have ho3 : Out (gc :: m :: osl.ownBlock.toList) w w3 := (Out.of_below bW).trans ho
    have hs3 := ho.size
    have oB : Own 46 w3 B (.agg #[.int .i64 k2, .string s2, .int .i64 n2, .slice a2 l2 c2]) F2 := Own.keep _ _ _ o2 fun x hx => by
      have h9 := hF x (List.mem_append_right _ hx)
      have hl := hlt2 x hx
      exact (hobl x (by omega) h9.1 h9.2.1 h9.2.2.1).trans (bW.block x hl)
    have hF2 : ∀ x ∈ F2, x ≠ gc ∧ x ≠ m ∧ osl1.ownBlock ≠ some x ∧ x ∉ D1 := fun x hx => by
      have h9 := hF x (List.mem_append_right _ hx)
      have hxl := hlt2 x hx
      refine ⟨h9.1, h9.2.1, fun e => ?_, fun h => ?_⟩
      · rcases hz x e with h | h
        · exact h9.2.2.1 h
        · omega
      · rcases hD x h with h | h | h
        · exact h9.2.2.2 h
        · exact d3 x h x hx rfl
        · omega
    refine ⟨k5, s5, n5, a5, l5, c5, rfl, hp3, hr3, fun u hb => ?_⟩
    refine Calls.mono (copy_any B _ F2 u gc m T1 D1 osl1 (Own.keep _ _ _ oB fun x hx => hb.block x (Own.lt _ _ _ oB x hx)) d2 (by omega) (hk.keep hb) (by omega) hF2) ?_
    intro e w' h
    obtain ⟨v', G2, T2, D2, osl2, rfl, r2, f2, nd2, ho2, hk2, hT2, hD2, hz2⟩ := KPost.base hb h
    obtain ⟨k6, s6, n6, a6, l6, c6, rfl⟩ := own_shape r2
    have hob2 : ∀ k, k < w3.heap.size → k ≠ gc → k ≠ m → osl1.ownBlock ≠ some k → w'.heap[k]? = w3.heap[k]? := fun k hk1 hk2 hk3 hk4 => ho2.block k hk1 (by simp [hk2, hk3]; exact hk4)
    have hol1 : ∀ k, p ≤ k → k < p + 2 → osl1.ownBlock ≠ some k := fun k hk0 hk1 e => by
      rcases hz k e with h | h
      · have := hol k h; omega
      · omega
    have lG1 := Own.lt _ _ _ r1
    have hG1 : ∀ x ∈ G1, x ≠ gc ∧ x ≠ m ∧ osl1.ownBlock ≠ some x ∧ p + 2 ≤ x := fun x hx => by
      have := f1 x hx
      exact ⟨by omega, by omega, this.2, by omega⟩
    refine ⟨_, rfl, ⟨k5, s5, n5, a5, l5, c5, G1, k6, s6, n6, a6, l6, c6, G2, T2, D2, osl2, rfl, rfl, Own.keep _ _ _ r1 fun x hx => ?_, r2, fun x hx => ⟨(hG1 x hx).2.2.2, fun e => ?_⟩, fun x hx => ⟨?_, (f2 x hx).2⟩, nd1, nd2, fun x hx h => ?_, ?_, ?_, hk2, ?_, fun d hd => ?_, fun z hz9 => ?_⟩, ?_, ?_⟩
    · exact hob2 x (lG1 x hx) (hG1 x hx).1 (hG1 x hx).2.1 (hG1 x hx).2.2.1
    · rcases hz2 x e with h | h
      · exact (hG1 x hx).2.2.1 h
      · have := lG1 x hx; omega
    · have := (f2 x hx).1; omega
    · have := lG1 x hx
      have := (f2 x h).1
      omega
    · refine ⟨ho2.os.trans ho3.os, ho2.tape.trans ho3.tape, ho2.output.trans ho3.output, Nat.le_trans ho3.size ho2.size, fun k hk1 hk2 => ?_⟩
      simp only [List.mem_cons, not_or] at hk2
      have hk4 : osl1.ownBlock ≠ some k := fun e => by
        rcases hz k e with h | h
        · exact hk2.2.2 (by rw [h]; simp)
        · omega
      rw [hob2 k (by omega) hk2.1 hk2.2.1 hk4]
      exact ho3.block k hk1 (by simp only [List.mem_cons, not_or]; exact hk2)
    · have := ho2.size; omega
    · omega
    · rcases hD2 d hd with h | h | h
      · rcases hD d h with h | h | h
        · exact Or.inl h
        · exact Or.inr (Or.inl (List.mem_append_left _ h))
        · exact Or.inr (Or.inr (by omega))
      · exact Or.inr (Or.inl (List.mem_append_right _ h))
      · exact Or.inr (Or.inr (by omega))
    · rcases hz2 z hz9 with h | h
      · rcases hz z h with h | h
        · exact Or.inl h
        · exact Or.inr (by omega)
      · exact Or.inr (by omega)
    · exact (hob2 p (by omega) (by omega) (by omega) (hol1 p (by omega) (by omega))).trans hp3
    · exact (hob2 (p + 1) (by omega) (by omega) (by omega) (hol1 _ (by omega) (by omega))).trans hr3
  have HCL : Hid (∀ u, Calls Tryd.prog 83 #[.string f] u fun e w' => e = .returned (.string f) ∧ Below u.heap.size u w') := fun u => clone_any f u (by omega)
  have HQ : Hid (W.heap[p]? = some A ∧ W.heap[p + 1]? = some Z) := ⟨q1, q3⟩
  have HL : Hid (W.heap.size = p + 2) := lW
  have HPP : Hid (p = w.heap.size) := hp
  have HFS : Hid (f.size ≤ maxLen ∧ gc ≠ p + 1 ∧ m ≠ p + 1 ∧ (∀ z, osl.ownBlock = some z → z < p) ∧ (∀ d ∈ D0, d < p) ∧ (∀ d ∈ F1 ++ F2, d < p)) := ⟨hfs, by have := hkl gc (Or.inl rfl); omega, by have := hkl m (Or.inr (Or.inl rfl)); omega, fun z h => by have := hkl z (Or.inr (Or.inr (Or.inr h))); omega, fun d h => by have := hkl d (Or.inr (Or.inr (Or.inl h))); omega, fun d h => by
    rcases List.mem_append.1 h with h | h
    · have := hlt1 d h; omega
    · have := hlt2 d h; omega⟩
  have hAA : Hid (A = _) := hA
  have hZZ : Hid (Z = _) := hZ
  clear hnd hwt hst hT hF hfs o1 o2 hw0 hT0 d1 d2 d3 bW lW q1 q3 hlt1 hlt2 hstW hkl hgm hA hZ
  go_enter Tryd.func64, Tryd.ntmps64
  go_upto_region 1 with fail
  rw [← hW]
  clear hW
  rw [← hp]
  clear hp
  refine FI.wp_region_inv 11 (fun L v u =>
    (L 0 = true → v 0 = .pointer (some ⟨gc, 0, none⟩)) ∧ (L 1 = true → v 1 = .pointer (some ⟨p, 0, none⟩)) ∧ (L 2 = true → v 2 = .agg #[.int .i64 k1, .string s1, .int .i64 n1, .slice a1 l1 c1]) ∧ (L 4 = true → v 4 = .pointer (some ⟨gc, 0, none⟩)) ∧ (L 5 = true → v 5 = .pointer (some ⟨p, 4, none⟩)) ∧ (L 6 = true → v 6 = .agg #[.int .i64 k2, .string s2, .int .i64 n2, .slice a2 l2 c2]) ∧
    (L 8 = true → v 8 = .pointer (some ⟨p, 8, none⟩)) ∧ (L 9 = true → v 9 = .string f) ∧ (L 10 = true → v 10 = .string f) ∧
    u.heap[p]? = some A ∧ u.heap[p + 1]? = some Z ∧
    (L 3 = false → Below W.heap.size W u) ∧
    (L 3 = true → L 7 = false → ∃ w3, Below w3.heap.size w3 u ∧ CcOne T0 D0 osl gc m H B (F1 ++ F2) p (.agg #[.int .i64 k2, .string s2, .int .i64 n2, .slice a2 l2 c2]) A Z w (v 3) w3) ∧
    (L 7 = true → ∃ w4, Below w4.heap.size w4 u ∧ CcHas T0 D0 osl gc m H B (F1 ++ F2) p w (v 3) (v 7) w4)) (by kernel_rfl) (by kernel_rfl) 17 rfl (by kernel_rfl) ?_ ?_ ?_
  · intro vals
    have hd := (Below.refl W.heap.size W).drew
    exact ⟨fun h => Bool.noConfusion h, fun h => Bool.noConfusion h, fun h => Bool.noConfusion h, fun h => Bool.noConfusion h, fun h => Bool.noConfusion h, fun h => Bool.noConfusion h, fun h => Bool.noConfusion h, fun h => Bool.noConfusion h, fun h => Bool.noConfusion h, HQ.out.1, HQ.out.2, fun _ => hd, fun h => Bool.noConfusion h, fun h => Bool.noConfusion h⟩
  · intro i o hi ho L a u hI hcl hli hfr hdep
    obtain ⟨h0, h1, h2, h4, h5, h6, h8, h9, h10, hpu, hru, hA, hB, hC⟩ := hI
    have u0 : a.tmps.getD 0 undef = .pointer (some ⟨gc, 0, none⟩) := hfr 0 (by decide)
    have u3 : a.tmps.getD 3 undef = .pointer (some ⟨p, 0, none⟩) := hfr 3 (by decide)
    have c73 : L 7 = true → L 3 = true := fun h => hcl 7 _ rfl h 3 (by kernel_rfl)
    have hpu' := hpu
    rw [hAA.out] at hpu'
    obtain ⟨⟨x0, x1, x2, x3, x4, x5, x6, x7, x8⟩, _⟩ := blk9 hpu'
    clear hpu'
    match i, hi with
    | 0, _ =>
      obtain rfl : _ = o := by simpa using ho
      refine FI.fact_value (w' := u) (v := .pointer (some ⟨gc, 0, none⟩)) rfl ?_ ⟨fun _ => rfl, h1, h2, h4, h5, h6, h8, h9, h10, hpu, hru, hA, hB, hC⟩
      simp only [execOp, Act.eval, u0]
      go_simp
    | 1, _ =>
      obtain rfl : _ = o := by simpa using ho
      refine FI.fact_value (w' := u) (v := .pointer (some ⟨p, 0, none⟩)) rfl ?_ ⟨h0, fun _ => rfl, h2, h4, h5, h6, h8, h9, h10, hpu, hru, hA, hB, hC⟩
      simp only [execOp, Act.eval, u3]
      go_simp
    | 2, _ =>
      obtain rfl : _ = o := by simpa using ho
      have y1 : a.tmps.getD 6 undef = .pointer (some ⟨p, 0, none⟩) := h1 (hdep 1 (by kernel_rfl))
      refine FI.fact_value (w' := u) (v := .agg #[.int .i64 k1, .string s1, .int .i64 n1, .slice a1 l1 c1]) rfl ?_ ⟨h0, h1, fun _ => rfl, h4, h5, h6, h8, h9, h10, hpu, hru, hA, hB, hC⟩
      clear h0 h1 h2 h4 h5 h6 h8 h9 h10 hA hB hC hcl hdep hfr ho
      simp only [execOp, Act.eval, y1]
      go_simp
    | 3, _ =>
      obtain rfl : _ = o := by simpa using ho
      have y0 : a.tmps.getD 5 undef = .pointer (some ⟨gc, 0, none⟩) := h0 (hdep 0 (by kernel_rfl))
      have y2 : a.tmps.getD 7 undef = .agg #[.int .i64 k1, .string s1, .int .i64 n1, .slice a1 l1 c1] := h2 (hdep 2 (by kernel_rfl))
      have h7 : L 7 = false := by cases h : L 7 with | false => rfl | true => rw [c73 h] at hli; cases hli
      refine FI.fact_call rfl rfl Tryd.func88 (by kernel_rfl) (by kernel_rfl) (args := #[.pointer (some ⟨gc, 0, none⟩), .agg #[.int .i64 k1, .string s1, .int .i64 n1, .slice a1 l1 c1]]) (by simp [Act.eval]; exact ⟨by simpa using y0, by simpa using y2⟩) ?_
      refine Calls.mono (HC1.out u (hA hli)) ?_
      intro e w3 hkp
      obtain ⟨k5, s5, n5, a5, l5, c5, rfl, hp3, hr3, hnx⟩ := HAFT.out e w3 hkp
      exact ⟨_, rfl, h0, h1, h2, h4, h5, h6, h8, h9, h10, hp3, hr3, fun h => Bool.noConfusion (show true = false from h), fun _ _ => ⟨w3, Below.refl _ _, hnx⟩, fun h => Bool.noConfusion ((show L 7 = true from h).symm.trans h7)⟩
    | 4, _ =>
      obtain rfl : _ = o := by simpa using ho
      refine FI.fact_value (w' := u) (v := .pointer (some ⟨gc, 0, none⟩)) rfl ?_ ⟨h0, h1, h2, fun _ => rfl, h5, h6, h8, h9, h10, hpu, hru, hA, hB, hC⟩
      simp only [execOp, Act.eval, u0]
      go_simp
    | 5, _ =>
      obtain rfl : _ = o := by simpa using ho
      refine FI.fact_value (w' := u) (v := .pointer (some ⟨p, 4, none⟩)) rfl ?_ ⟨h0, h1, h2, h4, fun _ => rfl, h6, h8, h9, h10, hpu, hru, hA, hB, hC⟩
      simp only [execOp, Act.eval, u3]
      go_simp
    | 6, _ =>
      obtain rfl : _ = o := by simpa using ho
      have y5 : a.tmps.getD 10 undef = .pointer (some ⟨p, 4, none⟩) := h5 (hdep 5 (by kernel_rfl))
      refine FI.fact_value (w' := u) (v := .agg #[.int .i64 k2, .string s2, .int .i64 n2, .slice a2 l2 c2]) rfl ?_ ⟨h0, h1, h2, h4, h5, fun _ => rfl, h8, h9, h10, hpu, hru, hA, hB, hC⟩
      clear h0 h1 h2 h4 h5 h6 h8 h9 h10 hA hB hC hcl hdep hfr ho
      simp only [execOp, Act.eval, y5]
      go_simp
    | 7, _ =>
      obtain rfl : _ = o := by simpa using ho
      have y4 : a.tmps.getD 9 undef = .pointer (some ⟨gc, 0, none⟩) := h4 (hdep 4 (by kernel_rfl))
      have y6 : a.tmps.getD 11 undef = .agg #[.int .i64 k2, .string s2, .int .i64 n2, .slice a2 l2 c2] := h6 (hdep 6 (by kernel_rfl))
      obtain ⟨w3, hb3, hnx⟩ := hB (hdep 3 (by kernel_rfl)) hli
      refine FI.fact_call rfl rfl Tryd.func88 (by kernel_rfl) (by kernel_rfl) (args := #[.pointer (some ⟨gc, 0, none⟩), .agg #[.int .i64 k2, .string s2, .int .i64 n2, .slice a2 l2 c2]]) (by simp [Act.eval]; exact ⟨by simpa using y4, by simpa using y6⟩) ?_
      refine Calls.mono (hnx u hb3) ?_
      rintro e w4 ⟨v7, rfl, hhas, hp4, hr4⟩
      exact ⟨_, rfl, h0, h1, h2, h4, h5, h6, h8, h9, h10, hp4, hr4, fun h => Bool.noConfusion ((show L 3 = false from h).symm.trans (hdep 3 (by kernel_rfl))), fun _ h => Bool.noConfusion (show true = false from h), fun _ => ⟨w4, Below.refl _ _, hhas⟩⟩
    | 8, _ =>
      obtain rfl : _ = o := by simpa using ho
      refine FI.fact_value (w' := u) (v := .pointer (some ⟨p, 8, none⟩)) rfl ?_ ⟨h0, h1, h2, h4, h5, h6, fun _ => rfl, h9, h10, hpu, hru, hA, hB, hC⟩
      simp only [execOp, Act.eval, u3]
      go_simp
    | 9, _ =>
      obtain rfl : _ = o := by simpa using ho
      have y8 : a.tmps.getD 13 undef = .pointer (some ⟨p, 8, none⟩) := h8 (hdep 8 (by kernel_rfl))
      refine FI.fact_value (w' := u) (v := .string f) rfl ?_ ⟨h0, h1, h2, h4, h5, h6, h8, fun _ => rfl, h10, hpu, hru, hA, hB, hC⟩
      clear h0 h1 h2 h4 h5 h6 h8 h9 h10 hA hB hC hcl hdep hfr ho
      simp only [execOp, Act.eval, y8]
      go_simp
    | 10, _ =>
      obtain rfl : _ = o := by simpa using ho
      have y9 : a.tmps.getD 14 undef = .string f := h9 (hdep 9 (by kernel_rfl))
      refine FI.fact_call rfl rfl Tryd.func83 (by kernel_rfl) (by kernel_rfl) (args := #[.string f]) (by simp [Act.eval]; simpa using y9) ?_
      refine Calls.mono (HCL.out u) ?_
      rintro e w6 ⟨rfl, hb⟩
      exact ⟨_, rfl, h0, h1, h2, h4, h5, h6, h8, h9, fun _ => rfl, (hb.block _ (Array.getElem?_eq_some_iff.1 hpu).1).trans hpu, (hb.block _ (Array.getElem?_eq_some_iff.1 hru).1).trans hru, fun h => (hA h).trans (hb.mono (hA h).size),
        fun h h' => by obtain ⟨w3, hb3, hnx⟩ := hB h h'; exact ⟨w3, hb3.trans (hb.mono hb3.size), hnx⟩,
        fun h => by obtain ⟨w4, hb4, hhas⟩ := hC h; exact ⟨w4, hb4.trans (hb.mono hb4.size), hhas⟩⟩
  intro L vals w6 hall hI
  obtain ⟨_, _, _, _, _, _, _, _, h10, _, hru, _, _, hC⟩ := hI
  obtain ⟨w4, hb4, k5, s5, n5, a5, l5, c5, G1, k6, s6, n6, a6, l6, c6, G2, T2, D2, osl2, e3, e7, r1, r2, f1, f2, nd1, nd2, dj, ho, hs4, hk, hT2, hD2, hz2⟩ := hC (hall 7 (by omega))
  have e10 := h10 (hall 10 (by omega))
  simp only [FZ.putN, List.getElem?_toArray, List.getElem?_cons_zero, List.getElem?_cons_succ, Option.bind_some, List.drop_succ_cons, List.drop_zero, e3, e7, e10]
  generalize vals 0 = m0
  generalize vals 1 = m1
  generalize vals 2 = m2
  generalize vals 4 = m4
  generalize vals 5 = m5
  generalize vals 6 = m6
  generalize vals 8 = m8
  generalize vals 9 = m9
  simp only [Act.put, List.setIfInBounds_toArray, List.set_cons_succ, List.set_cons_zero]
  rw [hZZ.out] at hru
  have HRU : Hid (w6.heap[p + 1]? = some (.cells #[.int .i64 0, .string ⟨#[]⟩, .int .i64 0, .slice none 0 0, .int .i64 0, .string ⟨#[]⟩, .int .i64 0, .slice none 0 0, .string ⟨#[]⟩] 57 (0, 0))) := hru
  have HALL : Hid (Own 46 w4 H (.agg #[.int .i64 k5, .string s5, .int .i64 n5, .slice a5 l5 c5]) G1 ∧ Own 46 w4 B (.agg #[.int .i64 k6, .string s6, .int .i64 n6, .slice a6 l6 c6]) G2 ∧
    (∀ x ∈ G1, p + 2 ≤ x ∧ osl2.ownBlock ≠ some x) ∧ (∀ x ∈ G2, p + 2 ≤ x ∧ osl2.ownBlock ≠ some x) ∧ G1.Nodup ∧ G2.Nodup ∧ (∀ x ∈ G1, x ∉ G2) ∧
    Out (gc :: m :: osl.ownBlock.toList) w w4 ∧ p + 2 ≤ w4.heap.size ∧ KSt w4 gc m T2 D2 osl2 ∧ T2 ≤ T0 + (H.wt + B.wt + 2) ∧ (∀ d ∈ D2, d ∈ D0 ∨ d ∈ F1 ++ F2 ∨ p + 2 ≤ d) ∧ (∀ z, osl2.ownBlock = some z → osl.ownBlock = some z ∨ p + 2 ≤ z) ∧ Below w4.heap.size w4 w6) := ⟨r1, r2, f1, f2, nd1, nd2, dj, ho, hs4, hk, hT2, hD2, hz2, hb4⟩
  obtain ⟨⟨z0, z1, z2, z3, z4, z5, z6, z7, z8⟩, g0, g1, g2, g3, g4, g5, g6, g7, g8⟩ := blk9 hru
  clear hC hru h10 e3 e7 r1 r2 f1 f2 nd1 nd2 dj ho hs4 hk hT2 hD2 hz2 hb4 e10 hall HAFT HC1 HCL HQ
  go_wp2
  refine bodyPost_ret_by (results_cell_row rfl _ _ (p + 1) 57 _ (0, 0) _ rfl (blk9_set HRU.out) Tryd.underlying57 rfl (by kernel_rfl)) rfl ?_
  obtain ⟨r1, r2, f1, f2, nd1, nd2, dj, ho, hs4, hk, hT2, hD2, hz2, hb4⟩ := HALL.out
  obtain ⟨hfs, hg1, hm1, hoo, hd0, hff⟩ := HFS.out
  have hpp := HPP.out
  have hke : ∀ e0 e1 e2 e3 e4 e5 e6 e7 e8 x, x < w4.heap.size → x ≠ p + 1 → (set9 w6 (p + 1) e0 e1 e2 e3 e4 e5 e6 e7 e8).heap[x]? = w4.heap[x]? := fun e0 e1 e2 e3 e4 e5 e6 e7 e8 x h h' => (blk9_other h').trans (hb4.block x h)
  have lG1 := Own.lt _ _ _ r1
  have lG2 := Own.lt _ _ _ r2
  have HEND : ∀ e0 e1 e2 e3 e4 e5 e6 e7 e8, Out (gc :: m :: osl.ownBlock.toList) w (set9 w6 (p + 1) e0 e1 e2 e3 e4 e5 e6 e7 e8) := fun e0 e1 e2 e3 e4 e5 e6 e7 e8 => by
    have hs6 := hb4.size
    have hB9 : Below (p + 1) w6 (set9 w6 (p + 1) e0 e1 e2 e3 e4 e5 e6 e7 e8) := blk9_below (Below.refl _ _) (Nat.le_refl _)
    have hso := ho.size
    refine ⟨hB9.os.trans (hb4.os.trans ho.os), hB9.tape.trans (hb4.tape.trans ho.tape), hB9.output.trans (hb4.output.trans ho.output), Nat.le_trans hso (Nat.le_trans hs6 hB9.size), fun k hk1 hk2 => ?_⟩
    rw [hke _ _ _ _ _ _ _ _ _ k (by omega) (by omega)]
    exact ho.block k hk1 hk2
  have HOW : ∀ e0 e1 e2 e3 e4 e5 e6 e7 e8, Own 46 (set9 w6 (p + 1) e0 e1 e2 e3 e4 e5 e6 e7 e8) H (.agg #[.int .i64 k5, .string s5, .int .i64 n5, .slice a5 l5 c5]) G1 ∧ Own 46 (set9 w6 (p + 1) e0 e1 e2 e3 e4 e5 e6 e7 e8) B (.agg #[.int .i64 k6, .string s6, .int .i64 n6, .slice a6 l6 c6]) G2 ∧ KSt (set9 w6 (p + 1) e0 e1 e2 e3 e4 e5 e6 e7 e8) gc m T2 D2 osl2 := fun e0 e1 e2 e3 e4 e5 e6 e7 e8 => by
    refine ⟨Own.keep _ _ _ r1 fun x hx => hke _ _ _ _ _ _ _ _ _ x (lG1 x hx) (by have := (f1 x hx).1; omega), Own.keep _ _ _ r2 fun x hx => hke _ _ _ _ _ _ _ _ _ x (lG2 x hx) (by have := (f2 x hx).1; omega), hk.turn fun k hk9 => hke _ _ _ _ _ _ _ _ _ k (hk.lt k hk9) ?_⟩
    rcases hk9 with rfl | rfl | h | h
    · omega
    · omega
    · rcases hD2 k h with h | h | h
      · have := hd0 k h; omega
      · have := hff k h; omega
      · omega
    · rcases hz2 k h with h | h
      · have := hoo k h; omega
      · omega
  refine ⟨[.int .i64 k5, .string s5, .int .i64 n5, .slice a5 l5 c5, .int .i64 k6, .string s6, .int .i64 n6, .slice a6 l6 c6, .string f], G1 ++ G2, T2, D2, osl2, rfl, ⟨k5, s5, n5, a5, l5, c5, k6, s6, n6, a6, l6, c6, G1, G2, rfl, rfl, hfs, (HOW _ _ _ _ _ _ _ _ _).1, (HOW _ _ _ _ _ _ _ _ _).2.1⟩, fun x hx => ?_, List.nodup_append.2 ⟨nd1, nd2, fun x hx y hy e => dj x hx (e ▸ hy)⟩, HEND _ _ _ _ _ _ _ _ _, (HOW _ _ _ _ _ _ _ _ _).2.2, hT2, fun d hd => ?_, fun z hz => ?_⟩
  · rcases List.mem_append.1 hx with hx | hx
    · exact ⟨by have := (f1 x hx).1; omega, (f1 x hx).2⟩
    · exact ⟨by have := (f2 x hx).1; omega, (f2 x hx).2⟩
  · rcases hD2 d hd with h | h | h
    · exact Or.inl h
    · exact Or.inr (Or.inl h)
    · exact Or.inr (Or.inr (by omega))
  · rcases hz2 z hz with h | h
    · exact Or.inl h
    · exact Or.inr (by omega)
end Go.Proofs.YtmhmlkdoaojimapDoor

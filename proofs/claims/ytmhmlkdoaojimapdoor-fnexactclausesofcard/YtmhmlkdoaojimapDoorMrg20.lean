/- Four texts in one. -/
import Derived.Test.YtmhmlkdoaojimapDoorMrg19
import Derived.Test.YtmhmlkdoaojimapDoorMrg3
import Derived.Test.YtmhmlkdoaojimapDoorMrg13
import Derived.Test.YtmhmlkdoaojimapDoorMrg2
import Derived.Deep.RegionWith
import Derived.Deep.DeepCutAuto
import Derived.Test.YtmhmlkdoaojimapDoorMrg6
import Derived.Test.YtmhmlkdoaojimapDoorMrg10
import Derived.Test.YtmhmlkdoaojimapDoorMrg11
import Derived.Maps.AppendAt
import Derived.Test.YtmhmlkdoaojimapDoorRows
import Derived.Test.YtmhmlkdoaojimapDoorMrg1
import Derived.Below
import Derived.ProofKit
/- impl.copiedClause of any terms, by a copier that was used before. -/
namespace Go.Proofs.YtmhmlkdoaojimapDoor
open Go.RowKit

/-- what copiedClause leaves -/
def CcPost (T0 : Nat) (D0 : List Nat) (osl : Value) (gc m : Nat) (c : Cla) (F : List Nat) (w : World) (e : Ending) (w' : World) : Prop :=
  ∃ cs F' T1 D1 osl', e = .returned (.agg (List.toArray cs)) ∧ OwnC 46 w' c cs F' ∧ (∀ f ∈ F', w.heap.size ≤ f ∧ osl'.ownBlock ≠ some f) ∧ F'.Nodup ∧ Out (gc :: m :: osl.ownBlock.toList) w w' ∧ KSt w' gc m T1 D1 osl' ∧ T1 ≤ T0 + (c.h.wt + c.b.wt + 2) ∧ (∀ d ∈ D1, d ∈ D0 ∨ d ∈ F ∨ w.heap.size ≤ d) ∧ (∀ z, osl'.ownBlock = some z → osl.ownBlock = some z ∨ w.heap.size ≤ z)

/-- what stands when both terms are copied -/
def CcHas (T0 : Nat) (D0 : List Nat) (osl : Value) (gc m : Nat) (H B : Tm) (F : List Nat) (p : Nat) (w : World) (v3 v7 : Value) (w4 : World) : Prop :=
  ∃ k5 s5 n5 a5 l5 c5 G1 k6 s6 n6 a6 l6 c6 G2 T2 D2 osl2, v3 = .agg #[.int .i64 k5, .string s5, .int .i64 n5, .slice a5 l5 c5] ∧ v7 = .agg #[.int .i64 k6, .string s6, .int .i64 n6, .slice a6 l6 c6] ∧
    Own 46 w4 H (.agg #[.int .i64 k5, .string s5, .int .i64 n5, .slice a5 l5 c5]) G1 ∧ Own 46 w4 B (.agg #[.int .i64 k6, .string s6, .int .i64 n6, .slice a6 l6 c6]) G2 ∧
    (∀ x ∈ G1, p + 2 ≤ x ∧ osl2.ownBlock ≠ some x) ∧ (∀ x ∈ G2, p + 2 ≤ x ∧ osl2.ownBlock ≠ some x) ∧ G1.Nodup ∧ G2.Nodup ∧ (∀ x ∈ G1, x ∉ G2) ∧
    Out (gc :: m :: osl.ownBlock.toList) w w4 ∧ p + 2 ≤ w4.heap.size ∧ KSt w4 gc m T2 D2 osl2 ∧ T2 ≤ T0 + (H.wt + B.wt + 2) ∧ (∀ d ∈ D2, d ∈ D0 ∨ d ∈ F ∨ p + 2 ≤ d) ∧ (∀ z, osl2.ownBlock = some z → osl.ownBlock = some z ∨ p + 2 ≤ z)

/-- what stands when the first one is copied -/
def CcOne (T0 : Nat) (D0 : List Nat) (osl : Value) (gc m : Nat) (H B : Tm) (F : List Nat) (p : Nat) (cb : Value) (A Z : Obj) (w : World) (v3 : Value) (w3 : World) : Prop :=
  ∀ u, Below w3.heap.size w3 u → Calls Tryd.prog 88 #[.pointer (some ⟨gc, 0, none⟩), cb] u fun e w' => ∃ v7, e = .returned v7 ∧ CcHas T0 D0 osl gc m H B F p w v3 v7 w' ∧ w'.heap[p]? = some A ∧ w'.heap[p + 1]? = some Z

set_option maxHeartbeats 8000000 in
set_option maxRecDepth 20000 in
theorem copied_any (c : Cla) (cs : List Value) (F : List Nat) (w : World) (gc m T0 : Nat) (D0 : List Nat) (osl : Value) (hown : OwnC 46 w c cs F) (hnd : F.Nodup) (hwt : c.wt ≤ 1048576) (hst : KSt w gc m T0 D0 osl) (hT : T0 + c.wt + 2 ≤ 2097152) (hF : ∀ f ∈ F, f ≠ gc ∧ f ≠ m ∧ osl.ownBlock ≠ some f ∧ f ∉ D0) :
    Calls Tryd.prog 64 #[.pointer (some ⟨gc, 0, none⟩), .agg cs.toArray] w (CcPost T0 D0 osl gc m c F w) := by
  obtain ⟨k1, s1, n1, a1, l1, c1, k2, s2, n2, a2, l2, c2, F1, F2, rfl, rfl, hfs, o1, o2⟩ := hown
  obtain ⟨H, B, f⟩ := c
  simp only at o1 o2 hfs
  have hw0 : H.wt + B.wt + f.size ≤ 1048576 := hwt
  have hT0 : T0 + (H.wt + B.wt + f.size) + 2 ≤ 2097152 := hT
  obtain ⟨d1, d2, d3⟩ := List.nodup_append.1 hnd
  show Calls Tryd.prog 64 #[.pointer (some ⟨gc, 0, none⟩), .agg #[.int .i64 k1, .string s1, .int .i64 n1, .slice a1 l1 c1, .int .i64 k2, .string s2, .int .i64 n2, .slice a2 l2 c2, .string f]] w _
  obtain ⟨W, hW⟩ : ∃ W, W = (w.alloc (.cells #[.int .i64 k1, .string s1, .int .i64 n1, .slice a1 l1 c1, .int .i64 k2, .string s2, .int .i64 n2, .slice a2 l2 c2, .string f] 57)).alloc (.cells #[.int .i64 0, .string ⟨#[]⟩, .int .i64 0, .slice none 0 0, .int .i64 0, .string ⟨#[]⟩, .int .i64 0, .slice none 0 0, .string ⟨#[]⟩] 57) := ⟨_, rfl⟩
  have bW : Below w.heap.size w W := by rw [hW]; exact ((Below.refl _ _).alloc (Nat.le_refl _) _).alloc (by simp) _
  have lW : W.heap.size = w.heap.size + 2 := by rw [hW]; simp
  have q1 : W.heap[w.heap.size]? = some (.cells #[.int .i64 k1, .string s1, .int .i64 n1, .slice a1 l1 c1, .int .i64 k2, .string s2, .int .i64 n2, .slice a2 l2 c2, .string f] 57 (0, 0)) := by rw [hW]; exact (alloc_old _ _ (by simp)).trans (alloc_at _ _ rfl)
  have q3 : W.heap[w.heap.size + 1]? = some (.cells #[.int .i64 0, .string ⟨#[]⟩, .int .i64 0, .slice none 0 0, .int .i64 0, .string ⟨#[]⟩, .int .i64 0, .slice none 0 0, .string ⟨#[]⟩] 57 (0, 0)) := by rw [hW]; exact alloc_at _ _ (by simp)
  have hlt1 := Own.lt _ _ _ o1
  have hlt2 := Own.lt _ _ _ o2
  have hstW := hst.keep bW
  have hkl := hst.lt
  have hgm := hst.gm
  obtain ⟨p, hp⟩ : ∃ p, p = w.heap.size := ⟨_, rfl⟩
  obtain ⟨A, hA⟩ : ∃ A, A = Obj.cells #[.int .i64 k1, .string s1, .int .i64 n1, .slice a1 l1 c1, .int .i64 k2, .string s2, .int .i64 n2, .slice a2 l2 c2, .string f] 57 (0, 0) := ⟨_, rfl⟩
  obtain ⟨Z, hZ⟩ : ∃ Z, Z = Obj.cells #[.int .i64 0, .string ⟨#[]⟩, .int .i64 0, .slice none 0 0, .int .i64 0, .string ⟨#[]⟩, .int .i64 0, .slice none 0 0, .string ⟨#[]⟩] 57 (0, 0) := ⟨_, rfl⟩
  rw [← hA, ← hp] at q1
  rw [← hZ, ← hp] at q3
  rw [← hp] at lW
  have HC1 : Hid (∀ u, Below W.heap.size W u → Calls Tryd.prog 88 #[.pointer (some ⟨gc, 0, none⟩), .agg #[.int .i64 k1, .string s1, .int .i64 n1, .slice a1 l1 c1]] u fun e w' => KPost T0 D0 osl gc m H F1 W e w') := fun u hb => by
    have hBu := bW.trans (hb.mono bW.size)
    exact Calls.mono (copy_any H _ F1 u gc m T0 D0 osl (Own.keep _ _ _ o1 fun x hx => hBu.block x (hlt1 x hx)) d1 (by omega) (hstW.keep hb) (by omega) (fun x hx => hF x (List.mem_append_left _ hx))) fun e w' h => KPost.base hb h
  have HAFT : Hid (∀ e w3, KPost T0 D0 osl gc m H F1 W e w3 → ∃ k5 s5 n5 a5 l5 c5, e = .returned (.agg #[.int .i64 k5, .string s5, .int .i64 n5, .slice a5 l5 c5]) ∧ w3.heap[p]? = some A ∧ w3.heap[p + 1]? = some Z ∧ CcOne T0 D0 osl gc m H B (F1 ++ F2) p (.agg #[.int .i64 k2, .string s2, .int .i64 n2, .slice a2 l2 c2]) A Z w (.agg #[.int .i64 k5, .string s5, .int .i64 n5, .slice a5 l5 c5]) w3) := by
    rintro e w3 ⟨v', G1, T1, D1, osl1, rfl, r1, f1, nd1, ho, hk, hT', hD, hz⟩
    obtain ⟨k5, s5, n5, a5, l5, c5, rfl⟩ := own_shape r1
    have hgl := hkl gc (Or.inl rfl)
    have hml := hkl m (Or.inr (Or.inl rfl))
    have hol : ∀ z, osl.ownBlock = some z → z < p := fun z h => by have := hkl z (Or.inr (Or.inr (Or.inr h))); omega
    have hobl : ∀ k, k < W.heap.size → k ≠ gc → k ≠ m → osl.ownBlock ≠ some k → w3.heap[k]? = W.heap[k]? := fun k hk1 hk2 hk3 hk4 => ho.block k hk1 (by simp [hk2, hk3]; exact hk4)
    have hp3 := (hobl p (by omega) (by omega) (by omega) (fun e => by have := hol p e; omega)).trans q1
    have hr3 := (hobl (p + 1) (by omega) (by omega) (by omega) (fun e => by have := hol _ e; omega)).trans q3
    have ho3 : Out (gc :: m :: osl.ownBlock.toList) w w3 := (Out.of_below bW).trans ho
    have hs3 := ho.size
    have oB : Own 46 w3 B (.agg #[.int .i64 k2, .string s2, .int .i64 n2, .slice a2 l2 c2]) F2 := Own.keep _ _ _ o2 fun x hx => by
      have h9 := hF x (List.mem_append_right _ hx)
      have hl := hlt2 x hx
      exact (hobl x (by omega) h9.1 h9.2.1 h9.2.2.1).trans (bW.block x hl)
    have hF2 : ∀ x ∈ F2, x ≠ gc ∧ x ≠ m ∧ osl1.ownBlock ≠ some x ∧ x ∉ D1 := fun x hx => by
      have h9 := hF x (List.mem_append_right _ hx)
      have hxl := hlt2 x hx
      refine ⟨h9.1, h9.2.1, fun e => ?_, fun h => ?_⟩
      · rcases hz x e with h | h
        · exact h9.2.2.1 h
        · omega
      · rcases hD x h with h | h | h
        · exact h9.2.2.2 h
        · exact d3 x h x hx rfl
        · omega
    refine ⟨k5, s5, n5, a5, l5, c5, rfl, hp3, hr3, fun u hb => ?_⟩
    refine Calls.mono (copy_any B _ F2 u gc m T1 D1 osl1 (Own.keep _ _ _ oB fun x hx => hb.block x (Own.lt _ _ _ oB x hx)) d2 (by omega) (hk.keep hb) (by omega) hF2) ?_
    intro e w' h
    obtain ⟨v', G2, T2, D2, osl2, rfl, r2, f2, nd2, ho2, hk2, hT2, hD2, hz2⟩ := KPost.base hb h
    obtain ⟨k6, s6, n6, a6, l6, c6, rfl⟩ := own_shape r2
    have hob2 : ∀ k, k < w3.heap.size → k ≠ gc → k ≠ m → osl1.ownBlock ≠ some k → w'.heap[k]? = w3.heap[k]? := fun k hk1 hk2 hk3 hk4 => ho2.block k hk1 (by simp [hk2, hk3]; exact hk4)
    have hol1 : ∀ k, p ≤ k → k < p + 2 → osl1.ownBlock ≠ some k := fun k hk0 hk1 e => by
      rcases hz k e with h | h
      · have := hol k h; omega
      · omega
    have lG1 := Own.lt _ _ _ r1
    have hG1 : ∀ x ∈ G1, x ≠ gc ∧ x ≠ m ∧ osl1.ownBlock ≠ some x ∧ p + 2 ≤ x := fun x hx => by
      have := f1 x hx
      exact ⟨by omega, by omega, this.2, by omega⟩
    refine ⟨_, rfl, ⟨k5, s5, n5, a5, l5, c5, G1, k6, s6, n6, a6, l6, c6, G2, T2, D2, osl2, rfl, rfl, Own.keep _ _ _ r1 fun x hx => ?_, r2, fun x hx => ⟨(hG1 x hx).2.2.2, fun e => ?_⟩, fun x hx => ⟨?_, (f2 x hx).2⟩, nd1, nd2, fun x hx h => ?_, ?_, ?_, hk2, ?_, fun d hd => ?_, fun z hz9 => ?_⟩, ?_, ?_⟩
    · exact hob2 x (lG1 x hx) (hG1 x hx).1 (hG1 x hx).2.1 (hG1 x hx).2.2.1
    · rcases hz2 x e with h | h
      · exact (hG1 x hx).2.2.1 h
      · have := lG1 x hx; omega
    · have := (f2 x hx).1; omega
    · have := lG1 x hx
      have := (f2 x h).1
      omega
    · refine ⟨ho2.os.trans ho3.os, ho2.tape.trans ho3.tape, ho2.output.trans ho3.output, Nat.le_trans ho3.size ho2.size, fun k hk1 hk2 => ?_⟩
      simp only [List.mem_cons, not_or] at hk2
      have hk4 : osl1.ownBlock ≠ some k := fun e => by
        rcases hz k e with h | h
        · exact hk2.2.2 (by rw [h]; simp)
        · omega
      rw [hob2 k (by omega) hk2.1 hk2.2.1 hk4]
      exact ho3.block k hk1 (by simp only [List.mem_cons, not_or]; exact hk2)
    · have := ho2.size; omega
    · omega
    · rcases hD2 d hd with h | h | h
      · rcases hD d h with h | h | h
        · exact Or.inl h
        · exact Or.inr (Or.inl (List.mem_append_left _ h))
        · exact Or.inr (Or.inr (by omega))
      · exact Or.inr (Or.inl (List.mem_append_right _ h))
      · exact Or.inr (Or.inr (by omega))
    · rcases hz2 z hz9 with h | h
      · rcases hz z h with h | h
        · exact Or.inl h
        · exact Or.inr (by omega)
      · exact Or.inr (by omega)
    · exact (hob2 p (by omega) (by omega) (by omega) (hol1 p (by omega) (by omega))).trans hp3
    · exact (hob2 (p + 1) (by omega) (by omega) (by omega) (hol1 _ (by omega) (by omega))).trans hr3
  have HCL : Hid (∀ u, Calls Tryd.prog 83 #[.string f] u fun e w' => e = .returned (.string f) ∧ Below u.heap.size u w') := fun u => clone_any f u (by omega)
  have HQ : Hid (W.heap[p]? = some A ∧ W.heap[p + 1]? = some Z) := ⟨q1, q3⟩
  have HL : Hid (W.heap.size = p + 2) := lW
  have HPP : Hid (p = w.heap.size) := hp
  have HFS : Hid (f.size ≤ maxLen ∧ gc ≠ p + 1 ∧ m ≠ p + 1 ∧ (∀ z, osl.ownBlock = some z → z < p) ∧ (∀ d ∈ D0, d < p) ∧ (∀ d ∈ F1 ++ F2, d < p)) := ⟨hfs, by have := hkl gc (Or.inl rfl); omega, by have := hkl m (Or.inr (Or.inl rfl)); omega, fun z h => by have := hkl z (Or.inr (Or.inr (Or.inr h))); omega, fun d h => by have := hkl d (Or.inr (Or.inr (Or.inl h))); omega, fun d h => by
    rcases List.mem_append.1 h with h | h
    · have := hlt1 d h; omega
    · have := hlt2 d h; omega⟩
  have hAA : Hid (A = _) := hA
  have hZZ : Hid (Z = _) := hZ
  clear hnd hwt hst hT hF hfs o1 o2 hw0 hT0 d1 d2 d3 bW lW q1 q3 hlt1 hlt2 hstW hkl hgm hA hZ
  go_enter Tryd.func64, Tryd.ntmps64
  go_upto_region 1 with fail
  rw [← hW]
  clear hW
  rw [← hp]
  clear hp
  refine FI.wp_region_inv 11 (fun L v u =>
    (L 0 = true → v 0 = .pointer (some ⟨gc, 0, none⟩)) ∧ (L 1 = true → v 1 = .pointer (some ⟨p, 0, none⟩)) ∧ (L 2 = true → v 2 = .agg #[.int .i64 k1, .string s1, .int .i64 n1, .slice a1 l1 c1]) ∧ (L 4 = true → v 4 = .pointer (some ⟨gc, 0, none⟩)) ∧ (L 5 = true → v 5 = .pointer (some ⟨p, 4, none⟩)) ∧ (L 6 = true → v 6 = .agg #[.int .i64 k2, .string s2, .int .i64 n2, .slice a2 l2 c2]) ∧
    (L 8 = true → v 8 = .pointer (some ⟨p, 8, none⟩)) ∧ (L 9 = true → v 9 = .string f) ∧ (L 10 = true → v 10 = .string f) ∧
    u.heap[p]? = some A ∧ u.heap[p + 1]? = some Z ∧
    (L 3 = false → Below W.heap.size W u) ∧
    (L 3 = true → L 7 = false → ∃ w3, Below w3.heap.size w3 u ∧ CcOne T0 D0 osl gc m H B (F1 ++ F2) p (.agg #[.int .i64 k2, .string s2, .int .i64 n2, .slice a2 l2 c2]) A Z w (v 3) w3) ∧
    (L 7 = true → ∃ w4, Below w4.heap.size w4 u ∧ CcHas T0 D0 osl gc m H B (F1 ++ F2) p w (v 3) (v 7) w4)) (by kernel_rfl) (by kernel_rfl) 17 rfl (by kernel_rfl) ?_ ?_ ?_
  · intro vals
    have hd := (Below.refl W.heap.size W).drew
    exact ⟨fun h => Bool.noConfusion h, fun h => Bool.noConfusion h, fun h => Bool.noConfusion h, fun h => Bool.noConfusion h, fun h => Bool.noConfusion h, fun h => Bool.noConfusion h, fun h => Bool.noConfusion h, fun h => Bool.noConfusion h, fun h => Bool.noConfusion h, HQ.out.1, HQ.out.2, fun _ => hd, fun h => Bool.noConfusion h, fun h => Bool.noConfusion h⟩
  · intro i o hi ho L a u hI hcl hli hfr hdep
    obtain ⟨h0, h1, h2, h4, h5, h6, h8, h9, h10, hpu, hru, hA, hB, hC⟩ := hI
    have u0 : a.tmps.getD 0 undef = .pointer (some ⟨gc, 0, none⟩) := hfr 0 (by decide)
    have u3 : a.tmps.getD 3 undef = .pointer (some ⟨p, 0, none⟩) := hfr 3 (by decide)
    have c73 : L 7 = true → L 3 = true := fun h => hcl 7 _ rfl h 3 (by kernel_rfl)
    have hpu' := hpu
    rw [hAA.out] at hpu'
    obtain ⟨⟨x0, x1, x2, x3, x4, x5, x6, x7, x8⟩, _⟩ := blk9 hpu'
    clear hpu'
    match i, hi with
    | 0, _ =>
      obtain rfl : _ = o := by simpa using ho
      refine FI.fact_value (w' := u) (v := .pointer (some ⟨gc, 0, none⟩)) rfl ?_ ⟨fun _ => rfl, h1, h2, h4, h5, h6, h8, h9, h10, hpu, hru, hA, hB, hC⟩
      simp only [execOp, Act.eval, u0]
      go_simp
    | 1, _ =>
      obtain rfl : _ = o := by simpa using ho
      refine FI.fact_value (w' := u) (v := .pointer (some ⟨p, 0, none⟩)) rfl ?_ ⟨h0, fun _ => rfl, h2, h4, h5, h6, h8, h9, h10, hpu, hru, hA, hB, hC⟩
      simp only [execOp, Act.eval, u3]
      go_simp
    | 2, _ =>
      obtain rfl : _ = o := by simpa using ho
      have y1 : a.tmps.getD 6 undef = .pointer (some ⟨p, 0, none⟩) := h1 (hdep 1 (by kernel_rfl))
      refine FI.fact_value (w' := u) (v := .agg #[.int .i64 k1, .string s1, .int .i64 n1, .slice a1 l1 c1]) rfl ?_ ⟨h0, h1, fun _ => rfl, h4, h5, h6, h8, h9, h10, hpu, hru, hA, hB, hC⟩
      clear h0 h1 h2 h4 h5 h6 h8 h9 h10 hA hB hC hcl hdep hfr ho
      simp only [execOp, Act.eval, y1]
      go_simp
    | 3, _ =>
      obtain rfl : _ = o := by simpa using ho
      have y0 : a.tmps.getD 5 undef = .pointer (some ⟨gc, 0, none⟩) := h0 (hdep 0 (by kernel_rfl))
      have y2 : a.tmps.getD 7 undef = .agg #[.int .i64 k1, .string s1, .int .i64 n1, .slice a1 l1 c1] := h2 (hdep 2 (by kernel_rfl))
      have h7 : L 7 = false := by cases h : L 7 with | false => rfl | true => rw [c73 h] at hli; cases hli
      refine FI.fact_call rfl rfl Tryd.func88 (by kernel_rfl) (by kernel_rfl) (args := #[.pointer (some ⟨gc, 0, none⟩), .agg #[.int .i64 k1, .string s1, .int .i64 n1, .slice a1 l1 c1]]) (by simp [Act.eval]; exact ⟨by simpa using y0, by simpa using y2⟩) ?_
      refine Calls.mono (HC1.out u (hA hli)) ?_
      intro e w3 hkp
      obtain ⟨k5, s5, n5, a5, l5, c5, rfl, hp3, hr3, hnx⟩ := HAFT.out e w3 hkp
      exact ⟨_, rfl, h0, h1, h2, h4, h5, h6, h8, h9, h10, hp3, hr3, fun h => Bool.noConfusion (show true = false from h), fun _ _ => ⟨w3, Below.refl _ _, hnx⟩, fun h => Bool.noConfusion ((show L 7 = true from h).symm.trans h7)⟩
    | 4, _ =>
      obtain rfl : _ = o := by simpa using ho
      refine FI.fact_value (w' := u) (v := .pointer (some ⟨gc, 0, none⟩)) rfl ?_ ⟨h0, h1, h2, fun _ => rfl, h5, h6, h8, h9, h10, hpu, hru, hA, hB, hC⟩
      simp only [execOp, Act.eval, u0]
      go_simp
    | 5, _ =>
      obtain rfl : _ = o := by simpa using ho
      refine FI.fact_value (w' := u) (v := .pointer (some ⟨p, 4, none⟩)) rfl ?_ ⟨h0, h1, h2, h4, fun _ => rfl, h6, h8, h9, h10, hpu, hru, hA, hB, hC⟩
      simp only [execOp, Act.eval, u3]
      go_simp
    | 6, _ =>
      obtain rfl : _ = o := by simpa using ho
      have y5 : a.tmps.getD 10 undef = .pointer (some ⟨p, 4, none⟩) := h5 (hdep 5 (by kernel_rfl))
      refine FI.fact_value (w' := u) (v := .agg #[.int .i64 k2, .string s2, .int .i64 n2, .slice a2 l2 c2]) rfl ?_ ⟨h0, h1, h2, h4, h5, fun _ => rfl, h8, h9, h10, hpu, hru, hA, hB, hC⟩
      clear h0 h1 h2 h4 h5 h6 h8 h9 h10 hA hB hC hcl hdep hfr ho
      simp only [execOp, Act.eval, y5]
      go_simp
    | 7, _ =>
      obtain rfl : _ = o := by simpa using ho
      have y4 : a.tmps.getD 9 undef = .pointer (some ⟨gc, 0, none⟩) := h4 (hdep 4 (by kernel_rfl))
      have y6 : a.tmps.getD 11 undef = .agg #[.int .i64 k2, .string s2, .int .i64 n2, .slice a2 l2 c2] := h6 (hdep 6 (by kernel_rfl))
      obtain ⟨w3, hb3, hnx⟩ := hB (hdep 3 (by kernel_rfl)) hli
      refine FI.fact_call rfl rfl Tryd.func88 (by kernel_rfl) (by kernel_rfl) (args := #[.pointer (some ⟨gc, 0, none⟩), .agg #[.int .i64 k2, .string s2, .int .i64 n2, .slice a2 l2 c2]]) (by simp [Act.eval]; exact ⟨by simpa using y4, by simpa using y6⟩) ?_
      refine Calls.mono (hnx u hb3) ?_
      rintro e w4 ⟨v7, rfl, hhas, hp4, hr4⟩
      exact ⟨_, rfl, h0, h1, h2, h4, h5, h6, h8, h9, h10, hp4, hr4, fun h => Bool.noConfusion ((show L 3 = false from h).symm.trans (hdep 3 (by kernel_rfl))), fun _ h => Bool.noConfusion (show true = false from h), fun _ => ⟨w4, Below.refl _ _, hhas⟩⟩
    | 8, _ =>
      obtain rfl : _ = o := by simpa using ho
      refine FI.fact_value (w' := u) (v := .pointer (some ⟨p, 8, none⟩)) rfl ?_ ⟨h0, h1, h2, h4, h5, h6, fun _ => rfl, h9, h10, hpu, hru, hA, hB, hC⟩
      simp only [execOp, Act.eval, u3]
      go_simp
    | 9, _ =>
      obtain rfl : _ = o := by simpa using ho
      have y8 : a.tmps.getD 13 undef = .pointer (some ⟨p, 8, none⟩) := h8 (hdep 8 (by kernel_rfl))
      refine FI.fact_value (w' := u) (v := .string f) rfl ?_ ⟨h0, h1, h2, h4, h5, h6, h8, fun _ => rfl, h10, hpu, hru, hA, hB, hC⟩
      clear h0 h1 h2 h4 h5 h6 h8 h9 h10 hA hB hC hcl hdep hfr ho
      simp only [execOp, Act.eval, y8]
      go_simp
    | 10, _ =>
      obtain rfl : _ = o := by simpa using ho
      have y9 : a.tmps.getD 14 undef = .string f := h9 (hdep 9 (by kernel_rfl))
      refine FI.fact_call rfl rfl Tryd.func83 (by kernel_rfl) (by kernel_rfl) (args := #[.string f]) (by simp [Act.eval]; simpa using y9) ?_
      refine Calls.mono (HCL.out u) ?_
      rintro e w6 ⟨rfl, hb⟩
      exact ⟨_, rfl, h0, h1, h2, h4, h5, h6, h8, h9, fun _ => rfl, (hb.block _ (Array.getElem?_eq_some_iff.1 hpu).1).trans hpu, (hb.block _ (Array.getElem?_eq_some_iff.1 hru).1).trans hru, fun h => (hA h).trans (hb.mono (hA h).size),
        fun h h' => by obtain ⟨w3, hb3, hnx⟩ := hB h h'; exact ⟨w3, hb3.trans (hb.mono hb3.size), hnx⟩,
        fun h => by obtain ⟨w4, hb4, hhas⟩ := hC h; exact ⟨w4, hb4.trans (hb.mono hb4.size), hhas⟩⟩
  intro L vals w6 hall hI
  obtain ⟨_, _, _, _, _, _, _, _, h10, _, hru, _, _, hC⟩ := hI
  obtain ⟨w4, hb4, k5, s5, n5, a5, l5, c5, G1, k6, s6, n6, a6, l6, c6, G2, T2, D2, osl2, e3, e7, r1, r2, f1, f2, nd1, nd2, dj, ho, hs4, hk, hT2, hD2, hz2⟩ := hC (hall 7 (by omega))
  have e10 := h10 (hall 10 (by omega))
  simp only [FZ.putN, List.getElem?_toArray, List.getElem?_cons_zero, List.getElem?_cons_succ, Option.bind_some, List.drop_succ_cons, List.drop_zero, e3, e7, e10]
  generalize vals 0 = m0
  generalize vals 1 = m1
  generalize vals 2 = m2
  generalize vals 4 = m4
  generalize vals 5 = m5
  generalize vals 6 = m6
  generalize vals 8 = m8
  generalize vals 9 = m9
  simp only [Act.put, List.setIfInBounds_toArray, List.set_cons_succ, List.set_cons_zero]
  rw [hZZ.out] at hru
  have HRU : Hid (w6.heap[p + 1]? = some (.cells #[.int .i64 0, .string ⟨#[]⟩, .int .i64 0, .slice none 0 0, .int .i64 0, .string ⟨#[]⟩, .int .i64 0, .slice none 0 0, .string ⟨#[]⟩] 57 (0, 0))) := hru
  have HALL : Hid (Own 46 w4 H (.agg #[.int .i64 k5, .string s5, .int .i64 n5, .slice a5 l5 c5]) G1 ∧ Own 46 w4 B (.agg #[.int .i64 k6, .string s6, .int .i64 n6, .slice a6 l6 c6]) G2 ∧
    (∀ x ∈ G1, p + 2 ≤ x ∧ osl2.ownBlock ≠ some x) ∧ (∀ x ∈ G2, p + 2 ≤ x ∧ osl2.ownBlock ≠ some x) ∧ G1.Nodup ∧ G2.Nodup ∧ (∀ x ∈ G1, x ∉ G2) ∧
    Out (gc :: m :: osl.ownBlock.toList) w w4 ∧ p + 2 ≤ w4.heap.size ∧ KSt w4 gc m T2 D2 osl2 ∧ T2 ≤ T0 + (H.wt + B.wt + 2) ∧ (∀ d ∈ D2, d ∈ D0 ∨ d ∈ F1 ++ F2 ∨ p + 2 ≤ d) ∧ (∀ z, osl2.ownBlock = some z → osl.ownBlock = some z ∨ p + 2 ≤ z) ∧ Below w4.heap.size w4 w6) := ⟨r1, r2, f1, f2, nd1, nd2, dj, ho, hs4, hk, hT2, hD2, hz2, hb4⟩
  obtain ⟨⟨z0, z1, z2, z3, z4, z5, z6, z7, z8⟩, g0, g1, g2, g3, g4, g5, g6, g7, g8⟩ := blk9 hru
  clear hC hru h10 e3 e7 r1 r2 f1 f2 nd1 nd2 dj ho hs4 hk hT2 hD2 hz2 hb4 e10 hall HAFT HC1 HCL HQ
  go_wp2
  refine bodyPost_ret_by (results_cell_row rfl _ _ (p + 1) 57 _ (0, 0) _ rfl (blk9_set HRU.out) Tryd.underlying57 rfl (by kernel_rfl)) rfl ?_
  obtain ⟨r1, r2, f1, f2, nd1, nd2, dj, ho, hs4, hk, hT2, hD2, hz2, hb4⟩ := HALL.out
  obtain ⟨hfs, hg1, hm1, hoo, hd0, hff⟩ := HFS.out
  have hpp := HPP.out
  have hke : ∀ e0 e1 e2 e3 e4 e5 e6 e7 e8 x, x < w4.heap.size → x ≠ p + 1 → (set9 w6 (p + 1) e0 e1 e2 e3 e4 e5 e6 e7 e8).heap[x]? = w4.heap[x]? := fun e0 e1 e2 e3 e4 e5 e6 e7 e8 x h h' => (blk9_other h').trans (hb4.block x h)
  have lG1 := Own.lt _ _ _ r1
  have lG2 := Own.lt _ _ _ r2
  have HEND : ∀ e0 e1 e2 e3 e4 e5 e6 e7 e8, Out (gc :: m :: osl.ownBlock.toList) w (set9 w6 (p + 1) e0 e1 e2 e3 e4 e5 e6 e7 e8) := fun e0 e1 e2 e3 e4 e5 e6 e7 e8 => by
    have hs6 := hb4.size
    have hB9 : Below (p + 1) w6 (set9 w6 (p + 1) e0 e1 e2 e3 e4 e5 e6 e7 e8) := blk9_below (Below.refl _ _) (Nat.le_refl _)
    have hso := ho.size
    refine ⟨hB9.os.trans (hb4.os.trans ho.os), hB9.tape.trans (hb4.tape.trans ho.tape), hB9.output.trans (hb4.output.trans ho.output), Nat.le_trans hso (Nat.le_trans hs6 hB9.size), fun k hk1 hk2 => ?_⟩
    rw [hke _ _ _ _ _ _ _ _ _ k (by omega) (by omega)]
    exact ho.block k hk1 hk2
  have HOW : ∀ e0 e1 e2 e3 e4 e5 e6 e7 e8, Own 46 (set9 w6 (p + 1) e0 e1 e2 e3 e4 e5 e6 e7 e8) H (.agg #[.int .i64 k5, .string s5, .int .i64 n5, .slice a5 l5 c5]) G1 ∧ Own 46 (set9 w6 (p + 1) e0 e1 e2 e3 e4 e5 e6 e7 e8) B (.agg #[.int .i64 k6, .string s6, .int .i64 n6, .slice a6 l6 c6]) G2 ∧ KSt (set9 w6 (p + 1) e0 e1 e2 e3 e4 e5 e6 e7 e8) gc m T2 D2 osl2 := fun e0 e1 e2 e3 e4 e5 e6 e7 e8 => by
    refine ⟨Own.keep _ _ _ r1 fun x hx => hke _ _ _ _ _ _ _ _ _ x (lG1 x hx) (by have := (f1 x hx).1; omega), Own.keep _ _ _ r2 fun x hx => hke _ _ _ _ _ _ _ _ _ x (lG2 x hx) (by have := (f2 x hx).1; omega), hk.turn fun k hk9 => hke _ _ _ _ _ _ _ _ _ k (hk.lt k hk9) ?_⟩
    rcases hk9 with rfl | rfl | h | h
    · omega
    · omega
    · rcases hD2 k h with h | h | h
      · have := hd0 k h; omega
      · have := hff k h; omega
      · omega
    · rcases hz2 k h with h | h
      · have := hoo k h; omega
      · omega
  refine ⟨[.int .i64 k5, .string s5, .int .i64 n5, .slice a5 l5 c5, .int .i64 k6, .string s6, .int .i64 n6, .slice a6 l6 c6, .string f], G1 ++ G2, T2, D2, osl2, rfl, ⟨k5, s5, n5, a5, l5, c5, k6, s6, n6, a6, l6, c6, G1, G2, rfl, rfl, hfs, (HOW _ _ _ _ _ _ _ _ _).1, (HOW _ _ _ _ _ _ _ _ _).2.1⟩, fun x hx => ?_, List.nodup_append.2 ⟨nd1, nd2, fun x hx y hy e => dj x hx (e ▸ hy)⟩, HEND _ _ _ _ _ _ _ _ _, (HOW _ _ _ _ _ _ _ _ _).2.2, hT2, fun d hd => ?_, fun z hz => ?_⟩
  · rcases List.mem_append.1 hx with hx | hx
    · exact ⟨by have := (f1 x hx).1; omega, (f1 x hx).2⟩
    · exact ⟨by have := (f2 x hx).1; omega, (f2 x hx).2⟩
  · rcases hD2 d hd with h | h | h
    · exact Or.inl h
    · exact Or.inr (Or.inl h)
    · exact Or.inr (Or.inr (by omega))
  · rcases hz2 z hz with h | h
    · exact Or.inl h
    · exact Or.inr (by omega)
end Go.Proofs.YtmhmlkdoaojimapDoor

/- impl.copiedClauses by a new copier. -/
namespace Go.Proofs.YtmhmlkdoaojimapDoor
open Go.RowKit

/-- the clauses of a row, each in blocks of its own -/
theorem OwnCs.parts {e : TypeId} {w : World} : ∀ {ks : List Cla} {cs : List Value} {F : List Nat}, OwnCs e w ks cs F → F.Nodup → ∃ G : Nat → List Nat,
    (∀ j (hj : j < ks.length), OwnC e w ks[j] ((cs.drop (j * 9)).take 9) (G j)) ∧ (∀ j, j < ks.length → (∀ f ∈ G j, f ∈ F) ∧ (G j).Nodup) ∧ (∀ i j, i < j → j < ks.length → ∀ f ∈ G i, f ∉ G j)
  | [], _, _, _, _ => ⟨fun _ => [], fun j hj => by simp at hj, fun j hj => by simp at hj, fun i j _ hj => by simp at hj⟩
  | c :: ks, cs, F, h, hnd => by
    obtain ⟨c1, c2, F1, F2, rfl, rfl, h1, h2⟩ := h
    obtain ⟨n1, n2, n3⟩ := List.nodup_append.1 hnd
    obtain ⟨G, g1, g2, g3⟩ := OwnCs.parts h2 n2
    have hl := h1.len
    refine ⟨fun j => match j with | 0 => F1 | j + 1 => G j, fun j hj => ?_, fun j hj => ?_, fun i j hij hj f hf => ?_⟩
    · match j, hj with
      | 0, _ =>
        rw [Nat.zero_mul, List.drop_zero, List.take_append_of_le_length (by omega), List.take_of_length_le (by omega)]
        exact h1
      | j + 1, hj =>
        rw [List.drop_append, List.drop_eq_nil_of_le (by omega), List.nil_append, show (j + 1) * 9 - c1.length = j * 9 by omega]
        exact g1 j (by simpa using hj)
    · match j, hj with
      | 0, _ => exact ⟨fun f hf => List.mem_append_left _ hf, n1⟩
      | j + 1, hj => exact ⟨fun f hf => List.mem_append_right _ ((g2 j (by simpa using hj)).1 f hf), (g2 j (by simpa using hj)).2⟩
    · match i, j, hij, hj with
      | 0, j + 1, _, hj => exact fun h => n3 f hf f ((g2 j (by simpa using hj)).1 f h) rfl
      | i + 1, j + 1, hij, hj => exact g3 i j (by omega) (by simpa using hj) f hf

theorem claWts_take_succ {ks : List Cla} {j : Nat} (h : j < ks.length) : claWts (ks.take (j + 1)) = claWts (ks.take j) + ks[j].wt := by
  rw [List.take_succ_eq_append_getElem h, claWts_append]
  simp [claWts]
theorem claWts_take_le (ks : List Cla) (j : Nat) : claWts (ks.take j) ≤ claWts ks := by
  have := claWts_append (ks.take j) (ks.drop j)
  rw [List.take_append_drop] at this
  omega

/-- what turns nothing below B, behind what turned two blocks alone -/
theorem below_out {F : List Nat} {w w1 w2 : World} (hb : Below w.heap.size w1 w2) (h : Out F w w1) : Out F w w2 :=
  ⟨hb.os.trans h.os, hb.tape.trans h.tape, hb.output.trans h.output, Nat.le_trans h.size hb.size, fun k hk hk2 => (hb.block k hk).trans (h.block k hk hk2)⟩

/-- the copier within the loop -/
def CcSt (gc m : Nat) (ks : List Cla) (G : Nat → List Nat) (B : Nat) (j : Nat) (wr : World) : Prop :=
  ∃ T D osl, KSt wr gc m T D osl ∧ T ≤ claWts (ks.take j) + 2 * j ∧ (∀ d ∈ D, (∃ i, i < j ∧ d ∈ G i) ∨ B < d) ∧ (∀ z, osl.ownBlock = some z → B < z)

set_option maxHeartbeats 8000000 in
set_option maxRecDepth 20000 in
theorem copied_clauses (ks : List Cla) (w : World) (sl : Value) (F : List Nat) (gc m : Nat) (hlen : ks.length + claWts ks ≤ 1048576) (h : OwnClS 57 46 w ks sl F) (hnd : F.Nodup) (hst : KSt w gc m 0 [] (.slice none 0 0)) (hF : ∀ f ∈ F, f ≠ gc ∧ f ≠ m) :
    Calls Tryd.prog 38 #[.pointer (some ⟨gc, 0, none⟩), sl] w fun e w' => ∃ sl F, e = .returned sl ∧ OwnClS 57 46 w' ks sl F ∧ (∀ f ∈ F, w.heap.size ≤ f) ∧ F.Nodup ∧ Out [gc, m] w w' := by
  obtain ⟨M, hM, hmk⟩ := make_clauses ks.length (by omega)
  have hlt := h.lt
  have hkl := hst.lt
  have hgl := hkl gc (Or.inl rfl)
  have hml := hkl m (Or.inr (Or.inl rfl))
  obtain ⟨g, cap, G, hsl, HSRC⟩ : ∃ (g cap : Nat) (G : Nat → List Nat), (ks ≠ [] → sl = .slice (some ⟨g, 0, none⟩) ks.length cap) ∧ (∀ j (hj : j < ks.length), ∃ cur cc, w.heap[g]? = some (.cells cur 57 (0, 0)) ∧ g < w.heap.size ∧ g ≠ gc ∧ g ≠ m ∧ (∀ i, i < 9 → cur[j * 9 + i]? = cc[i]?) ∧ OwnC 46 w ks[j] cc (G j) ∧ (G j).Nodup ∧ (∀ f ∈ G j, f ≠ gc ∧ f ≠ m ∧ f < w.heap.size) ∧ (∀ i, i < j → ∀ f ∈ G i, f ∉ G j)) := by
    rcases h with ⟨rfl, rfl, rfl⟩ | ⟨g, cap, cs, F', rfl, h5, rfl, h6⟩
    · exact ⟨0, 0, fun _ => [], fun h => absurd rfl h, fun j hj => by simp at hj⟩
    · obtain ⟨G, g1, g2, g3⟩ := OwnCs.parts h6 (List.nodup_cons.1 hnd).2
      refine ⟨g, cap, G, fun _ => rfl, fun j hj => ?_⟩
      obtain ⟨hl, h5⟩ := h5
      rcases h5 with ⟨h5, _⟩ | ⟨g', cap', cur, e', _, hblk, hc1, hc2, hc3, hc4⟩
      · cases h5
      · simp only [Value.slice.injEq, Option.some.injEq, Addr.mk.injEq, and_true, true_and] at e'
        obtain ⟨rfl, rfl⟩ := e'
        have hg9 := hF g (by simp)
        refine ⟨cur, _, hblk, (Array.getElem?_eq_some_iff.1 hblk).1, hg9.1, hg9.2, fun i hi => ?_, g1 j hj, (g2 j hj).2, fun f hf => ?_, fun i hi => g3 i j hi hj⟩
        · have hl6 := OwnCs.len _ _ _ h6
          rw [List.getElem?_take, if_pos hi, List.getElem?_drop, ← hc4, List.getElem?_take, if_pos (by omega)]
          simp
        · have h9 := List.mem_cons_of_mem g ((g2 j hj).1 f hf)
          exact ⟨(hF f h9).1, (hF f h9).2, hlt f h9⟩
  obtain ⟨ao, cp, rfl⟩ := ownClS_shape h
  have HS0 : Hid (CcSt gc m ks G w.heap.size 0 w) := ⟨0, [], _, hst, by omega, fun d hd => (by cases hd), fun z hz => (by cases hz)⟩
  have HSR : Hid _ := HSRC
  have HGM : Hid (gc < w.heap.size ∧ m < w.heap.size) := ⟨hgl, hml⟩
  clear h hnd hst hF hlt hkl hgl hml HSRC
  go_enter Tryd.func38, Tryd.ntmps38
  go_wp2
  clear hmk
  go_loopw [13] (fun vi wr => ∃ (j : Nat) (cur : Array Value) (F : List Nat), j ≤ ks.length ∧ vi = .int .i64 (j : Int) ∧ Hid (Out [gc, m] w wr) ∧ wr.heap[w.heap.size]? = some (.cells cur 57 (0, 0)) ∧ cur.size = ks.length * 9 ∧
      Hid (OwnCs 46 wr (ks.take j) (cur.toList.take (j * 9)) F ∧ (∀ f ∈ F, w.heap.size < f) ∧ F.Nodup ∧ ∃ T D osl, KSt wr gc m T D osl ∧ T ≤ claWts (ks.take j) + 2 * j ∧ (∀ d ∈ D, (∃ i, i < j ∧ d ∈ G i) ∨ w.heap.size < d) ∧ (∀ z, osl.ownBlock = some z → w.heap.size < z ∧ z ∉ F))) (fun i _ => ks.length - (intOf i).toNat)
  case atStart =>
    obtain ⟨T, D, osl, q1, q2, q3, q4⟩ := HS0.out
    refine ⟨0, M, [], by omega, rfl, Out.of_below ((Below.refl _ _).alloc (Nat.le_refl _) _), by rw [heap_alloc_new], hM, ?_⟩
    exact ⟨by simp [OwnCs], by simp, by simp, T, D, osl, q1.keep ((Below.refl _ _).alloc (Nat.le_refl _) _), q2, q3, fun z hz => ⟨q4 z hz, by simp⟩⟩
  case round =>
    obtain ⟨j, cur, F, hj, rfl, HB, hblk, hcs, HO⟩ := hrel
    by_cases hlt : j < ks.length
    · obtain ⟨scur, cc, s1, s2, s3, s4, s5, s6, s7, s8, s9⟩ := HSR.out j hlt
      have hsl' := hsl (by intro e; subst e; simp at hlt)
      obtain ⟨rfl, rfl⟩ : ao = some ⟨g, 0, none⟩ ∧ cp = cap := by simpa using hsl'
      obtain ⟨k1, t1, n1, a1, l1, m1, k2, t2, n2, a2, l2, m2, F1, F2, rfl, hFF, hf, o1, o2⟩ := s6
      have hgb := (HB.out.block g s2 (by simp [s3, s4])).trans s1
      have x0 := cell_of_row (i := j * 9) hgb ((s5 0 (by omega)).trans rfl)
      have x1 := cell_of_row (i := j * 9 + 1) hgb ((s5 1 (by omega)).trans rfl)
      have x2 := cell_of_row (i := j * 9 + 2) hgb ((s5 2 (by omega)).trans rfl)
      have x3 := cell_of_row (i := j * 9 + 3) hgb ((s5 3 (by omega)).trans rfl)
      have x4 := cell_of_row (i := j * 9 + 4) hgb ((s5 4 (by omega)).trans rfl)
      have x5 := cell_of_row (i := j * 9 + 5) hgb ((s5 5 (by omega)).trans rfl)
      have x6 := cell_of_row (i := j * 9 + 6) hgb ((s5 6 (by omega)).trans rfl)
      have x7 := cell_of_row (i := j * 9 + 7) hgb ((s5 7 (by omega)).trans rfl)
      have x8 := cell_of_row (i := j * 9 + 8) hgb ((s5 8 (by omega)).trans rfl)
      have HBLK : Hid (wr.heap[w.heap.size]? = _ ∧ w.heap.size < wr.heap.size) := ⟨hblk, (Array.getElem?_eq_some_iff.1 hblk).1⟩
      obtain ⟨r1, r2, r3, T, D, osl, hk, hT, hD, hz⟩ := HO.out
      have hgm := HGM.out
      have hwj := claWts_take_succ hlt
      have hwl := claWts_take_le ks (j + 1)
      have hlt1 := OwnCs.lt _ _ _ r1
      obtain ⟨U, hU⟩ : ∃ U, U = wr.alloc (.cells #[.int .i64 k1, .string t1, .int .i64 n1, .slice a1 l1 m1, .int .i64 k2, .string t2, .int .i64 n2, .slice a2 l2 m2, .string ks[j].f] 57) := ⟨_, rfl⟩
      have bU : Below wr.heap.size wr U := by rw [hU]; exact (Below.refl _ _).alloc (Nat.le_refl _) _
      have hsU : U.heap.size = wr.heap.size + 1 := by rw [hU]; simp
      have hso := HB.out.size
      have hg0 := HBLK.out.2
      have oc : OwnC 46 U ks[j] [.int .i64 k1, .string t1, .int .i64 n1, .slice a1 l1 m1, .int .i64 k2, .string t2, .int .i64 n2, .slice a2 l2 m2, .string ks[j].f] (G j) :=
        OwnC.keep ⟨k1, t1, n1, a1, l1, m1, k2, t2, n2, a2, l2, m2, F1, F2, rfl, hFF, hf, o1, o2⟩ fun f hf9 => by
          have h9 := s8 f hf9
          exact (bU.block f (by omega)).trans (HB.out.block f h9.2.2 (by simp [h9.1, h9.2.1]))
      have HC0 := copied_any ks[j] _ (G j) U gc m T D osl oc s7 (by omega) (hk.keep bU) (by omega) (fun f hf9 => by
        have h9 := s8 f hf9
        refine ⟨h9.1, h9.2.1, fun e => by have := hz f e; omega, fun h => ?_⟩
        rcases hD f h with ⟨i, hi, h⟩ | h
        · exact s9 i hi f h hf9
        · omega)
      have HPOST : Hid (∀ e w1, CcPost T D osl gc m ks[j] (G j) U e w1 → ∃ k s n ao l c k' s' n' ao' l' c' F', e = .returned (.agg #[.int .i64 k, .string s, .int .i64 n, .slice ao l c, .int .i64 k', .string s', .int .i64 n', .slice ao' l' c', .string ks[j].f]) ∧ w1.heap[w.heap.size]? = some (.cells cur 57 (0, 0)) ∧
          OwnC 46 w1 ks[j] [.int .i64 k, .string s, .int .i64 n, .slice ao l c, .int .i64 k', .string s', .int .i64 n', .slice ao' l' c', .string ks[j].f] F' ∧ OwnCs 46 w1 (ks.take j) (cur.toList.take (j * 9)) F ∧ (∀ f ∈ F ++ F', w.heap.size < f) ∧ (F ++ F').Nodup ∧ Out [gc, m] w w1 ∧
          ∃ T D osl, KSt w1 gc m T D osl ∧ T ≤ claWts (ks.take (j + 1)) + 2 * (j + 1) ∧ (∀ d ∈ D, (∃ i, i < j + 1 ∧ d ∈ G i) ∨ w.heap.size < d) ∧ (∀ z, osl.ownBlock = some z → w.heap.size < z ∧ z ∉ F ++ F')) := by
        rintro e w1 ⟨cs', F', T1, D1, osl1, rfl, oc1, f1, nd1, ho, hk1, hT1, hD1, hz1⟩
        have hkp : ∀ k, k < wr.heap.size → k ≠ gc → k ≠ m → osl.ownBlock ≠ some k → w1.heap[k]? = wr.heap[k]? := fun k hk1 hk2 hk3 hk4 =>
          (ho.block k (by omega) (by simp [hk2, hk3]; exact hk4)).trans (bU.block k hk1)
        have hso1 := ho.size
        have ow1 : OwnCs 46 w1 (ks.take j) (cur.toList.take (j * 9)) F := OwnCs.keep _ _ _ r1 fun f hf9 => hkp f (hlt1 f hf9) (by have := r2 f hf9; omega) (by have := r2 f hf9; omega) (fun e => (hz f e).2 hf9)
        obtain ⟨k, s, n, ao, l, c, k', s', n', ao', l', c', G1, G2, rfl, hGG, hf', p1, p2⟩ := oc1
        refine ⟨k, s, n, ao, l, c, k', s', n', ao', l', c', F', rfl, (hkp _ hg0 (by omega) (by omega) (fun e => by have := (hz _ e).1; omega)).trans HBLK.out.1, ⟨k, s, n, ao, l, c, k', s', n', ao', l', c', G1, G2, rfl, hGG, hf', p1, p2⟩, ow1, fun f hf9 => ?_, List.nodup_append.2 ⟨r3, nd1, fun x hx y hy e => ?_⟩, ⟨ho.os.trans (bU.os.trans HB.out.os), ho.tape.trans (bU.tape.trans HB.out.tape), ho.output.trans (bU.output.trans HB.out.output), by omega, fun k hk1 hk2 => ?_⟩, T1, D1, osl1, hk1, ?_, fun d hd => ?_, fun z hz9 => ⟨?_, fun h => ?_⟩⟩
        · rcases List.mem_append.1 hf9 with h | h
          · exact r2 f h
          · have := (f1 f h).1; omega
        · have := hlt1 x hx
          have := (f1 y hy).1
          omega
        · simp only [List.mem_cons, not_or] at hk2
          exact (hkp k (by omega) hk2.1 hk2.2.1 (fun e => by have := (hz _ e).1; omega)).trans (HB.out.block k hk1 (by simp [hk2.1, hk2.2.1]))
        · have : ks[j].wt = ks[j].h.wt + ks[j].b.wt + ks[j].f.size := rfl
          omega
        · rcases hD1 d hd with h | h | h
          · rcases hD d h with ⟨i, hi, h⟩ | h
            · exact Or.inl ⟨i, by omega, h⟩
            · exact Or.inr h
          · exact Or.inl ⟨j, by omega, h⟩
          · exact Or.inr (by omega)
        · rcases hz1 z hz9 with h | h
          · exact (hz z h).1
          · omega
        · rcases List.mem_append.1 h with h | h
          · rcases hz1 z hz9 with h' | h'
            · exact (hz z h').2 h
            · have := hlt1 z h; omega
          · exact (f1 z h).2 hz9
      have HTK : Hid (ks.take (j + 1) = ks.take j ++ [ks[j]]) := List.take_succ_eq_append_getElem hlt
      have HS8 : Hid (∀ i, i < j + 1 → ∀ f ∈ G i, f < w.heap.size) := fun i hi f hf9 => by
        obtain ⟨_, _, _, _, _, _, _, _, _, q8, _⟩ := HSR.out i (by omega)
        exact (q8 f hf9).2.2
      have HU : Hid (U = _) := hU
      rw [hU] at HC0
      have HC : Hid _ := HC0
      clear s1 s5 hgb hblk hf o1 o2 hFF s8 s9 HC0 r1 r2 r3 hk hT hD hz hwj hwl hlt1 bU hsU oc s7 HSR HS0 HO hU
      generalize ks[j] = kj at *
      go_wp2_with (go_at_call 64; refine (Calls.mono HC.out ?_); intro e w1 hcc; obtain ⟨k, s, n, ao, l, c, k', s', n', ao', l', c', F', rfl, hg1, hrest⟩ := HPOST.out e w1 (by rw [HU.out]; exact hcc); have HREST : Hid _ := hrest; clear hrest hcc; have y0 := blk_cell (i := j * 9) hg1 (by omega); have y1 := blk_cell (i := j * 9 + 1) hg1 (by omega); have y2 := blk_cell (i := j * 9 + 2) hg1 (by omega); have y3 := blk_cell (i := j * 9 + 3) hg1 (by omega); have y4 := blk_cell (i := j * 9 + 4) hg1 (by omega); have y5 := blk_cell (i := j * 9 + 5) hg1 (by omega); have y6 := blk_cell (i := j * 9 + 6) hg1 (by omega); have y7 := blk_cell (i := j * 9 + 7) hg1 (by omega); have y8 := blk_cell (i := j * 9 + 8) hg1 (by omega); have z0 := blk_frozen hg1 (j * 9); have z1 := blk_frozen hg1 (j * 9 + 1); have z2 := blk_frozen hg1 (j * 9 + 2); have z3 := blk_frozen hg1 (j * 9 + 3); have z4 := blk_frozen hg1 (j * 9 + 4); have z5 := blk_frozen hg1 (j * 9 + 5); have z6 := blk_frozen hg1 (j * 9 + 6); have z7 := blk_frozen hg1 (j * 9 + 7); have z8 := blk_frozen hg1 (j * 9 + 8); have HG : Hid _ := hg1; clear hg1)
      go_roundw
      case rel =>
        have hg1 := HG.out
        obtain ⟨oc, ow, hlo, hnd, ho, T, D, osl, hk, hT, hD, hz⟩ := HREST.out
        have hgm := HGM.out
        have hne : ∀ f, w.heap.size < f → f ≠ w.heap.size := fun f hf => by omega
        refine ⟨j + 1, _, F ++ F', by omega, by go_num, ?_, blk_set (blk_set (blk_set (blk_set (blk_set (blk_set (blk_set (blk_set (blk_set hg1 _) _) _) _) _) _) _) _) _, by simp; exact hcs, ?_, hlo, hnd, T, D, osl, hk.turn fun k hk9 => ?_, hT, hD, hz⟩
        · exact below_out (below_set (below_set (below_set (below_set (below_set (below_set (below_set (below_set (below_set (Below.refl w.heap.size _) (Nat.le_refl _) _) (Nat.le_refl _) _) (Nat.le_refl _) _) (Nat.le_refl _) _) (Nat.le_refl _) _) (Nat.le_refl _) _) (Nat.le_refl _) _) (Nat.le_refl _) _) (Nat.le_refl _) _) ho
        · rw [HTK.out, set9_take (by omega)]
          refine OwnCs.snoc (oc.keep fun f hf => ?_) _ _ _ (OwnCs.keep _ _ _ ow fun f hf => ?_)
          · have h1 := hlo f (List.mem_append_right _ hf)
            rw [blk_other _ (hne f (by omega)), blk_other _ (hne f (by omega)), blk_other _ (hne f (by omega)), blk_other _ (hne f (by omega)), blk_other _ (hne f (by omega)), blk_other _ (hne f (by omega)), blk_other _ (hne f (by omega)), blk_other _ (hne f (by omega)), blk_other _ (hne f (by omega))]
          · have h1 := hlo f (List.mem_append_left _ hf)
            rw [blk_other _ (hne f h1), blk_other _ (hne f h1), blk_other _ (hne f h1), blk_other _ (hne f h1), blk_other _ (hne f h1), blk_other _ (hne f h1), blk_other _ (hne f h1), blk_other _ (hne f h1), blk_other _ (hne f h1)]
        · have hkn : k ≠ w.heap.size := by
            rcases hk9 with rfl | rfl | h | h
            · omega
            · omega
            · rcases hD k h with ⟨i, hi, h⟩ | h
              · have := HS8.out i hi k h; omega
              · omega
            · have := (hz k h).1; omega
          rw [blk_other _ hkn, blk_other _ hkn, blk_other _ hkn, blk_other _ hkn, blk_other _ hkn, blk_other _ hkn, blk_other _ hkn, blk_other _ hkn, blk_other _ hkn]
      case measure => simp [intOf]; omega
    · obtain rfl : j = ks.length := by omega
      go_wp2
      go_ret
      obtain ⟨o1, o2, o3, -⟩ := HO.out
      rw [List.take_of_length_le (Nat.le_refl _)] at o1
      refine ⟨_, w.heap.size :: F, rfl, Or.inr ⟨w.heap.size, ks.length, cur.toList.take (ks.length * 9), F, rfl, ⟨by simp [hcs], Or.inr ⟨w.heap.size, ks.length, cur, rfl, Nat.zero_le _, hblk, Nat.le_refl _, by unfold maxLen; omega, hcs, rfl⟩⟩, rfl, o1⟩, ?_, ?_, HB.out⟩
      · intro f hf
        rcases List.mem_cons.1 hf with rfl | hf
        · exact Nat.le_refl _
        · have := o2 f hf; omega
      · refine List.nodup_cons.2 ⟨fun hf => ?_, o3⟩
        have := o2 _ hf
        omega
end Go.Proofs.YtmhmlkdoaojimapDoor

/- impl.shelvesOf. -/
namespace Go.Proofs.YtmhmlkdoaojimapDoor
open Go.RowKit

theorem below_hk {w w' : World} (hb : Below w.heap.size w w') {g : Nat} {x : Obj} (h : w.heap[g]? = some x) : w'.heap[g]? = some x := (hb.block g (Array.getElem?_eq_some_iff.1 h).1).trans h
theorem row_keepBB {w w' : World} {B e size n : Nat} {v : Value} {xs : List Value} (h : w.ownsRow B e size v n xs) (hb : ∀ b, v.ownBlock = some b → w'.heap[b]? = w.heap[b]?) : w'.ownsRow B e size v n xs := by
  rcases h.2 with ⟨rfl, hl⟩ | ⟨g, cap, cur, rfl, h1, hh, h2⟩
  · exact ⟨h.1, Or.inl ⟨rfl, hl⟩⟩
  · exact ⟨h.1, Or.inr ⟨g, cap, cur, rfl, h1, (hb g rfl).trans hh, h2⟩⟩
theorem ofPred_le (q : ByteArray) (cs : List Cla) (j : Nat) : (ofPred q (cs.take j)).length ≤ cs.length := by
  have h1 : (ofPred q (cs.take j)).length ≤ (cs.take j).length := List.length_filter_le _ _
  rw [List.length_take] at h1
  omega
theorem vmap_get (w : World) (m : Nat) (ms : List (ByteArray × Value)) (h : VMapAt w m ms) (s : ByteArray) :
    (Instr.lookup 61 (.map (some m)) (.string s) false).run Tryd.prog w = .ok ((vget s ms).getD (.slice none 0 0)) w := by
  obtain ⟨es, clock, h1, h2, _⟩ := h
  obtain ⟨q1, q2⟩ := vnow s ms es.toList 0 h2
  have hc := vchk 9999 es.isEmpty w s
  cases hg : vget s ms with
  | some n =>
    obtain ⟨j, hj, _⟩ := q2 n hg
    simp [Instr.lookup, run_underlying Tryd.underlying61, run_underlying Tryd.underlying9, MapKept.run_getObj_map h1, hc, Instr.findKey, hj]
  | none =>
    have hj := q1 hg
    simp [Instr.lookup, run_underlying Tryd.underlying61, run_underlying Tryd.underlying9, MapKept.run_getObj_map h1, hc, Instr.findKey, hj]

theorem sh_look {w0 w : World} {B m : Nat} {ks : List Cla} {D : Nat → Prop} (h : ShAt 57 46 w0 w B m ks D) (q : ByteArray) :
    ∃ (ms : List (ByteArray × Value)) (ao : Option Addr) (l c : Nat) (news : List Value) (F : List Nat), VMapAt w m ms ∧ (ms.map (·.1)).Nodup ∧ (ms.map fun x => x.2.ownBlock).Nodup ∧ (∀ q, vget q ms = none → ofPred q ks = []) ∧ (∀ x ∈ ms, ShRow 57 46 w0 w B x.1 ks D x.2 ∧ x.2.ownBlock ≠ none ∧ ofPred x.1 ks ≠ []) ∧
      Value.slice ao l c = (vget q ms).getD (.slice none 0 0) ∧ (Instr.lookup 61 (.map (some m)) (.string q) false).run Tryd.prog w = .ok (.slice ao l c) w ∧ w.ownsRow B 57 9 (.slice ao l c) (ofPred q ks).length news ∧ OwnCs 46 w0 (ofPred q ks) news F ∧ F.Nodup ∧ (∀ f ∈ F, D f) := by
  obtain ⟨ms, h1, h2, h3, h4, h5⟩ := h
  have hl := vmap_get w m ms h1 q
  obtain ⟨news, F, r1, r2, r3, r4⟩ := ShAt.list h4 h5 q
  obtain ⟨ao, l, c, e⟩ := owns_shape r1
  rw [e] at hl r1
  exact ⟨ms, ao, l, c, news, F, h1, h2, h3, h4, h5, e.symm, hl, r1, r2, r3, r4⟩

set_option maxHeartbeats 8000000 in
set_option maxRecDepth 20000 in
theorem shelves_of (ks : List Cla) (w : World) (sl : Value) (F : List Nat) (hlen : ks.length ≤ 1100000) (hwt : ∀ c ∈ ks, c.h.wt ≤ 1048576) (h : OwnClS 57 46 w ks sl F) (hnd : F.Nodup) (htab : Lib.TabIs Tryd.prog w "internal/strconv.uint64pow10" .u64 Lib.pow10Tab) :
    Calls Tryd.prog 32 #[sl] w fun e w' => ∃ m, e = .returned (.map (some m)) ∧ w.heap.size ≤ m ∧ ShAt 57 46 w w' w.heap.size m ks (fun f => f ∈ F) ∧ Below w.heap.size w w' := by
  have hmm := @run_makeMap Tryd.prog
  obtain ⟨i0, hi, hz0, hz1, hz2⟩ := info_parts infoC
  have hlt := h.lt
  obtain ⟨g, cap, G, hsl, HSRC⟩ : ∃ (g cap : Nat) (G : Nat → List Nat), (ks ≠ [] → sl = .slice (some ⟨g, 0, none⟩) ks.length cap) ∧ (∀ j (hj : j < ks.length), ∃ cur cc, w.heap[g]? = some (.cells cur 57 (0, 0)) ∧ g < w.heap.size ∧ (∀ i, i < 9 → cur[j * 9 + i]? = cc[i]?) ∧ OwnC 46 w ks[j] cc (G j) ∧ (G j).Nodup ∧ (∀ f ∈ G j, f ∈ F) ∧ (∀ i, i < j → ∀ f ∈ G i, f ∉ G j)) := by
    rcases h with ⟨rfl, rfl, rfl⟩ | ⟨g, cap, cs, F', rfl, h5, rfl, h6⟩
    · exact ⟨0, 0, fun _ => [], fun h => absurd rfl h, fun j hj => by simp at hj⟩
    · obtain ⟨G, g1, g2, g3⟩ := OwnCs.parts h6 (List.nodup_cons.1 hnd).2
      refine ⟨g, cap, G, fun _ => rfl, fun j hj => ?_⟩
      obtain ⟨hl, h5⟩ := h5
      rcases h5 with ⟨h5, _⟩ | ⟨g', cap', cur, e', _, hblk, hc1, hc2, hc3, hc4⟩
      · cases h5
      · simp only [Value.slice.injEq, Option.some.injEq, Addr.mk.injEq, and_true, true_and] at e'
        obtain ⟨rfl, rfl⟩ := e'
        refine ⟨cur, _, hblk, (Array.getElem?_eq_some_iff.1 hblk).1, fun i hi => ?_, g1 j hj, (g2 j hj).2, fun f hf => List.mem_cons_of_mem g ((g2 j hj).1 f hf), fun i hi => g3 i j hi hj⟩
        have hl6 := OwnCs.len _ _ _ h6
        rw [List.getElem?_take, if_pos hi, List.getElem?_drop, ← hc4, List.getElem?_take, if_pos (by omega)]
        simp
  obtain ⟨ao, cp, rfl⟩ := ownClS_shape h
  have HSR : Hid _ := HSRC
  have HLT : Hid (∀ f ∈ F, f < w.heap.size) := hlt
  have HTB : Hid (∀ u, Below w.heap.size w u → Lib.TabIs Tryd.prog u "internal/strconv.uint64pow10" .u64 Lib.pow10Tab) := fun u hb => pow_keep htab hb
  have HWT : Hid (∀ c ∈ ks, c.h.wt ≤ 1048576) := hwt
  obtain ⟨m, hm⟩ : ∃ m, m = w.heap.size := ⟨_, rfl⟩
  have HM : Hid (m = w.heap.size) := hm
  clear h hnd hlt HSRC htab hwt
  go_enter Tryd.func32, Tryd.ntmps32
  go_wp2
  clear hmm
  rw [← hm]
  clear hm
  go_loopw [10] (fun vi wr => ∃ (j : Nat), j ≤ ks.length ∧ vi = .int .i64 (j : Int) ∧ Hid (Below w.heap.size w wr ∧ ShAt 57 46 w wr w.heap.size m (ks.take j) (fun f => ∃ i, i < j ∧ f ∈ G i))) (fun i _ => ks.length - (intOf i).toNat)
  case atStart =>
    refine ⟨0, by omega, rfl, (Below.refl _ _).alloc (Nat.le_refl _) _, [], ?_, by simp, by simp, fun q _ => rfl, by simp⟩
    exact ⟨#[], 0, by rw [HM.out]; exact heap_alloc_new _ _, rfl, by simp [BornOk]⟩
  case round =>
    obtain ⟨j, hj, rfl, HB⟩ := hrel
    by_cases hlt : j < ks.length
    · obtain ⟨scur, cc, s1, s2, s5, s6, s7, s8, s9⟩ := HSR.out j hlt
      have hsl' := hsl (by intro e; subst e; simp at hlt)
      obtain ⟨rfl, rfl⟩ : ao = some ⟨g, 0, none⟩ ∧ cp = cap := by simpa using hsl'
      obtain ⟨k1, t1, n1, a1, l1, m1, k2, t2, n2, a2, l2, m2, F1, F2, rfl, hFF, hf, o1, o2⟩ := s6
      have hgb := (HB.out.1.block g s2).trans s1
      have x0 := cell_of_row (i := j * 9) hgb ((s5 0 (by omega)).trans rfl)
      have x1 := cell_of_row (i := j * 9 + 1) hgb ((s5 1 (by omega)).trans rfl)
      have x2 := cell_of_row (i := j * 9 + 2) hgb ((s5 2 (by omega)).trans rfl)
      have x3 := cell_of_row (i := j * 9 + 3) hgb ((s5 3 (by omega)).trans rfl)
      have x4 := cell_of_row (i := j * 9 + 4) hgb ((s5 4 (by omega)).trans rfl)
      have x5 := cell_of_row (i := j * 9 + 5) hgb ((s5 5 (by omega)).trans rfl)
      have x6 := cell_of_row (i := j * 9 + 6) hgb ((s5 6 (by omega)).trans rfl)
      have x7 := cell_of_row (i := j * 9 + 7) hgb ((s5 7 (by omega)).trans rfl)
      have x8 := cell_of_row (i := j * 9 + 8) hgb ((s5 8 (by omega)).trans rfl)
      obtain ⟨U, hU⟩ : ∃ U, U = wr.alloc (.cells #[.int .i64 k1, .string t1, .int .i64 n1, .slice a1 l1 m1, .int .i64 k2, .string t2, .int .i64 n2, .slice a2 l2 m2, .string ks[j].f] 57) := ⟨_, rfl⟩
      have bU : Below wr.heap.size wr U := by rw [hU]; exact (Below.refl _ _).alloc (Nat.le_refl _) _
      have hsU : U.heap.size = wr.heap.size + 1 := by rw [hU]; simp
      have hkU : U.heap[wr.heap.size]? = some (.cells #[.int .i64 k1, .string t1, .int .i64 n1, .slice a1 l1 m1, .int .i64 k2, .string t2, .int .i64 n2, .slice a2 l2 m2, .string ks[j].f] 57 (0, 0)) := by rw [hU]; exact heap_alloc_new _ _
      have bwU : Below w.heap.size w U := HB.out.1.trans (bU.mono HB.out.1.size)
      have HC0 := i_pred ks[j].h U _ (TmIn.keep bwU _ _ (Own.toIn _ _ _ o1)) (HWT.out _ (List.getElem_mem hlt)) (HTB.out U bwU)
      have HTK : Hid (ks.take (j + 1) = ks.take j ++ [ks[j]]) := List.take_succ_eq_append_getElem hlt
      have HOC : Hid (OwnC 46 w ks[j] [.int .i64 k1, .string t1, .int .i64 n1, .slice a1 l1 m1, .int .i64 k2, .string t2, .int .i64 n2, .slice a2 l2 m2, .string ks[j].f] (G j) ∧ (G j).Nodup ∧ (∀ i, i < j → ∀ f ∈ G i, f ∉ G j)) := ⟨⟨k1, t1, n1, a1, l1, m1, k2, t2, n2, a2, l2, m2, F1, F2, rfl, hFF, hf, o1, o2⟩, s7, s9⟩
      have HU : Hid (U = _ ∧ Below w.heap.size w U ∧ U.heap[wr.heap.size]? = _ ∧ U.heap.size = wr.heap.size + 1 ∧ ShAt 57 46 w U w.heap.size m (ks.take j) (fun f => ∃ i, i < j ∧ f ∈ G i)) := ⟨hU, bwU, hkU, hsU, HB.out.2.below bU⟩
      rw [hU] at HC0
      have HC : Hid _ := HC0
      have HLN : Hid (ks.length ≤ 1100000) := hlen
      clear s1 s5 hgb hf o1 o2 hFF s7 s8 s9 HC0 bU bwU hsU hkU hU HB HSR
      generalize ks[j] = kj at *
      go_wp2_with (first
        | (go_at_call 54; refine (Calls.mono HC.out ?_); rintro e w1 ⟨rfl, hb⟩; rw [← HU.out.1] at hb; have HB1 : Hid (Below U.heap.size U w1) := hb; have hk1 := below_hk hb HU.out.2.2.1; have HK1 : Hid (w1.heap[wr.heap.size]? = _) := hk1; obtain ⟨⟨y0, y1, y2, y3, y4, y5, y6, y7, y8⟩, _⟩ := blk9 hk1; clear hk1; obtain ⟨ms, a9, l9, c9, news, F9, v1, v2, v3, v4, v5, v6, HLK, v8, v9, v10, v11⟩ := sh_look (HU.out.2.2.2.2.below hb) (predB kj.h); have HV : Hid (VMapAt w1 m ms ∧ (ms.map (·.1)).Nodup ∧ (ms.map fun x => x.2.ownBlock).Nodup ∧ (∀ q, vget q ms = none → ofPred q (ks.take j) = []) ∧ (∀ x ∈ ms, ShRow 57 46 w w1 w.heap.size x.1 (ks.take j) (fun f => ∃ i, i < j ∧ f ∈ G i) x.2 ∧ x.2.ownBlock ≠ none ∧ ofPred x.1 (ks.take j) ≠ []) ∧ Value.slice a9 l9 c9 = (vget (predB kj.h) ms).getD (.slice none 0 0) ∧ w1.ownsRow w.heap.size 57 9 (.slice a9 l9 c9) (ofPred (predB kj.h) (ks.take j)).length news ∧ OwnCs 46 w (ofPred (predB kj.h) (ks.take j)) news F9 ∧ F9.Nodup ∧ (∀ f ∈ F9, ∃ i, i < j ∧ f ∈ G i)) := ⟨v1, v2, v3, v4, v5, v6, v8, v9, v10, v11⟩; clear v1 v2 v3 v4 v5 v6 v8 v9 v10 v11 hb)
        | (at_builtin; go_loud (refine wpList_append_own_at _ rfl _ _ 28 rfl w.heap.size 57 i0 (.agg #[.int .i64 0, .string ⟨#[]⟩, .int .i64 0, .slice none 0 0, .int .i64 0, .string ⟨#[]⟩, .int .i64 0, .slice none 0 0, .string ⟨#[]⟩]) 9 128 Tryd.underlying28 hi hz0 hz1 hz2 rfl (by decide) _ _ _ rfl (HV.out.2.2.2.2.2.2.1.alloc _) ⟨w1.heap.size, 0, none⟩ 1 1 [.int .i64 k1, .string t1, .int .i64 n1, .slice a1 l1 m1, .int .i64 k2, .string t2, .int .i64 n2, .slice a2 l2 m2, .string kj.f] rfl rfl ?c1 ?c2 ?c3 ?c4 ?c5 ?_)))
      case c1 =>
        intro j z hj
        match j, hj with
        | 0, hj => simp at hj; subst hj; simp [Addr.add]
        | 1, hj => simp at hj; subst hj; simp [Addr.add]
        | 2, hj => simp at hj; subst hj; simp [Addr.add]
        | 3, hj => simp at hj; subst hj; simp [Addr.add]
        | 4, hj => simp at hj; subst hj; simp [Addr.add]
        | 5, hj => simp at hj; subst hj; simp [Addr.add]
        | 6, hj => simp at hj; subst hj; simp [Addr.add]
        | 7, hj => simp at hj; subst hj; simp [Addr.add]
        | 8, hj => simp at hj; subst hj; simp [Addr.add]
      case c2 => intro z hz; simp at hz; rcases hz with rfl | rfl | rfl | rfl | rfl | rfl | rfl | rfl | rfl <;> rfl
      case c3 => have := ofPred_le (predB kj.h) ks j; unfold maxLen; omega
      case c4 => have := ofPred_le (predB kj.h) ks j; omega
      case c5 => have := HU.out.2.1.size; have := HB1.out.size; simp; omega
      intro v' w2 hown' hgrow hnil hat
      obtain ⟨W1, hW1⟩ : ∃ W1, W1 = w1.alloc (.cells #[.int .i64 k1, .string t1, .int .i64 n1, .slice a1 l1 m1, .int .i64 k2, .string t2, .int .i64 n2, .slice a2 l2 m2, .string kj.f] 57) := ⟨_, rfl⟩
      rw [← hW1] at hgrow
      rw [show w1.heap.size + 1 = W1.heap.size by rw [hW1]; simp] at hat
      have bW1 : Below w1.heap.size w1 W1 := by rw [hW1]; exact (Below.refl _ _).alloc (Nat.le_refl _) _
      obtain ⟨v1, v2, v3, v4, v5, v6, v8, v9, v10, v11⟩ := HV.out
      have bw1 : Below w.heap.size w w1 := HU.out.2.1.trans (HB1.out.mono HU.out.2.1.size)
      have bwW : Below w.heap.size w W1 := bw1.trans (bW1.mono bw1.size)
      have hvm : VMapAt w2 m ms := by
        obtain ⟨es, cl, q1, q2⟩ := v1
        have hml := (Array.getElem?_eq_some_iff.1 q1).1
        refine ⟨es, cl, (hgrow.block m (Nat.lt_of_lt_of_le hml bW1.size) ?_).trans ((bW1.block m hml).trans q1), q2⟩
        intro e
        rcases v8.2 with ⟨h, _⟩ | ⟨g9, cap9, cur9, e9, _, hh, _⟩
        · rw [h] at e; cases e
        · rw [e9] at e
          obtain rfl : m = g9 := by simpa [Value.ownBlock] using e
          rw [q1] at hh; cases hh
      have hmw : ∃ es cl, w2.heap[m]? = some (.map es cl) := by obtain ⟨es, cl, q1, _⟩ := hvm; exact ⟨es, cl, q1⟩
      obtain ⟨o, HPU, MV⟩ := vmap_put w2 m ms hvm (predB kj.h) v'
      have hnn : v' ≠ .slice none 0 0 := fun e => by first | exact hnil e | (have := (hnil.1 e).2; omega) | simp_all
      have hb2 : Below w.heap.size w w2 := ⟨hgrow.os.trans bwW.os, hgrow.tape.trans bwW.tape, hgrow.output.trans bwW.output, Nat.le_trans bwW.size hgrow.size, fun k hk => (hgrow.block k (Nat.lt_of_lt_of_le hk bwW.size) (fun e => by have := (v8.lt k e.symm).1; omega)).trans (bwW.block k hk)⟩
      have hb3 : Below w.heap.size w (putB w2 m o) := ⟨hb2.os, hb2.tape, hb2.output, by simpa [putB] using hb2.size, fun k hk => (putB_other (by have := HM.out; omega)).trans (hb2.block k hk)⟩
      have HFIN : Hid (Below w.heap.size w (putB w2 m o) ∧ ShAt 57 46 w (putB w2 m o) w.heap.size m (ks.take (j + 1)) (fun f => ∃ i, i < j + 1 ∧ f ∈ G i)) := by
        refine ⟨hb3, ?_⟩
        rw [HTK.out]
        obtain ⟨c1, c2, c3⟩ := HOC.out
        refine ShAt.put (w := W1) (v := .slice a9 l9 c9) v2 v3 v4 (fun x hx => ?_) v6 c1 c2 (fun f hf => ⟨⟨j, by omega, hf⟩, fun h => ?_⟩) (fun f h => ?_) v9 v10 v11 hown' hgrow hnn hat hmw MV
        · obtain ⟨⟨news', F', r1, r2⟩, h6⟩ := v5 x hx
          exact ⟨⟨news', F', row_keepBB r1 (fun b e => bW1.block b (r1.lt b e).2), r2⟩, h6⟩
        · obtain ⟨i, hi, h⟩ := h
          exact c3 i hi f h hf
        · obtain ⟨i, hi, h⟩ := h
          exact ⟨i, by omega, h⟩
      clear v1 v2 v3 v4 v5 v6 v8 v9 v10 v11 hown' hgrow hnil hat hW1 bW1 bw1 bwW hvm hmw MV hnn hb2 hb3
      go_wp2
      go_roundw
      case rel => exact ⟨j + 1, by omega, by go_num, HFIN.out⟩
      case measure => simp [intOf]; omega
    · obtain rfl : j = ks.length := by omega
      go_wp2
      go_ret
      obtain ⟨b, ms, h1, h2, h3, h4, h5⟩ := HB.out
      rw [List.take_of_length_le (Nat.le_refl _)] at h4 h5
      refine ⟨m, rfl, by have := HM.out; omega, ⟨ms, h1, h2, h3, h4, fun x hx => ?_⟩, b⟩
      obtain ⟨⟨news, F9, r1, r2, r3, r4⟩, h6⟩ := h5 x hx
      refine ⟨⟨news, F9, r1, r2, r3, fun f hf => ?_⟩, h6⟩
      obtain ⟨i, hi, hf⟩ := r4 f hf
      obtain ⟨_, _, _, _, _, _, _, q8, _⟩ := HSR.out i hi
      exact q8 f hf
end Go.Proofs.YtmhmlkdoaojimapDoor

/- impl.newCopier. -/
namespace Go.Proofs.YtmhmlkdoaojimapDoor
open Go.RowKit

theorem new_copier (w : World) : Calls Tryd.prog 39 #[] w fun e w' => e = .returned (.pointer (some ⟨w.heap.size + 1, 0, none⟩)) ∧ w'.heap[w.heap.size + 1]? = some (.cells #[.map (some w.heap.size), .int .i64 0, .slice none 0 0] 95 (0, 0)) ∧ w'.heap[w.heap.size]? = some (.map #[] 0) ∧ w'.heap.size = w.heap.size + 2 ∧ Below w.heap.size w w' := by
  have hmm := @run_makeMap Tryd.prog
  have HE : Hid (∀ w', w' = (w.alloc (.map #[] 0)).alloc (.cells #[.map (some w.heap.size), .int .i64 0, .slice none 0 0] 95) → w'.heap[w.heap.size + 1]? = some (.cells #[.map (some w.heap.size), .int .i64 0, .slice none 0 0] 95 (0, 0)) ∧ w'.heap[w.heap.size]? = some (.map #[] 0) ∧ w'.heap.size = w.heap.size + 2 ∧ Below w.heap.size w w') := by
    intro w' hw'
    refine ⟨by rw [hw']; exact alloc_at _ _ (by simp), by rw [hw']; exact (alloc_old _ _ (by simp)).trans (heap_alloc_new w _), by rw [hw']; simp, by rw [hw']; exact ((Below.refl _ _).alloc (Nat.le_refl _) _).alloc (by simp) _⟩
  go_enter Tryd.func39, Tryd.ntmps39
  go_wp2
  go_ret
  exact ⟨rfl, HE.out _ rfl⟩
end Go.Proofs.YtmhmlkdoaojimapDoor

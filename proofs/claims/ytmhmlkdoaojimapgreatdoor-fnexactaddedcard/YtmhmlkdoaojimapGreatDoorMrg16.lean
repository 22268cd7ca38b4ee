/- Four texts in one. -/
import Derived.Test.YtmhmlkdoaojimapGreatDoorMrg15
import Derived.Test.YtmhmlkdoaojimapGreatDoorMrg3
import Derived.Test.YtmhmlkdoaojimapGreatDoorMrg9
import Derived.Test.YtmhmlkdoaojimapGreatDoorMrg2
import Derived.Deep.RegionWith
import Derived.Deep.DeepCutAuto
import Derived.Test.YtmhmlkdoaojimapGreatDoorMrg6
import Derived.Test.YtmhmlkdoaojimapGreatDoorRows
import Derived.Test.YtmhmlkdoaojimapGreatDoorMrg1
import Derived.Below
import Derived.ProofKit
/- impl.copiedClause of any terms, by a copier that was used before. -/
namespace Go.Proofs.YtmhmlkdoaojimapGreatDoor
open Go.RowKit

/-- what copiedClause leaves -/
def CcPost (T0 : Nat) (D0 : List Nat) (osl : Value) (gc m : Nat) (c : Cla) (F : List Nat) (w : World) (e : Ending) (w' : World) : Prop :=
  ∃ cs F' T1 D1 osl', e = .returned (.agg (List.toArray cs)) ∧ OwnC 41 w' c cs F' ∧ (∀ f ∈ F', w.heap.size ≤ f ∧ osl'.ownBlock ≠ some f) ∧ F'.Nodup ∧ Out (gc :: m :: osl.ownBlock.toList) w w' ∧ KSt w' gc m T1 D1 osl' ∧ T1 ≤ T0 + (c.h.wt + c.b.wt + 2) ∧ (∀ d ∈ D1, d ∈ D0 ∨ d ∈ F ∨ w.heap.size ≤ d) ∧ (∀ z, osl'.ownBlock = some z → osl.ownBlock = some z ∨ w.heap.size ≤ z)

/-- what stands when both terms are copied -/
def CcHas (T0 : Nat) (D0 : List Nat) (osl : Value) (gc m : Nat) (H B : Tm) (F : List Nat) (p : Nat) (w : World) (v3 v7 : Value) (w4 : World) : Prop :=
  ∃ k5 s5 n5 a5 l5 c5 G1 k6 s6 n6 a6 l6 c6 G2 T2 D2 osl2, v3 = .agg #[.int .i64 k5, .string s5, .int .i64 n5, .slice a5 l5 c5] ∧ v7 = .agg #[.int .i64 k6, .string s6, .int .i64 n6, .slice a6 l6 c6] ∧
    Own 41 w4 H (.agg #[.int .i64 k5, .string s5, .int .i64 n5, .slice a5 l5 c5]) G1 ∧ Own 41 w4 B (.agg #[.int .i64 k6, .string s6, .int .i64 n6, .slice a6 l6 c6]) G2 ∧
    (∀ x ∈ G1, p + 2 ≤ x ∧ osl2.ownBlock ≠ some x) ∧ (∀ x ∈ G2, p + 2 ≤ x ∧ osl2.ownBlock ≠ some x) ∧ G1.Nodup ∧ G2.Nodup ∧ (∀ x ∈ G1, x ∉ G2) ∧
    Out (gc :: m :: osl.ownBlock.toList) w w4 ∧ p + 2 ≤ w4.heap.size ∧ KSt w4 gc m T2 D2 osl2 ∧ T2 ≤ T0 + (H.wt + B.wt + 2) ∧ (∀ d ∈ D2, d ∈ D0 ∨ d ∈ F ∨ p + 2 ≤ d) ∧ (∀ z, osl2.ownBlock = some z → osl.ownBlock = some z ∨ p + 2 ≤ z)

/-- what stands when the first one is copied -/
def CcOne (T0 : Nat) (D0 : List Nat) (osl : Value) (gc m : Nat) (H B : Tm) (F : List Nat) (p : Nat) (cb : Value) (A Z : Obj) (w : World) (v3 : Value) (w3 : World) : Prop :=
  ∀ u, Below w3.heap.size w3 u → Calls Tryz.prog 63 #[.pointer (some ⟨gc, 0, none⟩), cb] u fun e w' => ∃ v7, e = .returned v7 ∧ CcHas T0 D0 osl gc m H B F p w v3 v7 w' ∧ w'.heap[p]? = some A ∧ w'.heap[p + 1]? = some Z

set_option maxHeartbeats 8000000 in
set_option maxRecDepth 20000 in
theorem copied_any (c : Cla) (cs : List Value) (F : List Nat) (w : World) (gc m T0 : Nat) (D0 : List Nat) (osl : Value) (hown : OwnC 41 w c cs F) (hnd : F.Nodup) (hwt : c.wt ≤ 1048576) (hst : KSt w gc m T0 D0 osl) (hT : T0 + c.wt + 2 ≤ 2097152) (hF : ∀ f ∈ F, f ≠ gc ∧ f ≠ m ∧ osl.ownBlock ≠ some f ∧ f ∉ D0) :
    Calls Tryz.prog 57 #[.pointer (some ⟨gc, 0, none⟩), .agg cs.toArray] w (CcPost T0 D0 osl gc m c F w) := by
  obtain ⟨k1, s1, n1, a1, l1, c1, k2, s2, n2, a2, l2, c2, F1, F2, rfl, rfl, hfs, o1, o2⟩ := hown
  obtain ⟨H, B, f⟩ := c
  simp only at o1 o2 hfs
  have hw0 : H.wt + B.wt + f.size ≤ 1048576 := hwt
  have hT0 : T0 + (H.wt + B.wt + f.size) + 2 ≤ 2097152 := hT
  obtain ⟨d1, d2, d3⟩ := List.nodup_append.1 hnd
  show Calls Tryz.prog 57 #[.pointer (some ⟨gc, 0, none⟩), .agg #[.int .i64 k1, .string s1, .int .i64 n1, .slice a1 l1 c1, .int .i64 k2, .string s2, .int .i64 n2, .slice a2 l2 c2, .string f]] w _
  obtain ⟨W, hW⟩ : ∃ W, W = (w.alloc (.cells #[.int .i64 k1, .string s1, .int .i64 n1, .slice a1 l1 c1, .int .i64 k2, .string s2, .int .i64 n2, .slice a2 l2 c2, .string f] 43)).alloc (.cells #[.int .i64 0, .string ⟨#[]⟩, .int .i64 0, .slice none 0 0, .int .i64 0, .string ⟨#[]⟩, .int .i64 0, .slice none 0 0, .string ⟨#[]⟩] 43) := ⟨_, rfl⟩
  have bW : Below w.heap.size w W := by rw [hW]; exact ((Below.refl _ _).alloc (Nat.le_refl _) _).alloc (by simp) _
  have lW : W.heap.size = w.heap.size + 2 := by rw [hW]; simp
  have q1 : W.heap[w.heap.size]? = some (.cells #[.int .i64 k1, .string s1, .int .i64 n1, .slice a1 l1 c1, .int .i64 k2, .string s2, .int .i64 n2, .slice a2 l2 c2, .string f] 43 (0, 0)) := by rw [hW]; exact (alloc_old _ _ (by simp)).trans (alloc_at _ _ rfl)
  have q3 : W.heap[w.heap.size + 1]? = some (.cells #[.int .i64 0, .string ⟨#[]⟩, .int .i64 0, .slice none 0 0, .int .i64 0, .string ⟨#[]⟩, .int .i64 0, .slice none 0 0, .string ⟨#[]⟩] 43 (0, 0)) := by rw [hW]; exact alloc_at _ _ (by simp)
  have hlt1 := Own.lt _ _ _ o1
  have hlt2 := Own.lt _ _ _ o2
  have hstW := hst.keep bW
  have hkl := hst.lt
  have hgm := hst.gm
  obtain ⟨p, hp⟩ : ∃ p, p = w.heap.size := ⟨_, rfl⟩
  obtain ⟨A, hA⟩ : ∃ A, A = Obj.cells #[.int .i64 k1, .string s1, .int .i64 n1, .slice a1 l1 c1, .int .i64 k2, .string s2, .int .i64 n2, .slice a2 l2 c2, .string f] 43 (0, 0) := ⟨_, rfl⟩
  obtain ⟨Z, hZ⟩ : ∃ Z, Z = Obj.cells #[.int .i64 0, .string ⟨#[]⟩, .int .i64 0, .slice none 0 0, .int .i64 0, .string ⟨#[]⟩, .int .i64 0, .slice none 0 0, .string ⟨#[]⟩] 43 (0, 0) := ⟨_, rfl⟩
  rw [← hA, ← hp] at q1
  rw [← hZ, ← hp] at q3
  rw [← hp] at lW
  have HC1 : Hid (∀ u, Below W.heap.size W u → Calls Tryz.prog 63 #[.pointer (some ⟨gc, 0, none⟩), .agg #[.int .i64 k1, .string s1, .int .i64 n1, .slice a1 l1 c1]] u fun e w' => KPost T0 D0 osl gc m H F1 W e w') := fun u hb => by
    have hBu := bW.trans (hb.mono bW.size)
    exact Calls.mono (copy_any H _ F1 u gc m T0 D0 osl (Own.keep _ _ _ o1 fun x hx => hBu.block x (hlt1 x hx)) d1 (by omega) (hstW.keep hb) (by omega) (fun x hx => hF x (List.mem_append_left _ hx))) fun e w' h => KPost.base hb h
  have HAFT : Hid (∀ e w3, KPost T0 D0 osl gc m H F1 W e w3 → ∃ k5 s5 n5 a5 l5 c5, e = .returned (.agg #[.int .i64 k5, .string s5, .int .i64 n5, .slice a5 l5 c5]) ∧ w3.heap[p]? = some A ∧ w3.heap[p + 1]? = some Z ∧ CcOne T0 D0 osl gc m H B (F1 ++ F2) p (.agg #[.int .i64 k2, .string s2, .int .i64 n2, .slice a2 l2 c2]) A Z w (.agg #[.int .i64 k5, .string s5, .int .i64 n5, .slice a5 l5 c5]) w3) := by
    rintro e w3 ⟨v', G1, T1, D1, osl1, rfl, r1, f1, nd1, ho, hk, hT', hD, hz⟩
    obtain ⟨k5, s5, n5, a5, l5, c5, rfl⟩ := own_shape r1
    have hgl := hkl gc (Or.inl rfl)
    have hml := hkl m (Or.inr (Or.inl rfl))
    have hol : ∀ z, osl.ownBlock = some z → z < p := fun z h => by have := hkl z (Or.inr (Or.inr (Or.inr h))); omega
    have hobl : ∀ k, k < W.heap.size → k ≠ gc → k ≠ m → osl.ownBlock ≠ some k → w3.heap[k]? = W.heap[k]? := fun k hk1 hk2 hk3 hk4 => ho.block k hk1 (by simp [hk2, hk3]; exact hk4)
    have hp3 := (hobl p (by omega) (by omega) (by omega) (fun e => by have := hol p e; omega)).trans q1
    have hr3 := (hobl (p + 1) (by omega) (by omega) (by omega) (fun e => by have := hol _ e; omega)).trans q3
    have ho3 : Out (gc :: m :: osl.ownBlock.toList) w w3 := (Out.of_below bW).trans ho
    have hs3 := ho.size
    have oB : Own 41 w3 B (.agg #[.int .i64 k2, .string s2, .int .i64 n2, .slice a2 l2 c2]) F2 := Own.keep _ _ _ o2 fun x hx => by
      have h9 := hF x (List.mem_append_right _ hx)
      have hl := hlt2 x hx
      exact (hobl x (by omega) h9.1 h9.2.1 h9.2.2.1).trans (bW.block x hl)
    have hF2 : ∀ x ∈ F2, x ≠ gc ∧ x ≠ m ∧ osl1.ownBlock ≠ some x ∧ x ∉ D1 := fun x hx => by
      have h9 := hF x (List.mem_append_right _ hx)
      have hxl := hlt2 x hx
      refine ⟨h9.1, h9.2.1, fun e => ?_, fun h => ?_⟩
      · rcases hz x e with h | h
        · exact h9.2.2.1 h
        · omega
      · rcases hD x h with h | h | h
        · exact h9.2.2.2 h
        · exact d3 x h x hx rfl
        · omega
    refine ⟨k5, s5, n5, a5, l5, c5, rfl, hp3, hr3, fun u hb => ?_⟩
    refine Calls.mono (copy_any B _ F2 u gc m T1 D1 osl1 (Own.keep _ _ _ oB fun x hx => hb.block x (Own.lt _ _ _ oB x hx)) d2 (by omega) (hk.keep hb) (by omega) hF2) ?_
    intro e w' h
    obtain ⟨v', G2, T2, D2, osl2, rfl, r2, f2, nd2, ho2, hk2, hT2, hD2, hz2⟩ := KPost.base hb h
    obtain ⟨k6, s6, n6, a6, l6, c6, rfl⟩ := own_shape r2
    have hob2 : ∀ k, k < w3.heap.size → k ≠ gc → k ≠ m → osl1.ownBlock ≠ some k → w'.heap[k]? = w3.heap[k]? := fun k hk1 hk2 hk3 hk4 => ho2.block k hk1 (by simp [hk2, hk3]; exact hk4)
    have hol1 : ∀ k, p ≤ k → k < p + 2 → osl1.ownBlock ≠ some k := fun k hk0 hk1 e => by
      rcases hz k e with h | h
      · have := hol k h; omega
      · omega
    have lG1 := Own.lt _ _ _ r1
    have hG1 : ∀ x ∈ G1, x ≠ gc ∧ x ≠ m ∧ osl1.ownBlock ≠ some x ∧ p + 2 ≤ x := fun x hx => by
      have := f1 x hx
      exact ⟨by omega, by omega, this.2, by omega⟩
    refine ⟨_, rfl, ⟨k5, s5, n5, a5, l5, c5, G1, k6, s6, n6, a6, l6, c6, G2, T2, D2, osl2, rfl, rfl, Own.keep _ _ _ r1 fun x hx => ?_, r2, fun x hx => ⟨(hG1 x hx).2.2.2, fun e => ?_⟩, fun x hx => ⟨?_, (f2 x hx).2⟩, nd1, nd2, fun x hx h => ?_, ?_, ?_, hk2, ?_, fun d hd => ?_, fun z hz9 => ?_⟩, ?_, ?_⟩
    · exact hob2 x (lG1 x hx) (hG1 x hx).1 (hG1 x hx).2.1 (hG1 x hx).2.2.1
    · rcases hz2 x e with h | h
      · exact (hG1 x hx).2.2.1 h
      · have := lG1 x hx; omega
    · have := (f2 x hx).1; omega
    · have := lG1 x hx
      have := (f2 x h).1
      omega
    · refine ⟨ho2.os.trans ho3.os, ho2.tape.trans ho3.tape, ho2.output.trans ho3.output, Nat.le_trans ho3.size ho2.size, fun k hk1 hk2 => ?_⟩
      simp only [List.mem_cons, not_or] at hk2
      have hk4 : osl1.ownBlock ≠ some k := fun e => by
        rcases hz k e with h | h
        · exact hk2.2.2 (by rw [h]; simp)
        · omega
      rw [hob2 k (by omega) hk2.1 hk2.2.1 hk4]
      exact ho3.block k hk1 (by simp only [List.mem_cons, not_or]; exact hk2)
    · have := ho2.size; omega
    · omega
    · rcases hD2 d hd with h | h | h
      · rcases hD d h with h | h | h
        · exact Or.inl h
        · exact Or.inr (Or.inl (List.mem_append_left _ h))
        · exact Or.inr (Or.inr (by omega))
      · exact Or.inr (Or.inl (List.mem_append_right _ h))
      · exact Or.inr (Or.inr (by omega))
    · rcases hz2 z hz9 with h | h
      · rcases hz z h with h | h
        · exact Or.inl h
        · exact Or.inr (by omega)
      · exact Or.inr (by omega)
    · exact (hob2 p (by omega) (by omega) (by omega) (hol1 p (by omega) (by omega))).trans hp3
    · exact (hob2 (p + 1) (by omega) (by omega) (by omega) (hol1 _ (by omega) (by omega))).trans hr3
  have HCL : Hid (∀ u, Calls Tryz.prog 44 #[.string f] u fun e w' => e = .returned (.string f) ∧ Below u.heap.size u w') := fun u => clone_any f u (by omega)
  have HQ : Hid (W.heap[p]? = some A ∧ W.heap[p + 1]? = some Z) := ⟨q1, q3⟩
  have HL : Hid (W.heap.size = p + 2) := lW
  have HPP : Hid (p = w.heap.size) := hp
  have HFS : Hid (f.size ≤ maxLen ∧ gc ≠ p + 1 ∧ m ≠ p + 1 ∧ (∀ z, osl.ownBlock = some z → z < p) ∧ (∀ d ∈ D0, d < p) ∧ (∀ d ∈ F1 ++ F2, d < p)) := ⟨hfs, by have := hkl gc (Or.inl rfl); omega, by have := hkl m (Or.inr (Or.inl rfl)); omega, fun z h => by have := hkl z (Or.inr (Or.inr (Or.inr h))); omega, fun d h => by have := hkl d (Or.inr (Or.inr (Or.inl h))); omega, fun d h => by
    rcases List.mem_append.1 h with h | h
    · have := hlt1 d h; omega
    · have := hlt2 d h; omega⟩
  have hAA : Hid (A = _) := hA
  have hZZ : Hid (Z = _) := hZ
  clear hnd hwt hst hT hF hfs o1 o2 hw0 hT0 d1 d2 d3 bW lW q1 q3 hlt1 hlt2 hstW hkl hgm hA hZ
  go_enter Tryz.func57, Tryz.ntmps57
  go_upto_region 1 with fail
  rw [← hW]
  clear hW
  rw [← hp]
  clear hp
  refine FI.wp_region_inv 11 (fun L v u =>
    (L 0 = true → v 0 = .pointer (some ⟨gc, 0, none⟩)) ∧ (L 1 = true → v 1 = .pointer (some ⟨p, 0, none⟩)) ∧ (L 2 = true → v 2 = .agg #[.int .i64 k1, .string s1, .int .i64 n1, .slice a1 l1 c1]) ∧ (L 4 = true → v 4 = .pointer (some ⟨gc, 0, none⟩)) ∧ (L 5 = true → v 5 = .pointer (some ⟨p, 4, none⟩)) ∧ (L 6 = true → v 6 = .agg #[.int .i64 k2, .string s2, .int .i64 n2, .slice a2 l2 c2]) ∧
    (L 8 = true → v 8 = .pointer (some ⟨p, 8, none⟩)) ∧ (L 9 = true → v 9 = .string f) ∧ (L 10 = true → v 10 = .string f) ∧
    u.heap[p]? = some A ∧ u.heap[p + 1]? = some Z ∧
    (L 3 = false → Below W.heap.size W u) ∧
    (L 3 = true → L 7 = false → ∃ w3, Below w3.heap.size w3 u ∧ CcOne T0 D0 osl gc m H B (F1 ++ F2) p (.agg #[.int .i64 k2, .string s2, .int .i64 n2, .slice a2 l2 c2]) A Z w (v 3) w3) ∧
    (L 7 = true → ∃ w4, Below w4.heap.size w4 u ∧ CcHas T0 D0 osl gc m H B (F1 ++ F2) p w (v 3) (v 7) w4)) (by kernel_rfl) (by kernel_rfl) 17 rfl (by kernel_rfl) ?_ ?_ ?_
  · intro vals
    have hd := (Below.refl W.heap.size W).drew
    exact ⟨fun h => Bool.noConfusion h, fun h => Bool.noConfusion h, fun h => Bool.noConfusion h, fun h => Bool.noConfusion h, fun h => Bool.noConfusion h, fun h => Bool.noConfusion h, fun h => Bool.noConfusion h, fun h => Bool.noConfusion h, fun h => Bool.noConfusion h, HQ.out.1, HQ.out.2, fun _ => hd, fun h => Bool.noConfusion h, fun h => Bool.noConfusion h⟩
  · intro i o hi ho L a u hI hcl hli hfr hdep
    obtain ⟨h0, h1, h2, h4, h5, h6, h8, h9, h10, hpu, hru, hA, hB, hC⟩ := hI
    have u0 : a.tmps.getD 0 undef = .pointer (some ⟨gc, 0, none⟩) := hfr 0 (by decide)
    have u3 : a.tmps.getD 3 undef = .pointer (some ⟨p, 0, none⟩) := hfr 3 (by decide)
    have c73 : L 7 = true → L 3 = true := fun h => hcl 7 _ rfl h 3 (by kernel_rfl)
    have hpu' := hpu
    rw [hAA.out] at hpu'
    obtain ⟨⟨x0, x1, x2, x3, x4, x5, x6, x7, x8⟩, _⟩ := blk9 hpu'
    clear hpu'
    match i, hi with
    | 0, _ =>
      obtain rfl : _ = o := by simpa using ho
      refine FI.fact_value (w' := u) (v := .pointer (some ⟨gc, 0, none⟩)) rfl ?_ ⟨fun _ => rfl, h1, h2, h4, h5, h6, h8, h9, h10, hpu, hru, hA, hB, hC⟩
      simp only [execOp, Act.eval, u0]
      go_simp
    | 1, _ =>
      obtain rfl : _ = o := by simpa using ho
      refine FI.fact_value (w' := u) (v := .pointer (some ⟨p, 0, none⟩)) rfl ?_ ⟨h0, fun _ => rfl, h2, h4, h5, h6, h8, h9, h10, hpu, hru, hA, hB, hC⟩
      simp only [execOp, Act.eval, u3]
      go_simp
    | 2, _ =>
      obtain rfl : _ = o := by simpa using ho
      have y1 : a.tmps.getD 6 undef = .pointer (some ⟨p, 0, none⟩) := h1 (hdep 1 (by kernel_rfl))
      refine FI.fact_value (w' := u) (v := .agg #[.int .i64 k1, .string s1, .int .i64 n1, .slice a1 l1 c1]) rfl ?_ ⟨h0, h1, fun _ => rfl, h4, h5, h6, h8, h9, h10, hpu, hru, hA, hB, hC⟩
      clear h0 h1 h2 h4 h5 h6 h8 h9 h10 hA hB hC hcl hdep hfr ho
      simp only [execOp, Act.eval, y1]
      go_simp
    | 3, _ =>
      obtain rfl : _ = o := by simpa using ho
      have y0 : a.tmps.getD 5 undef = .pointer (some ⟨gc, 0, none⟩) := h0 (hdep 0 (by kernel_rfl))
      have y2 : a.tmps.getD 7 undef = .agg #[.int .i64 k1, .string s1, .int .i64 n1, .slice a1 l1 c1] := h2 (hdep 2 (by kernel_rfl))
      have h7 : L 7 = false := by cases h : L 7 with | false => rfl | true => rw [c73 h] at hli; cases hli
      refine FI.fact_call rfl rfl Tryz.func63 (by kernel_rfl) (by kernel_rfl) (args := #[.pointer (some ⟨gc, 0, none⟩), .agg #[.int .i64 k1, .string s1, .int .i64 n1, .slice a1 l1 c1]]) (by simp [Act.eval]; exact ⟨by simpa using y0, by simpa using y2⟩) ?_
      refine Calls.mono (HC1.out u (hA hli)) ?_
      intro e w3 hkp
      obtain ⟨k5, s5, n5, a5, l5, c5, rfl, hp3, hr3, hnx⟩ := HAFT.out e w3 hkp
      exact ⟨_, rfl, h0, h1, h2, h4, h5, h6, h8, h9, h10, hp3, hr3, fun h => Bool.noConfusion (show true = false from h), fun _ _ => ⟨w3, Below.refl _ _, hnx⟩, fun h => Bool.noConfusion ((show L 7 = true from h).symm.trans h7)⟩
    | 4, _ =>
      obtain rfl : _ = o := by simpa using ho
      refine FI.fact_value (w' := u) (v := .pointer (some ⟨gc, 0, none⟩)) rfl ?_ ⟨h0, h1, h2, fun _ => rfl, h5, h6, h8, h9, h10, hpu, hru, hA, hB, hC⟩
      simp only [execOp, Act.eval, u0]
      go_simp
    | 5, _ =>
      obtain rfl : _ = o := by simpa using ho
      refine FI.fact_value (w' := u) (v := .pointer (some ⟨p, 4, none⟩)) rfl ?_ ⟨h0, h1, h2, h4, fun _ => rfl, h6, h8, h9, h10, hpu, hru, hA, hB, hC⟩
      simp only [execOp, Act.eval, u3]
      go_simp
    | 6, _ =>
      obtain rfl : _ = o := by simpa using ho
      have y5 : a.tmps.getD 10 undef = .pointer (some ⟨p, 4, none⟩) := h5 (hdep 5 (by kernel_rfl))
      refine FI.fact_value (w' := u) (v := .agg #[.int .i64 k2, .string s2, .int .i64 n2, .slice a2 l2 c2]) rfl ?_ ⟨h0, h1, h2, h4, h5, fun _ => rfl, h8, h9, h10, hpu, hru, hA, hB, hC⟩
      clear h0 h1 h2 h4 h5 h6 h8 h9 h10 hA hB hC hcl hdep hfr ho
      simp only [execOp, Act.eval, y5]
      go_simp
    | 7, _ =>
      obtain rfl : _ = o := by simpa using ho
      have y4 : a.tmps.getD 9 undef = .pointer (some ⟨gc, 0, none⟩) := h4 (hdep 4 (by kernel_rfl))
      have y6 : a.tmps.getD 11 undef = .agg #[.int .i64 k2, .string s2, .int .i64 n2, .slice a2 l2 c2] := h6 (hdep 6 (by kernel_rfl))
      obtain ⟨w3, hb3, hnx⟩ := hB (hdep 3 (by kernel_rfl)) hli
      refine FI.fact_call rfl rfl Tryz.func63 (by kernel_rfl) (by kernel_rfl) (args := #[.pointer (some ⟨gc, 0, none⟩), .agg #[.int .i64 k2, .string s2, .int .i64 n2, .slice a2 l2 c2]]) (by simp [Act.eval]; exact ⟨by simpa using y4, by simpa using y6⟩) ?_
      refine Calls.mono (hnx u hb3) ?_
      rintro e w4 ⟨v7, rfl, hhas, hp4, hr4⟩
      exact ⟨_, rfl, h0, h1, h2, h4, h5, h6, h8, h9, h10, hp4, hr4, fun h => Bool.noConfusion ((show L 3 = false from h).symm.trans (hdep 3 (by kernel_rfl))), fun _ h => Bool.noConfusion (show true = false from h), fun _ => ⟨w4, Below.refl _ _, hhas⟩⟩
    | 8, _ =>
      obtain rfl : _ = o := by simpa using ho
      refine FI.fact_value (w' := u) (v := .pointer (some ⟨p, 8, none⟩)) rfl ?_ ⟨h0, h1, h2, h4, h5, h6, fun _ => rfl, h9, h10, hpu, hru, hA, hB, hC⟩
      simp only [execOp, Act.eval, u3]
      go_simp
    | 9, _ =>
      obtain rfl : _ = o := by simpa using ho
      have y8 : a.tmps.getD 13 undef = .pointer (some ⟨p, 8, none⟩) := h8 (hdep 8 (by kernel_rfl))
      refine FI.fact_value (w' := u) (v := .string f) rfl ?_ ⟨h0, h1, h2, h4, h5, h6, h8, fun _ => rfl, h10, hpu, hru, hA, hB, hC⟩
      clear h0 h1 h2 h4 h5 h6 h8 h9 h10 hA hB hC hcl hdep hfr ho
      simp only [execOp, Act.eval, y8]
      go_simp
    | 10, _ =>
      obtain rfl : _ = o := by simpa using ho
      have y9 : a.tmps.getD 14 undef = .string f := h9 (hdep 9 (by kernel_rfl))
      refine FI.fact_call rfl rfl Tryz.func44 (by kernel_rfl) (by kernel_rfl) (args := #[.string f]) (by simp [Act.eval]; simpa using y9) ?_
      refine Calls.mono (HCL.out u) ?_
      rintro e w6 ⟨rfl, hb⟩
      exact ⟨_, rfl, h0, h1, h2, h4, h5, h6, h8, h9, fun _ => rfl, (hb.block _ (Array.getElem?_eq_some_iff.1 hpu).1).trans hpu, (hb.block _ (Array.getElem?_eq_some_iff.1 hru).1).trans hru, fun h => (hA h).trans (hb.mono (hA h).size),
        fun h h' => by obtain ⟨w3, hb3, hnx⟩ := hB h h'; exact ⟨w3, hb3.trans (hb.mono hb3.size), hnx⟩,
        fun h => by obtain ⟨w4, hb4, hhas⟩ := hC h; exact ⟨w4, hb4.trans (hb.mono hb4.size), hhas⟩⟩
  intro L vals w6 hall hI
  obtain ⟨_, _, _, _, _, _, _, _, h10, _, hru, _, _, hC⟩ := hI
  obtain ⟨w4, hb4, k5, s5, n5, a5, l5, c5, G1, k6, s6, n6, a6, l6, c6, G2, T2, D2, osl2, e3, e7, r1, r2, f1, f2, nd1, nd2, dj, ho, hs4, hk, hT2, hD2, hz2⟩ := hC (hall 7 (by omega))
  have e10 := h10 (hall 10 (by omega))
  simp only [FZ.putN, List.getElem?_toArray, List.getElem?_cons_zero, List.getElem?_cons_succ, Option.bind_some, List.drop_succ_cons, List.drop_zero, e3, e7, e10]
  generalize vals 0 = m0
  generalize vals 1 = m1
  generalize vals 2 = m2
  generalize vals 4 = m4
  generalize vals 5 = m5
  generalize vals 6 = m6
  generalize vals 8 = m8
  generalize vals 9 = m9
  simp only [Act.put, List.setIfInBounds_toArray, List.set_cons_succ, List.set_cons_zero]
  rw [hZZ.out] at hru
  have HRU : Hid (w6.heap[p + 1]? = some (.cells #[.int .i64 0, .string ⟨#[]⟩, .int .i64 0, .slice none 0 0, .int .i64 0, .string ⟨#[]⟩, .int .i64 0, .slice none 0 0, .string ⟨#[]⟩] 43 (0, 0))) := hru
  have HALL : Hid (Own 41 w4 H (.agg #[.int .i64 k5, .string s5, .int .i64 n5, .slice a5 l5 c5]) G1 ∧ Own 41 w4 B (.agg #[.int .i64 k6, .string s6, .int .i64 n6, .slice a6 l6 c6]) G2 ∧
    (∀ x ∈ G1, p + 2 ≤ x ∧ osl2.ownBlock ≠ some x) ∧ (∀ x ∈ G2, p + 2 ≤ x ∧ osl2.ownBlock ≠ some x) ∧ G1.Nodup ∧ G2.Nodup ∧ (∀ x ∈ G1, x ∉ G2) ∧
    Out (gc :: m :: osl.ownBlock.toList) w w4 ∧ p + 2 ≤ w4.heap.size ∧ KSt w4 gc m T2 D2 osl2 ∧ T2 ≤ T0 + (H.wt + B.wt + 2) ∧ (∀ d ∈ D2, d ∈ D0 ∨ d ∈ F1 ++ F2 ∨ p + 2 ≤ d) ∧ (∀ z, osl2.ownBlock = some z → osl.ownBlock = some z ∨ p + 2 ≤ z) ∧ Below w4.heap.size w4 w6) := ⟨r1, r2, f1, f2, nd1, nd2, dj, ho, hs4, hk, hT2, hD2, hz2, hb4⟩
  obtain ⟨⟨z0, z1, z2, z3, z4, z5, z6, z7, z8⟩, g0, g1, g2, g3, g4, g5, g6, g7, g8⟩ := blk9 hru
  clear hC hru h10 e3 e7 r1 r2 f1 f2 nd1 nd2 dj ho hs4 hk hT2 hD2 hz2 hb4 e10 hall HAFT HC1 HCL HQ
  go_wp2
  refine bodyPost_ret_by (results_cell_row rfl _ _ (p + 1) 43 _ (0, 0) _ rfl (blk9_set HRU.out) Tryz.underlying43 rfl (by kernel_rfl)) rfl ?_
  obtain ⟨r1, r2, f1, f2, nd1, nd2, dj, ho, hs4, hk, hT2, hD2, hz2, hb4⟩ := HALL.out
  obtain ⟨hfs, hg1, hm1, hoo, hd0, hff⟩ := HFS.out
  have hpp := HPP.out
  have hke : ∀ e0 e1 e2 e3 e4 e5 e6 e7 e8 x, x < w4.heap.size → x ≠ p + 1 → (set9 w6 (p + 1) e0 e1 e2 e3 e4 e5 e6 e7 e8).heap[x]? = w4.heap[x]? := fun e0 e1 e2 e3 e4 e5 e6 e7 e8 x h h' => (blk9_other h').trans (hb4.block x h)
  have lG1 := Own.lt _ _ _ r1
  have lG2 := Own.lt _ _ _ r2
  have HEND : ∀ e0 e1 e2 e3 e4 e5 e6 e7 e8, Out (gc :: m :: osl.ownBlock.toList) w (set9 w6 (p + 1) e0 e1 e2 e3 e4 e5 e6 e7 e8) := fun e0 e1 e2 e3 e4 e5 e6 e7 e8 => by
    have hs6 := hb4.size
    have hB9 : Below (p + 1) w6 (set9 w6 (p + 1) e0 e1 e2 e3 e4 e5 e6 e7 e8) := blk9_below (Below.refl _ _) (Nat.le_refl _)
    have hso := ho.size
    refine ⟨hB9.os.trans (hb4.os.trans ho.os), hB9.tape.trans (hb4.tape.trans ho.tape), hB9.output.trans (hb4.output.trans ho.output), Nat.le_trans hso (Nat.le_trans hs6 hB9.size), fun k hk1 hk2 => ?_⟩
    rw [hke _ _ _ _ _ _ _ _ _ k (by omega) (by omega)]
    exact ho.block k hk1 hk2
  have HOW : ∀ e0 e1 e2 e3 e4 e5 e6 e7 e8, Own 41 (set9 w6 (p + 1) e0 e1 e2 e3 e4 e5 e6 e7 e8) H (.agg #[.int .i64 k5, .string s5, .int .i64 n5, .slice a5 l5 c5]) G1 ∧ Own 41 (set9 w6 (p + 1) e0 e1 e2 e3 e4 e5 e6 e7 e8) B (.agg #[.int .i64 k6, .string s6, .int .i64 n6, .slice a6 l6 c6]) G2 ∧ KSt (set9 w6 (p + 1) e0 e1 e2 e3 e4 e5 e6 e7 e8) gc m T2 D2 osl2 := fun e0 e1 e2 e3 e4 e5 e6 e7 e8 => by
    refine ⟨Own.keep _ _ _ r1 fun x hx => hke _ _ _ _ _ _ _ _ _ x (lG1 x hx) (by have := (f1 x hx).1; omega), Own.keep _ _ _ r2 fun x hx => hke _ _ _ _ _ _ _ _ _ x (lG2 x hx) (by have := (f2 x hx).1; omega), hk.turn fun k hk9 => hke _ _ _ _ _ _ _ _ _ k (hk.lt k hk9) ?_⟩
    rcases hk9 with rfl | rfl | h | h
    · omega
    · omega
    · rcases hD2 k h with h | h | h
      · have := hd0 k h; omega
      · have := hff k h; omega
      · omega
    · rcases hz2 k h with h | h
      · have := hoo k h; omega
      · omega
  refine ⟨[.int .i64 k5, .string s5, .int .i64 n5, .slice a5 l5 c5, .int .i64 k6, .string s6, .int .i64 n6, .slice a6 l6 c6, .string f], G1 ++ G2, T2, D2, osl2, rfl, ⟨k5, s5, n5, a5, l5, c5, k6, s6, n6, a6, l6, c6, G1, G2, rfl, rfl, hfs, (HOW _ _ _ _ _ _ _ _ _).1, (HOW _ _ _ _ _ _ _ _ _).2.1⟩, fun x hx => ?_, List.nodup_append.2 ⟨nd1, nd2, fun x hx y hy e => dj x hx (e ▸ hy)⟩, HEND _ _ _ _ _ _ _ _ _, (HOW _ _ _ _ _ _ _ _ _).2.2, hT2, fun d hd => ?_, fun z hz => ?_⟩
  · rcases List.mem_append.1 hx with hx | hx
    · exact ⟨by have := (f1 x hx).1; omega, (f1 x hx).2⟩
    · exact ⟨by have := (f2 x hx).1; omega, (f2 x hx).2⟩
  · rcases hD2 d hd with h | h | h
    · exact Or.inl h
    · exact Or.inr (Or.inl h)
    · exact Or.inr (Or.inr (by omega))
  · rcases hz2 z hz with h | h
    · exact Or.inl h
    · exact Or.inr (by omega)
end Go.Proofs.YtmhmlkdoaojimapGreatDoor

/- impl.copiedClauses by a new copier. -/
namespace Go.Proofs.YtmhmlkdoaojimapGreatDoor
open Go.RowKit

/-- the clauses of a row, each in blocks of its own -/
theorem OwnCs.parts {e : TypeId} {w : World} : ∀ {ks : List Cla} {cs : List Value} {F : List Nat}, OwnCs e w ks cs F → F.Nodup → ∃ G : Nat → List Nat,
    (∀ j (hj : j < ks.length), OwnC e w ks[j] ((cs.drop (j * 9)).take 9) (G j)) ∧ (∀ j, j < ks.length → (∀ f ∈ G j, f ∈ F) ∧ (G j).Nodup) ∧ (∀ i j, i < j → j < ks.length → ∀ f ∈ G i, f ∉ G j)
  | [], _, _, _, _ => ⟨fun _ => [], fun j hj => by simp at hj, fun j hj => by simp at hj, fun i j _ hj => by simp at hj⟩
  | c :: ks, cs, F, h, hnd => by
    obtain ⟨c1, c2, F1, F2, rfl, rfl, h1, h2⟩ := h
    obtain ⟨n1, n2, n3⟩ := List.nodup_append.1 hnd
    obtain ⟨G, g1, g2, g3⟩ := OwnCs.parts h2 n2
    have hl := h1.len
    refine ⟨fun j => match j with | 0 => F1 | j + 1 => G j, fun j hj => ?_, fun j hj => ?_, fun i j hij hj f hf => ?_⟩
    · match j, hj with
      | 0, _ =>
        rw [Nat.zero_mul, List.drop_zero, List.take_append_of_le_length (by omega), List.take_of_length_le (by omega)]
        exact h1
      | j + 1, hj =>
        rw [List.drop_append, List.drop_eq_nil_of_le (by omega), List.nil_append, show (j + 1) * 9 - c1.length = j * 9 by omega]
        exact g1 j (by simpa using hj)
    · match j, hj with
      | 0, _ => exact ⟨fun f hf => List.mem_append_left _ hf, n1⟩
      | j + 1, hj => exact ⟨fun f hf => List.mem_append_right _ ((g2 j (by simpa using hj)).1 f hf), (g2 j (by simpa using hj)).2⟩
    · match i, j, hij, hj with
      | 0, j + 1, _, hj => exact fun h => n3 f hf f ((g2 j (by simpa using hj)).1 f h) rfl
      | i + 1, j + 1, hij, hj => exact g3 i j (by omega) (by simpa using hj) f hf

theorem claWts_take_succ {ks : List Cla} {j : Nat} (h : j < ks.length) : claWts (ks.take (j + 1)) = claWts (ks.take j) + ks[j].wt := by
  rw [List.take_succ_eq_append_getElem h, claWts_append]
  simp [claWts]
theorem claWts_take_le (ks : List Cla) (j : Nat) : claWts (ks.take j) ≤ claWts ks := by
  have := claWts_append (ks.take j) (ks.drop j)
  rw [List.take_append_drop] at this
  omega

/-- what turns nothing below B, behind what turned two blocks alone -/
theorem below_out {F : List Nat} {w w1 w2 : World} (hb : Below w.heap.size w1 w2) (h : Out F w w1) : Out F w w2 :=
  ⟨hb.os.trans h.os, hb.tape.trans h.tape, hb.output.trans h.output, Nat.le_trans h.size hb.size, fun k hk hk2 => (hb.block k hk).trans (h.block k hk hk2)⟩

/-- the copier within the loop -/
def CcSt (gc m : Nat) (ks : List Cla) (G : Nat → List Nat) (B : Nat) (j : Nat) (wr : World) : Prop :=
  ∃ T D osl, KSt wr gc m T D osl ∧ T ≤ claWts (ks.take j) + 2 * j ∧ (∀ d ∈ D, (∃ i, i < j ∧ d ∈ G i) ∨ B < d) ∧ (∀ z, osl.ownBlock = some z → B < z)

set_option maxHeartbeats 8000000 in
set_option maxRecDepth 20000 in
theorem copied_clauses (ks : List Cla) (w : World) (sl : Value) (F : List Nat) (gc m : Nat) (hlen : ks.length + claWts ks ≤ 1048576) (h : OwnClS 43 41 w ks sl F) (hnd : F.Nodup) (hst : KSt w gc m 0 [] (.slice none 0 0)) (hF : ∀ f ∈ F, f ≠ gc ∧ f ≠ m) :
    Calls Tryz.prog 45 #[.pointer (some ⟨gc, 0, none⟩), sl] w fun e w' => ∃ sl F, e = .returned sl ∧ OwnClS 43 41 w' ks sl F ∧ (∀ f ∈ F, w.heap.size ≤ f) ∧ F.Nodup ∧ Out [gc, m] w w' := by
  obtain ⟨M, hM, hmk⟩ := make_clauses ks.length (by omega)
  have hlt := h.lt
  have hkl := hst.lt
  have hgl := hkl gc (Or.inl rfl)
  have hml := hkl m (Or.inr (Or.inl rfl))
  obtain ⟨g, cap, G, hsl, HSRC⟩ : ∃ (g cap : Nat) (G : Nat → List Nat), (ks ≠ [] → sl = .slice (some ⟨g, 0, none⟩) ks.length cap) ∧ (∀ j (hj : j < ks.length), ∃ cur cc, w.heap[g]? = some (.cells cur 43 (0, 0)) ∧ g < w.heap.size ∧ g ≠ gc ∧ g ≠ m ∧ (∀ i, i < 9 → cur[j * 9 + i]? = cc[i]?) ∧ OwnC 41 w ks[j] cc (G j) ∧ (G j).Nodup ∧ (∀ f ∈ G j, f ≠ gc ∧ f ≠ m ∧ f < w.heap.size) ∧ (∀ i, i < j → ∀ f ∈ G i, f ∉ G j)) := by
    rcases h with ⟨rfl, rfl, rfl⟩ | ⟨g, cap, cs, F', rfl, h5, rfl, h6⟩
    · exact ⟨0, 0, fun _ => [], fun h => absurd rfl h, fun j hj => by simp at hj⟩
    · obtain ⟨G, g1, g2, g3⟩ := OwnCs.parts h6 (List.nodup_cons.1 hnd).2
      refine ⟨g, cap, G, fun _ => rfl, fun j hj => ?_⟩
      obtain ⟨hl, h5⟩ := h5
      rcases h5 with ⟨h5, _⟩ | ⟨g', cap', cur, e', _, hblk, hc1, hc2, hc3, hc4⟩
      · cases h5
      · simp only [Value.slice.injEq, Option.some.injEq, Addr.mk.injEq, and_true, true_and] at e'
        obtain ⟨rfl, rfl⟩ := e'
        have hg9 := hF g (by simp)
        refine ⟨cur, _, hblk, (Array.getElem?_eq_some_iff.1 hblk).1, hg9.1, hg9.2, fun i hi => ?_, g1 j hj, (g2 j hj).2, fun f hf => ?_, fun i hi => g3 i j hi hj⟩
        · have hl6 := OwnCs.len _ _ _ h6
          rw [List.getElem?_take, if_pos hi, List.getElem?_drop, ← hc4, List.getElem?_take, if_pos (by omega)]
          simp
        · have h9 := List.mem_cons_of_mem g ((g2 j hj).1 f hf)
          exact ⟨(hF f h9).1, (hF f h9).2, hlt f h9⟩
  obtain ⟨ao, cp, rfl⟩ := ownClS_shape h
  have HS0 : Hid (CcSt gc m ks G w.heap.size 0 w) := ⟨0, [], _, hst, by omega, fun d hd => (by cases hd), fun z hz => (by cases hz)⟩
  have HSR : Hid _ := HSRC
  have HGM : Hid (gc < w.heap.size ∧ m < w.heap.size) := ⟨hgl, hml⟩
  clear h hnd hst hF hlt hkl hgl hml HSRC
  go_enter Tryz.func45, Tryz.ntmps45
  go_wp2
  clear hmk
  go_loopw [13] (fun vi wr => ∃ (j : Nat) (cur : Array Value) (F : List Nat), j ≤ ks.length ∧ vi = .int .i64 (j : Int) ∧ Hid (Out [gc, m] w wr) ∧ wr.heap[w.heap.size]? = some (.cells cur 43 (0, 0)) ∧ cur.size = ks.length * 9 ∧
      Hid (OwnCs 41 wr (ks.take j) (cur.toList.take (j * 9)) F ∧ (∀ f ∈ F, w.heap.size < f) ∧ F.Nodup ∧ ∃ T D osl, KSt wr gc m T D osl ∧ T ≤ claWts (ks.take j) + 2 * j ∧ (∀ d ∈ D, (∃ i, i < j ∧ d ∈ G i) ∨ w.heap.size < d) ∧ (∀ z, osl.ownBlock = some z → w.heap.size < z ∧ z ∉ F))) (fun i _ => ks.length - (intOf i).toNat)
  case atStart =>
    obtain ⟨T, D, osl, q1, q2, q3, q4⟩ := HS0.out
    refine ⟨0, M, [], by omega, rfl, Out.of_below ((Below.refl _ _).alloc (Nat.le_refl _) _), by rw [heap_alloc_new], hM, ?_⟩
    exact ⟨by simp [OwnCs], by simp, by simp, T, D, osl, q1.keep ((Below.refl _ _).alloc (Nat.le_refl _) _), q2, q3, fun z hz => ⟨q4 z hz, by simp⟩⟩
  case round =>
    obtain ⟨j, cur, F, hj, rfl, HB, hblk, hcs, HO⟩ := hrel
    by_cases hlt : j < ks.length
    · obtain ⟨scur, cc, s1, s2, s3, s4, s5, s6, s7, s8, s9⟩ := HSR.out j hlt
      have hsl' := hsl (by intro e; subst e; simp at hlt)
      obtain ⟨rfl, rfl⟩ : ao = some ⟨g, 0, none⟩ ∧ cp = cap := by simpa using hsl'
      obtain ⟨k1, t1, n1, a1, l1, m1, k2, t2, n2, a2, l2, m2, F1, F2, rfl, hFF, hf, o1, o2⟩ := s6
      have hgb := (HB.out.block g s2 (by simp [s3, s4])).trans s1
      have x0 := cell_of_row (i := j * 9) hgb ((s5 0 (by omega)).trans rfl)
      have x1 := cell_of_row (i := j * 9 + 1) hgb ((s5 1 (by omega)).trans rfl)
      have x2 := cell_of_row (i := j * 9 + 2) hgb ((s5 2 (by omega)).trans rfl)
      have x3 := cell_of_row (i := j * 9 + 3) hgb ((s5 3 (by omega)).trans rfl)
      have x4 := cell_of_row (i := j * 9 + 4) hgb ((s5 4 (by omega)).trans rfl)
      have x5 := cell_of_row (i := j * 9 + 5) hgb ((s5 5 (by omega)).trans rfl)
      have x6 := cell_of_row (i := j * 9 + 6) hgb ((s5 6 (by omega)).trans rfl)
      have x7 := cell_of_row (i := j * 9 + 7) hgb ((s5 7 (by omega)).trans rfl)
      have x8 := cell_of_row (i := j * 9 + 8) hgb ((s5 8 (by omega)).trans rfl)
      have HBLK : Hid (wr.heap[w.heap.size]? = _ ∧ w.heap.size < wr.heap.size) := ⟨hblk, (Array.getElem?_eq_some_iff.1 hblk).1⟩
      obtain ⟨r1, r2, r3, T, D, osl, hk, hT, hD, hz⟩ := HO.out
      have hgm := HGM.out
      have hwj := claWts_take_succ hlt
      have hwl := claWts_take_le ks (j + 1)
      have hlt1 := OwnCs.lt _ _ _ r1
      obtain ⟨U, hU⟩ : ∃ U, U = wr.alloc (.cells #[.int .i64 k1, .string t1, .int .i64 n1, .slice a1 l1 m1, .int .i64 k2, .string t2, .int .i64 n2, .slice a2 l2 m2, .string ks[j].f] 43) := ⟨_, rfl⟩
      have bU : Below wr.heap.size wr U := by rw [hU]; exact (Below.refl _ _).alloc (Nat.le_refl _) _
      have hsU : U.heap.size = wr.heap.size + 1 := by rw [hU]; simp
      have hso := HB.out.size
      have hg0 := HBLK.out.2
      have oc : OwnC 41 U ks[j] [.int .i64 k1, .string t1, .int .i64 n1, .slice a1 l1 m1, .int .i64 k2, .string t2, .int .i64 n2, .slice a2 l2 m2, .string ks[j].f] (G j) :=
        OwnC.keep ⟨k1, t1, n1, a1, l1, m1, k2, t2, n2, a2, l2, m2, F1, F2, rfl, hFF, hf, o1, o2⟩ fun f hf9 => by
          have h9 := s8 f hf9
          exact (bU.block f (by omega)).trans (HB.out.block f h9.2.2 (by simp [h9.1, h9.2.1]))
      have HC0 := copied_any ks[j] _ (G j) U gc m T D osl oc s7 (by omega) (hk.keep bU) (by omega) (fun f hf9 => by
        have h9 := s8 f hf9
        refine ⟨h9.1, h9.2.1, fun e => by have := hz f e; omega, fun h => ?_⟩
        rcases hD f h with ⟨i, hi, h⟩ | h
        · exact s9 i hi f h hf9
        · omega)
      have HPOST : Hid (∀ e w1, CcPost T D osl gc m ks[j] (G j) U e w1 → ∃ k s n ao l c k' s' n' ao' l' c' F', e = .returned (.agg #[.int .i64 k, .string s, .int .i64 n, .slice ao l c, .int .i64 k', .string s', .int .i64 n', .slice ao' l' c', .string ks[j].f]) ∧ w1.heap[w.heap.size]? = some (.cells cur 43 (0, 0)) ∧
          OwnC 41 w1 ks[j] [.int .i64 k, .string s, .int .i64 n, .slice ao l c, .int .i64 k', .string s', .int .i64 n', .slice ao' l' c', .string ks[j].f] F' ∧ OwnCs 41 w1 (ks.take j) (cur.toList.take (j * 9)) F ∧ (∀ f ∈ F ++ F', w.heap.size < f) ∧ (F ++ F').Nodup ∧ Out [gc, m] w w1 ∧
          ∃ T D osl, KSt w1 gc m T D osl ∧ T ≤ claWts (ks.take (j + 1)) + 2 * (j + 1) ∧ (∀ d ∈ D, (∃ i, i < j + 1 ∧ d ∈ G i) ∨ w.heap.size < d) ∧ (∀ z, osl.ownBlock = some z → w.heap.size < z ∧ z ∉ F ++ F')) := by
        rintro e w1 ⟨cs', F', T1, D1, osl1, rfl, oc1, f1, nd1, ho, hk1, hT1, hD1, hz1⟩
        have hkp : ∀ k, k < wr.heap.size → k ≠ gc → k ≠ m → osl.ownBlock ≠ some k → w1.heap[k]? = wr.heap[k]? := fun k hk1 hk2 hk3 hk4 =>
          (ho.block k (by omega) (by simp [hk2, hk3]; exact hk4)).trans (bU.block k hk1)
        have hso1 := ho.size
        have ow1 : OwnCs 41 w1 (ks.take j) (cur.toList.take (j * 9)) F := OwnCs.keep _ _ _ r1 fun f hf9 => hkp f (hlt1 f hf9) (by have := r2 f hf9; omega) (by have := r2 f hf9; omega) (fun e => (hz f e).2 hf9)
        obtain ⟨k, s, n, ao, l, c, k', s', n', ao', l', c', G1, G2, rfl, hGG, hf', p1, p2⟩ := oc1
        refine ⟨k, s, n, ao, l, c, k', s', n', ao', l', c', F', rfl, (hkp _ hg0 (by omega) (by omega) (fun e => by have := (hz _ e).1; omega)).trans HBLK.out.1, ⟨k, s, n, ao, l, c, k', s', n', ao', l', c', G1, G2, rfl, hGG, hf', p1, p2⟩, ow1, fun f hf9 => ?_, List.nodup_append.2 ⟨r3, nd1, fun x hx y hy e => ?_⟩, ⟨ho.os.trans (bU.os.trans HB.out.os), ho.tape.trans (bU.tape.trans HB.out.tape), ho.output.trans (bU.output.trans HB.out.output), by omega, fun k hk1 hk2 => ?_⟩, T1, D1, osl1, hk1, ?_, fun d hd => ?_, fun z hz9 => ⟨?_, fun h => ?_⟩⟩
        · rcases List.mem_append.1 hf9 with h | h
          · exact r2 f h
          · have := (f1 f h).1; omega
        · have := hlt1 x hx
          have := (f1 y hy).1
          omega
        · simp only [List.mem_cons, not_or] at hk2
          exact (hkp k (by omega) hk2.1 hk2.2.1 (fun e => by have := (hz _ e).1; omega)).trans (HB.out.block k hk1 (by simp [hk2.1, hk2.2.1]))
        · have : ks[j].wt = ks[j].h.wt + ks[j].b.wt + ks[j].f.size := rfl
          omega
        · rcases hD1 d hd with h | h | h
          · rcases hD d h with ⟨i, hi, h⟩ | h
            · exact Or.inl ⟨i, by omega, h⟩
            · exact Or.inr h
          · exact Or.inl ⟨j, by omega, h⟩
          · exact Or.inr (by omega)
        · rcases hz1 z hz9 with h | h
          · exact (hz z h).1
          · omega
        · rcases List.mem_append.1 h with h | h
          · rcases hz1 z hz9 with h' | h'
            · exact (hz z h').2 h
            · have := hlt1 z h; omega
          · exact (f1 z h).2 hz9
      have HTK : Hid (ks.take (j + 1) = ks.take j ++ [ks[j]]) := List.take_succ_eq_append_getElem hlt
      have HS8 : Hid (∀ i, i < j + 1 → ∀ f ∈ G i, f < w.heap.size) := fun i hi f hf9 => by
        obtain ⟨_, _, _, _, _, _, _, _, _, q8, _⟩ := HSR.out i (by omega)
        exact (q8 f hf9).2.2
      have HU : Hid (U = _) := hU
      rw [hU] at HC0
      have HC : Hid _ := HC0
      clear s1 s5 hgb hblk hf o1 o2 hFF s8 s9 HC0 r1 r2 r3 hk hT hD hz hwj hwl hlt1 bU hsU oc s7 HSR HS0 HO hU
      generalize ks[j] = kj at *
      go_wp2_with (go_at_call 57; refine (Calls.mono HC.out ?_); intro e w1 hcc; obtain ⟨k, s, n, ao, l, c, k', s', n', ao', l', c', F', rfl, hg1, hrest⟩ := HPOST.out e w1 (by rw [HU.out]; exact hcc); have HREST : Hid _ := hrest; clear hrest hcc; have y0 := blk_cell (i := j * 9) hg1 (by omega); have y1 := blk_cell (i := j * 9 + 1) hg1 (by omega); have y2 := blk_cell (i := j * 9 + 2) hg1 (by omega); have y3 := blk_cell (i := j * 9 + 3) hg1 (by omega); have y4 := blk_cell (i := j * 9 + 4) hg1 (by omega); have y5 := blk_cell (i := j * 9 + 5) hg1 (by omega); have y6 := blk_cell (i := j * 9 + 6) hg1 (by omega); have y7 := blk_cell (i := j * 9 + 7) hg1 (by omega); have y8 := blk_cell (i := j * 9 + 8) hg1 (by omega); have z0 := blk_frozen hg1 (j * 9); have z1 := blk_frozen hg1 (j * 9 + 1); have z2 := blk_frozen hg1 (j * 9 + 2); have z3 := blk_frozen hg1 (j * 9 + 3); have z4 := blk_frozen hg1 (j * 9 + 4); have z5 := blk_frozen hg1 (j * 9 + 5); have z6 := blk_frozen hg1 (j * 9 + 6); have z7 := blk_frozen hg1 (j * 9 + 7); have z8 := blk_frozen hg1 (j * 9 + 8); have HG : Hid _ := hg1; clear hg1)
      go_roundw
      case rel =>
        have hg1 := HG.out
        obtain ⟨oc, ow, hlo, hnd, ho, T, D, osl, hk, hT, hD, hz⟩ := HREST.out
        have hgm := HGM.out
        have hne : ∀ f, w.heap.size < f → f ≠ w.heap.size := fun f hf => by omega
        refine ⟨j + 1, _, F ++ F', by omega, by go_num, ?_, blk_set (blk_set (blk_set (blk_set (blk_set (blk_set (blk_set (blk_set (blk_set hg1 _) _) _) _) _) _) _) _) _, by simp; exact hcs, ?_, hlo, hnd, T, D, osl, hk.turn fun k hk9 => ?_, hT, hD, hz⟩
        · exact below_out (below_set (below_set (below_set (below_set (below_set (below_set (below_set (below_set (below_set (Below.refl w.heap.size _) (Nat.le_refl _) _) (Nat.le_refl _) _) (Nat.le_refl _) _) (Nat.le_refl _) _) (Nat.le_refl _) _) (Nat.le_refl _) _) (Nat.le_refl _) _) (Nat.le_refl _) _) (Nat.le_refl _) _) ho
        · rw [HTK.out, set9_take (by omega)]
          refine OwnCs.snoc (oc.keep fun f hf => ?_) _ _ _ (OwnCs.keep _ _ _ ow fun f hf => ?_)
          · have h1 := hlo f (List.mem_append_right _ hf)
            rw [blk_other _ (hne f (by omega)), blk_other _ (hne f (by omega)), blk_other _ (hne f (by omega)), blk_other _ (hne f (by omega)), blk_other _ (hne f (by omega)), blk_other _ (hne f (by omega)), blk_other _ (hne f (by omega)), blk_other _ (hne f (by omega)), blk_other _ (hne f (by omega))]
          · have h1 := hlo f (List.mem_append_left _ hf)
            rw [blk_other _ (hne f h1), blk_other _ (hne f h1), blk_other _ (hne f h1), blk_other _ (hne f h1), blk_other _ (hne f h1), blk_other _ (hne f h1), blk_other _ (hne f h1), blk_other _ (hne f h1), blk_other _ (hne f h1)]
        · have hkn : k ≠ w.heap.size := by
            rcases hk9 with rfl | rfl | h | h
            · omega
            · omega
            · rcases hD k h with ⟨i, hi, h⟩ | h
              · have := HS8.out i hi k h; omega
              · omega
            · have := (hz k h).1; omega
          rw [blk_other _ hkn, blk_other _ hkn, blk_other _ hkn, blk_other _ hkn, blk_other _ hkn, blk_other _ hkn, blk_other _ hkn, blk_other _ hkn, blk_other _ hkn]
      case measure => simp [intOf]; omega
    · obtain rfl : j = ks.length := by omega
      go_wp2
      go_ret
      obtain ⟨o1, o2, o3, -⟩ := HO.out
      rw [List.take_of_length_le (Nat.le_refl _)] at o1
      refine ⟨_, w.heap.size :: F, rfl, Or.inr ⟨w.heap.size, ks.length, cur.toList.take (ks.length * 9), F, rfl, ⟨by simp [hcs], Or.inr ⟨w.heap.size, ks.length, cur, rfl, Nat.zero_le _, hblk, Nat.le_refl _, by unfold maxLen; omega, hcs, rfl⟩⟩, rfl, o1⟩, ?_, ?_, HB.out⟩
      · intro f hf
        rcases List.mem_cons.1 hf with rfl | hf
        · exact Nat.le_refl _
        · have := o2 f hf; omega
      · refine List.nodup_cons.2 ⟨fun hf => ?_, o3⟩
        have := o2 _ hf
        omega
end Go.Proofs.YtmhmlkdoaojimapGreatDoor

/- impl.newCopier. -/
namespace Go.Proofs.YtmhmlkdoaojimapGreatDoor
open Go.RowKit

theorem new_copier (w : World) : Calls Tryz.prog 46 #[] w fun e w' => e = .returned (.pointer (some ⟨w.heap.size + 1, 0, none⟩)) ∧ w'.heap[w.heap.size + 1]? = some (.cells #[.map (some w.heap.size), .int .i64 0, .slice none 0 0] 89 (0, 0)) ∧ w'.heap[w.heap.size]? = some (.map #[] 0) ∧ w'.heap.size = w.heap.size + 2 ∧ Below w.heap.size w w' := by
  have hmm := @run_makeMap Tryz.prog
  have HE : Hid (∀ w', w' = (w.alloc (.map #[] 0)).alloc (.cells #[.map (some w.heap.size), .int .i64 0, .slice none 0 0] 89) → w'.heap[w.heap.size + 1]? = some (.cells #[.map (some w.heap.size), .int .i64 0, .slice none 0 0] 89 (0, 0)) ∧ w'.heap[w.heap.size]? = some (.map #[] 0) ∧ w'.heap.size = w.heap.size + 2 ∧ Below w.heap.size w w') := by
    intro w' hw'
    refine ⟨by rw [hw']; exact alloc_at _ _ (by simp), by rw [hw']; exact (alloc_old _ _ (by simp)).trans (heap_alloc_new w _), by rw [hw']; simp, by rw [hw']; exact ((Below.refl _ _).alloc (Nat.le_refl _) _).alloc (by simp) _⟩
  go_enter Tryz.func46, Tryz.ntmps46
  go_wp2
  go_ret
  exact ⟨rfl, HE.out _ rfl⟩
end Go.Proofs.YtmhmlkdoaojimapGreatDoor

/- laws.toStringS, laws.toDb. -/
namespace Go.Proofs.YtmhmlkdoaojimapGreatDoor
open Go.RowKit

theorem infoSt : (Tryz.prog.info? 9).map (fun i => (i.zero, i.size, i.bytes)) = some (some (.string ⟨#[]⟩), 1, 16) := by kernel_rfl

theorem make_strs (n : Nat) (h1 : n ≤ 1048576) : ∃ M : Array Value, M.size = n ∧
    (∀ W : World, (Instr.makeSlice 23 (.int .i64 (n : Int)) (.int .i64 (n : Int))).run Tryz.prog W = .ok (.slice (some ⟨W.heap.size, 0, none⟩) n n) (W.alloc (.cells M 9))) := by
  obtain ⟨i0, hi, hz0, hz1, hz2⟩ := info_parts infoSt
  refine ⟨madeCells (Value.string ⟨#[]⟩).cells (n * i0.size), ?_, ?_⟩
  · rw [size_madeCells, hz1, Nat.mul_one]
  · intro W
    have h := run_make (P := Tryz.prog) W 23 9 i0 _ Tryz.underlying23 hi hz0 .i64 .i64 n n (by omega) (by omega) (by rw [hz2]; omega) (by omega)
    simpa using h

set_option maxRecDepth 20000 in
theorem to_strs (xs : List ByteArray) (w : World) (sl : Value) (hlen : xs.length ≤ 1048576) (h : SsIn w xs sl) :
    Calls Tryz.prog 21 #[sl] w fun e w' => ∃ sl, e = .returned sl ∧ sl = .slice (some ⟨w.heap.size, 0, none⟩) xs.length xs.length ∧ w'.ownsRow 0 9 1 sl xs.length (xs.map Value.string) ∧ Below w.heap.size w w' := by
  obtain ⟨ao, cap, rfl, hcap, hmax, h⟩ := h
  clear hcap hmax
  obtain ⟨M, hM, hmk⟩ := make_strs xs.length (by omega)
  go_enter Tryz.func21, Tryz.ntmps21
  go_wp2
  clear hmk
  go_loopw [4] (fun vi wr => ∃ (j : Nat) (cur : Array Value), j ≤ xs.length ∧ vi = .int .i64 (j : Int) ∧ Hid (Below w.heap.size w wr) ∧ wr.heap[w.heap.size]? = some (.cells cur 9 (0, 0)) ∧ cur.size = xs.length ∧
      Hid (cur.toList.take j = (xs.take j).map Value.string)) (fun i _ => xs.length - (intOf i).toNat)
  case atStart =>
    exact ⟨0, M, by omega, rfl, (Below.refl _ _).alloc (Nat.le_refl _) _, by rw [heap_alloc_new], hM, by show _ = _; simp⟩
  case round =>
    obtain ⟨j, cur, hj, rfl, HB, hblk, hcs, HO⟩ := hrel
    by_cases hlt : j < xs.length
    · obtain ⟨b, off, rfl, hin⟩ := h (by intro e; subst e; simp at hlt)
      obtain ⟨hc, _⟩ := hin j hlt
      have hc' := cell_keep hc HB.out
      have HTK : Hid (xs.take (j + 1) = xs.take j ++ [xs[j]]) := List.take_succ_eq_append_getElem hlt
      have x0 := blk_cell (i := j) hblk (by omega)
      have z0 := blk_frozen hblk j
      have HG : Hid _ := hblk
      have hbb : b < w.heap.size := cell_blk hc
      clear hin h hc hblk
      generalize xs[j] = xj at *
      go_wp2
      go_roundw
      case rel =>
        refine ⟨j + 1, _, by omega, by go_num, below_set HB.out (Nat.le_refl _) _, blk_set HG.out _, by simpa using hcs, ?_⟩
        show _ = _
        rw [HTK.out, Array.toList_setIfInBounds, take_set1 (by simp; omega), HO.out]
        simp
      case measure => simp [intOf]; omega
    · obtain rfl : j = xs.length := by omega
      go_wp2
      go_ret
      have ho := HO.out
      rw [List.take_of_length_le (Nat.le_refl _)] at ho
      exact ⟨_, rfl, rfl, ⟨by simp, Or.inr ⟨w.heap.size, xs.length, cur, rfl, Nat.zero_le _, hblk, Nat.le_refl _, by unfold maxLen; omega, by simpa using hcs, by rw [Nat.mul_one]; exact ho⟩⟩, HB.out⟩
end Go.Proofs.YtmhmlkdoaojimapGreatDoor

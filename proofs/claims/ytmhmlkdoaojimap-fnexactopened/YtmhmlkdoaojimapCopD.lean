/- (*copier).copyOf: a copy in memory of its own. -/
import Derived.Test.YtmhmlkdoaojimapMrg18
import Derived.Test.YtmhmlkdoaojimapShiftI
import Derived.Test.YtmhmlkdoaojimapShpP
namespace Go.Proofs.Ytmhmlkdoaojimap
open Go.RowKit

theorem Cop.call {w0 w : World} {R0 : List Row} {gc m : Nat} {osl : Value} {C : List (Ent × Nat)} {O : List Ent} {P : List Row} {b n cap : Nat} {cs : List Value} {ks : List Tm} {R : List Row} (h : Cop w0 R0 w gc m osl C O (((b, n, cs) :: R) ++ P)) (h0 : Rows0 w0 R0 gc m) (hk : ks.length = n) (hs : SrcRow 54 w0 ks cs R)
    (hrow : w0.ownsRow 0 54 4 (.slice (some ⟨b, 0, none⟩) n cap) n cs) :
    Calls Try.prog 52 #[.pointer (some ⟨gc, 0, none⟩), .slice (some ⟨b, 0, none⟩) n cap] w fun e w' => ∃ g cap' osl', e = .returned (.slice (some ⟨g, 0, none⟩) n cap') ∧ Cop w0 R0 w' gc m osl' C (O ++ [⟨b, n, cs, g, cap', ks, R⟩]) P := by
  have hmem : (b, n, cs) ∈ R0 := h.perm.mem_iff.1 (by simp)
  have hn := h0.pos _ hmem
  have hcs := h0.cells _ hmem
  have hns := h.ns
  have hsum := h0.sum
  have hlen := h.len
  have hl0 := rows_len R0 h0.pos
  have hne := h0.ne _ hmem
  have hn2 : n ≤ 2097152 := by
    simp only [List.map_append, List.map_cons, List.sum_append, List.sum_cons, List.cons_append] at hns
    omega
  have hT : ((C.map (·.1) ++ O).map (·.n)).sum ≤ 2097152 := by omega
  have hD : b ∉ (C.map (·.1) ++ O).map (·.b) := fun hb => by
    have hnd := h.bs.nodup_iff.2 h0.nd
    exact (List.nodup_append.1 hnd).2.2 b hb b (by simp) rfl
  have hkeep : ∀ r ∈ R0, w.heap[r.1]? = w0.heap[r.1]? := fun r hr => by
    obtain ⟨c, hc⟩ := h0.rin r hr
    exact h.out.block r.1 (hc.lt r.1 rfl).2 (by have := h0.ne r hr; simp [this])
  have hDP : DPB w ((C.map (·.1) ++ O).map (·.b)) := fun f hf => by
    obtain ⟨x, hx, rfl⟩ := List.mem_map.1 hf
    have hr : x.row ∈ R0 := h.perm.mem_iff.1 (List.mem_append_left _ (List.mem_map_of_mem hx))
    obtain ⟨c, hc⟩ := h0.rin _ hr
    rcases hc.2 with ⟨e, _⟩ | ⟨g, c', cur, e, _, hh, _⟩
    · cases e
    · cases e; exact ⟨cur, _, (hkeep _ hr).trans hh⟩
  have ho1 : osl.ownBlock ≠ some gc := fun e => by have := h.ofr _ e; have := h.gm.2.1; omega
  have ho2 : osl.ownBlock ≠ some m := fun e => by have := h.ofr _ e; have := h.gm.2.2; omega
  refine Calls.mono (list_copied w gc m b n cap 1048576 O.length _ osl _ cs (O.map Ent.sl) h.cop h.map hD hDP (row_keep hrow (hkeep _ hmem)) hcs (Nat.le_refl _) hn (by omega) ⟨by omega, by omega⟩ h.stack (by omega) h.gm.1 ho1 ho2) ?_
  rintro e w' ⟨g, cap', osl', rfl, r1, r2, r3, r4, r5, r6, r7⟩
  exact ⟨g, cap', osl', rfl, h.push h0 hk hn hs r1 r2 r3 r4 r5 r6 r7⟩

def QC (w0 : World) (R0 : List Row) (gc m bs g0 : Nat) (wr : World) (N : Nat) : Prop := ∃ C O osl, Cop w0 R0 wr gc m osl C O [] ∧ (∀ p ∈ C, p.2 = p.1.n) ∧ (∃ y ∈ C.map (·.1) ++ O, y.b = bs ∧ y.g = g0) ∧ R0.length - C.length = N

/-- at first: nothing is copied yet -/
theorem cop_start {t : Tm} {w : World} {v : Value} {R : List Row} {F : List Nat} {gc m bs clk : Nat} {cs0 : List Value} (hs : Src 54 w t v R) (hwt : t.wt ≤ 1048576) (hv : ∃ c0 c1 c2 c3, v = .agg #[c0, c1, c2, c3] ∧ cs0 = [c0, c1, c2, c3]) (hsub : (R.map (·.1)).Sublist F) (hnd : F.Nodup) (hF : ∀ f ∈ F, f ≠ gc ∧ f ≠ m ∧ f < bs) (hb : bs ≠ gc ∧ bs ≠ m)
    (hc : w.heap[gc]? = some (.cells #[.map (some m), .int .i64 0, .slice none 0 0] 72 (0, 0))) (hm : w.heap[m]? = some (.map #[] clk)) (hgm : gc ≠ m) (hbs : w.heap[bs]? = some (.cells cs0.toArray 54 (0, 0))) :
    Rows0 w ((bs, 1, cs0) :: R) gc m ∧ Cop w ((bs, 1, cs0) :: R) w gc m (.slice none 0 0) [] [] (((bs, 1, cs0) :: R) ++ []) ∧ w.ownsRow 0 54 4 (.slice (some ⟨bs, 0, none⟩) 1 1) 1 cs0 ∧ SrcRow 54 w [t] cs0 R := by
  obtain ⟨c0, c1, c2, c3, rfl, rfl⟩ := hv
  have hown : w.ownsRow 0 54 4 (.slice (some ⟨bs, 0, none⟩) 1 1) 1 [c0, c1, c2, c3] := ⟨rfl, Or.inr ⟨bs, 1, #[c0, c1, c2, c3], rfl, Nat.zero_le _, hbs, Nat.le_refl _, by unfold maxLen; omega, rfl, rfl⟩⟩
  have hsr : SrcRow 54 w [t] [c0, c1, c2, c3] R := by
    unfold SrcRow
    exact ⟨c0, c1, c2, c3, [], R, [], rfl, by simp, hs, by unfold SrcRow; exact ⟨rfl, rfl⟩⟩
  obtain ⟨s1, s2⟩ := Src.rows t _ R hs
  have s3 := Src.all 1048576 t _ R hs hwt
  have s4 : CellsOk [c0, c1, c2, c3] 1 1048576 := srcRow_cells 1048576 [t] _ R hsr (by simp [wts, Tm.wt.wts]; omega)
  have hR : ∀ r ∈ R, r.1 ∈ F := fun r hr => hsub.subset (List.mem_map_of_mem hr)
  refine ⟨⟨?_, ?_, ?_, ?_, ?_, ?_⟩, ⟨Out.refl _ _, ⟨hgm, (Array.getElem?_eq_some_iff.1 hc).1, (Array.getElem?_eq_some_iff.1 hm).1⟩, fun x hx => (by cases hx), by simp, by simp, fun x hx => (by cases hx), fun z hz => (by cases hz), fun p hp => (by cases hp), fun x hx => (by cases hx), by simpa using hc, ⟨#[], clk, hm, fun e he => (by cases he)⟩, ⟨by simp, Or.inl ⟨rfl, rfl⟩⟩⟩, hown, hsr⟩
  · rw [List.map_cons, List.nodup_cons]
    refine ⟨fun h => ?_, hsub.nodup hnd⟩
    have := (hF _ (hsub.subset h)).2.2
    simp at this
  · intro r hr
    rcases List.mem_cons.1 hr with rfl | hr
    · exact ⟨1, hown⟩
    · exact s1 r hr
  · intro r hr
    rcases List.mem_cons.1 hr with rfl | hr
    · exact hb
    · exact ⟨(hF _ (hR r hr)).1, (hF _ (hR r hr)).2.1⟩
  · intro r hr
    rcases List.mem_cons.1 hr with rfl | hr
    · exact s4
    · exact (s3 r hr).1
  · simp only [List.map_cons, List.sum_cons]; omega
  · intro r hr
    rcases List.mem_cons.1 hr with rfl | hr
    · show 0 < 1; omega
    · exact (s3 r hr).2
end Go.Proofs.Ytmhmlkdoaojimap

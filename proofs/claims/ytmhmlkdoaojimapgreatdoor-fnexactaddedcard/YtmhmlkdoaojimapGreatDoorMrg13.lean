/- Four texts in one. -/
import Derived.Test.YtmhmlkdoaojimapGreatDoorMrg12
import Derived.Test.YtmhmlkdoaojimapGreatDoorMrg11
import Derived.Test.YtmhmlkdoaojimapGreatDoorMrg10
/- What is right may be shifted a little. Of no program. -/
namespace Go.Proofs.YtmhmlkdoaojimapGreatDoor
open Go.RowKit

theorem right_shp (b : Int) (hb : -100000 ≤ b ∧ b ≤ 100000) (t : Tm) : ∀ d, t.right d = true → t.shp b := by
  refine tm_ind (p := fun t => ∀ d, t.right d = true → t.shp b) ?_ t
  intro k s n ks hks d h
  rw [right_mk, Bool.and_eq_true, Bool.and_eq_true] at h
  obtain ⟨⟨_, h2⟩, h3⟩ := h
  rw [rights_all, List.all_eq_true] at h3
  rw [shp_mk, shps_all]
  unfold oneT at h2
  refine ⟨fun hk => ?_, ?_, fun t ht => hks t ht _ (h3 t ht)⟩
  · subst hk
    simp at h2
    omega
  · split at h2
    · simp at h2; exact Or.inl h2.2
    · split at h2
      · simp at h2; exact Or.inl h2.2
      · split at h2
        · simp at h2; exact Or.inl h2.2
        · split at h2
          · rename_i h4; simp at h2; exact Or.inr ⟨h4, h2.1.2⟩
          · simp at h2

end Go.Proofs.YtmhmlkdoaojimapGreatDoor

/- (*copier).copyOf: a copy in memory of its own. -/
namespace Go.Proofs.YtmhmlkdoaojimapGreatDoor
open Go.RowKit

theorem Cop.call {w0 w : World} {R0 : List Row} {gc m : Nat} {osl : Value} {C : List (Ent × Nat)} {O : List Ent} {P : List Row} {b n cap : Nat} {cs : List Value} {ks : List Tm} {R : List Row} (h : Cop w0 R0 w gc m osl C O (((b, n, cs) :: R) ++ P)) (h0 : Rows0 w0 R0 gc m) (hk : ks.length = n) (hs : SrcRow 41 w0 ks cs R)
    (hrow : w0.ownsRow 0 41 4 (.slice (some ⟨b, 0, none⟩) n cap) n cs) :
    Calls Tryz.prog 74 #[.pointer (some ⟨gc, 0, none⟩), .slice (some ⟨b, 0, none⟩) n cap] w fun e w' => ∃ g cap' osl', e = .returned (.slice (some ⟨g, 0, none⟩) n cap') ∧ Cop w0 R0 w' gc m osl' C (O ++ [⟨b, n, cs, g, cap', ks, R⟩]) P := by
  have hmem : (b, n, cs) ∈ R0 := h.perm.mem_iff.1 (by simp)
  have hn := h0.pos _ hmem
  have hcs := h0.cells _ hmem
  have hns := h.ns
  have hsum := h0.sum
  have hlen := h.len
  have hl0 := rows_len R0 h0.pos
  have hne := h0.ne _ hmem
  have hn2 : n ≤ 2097152 := by
    simp only [List.map_append, List.map_cons, List.sum_append, List.sum_cons, List.cons_append] at hns
    omega
  have hT : ((C.map (·.1) ++ O).map (·.n)).sum ≤ 2097152 := by omega
  have hD : b ∉ (C.map (·.1) ++ O).map (·.b) := fun hb => by
    have hnd := h.bs.nodup_iff.2 h0.nd
    exact (List.nodup_append.1 hnd).2.2 b hb b (by simp) rfl
  have hkeep : ∀ r ∈ R0, w.heap[r.1]? = w0.heap[r.1]? := fun r hr => by
    obtain ⟨c, hc⟩ := h0.rin r hr
    exact h.out.block r.1 (hc.lt r.1 rfl).2 (by have := h0.ne r hr; simp [this])
  have hDP : DPB w ((C.map (·.1) ++ O).map (·.b)) := fun f hf => by
    obtain ⟨x, hx, rfl⟩ := List.mem_map.1 hf
    have hr : x.row ∈ R0 := h.perm.mem_iff.1 (List.mem_append_left _ (List.mem_map_of_mem hx))
    obtain ⟨c, hc⟩ := h0.rin _ hr
    rcases hc.2 with ⟨e, _⟩ | ⟨g, c', cur, e, _, hh, _⟩
    · cases e
    · cases e; exact ⟨cur, _, (hkeep _ hr).trans hh⟩
  have ho1 : osl.ownBlock ≠ some gc := fun e => by have := h.ofr _ e; have := h.gm.2.1; omega
  have ho2 : osl.ownBlock ≠ some m := fun e => by have := h.ofr _ e; have := h.gm.2.2; omega
  refine Calls.mono (list_copied w gc m b n cap 1048576 O.length _ osl _ cs (O.map Ent.sl) h.cop h.map hD hDP (row_keep hrow (hkeep _ hmem)) hcs (Nat.le_refl _) hn (by omega) ⟨by omega, by omega⟩ h.stack (by omega) h.gm.1 ho1 ho2) ?_
  rintro e w' ⟨g, cap', osl', rfl, r1, r2, r3, r4, r5, r6, r7⟩
  exact ⟨g, cap', osl', rfl, h.push h0 hk hn hs r1 r2 r3 r4 r5 r6 r7⟩

def QC (w0 : World) (R0 : List Row) (gc m bs g0 : Nat) (wr : World) (N : Nat) : Prop := ∃ C O osl, Cop w0 R0 wr gc m osl C O [] ∧ (∀ p ∈ C, p.2 = p.1.n) ∧ (∃ y ∈ C.map (·.1) ++ O, y.b = bs ∧ y.g = g0) ∧ R0.length - C.length = N

/-- at first: nothing is copied yet -/
theorem cop_start {t : Tm} {w : World} {v : Value} {R : List Row} {F : List Nat} {gc m bs clk : Nat} {cs0 : List Value} (hs : Src 41 w t v R) (hwt : t.wt ≤ 1048576) (hv : ∃ c0 c1 c2 c3, v = .agg #[c0, c1, c2, c3] ∧ cs0 = [c0, c1, c2, c3]) (hsub : (R.map (·.1)).Sublist F) (hnd : F.Nodup) (hF : ∀ f ∈ F, f ≠ gc ∧ f ≠ m ∧ f < bs) (hb : bs ≠ gc ∧ bs ≠ m)
    (hc : w.heap[gc]? = some (.cells #[.map (some m), .int .i64 0, .slice none 0 0] 89 (0, 0))) (hm : w.heap[m]? = some (.map #[] clk)) (hgm : gc ≠ m) (hbs : w.heap[bs]? = some (.cells cs0.toArray 41 (0, 0))) :
    Rows0 w ((bs, 1, cs0) :: R) gc m ∧ Cop w ((bs, 1, cs0) :: R) w gc m (.slice none 0 0) [] [] (((bs, 1, cs0) :: R) ++ []) ∧ w.ownsRow 0 41 4 (.slice (some ⟨bs, 0, none⟩) 1 1) 1 cs0 ∧ SrcRow 41 w [t] cs0 R := by
  obtain ⟨c0, c1, c2, c3, rfl, rfl⟩ := hv
  have hown : w.ownsRow 0 41 4 (.slice (some ⟨bs, 0, none⟩) 1 1) 1 [c0, c1, c2, c3] := ⟨rfl, Or.inr ⟨bs, 1, #[c0, c1, c2, c3], rfl, Nat.zero_le _, hbs, Nat.le_refl _, by unfold maxLen; omega, rfl, rfl⟩⟩
  have hsr : SrcRow 41 w [t] [c0, c1, c2, c3] R := by
    unfold SrcRow
    exact ⟨c0, c1, c2, c3, [], R, [], rfl, by simp, hs, by unfold SrcRow; exact ⟨rfl, rfl⟩⟩
  obtain ⟨s1, s2⟩ := Src.rows t _ R hs
  have s3 := Src.all 1048576 t _ R hs hwt
  have s4 : CellsOk [c0, c1, c2, c3] 1 1048576 := srcRow_cells 1048576 [t] _ R hsr (by simp [wts, Tm.wt.wts]; omega)
  have hR : ∀ r ∈ R, r.1 ∈ F := fun r hr => hsub.subset (List.mem_map_of_mem hr)
  refine ⟨⟨?_, ?_, ?_, ?_, ?_, ?_⟩, ⟨Out.refl _ _, ⟨hgm, (Array.getElem?_eq_some_iff.1 hc).1, (Array.getElem?_eq_some_iff.1 hm).1⟩, fun x hx => (by cases hx), by simp, by simp, fun x hx => (by cases hx), fun z hz => (by cases hz), fun p hp => (by cases hp), fun x hx => (by cases hx), by simpa using hc, ⟨#[], clk, hm, fun e he => (by cases he)⟩, ⟨by simp, Or.inl ⟨rfl, rfl⟩⟩⟩, hown, hsr⟩
  · rw [List.map_cons, List.nodup_cons]
    refine ⟨fun h => ?_, hsub.nodup hnd⟩
    have := (hF _ (hsub.subset h)).2.2
    simp at this
  · intro r hr
    rcases List.mem_cons.1 hr with rfl | hr
    · exact ⟨1, hown⟩
    · exact s1 r hr
  · intro r hr
    rcases List.mem_cons.1 hr with rfl | hr
    · exact hb
    · exact ⟨(hF _ (hR r hr)).1, (hF _ (hR r hr)).2.1⟩
  · intro r hr
    rcases List.mem_cons.1 hr with rfl | hr
    · exact s4
    · exact (s3 r hr).1
  · simp only [List.map_cons, List.sum_cons]; omega
  · intro r hr
    rcases List.mem_cons.1 hr with rfl | hr
    · show 0 < 1; omega
    · exact (s3 r hr).2
end Go.Proofs.YtmhmlkdoaojimapGreatDoor

/- The copier used again: one list copied, what stands at first and at the end. -/
namespace Go.Proofs.YtmhmlkdoaojimapGreatDoor
open Go.RowKit

theorem Kop.call {w0 w : World} {R0 : List Row} {T0 : Nat} {D0 Z : List Nat} {gc m : Nat} {osl : Value} {C : List (Ent × Nat)} {O : List Ent} {P : List Row} {b n cap : Nat} {cs : List Value} {ks : List Tm} {R : List Row} (h : Kop w0 R0 T0 D0 Z w gc m osl C O (((b, n, cs) :: R) ++ P)) (h0 : Rows1 w0 R0 gc m T0 D0 Z) (hk : ks.length = n) (hs : SrcRow 41 w0 ks cs R)
    (hrow : w0.ownsRow 0 41 4 (.slice (some ⟨b, 0, none⟩) n cap) n cs) :
    Calls Tryz.prog 74 #[.pointer (some ⟨gc, 0, none⟩), .slice (some ⟨b, 0, none⟩) n cap] w fun e w' => ∃ g cap' osl', e = .returned (.slice (some ⟨g, 0, none⟩) n cap') ∧ Kop w0 R0 T0 D0 Z w' gc m osl' C (O ++ [⟨b, n, cs, g, cap', ks, R⟩]) P := by
  have hmem : (b, n, cs) ∈ R0 := h.perm.mem_iff.1 (by simp)
  have hn := h0.pos _ hmem
  have hcs := h0.cells _ hmem
  have hns := h.ns
  have hsum := h0.sum
  have hlen := h.len
  have hl0 := rows_len R0 h0.pos
  have hne := h0.ne _ hmem
  have hn2 : n ≤ 2097152 := by
    simp only [List.map_append, List.map_cons, List.sum_append, List.sum_cons, List.cons_append] at hns
    omega
  have hT : T0 + ((C.map (·.1) ++ O).map (·.n)).sum ≤ 4194304 := by have := h0.tb; omega
  have hD : b ∉ (C.map (·.1) ++ O).map (·.b) ++ D0 := fun hb => by
    rcases List.mem_append.1 hb with hb | hb
    · have hnd := h.bs.nodup_iff.2 h0.nd
      exact (List.nodup_append.1 hnd).2.2 b hb b (by simp) rfl
    · exact h0.dj _ hmem hb
  have hkeep : ∀ r ∈ R0, w.heap[r.1]? = w0.heap[r.1]? := fun r hr => by
    obtain ⟨c, hc⟩ := h0.rin r hr
    exact h.out.block r.1 (hc.lt r.1 rfl).2 (by have := h0.ne r hr; simp [this])
  have hDP : DPB w ((C.map (·.1) ++ O).map (·.b) ++ D0) := fun f hf => by
    rcases List.mem_append.1 hf with hf | hf
    case inr =>
      obtain ⟨cur, T', hh⟩ := h0.dp f hf
      exact ⟨cur, T', (h.out.block f (Array.getElem?_eq_some_iff.1 hh).1 (by have := h0.dk f hf; simp [this])).trans hh⟩
    obtain ⟨x, hx, rfl⟩ := List.mem_map.1 hf
    have hr : x.row ∈ R0 := h.perm.mem_iff.1 (List.mem_append_left _ (List.mem_map_of_mem hx))
    obtain ⟨c, hc⟩ := h0.rin _ hr
    rcases hc.2 with ⟨e, _⟩ | ⟨g, c', cur, e, _, hh, _⟩
    · cases e
    · cases e; exact ⟨cur, _, (hkeep _ hr).trans hh⟩
  have ho1 : osl.ownBlock ≠ some gc := fun e => (h.ofr _ e).elim (fun h9 => by have := h.gm.2.1; omega) fun h9 => (h.gm.2.2.2 _ h9).1 rfl
  have ho2 : osl.ownBlock ≠ some m := fun e => (h.ofr _ e).elim (fun h9 => by have := h.gm.2.2.1; omega) fun h9 => (h.gm.2.2.2 _ h9).2.1 rfl
  refine Calls.mono (list_copied w gc m b n cap 1048576 O.length _ osl _ cs (O.map Ent.sl) h.cop h.map hD hDP (row_keep hrow (hkeep _ hmem)) hcs (Nat.le_refl _) hn (by omega) ⟨by omega, by omega⟩ h.stack (by omega) h.gm.1 ho1 ho2) ?_
  rintro e w' ⟨g, cap', osl', rfl, r1, r2, r3, r4, r5, r6, r7⟩
  exact ⟨g, cap', osl', rfl, h.push h0 hk hn hs r1 r2 r3 r4 r5 r6 r7⟩

/-- the copier between two terms -/
structure KSt (w : World) (gc m T0 : Nat) (D0 : List Nat) (osl : Value) : Prop where
  gm : gc ≠ m
  cop : w.heap[gc]? = some (.cells #[.map (some m), .int .i64 (T0 : Int), osl] 89 (0, 0))
  map : CMapAt w m D0
  dp : DPB w D0
  dk : ∀ d ∈ D0, d ≠ gc ∧ d ≠ m ∧ osl.ownBlock ≠ some d
  stack : w.ownsRow 0 39 1 osl 0 []
  zz : ∀ z, osl.ownBlock = some z → z ≠ gc ∧ z ≠ m
theorem KSt.turn {w w' : World} {gc m T0 : Nat} {D0 : List Nat} {osl : Value} (h : KSt w gc m T0 D0 osl) (hb : ∀ k, (k = gc ∨ k = m ∨ k ∈ D0 ∨ osl.ownBlock = some k) → w'.heap[k]? = w.heap[k]?) : KSt w' gc m T0 D0 osl :=
  ⟨h.gm, (hb _ (Or.inl rfl)).trans h.cop, by obtain ⟨es, cl, h1, h2⟩ := h.map; exact ⟨es, cl, (hb _ (Or.inr (Or.inl rfl))).trans h1, h2⟩,
    fun f hf => by obtain ⟨cur, T, hh⟩ := h.dp f hf; exact ⟨cur, T, (hb f (Or.inr (Or.inr (Or.inl hf)))).trans hh⟩, h.dk, row_turn0 h.stack fun b e => hb b (Or.inr (Or.inr (Or.inr e))), h.zz⟩
theorem KSt.lt {w : World} {gc m T0 : Nat} {D0 : List Nat} {osl : Value} (h : KSt w gc m T0 D0 osl) : ∀ k, (k = gc ∨ k = m ∨ k ∈ D0 ∨ osl.ownBlock = some k) → k < w.heap.size := fun k hk => by
  rcases hk with rfl | rfl | hk | hk
  · exact (Array.getElem?_eq_some_iff.1 h.cop).1
  · obtain ⟨es, cl, h1, h2⟩ := h.map; exact (Array.getElem?_eq_some_iff.1 h1).1
  · obtain ⟨cur, T, hh⟩ := h.dp k hk; exact (Array.getElem?_eq_some_iff.1 hh).1
  · exact row_lt0 h.stack hk
theorem KSt.keep {w w' : World} {gc m T0 : Nat} {D0 : List Nat} {osl : Value} (h : KSt w gc m T0 D0 osl) (hb : Below w.heap.size w w') : KSt w' gc m T0 D0 osl := h.turn fun k hk => hb.block k (h.lt k hk)
/-- a new copier -/
theorem kst_new {w : World} {gc m clk : Nat} (hc : w.heap[gc]? = some (.cells #[.map (some m), .int .i64 0, .slice none 0 0] 89 (0, 0))) (hm : w.heap[m]? = some (.map #[] clk)) (hgm : gc ≠ m) : KSt w gc m 0 [] (.slice none 0 0) :=
  ⟨hgm, by simpa using hc, ⟨#[], clk, hm, fun e he => (by cases he)⟩, fun f hf => (by cases hf), fun d hd => (by cases hd), ⟨by simp, Or.inl ⟨rfl, rfl⟩⟩, fun z hz => (by cases hz)⟩

def QK (w0 : World) (R0 : List Row) (T0 : Nat) (D0 Z : List Nat) (gc m bs g0 : Nat) (wr : World) (N : Nat) : Prop := ∃ C O osl, Kop w0 R0 T0 D0 Z wr gc m osl C O [] ∧ (∀ p ∈ C, p.2 = p.1.n) ∧ (∃ y ∈ C.map (·.1) ++ O, y.b = bs ∧ y.g = g0) ∧ R0.length - C.length = N

/-- at first: nothing of the term is copied yet -/
theorem kop_start {t : Tm} {w : World} {v : Value} {R : List Row} {F : List Nat} {gc m bs T0 : Nat} {D0 : List Nat} {osl : Value} {cs0 : List Value} (hs : Src 41 w t v R) (hwt : t.wt ≤ 1048576) (hv : ∃ c0 c1 c2 c3, v = .agg #[c0, c1, c2, c3] ∧ cs0 = [c0, c1, c2, c3]) (hsub : (R.map (·.1)).Sublist F) (hnd : F.Nodup) (hF : ∀ f ∈ F, f ≠ gc ∧ f ≠ m ∧ f < bs ∧ osl.ownBlock ≠ some f ∧ f ∉ D0) (hb : bs ≠ gc ∧ bs ≠ m ∧ osl.ownBlock ≠ some bs ∧ bs ∉ D0)
    (hk : KSt w gc m T0 D0 osl) (hT : T0 ≤ 2097152) (hbs : w.heap[bs]? = some (.cells cs0.toArray 41 (0, 0))) :
    Rows1 w ((bs, 1, cs0) :: R) gc m T0 D0 osl.ownBlock.toList ∧ Kop w ((bs, 1, cs0) :: R) T0 D0 osl.ownBlock.toList w gc m osl [] [] (((bs, 1, cs0) :: R) ++ []) ∧ w.ownsRow 0 41 4 (.slice (some ⟨bs, 0, none⟩) 1 1) 1 cs0 ∧ SrcRow 41 w [t] cs0 R := by
  obtain ⟨c0, c1, c2, c3, rfl, rfl⟩ := hv
  have hown : w.ownsRow 0 41 4 (.slice (some ⟨bs, 0, none⟩) 1 1) 1 [c0, c1, c2, c3] := ⟨rfl, Or.inr ⟨bs, 1, #[c0, c1, c2, c3], rfl, Nat.zero_le _, hbs, Nat.le_refl _, by unfold maxLen; omega, rfl, rfl⟩⟩
  have hsr : SrcRow 41 w [t] [c0, c1, c2, c3] R := by
    unfold SrcRow
    exact ⟨c0, c1, c2, c3, [], R, [], rfl, by simp, hs, by unfold SrcRow; exact ⟨rfl, rfl⟩⟩
  obtain ⟨s1, s2⟩ := Src.rows t _ R hs
  have s3 := Src.all 1048576 t _ R hs hwt
  have s4 : CellsOk [c0, c1, c2, c3] 1 1048576 := srcRow_cells 1048576 [t] _ R hsr (by simp [wts, Tm.wt.wts]; omega)
  have hR : ∀ r ∈ R, r.1 ∈ F := fun r hr => hsub.subset (List.mem_map_of_mem hr)
  have hz : ∀ z ∈ osl.ownBlock.toList, osl.ownBlock = some z := fun z hz => by simpa using hz
  refine ⟨⟨?_, ?_, ?_, ?_, ?_, ?_, ?_, hk.dp, ?_, hT⟩, ⟨Out.refl _ _, ⟨hk.gm, hk.lt _ (Or.inl rfl), hk.lt _ (Or.inr (Or.inl rfl)), fun z h => ⟨(hk.zz z (hz z h)).1, (hk.zz z (hz z h)).2, hk.lt _ (Or.inr (Or.inr (Or.inr (hz z h))))⟩⟩, fun x hx => (by cases hx), by simp, by simp, fun x hx => (by cases hx), fun z h => Or.inr (by simpa using h), fun p hp => (by cases hp), fun x hx => (by cases hx), by simpa using hk.cop, by simpa using hk.map, by simpa using hk.stack⟩, hown, hsr⟩
  · rw [List.map_cons, List.nodup_cons]
    refine ⟨fun h => ?_, hsub.nodup hnd⟩
    have := (hF _ (hsub.subset h)).2.2.1
    simp at this
  · intro r hr
    rcases List.mem_cons.1 hr with rfl | hr
    · exact ⟨1, hown⟩
    · exact s1 r hr
  · intro r hr
    rcases List.mem_cons.1 hr with rfl | hr
    · exact ⟨hb.1, hb.2.1, fun h => hb.2.2.1 (hz _ h)⟩
    · have h1 := hF _ (hR r hr)
      exact ⟨h1.1, h1.2.1, fun h => h1.2.2.2.1 (hz _ h)⟩
  · intro r hr
    rcases List.mem_cons.1 hr with rfl | hr
    · exact s4
    · exact (s3 r hr).1
  · simp only [List.map_cons, List.sum_cons]; omega
  · intro r hr
    rcases List.mem_cons.1 hr with rfl | hr
    · show 0 < 1; omega
    · exact (s3 r hr).2
  · intro r hr
    rcases List.mem_cons.1 hr with rfl | hr
    · exact hb.2.2.2
    · exact (hF _ (hR r hr)).2.2.2.2
  · exact fun d hd => ⟨(hk.dk d hd).1, (hk.dk d hd).2.1, fun h => (hk.dk d hd).2.2 (hz _ h)⟩

/-- at the end: the copier between two terms again -/
theorem kop_end {w0 w : World} {R0 : List Row} {T0 : Nat} {D0 Z : List Nat} {gc m : Nat} {osl : Value} {C : List (Ent × Nat)} (h : Kop w0 R0 T0 D0 Z w gc m osl C [] []) (h0 : Rows1 w0 R0 gc m T0 D0 Z) :
    KSt w gc m (T0 + (R0.map (·.2.1)).sum) ((C.map (·.1)).map (·.b) ++ D0) osl ∧ ∀ d ∈ (C.map (·.1)).map (·.b) ++ D0, d ∈ D0 ∨ d ∈ R0.map (·.1) := by
  have hns := h.ns
  simp only [List.append_nil, List.flatMap_nil, List.map_nil, List.sum_nil, Nat.add_zero] at hns
  have hbs := h.bs
  simp only [List.append_nil, List.flatMap_nil, List.map_nil] at hbs
  have hin : ∀ d ∈ (C.map (·.1)).map (·.b), d ∈ R0.map (·.1) := fun d hd => hbs.mem_iff.1 hd
  have hc := h.cop
  have hm := h.map
  simp only [List.append_nil] at hc hm
  rw [hns] at hc
  have hblk : ∀ d ∈ R0.map (·.1), ∃ cur T, w0.heap[d]? = some (.cells cur T (0, 0)) := fun d hd => by
    obtain ⟨r, hr, rfl⟩ := List.mem_map.1 hd
    obtain ⟨c, hc⟩ := h0.rin r hr
    rcases hc.2 with ⟨e, _⟩ | ⟨g, c', cur, e, _, hh, _⟩
    · cases e
    · cases e; exact ⟨cur, _, hh⟩
  have hnz : ∀ d ∈ R0.map (·.1), d ≠ gc ∧ d ≠ m ∧ d ∉ Z := fun d hd => by
    obtain ⟨r, hr, rfl⟩ := List.mem_map.1 hd
    exact h0.ne r hr
  have hall : ∀ d ∈ (C.map (·.1)).map (·.b) ++ D0, (∃ cur T, w0.heap[d]? = some (.cells cur T (0, 0))) ∧ d ≠ gc ∧ d ≠ m ∧ d ∉ Z := fun d hd => by
    rcases List.mem_append.1 hd with hd | hd
    · exact ⟨hblk d (hin d hd), hnz d (hin d hd)⟩
    · exact ⟨h0.dp d hd, h0.dk d hd⟩
  refine ⟨⟨h.gm.1, hc, hm, fun d hd => ?_, fun d hd => ?_, h.stack, fun z hz => ?_⟩, fun d hd => ?_⟩
  · obtain ⟨⟨cur, T, hh⟩, h1, h2, h3⟩ := hall d hd
    exact ⟨cur, T, (h.out.block d (Array.getElem?_eq_some_iff.1 hh).1 (by simp [h1, h2, h3])).trans hh⟩
  · obtain ⟨⟨cur, T, hh⟩, h1, h2, h3⟩ := hall d hd
    refine ⟨h1, h2, fun e => ?_⟩
    rcases h.ofr d e with h9 | h9
    · have := (Array.getElem?_eq_some_iff.1 hh).1; omega
    · exact h3 h9
  · rcases h.ofr z hz with h9 | h9
    · exact ⟨by have := h.gm.2.1; omega, by have := h.gm.2.2.1; omega⟩
    · exact ⟨(h.gm.2.2.2 z h9).1, (h.gm.2.2.2 z h9).2.1⟩
  · rcases List.mem_append.1 hd with hd | hd
    · exact Or.inr (hin d hd)
    · exact Or.inl hd
end Go.Proofs.YtmhmlkdoaojimapGreatDoor

/- (*copier).copyOf: a copy in memory of its own. -/
namespace Go.Proofs.YtmhmlkdoaojimapGreatDoor
open Go.RowKit

set_option maxHeartbeats 4000000 in
set_option maxRecDepth 20000 in
theorem copy_of (t : Tm) (v : Value) (F : List Nat) (w : World) (gc m : Nat) (clk : Nat) (hown : Own 41 w t v F) (hnd : F.Nodup) (hwt : t.wt ≤ 1048576) (hc : w.heap[gc]? = some (.cells #[.map (some m), .int .i64 0, .slice none 0 0] 89 (0, 0))) (hm : w.heap[m]? = some (.map #[] clk)) (hF : ∀ f ∈ F, f ≠ gc ∧ f ≠ m) (hgm : gc ≠ m) :
    Calls Tryz.prog 63 #[.pointer (some ⟨gc, 0, none⟩), v] w fun e w' => ∃ v' F', e = .returned v' ∧ Own 41 w' t v' F' ∧ (∀ f ∈ F', w.heap.size ≤ f) ∧ F'.Nodup ∧ Out [gc, m] w w' := by
  obtain ⟨k, s, n, ks⟩ := t
  have hlt := Own.lt _ _ _ hown
  have hin := Own.toIn _ _ _ hown
  have hin' := hin
  unfold TmIn at hin
  obtain ⟨ao, cap, rfl, hk, hn, hs, hlen, hcap, _⟩ := hin
  obtain ⟨W, hW⟩ : ∃ W, W = (w.alloc (.cells #[.int .i64 k, .string s, .int .i64 n, .slice ao ks.length cap] 41)).alloc (.cells #[.int .i64 0, .string ⟨#[]⟩, .int .i64 0, .slice none 0 0] 41) := ⟨_, rfl⟩
  have bW : Below w.heap.size w W := by rw [hW]; exact ((Below.refl _ _).alloc (Nat.le_refl _) _).alloc (by simp) _
  have k1 : W.heap[w.heap.size]? = some (.cells #[.int .i64 k, .string s, .int .i64 n, .slice ao ks.length cap] 41 (0, 0)) := by rw [hW]; exact (alloc_old _ _ (by simp)).trans (alloc_at _ _ rfl)
  have k2 : W.heap[w.heap.size + 1]? = some (.cells #[.int .i64 0, .string ⟨#[]⟩, .int .i64 0, .slice none 0 0] 41 (0, 0)) := by rw [hW]; exact alloc_at _ _ (by simp)
  have lW : W.heap.size = w.heap.size + 2 := by rw [hW]; simp
  have HK : Hid (∀ w1, Below W.heap.size W w1 → w1.heap[w.heap.size]? = some (.cells #[.int .i64 k, .string s, .int .i64 n, .slice ao ks.length cap] 41 (0, 0)) ∧ w1.heap[w.heap.size + 1]? = some (.cells #[.int .i64 0, .string ⟨#[]⟩, .int .i64 0, .slice none 0 0] 41 (0, 0))) := fun w1 hb => ⟨(hb.block _ (by omega)).trans k1, (hb.block _ (by omega)).trans k2⟩
  have HBW : Hid (Below w.heap.size w W) := bW
  have hl20 : ks.length ≤ 1048576 := by
    have ew : (Tm.mk k s n ks).wt = s.size + (ks.length + wts ks) := by simp [Tm.wt, wts]; omega
    omega
  unfold maxLen at hcap
  have HOK := implOk _ W _ (TmIn.keep bW _ _ hin')
  have hright : ks.length = 0 ∨ (Tm.mk k s n ks).ok = true → Calls Tryz.prog 63 #[.pointer (some ⟨gc, 0, none⟩), .agg #[.int .i64 k, .string s, .int .i64 n, .slice ao ks.length cap]] w fun e w' => ∃ v' F', e = .returned v' ∧ Own 41 w' (.mk k s n ks) v' F' ∧ (∀ f ∈ F', w.heap.size ≤ f) ∧ F'.Nodup ∧ Out [gc, m] w w' := by
    intro hr
    have hsh : (Tm.mk k s n ks).shp 0 := by
      rcases hr with h | h
      · obtain rfl : ks = [] := List.eq_nil_of_length_eq_zero h
        rw [shp_mk]
        exact ⟨fun _ => by omega, Or.inl rfl, trivial⟩
      · unfold Tm.ok at h
        rw [Bool.and_eq_true] at h
        exact right_shp 0 (by omega) _ 1 h.2
    have HSR : Hid (∀ w1, Below W.heap.size W w1 → Calls Tryz.prog 73 #[.agg #[.int .i64 k, .string s, .int .i64 n, .slice ao ks.length cap], .int .i64 0] w1 fun e w' => ∃ v' F, e = .returned v' ∧ Own 41 w' (.mk k s n ks) v' F ∧ (∀ f ∈ F, w1.heap.size ≤ f) ∧ F.Nodup ∧ Below w1.heap.size w1 w') := fun w1 hb => by
      have := shifted_right 0 (.mk k s n ks) w1 _ (TmIn.keep (bW.trans (hb.mono bW.size)) _ _ hin') hwt hsh
      rwa [shift_zero] at this
    have HE : Hid (∀ w1 w2 v' F', Below W.heap.size W w1 → Own 41 w2 (.mk k s n ks) v' F' → (∀ f ∈ F', w1.heap.size ≤ f) → Below w1.heap.size w1 w2 → (∀ f ∈ F', w.heap.size ≤ f) ∧ ∀ d0 d1 d2 d3 w3, w3 = ((((w2.setCell ⟨w.heap.size + 1, 0, none⟩ d0).setCell ⟨w.heap.size + 1, 1, none⟩ d1).setCell ⟨w.heap.size + 1, 2, none⟩ d2).setCell ⟨w.heap.size + 1, 3, none⟩ d3) →
        Own 41 w3 (.mk k s n ks) v' F' ∧ Out [gc, m] w w3) := by
      intro w1 w2 v' F' hb1 ho hf hb2
      have hs1 := hb1.size
      refine ⟨fun f hf' => by have := hf f hf'; omega, fun d0 d1 d2 d3 w3 hw3 => ⟨Own.keep _ _ _ ho fun f hf' => ?_, ?_⟩⟩
      · have := hf f hf'
        rw [hw3, blk4_other (by omega)]
      · rw [hw3]
        exact Out.of_below (blk4_below (bW.trans ((hb1.trans (hb2.mono hb1.size)).mono bW.size)) (by omega))
    clear hsh hown hnd hc hm hF hlt hin' bW k1 k2 hwt
    by_cases hk0 : ks.length = 0
    · rw [hk0] at hW HK HSR ⊢
      have HS0 := HSR.out W (Below.refl _ _)
      rw [hW] at HS0
      replace HS0 : Hid _ := HS0
      clear HOK hr HSR hlen hl20
      go_enter Tryz.func63, Tryz.ntmps63
      go_wp2_with (go_at_call 73; refine (Calls.mono HS0.out ?_); rintro e w2 ⟨v', F2, rfl, ho, hfr, hnd, hb⟩; rw [← hW] at hfr hb; obtain ⟨k', s', n', ao', len', cap', rfl⟩ := own_shape ho; have hz := (HK.out w2 hb).2; obtain ⟨y0, y1, y2, y3, z0, z1, z2, z3⟩ := blk4 hz; have HX : Hid _ := HE.out W w2 _ F2 (Below.refl _ _) ho hfr hb; have HZ : Hid _ := hz; have HND : Hid F2.Nodup := hnd; clear ho hfr hb hz hnd)
      refine bodyPost_ret_by (results_cell_row rfl _ _ (w.heap.size + 1) 41 _ (0, 0) _ rfl (blk4_set HZ.out) Tryz.underlying41 rfl (by kernel_rfl)) rfl ?_
      exact ⟨_, F2, rfl, (HX.out.2 _ _ _ _ _ rfl).1, HX.out.1, HND.out, (HX.out.2 _ _ _ _ _ rfl).2⟩
    · have hok : (Tm.mk k s n ks).ok = true := by rcases hr with h | h; exact absurd h hk0; exact h
      rw [hok, hW] at HOK
      replace HOK : Hid _ := HOK
      have hk1 : ((ks.length : Int) == 0) = false := by rw [nat0]; exact decide_eq_false hk0
      clear hr hok
      go_enter Tryz.func63, Tryz.ntmps63
      go_wp2_with (first | (go_at_call 55; refine (Calls.mono HOK.out ?_); rintro e w1 ⟨rfl, hb⟩; rw [← hW] at hb; obtain ⟨x0, x1, x2, x3, _⟩ := blk4 (HK.out w1 hb).1; have HS1 : Hid _ := HSR.out w1 hb; have HB1 : Hid (Below W.heap.size W w1) := hb; clear hb) | (go_at_call 73; refine (Calls.mono HS1.out ?_); rintro e w2 ⟨v', F2, rfl, ho, hfr, hnd, hb⟩; obtain ⟨k', s', n', ao', len', cap', rfl⟩ := own_shape ho; have hz := (HK.out w2 (HB1.out.trans (hb.mono HB1.out.size))).2; obtain ⟨y0, y1, y2, y3, z0, z1, z2, z3⟩ := blk4 hz; have HX : Hid _ := HE.out w1 w2 _ F2 HB1.out ho hfr hb; have HZ : Hid _ := hz; have HND : Hid F2.Nodup := hnd; clear ho hfr hb hz hnd))
      refine bodyPost_ret_by (results_cell_row rfl _ _ (w.heap.size + 1) 41 _ (0, 0) _ rfl (blk4_set HZ.out) Tryz.underlying41 rfl (by kernel_rfl)) rfl ?_
      exact ⟨_, F2, rfl, (HX.out.2 _ _ _ _ _ rfl).1, HX.out.1, HND.out, (HX.out.2 _ _ _ _ _ rfl).2⟩
  by_cases hr : ks.length = 0 ∨ (Tm.mk k s n ks).ok = true
  · exact hright hr
  clear hright
  have hk0 : ¬ ks.length = 0 := fun h => hr (Or.inl h)
  have hok : (Tm.mk k s n ks).ok = false := by cases h : (Tm.mk k s n ks).ok with | false => rfl | true => exact absurd (Or.inr h) hr
  obtain ⟨R, hsrc, hsub⟩ := own_src _ _ _ hown
  have hgl : gc < w.heap.size := (Array.getElem?_eq_some_iff.1 hc).1
  have hml : m < w.heap.size := (Array.getElem?_eq_some_iff.1 hm).1
  have HST : Hid (∀ w1, Below W.heap.size W w1 → ∀ W2, W2 = w1.alloc (.cells #[.int .i64 k, .string s, .int .i64 n, .slice ao ks.length cap] 41) → Below w.heap.size w W2 ∧ Src 41 W2 (.mk k s n ks) (.agg #[.int .i64 k, .string s, .int .i64 n, .slice ao ks.length cap]) R ∧
      Rows0 W2 ((w1.heap.size, 1, [.int .i64 k, .string s, .int .i64 n, .slice ao ks.length cap]) :: R) gc m ∧ Cop W2 ((w1.heap.size, 1, [.int .i64 k, .string s, .int .i64 n, .slice ao ks.length cap]) :: R) W2 gc m (.slice none 0 0) [] [] (((w1.heap.size, 1, [.int .i64 k, .string s, .int .i64 n, .slice ao ks.length cap]) :: R) ++ []) ∧ W2.ownsRow 0 41 4 (.slice (some ⟨w1.heap.size, 0, none⟩) 1 1) 1 [.int .i64 k, .string s, .int .i64 n, .slice ao ks.length cap] ∧ SrcRow 41 W2 [.mk k s n ks] [.int .i64 k, .string s, .int .i64 n, .slice ao ks.length cap] R) := by
    intro w1 hb W2 hW2
    have hb2 : Below w1.heap.size w1 W2 := by rw [hW2]; exact (Below.refl _ _).alloc (Nat.le_refl _) _
    have hb1 := bW.trans (hb.mono bW.size)
    have hbb : Below w.heap.size w W2 := hb1.trans (hb2.mono hb1.size)
    have hs1 := hb.size
    have hsW2 : Src 41 W2 (.mk k s n ks) (.agg #[.int .i64 k, .string s, .int .i64 n, .slice ao ks.length cap]) R := Src.keep _ _ _ hsrc fun r hr' => hbb.block _ (hlt _ (hsub.subset (List.mem_map_of_mem hr')))
    refine ⟨hbb, hsW2, cop_start (F := F) (clk := clk) hsW2 hwt ⟨_, _, _, _, rfl, rfl⟩ hsub hnd (fun f hf => ⟨(hF f hf).1, (hF f hf).2, by have := hlt f hf; omega⟩) ⟨by omega, by omega⟩ ((hbb.block _ hgl).trans hc) ((hbb.block _ hml).trans hm) hgm ?_⟩
    rw [hW2]; exact heap_alloc_new w1 _
  have hk1 : ((ks.length : Int) == 0) = false := by rw [nat0]; exact decide_eq_false hk0
  rw [hok, hW] at HOK
  replace HOK : Hid _ := HOK
  clear hr hok hown hnd hc hm hF hlt hin' bW k1 k2 hwt hsrc hsub hk0
  go_enter Tryz.func63, Tryz.ntmps63
  go_wp2_with (first | (go_at_call 55; refine (Calls.mono HOK.out ?_); rintro e w1 ⟨rfl, hb⟩; rw [← hW] at hb; obtain ⟨x0, x1, x2, x3, _⟩ := blk4 (HK.out w1 hb).1; have HB1 : Hid (Below W.heap.size W w1) := hb; have HCA := (let h := HST.out w1 hb _ rfl; Cop.call (cap := 1) (ks := [Tm.mk k s n ks]) h.2.2.2.1 h.2.2.1 rfl h.2.2.2.2.2 h.2.2.2.2.1); replace HCA : Hid _ := HCA; clear hb) | (go_at_call 74; refine (Calls.mono HCA.out ?_); rintro e w3 ⟨g0, cap0, osl0, rfl, hcop⟩; have HCP : Hid _ := hcop; clear hcop))
  obtain ⟨W2, hW2⟩ : ∃ W2, W2 = w1.alloc (.cells #[.int .i64 k, .string s, .int .i64 n, .slice ao ks.length cap] 41) := ⟨_, rfl⟩
  obtain ⟨bs, hbs⟩ : ∃ bs, bs = w1.heap.size := ⟨_, rfl⟩
  obtain ⟨cs0, hcs0⟩ : ∃ cs0, cs0 = [Value.int .i64 k, .string s, .int .i64 n, .slice ao ks.length cap] := ⟨_, rfl⟩
  obtain ⟨R0, hR0⟩ : ∃ R0, R0 = (bs, 1, cs0) :: R := ⟨_, rfl⟩
  have hall := HST.out w1 HB1.out W2 hW2
  have hzz := HK.out w1 HB1.out
  have hq0 := HCP.out
  rw [← hW2] at hq0
  have hbb := hall.1
  have hsW2 := hall.2.1
  have h0 := hall.2.2.1
  clear hall
  rw [← hbs, ← hcs0, ← hR0] at h0 hq0
  have hw2s : w.heap.size + 2 ≤ W2.heap.size := by
    have := HB1.out.size
    rw [hW2]; simp; omega
  have hz2 : W2.heap[w.heap.size + 1]? = some (.cells #[.int .i64 0, .string ⟨#[]⟩, .int .i64 0, .slice none 0 0] 41 (0, 0)) := by
    rw [hW2]; exact (alloc_old _ _ (by have := HB1.out.size; omega)).trans hzz.2
  have HBB : Hid (Below w.heap.size w W2) := hbb
  have HS2 : Hid (Src 41 W2 (.mk k s n ks) (.agg #[.int .i64 k, .string s, .int .i64 n, .slice ao ks.length cap]) R) := hsW2
  have H0 : Hid (Rows0 W2 R0 gc m) := h0
  have HZ2 : Hid (W2.heap[w.heap.size + 1]? = some (.cells #[.int .i64 0, .string ⟨#[]⟩, .int .i64 0, .slice none 0 0] 41 (0, 0))) := hz2
  have HQ0 : Hid (∃ N, QC W2 R0 gc m bs g0 w3 N) := ⟨_, _, _, _, hq0, (fun p hp => by cases hp), ⟨⟨bs, 1, cs0, g0, cap0, [Tm.mk k s n ks], R⟩, by simp, rfl, rfl⟩, rfl⟩
  have HR0 : Hid (R0 = (bs, 1, cs0) :: R) := hR0
  have HCS0 : Hid (cs0 = [Value.int .i64 k, .string s, .int .i64 n, .slice ao ks.length cap]) := hcs0
  have hcap0 : cap0 ≤ maxLen := by
    rcases (hq0.op _ (List.mem_append_right _ (List.mem_singleton.2 rfl))).2 with ⟨h, _⟩ | ⟨_, _, _, h, _, _, _, h2, _⟩
    · cases h
    · cases h; exact h2
  unfold maxLen at hcap0
  clear hbb hsW2 h0 hz2 hq0 hzz hR0 hcs0 hW2 hbs HST HOK HCA HCP HB1 HK x0 x1 x2 x3 HBW hW lW
  go_loopw [] (fun wr => Hid (∃ N, QC W2 R0 gc m bs g0 wr N)) (fun wr => least (QC W2 R0 gc m bs g0 wr))
  case atStart => exact HQ0.out
  case round =>
    obtain ⟨C, O, osl, hI, hcl, hroot, hN⟩ := least_is hrel.out
    have HNL : Hid (R0.length - C.length = least (QC W2 R0 gc m bs g0 wr)) := hN
    obtain ⟨oo, ol, oc, rfl⟩ : ∃ oo ol oc, osl = .slice oo ol oc := by
      rcases hI.stack.2 with ⟨rfl, _⟩ | ⟨_, _, _, rfl, _⟩
      · exact ⟨_, _, _, rfl⟩
      · exact ⟨_, _, _, rfl⟩
    have hol : ol = O.length := by
      rcases hI.stack.2 with ⟨h, h'⟩ | ⟨_, _, _, h, _⟩
      · cases h; exact h'.symm
      · cases h; rfl
    have x2 : wr.cell? ⟨gc, 2, none⟩ = some (.slice oo ol oc) := blk_cell (i := 2) hI.cop (by simp)
    cases hO : O with
    | nil =>
      subst hO
      obtain rfl : ol = 0 := hol
      obtain ⟨y, hy, hyb, hyg⟩ := hroot
      simp only [List.append_nil] at hy
      obtain ⟨d0, d1, d2, d3, F', q0, q1, q2, q3, hown, hfr, hnd⟩ := hI.done H0.out hcl HR0.out HS2.out rfl HCS0.out hy hyb
      rw [hyg] at q0 q1 q2 q3
      have hzr : wr.heap[w.heap.size + 1]? = some (.cells #[.int .i64 0, .string ⟨#[]⟩, .int .i64 0, .slice none 0 0] 41 (0, 0)) := (hI.out.block _ (by omega) (by simp; omega)).trans HZ2.out
      obtain ⟨y0, y1, y2, y3, z0, z1, z2, z3⟩ := blk4 hzr
      obtain ⟨k', s', n', ao', len', cap', hsh⟩ := own_shape hown
      obtain ⟨rfl, rfl, rfl, rfl⟩ : d0 = .int .i64 k' ∧ d1 = .string s' ∧ d2 = .int .i64 n' ∧ d3 = .slice ao' len' cap' := by simpa using hsh
      have HZ : Hid _ := hzr
      have HEND : Hid (∀ w5, w5 = ((((wr.setCell ⟨w.heap.size + 1, 0, none⟩ (.int .i64 k')).setCell ⟨w.heap.size + 1, 1, none⟩ (.string s')).setCell ⟨w.heap.size + 1, 2, none⟩ (.int .i64 n')).setCell ⟨w.heap.size + 1, 3, none⟩ (.slice ao' len' cap')) → Own 41 w5 (.mk k s n ks) (.agg #[.int .i64 k', .string s', .int .i64 n', .slice ao' len' cap']) F' ∧ (∀ f ∈ F', w.heap.size ≤ f) ∧ F'.Nodup ∧ Out [gc, m] w w5) := by
        intro w5 hw5
        refine ⟨Own.keep _ _ _ hown fun f hf => ?_, fun f hf => ?_, hnd, ?_⟩
        · have := hfr f hf
          rw [hw5, blk4_other (by omega)]
        · have := hfr f hf; omega
        · have h1 : Out [gc, m] w wr := (Out.of_below HBB.out).trans hI.out
          refine ⟨by rw [hw5]; exact h1.os, by rw [hw5]; exact h1.tape, by rw [hw5]; exact h1.output, by rw [hw5]; simpa [World.setCell] using h1.size, fun f hf hn => ?_⟩
          rw [hw5, blk4_other (by omega)]
          exact h1.block f hf hn
      clear hI hcl hN hown hfr hnd hzr hsh hrel HNL
      go_wp2
      refine bodyPost_ret_by (results_cell_row rfl _ _ (w.heap.size + 1) 41 _ (0, 0) _ rfl (blk4_set HZ.out) Tryz.underlying41 rfl (by kernel_rfl)) rfl ?_
      exact ⟨_, F', rfl, HEND.out _ rfl⟩
    | cons o1 o2 =>
      have hne : O ≠ [] := by rw [hO]; simp
      clear hO
      obtain ⟨O', x, rfl⟩ : ∃ M p, O = M ++ [p] := ⟨O.dropLast, O.getLast hne, (List.dropLast_concat_getLast hne).symm⟩
      rw [List.length_append, List.length_singleton] at hol
      subst hol
      obtain ⟨ob, rfl⟩ : ∃ ob, oo = some ⟨ob, 0, none⟩ := by
        rcases hI.stack.2 with ⟨h, h'⟩ | ⟨_, _, _, h, _⟩
        · cases h
        · simp at h; exact ⟨_, h.1⟩
      have hstk := hI.stack
      have hoc : O'.length + 1 ≤ oc ∧ oc ≤ maxLen := by
        rcases hstk.2 with ⟨h, h'⟩ | ⟨_, _, _, h, _, _, h1, h2, _⟩
        · cases h
        · simp at h; rw [← h.2] at h1 h2; simp at h1; exact ⟨h1, h2⟩
      obtain ⟨hoc1, hoc2⟩ := hoc
      unfold maxLen at hoc2
      have hxe : wr.cell? ⟨ob, O'.length, none⟩ = some x.sl := by
        have := hstk.cells (g := ob) rfl O'.length x.sl (by simp)
        rwa [Addr.add_lit, Nat.zero_add] at this
      have hent := hI.ents x (by simp)
      have hxr : x.row ∈ R0 := hI.perm.mem_iff.1 (by simp)
      have hxc : CellsOk x.cs x.n 1048576 := H0.out.cells _ hxr
      have hd2 : wr.drew.cell? ⟨gc, 2, none⟩ = some (.slice (some ⟨ob, 0, none⟩) (O'.length + 1) oc) := cell_keep x2 (Below.refl _ _).drew
      have hde : wr.drew.cell? ⟨ob, O'.length, none⟩ = some x.sl := cell_keep hxe (Below.refl _ _).drew
      have hdd : wr.drew.drew.cell? ⟨gc, 2, none⟩ = some (.slice (some ⟨ob, 0, none⟩) (O'.length + 1) oc) := cell_keep x2 (Below.refl _ _).drew.drew
      have hdf : wr.drew.drew.frozen? ⟨gc, 2, none⟩ = false := blk_frozen (((Below.refl wr.heap.size wr).drew.drew.block gc (cell_blk x2)).trans hI.cop) _
      have hpop := hI.pop.below H0.out (Below.refl _ _).drew.drew
      have hxn : x.n ≤ 2097152 := by
        have h1 := hI.ns
        have h2 := H0.out.sum
        simp only [List.map_append, List.map_cons, List.map_nil, List.sum_append, List.sum_cons, List.sum_nil] at h1
        omega
      obtain ⟨hxk, hxn0, hxs⟩ := hent
      have hxcap : x.n ≤ x.cap ∧ x.cap ≤ maxLen := by
        rcases (hI.op x (by simp)).2 with ⟨h, h'⟩ | ⟨_, _, _, h, _, _, h1, h2, _⟩
        · cases h
        · simp only [Ent.sl] at h; cases h; exact ⟨h1, h2⟩
      obtain ⟨hxc1, hxc2⟩ := hxcap
      unfold maxLen at hxc2
      have HLEN : Hid (C.length < R0.length) := by
        have := hI.len
        simp only [List.length_append, List.length_singleton] at this
        show C.length < R0.length
        omega
      have HROOT : Hid (∃ y ∈ (C ++ [(x, 0)]).map (fun p : Ent × Nat => p.1) ++ O', y.b = bs ∧ y.g = g0) := by
        obtain ⟨y, hy, e⟩ := hroot
        refine ⟨y, ?_, e⟩
        simp only [List.mem_append, List.map_append, List.map_cons, List.map_nil, List.mem_singleton] at hy ⊢
        rcases hy with h | h | h <;> simp [h]
      have HCL : Hid (∀ p ∈ C, p.2 = p.1.n) := hcl
      have HXC : Hid (CellsOk x.cs x.n 1048576) := hxc
      have HXS : Hid (x.ks.length = x.n ∧ SrcRow 41 W2 x.ks x.cs x.R) := ⟨hxk, hxs⟩
      unfold Ent.sl at hde
      obtain ⟨w4, hw4⟩ : ∃ w4, w4 = (wr.setCell ⟨gc, 2, none⟩ (.slice (some ⟨ob, 0, none⟩) O'.length oc)).drew.drew := ⟨_, rfl⟩
      rw [← hw4] at hpop
      have HPOP : Hid (Cop W2 R0 w4 gc m (.slice (some ⟨ob, 0, none⟩) O'.length oc) (C ++ [(x, 0)]) O' x.R) := hpop
      clear hI hcl hroot hN hstk hxe hxr hxc hpop hxk hxs hrel hne
      go_wp2
      go_region
      go_wp2
      go_region
      rw [← hw4]
      clear hw4 hd2 hde hdd hdf x2
      go_wp2
      go_loopw [56] (fun vi wr => ∃ (j : Nat), j ≤ x.n ∧ vi = .int .i64 (j : Int) ∧ Hid (∃ O osl P, Cop W2 R0 wr gc m osl (C ++ [(x, j)]) O P ∧ SrcRow 41 W2 (x.ks.drop j) (x.cs.drop (j * 4)) P ∧ ∃ y ∈ (C ++ [(x, j)]).map (fun p : Ent × Nat => p.1) ++ O, y.b = bs ∧ y.g = g0)) (fun i _ => x.n - (intOf i).toNat)
      case atStart => exact ⟨0, by omega, rfl, _, _, _, HPOP.out, by simpa using HXS.out.2, HROOT.out⟩
      case round =>
        obtain ⟨j, hj, rfl, hrel⟩ := hrel
        obtain ⟨O, osl, P, hI, hsr, hroot⟩ := hrel.out
        by_cases hlt : j < x.n
        · have hlk : j < x.ks.length := by rw [HXS.out.1]; exact hlt
          rw [List.drop_eq_getElem_cons hlk] at hsr
          unfold SrcRow at hsr
          obtain ⟨c0, c1, c2, c3, cs', R1, R2, hcs, rfl, hs1, hs2⟩ := hsr
          generalize x.ks[j] = t1 at hs1
          obtain ⟨k1, s1, n1, ks1⟩ := t1
          unfold Src at hs1
          obtain ⟨ao1, cap1, hv1, _, _, _, hs1⟩ := hs1
          obtain ⟨rfl, rfl, rfl, rfl⟩ : c0 = .int .i64 k1 ∧ c1 = .string s1 ∧ c2 = .int .i64 n1 ∧ c3 = .slice ao1 ks1.length cap1 := by simpa using hv1
          have hc3 : x.cs[j * 4 + 3]? = some (.slice ao1 ks1.length cap1) := by
            have := congrArg (fun l : List Value => l[3]?) hcs
            simp only [List.getElem?_drop] at this
            simpa using this
          have hcs' : x.cs.drop ((j + 1) * 4) = cs' := by
            have := congrArg (List.drop 4) hcs
            rw [List.drop_drop] at this
            rw [show (j + 1) * 4 = j * 4 + 4 by omega, this]; rfl
          rw [← hcs'] at hs2
          obtain ⟨gg, cc, hA⟩ := hI.agree H0.out
          have hxrow := hI.cl (x, j) (by simp) gg cc hA
          have hxl := HXC.out.1
          have hcell : wr.cell? ⟨x.g, j * 4 + 3, none⟩ = some (.slice ao1 ks1.length cap1) := by
            have h1 := hxrow.cellAt (j * 4 + 3) (by simp only; omega)
            rw [half_at _ _ _ _ _ (by omega)] at h1
            exact h1.trans hc3
          have hnc : ∀ w', Below wr.heap.size wr w' → Cop W2 R0 w' gc m osl (C ++ [(x, j)]) O (R1 ++ R2) := fun w' hb => hI.below H0.out hb
          have HC3 : Hid (x.cs[j * 4 + 3]? = some (.slice ao1 ks1.length cap1)) := hc3
          have HS2 : Hid (SrcRow 41 W2 (x.ks.drop (j + 1)) (x.cs.drop ((j + 1) * 4)) R2) := hs2
          have HRT : Hid (∃ y ∈ (C ++ [(x, j)]).map (fun p : Ent × Nat => p.1) ++ O, y.b = bs ∧ y.g = g0) := hroot
          rcases hs1 with ⟨rfl, rfl⟩ | ⟨b1, cs1, R1', hks1, rfl, hrow1, rfl, hsr1⟩
          · have HN : Hid (Calls Tryz.prog 74 #[.pointer (some ⟨gc, 0, none⟩), .slice ao1 0 cap1] wr fun e w' => e = .returned (.slice none 0 0) ∧ Below wr.heap.size wr w') := list_nil wr gc ao1 cap1
            have HAF : Hid (∀ w', Below wr.heap.size wr w' → (∃ c, w'.cell? ⟨x.g, j * 4 + 3, none⟩ = some (.slice ao1 0 cap1) ∧ c = w'.frozen? ⟨x.g, j * 4 + 3, none⟩ ∧ c = false) ∧ ∀ w6, w6 = w'.setCell ⟨x.g, j * 4 + 3, none⟩ (.slice none 0 0) → Cop W2 R0 w6 gc m osl (C ++ [(x, j + 1)]) O R2) := fun w' hb => by
              have h1 := hnc w' hb
              refine ⟨⟨_, cell_keep hcell hb, rfl, ?_⟩, fun w6 hw6 => ?_⟩
              · exact row_frozen (row_keep hxrow (hb.block _ (row_lt0 hxrow rfl))) _
              · rw [hw6]
                exact h1.store HXC.out hlt HC3.out fun gg cc _ => cpV_nil gg cc ao1 cap1
            clear hI hcs hv1 hc3 hcs' hs2 hxrow hnc hrel hroot hA
            go_wp2_with (go_at_call 74; refine (Calls.mono HN.out ?_); rintro e w5 ⟨rfl, hb⟩; obtain ⟨⟨_, q1, rfl, q2⟩, q3⟩ := HAF.out w5 hb; have HQ3 : Hid _ := q3; clear hb q3)
            go_roundw
            case rel => exact ⟨j + 1, by omega, by go_num, O, osl, R2, HQ3.out _ rfl, HS2.out, by obtain ⟨y, hy, e⟩ := HRT.out; exact ⟨y, by simpa using hy, e⟩⟩
            case measure => simp [intOf]; omega
          · have hl1 : 0 < ks1.length := by cases ks1 with | nil => exact absurd rfl hks1 | cons _ _ => simp
            have HN := Cop.call (cap := cap1) (ks := ks1) hI H0.out rfl hsr1 hrow1
            replace HN : Hid _ := HN
            have HAF : Hid (∀ w' g' cap' osl', Cop W2 R0 w' gc m osl' (C ++ [(x, j)]) (O ++ [⟨b1, ks1.length, cs1, g', cap', ks1, R1'⟩]) R2 → (∃ c, w'.cell? ⟨x.g, j * 4 + 3, none⟩ = some (.slice (some ⟨b1, 0, none⟩) ks1.length cap1) ∧ c = w'.frozen? ⟨x.g, j * 4 + 3, none⟩ ∧ c = false) ∧ ∀ w6, w6 = w'.setCell ⟨x.g, j * 4 + 3, none⟩ (.slice (some ⟨g', 0, none⟩) ks1.length cap') → Cop W2 R0 w6 gc m osl' (C ++ [(x, j + 1)]) (O ++ [⟨b1, ks1.length, cs1, g', cap', ks1, R1'⟩]) R2) := fun w' g' cap' osl' h1 => by
              obtain ⟨gg, cc, hA⟩ := h1.agree H0.out
              have hr1 := h1.cl (x, j) (by simp) gg cc hA
              refine ⟨⟨_, ?_, rfl, row_frozen hr1 _⟩, fun w6 hw6 => ?_⟩
              · have h2 := hr1.cellAt (j * 4 + 3) (by simp only; omega)
                rw [half_at _ _ _ _ _ (by omega)] at h2
                exact h2.trans HC3.out
              · rw [hw6]
                refine h1.store HXC.out hlt HC3.out fun gg cc hA' => ?_
                obtain ⟨e1, e2⟩ := hA' ⟨b1, ks1.length, cs1, g', cap', ks1, R1'⟩ (by simp)
                rw [cpV_some _ _ _ _ _ hl1]
                simp only at e1 e2
                rw [e1, e2]
            have hcap1 : cap1 ≤ maxLen ∧ ks1.length ≤ cap1 := by
              rcases hrow1.2 with ⟨h, _⟩ | ⟨_, _, _, h, _, _, h1, h2, _⟩
              · cases h
              · cases h; exact ⟨h2, h1⟩
            clear hI hcs hv1 hc3 hcs' hs2 hxrow hnc hrel hroot hA hsr1 hrow1
            go_wp2_with (go_at_call 74; refine (Calls.mono HN.out ?_); rintro e w5 ⟨g', cap', osl', rfl, hcp⟩; obtain ⟨⟨_, q1, rfl, q2⟩, q3⟩ := HAF.out w5 g' cap' osl' hcp; have HQ3 : Hid _ := q3; clear hcp q3)
            go_roundw
            case rel => exact ⟨j + 1, by omega, by go_num, _, osl', R2, HQ3.out _ rfl, HS2.out, by obtain ⟨y, hy, e⟩ := HRT.out; exact ⟨y, (by simp only [List.mem_append, List.map_append, List.map_cons, List.map_nil, List.mem_singleton] at hy ⊢; rcases hy with (h | h) | h <;> simp [h]), e⟩⟩
            case measure => simp [intOf]; omega
        · obtain rfl : j = x.n := by omega
          have hP : P = [] := by
            rw [List.drop_eq_nil_of_le (by rw [HXS.out.1]; omega)] at hsr
            unfold SrcRow at hsr
            exact hsr.2
          subst hP
          have HQ : Hid (∃ N, QC W2 R0 gc m bs g0 wr N ∧ N + 1 = R0.length - C.length) := by
            refine ⟨R0.length - (C ++ [(x, x.n)]).length, ⟨C ++ [(x, x.n)], O, osl, hI, fun p hp => ?_, hroot, rfl⟩, ?_⟩
            · rcases List.mem_append.1 hp with hp | hp
              · exact HCL.out p hp
              · rw [List.mem_singleton] at hp; subst hp; rfl
            · have := HLEN.out
              rw [List.length_append, List.length_singleton]
              omega
          clear hI hsr hroot hrel
          go_wp2
          go_roundw
          case rel => obtain ⟨N, h1, _⟩ := HQ.out; exact ⟨N, h1⟩
          case measure =>
            obtain ⟨N, h1, h2⟩ := HQ.out
            have h3 := least_le h1
            have h4 := HNL.out
            omega
end Go.Proofs.YtmhmlkdoaojimapGreatDoor

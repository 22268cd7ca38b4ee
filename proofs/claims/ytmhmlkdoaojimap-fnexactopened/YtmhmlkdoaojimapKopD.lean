/- The copier used again: one list copied, what stands at first and at the end. -/
import Derived.Test.YtmhmlkdoaojimapMrg18
import Derived.Test.YtmhmlkdoaojimapCopD
namespace Go.Proofs.Ytmhmlkdoaojimap
open Go.RowKit

theorem Kop.call {w0 w : World} {R0 : List Row} {T0 : Nat} {D0 Z : List Nat} {gc m : Nat} {osl : Value} {C : List (Ent × Nat)} {O : List Ent} {P : List Row} {b n cap : Nat} {cs : List Value} {ks : List Tm} {R : List Row} (h : Kop w0 R0 T0 D0 Z w gc m osl C O (((b, n, cs) :: R) ++ P)) (h0 : Rows1 w0 R0 gc m T0 D0 Z) (hk : ks.length = n) (hs : SrcRow 54 w0 ks cs R)
    (hrow : w0.ownsRow 0 54 4 (.slice (some ⟨b, 0, none⟩) n cap) n cs) :
    Calls Try.prog 52 #[.pointer (some ⟨gc, 0, none⟩), .slice (some ⟨b, 0, none⟩) n cap] w fun e w' => ∃ g cap' osl', e = .returned (.slice (some ⟨g, 0, none⟩) n cap') ∧ Kop w0 R0 T0 D0 Z w' gc m osl' C (O ++ [⟨b, n, cs, g, cap', ks, R⟩]) P := by
  have hmem : (b, n, cs) ∈ R0 := h.perm.mem_iff.1 (by simp)
  have hn := h0.pos _ hmem
  have hcs := h0.cells _ hmem
  have hns := h.ns
  have hsum := h0.sum
  have hlen := h.len
  have hl0 := rows_len R0 h0.pos
  have hne := h0.ne _ hmem
  have hn2 : n ≤ 2097152 := by
    simp only [List.map_append, List.map_cons, List.sum_append, List.sum_cons, List.cons_append] at hns
    omega
  have hT : T0 + ((C.map (·.1) ++ O).map (·.n)).sum ≤ 4194304 := by have := h0.tb; omega
  have hD : b ∉ (C.map (·.1) ++ O).map (·.b) ++ D0 := fun hb => by
    rcases List.mem_append.1 hb with hb | hb
    · have hnd := h.bs.nodup_iff.2 h0.nd
      exact (List.nodup_append.1 hnd).2.2 b hb b (by simp) rfl
    · exact h0.dj _ hmem hb
  have hkeep : ∀ r ∈ R0, w.heap[r.1]? = w0.heap[r.1]? := fun r hr => by
    obtain ⟨c, hc⟩ := h0.rin r hr
    exact h.out.block r.1 (hc.lt r.1 rfl).2 (by have := h0.ne r hr; simp [this])
  have hDP : DPB w ((C.map (·.1) ++ O).map (·.b) ++ D0) := fun f hf => by
    rcases List.mem_append.1 hf with hf | hf
    case inr =>
      obtain ⟨cur, T', hh⟩ := h0.dp f hf
      exact ⟨cur, T', (h.out.block f (Array.getElem?_eq_some_iff.1 hh).1 (by have := h0.dk f hf; simp [this])).trans hh⟩
    obtain ⟨x, hx, rfl⟩ := List.mem_map.1 hf
    have hr : x.row ∈ R0 := h.perm.mem_iff.1 (List.mem_append_left _ (List.mem_map_of_mem hx))
    obtain ⟨c, hc⟩ := h0.rin _ hr
    rcases hc.2 with ⟨e, _⟩ | ⟨g, c', cur, e, _, hh, _⟩
    · cases e
    · cases e; exact ⟨cur, _, (hkeep _ hr).trans hh⟩
  have ho1 : osl.ownBlock ≠ some gc := fun e => (h.ofr _ e).elim (fun h9 => by have := h.gm.2.1; omega) fun h9 => (h.gm.2.2.2 _ h9).1 rfl
  have ho2 : osl.ownBlock ≠ some m := fun e => (h.ofr _ e).elim (fun h9 => by have := h.gm.2.2.1; omega) fun h9 => (h.gm.2.2.2 _ h9).2.1 rfl
  refine Calls.mono (list_copied w gc m b n cap 1048576 O.length _ osl _ cs (O.map Ent.sl) h.cop h.map hD hDP (row_keep hrow (hkeep _ hmem)) hcs (Nat.le_refl _) hn (by omega) ⟨by omega, by omega⟩ h.stack (by omega) h.gm.1 ho1 ho2) ?_
  rintro e w' ⟨g, cap', osl', rfl, r1, r2, r3, r4, r5, r6, r7⟩
  exact ⟨g, cap', osl', rfl, h.push h0 hk hn hs r1 r2 r3 r4 r5 r6 r7⟩

/-- the copier between two terms -/
structure KSt (w : World) (gc m T0 : Nat) (D0 : List Nat) (osl : Value) : Prop where
  gm : gc ≠ m
  cop : w.heap[gc]? = some (.cells #[.map (some m), .int .i64 (T0 : Int), osl] 72 (0, 0))
  map : CMapAt w m D0
  dp : DPB w D0
  dk : ∀ d ∈ D0, d ≠ gc ∧ d ≠ m ∧ osl.ownBlock ≠ some d
  stack : w.ownsRow 0 52 1 osl 0 []
  zz : ∀ z, osl.ownBlock = some z → z ≠ gc ∧ z ≠ m
theorem KSt.turn {w w' : World} {gc m T0 : Nat} {D0 : List Nat} {osl : Value} (h : KSt w gc m T0 D0 osl) (hb : ∀ k, (k = gc ∨ k = m ∨ k ∈ D0 ∨ osl.ownBlock = some k) → w'.heap[k]? = w.heap[k]?) : KSt w' gc m T0 D0 osl :=
  ⟨h.gm, (hb _ (Or.inl rfl)).trans h.cop, by obtain ⟨es, cl, h1, h2⟩ := h.map; exact ⟨es, cl, (hb _ (Or.inr (Or.inl rfl))).trans h1, h2⟩,
    fun f hf => by obtain ⟨cur, T, hh⟩ := h.dp f hf; exact ⟨cur, T, (hb f (Or.inr (Or.inr (Or.inl hf)))).trans hh⟩, h.dk, row_turn0 h.stack fun b e => hb b (Or.inr (Or.inr (Or.inr e))), h.zz⟩
theorem KSt.lt {w : World} {gc m T0 : Nat} {D0 : List Nat} {osl : Value} (h : KSt w gc m T0 D0 osl) : ∀ k, (k = gc ∨ k = m ∨ k ∈ D0 ∨ osl.ownBlock = some k) → k < w.heap.size := fun k hk => by
  rcases hk with rfl | rfl | hk | hk
  · exact (Array.getElem?_eq_some_iff.1 h.cop).1
  · obtain ⟨es, cl, h1, h2⟩ := h.map; exact (Array.getElem?_eq_some_iff.1 h1).1
  · obtain ⟨cur, T, hh⟩ := h.dp k hk; exact (Array.getElem?_eq_some_iff.1 hh).1
  · exact row_lt0 h.stack hk
theorem KSt.keep {w w' : World} {gc m T0 : Nat} {D0 : List Nat} {osl : Value} (h : KSt w gc m T0 D0 osl) (hb : Below w.heap.size w w') : KSt w' gc m T0 D0 osl := h.turn fun k hk => hb.block k (h.lt k hk)
/-- a new copier -/
theorem kst_new {w : World} {gc m clk : Nat} (hc : w.heap[gc]? = some (.cells #[.map (some m), .int .i64 0, .slice none 0 0] 72 (0, 0))) (hm : w.heap[m]? = some (.map #[] clk)) (hgm : gc ≠ m) : KSt w gc m 0 [] (.slice none 0 0) :=
  ⟨hgm, by simpa using hc, ⟨#[], clk, hm, fun e he => (by cases he)⟩, fun f hf => (by cases hf), fun d hd => (by cases hd), ⟨by simp, Or.inl ⟨rfl, rfl⟩⟩, fun z hz => (by cases hz)⟩

def QK (w0 : World) (R0 : List Row) (T0 : Nat) (D0 Z : List Nat) (gc m bs g0 : Nat) (wr : World) (N : Nat) : Prop := ∃ C O osl, Kop w0 R0 T0 D0 Z wr gc m osl C O [] ∧ (∀ p ∈ C, p.2 = p.1.n) ∧ (∃ y ∈ C.map (·.1) ++ O, y.b = bs ∧ y.g = g0) ∧ R0.length - C.length = N

/-- at first: nothing of the term is copied yet -/
theorem kop_start {t : Tm} {w : World} {v : Value} {R : List Row} {F : List Nat} {gc m bs T0 : Nat} {D0 : List Nat} {osl : Value} {cs0 : List Value} (hs : Src 54 w t v R) (hwt : t.wt ≤ 1048576) (hv : ∃ c0 c1 c2 c3, v = .agg #[c0, c1, c2, c3] ∧ cs0 = [c0, c1, c2, c3]) (hsub : (R.map (·.1)).Sublist F) (hnd : F.Nodup) (hF : ∀ f ∈ F, f ≠ gc ∧ f ≠ m ∧ f < bs ∧ osl.ownBlock ≠ some f ∧ f ∉ D0) (hb : bs ≠ gc ∧ bs ≠ m ∧ osl.ownBlock ≠ some bs ∧ bs ∉ D0)
    (hk : KSt w gc m T0 D0 osl) (hT : T0 ≤ 2097152) (hbs : w.heap[bs]? = some (.cells cs0.toArray 54 (0, 0))) :
    Rows1 w ((bs, 1, cs0) :: R) gc m T0 D0 osl.ownBlock.toList ∧ Kop w ((bs, 1, cs0) :: R) T0 D0 osl.ownBlock.toList w gc m osl [] [] (((bs, 1, cs0) :: R) ++ []) ∧ w.ownsRow 0 54 4 (.slice (some ⟨bs, 0, none⟩) 1 1) 1 cs0 ∧ SrcRow 54 w [t] cs0 R := by
  obtain ⟨c0, c1, c2, c3, rfl, rfl⟩ := hv
  have hown : w.ownsRow 0 54 4 (.slice (some ⟨bs, 0, none⟩) 1 1) 1 [c0, c1, c2, c3] := ⟨rfl, Or.inr ⟨bs, 1, #[c0, c1, c2, c3], rfl, Nat.zero_le _, hbs, Nat.le_refl _, by unfold maxLen; omega, rfl, rfl⟩⟩
  have hsr : SrcRow 54 w [t] [c0, c1, c2, c3] R := by
    unfold SrcRow
    exact ⟨c0, c1, c2, c3, [], R, [], rfl, by simp, hs, by unfold SrcRow; exact ⟨rfl, rfl⟩⟩
  obtain ⟨s1, s2⟩ := Src.rows t _ R hs
  have s3 := Src.all 1048576 t _ R hs hwt
  have s4 : CellsOk [c0, c1, c2, c3] 1 1048576 := srcRow_cells 1048576 [t] _ R hsr (by simp [wts, Tm.wt.wts]; omega)
  have hR : ∀ r ∈ R, r.1 ∈ F := fun r hr => hsub.subset (List.mem_map_of_mem hr)
  have hz : ∀ z ∈ osl.ownBlock.toList, osl.ownBlock = some z := fun z hz => by simpa using hz
  refine ⟨⟨?_, ?_, ?_, ?_, ?_, ?_, ?_, hk.dp, ?_, hT⟩, ⟨Out.refl _ _, ⟨hk.gm, hk.lt _ (Or.inl rfl), hk.lt _ (Or.inr (Or.inl rfl)), fun z h => ⟨(hk.zz z (hz z h)).1, (hk.zz z (hz z h)).2, hk.lt _ (Or.inr (Or.inr (Or.inr (hz z h))))⟩⟩, fun x hx => (by cases hx), by simp, by simp, fun x hx => (by cases hx), fun z h => Or.inr (by simpa using h), fun p hp => (by cases hp), fun x hx => (by cases hx), by simpa using hk.cop, by simpa using hk.map, by simpa using hk.stack⟩, hown, hsr⟩
  · rw [List.map_cons, List.nodup_cons]
    refine ⟨fun h => ?_, hsub.nodup hnd⟩
    have := (hF _ (hsub.subset h)).2.2.1
    simp at this
  · intro r hr
    rcases List.mem_cons.1 hr with rfl | hr
    · exact ⟨1, hown⟩
    · exact s1 r hr
  · intro r hr
    rcases List.mem_cons.1 hr with rfl | hr
    · exact ⟨hb.1, hb.2.1, fun h => hb.2.2.1 (hz _ h)⟩
    · have h1 := hF _ (hR r hr)
      exact ⟨h1.1, h1.2.1, fun h => h1.2.2.2.1 (hz _ h)⟩
  · intro r hr
    rcases List.mem_cons.1 hr with rfl | hr
    · exact s4
    · exact (s3 r hr).1
  · simp only [List.map_cons, List.sum_cons]; omega
  · intro r hr
    rcases List.mem_cons.1 hr with rfl | hr
    · show 0 < 1; omega
    · exact (s3 r hr).2
  · intro r hr
    rcases List.mem_cons.1 hr with rfl | hr
    · exact hb.2.2.2
    · exact (hF _ (hR r hr)).2.2.2.2
  · exact fun d hd => ⟨(hk.dk d hd).1, (hk.dk d hd).2.1, fun h => (hk.dk d hd).2.2 (hz _ h)⟩

/-- at the end: the copier between two terms again -/
theorem kop_end {w0 w : World} {R0 : List Row} {T0 : Nat} {D0 Z : List Nat} {gc m : Nat} {osl : Value} {C : List (Ent × Nat)} (h : Kop w0 R0 T0 D0 Z w gc m osl C [] []) (h0 : Rows1 w0 R0 gc m T0 D0 Z) :
    KSt w gc m (T0 + (R0.map (·.2.1)).sum) ((C.map (·.1)).map (·.b) ++ D0) osl ∧ ∀ d ∈ (C.map (·.1)).map (·.b) ++ D0, d ∈ D0 ∨ d ∈ R0.map (·.1) := by
  have hns := h.ns
  simp only [List.append_nil, List.flatMap_nil, List.map_nil, List.sum_nil, Nat.add_zero] at hns
  have hbs := h.bs
  simp only [List.append_nil, List.flatMap_nil, List.map_nil] at hbs
  have hin : ∀ d ∈ (C.map (·.1)).map (·.b), d ∈ R0.map (·.1) := fun d hd => hbs.mem_iff.1 hd
  have hc := h.cop
  have hm := h.map
  simp only [List.append_nil] at hc hm
  rw [hns] at hc
  have hblk : ∀ d ∈ R0.map (·.1), ∃ cur T, w0.heap[d]? = some (.cells cur T (0, 0)) := fun d hd => by
    obtain ⟨r, hr, rfl⟩ := List.mem_map.1 hd
    obtain ⟨c, hc⟩ := h0.rin r hr
    rcases hc.2 with ⟨e, _⟩ | ⟨g, c', cur, e, _, hh, _⟩
    · cases e
    · cases e; exact ⟨cur, _, hh⟩
  have hnz : ∀ d ∈ R0.map (·.1), d ≠ gc ∧ d ≠ m ∧ d ∉ Z := fun d hd => by
    obtain ⟨r, hr, rfl⟩ := List.mem_map.1 hd
    exact h0.ne r hr
  have hall : ∀ d ∈ (C.map (·.1)).map (·.b) ++ D0, (∃ cur T, w0.heap[d]? = some (.cells cur T (0, 0))) ∧ d ≠ gc ∧ d ≠ m ∧ d ∉ Z := fun d hd => by
    rcases List.mem_append.1 hd with hd | hd
    · exact ⟨hblk d (hin d hd), hnz d (hin d hd)⟩
    · exact ⟨h0.dp d hd, h0.dk d hd⟩
  refine ⟨⟨h.gm.1, hc, hm, fun d hd => ?_, fun d hd => ?_, h.stack, fun z hz => ?_⟩, fun d hd => ?_⟩
  · obtain ⟨⟨cur, T, hh⟩, h1, h2, h3⟩ := hall d hd
    exact ⟨cur, T, (h.out.block d (Array.getElem?_eq_some_iff.1 hh).1 (by simp [h1, h2, h3])).trans hh⟩
  · obtain ⟨⟨cur, T, hh⟩, h1, h2, h3⟩ := hall d hd
    refine ⟨h1, h2, fun e => ?_⟩
    rcases h.ofr d e with h9 | h9
    · have := (Array.getElem?_eq_some_iff.1 hh).1; omega
    · exact h3 h9
  · rcases h.ofr z hz with h9 | h9
    · exact ⟨by have := h.gm.2.1; omega, by have := h.gm.2.2.1; omega⟩
    · exact ⟨(h.gm.2.2.2 z h9).1, (h.gm.2.2.2 z h9).2.1⟩
  · rcases List.mem_append.1 hd with hd | hd
    · exact Or.inr (hin d hd)
    · exact Or.inl hd
end Go.Proofs.Ytmhmlkdoaojimap

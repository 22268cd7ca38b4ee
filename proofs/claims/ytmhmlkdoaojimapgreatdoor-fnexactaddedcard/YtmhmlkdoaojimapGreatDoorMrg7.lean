/- Four texts in one. -/
import Derived.Test.YtmhmlkdoaojimapGreatDoorMrg1
import Derived.Test.YtmhmlkdoaojimapGreatDoorRows
import Derived.Maps.AppendAt
import Derived.ProofKit
import Derived.WalkKit
/- Rows of terms that are copied: what is copied, and what the copies come to. Of no program. -/
namespace Go.Proofs.YtmhmlkdoaojimapGreatDoor
open Go.RowKit

/-- a row: its block, how many terms, its cells -/
abbrev Row := Nat × Nat × List Value

mutual
/-- the value v is the term in w; its rows that are not empty, each in a block of its own -/
def Src (e : TypeId) (w : World) : Tm → Value → List Row → Prop
  | .mk k s n ks, v, R => ∃ ao cap, v = .agg #[.int .i64 k, .string s, .int .i64 n, .slice ao ks.length cap] ∧ (-9223372036854775808 ≤ k ∧ k ≤ 9223372036854775807) ∧ (-9223372036854775808 ≤ n ∧ n ≤ 9223372036854775807) ∧ s.size ≤ maxLen ∧
    ((ks = [] ∧ R = []) ∨ ∃ g cs R', ks ≠ [] ∧ ao = some ⟨g, 0, none⟩ ∧ w.ownsRow 0 e 4 (.slice (some ⟨g, 0, none⟩) ks.length cap) ks.length cs ∧ R = (g, ks.length, cs) :: R' ∧ SrcRow e w ks cs R')
def SrcRow (e : TypeId) (w : World) : List Tm → List Value → List Row → Prop
  | [], cs, R => cs = [] ∧ R = []
  | t :: ts, cs, R => ∃ c0 c1 c2 c3 cs' R1 R2, cs = c0 :: c1 :: c2 :: c3 :: cs' ∧ R = R1 ++ R2 ∧ Src e w t (.agg #[c0, c1, c2, c3]) R1 ∧ SrcRow e w ts cs' R2
end

mutual
theorem own_src {e : TypeId} {w : World} : ∀ (t : Tm) (v : Value) (F : List Nat), Own e w t v F → ∃ R, Src e w t v R ∧ (R.map (·.1)).Sublist F
  | .mk k s n ks, v, F, h => by
    unfold Own at h
    obtain ⟨sl, rfl, h1, h2, h3, h4⟩ := h
    rcases h4 with ⟨rfl, rfl, rfl⟩ | ⟨g, cap, cs, F', rfl, h5, rfl, h6⟩
    · exact ⟨[], by unfold Src; exact ⟨none, 0, rfl, h1, h2, h3, Or.inl ⟨rfl, rfl⟩⟩, List.Sublist.refl _⟩
    · by_cases h0 : ks = []
      · subst h0
        exact ⟨[], by unfold Src; exact ⟨_, _, rfl, h1, h2, h3, Or.inl ⟨rfl, rfl⟩⟩, List.nil_sublist _⟩
      · obtain ⟨R, hR, hs⟩ := ownRow_src ks cs F' h6
        exact ⟨(g, ks.length, cs) :: R, by unfold Src; exact ⟨_, _, rfl, h1, h2, h3, Or.inr ⟨g, cs, R, h0, rfl, h5, rfl, hR⟩⟩, by simpa using hs.cons_cons g⟩
theorem ownRow_src {e : TypeId} {w : World} : ∀ (ks : List Tm) (cs : List Value) (F : List Nat), OwnRow e w ks cs F → ∃ R, SrcRow e w ks cs R ∧ (R.map (·.1)).Sublist F
  | [], cs, F, h => by
    unfold OwnRow at h
    obtain ⟨rfl, rfl⟩ := h
    exact ⟨[], by unfold SrcRow; exact ⟨rfl, rfl⟩, List.Sublist.refl _⟩
  | t :: ts, cs, F, h => by
    unfold OwnRow at h
    obtain ⟨c0, c1, c2, c3, cs', F1, F2, rfl, rfl, h1, h2⟩ := h
    obtain ⟨R1, a1, a2⟩ := own_src t _ F1 h1
    obtain ⟨R2, b1, b2⟩ := ownRow_src ts cs' F2 h2
    exact ⟨R1 ++ R2, by unfold SrcRow; exact ⟨c0, c1, c2, c3, cs', R1, R2, rfl, rfl, a1, b1⟩, by rw [List.map_append]; exact a2.append b2⟩
end

mutual
theorem Src.keep {e : TypeId} {w w' : World} : ∀ (t : Tm) (v : Value) (R : List Row), Src e w t v R → (∀ r ∈ R, w'.heap[r.1]? = w.heap[r.1]?) → Src e w' t v R
  | .mk k s n ks, v, R, h, hF => by
    unfold Src at h ⊢
    obtain ⟨ao, cap, rfl, h1, h2, h3, h4⟩ := h
    refine ⟨ao, cap, rfl, h1, h2, h3, ?_⟩
    rcases h4 with h4 | ⟨g, cs, R', h0, rfl, h5, rfl, h6⟩
    · exact Or.inl h4
    · exact Or.inr ⟨g, cs, R', h0, rfl, row_keep h5 (hF (g, ks.length, cs) (by simp)), rfl, SrcRow.keep ks cs R' h6 (fun r hr => hF r (by simp [hr]))⟩
theorem SrcRow.keep {e : TypeId} {w w' : World} : ∀ (ks : List Tm) (cs : List Value) (R : List Row), SrcRow e w ks cs R → (∀ r ∈ R, w'.heap[r.1]? = w.heap[r.1]?) → SrcRow e w' ks cs R
  | [], _, _, h, _ => by unfold SrcRow at h ⊢; exact h
  | t :: ts, cs, R, h, hF => by
    unfold SrcRow at h ⊢
    obtain ⟨c0, c1, c2, c3, cs', R1, R2, rfl, rfl, h1, h2⟩ := h
    exact ⟨c0, c1, c2, c3, cs', R1, R2, rfl, rfl, Src.keep t _ R1 h1 (fun f hf => hF f (by simp [hf])), SrcRow.keep ts cs' R2 h2 (fun f hf => hF f (by simp [hf]))⟩
end

/-- a row's block is one of cells, of that length -/
def RowIn (e : TypeId) (w : World) (r : Row) : Prop := ∃ cap, w.ownsRow 0 e 4 (.slice (some ⟨r.1, 0, none⟩) r.2.1 cap) r.2.1 r.2.2

mutual
theorem Src.rows {e : TypeId} {w : World} : ∀ (t : Tm) (v : Value) (R : List Row), Src e w t v R → (∀ r ∈ R, RowIn e w r) ∧ (R.map (·.2.1)).sum ≤ t.wt
  | .mk k s n ks, v, R, h => by
    unfold Src at h
    obtain ⟨ao, cap, rfl, h1, h2, h3, h4⟩ := h
    have ew : (Tm.mk k s n ks).wt = s.size + (ks.length + wts ks) := by simp [Tm.wt, wts]; omega
    rw [ew]
    rcases h4 with ⟨rfl, rfl⟩ | ⟨g, cs, R', h0, rfl, h5, rfl, h6⟩
    · exact ⟨by simp, by simp⟩
    · obtain ⟨a1, a2⟩ := SrcRow.rows ks cs R' h6
      refine ⟨fun r hr => ?_, by simp; omega⟩
      rcases List.mem_cons.1 hr with rfl | hr
      · exact ⟨cap, h5⟩
      · exact a1 r hr
theorem SrcRow.rows {e : TypeId} {w : World} : ∀ (ks : List Tm) (cs : List Value) (R : List Row), SrcRow e w ks cs R → (∀ r ∈ R, RowIn e w r) ∧ (R.map (·.2.1)).sum ≤ wts ks
  | [], _, _, h => by unfold SrcRow at h; obtain ⟨_, rfl⟩ := h; exact ⟨by simp, by simp⟩
  | t :: ts, cs, R, h => by
    unfold SrcRow at h
    obtain ⟨c0, c1, c2, c3, cs', R1, R2, rfl, rfl, h1, h2⟩ := h
    obtain ⟨a1, a2⟩ := Src.rows t _ R1 h1
    obtain ⟨b1, b2⟩ := SrcRow.rows ts cs' R2 h2
    refine ⟨fun r hr => ?_, ?_⟩
    · rcases List.mem_append.1 hr with hr | hr
      · exact a1 r hr
      · exact b1 r hr
    · rw [List.map_append, List.sum_append]
      show _ ≤ Tm.wt.wts (t :: ts)
      simp only [Tm.wt.wts]
      unfold wts at b2
      omega
end

/-- the cells of a row: four a term, their texts no longer than they weigh -/
def CellsOk (cs : List Value) (n L : Nat) : Prop := cs.length = n * 4 ∧ ∀ j, j < n → ∃ k s i ao m cap, cs[j * 4]? = some (.int .i64 k) ∧ cs[j * 4 + 1]? = some (.string s) ∧ cs[j * 4 + 2]? = some (.int .i64 i) ∧ cs[j * 4 + 3]? = some (.slice ao m cap) ∧ s.size ≤ L

theorem srcRow_cells {e : TypeId} {w : World} (L : Nat) : ∀ (ks : List Tm) (cs : List Value) (R : List Row), SrcRow e w ks cs R → wts ks ≤ L → CellsOk cs ks.length L
  | [], _, _, h, _ => by unfold SrcRow at h; obtain ⟨rfl, rfl⟩ := h; exact ⟨rfl, fun j hj => by simp at hj⟩
  | t :: ts, cs, R, h, hw => by
    unfold SrcRow at h
    obtain ⟨c0, c1, c2, c3, cs', R1, R2, rfl, rfl, h1, h2⟩ := h
    have e1 : wts (t :: ts) = t.wt + wts ts := by simp [wts, Tm.wt.wts]
    rw [e1] at hw
    obtain ⟨a1, a2⟩ := srcRow_cells L ts cs' R2 h2 (by omega)
    obtain ⟨k, s, n, ks⟩ := t
    have ew : (Tm.mk k s n ks).wt = s.size + (ks.length + wts ks) := by simp [Tm.wt, wts]; omega
    unfold Src at h1
    obtain ⟨ao, cap, he, _⟩ := h1
    obtain ⟨rfl, rfl, rfl, rfl⟩ : c0 = .int .i64 k ∧ c1 = .string s ∧ c2 = .int .i64 n ∧ c3 = .slice ao ks.length cap := by simpa using he
    refine ⟨by simp only [List.length_cons, a1]; omega, fun j hj => ?_⟩
    cases j with
    | zero => exact ⟨k, s, n, ao, ks.length, cap, rfl, rfl, rfl, rfl, by omega⟩
    | succ j =>
      obtain ⟨k', s', i', ao', m', cap', b1, b2, b3, b4, b5⟩ := a2 j (by simpa using hj)
      refine ⟨k', s', i', ao', m', cap', ?_, ?_, ?_, ?_, b5⟩
      · rw [show (j + 1) * 4 = j * 4 + 1 + 1 + 1 + 1 by omega]; simpa using b1
      · rw [show (j + 1) * 4 + 1 = j * 4 + 1 + 1 + 1 + 1 + 1 by omega]; simpa using b2
      · rw [show (j + 1) * 4 + 2 = j * 4 + 2 + 1 + 1 + 1 + 1 by omega]; simpa using b3
      · rw [show (j + 1) * 4 + 3 = j * 4 + 3 + 1 + 1 + 1 + 1 by omega]; simpa using b4

mutual
theorem Src.all {e : TypeId} {w : World} (L : Nat) : ∀ (t : Tm) (v : Value) (R : List Row), Src e w t v R → t.wt ≤ L → ∀ r ∈ R, CellsOk r.2.2 r.2.1 L ∧ 0 < r.2.1
  | .mk k s n ks, v, R, h, hL => by
    unfold Src at h
    obtain ⟨ao, cap, rfl, h1, h2, h3, h4⟩ := h
    have ew : (Tm.mk k s n ks).wt = s.size + (ks.length + wts ks) := by simp [Tm.wt, wts]; omega
    rw [ew] at hL
    rcases h4 with ⟨rfl, rfl⟩ | ⟨g, cs, R', h0, rfl, h5, rfl, h6⟩
    · intro r hr; cases hr
    · intro r hr
      rcases List.mem_cons.1 hr with rfl | hr
      · exact ⟨srcRow_cells L ks cs R' h6 (by omega), by cases ks with | nil => exact absurd rfl h0 | cons _ _ => simp⟩
      · exact SrcRow.all L ks cs R' h6 (by omega) r hr
theorem SrcRow.all {e : TypeId} {w : World} (L : Nat) : ∀ (ks : List Tm) (cs : List Value) (R : List Row), SrcRow e w ks cs R → wts ks ≤ L → ∀ r ∈ R, CellsOk r.2.2 r.2.1 L ∧ 0 < r.2.1
  | [], _, _, h, _ => by unfold SrcRow at h; obtain ⟨_, rfl⟩ := h; intro r hr; cases hr
  | t :: ts, cs, R, h, hL => by
    unfold SrcRow at h
    obtain ⟨c0, c1, c2, c3, cs', R1, R2, rfl, rfl, h1, h2⟩ := h
    have e1 : wts (t :: ts) = t.wt + wts ts := by simp [wts, Tm.wt.wts]
    rw [e1] at hL
    intro r hr
    rcases List.mem_append.1 hr with hr | hr
    · exact Src.all L t _ R1 h1 (by omega) r hr
    · exact SrcRow.all L ts cs' R2 h2 (by omega) r hr
end
theorem rows_len : ∀ (R : List Row), (∀ r ∈ R, 0 < r.2.1) → R.length ≤ (R.map (·.2.1)).sum
  | [], _ => by simp
  | r :: R, h => by
    have := rows_len R fun r' hr => h r' (by simp [hr])
    have := h r (by simp)
    simp only [List.length_cons, List.map_cons, List.sum_cons]
    omega

/-- a cell of the copy: a list that is not empty is another block's -/
def cpV (gg cc : Nat → Nat) : Value → Value
  | .slice (some a) (n + 1) _ => .slice (some ⟨gg a.block, 0, none⟩) (n + 1) (cc a.block)
  | .slice _ _ _ => .slice none 0 0
  | v => v

theorem cpV_nil (gg cc : Nat → Nat) (ao : Option Addr) (cap : Nat) : cpV gg cc (.slice ao 0 cap) = .slice none 0 0 := by
  cases ao <;> rfl
theorem cpV_some (gg cc : Nat → Nat) (a : Addr) (n cap : Nat) (h : 0 < n) : cpV gg cc (.slice (some a) n cap) = .slice (some ⟨gg a.block, 0, none⟩) n (cc a.block) := by
  obtain ⟨m, rfl⟩ : ∃ m, n = m + 1 := ⟨n - 1, by omega⟩
  rfl

mutual
theorem Src.copied {e : TypeId} {w0 w : World} (gg cc : Nat → Nat) : ∀ (t : Tm) (v : Value) (R : List Row), Src e w0 t v R → (∀ r ∈ R, w.ownsRow 0 e 4 (.slice (some ⟨gg r.1, 0, none⟩) r.2.1 (cc r.1)) r.2.1 (r.2.2.map (cpV gg cc))) →
    ∀ c0 c1 c2 c3, v = .agg #[c0, c1, c2, c3] → Own e w t (.agg #[cpV gg cc c0, cpV gg cc c1, cpV gg cc c2, cpV gg cc c3]) (R.map fun r => gg r.1)
  | .mk k s n ks, v, R, h, hR, c0, c1, c2, c3, hv => by
    unfold Src at h
    obtain ⟨ao, cap, rfl, h1, h2, h3, h4⟩ := h
    obtain ⟨rfl, rfl, rfl, rfl⟩ : .int .i64 k = c0 ∧ .string s = c1 ∧ .int .i64 n = c2 ∧ .slice ao ks.length cap = c3 := by simpa using hv
    unfold Own
    refine ⟨cpV gg cc (.slice ao ks.length cap), rfl, h1, h2, h3, ?_⟩
    rcases h4 with ⟨rfl, rfl⟩ | ⟨g, cs, R', h0, rfl, h5, rfl, h6⟩
    · exact Or.inl ⟨cpV_nil _ _ _ _, rfl, rfl⟩
    · have hl : 0 < ks.length := by cases ks with | nil => exact absurd rfl h0 | cons _ _ => simp
      rw [cpV_some _ _ _ _ _ hl]
      exact Or.inr ⟨gg g, cc g, cs.map (cpV gg cc), R'.map fun r => gg r.1, rfl, hR (g, ks.length, cs) (by simp), by simp, SrcRow.copied gg cc ks cs R' h6 fun r hr => hR r (by simp [hr])⟩
theorem SrcRow.copied {e : TypeId} {w0 w : World} (gg cc : Nat → Nat) : ∀ (ks : List Tm) (cs : List Value) (R : List Row), SrcRow e w0 ks cs R → (∀ r ∈ R, w.ownsRow 0 e 4 (.slice (some ⟨gg r.1, 0, none⟩) r.2.1 (cc r.1)) r.2.1 (r.2.2.map (cpV gg cc))) →
    OwnRow e w ks (cs.map (cpV gg cc)) (R.map fun r => gg r.1)
  | [], _, _, h, _ => by unfold SrcRow at h; obtain ⟨rfl, rfl⟩ := h; unfold OwnRow; exact ⟨rfl, rfl⟩
  | t :: ts, cs, R, h, hR => by
    unfold SrcRow at h
    obtain ⟨c0, c1, c2, c3, cs', R1, R2, rfl, rfl, h1, h2⟩ := h
    unfold OwnRow
    exact ⟨cpV gg cc c0, cpV gg cc c1, cpV gg cc c2, cpV gg cc c3, cs'.map (cpV gg cc), R1.map (fun r => gg r.1), R2.map (fun r => gg r.1), rfl, by rw [List.map_append],
      Src.copied gg cc t _ R1 h1 (fun r hr => hR r (by simp [hr])) c0 c1 c2 c3 rfl, SrcRow.copied gg cc ts cs' R2 h2 fun r hr => hR r (by simp [hr])⟩
end
end Go.Proofs.YtmhmlkdoaojimapGreatDoor

/- slices.Clone of a row of terms: the same cells in a row of its own. -/
namespace Go.Proofs.YtmhmlkdoaojimapGreatDoor
open Go.RowKit

theorem infoTC : (Tryz.prog.info? 41).map (fun i => (i.zero, i.size, i.bytes)) = some (some (.agg #[.int .i64 0, .string ⟨#[]⟩, .int .i64 0, .slice none 0 0]), 4, 56) := by kernel_rfl

theorem cellsOk_one {cs : List Value} {n L : Nat} (h : CellsOk cs n L) : ∀ u ∈ cs, u.oneCell' = true := by
  intro u hu
  obtain ⟨i, hi, rfl⟩ := List.getElem_of_mem hu
  have hl := h.1
  obtain ⟨k, s, i', ao, m, cap, b1, b2, b3, b4, b5⟩ := h.2 (i / 4) (by omega)
  have : i = i / 4 * 4 ∨ i = i / 4 * 4 + 1 ∨ i = i / 4 * 4 + 2 ∨ i = i / 4 * 4 + 3 := by omega
  have e : cs[i]? = some cs[i] := List.getElem?_eq_getElem hi
  rcases this with h | h | h | h
  · rw [← h, e] at b1; simp at b1; rw [b1]; rfl
  · rw [← h, e] at b2; simp at b2; rw [b2]; rfl
  · rw [← h, e] at b3; simp at b3; rw [b3]; rfl
  · rw [← h, e] at b4; simp at b4; rw [b4]; rfl

theorem slice_eql_nil (w : World) (a : Addr) (n cap : Nat) : (binOp .eql 39 (.slice (some a) n cap) (.slice none 0 0)).run Tryz.prog w = .ok (.bool false) w := by kernel_rfl

set_option maxHeartbeats 1000000 in
theorem clone_row (w : World) (b n cap L : Nat) (cs : List Value) (hrow : w.ownsRow 0 41 4 (.slice (some ⟨b, 0, none⟩) n cap) n cs) (hn : 0 < n) (hn2 : n ≤ 4194304) (hc : CellsOk cs n L) :
    Calls Tryz.prog 79 #[.slice (some ⟨b, 0, none⟩) n cap] w fun e w' => ∃ g cap', e = .returned (.slice (some ⟨g, 0, none⟩) n cap') ∧ w'.ownsRow 0 41 4 (.slice (some ⟨g, 0, none⟩) n cap') n cs ∧ w.heap.size ≤ g ∧ Below w.heap.size w w' := by
  obtain ⟨i0, hi, hz0, hz1, hz2⟩ := info_parts infoTC
  have HONE : Hid (∀ u ∈ cs, u.oneCell' = true) := cellsOk_one hc
  have HL : Hid (cs.length = n * 4) := hc.1
  have HCELL : Hid (∀ j u, cs[j]? = some u → (w.alloc (.cells #[] 41)).cell? ((⟨b, 0, none⟩ : Addr).add j) = some u) := fun j u hj => by
    have hjl : j < cs.length := (List.getElem?_eq_some_iff.1 hj).1
    have h1 := hrow.cellAt j (by rw [← hrow.1]; exact hjl)
    have hlt := (hrow.lt b rfl).2
    rw [Addr.add_lit, Nat.zero_add]
    exact cell_keep (h1.trans hj) ((Below.refl _ _).alloc (Nat.le_refl _) _)
  have hnil := fun w => slice_eql_nil w ⟨b, 0, none⟩ n cap
  have hown0 : (w.alloc (.cells #[] 41)).ownsRow w.heap.size 41 4 (.slice (some ⟨w.heap.size, 0, none⟩) 0 0) 0 [] := ⟨by simp, Or.inr ⟨w.heap.size, 0, #[], rfl, Nat.le_refl _, heap_alloc_new w _, Nat.le_refl _, Nat.zero_le _, rfl, rfl⟩⟩
  have HOWN : Hid _ := hown0
  clear hc hrow hown0
  go_enter Tryz.func79, Tryz.ntmps79
  go_wp2_with (at_builtin; refine wpList_append_own_at _ rfl _ _ 39 rfl w.heap.size 41 i0 (.agg #[.int .i64 0, .string ⟨#[]⟩, .int .i64 0, .slice none 0 0]) 4 56 Tryz.underlying39 hi hz0 hz1 hz2 rfl (by decide) _ _ _ rfl HOWN.out ⟨b, 0, none⟩ n cap cs rfl HL.out HCELL.out HONE.out ?c3 ?c4 ?c5 ?_)
  case c3 => unfold maxLen; omega
  case c4 => omega
  · intro v' w5 hown' hgrow _ hat
    have HFIN : Hid (∃ g cap', v' = .slice (some ⟨g, 0, none⟩) n cap' ∧ w5.ownsRow 0 41 4 (.slice (some ⟨g, 0, none⟩) n cap') n cs ∧ w.heap.size ≤ g ∧ Below w.heap.size w w5) := by
      rcases hown'.2 with ⟨_, h⟩ | ⟨g, cap', cur, rfl, h1, h2, h3⟩
      · omega
      · refine ⟨g, cap', rfl, ⟨hown'.1, Or.inr ⟨g, cap', cur, rfl, Nat.zero_le _, h2, h3⟩⟩, h1, ?_⟩
        have hb0 : Below w.heap.size w (w.alloc (.cells #[] 41)) := (Below.refl _ _).alloc (Nat.le_refl _) _
        refine ⟨hgrow.os.trans hb0.os, hgrow.tape.trans hb0.tape, hgrow.output.trans hb0.output, Nat.le_trans hb0.size hgrow.size, fun k hk => (hgrow.block k (by simp; omega) ?_).trans (hb0.block k hk)⟩
        simp [Value.ownBlock]; omega
    clear hown' hgrow hat HOWN HCELL HONE HL
    obtain ⟨g, cap', rfl, r1, r2, r3⟩ := HFIN.out
    go_wp2
    go_ret
    exact ⟨g, cap', rfl, r1, r2, r3⟩
end Go.Proofs.YtmhmlkdoaojimapGreatDoor

/- Rows in blocks of their own: a cell set, a block kept. Of no program. -/
namespace Go.Proofs.YtmhmlkdoaojimapGreatDoor
open Go.RowKit

theorem row_set {w : World} {e size n g cap i : Nat} {cs : List Value} {v : Value} (h : w.ownsRow 0 e size (.slice (some ⟨g, 0, none⟩) n cap) n cs) : (w.setCell ⟨g, i, none⟩ v).ownsRow 0 e size (.slice (some ⟨g, 0, none⟩) n cap) n (cs.set i v) := by
  refine ⟨by rw [List.length_set]; exact h.1, ?_⟩
  rcases h.2 with ⟨h, _⟩ | ⟨g', cap', cur, h1, h2, h3, h4, h5, h6, h7⟩
  · cases h
  · cases h1
    refine Or.inr ⟨g, cap, cur.setIfInBounds i v, rfl, h2, blk_set h3 v, h4, h5, by simpa using h6, ?_⟩
    rw [Array.toList_setIfInBounds, List.take_set, h7]
theorem row_set_same {w : World} {e size n g cap i : Nat} {cs : List Value} {v : Value} (h : w.ownsRow 0 e size (.slice (some ⟨g, 0, none⟩) n cap) n cs) (hi : cs[i]? = some v) : (w.setCell ⟨g, i, none⟩ v).ownsRow 0 e size (.slice (some ⟨g, 0, none⟩) n cap) n cs := by
  have := row_set (i := i) (v := v) h
  obtain ⟨h1, rfl⟩ := List.getElem?_eq_some_iff.1 hi
  rwa [List.set_getElem_self h1] at this
theorem row_lt0 {w : World} {e size n : Nat} {v : Value} {xs : List Value} (h : w.ownsRow 0 e size v n xs) {b : Nat} (hb : v.ownBlock = some b) : b < w.heap.size := by
  rcases h.2 with ⟨rfl, _⟩ | ⟨b', cap, cur, rfl, h1, h2, h3⟩
  · cases hb
  · cases hb; exact (Array.getElem?_eq_some_iff.1 h2).1
theorem row_frozen {w : World} {e size n g cap : Nat} {cs : List Value} (h : w.ownsRow 0 e size (.slice (some ⟨g, 0, none⟩) n cap) n cs) (i : Nat) : w.frozen? ⟨g, i, none⟩ = false := by
  rcases h.2 with ⟨h, _⟩ | ⟨g', cap', cur, h1, h2, h3, _⟩
  · cases h
  · cases h1; exact blk_frozen h3 i

theorem row_turn0 {w w' : World} {e size n : Nat} {v : Value} {xs : List Value} (h : w.ownsRow 0 e size v n xs) (hb : ∀ b, v.ownBlock = some b → w'.heap[b]? = w.heap[b]?) : w'.ownsRow 0 e size v n xs := by
  refine ⟨h.1, ?_⟩
  rcases h.2 with hn | ⟨b, cap, cur, e, h1, h2, h3⟩
  · exact Or.inl hn
  · exact Or.inr ⟨b, cap, cur, e, h1, (hb b (by rw [e]; rfl)).trans h2, h3⟩
end Go.Proofs.YtmhmlkdoaojimapGreatDoor

/- A slice of terms takes one cell. -/
namespace Go.Proofs.YtmhmlkdoaojimapGreatDoor
open Go.RowKit

theorem infoSl : (Tryz.prog.info? 39).map (fun i => (i.zero, i.size, i.bytes)) = some (some (.slice none 0 0), 1, 24) := by kernel_rfl
end Go.Proofs.YtmhmlkdoaojimapGreatDoor

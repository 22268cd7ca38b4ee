/- Four texts in one. -/
import Derived.Test.YtenmhpalpfppmaoRows
import Derived.Test.YtenmhpalpfppmaoMrg1
import Derived.ProofKit
import Derived.Laws.AppendOwn
import Derived.Maps.AppendAt
import Derived.Deep.DeepCutAuto
/- The laws' size of a term. -/
namespace Go.Proofs.Ytenmhpalpfppmao
open Go.RowKit


def SzOk (t : Tm) : Prop := ∀ (w : World) (v : Value) (left : Nat), TmIn w t v → left ≤ 1048576 →
  Calls Try.prog 16 #[v, .int .i64 (left : Int)] w fun e w' => e = .returned (.int .i64 (szR t.wt left)) ∧ Below w.heap.size w w'

theorem sz_terms (ks : List Tm) (hks : ∀ t ∈ ks, SzOk t) (w : World) (ao : Option Addr) (cap left : Nat) (hlen : ks.length ≤ maxLen) (h : ks ≠ [] → ∃ b off, ao = some ⟨b, off, none⟩ ∧ TmsIn w ks b off) (hl : left ≤ 1048576) :
    Calls Try.prog 26 #[.slice ao ks.length cap, .int .i64 (left : Int)] w fun e w' => e = .returned (.int .i64 (szR (ks.length + wts ks) left)) ∧ Below w.heap.size w w' := by
  unfold maxLen at hlen
  by_cases hk : ks.length ≤ left
  · go_enter Try.func26, Try.ntmps26
    go_wp2
    go_loopw [1, 5] (fun vl vi wr => Hid (Below w.heap.size w wr) ∧ ∃ j l : Nat, j ≤ ks.length ∧ vl = .int .i64 (l : Int) ∧ vi = .int .i64 (j : Int) ∧ Hid (l + ks.length + wts (ks.take j) = left)) (fun _ i _ => ks.length - (intOf i).toNat)
    case atStart => exact ⟨Below.refl _ _, 0, left - ks.length, by omega, by simp; omega, rfl, by show _ = _; simp [wts, Tm.wt.wts]; omega⟩
    case round =>
      obtain ⟨HB, j, l, hj, rfl, rfl, HL⟩ := hrel
      have hll : l ≤ 1048576 := by have := HL.out; omega
      by_cases hlt : j < ks.length
      · obtain ⟨b, off, rfl, hin⟩ := h (by intro e; subst e; simp at hlt)
        obtain ⟨c0, c1, c2, c3, h0, h1, h2, h3, ht⟩ := (TmsIn.keep HB.out ks b off hin).at j hlt
        have HC := hks ks[j] (List.getElem_mem hlt) wr _ l ht hll
        have hw : wts (ks.take (j + 1)) = wts (ks.take j) + ks[j].wt := by
          rw [List.take_succ_eq_append_getElem hlt, wts_append]; simp [wts, Tm.wt.wts]
        have HW : Hid _ := hw
        clear hin ht hw h hks
        by_cases hfit : ks[j].wt ≤ l
        · have e : szR ks[j].wt l = ((l - ks[j].wt : Nat) : Int) := if_pos hfit
          rw [e] at HC
          replace HC : Hid _ := HC
          clear e
          go_wp2_with (go_at_call 16; refine (Calls.mono HC.out ?_); rintro e w1 ⟨rfl, hb⟩; have HB1 : Hid (Below w.heap.size w w1) := HB.out.trans (hb.mono HB.out.size); clear hb)
          go_roundw
          case rel => exact ⟨HB1.out, j + 1, l - ks[j].wt, by omega, rfl, by go_num, by show _ = _; have := HL.out; have := HW.out; omega⟩
          case measure => simp [intOf]; omega
        · have e : szR ks[j].wt l = -1 := if_neg hfit
          rw [e] at HC
          replace HC : Hid _ := HC
          clear e
          have hr : szR (ks.length + wts ks) left = -1 := by
            have h1 := HL.out
            have h2 := HW.out
            have h3 : wts (ks.take (j + 1)) + wts (ks.drop (j + 1)) = wts ks := by rw [← wts_append, List.take_append_drop]
            unfold szR
            rw [if_neg (by omega)]
          have HR : Hid _ := hr
          clear hr
          go_wp2_with (go_at_call 16; refine (Calls.mono HC.out ?_); rintro e w1 ⟨rfl, hb⟩; have HB1 : Hid (Below w.heap.size w w1) := HB.out.trans (hb.mono HB.out.size); clear hb)
          go_ret
          exact ⟨by rw [HR.out]; rfl, HB1.out⟩
      · have hr : szR (ks.length + wts ks) left = (l : Int) := by
          have h1 := HL.out
          rw [List.take_of_length_le (by omega)] at h1
          unfold szR
          rw [if_pos (by omega)]
          omega
        have HR : Hid _ := hr
        clear hr
        go_wp2
        go_ret
        exact ⟨by rw [HR.out]; rfl, HB.out⟩
  · have hr : szR (ks.length + wts ks) left = -1 := by unfold szR; rw [if_neg (by omega)]
    rw [hr]
    go_enter Try.func26, Try.ntmps26
    go_wp2
    go_ret
    exact ⟨rfl, Below.refl _ _⟩

theorem sz_term (t : Tm) : SzOk t := by
  refine tm_ind (p := SzOk) ?_ t
  clear t
  intro k s n ks hks w v left hin hl
  obtain ⟨ao, cap, rfl, hk, hn, hs, hlen, hcap, hrow⟩ := hin
  have HS : Hid (∀ w', Below w.heap.size w w' → ∀ l : Nat, l ≤ 1048576 → Calls Try.prog 26 #[.slice ao ks.length cap, .int .i64 (l : Int)] w' fun e w2 => e = .returned (.int .i64 (szR (ks.length + wts ks) l)) ∧ Below w'.heap.size w' w2) := fun w' hb l h =>
    sz_terms ks hks w' ao cap l (by omega) (fun h0 => by obtain ⟨b, off, e, hr⟩ := hrow h0; exact ⟨b, off, e, TmsIn.keep hb ks b off hr⟩) h
  clear hks hrow
  unfold maxLen at *
  have ew : (Tm.mk k s n ks).wt = s.size + (ks.length + wts ks) := by simp [Tm.wt, wts]; omega
  rw [ew]
  generalize ks.length + wts ks = m at *
  have hb1 : Below w.heap.size w (w.alloc (.cells #[.int .i64 k, .string s, .int .i64 n, .slice ao ks.length cap] 25)) := (Below.refl _ _).alloc (Nat.le_refl _) _
  by_cases h1 : s.size ≤ left
  · by_cases h2 : m ≤ left - s.size
    · have e1 : szR m (left - s.size) = ((left - s.size - m : Nat) : Int) := if_pos h2
      have e2 : szR (s.size + m) left = ((left - s.size - m : Nat) : Int) := by unfold szR; rw [if_pos (by omega)]; omega
      rw [e2]
      have HC := HS.out _ hb1 (left - s.size) (by omega)
      rw [e1, show ((left - s.size : Nat) : Int) = (left : Int) - (s.size : Int) by omega] at HC
      replace HC : Hid _ := HC
      replace hb1 : Hid _ := hb1
      clear e1 e2 HS
      go_enter Try.func16, Try.ntmps16
      go_wp2_with (go_at_call 26; refine (Calls.mono HC.out ?_); rintro e w1 ⟨rfl, hb⟩; have HB1 : Hid (Below w.heap.size w w1) := hb1.out.trans (hb.mono hb1.out.size); clear hb)
      go_ret
      exact ⟨rfl, HB1.out⟩
    · have e1 : szR m (left - s.size) = -1 := if_neg h2
      have e2 : szR (s.size + m) left = -1 := by unfold szR; rw [if_neg (by omega)]
      rw [e2]
      have HC := HS.out _ hb1 (left - s.size) (by omega)
      rw [e1, show ((left - s.size : Nat) : Int) = (left : Int) - (s.size : Int) by omega] at HC
      replace HC : Hid _ := HC
      replace hb1 : Hid _ := hb1
      clear e1 e2 HS
      go_enter Try.func16, Try.ntmps16
      go_wp2_with (go_at_call 26; refine (Calls.mono HC.out ?_); rintro e w1 ⟨rfl, hb⟩; have HB1 : Hid (Below w.heap.size w w1) := hb1.out.trans (hb.mono hb1.out.size); clear hb)
      go_ret
      exact ⟨rfl, HB1.out⟩
  · have e2 : szR (s.size + m) left = -1 := by unfold szR; rw [if_neg (by omega)]
    rw [e2]
    clear HS e2
    go_enter Try.func16, Try.ntmps16
    go_wp2
    go_ret
    exact ⟨rfl, hb1⟩
end Go.Proofs.Ytenmhpalpfppmao

/- Terms whose rows of kids lie each in a block of its own: the blocks, and what stays where they stay. Of no program. -/
namespace Go.Proofs.Ytenmhpalpfppmao
open Go.RowKit

mutual
/-- the value v is the term in w, its rows in the blocks F, in the order in which they are met -/
def Own (e : TypeId) (w : World) : Tm → Value → List Nat → Prop
  | .mk k s n ks, v, F => ∃ sl, v = .agg #[.int .i64 k, .string s, .int .i64 n, sl] ∧ (-9223372036854775808 ≤ k ∧ k ≤ 9223372036854775807) ∧ (-9223372036854775808 ≤ n ∧ n ≤ 9223372036854775807) ∧ s.size ≤ maxLen ∧
    ((sl = .slice none 0 0 ∧ ks = [] ∧ F = []) ∨ ∃ g cap cs F', sl = .slice (some ⟨g, 0, none⟩) ks.length cap ∧ w.ownsRow 0 e 4 sl ks.length cs ∧ F = g :: F' ∧ OwnRow e w ks cs F')
/-- .. the cells of a row, four each -/
def OwnRow (e : TypeId) (w : World) : List Tm → List Value → List Nat → Prop
  | [], cs, F => cs = [] ∧ F = []
  | t :: ts, cs, F => ∃ c0 c1 c2 c3 cs' F1 F2, cs = c0 :: c1 :: c2 :: c3 :: cs' ∧ F = F1 ++ F2 ∧ Own e w t (.agg #[c0, c1, c2, c3]) F1 ∧ OwnRow e w ts cs' F2
end

/-- a slice of terms, its own row and theirs -/
def OwnS (e : TypeId) (w : World) (ks : List Tm) (sl : Value) (F : List Nat) : Prop :=
  (sl = .slice none 0 0 ∧ ks = [] ∧ F = []) ∨ ∃ g cap cs F', sl = .slice (some ⟨g, 0, none⟩) ks.length cap ∧ w.ownsRow 0 e 4 sl ks.length cs ∧ F = g :: F' ∧ OwnRow e w ks cs F'

theorem own_mk {e : TypeId} {w : World} {k n : Int} {s : ByteArray} {ks : List Tm} {sl : Value} {F : List Nat} (h : OwnS e w ks sl F) (hk : -9223372036854775808 ≤ k ∧ k ≤ 9223372036854775807) (hn : -9223372036854775808 ≤ n ∧ n ≤ 9223372036854775807) (hs : s.size ≤ maxLen) :
    Own e w (.mk k s n ks) (.agg #[.int .i64 k, .string s, .int .i64 n, sl]) F := by
  unfold Own
  exact ⟨sl, rfl, hk, hn, hs, h⟩

theorem own_open {e : TypeId} {w : World} {k n : Int} {s : ByteArray} {ks : List Tm} {v : Value} {F : List Nat} (h : Own e w (.mk k s n ks) v F) :
    ∃ sl, v = .agg #[.int .i64 k, .string s, .int .i64 n, sl] ∧ OwnS e w ks sl F := by
  unfold Own at h
  obtain ⟨sl, rfl, _, _, _, h⟩ := h
  exact ⟨sl, rfl, h⟩

theorem row_keep {w w' : World} {B e size n g cap : Nat} {xs : List Value} (h : w.ownsRow B e size (.slice (some ⟨g, 0, none⟩) n cap) n xs) (hb : w'.heap[g]? = w.heap[g]?) : w'.ownsRow B e size (.slice (some ⟨g, 0, none⟩) n cap) n xs := by
  refine ⟨h.1, ?_⟩
  rcases h.2 with ⟨h, _⟩ | ⟨g', cap', cur, h1, h2, h3, h4⟩
  · cases h
  · cases h1
    exact Or.inr ⟨g, cap, cur, rfl, h2, hb.trans h3, h4⟩

mutual
theorem Own.keep {e : TypeId} {w w' : World} : ∀ (t : Tm) (v : Value) (F : List Nat), Own e w t v F → (∀ f ∈ F, w'.heap[f]? = w.heap[f]?) → Own e w' t v F
  | .mk k s n ks, v, F, h, hF => by
    unfold Own at h ⊢
    obtain ⟨sl, rfl, h1, h2, h3, h4⟩ := h
    refine ⟨sl, rfl, h1, h2, h3, ?_⟩
    rcases h4 with h4 | ⟨g, cap, cs, F', rfl, h5, rfl, h6⟩
    · exact Or.inl h4
    · exact Or.inr ⟨g, cap, cs, F', rfl, row_keep h5 (hF g (by simp)), rfl, OwnRow.keep ks cs F' h6 (fun f hf => hF f (by simp [hf]))⟩
theorem OwnRow.keep {e : TypeId} {w w' : World} : ∀ (ks : List Tm) (cs : List Value) (F : List Nat), OwnRow e w ks cs F → (∀ f ∈ F, w'.heap[f]? = w.heap[f]?) → OwnRow e w' ks cs F
  | [], _, _, h, _ => by unfold OwnRow at h ⊢; exact h
  | t :: ts, cs, F, h, hF => by
    unfold OwnRow at h ⊢
    obtain ⟨c0, c1, c2, c3, cs', F1, F2, rfl, rfl, h1, h2⟩ := h
    exact ⟨c0, c1, c2, c3, cs', F1, F2, rfl, rfl, Own.keep t _ F1 h1 (fun f hf => hF f (by simp [hf])), OwnRow.keep ts cs' F2 h2 (fun f hf => hF f (by simp [hf]))⟩
end

mutual
theorem Own.lt {e : TypeId} {w : World} : ∀ (t : Tm) (v : Value) (F : List Nat), Own e w t v F → ∀ f ∈ F, f < w.heap.size
  | .mk k s n ks, v, F, h => by
    unfold Own at h
    obtain ⟨sl, rfl, h1, h2, h3, h4⟩ := h
    rcases h4 with ⟨_, _, rfl⟩ | ⟨g, cap, cs, F', rfl, h5, rfl, h6⟩
    · intro f hf; cases hf
    · intro f hf
      rcases List.mem_cons.1 hf with rfl | hf
      · exact (h5.lt _ rfl).2
      · exact OwnRow.lt ks cs F' h6 f hf
theorem OwnRow.lt {e : TypeId} {w : World} : ∀ (ks : List Tm) (cs : List Value) (F : List Nat), OwnRow e w ks cs F → ∀ f ∈ F, f < w.heap.size
  | [], _, _, h => by unfold OwnRow at h; obtain ⟨_, rfl⟩ := h; intro f hf; cases hf
  | t :: ts, cs, F, h => by
    unfold OwnRow at h
    obtain ⟨c0, c1, c2, c3, cs', F1, F2, rfl, rfl, h1, h2⟩ := h
    intro f hf
    rcases List.mem_append.1 hf with hf | hf
    · exact Own.lt t _ F1 h1 f hf
    · exact OwnRow.lt ts cs' F2 h2 f hf
end

mutual
theorem Own.toIn {e : TypeId} {w : World} : ∀ (t : Tm) (v : Value) (F : List Nat), Own e w t v F → TmIn w t v
  | .mk k s n ks, v, F, h => by
    unfold Own at h
    obtain ⟨sl, rfl, h1, h2, h3, h4⟩ := h
    unfold TmIn
    rcases h4 with ⟨rfl, rfl, _⟩ | ⟨g, cap, cs, F', rfl, h5, rfl, h6⟩
    · exact ⟨none, 0, rfl, h1, h2, h3, Nat.le_refl _, Nat.zero_le _, fun h => absurd rfl h⟩
    · have h5' := h5
      rcases h5.2 with ⟨h, _⟩ | ⟨g', cap', cur, hc, _, hh, hnc, hcm, hcs, htk⟩
      · cases h
      · cases hc
        refine ⟨_, cap, rfl, h1, h2, h3, hnc, hcm, fun _ => ⟨g, 0, rfl, OwnRow.toIn ks cs F' g 0 h6 fun i hi => ?_⟩⟩
        have := h5'.cellAt i (by rw [← h5'.1]; exact hi)
        rw [Nat.zero_add]
        rw [this]
theorem OwnRow.toIn {e : TypeId} {w : World} : ∀ (ks : List Tm) (cs : List Value) (F : List Nat) (g off : Nat), OwnRow e w ks cs F → (∀ i, i < cs.length → w.cell? ⟨g, off + i, none⟩ = cs[i]?) → TmsIn w ks g off
  | [], _, _, _, _, _, _ => by unfold TmsIn; trivial
  | t :: ts, cs, F, g, off, h, hc => by
    unfold OwnRow at h
    obtain ⟨c0, c1, c2, c3, cs', F1, F2, rfl, rfl, h1, h2⟩ := h
    unfold TmsIn
    refine ⟨⟨c0, c1, c2, c3, hc 0 (by simp), hc 1 (by simp), hc 2 (by simp), hc 3 (by simp), Own.toIn t _ F1 h1⟩, OwnRow.toIn ts cs' F2 g (off + 4) h2 fun i hi => ?_⟩
    have := hc (i + 4) (by simp only [List.length_cons]; omega)
    rw [show off + (i + 4) = off + 4 + i by omega] at this
    rw [this]
    simp
end

theorem OwnS.keep {e : TypeId} {w w' : World} {ks : List Tm} {sl : Value} {F : List Nat} (h : OwnS e w ks sl F) (hF : ∀ f ∈ F, w'.heap[f]? = w.heap[f]?) : OwnS e w' ks sl F := by
  rcases h with h | ⟨g, cap, cs, F', rfl, h5, rfl, h6⟩
  · exact Or.inl h
  · exact Or.inr ⟨g, cap, cs, F', rfl, row_keep h5 (hF g (by simp)), rfl, OwnRow.keep ks cs F' h6 (fun f hf => hF f (by simp [hf]))⟩

theorem OwnRow.snoc {e : TypeId} {w : World} {t : Tm} {c0 c1 c2 c3 : Value} {F2 : List Nat} (h2 : Own e w t (.agg #[c0, c1, c2, c3]) F2) : ∀ (ks : List Tm) (cs : List Value) (F : List Nat), OwnRow e w ks cs F → OwnRow e w (ks ++ [t]) (cs ++ [c0, c1, c2, c3]) (F ++ F2)
  | [], _, _, h => by
    unfold OwnRow at h
    obtain ⟨rfl, rfl⟩ := h
    unfold OwnRow
    exact ⟨c0, c1, c2, c3, [], F2, [], rfl, by simp, h2, by unfold OwnRow; exact ⟨rfl, rfl⟩⟩
  | t' :: ts, cs, F, h => by
    unfold OwnRow at h
    obtain ⟨d0, d1, d2, d3, cs', F1, F3, rfl, rfl, h1, h3⟩ := h
    show OwnRow e w (t' :: (ts ++ [t])) _ _
    unfold OwnRow
    exact ⟨d0, d1, d2, d3, cs' ++ [c0, c1, c2, c3], F1, F3 ++ F2, by simp, by simp, h1, OwnRow.snoc h2 ts cs' F3 h3⟩

theorem OwnRow.len {e : TypeId} {w : World} : ∀ (ks : List Tm) (cs : List Value) (F : List Nat), OwnRow e w ks cs F → cs.length = ks.length * 4
  | [], _, _, h => by unfold OwnRow at h; obtain ⟨rfl, _⟩ := h; rfl
  | t :: ts, cs, F, h => by
    unfold OwnRow at h
    obtain ⟨c0, c1, c2, c3, cs', F1, F2, rfl, rfl, h1, h2⟩ := h
    have := OwnRow.len ts cs' F2 h2
    simp only [List.length_cons]
    omega

theorem own_shape {e : TypeId} {w : World} {t : Tm} {v : Value} {F : List Nat} (h : Own e w t v F) : ∃ k s n ao len cap, v = .agg #[.int .i64 k, .string s, .int .i64 n, .slice ao len cap] := by
  obtain ⟨k, s, n, ks⟩ := t
  obtain ⟨sl, rfl, h1⟩ := own_open h
  rcases h1 with ⟨rfl, _⟩ | ⟨g, cap, cs, F', rfl, _⟩
  · exact ⟨_, _, _, _, _, _, rfl⟩
  · exact ⟨_, _, _, _, _, _, rfl⟩

theorem blk_cell {w : World} {g i : Nat} {cur : Array Value} {T : TypeId} {fr : Nat × Nat} (h : w.heap[g]? = some (.cells cur T fr)) (hi : i < cur.size) : w.cell? ⟨g, i, none⟩ = some cur[i] := by
  unfold World.cell?; rw [h]; simp [hi]
theorem blk_frozen {w : World} {g : Nat} {cur : Array Value} {T : TypeId} (h : w.heap[g]? = some (.cells cur T (0, 0))) (i : Nat) : w.frozen? ⟨g, i, none⟩ = false := by
  unfold World.frozen?; rw [h]; simp
theorem blk_set {w : World} {g i : Nat} {cur : Array Value} {T : TypeId} {fr : Nat × Nat} (h : w.heap[g]? = some (.cells cur T fr)) (v : Value) : (w.setCell ⟨g, i, none⟩ v).heap[g]? = some (.cells (cur.setIfInBounds i v) T fr) := by
  simp [World.setCell, Array.getElem?_modify, h]
theorem blk_other {w : World} {g i f : Nat} (v : Value) (hf : f ≠ g) : (w.setCell ⟨g, i, none⟩ v).heap[f]? = w.heap[f]? := by
  simp [World.setCell, Array.getElem?_modify, Ne.symm hf]
theorem set4_take {cur : Array Value} {j : Nat} {d0 d1 d2 d3 : Value} (h : j * 4 + 3 < cur.size) :
    ((((cur.setIfInBounds (j * 4) d0).setIfInBounds (j * 4 + 1) d1).setIfInBounds (j * 4 + 2) d2).setIfInBounds (j * 4 + 3) d3).toList.take ((j + 1) * 4) = cur.toList.take (j * 4) ++ [d0, d1, d2, d3] := by
  apply List.ext_getElem?
  intro i
  have hl : cur.toList.length = cur.size := by simp
  simp only [Array.toList_setIfInBounds, List.getElem?_take, List.getElem?_set, List.length_set, List.getElem?_append, List.length_take, hl]
  have e1 : min (j * 4) cur.size = j * 4 := by omega
  rw [e1]
  by_cases h1 : i < j * 4
  · have a1 : i < (j + 1) * 4 := by omega
    have a2 : ¬ j * 4 = i := by omega
    have a3 : ¬ j * 4 + 1 = i := by omega
    have a4 : ¬ j * 4 + 2 = i := by omega
    have a5 : ¬ j * 4 + 3 = i := by omega
    simp [h1, a1, a2, a3, a4, a5]
  · by_cases h2 : i < (j + 1) * 4
    · have : i = j * 4 ∨ i = j * 4 + 1 ∨ i = j * 4 + 2 ∨ i = j * 4 + 3 := by omega
      rcases this with rfl | rfl | rfl | rfl
      · have b1 : j * 4 < cur.size := by omega
        simp [h2, b1]
      · have b1 : j * 4 + 1 < cur.size := by omega
        simp [h2, b1]
        omega
      · have b1 : j * 4 + 2 < cur.size := by omega
        simp [h2, b1]
        omega
      · simp [h2, h]
        omega
    · have : ¬ i - j * 4 < 4 := by omega
      have a6 : [d0, d1, d2, d3][i - j * 4]? = none := by
        rw [List.getElem?_eq_none]; simp; omega
      simp [h1, h2, a6]
end Go.Proofs.Ytenmhpalpfppmao

/- A block of nine cells. Of no program. -/
namespace Go.Proofs.Ytenmhpalpfppmao
open Go.RowKit

theorem blk9 {w : World} {g : Nat} {c0 c1 c2 c3 c4 c5 c6 c7 c8 : Value} {T : TypeId} (h : w.heap[g]? = some (.cells #[c0, c1, c2, c3, c4, c5, c6, c7, c8] T (0, 0))) :
    (w.cell? ⟨g, 0, none⟩ = some c0 ∧ w.cell? ⟨g, 1, none⟩ = some c1 ∧ w.cell? ⟨g, 2, none⟩ = some c2 ∧ w.cell? ⟨g, 3, none⟩ = some c3 ∧ w.cell? ⟨g, 4, none⟩ = some c4 ∧ w.cell? ⟨g, 5, none⟩ = some c5 ∧ w.cell? ⟨g, 6, none⟩ = some c6 ∧ w.cell? ⟨g, 7, none⟩ = some c7 ∧ w.cell? ⟨g, 8, none⟩ = some c8) ∧
    (w.frozen? ⟨g, 0, none⟩ = false ∧ w.frozen? ⟨g, 1, none⟩ = false ∧ w.frozen? ⟨g, 2, none⟩ = false ∧ w.frozen? ⟨g, 3, none⟩ = false ∧ w.frozen? ⟨g, 4, none⟩ = false ∧ w.frozen? ⟨g, 5, none⟩ = false ∧ w.frozen? ⟨g, 6, none⟩ = false ∧ w.frozen? ⟨g, 7, none⟩ = false ∧ w.frozen? ⟨g, 8, none⟩ = false) :=
  ⟨⟨blk_cell (i := 0) h (by simp), blk_cell (i := 1) h (by simp), blk_cell (i := 2) h (by simp), blk_cell (i := 3) h (by simp), blk_cell (i := 4) h (by simp), blk_cell (i := 5) h (by simp), blk_cell (i := 6) h (by simp), blk_cell (i := 7) h (by simp), blk_cell (i := 8) h (by simp)⟩,
   blk_frozen h 0, blk_frozen h 1, blk_frozen h 2, blk_frozen h 3, blk_frozen h 4, blk_frozen h 5, blk_frozen h 6, blk_frozen h 7, blk_frozen h 8⟩
/-- nine cells of a block set, one behind the other -/
def set9 (w : World) (g : Nat) (d0 d1 d2 d3 d4 d5 d6 d7 d8 : Value) : World :=
  (((((((((w.setCell ⟨g, 0, none⟩ d0).setCell ⟨g, 1, none⟩ d1).setCell ⟨g, 2, none⟩ d2).setCell ⟨g, 3, none⟩ d3).setCell ⟨g, 4, none⟩ d4).setCell ⟨g, 5, none⟩ d5).setCell ⟨g, 6, none⟩ d6).setCell ⟨g, 7, none⟩ d7).setCell ⟨g, 8, none⟩ d8)
theorem blk9_set {w : World} {g : Nat} {c0 c1 c2 c3 c4 c5 c6 c7 c8 d0 d1 d2 d3 d4 d5 d6 d7 d8 : Value} {T : TypeId} (h : w.heap[g]? = some (.cells #[c0, c1, c2, c3, c4, c5, c6, c7, c8] T (0, 0))) :
    (set9 w g d0 d1 d2 d3 d4 d5 d6 d7 d8).heap[g]? = some (.cells #[d0, d1, d2, d3, d4, d5, d6, d7, d8] T (0, 0)) := by
  have := blk_set (i := 8) (blk_set (i := 7) (blk_set (i := 6) (blk_set (i := 5) (blk_set (i := 4) (blk_set (i := 3) (blk_set (i := 2) (blk_set (i := 1) (blk_set (i := 0) h d0) d1) d2) d3) d4) d5) d6) d7) d8
  simpa [set9] using this
theorem blk9_other {w : World} {g f : Nat} {d0 d1 d2 d3 d4 d5 d6 d7 d8 : Value} (h : f ≠ g) : (set9 w g d0 d1 d2 d3 d4 d5 d6 d7 d8).heap[f]? = w.heap[f]? := by
  unfold set9
  rw [blk_other _ h, blk_other _ h, blk_other _ h, blk_other _ h, blk_other _ h, blk_other _ h, blk_other _ h, blk_other _ h, blk_other _ h]
theorem blk9_below {B : Nat} {w w' : World} {g : Nat} {d0 d1 d2 d3 d4 d5 d6 d7 d8 : Value} (hb : Below B w w') (hg : B ≤ g) : Below B w (set9 w' g d0 d1 d2 d3 d4 d5 d6 d7 d8) :=
  below_set (below_set (below_set (below_set (below_set (below_set (below_set (below_set (below_set hb hg _) hg _) hg _) hg _) hg _) hg _) hg _) hg _) hg _
/-- the first eight of nine cells set -/
theorem blk9_set8 {w : World} {g : Nat} {c0 c1 c2 c3 c4 c5 c6 c7 c8 d0 d1 d2 d3 d4 d5 d6 d7 : Value} {T : TypeId} (h : w.heap[g]? = some (.cells #[c0, c1, c2, c3, c4, c5, c6, c7, c8] T (0, 0))) :
    ((((((((w.setCell ⟨g, 0, none⟩ d0).setCell ⟨g, 1, none⟩ d1).setCell ⟨g, 2, none⟩ d2).setCell ⟨g, 3, none⟩ d3).setCell ⟨g, 4, none⟩ d4).setCell ⟨g, 5, none⟩ d5).setCell ⟨g, 6, none⟩ d6).setCell ⟨g, 7, none⟩ d7).heap[g]? = some (.cells #[d0, d1, d2, d3, d4, d5, d6, d7, c8] T (0, 0)) := by
  have := blk_set (i := 7) (blk_set (i := 6) (blk_set (i := 5) (blk_set (i := 4) (blk_set (i := 3) (blk_set (i := 2) (blk_set (i := 1) (blk_set (i := 0) h d0) d1) d2) d3) d4) d5) d6) d7
  simpa using this
/-- the second four of nine cells set -/
theorem blk9_set4b {w : World} {g : Nat} {c0 c1 c2 c3 c4 c5 c6 c7 c8 d4 d5 d6 d7 : Value} {T : TypeId} (h : w.heap[g]? = some (.cells #[c0, c1, c2, c3, c4, c5, c6, c7, c8] T (0, 0))) :
    ((((w.setCell ⟨g, 4, none⟩ d4).setCell ⟨g, 5, none⟩ d5).setCell ⟨g, 6, none⟩ d6).setCell ⟨g, 7, none⟩ d7).heap[g]? = some (.cells #[c0, c1, c2, c3, d4, d5, d6, d7, c8] T (0, 0)) := by
  have := blk_set (i := 7) (blk_set (i := 6) (blk_set (i := 5) (blk_set (i := 4) h d4) d5) d6) d7
  simpa using this
end Go.Proofs.Ytenmhpalpfppmao

/- laws.szClause. -/
namespace Go.Proofs.Ytenmhpalpfppmao
open Go.RowKit

set_option maxHeartbeats 4000000 in
theorem sz_clause (H B : Tm) (f : ByteArray) (w : World) (left : Nat) (k1 s1 n1 a1 l1 c1 k2 s2 n2 a2 l2 c2) (h1 : TmIn w H (.agg #[.int .i64 k1, .string s1, .int .i64 n1, .slice a1 l1 c1])) (h2 : TmIn w B (.agg #[.int .i64 k2, .string s2, .int .i64 n2, .slice a2 l2 c2])) (hf : f.size ≤ maxLen) (hl : left ≤ 1048576) :
    Calls Try.prog 7 #[.agg #[.int .i64 k1, .string s1, .int .i64 n1, .slice a1 l1 c1, .int .i64 k2, .string s2, .int .i64 n2, .slice a2 l2 c2, .string f], .int .i64 (left : Int)] w fun e w' => e = .returned (.int .i64 (szR (H.wt + B.wt + f.size) left)) ∧ Below w.heap.size w w' := by
  unfold maxLen at hf
  obtain ⟨W, hW⟩ : ∃ W, W = w.alloc (.cells #[.int .i64 k1, .string s1, .int .i64 n1, .slice a1 l1 c1, .int .i64 k2, .string s2, .int .i64 n2, .slice a2 l2 c2, .string f] 27) := ⟨_, rfl⟩
  have bW : Below w.heap.size w W := by rw [hW]; exact (Below.refl _ _).alloc (Nat.le_refl _) _
  have k1' : W.heap[w.heap.size]? = some (.cells #[.int .i64 k1, .string s1, .int .i64 n1, .slice a1 l1 c1, .int .i64 k2, .string s2, .int .i64 n2, .slice a2 l2 c2, .string f] 27 (0, 0)) := by rw [hW]; exact heap_alloc_new w _
  have HK : Hid (∀ w1, Below W.heap.size W w1 → w1.heap[w.heap.size]? = some (.cells #[.int .i64 k1, .string s1, .int .i64 n1, .slice a1 l1 c1, .int .i64 k2, .string s2, .int .i64 n2, .slice a2 l2 c2, .string f] 27 (0, 0))) := fun w1 hb => (hb.block _ (Array.getElem?_eq_some_iff.1 k1').1).trans k1'
  have HBW : Hid (Below w.heap.size w W) := bW
  have HS1 := sz_term H W _ left (TmIn.keep bW _ _ h1) hl
  have HS2 : ∀ (w1 : World) (l : Nat), Below W.heap.size W w1 → l ≤ 1048576 → Calls Try.prog 16 #[.agg #[.int .i64 k2, .string s2, .int .i64 n2, .slice a2 l2 c2], .int .i64 (l : Int)] w1 fun e w' => e = .returned (.int .i64 (szR B.wt l)) ∧ Below w1.heap.size w1 w' := fun w1 l hb hl2 => sz_term B w1 _ l (TmIn.keep hb _ _ (TmIn.keep bW _ _ h2)) hl2
  clear h1 h2 bW k1'
  by_cases c1' : H.wt ≤ left
  · rw [show szR H.wt left = ((left - H.wt : Nat) : Int) from if_pos c1'] at HS1
    obtain ⟨l1, hl1⟩ : ∃ l1, l1 = left - H.wt := ⟨_, rfl⟩
    rw [← hl1] at HS1
    have hn1 : ¬ (l1 : Int) < 0 := by omega
    have HS1' : Hid _ := HS1
    have HS3 : ∀ w1, Below W.heap.size W w1 → _ := fun w1 hb => HS2 w1 l1 hb (by omega)
    by_cases c2' : B.wt ≤ l1
    · rw [show szR B.wt l1 = ((l1 - B.wt : Nat) : Int) from if_pos c2'] at HS3
      obtain ⟨l2, hl2⟩ : ∃ l2, l2 = l1 - B.wt := ⟨_, rfl⟩
      rw [← hl2] at HS3
      have hn2 : ¬ (l2 : Int) < 0 := by omega
      have HS3' : Hid _ := HS3
      have HLL : Hid (l2 ≤ 1048576) := by show _ ≤ _; omega
      have hl2i : (l2 : Int) ≤ 1048576 := by omega
      have hfi : (f.size : Int) ≤ 9223372036854775807 := by omega
      by_cases c3' : f.size ≤ l2
      · have HR : Hid (szR (H.wt + B.wt + f.size) left = (l2 : Int) - f.size) := by
          show _ = _
          rw [show szR (H.wt + B.wt + f.size) left = ((left - (H.wt + B.wt + f.size) : Nat) : Int) from if_pos (by omega)]
          omega
        have hn3 : ¬ (l2 : Int) - f.size < 0 := by omega
        clear HS1 HS2 HS3 c1' c2' c3' hl1 hl2 hl
        rw [HR.out]
        go_enter Try.func7, Try.ntmps7
        go_upto_region 1 with fail
        rw [← hW]
        clear hW
        obtain ⟨⟨z0, z1, z2, z3, z4, z5, z6, z7, z8⟩, _⟩ := blk9 (HK.out W (Below.refl _ _))
        go_upto_region 4 with (go_at_call 16; refine (Calls.mono HS1'.out ?_); rintro e w1 ⟨rfl, hb⟩; have HB1 : Hid (Below W.heap.size W w1) := hb; clear hb)
        clear z0 z1 z2 z3 z4 z5 z6 z7 z8
        obtain ⟨⟨z0, z1, z2, z3, z4, z5, z6, z7, z8⟩, _⟩ := blk9 (HK.out w1 HB1.out)
        have HS4 : Hid _ := HS3'.out w1 HB1.out
        go_upto_region 7 with (go_at_call 16; refine (Calls.mono HS4.out ?_); rintro e w2 ⟨rfl, hb⟩; have HB2 : Hid (Below W.heap.size W w2) := HB1.out.trans (hb.mono HB1.out.size); clear hb)
        clear z0 z1 z2 z3 z4 z5 z6 z7 z8
        obtain ⟨⟨z0, z1, z2, z3, z4, z5, z6, z7, z8⟩, _⟩ := blk9 (HK.out w2 HB2.out)
        go_wp2
        go_ret
        exact ⟨rfl, HBW.out.trans (HB2.out.mono HBW.out.size)⟩
      · have HR : Hid (szR (H.wt + B.wt + f.size) left = -1) := if_neg (by omega)
        have hn3 : (l2 : Int) - f.size < 0 := by omega
        clear HS1 HS2 HS3 c1' c2' c3' hl1 hl2 hl
        rw [HR.out]
        go_enter Try.func7, Try.ntmps7
        go_upto_region 1 with fail
        rw [← hW]
        clear hW
        obtain ⟨⟨z0, z1, z2, z3, z4, z5, z6, z7, z8⟩, _⟩ := blk9 (HK.out W (Below.refl _ _))
        go_upto_region 4 with (go_at_call 16; refine (Calls.mono HS1'.out ?_); rintro e w1 ⟨rfl, hb⟩; have HB1 : Hid (Below W.heap.size W w1) := hb; clear hb)
        clear z0 z1 z2 z3 z4 z5 z6 z7 z8
        obtain ⟨⟨z0, z1, z2, z3, z4, z5, z6, z7, z8⟩, _⟩ := blk9 (HK.out w1 HB1.out)
        have HS4 : Hid _ := HS3'.out w1 HB1.out
        go_upto_region 7 with (go_at_call 16; refine (Calls.mono HS4.out ?_); rintro e w2 ⟨rfl, hb⟩; have HB2 : Hid (Below W.heap.size W w2) := HB1.out.trans (hb.mono HB1.out.size); clear hb)
        clear z0 z1 z2 z3 z4 z5 z6 z7 z8
        obtain ⟨⟨z0, z1, z2, z3, z4, z5, z6, z7, z8⟩, _⟩ := blk9 (HK.out w2 HB2.out)
        go_wp2
        go_ret
        exact ⟨rfl, HBW.out.trans (HB2.out.mono HBW.out.size)⟩
    · have HR : Hid (szR (H.wt + B.wt + f.size) left = -1) := if_neg (by omega)
      rw [show szR B.wt l1 = -1 from if_neg c2'] at HS3
      have HS3' : Hid _ := HS3
      clear HS1 HS2 HS3 c1' c2' hl1 hl
      rw [HR.out]
      go_enter Try.func7, Try.ntmps7
      go_upto_region 1 with fail
      rw [← hW]
      clear hW
      obtain ⟨⟨z0, z1, z2, z3, z4, z5, z6, z7, z8⟩, _⟩ := blk9 (HK.out W (Below.refl _ _))
      go_upto_region 4 with (go_at_call 16; refine (Calls.mono HS1'.out ?_); rintro e w1 ⟨rfl, hb⟩; have HB1 : Hid (Below W.heap.size W w1) := hb; clear hb)
      clear z0 z1 z2 z3 z4 z5 z6 z7 z8
      obtain ⟨⟨z0, z1, z2, z3, z4, z5, z6, z7, z8⟩, _⟩ := blk9 (HK.out w1 HB1.out)
      have HS4 : Hid _ := HS3'.out w1 HB1.out
      go_wp2_with (go_at_call 16; refine (Calls.mono HS4.out ?_); rintro e w2 ⟨rfl, hb⟩; have HB2 : Hid (Below W.heap.size W w2) := HB1.out.trans (hb.mono HB1.out.size); clear hb)
      go_ret
      exact ⟨rfl, HBW.out.trans (HB2.out.mono HBW.out.size)⟩
  · have HR : Hid (szR (H.wt + B.wt + f.size) left = -1) := if_neg (by omega)
    rw [show szR H.wt left = -1 from if_neg c1'] at HS1
    have HS1' : Hid _ := HS1
    clear HS1 HS2 c1' hl
    rw [HR.out]
    go_enter Try.func7, Try.ntmps7
    go_upto_region 1 with fail
    rw [← hW]
    clear hW
    obtain ⟨⟨z0, z1, z2, z3, z4, z5, z6, z7, z8⟩, _⟩ := blk9 (HK.out W (Below.refl _ _))
    go_wp2_with (go_at_call 16; refine (Calls.mono HS1'.out ?_); rintro e w1 ⟨rfl, hb⟩; have HB1 : Hid (Below W.heap.size W w1) := hb; clear hb)
    go_ret
    exact ⟨rfl, HBW.out.trans (HB1.out.mono HBW.out.size)⟩
end Go.Proofs.Ytenmhpalpfppmao

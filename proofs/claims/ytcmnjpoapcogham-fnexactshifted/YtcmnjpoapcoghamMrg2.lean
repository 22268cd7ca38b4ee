/- Four texts in one. -/
import Derived.Test.YtcmnjpoapcoghamRows
import Derived.Test.YtcmnjpoapcoghamMrg1
import Derived.ProofKit
import Derived.BigQuiet
import Derived.Laws.AppendOwn
import Derived.Maps.AppendAt
import Derived.Laws.MakeOwn
/- The laws' comparison of terms: of the same term it says so. -/
namespace Go.Proofs.Ytcmnjpoapcogham
open Go.RowKit

def EqOk (t : Tm) : Prop := ∀ (w : World) (va vb : Value), TmIn w t va → TmIn w t vb →
  Calls Try.prog 13 #[va, vb] w fun e w' => e = .returned (.bool true) ∧ Below w.heap.size w w'

theorem eq_terms (ks : List Tm) (hks : ∀ t ∈ ks, EqOk t) (w : World) (ao bo : Option Addr) (ca cb : Nat) (hlen : ks.length ≤ maxLen) (ha : ks ≠ [] → ∃ b off, ao = some ⟨b, off, none⟩ ∧ TmsIn w ks b off) (hb : ks ≠ [] → ∃ b off, bo = some ⟨b, off, none⟩ ∧ TmsIn w ks b off) :
    Calls Try.prog 40 #[.slice ao ks.length ca, .slice bo ks.length cb] w fun e w' => e = .returned (.bool true) ∧ Below w.heap.size w w' := by
  unfold maxLen at hlen
  go_enter Try.func40, Try.ntmps40
  go_wp2
  go_loopw [5] (fun vi wr => Hid (Below w.heap.size w wr) ∧ ∃ j : Nat, j ≤ ks.length ∧ vi = .int .i64 (j : Int)) (fun i _ => ks.length - (intOf i).toNat)
  case atStart => exact ⟨Below.refl _ _, 0, by omega, rfl⟩
  case round =>
    obtain ⟨HB, j, hj, rfl⟩ := hrel
    by_cases hlt : j < ks.length
    · have hne : ks ≠ [] := by intro e; subst e; simp at hlt
      obtain ⟨b, off, rfl, hin⟩ := ha hne
      obtain ⟨b', off', rfl, hin'⟩ := hb hne
      obtain ⟨c0, c1, c2, c3, h0, h1, h2, h3, ht⟩ := (TmsIn.keep HB.out ks b off hin).at j hlt
      obtain ⟨d0, d1, d2, d3, g0, g1, g2, g3, gt⟩ := (TmsIn.keep HB.out ks b' off' hin').at j hlt
      have HC : Hid (∀ u, Calls Try.prog 13 #[.agg #[c0, c1, c2, c3], .agg #[d0, d1, d2, d3]] (later wr u) fun e w' => e = .returned (.bool true) ∧ Below (later wr u).heap.size (later wr u) w') := fun u =>
        hks ks[j] (List.getElem_mem hlt) (later wr u) _ _ (TmIn.keep (later_below wr u) _ _ ht) (TmIn.keep (later_below wr u) _ _ gt)
      have k0 : ∀ u, (later wr u).cell? ⟨b, off + j * 4, none⟩ = some c0 := fun u => cell_keep h0 (later_below wr u)
      have k1 : ∀ u, (later wr u).cell? ⟨b, off + j * 4 + 1, none⟩ = some c1 := fun u => cell_keep h1 (later_below wr u)
      have k2 : ∀ u, (later wr u).cell? ⟨b, off + j * 4 + 2, none⟩ = some c2 := fun u => cell_keep h2 (later_below wr u)
      have k3 : ∀ u, (later wr u).cell? ⟨b, off + j * 4 + 3, none⟩ = some c3 := fun u => cell_keep h3 (later_below wr u)
      have l0 : ∀ u, (later wr u).cell? ⟨b', off' + j * 4, none⟩ = some d0 := fun u => cell_keep g0 (later_below wr u)
      have l1 : ∀ u, (later wr u).cell? ⟨b', off' + j * 4 + 1, none⟩ = some d1 := fun u => cell_keep g1 (later_below wr u)
      have l2 : ∀ u, (later wr u).cell? ⟨b', off' + j * 4 + 2, none⟩ = some d2 := fun u => cell_keep g2 (later_below wr u)
      have l3 : ∀ u, (later wr u).cell? ⟨b', off' + j * 4 + 3, none⟩ = some d3 := fun u => cell_keep g3 (later_below wr u)
      clear hin hin' ht gt ha hb hks h0 h1 h2 h3 g0 g1 g2 g3
      go_wp2
      refine wp_region_later (by kernel_rfl) (by kernel_rfl) ?_
      repeat (go_big_quiet_step ((go_at_call 13; exact Calls.later_of_below (HC.out _))))
      refine wpQuiet_nil ?_
      rintro _ ⟨u, rfl⟩
      have hb2 := later_below wr u
      clear k0 k1 k2 k3 l0 l1 l2 l3
      go_wp2
      go_roundw
      case rel => exact ⟨HB.out.trans (hb2.mono HB.out.size), j + 1, by omega, by go_num⟩
      case measure => simp [intOf]; omega
    · go_wp2
      go_ret
      exact ⟨rfl, HB.out⟩

theorem eq_term (t : Tm) : EqOk t := by
  refine tm_ind (p := EqOk) ?_ t
  clear t
  intro k s n ks hks w va vb hin hin'
  unfold TmIn at hin hin'
  obtain ⟨ao, ca, rfl, hk, hn, hs, hlen, hcap, hrow⟩ := hin
  obtain ⟨bo, cb, rfl, _, _, _, _, _, hrow'⟩ := hin'
  have hb1 : Below w.heap.size w ((w.alloc (.cells #[.int .i64 k, .string s, .int .i64 n, .slice ao ks.length ca] 28)).alloc (.cells #[.int .i64 k, .string s, .int .i64 n, .slice bo ks.length cb] 28)) :=
    ((Below.refl _ _).alloc (Nat.le_refl _) _).alloc (by simp) _
  have HC : Hid _ := eq_terms ks hks _ ao bo ca cb (by omega) (fun h0 => by obtain ⟨b, off, e, hr⟩ := hrow h0; exact ⟨b, off, e, TmsIn.keep hb1 ks b off hr⟩) (fun h0 => by obtain ⟨b, off, e, hr⟩ := hrow' h0; exact ⟨b, off, e, TmsIn.keep hb1 ks b off hr⟩)
  replace hb1 : Hid _ := hb1
  clear hks hrow hrow'
  unfold maxLen at *
  go_enter Try.func13, Try.ntmps13
  go_wp2_with (go_at_call 40; refine (Calls.mono HC.out ?_); rintro e w1 ⟨rfl, hb⟩; have HB1 : Hid (Below w.heap.size w w1) := hb1.out.trans (hb.mono hb1.out.size); clear hb)
  go_ret
  exact ⟨rfl, HB1.out⟩
end Go.Proofs.Ytcmnjpoapcogham

/- Terms whose rows of kids lie each in a block of its own: the blocks, and what stays where they stay. Of no program. -/
namespace Go.Proofs.Ytcmnjpoapcogham
open Go.RowKit

mutual
/-- the value v is the term in w, its rows in the blocks F, in the order in which they are met -/
def Own (e : TypeId) (w : World) : Tm → Value → List Nat → Prop
  | .mk k s n ks, v, F => ∃ sl, v = .agg #[.int .i64 k, .string s, .int .i64 n, sl] ∧ (-9223372036854775808 ≤ k ∧ k ≤ 9223372036854775807) ∧ (-9223372036854775808 ≤ n ∧ n ≤ 9223372036854775807) ∧ s.size ≤ maxLen ∧
    ((sl = .slice none 0 0 ∧ ks = [] ∧ F = []) ∨ ∃ g cap cs F', sl = .slice (some ⟨g, 0, none⟩) ks.length cap ∧ w.ownsRow 0 e 4 sl ks.length cs ∧ F = g :: F' ∧ OwnRow e w ks cs F')
/-- .. the cells of a row, four each -/
def OwnRow (e : TypeId) (w : World) : List Tm → List Value → List Nat → Prop
  | [], cs, F => cs = [] ∧ F = []
  | t :: ts, cs, F => ∃ c0 c1 c2 c3 cs' F1 F2, cs = c0 :: c1 :: c2 :: c3 :: cs' ∧ F = F1 ++ F2 ∧ Own e w t (.agg #[c0, c1, c2, c3]) F1 ∧ OwnRow e w ts cs' F2
end

/-- a slice of terms, its own row and theirs -/
def OwnS (e : TypeId) (w : World) (ks : List Tm) (sl : Value) (F : List Nat) : Prop :=
  (sl = .slice none 0 0 ∧ ks = [] ∧ F = []) ∨ ∃ g cap cs F', sl = .slice (some ⟨g, 0, none⟩) ks.length cap ∧ w.ownsRow 0 e 4 sl ks.length cs ∧ F = g :: F' ∧ OwnRow e w ks cs F'

theorem own_mk {e : TypeId} {w : World} {k n : Int} {s : ByteArray} {ks : List Tm} {sl : Value} {F : List Nat} (h : OwnS e w ks sl F) (hk : -9223372036854775808 ≤ k ∧ k ≤ 9223372036854775807) (hn : -9223372036854775808 ≤ n ∧ n ≤ 9223372036854775807) (hs : s.size ≤ maxLen) :
    Own e w (.mk k s n ks) (.agg #[.int .i64 k, .string s, .int .i64 n, sl]) F := by
  unfold Own
  exact ⟨sl, rfl, hk, hn, hs, h⟩

theorem own_open {e : TypeId} {w : World} {k n : Int} {s : ByteArray} {ks : List Tm} {v : Value} {F : List Nat} (h : Own e w (.mk k s n ks) v F) :
    ∃ sl, v = .agg #[.int .i64 k, .string s, .int .i64 n, sl] ∧ OwnS e w ks sl F := by
  unfold Own at h
  obtain ⟨sl, rfl, _, _, _, h⟩ := h
  exact ⟨sl, rfl, h⟩

theorem row_keep {w w' : World} {B e size n g cap : Nat} {xs : List Value} (h : w.ownsRow B e size (.slice (some ⟨g, 0, none⟩) n cap) n xs) (hb : w'.heap[g]? = w.heap[g]?) : w'.ownsRow B e size (.slice (some ⟨g, 0, none⟩) n cap) n xs := by
  refine ⟨h.1, ?_⟩
  rcases h.2 with ⟨h, _⟩ | ⟨g', cap', cur, h1, h2, h3, h4⟩
  · cases h
  · cases h1
    exact Or.inr ⟨g, cap, cur, rfl, h2, hb.trans h3, h4⟩

mutual
theorem Own.keep {e : TypeId} {w w' : World} : ∀ (t : Tm) (v : Value) (F : List Nat), Own e w t v F → (∀ f ∈ F, w'.heap[f]? = w.heap[f]?) → Own e w' t v F
  | .mk k s n ks, v, F, h, hF => by
    unfold Own at h ⊢
    obtain ⟨sl, rfl, h1, h2, h3, h4⟩ := h
    refine ⟨sl, rfl, h1, h2, h3, ?_⟩
    rcases h4 with h4 | ⟨g, cap, cs, F', rfl, h5, rfl, h6⟩
    · exact Or.inl h4
    · exact Or.inr ⟨g, cap, cs, F', rfl, row_keep h5 (hF g (by simp)), rfl, OwnRow.keep ks cs F' h6 (fun f hf => hF f (by simp [hf]))⟩
theorem OwnRow.keep {e : TypeId} {w w' : World} : ∀ (ks : List Tm) (cs : List Value) (F : List Nat), OwnRow e w ks cs F → (∀ f ∈ F, w'.heap[f]? = w.heap[f]?) → OwnRow e w' ks cs F
  | [], _, _, h, _ => by unfold OwnRow at h ⊢; exact h
  | t :: ts, cs, F, h, hF => by
    unfold OwnRow at h ⊢
    obtain ⟨c0, c1, c2, c3, cs', F1, F2, rfl, rfl, h1, h2⟩ := h
    exact ⟨c0, c1, c2, c3, cs', F1, F2, rfl, rfl, Own.keep t _ F1 h1 (fun f hf => hF f (by simp [hf])), OwnRow.keep ts cs' F2 h2 (fun f hf => hF f (by simp [hf]))⟩
end

mutual
theorem Own.lt {e : TypeId} {w : World} : ∀ (t : Tm) (v : Value) (F : List Nat), Own e w t v F → ∀ f ∈ F, f < w.heap.size
  | .mk k s n ks, v, F, h => by
    unfold Own at h
    obtain ⟨sl, rfl, h1, h2, h3, h4⟩ := h
    rcases h4 with ⟨_, _, rfl⟩ | ⟨g, cap, cs, F', rfl, h5, rfl, h6⟩
    · intro f hf; cases hf
    · intro f hf
      rcases List.mem_cons.1 hf with rfl | hf
      · exact (h5.lt _ rfl).2
      · exact OwnRow.lt ks cs F' h6 f hf
theorem OwnRow.lt {e : TypeId} {w : World} : ∀ (ks : List Tm) (cs : List Value) (F : List Nat), OwnRow e w ks cs F → ∀ f ∈ F, f < w.heap.size
  | [], _, _, h => by unfold OwnRow at h; obtain ⟨_, rfl⟩ := h; intro f hf; cases hf
  | t :: ts, cs, F, h => by
    unfold OwnRow at h
    obtain ⟨c0, c1, c2, c3, cs', F1, F2, rfl, rfl, h1, h2⟩ := h
    intro f hf
    rcases List.mem_append.1 hf with hf | hf
    · exact Own.lt t _ F1 h1 f hf
    · exact OwnRow.lt ts cs' F2 h2 f hf
end

mutual
theorem Own.toIn {e : TypeId} {w : World} : ∀ (t : Tm) (v : Value) (F : List Nat), Own e w t v F → TmIn w t v
  | .mk k s n ks, v, F, h => by
    unfold Own at h
    obtain ⟨sl, rfl, h1, h2, h3, h4⟩ := h
    unfold TmIn
    rcases h4 with ⟨rfl, rfl, _⟩ | ⟨g, cap, cs, F', rfl, h5, rfl, h6⟩
    · exact ⟨none, 0, rfl, h1, h2, h3, Nat.le_refl _, Nat.zero_le _, fun h => absurd rfl h⟩
    · have h5' := h5
      rcases h5.2 with ⟨h, _⟩ | ⟨g', cap', cur, hc, _, hh, hnc, hcm, hcs, htk⟩
      · cases h
      · cases hc
        refine ⟨_, cap, rfl, h1, h2, h3, hnc, hcm, fun _ => ⟨g, 0, rfl, OwnRow.toIn ks cs F' g 0 h6 fun i hi => ?_⟩⟩
        have := h5'.cellAt i (by rw [← h5'.1]; exact hi)
        rw [Nat.zero_add]
        rw [this]
theorem OwnRow.toIn {e : TypeId} {w : World} : ∀ (ks : List Tm) (cs : List Value) (F : List Nat) (g off : Nat), OwnRow e w ks cs F → (∀ i, i < cs.length → w.cell? ⟨g, off + i, none⟩ = cs[i]?) → TmsIn w ks g off
  | [], _, _, _, _, _, _ => by unfold TmsIn; trivial
  | t :: ts, cs, F, g, off, h, hc => by
    unfold OwnRow at h
    obtain ⟨c0, c1, c2, c3, cs', F1, F2, rfl, rfl, h1, h2⟩ := h
    unfold TmsIn
    refine ⟨⟨c0, c1, c2, c3, hc 0 (by simp), hc 1 (by simp), hc 2 (by simp), hc 3 (by simp), Own.toIn t _ F1 h1⟩, OwnRow.toIn ts cs' F2 g (off + 4) h2 fun i hi => ?_⟩
    have := hc (i + 4) (by simp only [List.length_cons]; omega)
    rw [show off + (i + 4) = off + 4 + i by omega] at this
    rw [this]
    simp
end

theorem OwnS.keep {e : TypeId} {w w' : World} {ks : List Tm} {sl : Value} {F : List Nat} (h : OwnS e w ks sl F) (hF : ∀ f ∈ F, w'.heap[f]? = w.heap[f]?) : OwnS e w' ks sl F := by
  rcases h with h | ⟨g, cap, cs, F', rfl, h5, rfl, h6⟩
  · exact Or.inl h
  · exact Or.inr ⟨g, cap, cs, F', rfl, row_keep h5 (hF g (by simp)), rfl, OwnRow.keep ks cs F' h6 (fun f hf => hF f (by simp [hf]))⟩

theorem OwnRow.snoc {e : TypeId} {w : World} {t : Tm} {c0 c1 c2 c3 : Value} {F2 : List Nat} (h2 : Own e w t (.agg #[c0, c1, c2, c3]) F2) : ∀ (ks : List Tm) (cs : List Value) (F : List Nat), OwnRow e w ks cs F → OwnRow e w (ks ++ [t]) (cs ++ [c0, c1, c2, c3]) (F ++ F2)
  | [], _, _, h => by
    unfold OwnRow at h
    obtain ⟨rfl, rfl⟩ := h
    unfold OwnRow
    exact ⟨c0, c1, c2, c3, [], F2, [], rfl, by simp, h2, by unfold OwnRow; exact ⟨rfl, rfl⟩⟩
  | t' :: ts, cs, F, h => by
    unfold OwnRow at h
    obtain ⟨d0, d1, d2, d3, cs', F1, F3, rfl, rfl, h1, h3⟩ := h
    show OwnRow e w (t' :: (ts ++ [t])) _ _
    unfold OwnRow
    exact ⟨d0, d1, d2, d3, cs' ++ [c0, c1, c2, c3], F1, F3 ++ F2, by simp, by simp, h1, OwnRow.snoc h2 ts cs' F3 h3⟩

theorem OwnRow.len {e : TypeId} {w : World} : ∀ (ks : List Tm) (cs : List Value) (F : List Nat), OwnRow e w ks cs F → cs.length = ks.length * 4
  | [], _, _, h => by unfold OwnRow at h; obtain ⟨rfl, _⟩ := h; rfl
  | t :: ts, cs, F, h => by
    unfold OwnRow at h
    obtain ⟨c0, c1, c2, c3, cs', F1, F2, rfl, rfl, h1, h2⟩ := h
    have := OwnRow.len ts cs' F2 h2
    simp only [List.length_cons]
    omega

theorem own_shape {e : TypeId} {w : World} {t : Tm} {v : Value} {F : List Nat} (h : Own e w t v F) : ∃ k s n ao len cap, v = .agg #[.int .i64 k, .string s, .int .i64 n, .slice ao len cap] := by
  obtain ⟨k, s, n, ks⟩ := t
  obtain ⟨sl, rfl, h1⟩ := own_open h
  rcases h1 with ⟨rfl, _⟩ | ⟨g, cap, cs, F', rfl, _⟩
  · exact ⟨_, _, _, _, _, _, rfl⟩
  · exact ⟨_, _, _, _, _, _, rfl⟩

theorem blk_cell {w : World} {g i : Nat} {cur : Array Value} {T : TypeId} {fr : Nat × Nat} (h : w.heap[g]? = some (.cells cur T fr)) (hi : i < cur.size) : w.cell? ⟨g, i, none⟩ = some cur[i] := by
  unfold World.cell?; rw [h]; simp [hi]
theorem blk_frozen {w : World} {g : Nat} {cur : Array Value} {T : TypeId} (h : w.heap[g]? = some (.cells cur T (0, 0))) (i : Nat) : w.frozen? ⟨g, i, none⟩ = false := by
  unfold World.frozen?; rw [h]; simp
theorem blk_set {w : World} {g i : Nat} {cur : Array Value} {T : TypeId} {fr : Nat × Nat} (h : w.heap[g]? = some (.cells cur T fr)) (v : Value) : (w.setCell ⟨g, i, none⟩ v).heap[g]? = some (.cells (cur.setIfInBounds i v) T fr) := by
  simp [World.setCell, Array.getElem?_modify, h]
theorem blk_other {w : World} {g i f : Nat} (v : Value) (hf : f ≠ g) : (w.setCell ⟨g, i, none⟩ v).heap[f]? = w.heap[f]? := by
  simp [World.setCell, Array.getElem?_modify, Ne.symm hf]
theorem set4_take {cur : Array Value} {j : Nat} {d0 d1 d2 d3 : Value} (h : j * 4 + 3 < cur.size) :
    ((((cur.setIfInBounds (j * 4) d0).setIfInBounds (j * 4 + 1) d1).setIfInBounds (j * 4 + 2) d2).setIfInBounds (j * 4 + 3) d3).toList.take ((j + 1) * 4) = cur.toList.take (j * 4) ++ [d0, d1, d2, d3] := by
  apply List.ext_getElem?
  intro i
  have hl : cur.toList.length = cur.size := by simp
  simp only [Array.toList_setIfInBounds, List.getElem?_take, List.getElem?_set, List.length_set, List.getElem?_append, List.length_take, hl]
  have e1 : min (j * 4) cur.size = j * 4 := by omega
  rw [e1]
  by_cases h1 : i < j * 4
  · have a1 : i < (j + 1) * 4 := by omega
    have a2 : ¬ j * 4 = i := by omega
    have a3 : ¬ j * 4 + 1 = i := by omega
    have a4 : ¬ j * 4 + 2 = i := by omega
    have a5 : ¬ j * 4 + 3 = i := by omega
    simp [h1, a1, a2, a3, a4, a5]
  · by_cases h2 : i < (j + 1) * 4
    · have : i = j * 4 ∨ i = j * 4 + 1 ∨ i = j * 4 + 2 ∨ i = j * 4 + 3 := by omega
      rcases this with rfl | rfl | rfl | rfl
      · have b1 : j * 4 < cur.size := by omega
        simp [h2, b1]
      · have b1 : j * 4 + 1 < cur.size := by omega
        simp [h2, b1]
        omega
      · have b1 : j * 4 + 2 < cur.size := by omega
        simp [h2, b1]
        omega
      · simp [h2, h]
        omega
    · have : ¬ i - j * 4 < 4 := by omega
      have a6 : [d0, d1, d2, d3][i - j * 4]? = none := by
        rw [List.getElem?_eq_none]; simp; omega
      simp [h1, h2, a6]
end Go.Proofs.Ytcmnjpoapcogham

/- A row of terms that grows by appends. Of no program. -/
namespace Go.Proofs.Ytcmnjpoapcogham
open Go.RowKit

/-- what was put together so far: a row of its own, and the terms in it in blocks of their own -/
def OutS (e : TypeId) (w : World) (B : Nat) (ks : List Tm) (v : Value) (F : List Nat) : Prop :=
  ∃ cs g, w.ownsRow B e 4 v ks.length cs ∧ v.ownBlock = some g ∧ OwnRow e w ks cs F ∧ (∀ f ∈ F, B ≤ f) ∧ B ≤ g ∧ (g :: F).Nodup

theorem OutS.own {e : TypeId} {w : World} {B : Nat} {ks : List Tm} {v : Value} {F : List Nat} (h : OutS e w B ks v F) : ∃ F', OwnS e w ks v F' ∧ (∀ f ∈ F', B ≤ f) ∧ F'.Nodup := by
  obtain ⟨cs, g, h1, h2, h3, h4, h5, h6⟩ := h
  refine ⟨g :: F, ?_, ?_, h6⟩
  · rcases h1.2 with ⟨rfl, _⟩ | ⟨g', cap, cur, rfl, hb, hh, hr⟩
    · cases h2
    · obtain rfl : g' = g := by simpa [Value.ownBlock] using h2
      exact Or.inr ⟨g', cap, cs, F, rfl, ⟨h1.1, Or.inr ⟨g', cap, cur, rfl, Nat.zero_le _, hh, hr⟩⟩, rfl, h3⟩
  · intro f hf
    rcases List.mem_cons.1 hf with rfl | hf
    · exact h5
    · exact h4 f hf

theorem OutS.lt {e : TypeId} {w : World} {B : Nat} {ks : List Tm} {v : Value} {F : List Nat} (h : OutS e w B ks v F) : (∀ f ∈ F, f < w.heap.size) ∧ ∀ g, v.ownBlock = some g → g < w.heap.size := by
  obtain ⟨cs, g, h1, h2, h3, h4, h5, h6⟩ := h
  exact ⟨OwnRow.lt _ _ _ h3, fun g hg => (h1.lt g hg).2⟩

theorem OutS.shape {e : TypeId} {w : World} {B : Nat} {ks : List Tm} {v : Value} {F : List Nat} (h : OutS e w B ks v F) : ∃ g cap, v = .slice (some ⟨g, 0, none⟩) ks.length cap ∧ B ≤ g ∧ g < w.heap.size ∧ ks.length ≤ cap ∧ cap ≤ maxLen := by
  obtain ⟨cs, g, h1, h2, h3, h4, h5, h6⟩ := h
  rcases h1.2 with ⟨rfl, _⟩ | ⟨g', cap, cur, rfl, hb, hh, hr, hm, _⟩
  · cases h2
  · exact ⟨g', cap, rfl, hb, (Array.getElem?_eq_some_iff.1 hh).1, hr, hm⟩

theorem OutS.keep {e : TypeId} {w w' : World} {B : Nat} {ks : List Tm} {v : Value} {F : List Nat} (h : OutS e w B ks v F) (hb : ∀ k, B ≤ k → k < w.heap.size → w'.heap[k]? = w.heap[k]?) : OutS e w' B ks v F := by
  have hlt := h.lt
  obtain ⟨cs, g, h1, h2, h3, h4, h5, h6⟩ := h
  refine ⟨cs, g, ?_, h2, OwnRow.keep _ _ _ h3 fun f hf => hb f (h4 f hf) (hlt.1 f hf), h4, h5, h6⟩
  rcases h1.2 with ⟨rfl, _⟩ | ⟨g', cap, cur, rfl, hb', hh, hr⟩
  · cases h2
  · exact ⟨h1.1, Or.inr ⟨g', cap, cur, rfl, hb', (hb g' hb' (Array.getElem?_eq_some_iff.1 hh).1).trans hh, hr⟩⟩

theorem outS_new {e : TypeId} {w : World} {B : Nat} (hB : B ≤ w.heap.size) (cap : Nat) (hc : cap ≤ maxLen) (M : Array Value) (hM : M.size = cap * 4) : OutS e (w.alloc (.cells M e)) B [] (.slice (some ⟨w.heap.size, 0, none⟩) 0 cap) [] := by
  refine ⟨[], w.heap.size, ⟨by simp, Or.inr ⟨w.heap.size, cap, M, rfl, hB, heap_alloc_new w _, Nat.zero_le _, hc, hM, by simp⟩⟩, rfl, by simp [OwnRow], by simp, hB, by simp⟩

/-- one more term behind it -/
theorem OutS.push {e : TypeId} {w1 w2 : World} {B : Nat} {ks : List Tm} {v v' : Value} {F F2 : List Nat} {t : Tm} {c0 c1 c2 c3 : Value} {cs : List Value} {g : Nat}
    (h1 : w1.ownsRow B e 4 v ks.length cs) (hg : v.ownBlock = some g) (hr : OwnRow e w1 ks cs F) (hF : ∀ f ∈ F, B ≤ f) (hBg : B ≤ g) (hnd : (g :: F).Nodup)
    (ht : Own e w1 t (.agg #[c0, c1, c2, c3]) F2) (hF2 : ∀ f ∈ F2, B ≤ f) (hnd2 : F2.Nodup) (hdis : ∀ f ∈ F2, f ∉ g :: F)
    (hown : w2.ownsRow B e 4 v' (ks.length + 1) (cs ++ [c0, c1, c2, c3])) (hgrow : w1.grownBy w2 v.ownBlock) (hat : v'.ownBlock = v.ownBlock ∨ v'.ownBlock = some w1.heap.size) :
    OutS e w2 B (ks ++ [t]) v' (F ++ F2) := by
  have hlt := OwnRow.lt _ _ _ hr
  have hlt2 := Own.lt _ _ _ ht
  have hglt := (h1.lt g hg).2
  rw [List.nodup_cons] at hnd
  have hk : ∀ f, f < w1.heap.size → f ≠ g → w2.heap[f]? = w1.heap[f]? := fun f hf hne => hgrow.block f hf (by rw [hg]; intro e; exact hne (by simpa using e))
  obtain ⟨g', hg', hgg⟩ : ∃ g', v'.ownBlock = some g' ∧ (g' = g ∨ g' = w1.heap.size) := by
    rcases hat with hat | hat
    · exact ⟨g, hat.trans hg, Or.inl rfl⟩
    · exact ⟨_, hat, Or.inr rfl⟩
  have hne : ∀ f ∈ F, f ≠ g := fun f hf e => hnd.1 (e ▸ hf)
  have hne2 : ∀ f ∈ F2, f ≠ g := fun f hf e => hdis f hf (by simp [e])
  refine ⟨cs ++ [c0, c1, c2, c3], g', by simpa using hown, hg', ?_, ?_, ?_, ?_⟩
  · exact OwnRow.snoc (Own.keep _ _ _ ht fun f hf => hk f (hlt2 f hf) (hne2 f hf)) _ _ _ (OwnRow.keep _ _ _ hr fun f hf => hk f (hlt f hf) (hne f hf))
  · intro f hf
    rcases List.mem_append.1 hf with hf | hf
    · exact hF f hf
    · exact hF2 f hf
  · rcases hgg with rfl | rfl
    · exact hBg
    · omega
  · refine List.nodup_cons.2 ⟨fun hf => ?_, List.nodup_append.2 ⟨hnd.2, hnd2, fun a ha b hb e => hdis b hb (by rw [← e]; simp [ha])⟩⟩
    rcases List.mem_append.1 hf with hf | hf
    · rcases hgg with rfl | rfl
      · exact hnd.1 hf
      · have := hlt _ hf; omega
    · rcases hgg with rfl | rfl
      · exact hne2 _ hf rfl
      · have := hlt2 _ hf; omega
end Go.Proofs.Ytcmnjpoapcogham

/- The laws' copy of a term: each row in a block of its own. -/
namespace Go.Proofs.Ytcmnjpoapcogham
open Go.RowKit

theorem infoT : (Try.prog.info? 28).map (fun i => (i.zero, i.size, i.bytes)) = some (some (.agg #[.int .i64 0, .string ⟨#[]⟩, .int .i64 0, .slice none 0 0]), 4, 56) := by kernel_rfl

theorem make_terms (n : Nat) (h1 : n ≤ 1048576) : ∃ M : Array Value, M.size = n * 4 ∧
    (∀ W : World, (Instr.makeSlice 26 (.int .i64 (n : Int)) (.int .i64 (n : Int))).run Try.prog W = .ok (.slice (some ⟨W.heap.size, 0, none⟩) n n) (W.alloc (.cells M 28))) := by
  obtain ⟨i0, hi, hz0, hz1, hz2⟩ := info_parts infoT
  refine ⟨madeCells (Value.agg #[.int .i64 0, .string ⟨#[]⟩, .int .i64 0, .slice none 0 0]).cells (n * i0.size), ?_, ?_⟩
  · rw [size_madeCells, hz1]
  · intro W
    have h := run_make (P := Try.prog) W 26 28 i0 _ Try.underlying26 hi hz0 .i64 .i64 n n (by omega) (by omega) (by rw [hz2]; omega) (by omega)
    simpa using h

def ToOk (t : Tm) : Prop := ∀ (w : World) (v : Value), TmIn w t v → t.wt ≤ 1048576 →
  Calls Try.prog 11 #[v] w fun e w' => ∃ v' F, e = .returned v' ∧ Own 28 w' t v' F ∧ (∀ f ∈ F, w.heap.size ≤ f) ∧ F.Nodup ∧ Below w.heap.size w w'

theorem wt_le {ks : List Tm} {t : Tm} (h : t ∈ ks) : t.wt ≤ wts ks := by
  induction ks with
  | nil => cases h
  | cons a r ih =>
    simp only [wts, Tm.wt.wts] at *
    rcases List.mem_cons.1 h with rfl | h
    · omega
    · have := ih h; omega

theorem to_terms (ks : List Tm) (hks : ∀ t ∈ ks, ToOk t) (w : World) (ao : Option Addr) (cap : Nat) (hlen : ks.length + wts ks ≤ 1048576) (h : ks ≠ [] → ∃ b off, ao = some ⟨b, off, none⟩ ∧ TmsIn w ks b off) :
    Calls Try.prog 34 #[.slice ao ks.length cap] w fun e w' => ∃ sl F, e = .returned sl ∧ OwnS 28 w' ks sl F ∧ (∀ f ∈ F, w.heap.size ≤ f) ∧ F.Nodup ∧ Below w.heap.size w w' := by
  obtain ⟨M, hM, hmk⟩ := make_terms ks.length (by omega)
  go_enter Try.func34, Try.ntmps34
  go_wp2
  clear hmk
  go_loopw [4] (fun vi wr => ∃ (j : Nat) (cur : Array Value) (F : List Nat), j ≤ ks.length ∧ vi = .int .i64 (j : Int) ∧ Hid (Below w.heap.size w wr) ∧ wr.heap[w.heap.size]? = some (.cells cur 28 (0, 0)) ∧ cur.size = ks.length * 4 ∧
      Hid (OwnRow 28 wr (ks.take j) (cur.toList.take (j * 4)) F ∧ (∀ f ∈ F, w.heap.size < f) ∧ F.Nodup)) (fun i _ => ks.length - (intOf i).toNat)
  case atStart =>
    refine ⟨0, M, [], by omega, rfl, (Below.refl _ _).alloc (Nat.le_refl _) _, by rw [heap_alloc_new], hM, ?_⟩
    exact ⟨by simp [OwnRow], by simp, by simp⟩
  case round =>
    obtain ⟨j, cur, F, hj, rfl, HB, hblk, hcs, HO⟩ := hrel
    by_cases hlt : j < ks.length
    · obtain ⟨b, off, rfl, hin⟩ := h (by intro e; subst e; simp at hlt)
      obtain ⟨c0, c1, c2, c3, h0, h1, h2, h3, ht⟩ := (TmsIn.keep HB.out ks b off hin).at j hlt
      have hwj := wt_le (List.getElem_mem hlt)
      have HC : Hid _ := hks ks[j] (List.getElem_mem hlt) wr _ ht (by omega)
      have hg : w.heap.size < wr.heap.size := (Array.getElem?_eq_some_iff.1 hblk).1
      have hkeep : ∀ w1 : World, Below wr.heap.size wr w1 → w1.heap[w.heap.size]? = some (.cells cur 28 (0, 0)) := fun w1 hb => (hb.block _ hg).trans hblk
      have HK : Hid _ := hkeep
      clear hin ht h hks hkeep hblk
      go_wp2_with (go_at_call 11; refine (Calls.mono HC.out ?_); rintro e w1 ⟨v', F2, rfl, hown, hfr, hnd, hb⟩; obtain ⟨k', s', n', ao', len', cap', rfl⟩ := own_shape hown; have hg1 := HK.out w1 hb; have x0 := blk_cell (i := j * 4) hg1 (by omega); have x1 := blk_cell (i := j * 4 + 1) hg1 (by omega); have x2 := blk_cell (i := j * 4 + 2) hg1 (by omega); have x3 := blk_cell (i := j * 4 + 3) hg1 (by omega); have z0 := blk_frozen hg1 (j * 4); have z1 := blk_frozen hg1 (j * 4 + 1); have z2 := blk_frozen hg1 (j * 4 + 2); have z3 := blk_frozen hg1 (j * 4 + 3); have HOWN : Hid _ := hown; have HFR : Hid _ := hfr; have HG : Hid _ := hg1; have HBB : Hid _ := hb; clear hown hfr hg1 hb)
      go_roundw
      case rel =>
        have hsz := HB.out.size
        have hb1 := HBB.out
        have hg1 := HG.out
        obtain ⟨o1, o2, o3⟩ := HO.out
        have hlt1 := OwnRow.lt _ _ _ o1
        have hne : ∀ f, w.heap.size < f → f ≠ w.heap.size := fun f hf => by omega
        refine ⟨j + 1, _, F ++ F2, by omega, by go_num, ?_, blk_set (blk_set (blk_set (blk_set hg1 _) _) _) _, by simp; exact hcs, ?_, ?_, ?_⟩
        · exact below_set (below_set (below_set (below_set (HB.out.trans (hb1.mono hsz)) (Nat.le_refl _) _) (Nat.le_refl _) _) (Nat.le_refl _) _) (Nat.le_refl _) _
        · rw [List.take_succ_eq_append_getElem hlt, set4_take (by omega)]
          refine OwnRow.snoc (Own.keep _ _ _ HOWN.out fun f hf => ?_) _ _ _ (OwnRow.keep _ _ _ o1 fun f hf => ?_)
          · have h1 := HFR.out f hf
            rw [blk_other _ (hne f (by omega)), blk_other _ (hne f (by omega)), blk_other _ (hne f (by omega)), blk_other _ (hne f (by omega))]
          · have h1 := o2 f hf
            rw [blk_other _ (hne f h1), blk_other _ (hne f h1), blk_other _ (hne f h1), blk_other _ (hne f h1)]
            exact hb1.block f (hlt1 f hf)
        · intro f hf
          rcases List.mem_append.1 hf with hf | hf
          · exact o2 f hf
          · have := HFR.out f hf; omega
        · refine List.nodup_append.2 ⟨o3, hnd, fun a ha b hb => ?_⟩
          have h1 := hlt1 a ha
          have h2 := HFR.out b hb
          omega
      case measure => simp [intOf]; omega
    · obtain rfl : j = ks.length := by omega
      go_wp2
      go_ret
      obtain ⟨o1, o2, o3⟩ := HO.out
      rw [List.take_of_length_le (Nat.le_refl _)] at o1
      refine ⟨_, w.heap.size :: F, rfl, Or.inr ⟨w.heap.size, ks.length, cur.toList.take (ks.length * 4), F, rfl, ⟨by simp [hcs], Or.inr ⟨w.heap.size, ks.length, cur, rfl, Nat.zero_le _, hblk, Nat.le_refl _, by unfold maxLen; omega, hcs, rfl⟩⟩, rfl, o1⟩, ?_, ?_, HB.out⟩
      · intro f hf
        rcases List.mem_cons.1 hf with rfl | hf
        · exact Nat.le_refl _
        · have := o2 f hf; omega
      · refine List.nodup_cons.2 ⟨fun hf => ?_, o3⟩
        have := o2 _ hf
        omega

theorem alloc_at (w : World) (o : Obj) {i : Nat} (h : i = w.heap.size) : (w.alloc o).heap[i]? = some o := by
  subst h; exact heap_alloc_new w o
theorem alloc_old (w : World) (o : Obj) {i : Nat} (h : i < w.heap.size) : (w.alloc o).heap[i]? = w.heap[i]? :=
  ((Below.refl w.heap.size w).alloc (Nat.le_refl _) o).block i h

theorem to_term (t : Tm) : ToOk t := by
  refine tm_ind (p := ToOk) ?_ t
  clear t
  intro k s n ks hks w v hin hwt
  unfold TmIn at hin
  obtain ⟨ao, cap, rfl, hk, hn, hs, hlen, hcap, hrow⟩ := hin
  have ew : (Tm.mk k s n ks).wt = s.size + (ks.length + wts ks) := by simp [Tm.wt, wts]; omega
  rw [ew] at hwt
  have HS : Hid (∀ w', Below w.heap.size w w' → Calls Try.prog 34 #[.slice ao ks.length cap] w' fun e w2 => ∃ sl F, e = .returned sl ∧ OwnS 28 w2 ks sl F ∧ (∀ f ∈ F, w'.heap.size ≤ f) ∧ F.Nodup ∧ Below w'.heap.size w' w2) := fun w' hb =>
    to_terms ks hks w' ao cap (by omega) (fun h0 => by obtain ⟨b, off, e, hr⟩ := hrow h0; exact ⟨b, off, e, TmsIn.keep hb ks b off hr⟩)
  clear hks hrow ew
  go_enter Try.func11, Try.ntmps11
  go_wp2_with (fail)
  go_at_call 34
  refine (Calls.mono (HS.out _ ((((Below.refl _ _).alloc (Nat.le_refl _) _).alloc (by simp) _).alloc (by simp; omega) _)) ?_)
  rintro e w1 ⟨sl, F, rfl, hown, hfr, hnd, hb⟩
  obtain ⟨ao2, len2, cap2, rfl⟩ : ∃ ao2 len2 cap2, sl = .slice ao2 len2 cap2 := by
    rcases hown with ⟨rfl, _⟩ | ⟨g, cap, cs, F', rfl, _⟩
    · exact ⟨_, _, _, rfl⟩
    · exact ⟨_, _, _, rfl⟩
  have hb2 : w1.heap[w.heap.size + 1 + 1]? = some (.cells #[.int .i64 k, .string s, .int .i64 n, .slice none 0 0] 28 (0, 0)) := by
    rw [hb.block _ (by simp)]
    exact alloc_at _ _ (by simp)
  have hb1 : w1.heap[w.heap.size + 1]? = some (.cells #[.int .i64 0, .string ⟨#[]⟩, .int .i64 0, .slice none 0 0] 28 (0, 0)) := by
    rw [hb.block _ (by simp), alloc_old _ _ (by simp)]
    exact alloc_at _ _ (by simp)
  have HOWN : Hid _ := hown
  have HFR : Hid _ := hfr
  have HBB : Hid _ := hb
  have y0 := blk_cell (i := 0) hb2 (by simp)
  have y1 := blk_cell (i := 1) hb2 (by simp)
  have y2 := blk_cell (i := 2) hb2 (by simp)
  have y3 := blk_cell (i := 3) hb2 (by simp)
  have z3 := blk_frozen hb2 3
  have x0 := blk_cell (i := 0) hb1 (by simp)
  have x1 := blk_cell (i := 1) hb1 (by simp)
  have x2 := blk_cell (i := 2) hb1 (by simp)
  have x3 := blk_cell (i := 3) hb1 (by simp)
  have u0 := blk_frozen hb1 0
  have u1 := blk_frozen hb1 1
  have u2 := blk_frozen hb1 2
  have u3 := blk_frozen hb1 3
  simp only [List.getElem_toArray, List.getElem_cons_zero, List.getElem_cons_succ] at y0 y1 y2 y3 x0 x1 x2 x3
  have H1 : Hid _ := hb1
  clear hown hfr hb hb2 hb1 HS
  go_wp2
  have hsz := HBB.out.size
  simp at hsz
  have hbl : Below w.heap.size w w1 := ((((Below.refl _ _).alloc (Nat.le_refl _) _).alloc (by simp) _).alloc (by simp; omega) _).trans (HBB.out.mono (by simp; omega))
  have hR : (((((w1.setCell ⟨w.heap.size + 1 + 1, 3, none⟩ (.slice ao2 len2 cap2)).setCell ⟨w.heap.size + 1, 0, none⟩ (.int .i64 k)).setCell ⟨w.heap.size + 1, 1, none⟩ (.string s)).setCell ⟨w.heap.size + 1, 2, none⟩ (.int .i64 n)).setCell ⟨w.heap.size + 1, 3, none⟩ (.slice ao2 len2 cap2)).heap[w.heap.size + 1]? = some (.cells #[.int .i64 k, .string s, .int .i64 n, .slice ao2 len2 cap2] 28 (0, 0)) := by
    have := blk_set (i := 3) (blk_set (i := 2) (blk_set (i := 1) (blk_set (i := 0) ((blk_other (g := w.heap.size + 1 + 1) (i := 3) (w := w1) (.slice ao2 len2 cap2) (show w.heap.size + 1 ≠ w.heap.size + 1 + 1 by omega)).trans H1.out) (.int .i64 k)) (.string s)) (.int .i64 n)) (.slice ao2 len2 cap2)
    simpa using this
  refine bodyPost_ret_by (results_cell_row rfl _ _ (w.heap.size + 1) 28 _ (0, 0) _ rfl hR Try.underlying28 rfl (by kernel_rfl)) rfl ?_
  refine ⟨_, F, rfl, own_mk ?_ hk hn hs, ?_, hnd, ?_⟩
  · refine OwnS.keep HOWN.out fun f hf => ?_
    have := HFR.out f hf
    simp at this
    rw [blk_other _ (by omega), blk_other _ (by omega), blk_other _ (by omega), blk_other _ (by omega), blk_other _ (by omega)]
  · intro f hf
    have := HFR.out f hf
    simp at this
    omega
  · exact below_set (below_set (below_set (below_set (below_set hbl (by omega) _) (by omega) _) (by omega) _) (by omega) _) (by omega) _
end Go.Proofs.Ytcmnjpoapcogham

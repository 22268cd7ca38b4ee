/- A marked term: every field of its kids a number of its own. Plain. -/
import Derived.Test.YtmhmlkdoaojimaqTmOwn
import Derived.Test.YtmhmlkdoaojimaqTmN
import Derived.Test.YtmhmlkdoaojimaqMkText
namespace Go.Proofs.Ytmhmlkdoaojimaq
open Go.RowKit

def Tm.markT : Tm → Nat → Tm
  | .mk _ _ _ ks, c => .mk (c : Int) ⟨(mkS (c + 1)).toArray⟩ ((c + 2 : Nat) : Int) (markL ks (c + 3))
where markL : List Tm → Nat → List Tm
  | [], _ => []
  | t :: ts, c => t.markT c :: markL ts (c + 3 * t.n)
abbrev markL := Tm.markT.markL
theorem markL_nil (c : Nat) : markL [] c = [] := by simp [markL, Tm.markT.markL]
theorem markL_cons (t : Tm) (ts : List Tm) (c : Nat) : markL (t :: ts) c = t.markT c :: markL ts (c + 3 * t.n) := by simp [markL, Tm.markT.markL]
theorem markT_mk (k : Int) (s : ByteArray) (n : Int) (ks : List Tm) (c : Nat) : (Tm.mk k s n ks).markT c = .mk (c : Int) ⟨(mkS (c + 1)).toArray⟩ ((c + 2 : Nat) : Int) (markL ks (c + 3)) := by simp [Tm.markT, markL]
theorem ns_cons (t : Tm) (ts : List Tm) : ns (t :: ts) = t.n + ns ts := by simp [ns, Tm.n.ns]
theorem markL_append (l m : List Tm) (c : Nat) : markL (l ++ m) c = markL l c ++ markL m (c + 3 * ns l) := by
  induction l generalizing c with
  | nil => simp [markL_nil, ns, Tm.n.ns]
  | cons t r ih => rw [List.cons_append, markL_cons, markL_cons, ih, ns_cons, List.cons_append, show c + 3 * t.n + 3 * ns r = c + 3 * (t.n + ns r) by omega]
theorem markL_len (l : List Tm) (c : Nat) : (markL l c).length = l.length := by
  induction l generalizing c with
  | nil => simp [markL_nil]
  | cons t r ih => rw [markL_cons, List.length_cons, List.length_cons, ih]
theorem markL_at {l : List Tm} {c j : Nat} (h : j < l.length) : (markL l c)[j]'(by rw [markL_len]; exact h) = l[j].markT (c + 3 * ns (l.take j)) := by
  induction l generalizing c j with
  | nil => simp at h
  | cons t r ih =>
    cases j with
    | zero => simp [markL_cons, ns, Tm.n.ns]
    | succ j =>
      simp only [markL_cons, List.getElem_cons_succ, List.take_succ_cons, ns_cons]
      rw [ih (by simpa using h)]
      congr 1
      omega

theorem mkS_len (k : Nat) (h : k ≤ 4611686018427387904) : (mkS k).length ≤ 40 := by
  unfold mkS
  have := decR_len 20 k (by omega)
  simp only [List.length_cons]
  omega

theorem n_le_wt (t : Tm) : t.n ≤ t.wt + 1 := by
  refine tm_ind (p := fun t => t.n ≤ t.wt + 1) ?_ t
  intro k s n ks h
  rw [n_mk]
  have e : (Tm.mk k s n ks).wt = s.size + ks.length + wts ks := by simp [Tm.wt, wts]
  rw [e]
  have : ns ks ≤ wts ks + ks.length := by
    clear e
    induction ks with
    | nil => simp [ns, Tm.n.ns]
    | cons t r ih =>
      have h1 := h t (by simp)
      have h2 := ih fun t' ht' => h t' (by simp [ht'])
      rw [ns_cons]
      have e2 : wts (t :: r) = t.wt + wts r := by simp [wts, Tm.wt.wts]
      rw [e2, List.length_cons]
      omega
  omega

theorem OwnRow.split {e : TypeId} {w : World} : ∀ (l m : List Tm) (cs : List Value) (F : List Nat), OwnRow e w (l ++ m) cs F →
    ∃ cs1 cs2 F1 F2, cs = cs1 ++ cs2 ∧ F = F1 ++ F2 ∧ OwnRow e w l cs1 F1 ∧ OwnRow e w m cs2 F2
  | [], m, cs, F, h => ⟨[], cs, [], F, rfl, rfl, by unfold OwnRow; exact ⟨rfl, rfl⟩, h⟩
  | t :: l, m, cs, F, h => by
    rw [List.cons_append] at h
    unfold OwnRow at h
    obtain ⟨c0, c1, c2, c3, cs', F1, F2, rfl, rfl, h1, h2⟩ := h
    obtain ⟨a, b, G1, G2, rfl, rfl, h3, h4⟩ := OwnRow.split l m cs' F2 h2
    refine ⟨c0 :: c1 :: c2 :: c3 :: a, b, F1 ++ G1, G2, by simp, by simp, ?_, h4⟩
    unfold OwnRow
    exact ⟨c0, c1, c2, c3, a, F1, G1, rfl, rfl, h1, h3⟩
theorem OwnRow.join {e : TypeId} {w : World} : ∀ (l m : List Tm) (cs1 cs2 : List Value) (F1 F2 : List Nat), OwnRow e w l cs1 F1 → OwnRow e w m cs2 F2 → OwnRow e w (l ++ m) (cs1 ++ cs2) (F1 ++ F2)
  | [], m, cs1, cs2, F1, F2, h1, h2 => by
    unfold OwnRow at h1
    obtain ⟨rfl, rfl⟩ := h1
    exact h2
  | t :: l, m, cs1, cs2, F1, F2, h1, h2 => by
    unfold OwnRow at h1
    obtain ⟨c0, c1, c2, c3, cs', G1, G2, rfl, rfl, h3, h4⟩ := h1
    show OwnRow e w (t :: (l ++ m)) _ _
    unfold OwnRow
    exact ⟨c0, c1, c2, c3, cs' ++ cs2, G1, G2 ++ F2, by simp, by simp, h3, OwnRow.join l m cs' cs2 G2 F2 h4 h2⟩

/-- nothing that was there has turned, but the blocks F -/
structure Out (F : List Nat) (w w' : World) : Prop where
  os : w'.os = w.os
  tape : w'.tape = w.tape
  output : w'.output = w.output
  size : w.heap.size ≤ w'.heap.size
  block : ∀ k, k < w.heap.size → k ∉ F → w'.heap[k]? = w.heap[k]?
theorem Out.refl (F : List Nat) (w : World) : Out F w w := ⟨rfl, rfl, rfl, Nat.le_refl _, fun _ _ _ => rfl⟩
theorem Out.of_below {F : List Nat} {w w' : World} (h : Below w.heap.size w w') : Out F w w' := ⟨h.os, h.tape, h.output, h.size, fun k hk _ => h.block k hk⟩
theorem Out.set {F : List Nat} {g : Nat} (hg : g ∈ F) (k : Nat) (w : World) (v : Value) : Out F w (w.setCell ⟨g, k, none⟩ v) :=
  ⟨rfl, rfl, rfl, by simp [World.setCell], fun j _ hne => by
    have : g ≠ j := fun h => hne (h ▸ hg)
    simp [World.setCell, Array.getElem?_modify, this]⟩
theorem Out.trans {F : List Nat} {w w' w'' : World} (h : Out F w w') (h' : Out F w' w'') : Out F w w'' :=
  ⟨h'.os.trans h.os, h'.tape.trans h.tape, h'.output.trans h.output, Nat.le_trans h.size h'.size, fun k hk hne => (h'.block k (Nat.lt_of_lt_of_le hk h.size) hne).trans (h.block k hk hne)⟩
theorem Out.mono {F F' : List Nat} {w w' : World} (h : Out F w w') (hs : ∀ f ∈ F, f ∈ F') : Out F' w w' :=
  ⟨h.os, h.tape, h.output, h.size, fun k hk hne => h.block k hk fun h => hne (hs k h)⟩
theorem Out.below {F : List Nat} {B : Nat} {w w' : World} (h : Out F w w') (hF : ∀ f ∈ F, B ≤ f) (hB : B ≤ w.heap.size) : Below B w w' :=
  ⟨h.os, h.tape, h.output, h.size, fun k hk => h.block k (by omega) fun hk' => by have := hF k hk'; omega⟩
end Go.Proofs.Ytmhmlkdoaojimaq

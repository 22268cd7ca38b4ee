/- Four texts in one. -/
import Derived.Shelf.Strconv.Itoa0
import Derived.Shelf.Strconv.Itoa1
import Derived.Shelf.LaysM
import Derived.Shelf.Strconv.Itoa2
import Derived.Shelf.Strconv.Itoa3
import Derived.Shelf.Strconv.Clone
import Derived.Test.YtmhmlkdoaojimapDoorProg
import Derived.Test.YtmhmlkdoaojimapDoorRows
import Derived.WalkKit
import Derived.WalkSpells
import Derived.Test.YtmhmlkdoaojimapDoorMrg1
import Derived.Test.YtmhmlkdoaojimapDoorMrg5
/- The library contracts that are proved once over any program, at this translation: no walk, one application each. -/
namespace Go.Proofs.YtmhmlkdoaojimapDoor
open Go.Proofs
open Go.Shelf
def sh_laysM316_ren : Go.Shelf.Ren := ⟨fun | 316 => 101 | n => n, fun | 9 => 9 | 3 => 3 | 4 => 4 | 37 => 96 | 0 => 0 | 127 => 151 | 5 => 5 | n => n, fun | n => n⟩
theorem sh_laysM316 : Go.Proofs.LaysM.n316 Tryd.prog sh_laysM316_ren := {
  mixed := by kernel_rfl
  f316 := Tryd.func101.trans (congrArg some (by kernel_rfl))
  t0 := Tryd.underlying0
  a0 := Tryd.isAgg0
  z0 := Tryd.sizeOf0
  v0 := Tryd.zeroValue0
  t3 := Tryd.underlying3
  a3 := Tryd.isAgg3
  z3 := Tryd.sizeOf3
  v3 := Tryd.zeroValue3
  t4 := Tryd.underlying4
  a4 := Tryd.isAgg4
  z4 := Tryd.sizeOf4
  v4 := Tryd.zeroValue4
  t9 := Tryd.underlying9
  a9 := Tryd.isAgg9
  z9 := Tryd.sizeOf9
  v9 := Tryd.zeroValue9
  t37 := Tryd.underlying96
  a37 := Tryd.isAgg96
  z37 := Tryd.sizeOf96
  v37 := Tryd.zeroValue96
  t127 := Tryd.underlying151
  a127 := Tryd.isAgg151
  z127 := Tryd.sizeOf151
  v127 := Tryd.zeroValue151
  t5 := Tryd.underlying5
  a5 := Tryd.isAgg5
  z5 := Tryd.sizeOf5
  v5 := Tryd.zeroValue5
  i0 := by kernel_rfl
  i3 := by kernel_rfl
  i4 := by kernel_rfl
  i5 := by kernel_rfl
  i9 := by kernel_rfl
  i37 := by kernel_rfl
  i127 := by kernel_rfl }
open Go.RowKit in
theorem sh_stringslite_Clone (s : ByteArray) (w : World) (hlim : s.size ≤ 281474976710656) :
    Calls Tryd.prog 101 #[.string s] w fun e w' => e = .returned (.string s) ∧ Below w.heap.size w w' := Any.stringslite_Clone sh_laysM316 s w hlim
end Go.Proofs.YtmhmlkdoaojimapDoor

/- strings.Clone hands back the same bytes, and nothing that was there has turned. -/
namespace Go.Proofs.YtmhmlkdoaojimapDoor
open Go.RowKit

theorem clone_any (s : ByteArray) (w : World) (hlim : s.size ≤ 1048576) :
    Calls Tryd.prog 83 #[.string s] w fun e w' => e = .returned (.string s) ∧ Below w.heap.size w w' := by
  go_enter Tryd.func83, Tryd.ntmps83
  go_wp2_with (go_at_call 101; refine (sh_stringslite_Clone _ _ (by omega)).mono ?_; rintro e w1 ⟨rfl, hb⟩)
  go_ret
  exact ⟨rfl, hb⟩
end Go.Proofs.YtmhmlkdoaojimapDoor

/- How many terms a term has. Of no program. -/
namespace Go.Proofs.YtmhmlkdoaojimapDoor

/-- how many terms -/
def Tm.n : Tm → Nat
  | .mk _ _ _ ks => 1 + ns ks
where ns : List Tm → Nat
  | [] => 0
  | t :: ts => t.n + ns ts
abbrev ns := Tm.n.ns
theorem ns_append (l m : List Tm) : ns (l ++ m) = ns l + ns m := by
  induction l with
  | nil => simp [ns, Tm.n.ns]
  | cons t r ih => simp only [List.cons_append, ns, Tm.n.ns] at *; omega
theorem n_mk (k : Int) (s : ByteArray) (m : Int) (ks : List Tm) : (Tm.mk k s m ks).n = 1 + ns ks := by simp [Tm.n, ns]
theorem ns_take_le (ks : List Tm) (j : Nat) : ns (ks.take j) ≤ ns ks := by
  have : ns (ks.take j) + ns (ks.drop j) = ns ks := by rw [← ns_append, List.take_append_drop]
  omega
end Go.Proofs.YtmhmlkdoaojimapDoor

/- A marked term: every field of its kids a number of its own. Plain. -/
namespace Go.Proofs.YtmhmlkdoaojimapDoor
open Go.RowKit

def Tm.markT : Tm → Nat → Tm
  | .mk _ _ _ ks, c => .mk (c : Int) ⟨(mkS (c + 1)).toArray⟩ ((c + 2 : Nat) : Int) (markL ks (c + 3))
where markL : List Tm → Nat → List Tm
  | [], _ => []
  | t :: ts, c => t.markT c :: markL ts (c + 3 * t.n)
abbrev markL := Tm.markT.markL
theorem markL_nil (c : Nat) : markL [] c = [] := by simp [markL, Tm.markT.markL]
theorem markL_cons (t : Tm) (ts : List Tm) (c : Nat) : markL (t :: ts) c = t.markT c :: markL ts (c + 3 * t.n) := by simp [markL, Tm.markT.markL]
theorem markT_mk (k : Int) (s : ByteArray) (n : Int) (ks : List Tm) (c : Nat) : (Tm.mk k s n ks).markT c = .mk (c : Int) ⟨(mkS (c + 1)).toArray⟩ ((c + 2 : Nat) : Int) (markL ks (c + 3)) := by simp [Tm.markT, markL]
theorem ns_cons (t : Tm) (ts : List Tm) : ns (t :: ts) = t.n + ns ts := by simp [ns, Tm.n.ns]
theorem markL_append (l m : List Tm) (c : Nat) : markL (l ++ m) c = markL l c ++ markL m (c + 3 * ns l) := by
  induction l generalizing c with
  | nil => simp [markL_nil, ns, Tm.n.ns]
  | cons t r ih => rw [List.cons_append, markL_cons, markL_cons, ih, ns_cons, List.cons_append, show c + 3 * t.n + 3 * ns r = c + 3 * (t.n + ns r) by omega]
theorem markL_len (l : List Tm) (c : Nat) : (markL l c).length = l.length := by
  induction l generalizing c with
  | nil => simp [markL_nil]
  | cons t r ih => rw [markL_cons, List.length_cons, List.length_cons, ih]
theorem markL_at {l : List Tm} {c j : Nat} (h : j < l.length) : (markL l c)[j]'(by rw [markL_len]; exact h) = l[j].markT (c + 3 * ns (l.take j)) := by
  induction l generalizing c j with
  | nil => simp at h
  | cons t r ih =>
    cases j with
    | zero => simp [markL_cons, ns, Tm.n.ns]
    | succ j =>
      simp only [markL_cons, List.getElem_cons_succ, List.take_succ_cons, ns_cons]
      rw [ih (by simpa using h)]
      congr 1
      omega

theorem mkS_len (k : Nat) (h : k ≤ 4611686018427387904) : (mkS k).length ≤ 40 := by
  unfold mkS
  have := decR_len 20 k (by omega)
  simp only [List.length_cons]
  omega

theorem n_le_wt (t : Tm) : t.n ≤ t.wt + 1 := by
  refine tm_ind (p := fun t => t.n ≤ t.wt + 1) ?_ t
  intro k s n ks h
  rw [n_mk]
  have e : (Tm.mk k s n ks).wt = s.size + ks.length + wts ks := by simp [Tm.wt, wts]
  rw [e]
  have : ns ks ≤ wts ks + ks.length := by
    clear e
    induction ks with
    | nil => simp [ns, Tm.n.ns]
    | cons t r ih =>
      have h1 := h t (by simp)
      have h2 := ih fun t' ht' => h t' (by simp [ht'])
      rw [ns_cons]
      have e2 : wts (t :: r) = t.wt + wts r := by simp [wts, Tm.wt.wts]
      rw [e2, List.length_cons]
      omega
  omega

theorem OwnRow.split {e : TypeId} {w : World} : ∀ (l m : List Tm) (cs : List Value) (F : List Nat), OwnRow e w (l ++ m) cs F →
    ∃ cs1 cs2 F1 F2, cs = cs1 ++ cs2 ∧ F = F1 ++ F2 ∧ OwnRow e w l cs1 F1 ∧ OwnRow e w m cs2 F2
  | [], m, cs, F, h => ⟨[], cs, [], F, rfl, rfl, by unfold OwnRow; exact ⟨rfl, rfl⟩, h⟩
  | t :: l, m, cs, F, h => by
    rw [List.cons_append] at h
    unfold OwnRow at h
    obtain ⟨c0, c1, c2, c3, cs', F1, F2, rfl, rfl, h1, h2⟩ := h
    obtain ⟨a, b, G1, G2, rfl, rfl, h3, h4⟩ := OwnRow.split l m cs' F2 h2
    refine ⟨c0 :: c1 :: c2 :: c3 :: a, b, F1 ++ G1, G2, by simp, by simp, ?_, h4⟩
    unfold OwnRow
    exact ⟨c0, c1, c2, c3, a, F1, G1, rfl, rfl, h1, h3⟩
theorem OwnRow.join {e : TypeId} {w : World} : ∀ (l m : List Tm) (cs1 cs2 : List Value) (F1 F2 : List Nat), OwnRow e w l cs1 F1 → OwnRow e w m cs2 F2 → OwnRow e w (l ++ m) (cs1 ++ cs2) (F1 ++ F2)
  | [], m, cs1, cs2, F1, F2, h1, h2 => by
    unfold OwnRow at h1
    obtain ⟨rfl, rfl⟩ := h1
    exact h2
  | t :: l, m, cs1, cs2, F1, F2, h1, h2 => by
    unfold OwnRow at h1
    obtain ⟨c0, c1, c2, c3, cs', G1, G2, rfl, rfl, h3, h4⟩ := h1
    show OwnRow e w (t :: (l ++ m)) _ _
    unfold OwnRow
    exact ⟨c0, c1, c2, c3, cs' ++ cs2, G1, G2 ++ F2, by simp, by simp, h3, OwnRow.join l m cs' cs2 G2 F2 h4 h2⟩

/-- nothing that was there has turned, but the blocks F -/
structure Out (F : List Nat) (w w' : World) : Prop where
  os : w'.os = w.os
  tape : w'.tape = w.tape
  output : w'.output = w.output
  size : w.heap.size ≤ w'.heap.size
  block : ∀ k, k < w.heap.size → k ∉ F → w'.heap[k]? = w.heap[k]?
theorem Out.refl (F : List Nat) (w : World) : Out F w w := ⟨rfl, rfl, rfl, Nat.le_refl _, fun _ _ _ => rfl⟩
theorem Out.of_below {F : List Nat} {w w' : World} (h : Below w.heap.size w w') : Out F w w' := ⟨h.os, h.tape, h.output, h.size, fun k hk _ => h.block k hk⟩
theorem Out.set {F : List Nat} {g : Nat} (hg : g ∈ F) (k : Nat) (w : World) (v : Value) : Out F w (w.setCell ⟨g, k, none⟩ v) :=
  ⟨rfl, rfl, rfl, by simp [World.setCell], fun j _ hne => by
    have : g ≠ j := fun h => hne (h ▸ hg)
    simp [World.setCell, Array.getElem?_modify, this]⟩
theorem Out.trans {F : List Nat} {w w' w'' : World} (h : Out F w w') (h' : Out F w' w'') : Out F w w'' :=
  ⟨h'.os.trans h.os, h'.tape.trans h.tape, h'.output.trans h.output, Nat.le_trans h.size h'.size, fun k hk hne => (h'.block k (Nat.lt_of_lt_of_le hk h.size) hne).trans (h.block k hk hne)⟩
theorem Out.mono {F F' : List Nat} {w w' : World} (h : Out F w w') (hs : ∀ f ∈ F, f ∈ F') : Out F' w w' :=
  ⟨h.os, h.tape, h.output, h.size, fun k hk hne => h.block k hk fun h => hne (hs k h)⟩
theorem Out.below {F : List Nat} {B : Nat} {w w' : World} (h : Out F w w') (hF : ∀ f ∈ F, B ≤ f) (hB : B ≤ w.heap.size) : Below B w w' :=
  ⟨h.os, h.tape, h.output, h.size, fun k hk => h.block k (by omega) fun hk' => by have := hF k hk'; omega⟩
end Go.Proofs.YtmhmlkdoaojimapDoor

/- sameShape: the walk over pairs of lists. -/
import Derived.Test.YtgkchpjincmjfalShapeQ
import Derived.Deep.RegionWith
import Derived.BigQuiet
import Derived.Maps.AppendAt
namespace Go.Proofs.Ytgkchpjincmjfal
open Go.RowKit

def CellsAt (Z : Nat → Prop) (w0 : World) (L : List (List Tm × List Tm)) (cs : List Value) : Prop :=
  cs.length = L.length * 2 ∧ ∀ i (h : i < L.length), ∃ va vb, cs[i * 2]? = some va ∧ cs[i * 2 + 1]? = some vb ∧ RowZ Z w0 L[i].1 va ∧ RowZ Z w0 L[i].2 vb ∧ L[i].2.length = L[i].1.length

/-- what memory holds: the lists that are left, the marks -/
structure MemI (Z : Nat → Prop) (w0 wr : World) (g : Nat) (vl : Value) (L : List (List Tm × List Tm)) (mo : Option Nat) (S : List (Addr × Addr × Int)) : Prop where
  os : wr.os = w0.os
  tape : wr.tape = w0.tape
  output : wr.output = w0.output
  size : w0.heap.size ≤ wr.heap.size
  zone : ∀ k, Z k → wr.heap[k]? = w0.heap[k]?
  row : ∃ cs, wr.ownsRow 0 75 2 vl L.length cs ∧ CellsAt Z w0 L cs
  met : MetAt wr g mo S
  vg : vl.ownBlock ≠ some g
  vz : ∀ b, vl.ownBlock = some b → ¬ Z b ∧ mo ≠ some b
  mz : ∀ m, mo = some m → ¬ Z m
  keys : ∀ x ∈ S, Z x.1.block ∧ Z x.2.1.block ∧ PB w0 x.1 ∧ PB w0 x.2.1

structure Inv (Z : Nat → Prop) (w0 wr : World) (g : Nat) (R : Bool) (vl : Value) (L : List (List Tm × List Tm)) (D : List (Tm × Tm)) (mo : Option Nat) (S : List (Addr × Addr × Int)) : Prop where
  mem : MemI Z w0 wr g vl L mo S
  sem : R = true ↔ ∀ q ∈ pend L ++ D, same2 q
  marks : Marked Z w0 S (pend L ++ D)

theorem snoc_of {α : Type} (L : List α) (h : 0 < L.length) : ∃ M p, L = M ++ [p] := by
  have : L ≠ [] := by intro e; subst e; simp at h
  exact ⟨L.dropLast, L.getLast this, (List.dropLast_concat_getLast this).symm⟩

theorem MetAt.lt {w : World} {g : Nat} {mo : Option Nat} {S : List (Addr × Addr × Int)} (h : MetAt w g mo S) : ∀ k ∈ metF g mo, k < w.heap.size := fun k hk => by
  obtain ⟨⟨u, _, h2⟩, h3⟩ := h
  simp only [metF, List.mem_cons] at hk
  rcases hk with rfl | hk
  · exact (Array.getElem?_eq_some_iff.1 h2).1
  · cases mo with
    | none => cases hk
    | some m =>
      simp at hk
      subst hk
      obtain ⟨_, es, clock, h5, _⟩ := h3 k rfl
      exact (Array.getElem?_eq_some_iff.1 h5).1
theorem row_turn {w w' : World} {e size n : Nat} {v : Value} {xs : List Value} (h : w.ownsRow 0 e size v n xs) (hb : ∀ b, v.ownBlock = some b → w'.heap[b]? = w.heap[b]?) : w'.ownsRow 0 e size v n xs := by
  refine ⟨h.1, ?_⟩
  rcases h.2 with hn | ⟨b, cap, cur, e, h1, h2, h3⟩
  · exact Or.inl hn
  · exact Or.inr ⟨b, cap, cur, e, h1, (hb b (by rw [e]; rfl)).trans h2, h3⟩
theorem row_lt {w : World} {e size n : Nat} {v : Value} {xs : List Value} (h : w.ownsRow 0 e size v n xs) {b : Nat} (hb : v.ownBlock = some b) : b < w.heap.size := by
  rcases h.2 with ⟨rfl, _⟩ | ⟨b', cap, cur, rfl, h1, h2, h3⟩
  · cases hb
  · cases hb; exact (Array.getElem?_eq_some_iff.1 h2).1

/-- a step that leaves all that was there -/
theorem MemI.below {Z : Nat → Prop} {w0 wr w' : World} {g : Nat} {vl : Value} {L : List (List Tm × List Tm)} {mo : Option Nat} {S : List (Addr × Addr × Int)} (h : MemI Z w0 wr g vl L mo S) (hz : ∀ k, Z k → k < w0.heap.size) (hb : Below wr.heap.size wr w') : MemI Z w0 w' g vl L mo S := by
  obtain ⟨cs, hr, hc⟩ := h.row
  exact ⟨hb.os.trans h.os, hb.tape.trans h.tape, hb.output.trans h.output, Nat.le_trans h.size hb.size, fun k hk => (hb.block k (Nat.lt_of_lt_of_le (hz k hk) h.size)).trans (h.zone k hk), ⟨cs, row_turn hr fun b e => hb.block b (row_lt hr e), hc⟩, h.met.keep fun k hk => hb.block k (h.met.lt k hk), h.vg, h.vz, h.mz, h.keys⟩
theorem Inv.below {Z : Nat → Prop} {w0 wr w' : World} {g : Nat} {R : Bool} {vl : Value} {L : List (List Tm × List Tm)} {D : List (Tm × Tm)} {mo : Option Nat} {S : List (Addr × Addr × Int)} (h : Inv Z w0 wr g R vl L D mo S) (hz : ∀ k, Z k → k < w0.heap.size) (hb : Below wr.heap.size wr w') : Inv Z w0 w' g R vl L D mo S :=
  ⟨h.mem.below hz hb, h.sem, h.marks⟩

/-- a list has been gone into -/
theorem MemI.into {Z : Nat → Prop} {w0 wr w' : World} {g : Nat} {vl : Value} {L : List (List Tm × List Tm)} {mo mo' : Option Nat} {S : List (Addr × Addr × Int)} {a b : Addr} {n : Int} (h : MemI Z w0 wr g vl L mo S) (hz : ∀ k, Z k → k < w0.heap.size) (hzg : ¬ Z g) (ho : Out (metF g mo) wr w') (hm : MetAt w' g mo' ((a, b, n) :: S)) (hmo : mo' = mo ∨ ∃ m, mo' = some m ∧ wr.heap.size ≤ m)
    (hk : Z a.block ∧ Z b.block ∧ PB w0 a ∧ PB w0 b) : MemI Z w0 w' g vl L mo' ((a, b, n) :: S) := by
  obtain ⟨cs, hr, hc⟩ := h.row
  have hzn : ∀ k, Z k → k ∉ metF g mo := fun k hk hm' => by
    simp only [metF, List.mem_cons] at hm'
    rcases hm' with rfl | hm'
    · exact hzg hk
    · cases mo with
      | none => cases hm'
      | some m => simp at hm'; subst hm'; exact h.mz k rfl hk
  refine ⟨ho.os.trans h.os, ho.tape.trans h.tape, ho.output.trans h.output, Nat.le_trans h.size ho.size, fun k hk => (ho.block k (Nat.lt_of_lt_of_le (hz k hk) h.size) (hzn k hk)).trans (h.zone k hk), ⟨cs, row_turn hr fun b e => ho.block b (row_lt hr e) fun hm' => ?_, hc⟩, hm, h.vg, fun b e => ⟨(h.vz b e).1, ?_⟩, fun m e => ?_, fun x hx => ?_⟩
  · simp only [metF, List.mem_cons] at hm'
    rcases hm' with rfl | hm'
    · exact h.vg e
    · cases mo with
      | none => cases hm'
      | some m => simp at hm'; subst hm'; exact (h.vz _ e).2 rfl
  · rcases hmo with rfl | ⟨m, rfl, hm'⟩
    · exact (h.vz b e).2
    · intro e'; cases e'; have := row_lt hr e; omega
  · rcases hmo with rfl | ⟨m', rfl, hm'⟩
    · exact h.mz m e
    · cases e; intro hz'; have := hz _ hz'; have := h.size; omega
  · rcases List.mem_cons.1 hx with rfl | hx
    · exact hk
    · exact h.keys x hx

/-- two lists are laid behind the others -/
theorem MemI.push {Z : Nat → Prop} {w0 wr w' : World} {g : Nat} {vl v' : Value} {L : List (List Tm × List Tm)} {mo : Option Nat} {S : List (Addr × Addr × Int)} (h : MemI Z w0 wr g vl L mo S) (hz : ∀ k, Z k → k < w0.heap.size) {cs : List Value} (hcs : CellsAt Z w0 L cs) {xs ys : List Tm} {vx vy : Value} (hx : RowZ Z w0 xs vx) (hy : RowZ Z w0 ys vy) (hl : ys.length = xs.length)
    (hr' : w'.ownsRow 0 75 2 v' (L.length + 1) (cs ++ [vx, vy])) (hg : wr.grownBy w' vl.ownBlock) (hat : v'.ownBlock = vl.ownBlock ∨ v'.ownBlock = some wr.heap.size) : MemI Z w0 w' g v' (L ++ [(xs, ys)]) mo S := by
  have hgl := h.met.lt g (by simp [metF])
  refine ⟨hg.os.trans h.os, hg.tape.trans h.tape, hg.output.trans h.output, Nat.le_trans h.size hg.size, fun k hk => (hg.block k (Nat.lt_of_lt_of_le (hz k hk) h.size) fun e => (h.vz k e.symm).1 hk).trans (h.zone k hk), ⟨cs ++ [vx, vy], by rw [List.length_append]; exact hr', ?_, fun i hi => ?_⟩, h.met.keep fun k hk => hg.block k (h.met.lt k hk) fun e => ?_, ?_, fun b e => ?_, h.mz, h.keys⟩
  · rw [List.length_append, List.length_append, hcs.1]; simp; omega
  · rw [List.length_append] at hi
    by_cases hlt : i < L.length
    · obtain ⟨x1, x2, e1, e2, e3⟩ := hcs.2 i hlt
      rw [List.getElem_append_left hlt]
      exact ⟨x1, x2, by rw [List.getElem?_append_left (by rw [hcs.1]; omega)]; exact e1, by rw [List.getElem?_append_left (by rw [hcs.1]; omega)]; exact e2, e3⟩
    · have hi' : i = L.length := by simp at hi; omega
      subst hi'
      refine ⟨vx, vy, ?_, ?_, ?_⟩
      · rw [List.getElem?_append_right (by rw [hcs.1]; omega), hcs.1, Nat.sub_self]; rfl
      · rw [List.getElem?_append_right (by rw [hcs.1]; omega), hcs.1, show L.length * 2 + 1 - L.length * 2 = 1 by omega]; rfl
      · simpa using ⟨hx, hy, hl⟩
  · simp only [metF, List.mem_cons] at hk
    rcases hk with rfl | hk
    · exact h.vg e.symm
    · cases mo with
      | none => cases hk
      | some m => simp at hk; subst hk; exact (h.vz _ e.symm).2 rfl
  · rcases hat with e | e <;> rw [e]
    · exact h.vg
    · intro e'; injection e' with e'; omega
  · rcases hat with e2 | e2 <;> rw [e2] at e
    · exact h.vz b e
    · injection e with e
      subst e
      refine ⟨fun hk => ?_, fun e' => ?_⟩
      · have := hz _ hk; have := h.size; omega
      · have := h.met.lt wr.heap.size (by simp [metF, e']); omega

def zoneOf (n : Nat) (k : Nat) : Prop := k < n ∨ k = n + 1 + 1 + 1 ∨ k = n + 1 + 1 + 1 + 1

theorem row1 {Z : Nat → Prop} {w : World} {b : Nat} {t : Tm} {c0 c1 c2 c3 : Value} (hb : w.heap[b]? = some (.cells #[c0, c1, c2, c3] 29 (0, 0))) (hz : Z b) (h : TmZ Z w t (.agg #[c0, c1, c2, c3])) : RowZ Z w [t] (.slice (some ⟨b, 0, none⟩) 1 1) := by
  refine ⟨_, 1, rfl, by simp, by unfold maxLen; omega, fun _ => ⟨b, 0, rfl, hz, ⟨_, _, hb⟩, ?_⟩⟩
  unfold TmsZ
  exact ⟨⟨c0, c1, c2, c3, blk_cell (i := 0) hb (by simp), blk_cell (i := 1) hb (by simp), blk_cell (i := 2) hb (by simp), blk_cell (i := 3) hb (by simp), h⟩, by unfold TmsZ; trivial⟩

theorem hsz (w : World) (o : Obj) : (w.alloc o).heap.size = w.heap.size + 1 := by simp
theorem alloc_oldz (w : World) (o : Obj) {i : Nat} (h : i < w.heap.size) : (w.alloc o).heap[i]? = w.heap[i]? :=
  ((Below.refl w.heap.size w).alloc (Nat.le_refl _) o).block i h
theorem shape_start (t u : Tm) (w : World) (ka na kb nb : Int) (sa sb : ByteArray) (aoa aob : Option Addr) (la ca lb cb : Nat) (hA : TmZ (· < w.heap.size) w t (.agg #[.int .i64 ka, .string sa, .int .i64 na, .slice aoa la ca])) (hB : TmZ (· < w.heap.size) w u (.agg #[.int .i64 kb, .string sb, .int .i64 nb, .slice aob lb cb])) (W6 : World)
    (hW6 : W6 = ((((((w.alloc (.cells #[.int .i64 ka, .string sa, .int .i64 na, .slice aoa la ca] 29)).alloc (.cells #[.int .i64 kb, .string sb, .int .i64 nb, .slice aob lb cb] 29)).alloc (.cells #[.int .i64 0, .map none] 54)).alloc (.cells #[.int .i64 ka, .string sa, .int .i64 na, .slice aoa la ca] 29)).alloc (.cells #[.int .i64 kb, .string sb, .int .i64 nb, .slice aob lb cb] 29)).alloc (.cells #[.slice (some ⟨w.heap.size + 1 + 1 + 1, 0, none⟩) 1 1, .slice (some ⟨w.heap.size + 1 + 1 + 1 + 1, 0, none⟩) 1 1] 75))) :
    Inv (zoneOf w.heap.size) W6 W6 (w.heap.size + 1 + 1) (t.same u) (.slice (some ⟨w.heap.size + 1 + 1 + 1 + 1 + 1, 0, none⟩) 1 1) [([t], [u])] [] none [] ∧ Below w.heap.size w W6 ∧ W6.heap.size = w.heap.size + 6 := by
  have hb6 : Below w.heap.size w W6 := by
    rw [hW6]
    exact ((((((Below.refl _ _).alloc (Nat.le_refl _) _).alloc (by simp) _).alloc (by simp; omega) _).alloc (by simp; omega) _).alloc (by simp; omega) _).alloc (by simp; omega) _
  have hs6 : W6.heap.size = w.heap.size + 6 := by rw [hW6]; simp only [hsz]
  have g2 : W6.heap[w.heap.size + 1 + 1]? = some (.cells #[.int .i64 0, .map none] 54 (0, 0)) := by rw [hW6]; rw [alloc_oldz _ _ (by simp only [hsz]; omega)]; rw [alloc_oldz _ _ (by simp only [hsz]; omega)]; rw [alloc_oldz _ _ (by simp only [hsz]; omega)]; exact alloc_here _ _ (by simp only [hsz])
  have g3 : W6.heap[w.heap.size + 1 + 1 + 1]? = some (.cells #[.int .i64 ka, .string sa, .int .i64 na, .slice aoa la ca] 29 (0, 0)) := by rw [hW6]; rw [alloc_oldz _ _ (by simp only [hsz]; omega)]; rw [alloc_oldz _ _ (by simp only [hsz]; omega)]; exact alloc_here _ _ (by simp only [hsz])
  have g4 : W6.heap[w.heap.size + 1 + 1 + 1 + 1]? = some (.cells #[.int .i64 kb, .string sb, .int .i64 nb, .slice aob lb cb] 29 (0, 0)) := by rw [hW6]; rw [alloc_oldz _ _ (by simp only [hsz]; omega)]; exact alloc_here _ _ (by simp only [hsz])
  have g5 : W6.heap[w.heap.size + 1 + 1 + 1 + 1 + 1]? = some (.cells #[.slice (some ⟨w.heap.size + 1 + 1 + 1, 0, none⟩) 1 1, .slice (some ⟨w.heap.size + 1 + 1 + 1 + 1, 0, none⟩) 1 1] 75 (0, 0)) := by rw [hW6]; exact alloc_here _ _ (by simp only [hsz])
  have hA6 : TmZ (zoneOf w.heap.size) W6 t (.agg #[.int .i64 ka, .string sa, .int .i64 na, .slice aoa la ca]) := TmZ.mono (fun k hk => Or.inl hk) _ _ (TmZ.turn (fun k hk => hb6.block k hk) _ _ hA)
  have hB6 : TmZ (zoneOf w.heap.size) W6 u (.agg #[.int .i64 kb, .string sb, .int .i64 nb, .slice aob lb cb]) := TmZ.mono (fun k hk => Or.inl hk) _ _ (TmZ.turn (fun k hk => hb6.block k hk) _ _ hB)
  refine ⟨⟨⟨rfl, rfl, rfl, Nat.le_refl _, fun _ _ => rfl, ⟨_, ⟨?_, Or.inr ⟨_, 1, _, rfl, Nat.zero_le _, g5, Nat.le_refl _, by unfold maxLen; omega, by simp, rfl⟩⟩, ?_⟩, ⟨⟨0, by omega, g2⟩, fun m hm => by cases hm⟩, ?_, ?_, fun m hm => (by cases hm), fun x hx => (by cases hx)⟩, ?_, fun a b n h => (by cases h)⟩, hb6, hs6⟩
  · simp
  · refine ⟨by simp, fun i hi => ?_⟩
    have : i = 0 := by simp at hi; omega
    subst this
    exact ⟨_, _, rfl, rfl, row1 g3 (Or.inr (Or.inl rfl)) hA6, row1 g4 (Or.inr (Or.inr rfl)) hB6, rfl⟩
  · show some (w.heap.size + 1 + 1 + 1 + 1 + 1) ≠ some (w.heap.size + 1 + 1)
    intro h
    injection h with h
    omega
  · intro b hb
    simp [Value.ownBlock] at hb
    subst hb
    refine ⟨fun h => ?_, by simp⟩
    unfold zoneOf at h
    omega
  · simp [pend, same2]

theorem zip_drop {p q : List Tm} {i : Nat} (h : i < p.length) (h' : i < q.length) : (p.zip q).drop i = (p[i], q[i]) :: (p.zip q).drop (i + 1) := by
  rw [List.drop_eq_getElem_cons (by rw [List.length_zip]; omega)]
  simp
theorem head_same {kx ky nx ny : Int} {sx sy : ByteArray} {xs ys : List Tm} (h : headEq kx sx nx xs.length ky sy ny ys.length = true) : (Tm.mk kx sx nx xs).same (Tm.mk ky sy ny ys) = true ↔ sames (Tm.mk kx sx nx xs).kidsZ (Tm.mk ky sy ny ys).kidsZ = true := by
  rw [same_mk]
  unfold headEq at h
  rw [h, Bool.true_and]
  rfl
theorem head_other {kx ky nx ny : Int} {sx sy : ByteArray} {xs ys : List Tm} (h : headEq kx sx nx xs.length ky sy ny ys.length = false) : (Tm.mk kx sx nx xs).same (Tm.mk ky sy ny ys) = false := by
  rw [same_mk]
  unfold headEq at h
  rw [h, Bool.false_and]
theorem kids_lt (x : Tm) : ns x.kidsZ < x.n := by
  obtain ⟨k, s, n, ks⟩ := x
  rw [n_mk]
  show ns ks < 1 + ns ks
  omega

/-- a pair of terms is done without its kids -/
theorem sem_skip {Z : Nat → Prop} {w0 : World} {R : Bool} {L : List (List Tm × List Tm)} {D : List (Tm × Tm)} {S : List (Addr × Addr × Int)} {x y : Tm} (hs : R = true ↔ ∀ q ∈ pend L ++ (x, y) :: D, same2 q) (hm : Marked Z w0 S (pend L ++ (x, y) :: D)) (hh : (x.same y = true) ↔ sames x.kidsZ y.kidsZ = true)
    (hk : (∀ q ∈ pend L ++ D, q.1.n ≤ ns x.kidsZ → same2 q) → sames x.kidsZ y.kidsZ = true) : (R = true ↔ ∀ q ∈ pend L ++ D, same2 q) ∧ Marked Z w0 S (pend L ++ D) := by
  have h1 : ∀ q ∈ pend L ++ (x, y) :: D, q = (x, y) ∨ q ∈ pend L ++ D := fun q hq => by
    simp only [List.mem_append, List.mem_cons] at hq ⊢
    rcases hq with h | h | h
    · exact Or.inr (Or.inl h)
    · exact Or.inl h
    · exact Or.inr (Or.inr h)
  refine ⟨step_sem hs (by simp) h1 (fun q hq => Or.inl ?_) hh (fun h => hk fun q hq _ => h q hq), step_marks hm h1 hh hk (kids_lt x)⟩
  simp only [List.mem_append, List.mem_cons] at hq ⊢
  rcases hq with h | h
  · exact Or.inl h
  · exact Or.inr (Or.inr h)

/-- .. and its kids laid behind the others -/
theorem sem_push {Z : Nat → Prop} {w0 : World} {R : Bool} {L : List (List Tm × List Tm)} {D : List (Tm × Tm)} {S : List (Addr × Addr × Int)} {x y : Tm} (hs : R = true ↔ ∀ q ∈ pend L ++ (x, y) :: D, same2 q) (hm : Marked Z w0 S (pend L ++ (x, y) :: D)) (hh : (x.same y = true) ↔ sames x.kidsZ y.kidsZ = true)
    {a b : Addr} (ha : TmsZ Z w0 x.kidsZ a.block a.off) (hb : TmsZ Z w0 y.kidsZ b.block b.off) (hl : y.kidsZ.length = x.kidsZ.length) :
    (R = true ↔ ∀ q ∈ pend (L ++ [(x.kidsZ, y.kidsZ)]) ++ D, same2 q) ∧ Marked Z w0 ((a, b, (x.kidsZ.length : Int)) :: S) (pend (L ++ [(x.kidsZ, y.kidsZ)]) ++ D) := by
  have hz : ∀ q ∈ x.kidsZ.zip y.kidsZ, q ∈ pend (L ++ [(x.kidsZ, y.kidsZ)]) ++ D := fun q hq => by
    rw [pend_append, pend_one]; simp [hq]
  have h1 : ∀ q ∈ pend L ++ (x, y) :: D, q = (x, y) ∨ q ∈ pend (L ++ [(x.kidsZ, y.kidsZ)]) ++ D := fun q hq => by
    rw [pend_append]
    simp only [List.mem_append, List.mem_cons] at hq ⊢
    rcases hq with h | h | h
    · exact Or.inr (Or.inl (Or.inl h))
    · exact Or.inl h
    · exact Or.inr (Or.inr h)
  have hsm : ∀ Q : List (Tm × Tm), (∀ q ∈ x.kidsZ.zip y.kidsZ, q ∈ Q) → (∀ q ∈ Q, q.1.n ≤ ns x.kidsZ → same2 q) → sames x.kidsZ y.kidsZ = true := fun Q hQ h =>
    (sames_zip _ _).2 fun q hq => h q (hQ q hq) (n_lt_ns (List.of_mem_zip hq).1)
  refine ⟨step_sem hs (by simp) h1 (fun q hq => ?_) hh (fun h => hsm _ hz fun q hq _ => h q hq), fun a' b' n' hab ks us t1 t2 l1 l2 hq => ?_⟩
  · rw [pend_append, pend_one] at hq
    simp only [List.mem_append, List.mem_cons] at hq ⊢
    rcases hq with (h | h) | h
    · exact Or.inl (Or.inl h)
    · exact Or.inr h
    · exact Or.inl (Or.inr (Or.inr h))
  · rcases List.mem_cons.1 hab with e | hab
    · cases e
      have e1 : ks.length = x.kidsZ.length := by omega
      have := dets ks x.kidsZ _ (fun t _ => det t) e1 t1 ha
      subst this
      have := dets us y.kidsZ _ (fun t _ => det t) (by omega) t2 hb
      subst this
      exact hsm _ hz hq
    · exact step_marks hm h1 hh (fun h => hsm _ hz h) (kids_lt x) a' b' n' hab ks us t1 t2 l1 l2 hq
end Go.Proofs.Ytgkchpjincmjfal

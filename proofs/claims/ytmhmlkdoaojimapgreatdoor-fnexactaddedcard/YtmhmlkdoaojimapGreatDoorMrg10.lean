/- Four texts in one. -/
import Derived.WalkKit
import Derived.Test.YtmhmlkdoaojimapGreatDoorMrg9
import Derived.WalkSpells
import Derived.ProofKit
/- The least number of a kind. Plain. -/
namespace Go.Proofs.YtmhmlkdoaojimapGreatDoor

theorem least_ex (Q : Nat → Prop) (h : ∃ n, Q n) : ∃ n, Q n ∧ ∀ m, Q m → n ≤ m := by
  obtain ⟨n, hn⟩ := h
  induction n using Nat.strongRecOn with
  | ind n ih =>
    by_cases h : ∃ m, m < n ∧ Q m
    · obtain ⟨m, hm, hq⟩ := h
      exact ih m hm hq
    · exact ⟨n, hn, fun m hm => Nat.le_of_not_lt fun hl => h ⟨m, hl, hm⟩⟩
open Classical in
noncomputable def least (Q : Nat → Prop) : Nat := if h : ∃ n, Q n then Classical.choose (least_ex Q h) else 0
theorem least_le {Q : Nat → Prop} {n : Nat} (h : Q n) : least Q ≤ n := by
  unfold least
  rw [dif_pos ⟨n, h⟩]
  exact (Classical.choose_spec (least_ex Q ⟨n, h⟩)).2 n h
theorem least_is {Q : Nat → Prop} (h : ∃ n, Q n) : Q (least Q) := by
  unfold least
  rw [dif_pos h]
  exact (Classical.choose_spec (least_ex Q h)).1
end Go.Proofs.YtmhmlkdoaojimapGreatDoor

/- What a copier holds while it copies: the rows that are copied, those whose kids are still the old ones, those to come. -/
namespace Go.Proofs.YtmhmlkdoaojimapGreatDoor
open Go.RowKit

structure Ent where
  b : Nat
  n : Nat
  cs : List Value
  g : Nat
  cap : Nat
  ks : List Tm
  R : List Row

def Ent.row (x : Ent) : Row := (x.b, x.n, x.cs)
def Ent.sl (x : Ent) : Value := .slice (some ⟨x.g, 0, none⟩) x.n x.cap

/-- the cells of a copy whose first j terms have the new kids -/
def half (gg cc : Nat → Nat) (cs : List Value) (j : Nat) : List Value := (cs.take (j * 4)).map (cpV gg cc) ++ cs.drop (j * 4)
def Agree (gg cc : Nat → Nat) (L : List Ent) : Prop := ∀ x ∈ L, gg x.b = x.g ∧ cc x.b = x.cap

theorem half_zero (gg cc : Nat → Nat) (cs : List Value) : half gg cc cs 0 = cs := by simp [half]
theorem half_all (gg cc : Nat → Nat) (cs : List Value) (n : Nat) (h : cs.length ≤ n * 4) : half gg cc cs n = cs.map (cpV gg cc) := by
  simp [half, List.take_of_length_le h, List.drop_eq_nil_of_le h]

theorem half_len (gg cc : Nat → Nat) (cs : List Value) (j : Nat) : (half gg cc cs j).length = cs.length := by
  unfold half
  rw [List.length_append, List.length_map, List.length_take, List.length_drop]
  omega

theorem half_at (gg cc : Nat → Nat) (cs : List Value) (j i : Nat) (h : j * 4 ≤ i) : (half gg cc cs j)[i]? = cs[i]? := by
  unfold half
  by_cases hl : j * 4 ≤ cs.length
  · rw [List.getElem?_append_right (by rw [List.length_map, List.length_take]; omega), List.length_map, List.length_take, List.getElem?_drop]
    congr 1; omega
  · rw [List.drop_eq_nil_of_le (by omega), List.append_nil, List.getElem?_eq_none (by rw [List.length_map, List.length_take]; omega), List.getElem?_eq_none (by omega)]

theorem half_step (gg cc : Nat → Nat) (cs : List Value) (j n L : Nat) (h : CellsOk cs n L) (hj : j < n) (c v : Value) (hc : cs[j * 4 + 3]? = some c) (hv : cpV gg cc c = v) : (half gg cc cs j).set (j * 4 + 3) v = half gg cc cs (j + 1) := by
  obtain ⟨k, s, i, ao, m, cap, h0, h1, h2, h3, _⟩ := h.2 j hj
  have hl := h.1
  rw [h3] at hc
  obtain rfl : Value.slice ao m cap = c := by simpa using hc
  apply List.ext_getElem?
  intro q
  rw [List.getElem?_set]
  by_cases q1 : j * 4 + 3 = q
  · subst q1
    rw [if_pos rfl, if_pos (by rw [half_len]; omega)]
    unfold half
    rw [List.getElem?_append_left (by rw [List.length_map, List.length_take]; omega), List.getElem?_map, List.getElem?_take_of_lt (by omega), h3]
    simp [hv]
  · rw [if_neg q1]
    by_cases q2 : q < j * 4
    · unfold half
      rw [List.getElem?_append_left (by rw [List.length_map, List.length_take]; omega), List.getElem?_append_left (by rw [List.length_map, List.length_take]; omega), List.getElem?_map, List.getElem?_map, List.getElem?_take_of_lt (by omega), List.getElem?_take_of_lt (by omega)]
    · rw [half_at _ _ _ _ _ (by omega)]
      by_cases q3 : q < (j + 1) * 4
      · unfold half
        rw [List.getElem?_append_left (by rw [List.length_map, List.length_take]; omega), List.getElem?_map, List.getElem?_take_of_lt (by omega)]
        have : q = j * 4 ∨ q = j * 4 + 1 ∨ q = j * 4 + 2 := by omega
        rcases this with rfl | rfl | rfl
        · rw [h0]; rfl
        · rw [h1]; rfl
        · rw [h2]; rfl
      · rw [half_at _ _ _ _ _ (by omega)]

/-- the rows that are to be copied, as they lie at first -/
structure Rows0 (w0 : World) (R0 : List Row) (gc m : Nat) : Prop where
  nd : (R0.map (·.1)).Nodup
  rin : ∀ r ∈ R0, RowIn 41 w0 r
  ne : ∀ r ∈ R0, r.1 ≠ gc ∧ r.1 ≠ m
  cells : ∀ r ∈ R0, CellsOk r.2.2 r.2.1 1048576
  sum : (R0.map (·.2.1)).sum ≤ 2097152
  pos : ∀ r ∈ R0, 0 < r.2.1

structure Cop (w0 : World) (R0 : List Row) (w : World) (gc m : Nat) (osl : Value) (C : List (Ent × Nat)) (O : List Ent) (P : List Row) : Prop where
  out : Out [gc, m] w0 w
  gm : gc ≠ m ∧ gc < w0.heap.size ∧ m < w0.heap.size
  ents : ∀ x ∈ O, x.ks.length = x.n ∧ 0 < x.n ∧ SrcRow 41 w0 x.ks x.cs x.R
  perm : ((C.map (·.1) ++ O).map Ent.row ++ (O.flatMap (·.R) ++ P)).Perm R0
  gnd : ((C.map (·.1) ++ O).map (·.g)).Nodup
  gfr : ∀ x ∈ C.map (·.1) ++ O, w0.heap.size ≤ x.g ∧ osl.ownBlock ≠ some x.g
  ofr : ∀ z, osl.ownBlock = some z → w0.heap.size ≤ z
  cl : ∀ p ∈ C, ∀ gg cc, Agree gg cc (C.map (·.1) ++ O) → w.ownsRow 0 41 4 p.1.sl p.1.n (half gg cc p.1.cs p.2)
  op : ∀ x ∈ O, w.ownsRow 0 41 4 x.sl x.n x.cs
  cop : w.heap[gc]? = some (.cells #[.map (some m), .int .i64 ((((C.map (·.1) ++ O).map (·.n)).sum : Nat) : Int), osl] 89 (0, 0))
  map : CMapAt w m ((C.map (·.1) ++ O).map (·.b))
  stack : w.ownsRow 0 39 1 osl O.length (O.map Ent.sl)

theorem CMapAt.mono {w : World} {m : Nat} {D D' : List Nat} (h : CMapAt w m D) (hs : ∀ d ∈ D, d ∈ D') : CMapAt w m D' := by
  obtain ⟨es, cl, h1, h2⟩ := h
  exact ⟨es, cl, h1, fun e he => by obtain ⟨a, n, h3, h4⟩ := h2 e he; exact ⟨a, n, h3, hs _ h4⟩⟩

theorem agree_ex : ∀ (L : List Ent), (L.map (·.b)).Nodup → ∃ gg cc, Agree gg cc L
  | [], _ => ⟨fun _ => 0, fun _ => 0, fun x hx => by cases hx⟩
  | y :: L, h => by
    rw [List.map_cons, List.nodup_cons] at h
    obtain ⟨gg, cc, hA⟩ := agree_ex L h.2
    refine ⟨fun b => if b = y.b then y.g else gg b, fun b => if b = y.b then y.cap else cc b, fun x hx => ?_⟩
    rcases List.mem_cons.1 hx with rfl | hx
    · simp
    · have hne : x.b ≠ y.b := fun e => h.1 (by rw [← e]; exact List.mem_map_of_mem hx)
      simpa [hne] using hA x hx

section
variable {w0 w w' : World} {R0 : List Row} {gc m : Nat} {osl : Value} {C : List (Ent × Nat)} {O : List Ent} {P : List Row}

theorem Cop.bs (h : Cop w0 R0 w gc m osl C O P) : ((C.map (·.1) ++ O).map (·.b) ++ (O.flatMap (·.R) ++ P).map (·.1)).Perm (R0.map (·.1)) := by
  have := h.perm.map (fun r : Row => r.1)
  rw [List.map_append, List.map_map] at this
  exact this
theorem Cop.bnd (h : Cop w0 R0 w gc m osl C O P) (h0 : Rows0 w0 R0 gc m) : ((C.map (·.1) ++ O).map (·.b)).Nodup :=
  (List.nodup_append.1 (h.bs.nodup_iff.2 h0.nd)).1
theorem Cop.agree (h : Cop w0 R0 w gc m osl C O P) (h0 : Rows0 w0 R0 gc m) : ∃ gg cc, Agree gg cc (C.map (·.1) ++ O) := agree_ex _ (h.bnd h0)
theorem Cop.glt (h : Cop w0 R0 w gc m osl C O P) (h0 : Rows0 w0 R0 gc m) : ∀ x ∈ C.map (·.1) ++ O, x.g < w.heap.size := fun x hx => by
  rcases List.mem_append.1 hx with hx | hx
  · obtain ⟨p, hp, rfl⟩ := List.mem_map.1 hx
    obtain ⟨gg, cc, hA⟩ := h.agree h0
    exact row_lt0 (h.cl p hp gg cc hA) rfl
  · exact row_lt0 (h.op x hx) rfl
theorem Cop.len (h : Cop w0 R0 w gc m osl C O P) : C.length + O.length + (O.flatMap (·.R) ++ P).length = R0.length := by
  have := h.perm.length_eq
  simp only [List.length_append, List.length_map] at this ⊢
  omega
theorem Cop.ns (h : Cop w0 R0 w gc m osl C O P) : ((C.map (·.1) ++ O).map (·.n)).sum + ((O.flatMap (·.R) ++ P).map (·.2.1)).sum = (R0.map (·.2.1)).sum := by
  have := (h.perm.map (fun r : Row => r.2.1)).sum_nat
  rw [List.map_append, List.map_map, List.sum_append] at this
  exact this

/-- a step that leaves all that was there -/
theorem Cop.below (h : Cop w0 R0 w gc m osl C O P) (h0 : Rows0 w0 R0 gc m) (hb : Below w.heap.size w w') : Cop w0 R0 w' gc m osl C O P := by
  have hg := h.glt h0
  refine ⟨h.out.trans (Out.of_below hb), h.gm, h.ents, h.perm, h.gnd, h.gfr, h.ofr, fun p hp gg cc hA => ?_, fun x hx => ?_, ?_, ?_, ?_⟩
  · exact row_keep (h.cl p hp gg cc hA) (hb.block _ (hg p.1 (List.mem_append_left _ (List.mem_map_of_mem hp))))
  · exact row_keep (h.op x hx) (hb.block _ (hg x (List.mem_append_right _ hx)))
  · exact (hb.block gc (Array.getElem?_eq_some_iff.1 h.cop).1).trans h.cop
  · obtain ⟨es, cl, h1, h2⟩ := h.map
    exact ⟨es, cl, (hb.block m (Array.getElem?_eq_some_iff.1 h1).1).trans h1, h2⟩
  · exact row_turn0 h.stack fun b hb' => hb.block b (row_lt0 h.stack hb')

/-- a row copied and laid open -/
theorem Cop.push {b n : Nat} {cs : List Value} {ks : List Tm} {R : List Row} {g cap' : Nat} {osl' : Value} (h : Cop w0 R0 w gc m osl C O (((b, n, cs) :: R) ++ P)) (h0 : Rows0 w0 R0 gc m) (hk : ks.length = n) (hn : 0 < n) (hs : SrcRow 41 w0 ks cs R)
    (r1 : w'.ownsRow 0 41 4 (.slice (some ⟨g, 0, none⟩) n cap') n cs) (r2 : w.heap.size ≤ g) (r3 : w'.heap[gc]? = some (.cells #[.map (some m), .int .i64 (((((C.map (·.1) ++ O).map (·.n)).sum : Nat) : Int) + n), osl'] 89 (0, 0))) (r4 : CMapAt w' m (b :: (C.map (·.1) ++ O).map (·.b)))
    (r5 : w'.ownsRow 0 39 1 osl' (O.length + 1) (O.map Ent.sl ++ [.slice (some ⟨g, 0, none⟩) n cap'])) (r6 : osl'.ownBlock = osl.ownBlock ∨ ∃ z, osl'.ownBlock = some z ∧ w.heap.size ≤ z ∧ z ≠ g) (r7 : Out (gc :: m :: osl.ownBlock.toList) w w') :
    Cop w0 R0 w' gc m osl' C (O ++ [⟨b, n, cs, g, cap', ks, R⟩]) P := by
  have hg := h.glt h0
  have hws := h.out.size
  have hkeep : ∀ f, f < w.heap.size → f ≠ gc → f ≠ m → osl.ownBlock ≠ some f → w'.heap[f]? = w.heap[f]? := fun f hf e1 e2 e3 => r7.block f hf (by simp [e1, e2]; exact e3)
  have hx0 : ∀ x ∈ C.map (·.1) ++ O, w'.heap[x.g]? = w.heap[x.g]? := fun x hx => by
    obtain ⟨a1, a2⟩ := h.gfr x hx
    exact hkeep x.g (hg x hx) (by have := h.gm.2.1; omega) (by have := h.gm.2.2; omega) a2
  refine ⟨?_, h.gm, ?_, ?_, ?_, ?_, ?_, ?_, ?_, ?_, ?_, ?_⟩
  · refine ⟨r7.os.trans h.out.os, r7.tape.trans h.out.tape, r7.output.trans h.out.output, Nat.le_trans hws r7.size, fun k hk' hne => ?_⟩
    simp only [List.mem_cons, List.not_mem_nil, or_false, not_or] at hne
    rw [hkeep k (by omega) hne.1 hne.2 (fun e => by have := h.ofr k e; omega)]
    exact h.out.block k hk' (by simp [hne])
  · intro x hx
    rcases List.mem_append.1 hx with hx | hx
    · exact h.ents x hx
    · rw [List.mem_singleton] at hx; subst hx; exact ⟨hk, hn, hs⟩
  · refine List.Perm.trans ?_ h.perm
    have e1 : (C.map (·.1) ++ (O ++ [(⟨b, n, cs, g, cap', ks, R⟩ : Ent)])).map Ent.row ++ ((O ++ [(⟨b, n, cs, g, cap', ks, R⟩ : Ent)]).flatMap (·.R) ++ P) = (C.map (·.1) ++ O).map Ent.row ++ ((b, n, cs) :: (O.flatMap (·.R) ++ (R ++ P))) := by simp [Ent.row]
    rw [e1]
    exact List.Perm.append_left _ List.perm_middle.symm
  · rw [← List.append_assoc, List.map_append]
    refine List.nodup_append.2 ⟨h.gnd, by simp, fun a ha c hc => ?_⟩
    simp only [List.map_cons, List.map_nil, List.mem_singleton] at hc
    obtain ⟨x, hx, rfl⟩ := List.mem_map.1 ha
    have := hg x hx
    omega
  · intro x hx
    rw [← List.append_assoc] at hx
    rcases List.mem_append.1 hx with hx | hx
    · obtain ⟨a1, a2⟩ := h.gfr x hx
      refine ⟨a1, ?_⟩
      rcases r6 with e | ⟨z, e, hz, _⟩ <;> rw [e]
      · exact a2
      · intro e'; injection e' with e'; have := hg x hx; omega
    · rw [List.mem_singleton] at hx; subst hx
      refine ⟨by show _ ≤ g; omega, ?_⟩
      rcases r6 with e | ⟨z, e, hz, hzg⟩ <;> rw [e]
      · intro e'; have := row_lt0 h.stack e'; show False; simp only at this; omega
      · intro e'; injection e' with e'; exact hzg e'
  · intro z hz
    rcases r6 with e | ⟨z', e, hz', _⟩ <;> rw [e] at hz
    · exact h.ofr z hz
    · injection hz with hz; omega
  · intro p hp gg cc hA
    exact row_keep (h.cl p hp gg cc fun x hx => hA x (by rw [← List.append_assoc]; exact List.mem_append_left _ hx)) (hx0 p.1 (List.mem_append_left _ (List.mem_map_of_mem hp)))
  · intro x hx
    rcases List.mem_append.1 hx with hx | hx
    · exact row_keep (h.op x hx) (hx0 x (List.mem_append_right _ hx))
    · rw [List.mem_singleton] at hx; subst hx; exact r1
  · have e : ((C.map (·.1) ++ (O ++ [(⟨b, n, cs, g, cap', ks, R⟩ : Ent)])).map (·.n)).sum = ((C.map (·.1) ++ O).map (·.n)).sum + n := by rw [← List.append_assoc, List.map_append, List.sum_append]; simp
    rw [r3, e, Int.natCast_add]
  · refine r4.mono fun d hd => ?_
    rw [← List.append_assoc, List.map_append]
    rcases List.mem_cons.1 hd with rfl | hd
    · simp
    · exact List.mem_append_left _ hd
  · rw [List.length_append, List.map_append]
    exact r5

/-- the last open row is taken up -/
theorem Cop.pop {x : Ent} {ao : Option Addr} {cap : Nat} (h : Cop w0 R0 w gc m (.slice ao (O.length + 1) cap) C (O ++ [x]) []) :
    Cop w0 R0 (w.setCell ⟨gc, 2, none⟩ (.slice ao O.length cap)) gc m (.slice ao O.length cap) (C ++ [(x, 0)]) O x.R := by
  have hgc := h.gm.2.1
  have hok : ∀ f, f ≠ gc → (w.setCell ⟨gc, 2, none⟩ (.slice ao O.length cap)).heap[f]? = w.heap[f]? := fun f hf => blk_other _ hf
  have hall : (C ++ [(x, 0)]).map (fun p : Ent × Nat => p.1) ++ O = (C.map (·.1) ++ [x]) ++ O := by simp
  have hob : Value.ownBlock (.slice ao O.length cap) = Value.ownBlock (.slice ao (O.length + 1) cap) := by cases ao <;> rfl
  have hne : ∀ y ∈ C.map (·.1) ++ (O ++ [x]), y.g ≠ gc := fun y hy e => by have := (h.gfr y hy).1; omega
  have hmem : ∀ y, y ∈ (C.map (·.1) ++ [x]) ++ O ↔ y ∈ C.map (·.1) ++ (O ++ [x]) := fun y => by simp only [List.mem_append, List.mem_singleton]; exact ⟨fun h => by rcases h with (h | h) | h <;> simp [h], fun h => by rcases h with h | h | h <;> simp [h]⟩
  have hperm : ((C.map (·.1) ++ [x]) ++ O).Perm (C.map (·.1) ++ (O ++ [x])) := by
    rw [List.append_assoc]
    exact List.Perm.append_left _ List.perm_append_comm
  refine ⟨h.out.trans (Out.set (by simp) _ _ _), h.gm, fun y hy => h.ents y (by simp [hy]), ?_, ?_, ?_, ?_, ?_, ?_, ?_, ?_, ?_⟩
  · rw [hall]
    refine List.Perm.trans ?_ h.perm
    refine List.Perm.append (hperm.map _) ?_
    simp
  · rw [hall]; exact (hperm.map _).nodup_iff.2 h.gnd
  · rw [hall, hob]; exact fun y hy => h.gfr y ((hmem y).1 hy)
  · rw [hob]; exact h.ofr
  · rw [hall]
    intro p hp gg cc hA
    have hA' : Agree gg cc (C.map (·.1) ++ (O ++ [x])) := fun y hy => hA y ((hmem y).2 hy)
    rcases List.mem_append.1 hp with hp | hp
    · exact row_keep (h.cl p hp gg cc hA') (hok _ (hne _ (List.mem_append_left _ (List.mem_map_of_mem hp))))
    · rw [List.mem_singleton] at hp
      subst hp
      rw [half_zero]
      exact row_keep (h.op x (by simp)) (hok _ (hne _ (by simp)))
  · intro y hy
    exact row_keep (h.op y (by simp [hy])) (hok _ (hne _ (by simp [hy])))
  · rw [hall, (hperm.map (fun y : Ent => y.n)).sum_nat]
    simpa using blk_set (i := 2) h.cop (.slice ao O.length cap)
  · obtain ⟨es, cl, h1, h2⟩ := h.map
    refine CMapAt.mono ⟨es, cl, (hok m (Ne.symm h.gm.1)).trans h1, h2⟩ fun d hd => ?_
    rw [hall]
    exact ((hperm.map (fun y : Ent => y.b)).mem_iff).2 hd
  · have hs := h.stack
    refine ⟨by simp, ?_⟩
    rcases hs.2 with ⟨e, h1⟩ | ⟨g', c, cur, e, h1, h2, h3, h4, h5, h6⟩
    · simp at h1
    · obtain ⟨rfl, rfl⟩ : ao = some ⟨g', 0, none⟩ ∧ cap = c := by simpa using e
      simp only [List.length_append, List.length_cons, List.length_nil] at h3 h6
      refine Or.inr ⟨g', cap, cur, rfl, h1, (hok g' fun e => ?_).trans h2, by omega, h4, h5, ?_⟩
      · have := h.ofr g' rfl; omega
      · have := congrArg (List.take (O.length * 1)) h6
        rw [List.take_take, List.map_append] at this
        rw [show min (O.length * 1) ((O.length + (0 + 1)) * 1) = O.length * 1 by omega] at this
        rw [this, List.take_left' (by simp)]

/-- one more of its terms has the new kids -/
theorem Cop.store {x : Ent} {j : Nat} {c v : Value} (h : Cop w0 R0 w gc m osl (C ++ [(x, j)]) O P) (hx : CellsOk x.cs x.n 1048576) (hj : j < x.n) (hc : x.cs[j * 4 + 3]? = some c) (hv : ∀ gg cc, Agree gg cc ((C ++ [(x, j)]).map (·.1) ++ O) → cpV gg cc c = v) :
    Cop w0 R0 (w.setCell ⟨x.g, j * 4 + 3, none⟩ v) gc m osl (C ++ [(x, j + 1)]) O P := by
  have hall : (C ++ [(x, j + 1)]).map (fun p : Ent × Nat => p.1) ++ O = (C ++ [(x, j)]).map (fun p : Ent × Nat => p.1) ++ O := by simp
  have hxm : x ∈ (C ++ [(x, j)]).map (·.1) ++ O := by simp
  obtain ⟨x1, x2⟩ := h.gfr x hxm
  have hok : ∀ f, f ≠ x.g → (w.setCell ⟨x.g, j * 4 + 3, none⟩ v).heap[f]? = w.heap[f]? := fun f hf => blk_other _ hf
  have hnd := h.gnd
  have hne1 : ∀ p ∈ C, p.1.g ≠ x.g := fun p hp e => by
    rw [List.map_append, List.map_append, List.map_append, List.append_assoc] at hnd
    exact (List.nodup_append.1 hnd).2.2 _ (List.mem_map_of_mem (f := fun y : Ent => y.g) (List.mem_map_of_mem (f := fun y : Ent × Nat => y.1) hp)) x.g (by simp) e
  have hne2 : ∀ y ∈ O, y.g ≠ x.g := fun y hy e => by
    rw [List.map_append] at hnd
    exact (List.nodup_append.1 hnd).2.2 x.g (by simp) y.g (List.mem_map_of_mem hy) e.symm
  refine ⟨?_, h.gm, h.ents, by rw [hall]; exact h.perm, by rw [hall]; exact h.gnd, by rw [hall]; exact h.gfr, h.ofr, ?_, ?_, ?_, ?_, ?_⟩
  · refine ⟨h.out.os, h.out.tape, h.out.output, by simpa [World.setCell] using h.out.size, fun k hk hn => (hok k (by omega)).trans (h.out.block k hk hn)⟩
  · rw [hall]
    intro p hp gg cc hA
    rcases List.mem_append.1 hp with hp | hp
    · exact row_keep (h.cl p (by simp [hp]) gg cc hA) (hok _ (hne1 p hp))
    · rw [List.mem_singleton] at hp
      subst hp
      have := row_set (i := j * 4 + 3) (v := v) (h.cl (x, j) (by simp) gg cc hA)
      rw [half_step gg cc x.cs j x.n _ hx hj c v hc (hv gg cc hA)] at this
      exact this
  · intro y hy
    exact row_keep (h.op y hy) (hok _ (hne2 y hy))
  · rw [hall]
    exact (hok gc (by have := h.gm.2.1; omega)).trans h.cop
  · rw [hall]
    obtain ⟨es, cl, h1, h2⟩ := h.map
    exact ⟨es, cl, (hok m (by have := h.gm.2.2; omega)).trans h1, h2⟩
  · exact row_turn0 h.stack fun b hb => hok b fun e => x2 (by rw [hb, e])
end

/-- all are copied: what the first row's copy holds -/
theorem Cop.done {w0 w : World} {R0 : List Row} {gc m : Nat} {osl : Value} {C : List (Ent × Nat)} {t : Tm} {v : Value} {R : List Row} {b0 : Nat} {cs0 : List Value} (h : Cop w0 R0 w gc m osl C [] []) (h0 : Rows0 w0 R0 gc m) (hcl : ∀ p ∈ C, p.2 = p.1.n) (hR : R0 = (b0, 1, cs0) :: R) (hs : Src 41 w0 t v R)
    {c0 c1 c2 c3 : Value} (hv : v = .agg #[c0, c1, c2, c3]) (hcs : cs0 = [c0, c1, c2, c3]) {x : Ent} (hx : x ∈ C.map (·.1)) (hxb : x.b = b0) :
    ∃ d0 d1 d2 d3 F, w.cell? ⟨x.g, 0, none⟩ = some d0 ∧ w.cell? ⟨x.g, 1, none⟩ = some d1 ∧ w.cell? ⟨x.g, 2, none⟩ = some d2 ∧ w.cell? ⟨x.g, 3, none⟩ = some d3 ∧ Own 41 w t (.agg #[d0, d1, d2, d3]) F ∧ (∀ f ∈ F, w0.heap.size ≤ f) ∧ F.Nodup := by
  obtain ⟨gg, cc, hA⟩ := h.agree h0
  have hperm := h.perm
  simp only [List.append_nil, List.flatMap_nil] at hperm hA
  have hrow : ∀ r ∈ R0, ∃ p ∈ C, p.1.row = r := fun r hr => by
    obtain ⟨y, hy, e⟩ := List.mem_map.1 (hperm.mem_iff.2 hr)
    obtain ⟨p, hp, rfl⟩ := List.mem_map.1 hy
    exact ⟨p, hp, e⟩
  have hcp : ∀ r ∈ R0, w.ownsRow 0 41 4 (.slice (some ⟨gg r.1, 0, none⟩) r.2.1 (cc r.1)) r.2.1 (r.2.2.map (cpV gg cc)) := fun r hr => by
    obtain ⟨p, hp, rfl⟩ := hrow r hr
    have h1 := h.cl p hp gg cc (by simpa using hA)
    rw [hcl p hp, half_all _ _ _ _ (by have := (h0.cells _ hr).1; simp only [Ent.row] at this; omega)] at h1
    obtain ⟨e1, e2⟩ := hA p.1 (List.mem_map_of_mem hp)
    simp only [Ent.row]
    rw [e1, e2]
    exact h1
  have hown := Src.copied gg cc t v R hs (fun r hr => hcp r (by rw [hR]; simp [hr])) c0 c1 c2 c3 hv
  have hx0 := hcp (b0, 1, cs0) (by rw [hR]; simp)
  obtain ⟨e1, e2⟩ := hA x hx
  rw [hxb] at e1
  simp only [e1] at hx0
  have hc : ∀ i, i < 4 → w.cell? ⟨x.g, i, none⟩ = (cs0.map (cpV gg cc))[i]? := fun i hi => hx0.cellAt i (by omega)
  have hgR : ∀ r ∈ R0, ∃ y ∈ C.map (·.1), gg r.1 = y.g ∧ y.b = r.1 := fun r hr => by
    obtain ⟨p, hp, rfl⟩ := hrow r hr
    exact ⟨p.1, List.mem_map_of_mem hp, (hA p.1 (List.mem_map_of_mem hp)).1, rfl⟩
  refine ⟨_, _, _, _, _, (hc 0 (by omega)).trans (by rw [hcs]; rfl), (hc 1 (by omega)).trans (by rw [hcs]; rfl), (hc 2 (by omega)).trans (by rw [hcs]; rfl), (hc 3 (by omega)).trans (by rw [hcs]; rfl), hown, fun f hf => ?_, ?_⟩
  · obtain ⟨r, hr, rfl⟩ := List.mem_map.1 hf
    obtain ⟨y, hy, e, _⟩ := hgR r (by rw [hR]; simp [hr])
    rw [e]
    exact (h.gfr y (by simpa using hy)).1
  · have hg := h.gnd
    simp only [List.append_nil] at hg
    have hC : (C.map (·.1)).map (·.g) = (R0.map (fun r => gg r.1)).map id ∨ True := Or.inr trivial
    clear hC
    have hp2 : ((C.map (·.1)).map (·.g)).Perm (R0.map fun r => gg r.1) := by
      have := hperm.map (fun r : Row => gg r.1)
      rw [List.map_map] at this
      refine List.Perm.trans (List.Perm.of_eq ?_) this
      apply List.map_congr_left
      intro y hy
      exact (hA y hy).1.symm
    have := hp2.nodup_iff.1 hg
    rw [hR, List.map_cons, List.nodup_cons] at this
    exact this.2
end Go.Proofs.YtmhmlkdoaojimapGreatDoor

/- The copier used again: what it holds while a term is copied, where some terms are counted, some places marked, and the open list has a block already. -/
namespace Go.Proofs.YtmhmlkdoaojimapGreatDoor
open Go.RowKit

/-- the rows that are to be copied, as they lie at first -/
structure Rows1 (w0 : World) (R0 : List Row) (gc m T0 : Nat) (D0 Z : List Nat) : Prop where
  nd : (R0.map (·.1)).Nodup
  rin : ∀ r ∈ R0, RowIn 41 w0 r
  ne : ∀ r ∈ R0, r.1 ≠ gc ∧ r.1 ≠ m ∧ r.1 ∉ Z
  cells : ∀ r ∈ R0, CellsOk r.2.2 r.2.1 1048576
  sum : (R0.map (·.2.1)).sum ≤ 2097152
  pos : ∀ r ∈ R0, 0 < r.2.1
  dj : ∀ r ∈ R0, r.1 ∉ D0
  dp : DPB w0 D0
  dk : ∀ d ∈ D0, d ≠ gc ∧ d ≠ m ∧ d ∉ Z
  tb : T0 ≤ 2097152

structure Kop (w0 : World) (R0 : List Row) (T0 : Nat) (D0 Z : List Nat) (w : World) (gc m : Nat) (osl : Value) (C : List (Ent × Nat)) (O : List Ent) (P : List Row) : Prop where
  out : Out (gc :: m :: Z) w0 w
  gm : gc ≠ m ∧ gc < w0.heap.size ∧ m < w0.heap.size ∧ ∀ z ∈ Z, z ≠ gc ∧ z ≠ m ∧ z < w0.heap.size
  ents : ∀ x ∈ O, x.ks.length = x.n ∧ 0 < x.n ∧ SrcRow 41 w0 x.ks x.cs x.R
  perm : ((C.map (·.1) ++ O).map Ent.row ++ (O.flatMap (·.R) ++ P)).Perm R0
  gnd : ((C.map (·.1) ++ O).map (·.g)).Nodup
  gfr : ∀ x ∈ C.map (·.1) ++ O, w0.heap.size ≤ x.g ∧ osl.ownBlock ≠ some x.g
  ofr : ∀ z, osl.ownBlock = some z → w0.heap.size ≤ z ∨ z ∈ Z
  cl : ∀ p ∈ C, ∀ gg cc, Agree gg cc (C.map (·.1) ++ O) → w.ownsRow 0 41 4 p.1.sl p.1.n (half gg cc p.1.cs p.2)
  op : ∀ x ∈ O, w.ownsRow 0 41 4 x.sl x.n x.cs
  cop : w.heap[gc]? = some (.cells #[.map (some m), .int .i64 ((T0 + ((C.map (·.1) ++ O).map (·.n)).sum : Nat) : Int), osl] 89 (0, 0))
  map : CMapAt w m ((C.map (·.1) ++ O).map (·.b) ++ D0)
  stack : w.ownsRow 0 39 1 osl O.length (O.map Ent.sl)

section
variable {w0 w w' : World} {R0 : List Row} {T0 : Nat} {D0 Z : List Nat} {gc m : Nat} {osl : Value} {C : List (Ent × Nat)} {O : List Ent} {P : List Row}

theorem Kop.bs (h : Kop w0 R0 T0 D0 Z w gc m osl C O P) : ((C.map (·.1) ++ O).map (·.b) ++ (O.flatMap (·.R) ++ P).map (·.1)).Perm (R0.map (·.1)) := by
  have := h.perm.map (fun r : Row => r.1)
  rw [List.map_append, List.map_map] at this
  exact this
theorem Kop.bnd (h : Kop w0 R0 T0 D0 Z w gc m osl C O P) (h0 : Rows1 w0 R0 gc m T0 D0 Z) : ((C.map (·.1) ++ O).map (·.b)).Nodup :=
  (List.nodup_append.1 (h.bs.nodup_iff.2 h0.nd)).1
theorem Kop.agree (h : Kop w0 R0 T0 D0 Z w gc m osl C O P) (h0 : Rows1 w0 R0 gc m T0 D0 Z) : ∃ gg cc, Agree gg cc (C.map (·.1) ++ O) := agree_ex _ (h.bnd h0)
theorem Kop.glt (h : Kop w0 R0 T0 D0 Z w gc m osl C O P) (h0 : Rows1 w0 R0 gc m T0 D0 Z) : ∀ x ∈ C.map (·.1) ++ O, x.g < w.heap.size := fun x hx => by
  rcases List.mem_append.1 hx with hx | hx
  · obtain ⟨p, hp, rfl⟩ := List.mem_map.1 hx
    obtain ⟨gg, cc, hA⟩ := h.agree h0
    exact row_lt0 (h.cl p hp gg cc hA) rfl
  · exact row_lt0 (h.op x hx) rfl
theorem Kop.len (h : Kop w0 R0 T0 D0 Z w gc m osl C O P) : C.length + O.length + (O.flatMap (·.R) ++ P).length = R0.length := by
  have := h.perm.length_eq
  simp only [List.length_append, List.length_map] at this ⊢
  omega
theorem Kop.ns (h : Kop w0 R0 T0 D0 Z w gc m osl C O P) : ((C.map (·.1) ++ O).map (·.n)).sum + ((O.flatMap (·.R) ++ P).map (·.2.1)).sum = (R0.map (·.2.1)).sum := by
  have := (h.perm.map (fun r : Row => r.2.1)).sum_nat
  rw [List.map_append, List.map_map, List.sum_append] at this
  exact this

/-- a step that leaves all that was there -/
theorem Kop.below (h : Kop w0 R0 T0 D0 Z w gc m osl C O P) (h0 : Rows1 w0 R0 gc m T0 D0 Z) (hb : Below w.heap.size w w') : Kop w0 R0 T0 D0 Z w' gc m osl C O P := by
  have hg := h.glt h0
  refine ⟨h.out.trans (Out.of_below hb), h.gm, h.ents, h.perm, h.gnd, h.gfr, h.ofr, fun p hp gg cc hA => ?_, fun x hx => ?_, ?_, ?_, ?_⟩
  · exact row_keep (h.cl p hp gg cc hA) (hb.block _ (hg p.1 (List.mem_append_left _ (List.mem_map_of_mem hp))))
  · exact row_keep (h.op x hx) (hb.block _ (hg x (List.mem_append_right _ hx)))
  · exact (hb.block gc (Array.getElem?_eq_some_iff.1 h.cop).1).trans h.cop
  · obtain ⟨es, cl, h1, h2⟩ := h.map
    exact ⟨es, cl, (hb.block m (Array.getElem?_eq_some_iff.1 h1).1).trans h1, h2⟩
  · exact row_turn0 h.stack fun b hb' => hb.block b (row_lt0 h.stack hb')

/-- a row copied and laid open -/
theorem Kop.push {b n : Nat} {cs : List Value} {ks : List Tm} {R : List Row} {g cap' : Nat} {osl' : Value} (h : Kop w0 R0 T0 D0 Z w gc m osl C O (((b, n, cs) :: R) ++ P)) (h0 : Rows1 w0 R0 gc m T0 D0 Z) (hk : ks.length = n) (hn : 0 < n) (hs : SrcRow 41 w0 ks cs R)
    (r1 : w'.ownsRow 0 41 4 (.slice (some ⟨g, 0, none⟩) n cap') n cs) (r2 : w.heap.size ≤ g) (r3 : w'.heap[gc]? = some (.cells #[.map (some m), .int .i64 (((T0 + ((C.map (·.1) ++ O).map (·.n)).sum : Nat) : Int) + n), osl'] 89 (0, 0))) (r4 : CMapAt w' m (b :: ((C.map (·.1) ++ O).map (·.b) ++ D0)))
    (r5 : w'.ownsRow 0 39 1 osl' (O.length + 1) (O.map Ent.sl ++ [.slice (some ⟨g, 0, none⟩) n cap'])) (r6 : osl'.ownBlock = osl.ownBlock ∨ ∃ z, osl'.ownBlock = some z ∧ w.heap.size ≤ z ∧ z ≠ g) (r7 : Out (gc :: m :: osl.ownBlock.toList) w w') :
    Kop w0 R0 T0 D0 Z w' gc m osl' C (O ++ [⟨b, n, cs, g, cap', ks, R⟩]) P := by
  have hg := h.glt h0
  have hws := h.out.size
  have hkeep : ∀ f, f < w.heap.size → f ≠ gc → f ≠ m → osl.ownBlock ≠ some f → w'.heap[f]? = w.heap[f]? := fun f hf e1 e2 e3 => r7.block f hf (by simp [e1, e2]; exact e3)
  have hx0 : ∀ x ∈ C.map (·.1) ++ O, w'.heap[x.g]? = w.heap[x.g]? := fun x hx => by
    obtain ⟨a1, a2⟩ := h.gfr x hx
    exact hkeep x.g (hg x hx) (by have := h.gm.2.1; omega) (by have := h.gm.2.2.1; omega) a2
  refine ⟨?_, h.gm, ?_, ?_, ?_, ?_, ?_, ?_, ?_, ?_, ?_, ?_⟩
  · refine ⟨r7.os.trans h.out.os, r7.tape.trans h.out.tape, r7.output.trans h.out.output, Nat.le_trans hws r7.size, fun k hk' hne => ?_⟩
    simp only [List.mem_cons, not_or] at hne
    rw [hkeep k (by omega) hne.1 hne.2.1 (fun e => (h.ofr k e).elim (fun h9 => by omega) hne.2.2)]
    exact h.out.block k hk' (by simp [hne])
  · intro x hx
    rcases List.mem_append.1 hx with hx | hx
    · exact h.ents x hx
    · rw [List.mem_singleton] at hx; subst hx; exact ⟨hk, hn, hs⟩
  · refine List.Perm.trans ?_ h.perm
    have e1 : (C.map (·.1) ++ (O ++ [(⟨b, n, cs, g, cap', ks, R⟩ : Ent)])).map Ent.row ++ ((O ++ [(⟨b, n, cs, g, cap', ks, R⟩ : Ent)]).flatMap (·.R) ++ P) = (C.map (·.1) ++ O).map Ent.row ++ ((b, n, cs) :: (O.flatMap (·.R) ++ (R ++ P))) := by simp [Ent.row]
    rw [e1]
    exact List.Perm.append_left _ List.perm_middle.symm
  · rw [← List.append_assoc, List.map_append]
    refine List.nodup_append.2 ⟨h.gnd, by simp, fun a ha c hc => ?_⟩
    simp only [List.map_cons, List.map_nil, List.mem_singleton] at hc
    obtain ⟨x, hx, rfl⟩ := List.mem_map.1 ha
    have := hg x hx
    omega
  · intro x hx
    rw [← List.append_assoc] at hx
    rcases List.mem_append.1 hx with hx | hx
    · obtain ⟨a1, a2⟩ := h.gfr x hx
      refine ⟨a1, ?_⟩
      rcases r6 with e | ⟨z, e, hz, _⟩ <;> rw [e]
      · exact a2
      · intro e'; injection e' with e'; have := hg x hx; omega
    · rw [List.mem_singleton] at hx; subst hx
      refine ⟨by show _ ≤ g; omega, ?_⟩
      rcases r6 with e | ⟨z, e, hz, hzg⟩ <;> rw [e]
      · intro e'; have := row_lt0 h.stack e'; show False; simp only at this; omega
      · intro e'; injection e' with e'; exact hzg e'
  · intro z hz
    rcases r6 with e | ⟨z', e, hz', _⟩ <;> rw [e] at hz
    · exact h.ofr z hz
    · injection hz with hz; exact Or.inl (by omega)
  · intro p hp gg cc hA
    exact row_keep (h.cl p hp gg cc fun x hx => hA x (by rw [← List.append_assoc]; exact List.mem_append_left _ hx)) (hx0 p.1 (List.mem_append_left _ (List.mem_map_of_mem hp)))
  · intro x hx
    rcases List.mem_append.1 hx with hx | hx
    · exact row_keep (h.op x hx) (hx0 x (List.mem_append_right _ hx))
    · rw [List.mem_singleton] at hx; subst hx; exact r1
  · have e : ((C.map (·.1) ++ (O ++ [(⟨b, n, cs, g, cap', ks, R⟩ : Ent)])).map (·.n)).sum = ((C.map (·.1) ++ O).map (·.n)).sum + n := by rw [← List.append_assoc, List.map_append, List.sum_append]; simp
    have e2 : ((T0 + (((C.map (·.1) ++ O).map (·.n)).sum + n) : Nat) : Int) = ((T0 + ((C.map (·.1) ++ O).map (·.n)).sum : Nat) : Int) + n := by omega
    rw [r3, e, e2]
  · refine r4.mono fun d hd => ?_
    rw [← List.append_assoc, List.map_append]
    rcases List.mem_cons.1 hd with rfl | hd
    · simp
    · rcases List.mem_append.1 hd with hd | hd
      · exact List.mem_append_left _ (List.mem_append_left _ hd)
      · exact List.mem_append_right _ hd
  · rw [List.length_append, List.map_append]
    exact r5

/-- the last open row is taken up -/
theorem Kop.pop {x : Ent} {ao : Option Addr} {cap : Nat} (h : Kop w0 R0 T0 D0 Z w gc m (.slice ao (O.length + 1) cap) C (O ++ [x]) []) :
    Kop w0 R0 T0 D0 Z (w.setCell ⟨gc, 2, none⟩ (.slice ao O.length cap)) gc m (.slice ao O.length cap) (C ++ [(x, 0)]) O x.R := by
  have hgc := h.gm.2.1
  have hok : ∀ f, f ≠ gc → (w.setCell ⟨gc, 2, none⟩ (.slice ao O.length cap)).heap[f]? = w.heap[f]? := fun f hf => blk_other _ hf
  have hall : (C ++ [(x, 0)]).map (fun p : Ent × Nat => p.1) ++ O = (C.map (·.1) ++ [x]) ++ O := by simp
  have hob : Value.ownBlock (.slice ao O.length cap) = Value.ownBlock (.slice ao (O.length + 1) cap) := by cases ao <;> rfl
  have hne : ∀ y ∈ C.map (·.1) ++ (O ++ [x]), y.g ≠ gc := fun y hy e => by have := (h.gfr y hy).1; omega
  have hmem : ∀ y, y ∈ (C.map (·.1) ++ [x]) ++ O ↔ y ∈ C.map (·.1) ++ (O ++ [x]) := fun y => by simp only [List.mem_append, List.mem_singleton]; exact ⟨fun h => by rcases h with (h | h) | h <;> simp [h], fun h => by rcases h with h | h | h <;> simp [h]⟩
  have hperm : ((C.map (·.1) ++ [x]) ++ O).Perm (C.map (·.1) ++ (O ++ [x])) := by
    rw [List.append_assoc]
    exact List.Perm.append_left _ List.perm_append_comm
  refine ⟨h.out.trans (Out.set (by simp) _ _ _), h.gm, fun y hy => h.ents y (by simp [hy]), ?_, ?_, ?_, ?_, ?_, ?_, ?_, ?_, ?_⟩
  · rw [hall]
    refine List.Perm.trans ?_ h.perm
    refine List.Perm.append (hperm.map _) ?_
    simp
  · rw [hall]; exact (hperm.map _).nodup_iff.2 h.gnd
  · rw [hall, hob]; exact fun y hy => h.gfr y ((hmem y).1 hy)
  · rw [hob]; exact h.ofr
  · rw [hall]
    intro p hp gg cc hA
    have hA' : Agree gg cc (C.map (·.1) ++ (O ++ [x])) := fun y hy => hA y ((hmem y).2 hy)
    rcases List.mem_append.1 hp with hp | hp
    · exact row_keep (h.cl p hp gg cc hA') (hok _ (hne _ (List.mem_append_left _ (List.mem_map_of_mem hp))))
    · rw [List.mem_singleton] at hp
      subst hp
      rw [half_zero]
      exact row_keep (h.op x (by simp)) (hok _ (hne _ (by simp)))
  · intro y hy
    exact row_keep (h.op y (by simp [hy])) (hok _ (hne _ (by simp [hy])))
  · rw [hall, (hperm.map (fun y : Ent => y.n)).sum_nat]
    simpa using blk_set (i := 2) h.cop (.slice ao O.length cap)
  · obtain ⟨es, cl, h1, h2⟩ := h.map
    refine CMapAt.mono ⟨es, cl, (hok m (Ne.symm h.gm.1)).trans h1, h2⟩ fun d hd => ?_
    rw [hall]
    rcases List.mem_append.1 hd with hd | hd
    · exact List.mem_append_left _ (((hperm.map (fun y : Ent => y.b)).mem_iff).2 hd)
    · exact List.mem_append_right _ hd
  · have hs := h.stack
    refine ⟨by simp, ?_⟩
    rcases hs.2 with ⟨e, h1⟩ | ⟨g', c, cur, e, h1, h2, h3, h4, h5, h6⟩
    · simp at h1
    · obtain ⟨rfl, rfl⟩ : ao = some ⟨g', 0, none⟩ ∧ cap = c := by simpa using e
      simp only [List.length_append, List.length_cons, List.length_nil] at h3 h6
      refine Or.inr ⟨g', cap, cur, rfl, h1, (hok g' fun e => ?_).trans h2, by omega, h4, h5, ?_⟩
      · rcases h.ofr g' rfl with h9 | h9
        · omega
        · exact (h.gm.2.2.2 _ h9).1 e
      · have := congrArg (List.take (O.length * 1)) h6
        rw [List.take_take, List.map_append] at this
        rw [show min (O.length * 1) ((O.length + (0 + 1)) * 1) = O.length * 1 by omega] at this
        rw [this, List.take_left' (by simp)]

/-- one more of its terms has the new kids -/
theorem Kop.store {x : Ent} {j : Nat} {c v : Value} (h : Kop w0 R0 T0 D0 Z w gc m osl (C ++ [(x, j)]) O P) (hx : CellsOk x.cs x.n 1048576) (hj : j < x.n) (hc : x.cs[j * 4 + 3]? = some c) (hv : ∀ gg cc, Agree gg cc ((C ++ [(x, j)]).map (·.1) ++ O) → cpV gg cc c = v) :
    Kop w0 R0 T0 D0 Z (w.setCell ⟨x.g, j * 4 + 3, none⟩ v) gc m osl (C ++ [(x, j + 1)]) O P := by
  have hall : (C ++ [(x, j + 1)]).map (fun p : Ent × Nat => p.1) ++ O = (C ++ [(x, j)]).map (fun p : Ent × Nat => p.1) ++ O := by simp
  have hxm : x ∈ (C ++ [(x, j)]).map (·.1) ++ O := by simp
  obtain ⟨x1, x2⟩ := h.gfr x hxm
  have hok : ∀ f, f ≠ x.g → (w.setCell ⟨x.g, j * 4 + 3, none⟩ v).heap[f]? = w.heap[f]? := fun f hf => blk_other _ hf
  have hnd := h.gnd
  have hne1 : ∀ p ∈ C, p.1.g ≠ x.g := fun p hp e => by
    rw [List.map_append, List.map_append, List.map_append, List.append_assoc] at hnd
    exact (List.nodup_append.1 hnd).2.2 _ (List.mem_map_of_mem (f := fun y : Ent => y.g) (List.mem_map_of_mem (f := fun y : Ent × Nat => y.1) hp)) x.g (by simp) e
  have hne2 : ∀ y ∈ O, y.g ≠ x.g := fun y hy e => by
    rw [List.map_append] at hnd
    exact (List.nodup_append.1 hnd).2.2 x.g (by simp) y.g (List.mem_map_of_mem hy) e.symm
  refine ⟨?_, h.gm, h.ents, by rw [hall]; exact h.perm, by rw [hall]; exact h.gnd, by rw [hall]; exact h.gfr, h.ofr, ?_, ?_, ?_, ?_, ?_⟩
  · refine ⟨h.out.os, h.out.tape, h.out.output, by simpa [World.setCell] using h.out.size, fun k hk hn => (hok k (by omega)).trans (h.out.block k hk hn)⟩
  · rw [hall]
    intro p hp gg cc hA
    rcases List.mem_append.1 hp with hp | hp
    · exact row_keep (h.cl p (by simp [hp]) gg cc hA) (hok _ (hne1 p hp))
    · rw [List.mem_singleton] at hp
      subst hp
      have := row_set (i := j * 4 + 3) (v := v) (h.cl (x, j) (by simp) gg cc hA)
      rw [half_step gg cc x.cs j x.n _ hx hj c v hc (hv gg cc hA)] at this
      exact this
  · intro y hy
    exact row_keep (h.op y hy) (hok _ (hne2 y hy))
  · rw [hall]
    exact (hok gc (by have := h.gm.2.1; omega)).trans h.cop
  · rw [hall]
    obtain ⟨es, cl, h1, h2⟩ := h.map
    exact ⟨es, cl, (hok m (by have := h.gm.2.2.1; omega)).trans h1, h2⟩
  · exact row_turn0 h.stack fun b hb => hok b fun e => x2 (by rw [hb, e])
end

/-- all are copied: what the first row's copy holds -/
theorem Kop.done {w0 w : World} {R0 : List Row} {T0 : Nat} {D0 Z : List Nat} {gc m : Nat} {osl : Value} {C : List (Ent × Nat)} {t : Tm} {v : Value} {R : List Row} {b0 : Nat} {cs0 : List Value} (h : Kop w0 R0 T0 D0 Z w gc m osl C [] []) (h0 : Rows1 w0 R0 gc m T0 D0 Z) (hcl : ∀ p ∈ C, p.2 = p.1.n) (hR : R0 = (b0, 1, cs0) :: R) (hs : Src 41 w0 t v R)
    {c0 c1 c2 c3 : Value} (hv : v = .agg #[c0, c1, c2, c3]) (hcs : cs0 = [c0, c1, c2, c3]) {x : Ent} (hx : x ∈ C.map (·.1)) (hxb : x.b = b0) :
    ∃ d0 d1 d2 d3 F, w.cell? ⟨x.g, 0, none⟩ = some d0 ∧ w.cell? ⟨x.g, 1, none⟩ = some d1 ∧ w.cell? ⟨x.g, 2, none⟩ = some d2 ∧ w.cell? ⟨x.g, 3, none⟩ = some d3 ∧ Own 41 w t (.agg #[d0, d1, d2, d3]) F ∧ (∀ f ∈ F, w0.heap.size ≤ f ∧ osl.ownBlock ≠ some f) ∧ F.Nodup := by
  obtain ⟨gg, cc, hA⟩ := h.agree h0
  have hperm := h.perm
  simp only [List.append_nil, List.flatMap_nil] at hperm hA
  have hrow : ∀ r ∈ R0, ∃ p ∈ C, p.1.row = r := fun r hr => by
    obtain ⟨y, hy, e⟩ := List.mem_map.1 (hperm.mem_iff.2 hr)
    obtain ⟨p, hp, rfl⟩ := List.mem_map.1 hy
    exact ⟨p, hp, e⟩
  have hcp : ∀ r ∈ R0, w.ownsRow 0 41 4 (.slice (some ⟨gg r.1, 0, none⟩) r.2.1 (cc r.1)) r.2.1 (r.2.2.map (cpV gg cc)) := fun r hr => by
    obtain ⟨p, hp, rfl⟩ := hrow r hr
    have h1 := h.cl p hp gg cc (by simpa using hA)
    rw [hcl p hp, half_all _ _ _ _ (by have := (h0.cells _ hr).1; simp only [Ent.row] at this; omega)] at h1
    obtain ⟨e1, e2⟩ := hA p.1 (List.mem_map_of_mem hp)
    simp only [Ent.row]
    rw [e1, e2]
    exact h1
  have hown := Src.copied gg cc t v R hs (fun r hr => hcp r (by rw [hR]; simp [hr])) c0 c1 c2 c3 hv
  have hx0 := hcp (b0, 1, cs0) (by rw [hR]; simp)
  obtain ⟨e1, e2⟩ := hA x hx
  rw [hxb] at e1
  simp only [e1] at hx0
  have hc : ∀ i, i < 4 → w.cell? ⟨x.g, i, none⟩ = (cs0.map (cpV gg cc))[i]? := fun i hi => hx0.cellAt i (by omega)
  have hgR : ∀ r ∈ R0, ∃ y ∈ C.map (·.1), gg r.1 = y.g ∧ y.b = r.1 := fun r hr => by
    obtain ⟨p, hp, rfl⟩ := hrow r hr
    exact ⟨p.1, List.mem_map_of_mem hp, (hA p.1 (List.mem_map_of_mem hp)).1, rfl⟩
  refine ⟨_, _, _, _, _, (hc 0 (by omega)).trans (by rw [hcs]; rfl), (hc 1 (by omega)).trans (by rw [hcs]; rfl), (hc 2 (by omega)).trans (by rw [hcs]; rfl), (hc 3 (by omega)).trans (by rw [hcs]; rfl), hown, fun f hf => ?_, ?_⟩
  · obtain ⟨r, hr, rfl⟩ := List.mem_map.1 hf
    obtain ⟨y, hy, e, _⟩ := hgR r (by rw [hR]; simp [hr])
    rw [e]
    exact h.gfr y (by simpa using hy)
  · have hg := h.gnd
    simp only [List.append_nil] at hg
    have hC : (C.map (·.1)).map (·.g) = (R0.map (fun r => gg r.1)).map id ∨ True := Or.inr trivial
    clear hC
    have hp2 : ((C.map (·.1)).map (·.g)).Perm (R0.map fun r => gg r.1) := by
      have := hperm.map (fun r : Row => gg r.1)
      rw [List.map_map] at this
      refine List.Perm.trans (List.Perm.of_eq ?_) this
      apply List.map_congr_left
      intro y hy
      exact (hA y hy).1.symm
    have := hp2.nodup_iff.1 hg
    rw [hR, List.map_cons, List.nodup_cons] at this
    exact this.2
end Go.Proofs.YtmhmlkdoaojimapGreatDoor

/- Which names are right. Plain. -/
namespace Go.Proofs.YtmhmlkdoaojimapGreatDoor
open Go.RowKit

def charOk (c : UInt8) : Bool := !(decide (c.toNat < 33) || decide (126 < c.toNat) || decide (c.toNat = 39) || decide (c.toNat = 34))
def nameOk (s : ByteArray) : Bool := s.data.toList.all charOk && decide (1 ≤ s.size ∧ s.size ≤ 20)

theorem take_at (s : ByteArray) (k : Nat) (h : k < s.size) : s.data.toList.take (k + 1) = s.data.toList.take k ++ [s[k]] := by
  rw [List.take_succ_eq_append_getElem (by simpa using h)]; rfl
theorem mem_s (s : ByteArray) (k : Nat) (h : k < s.size) : s[k] ∈ s.data.toList := by
  show s.data[k] ∈ s.data.toList
  simp

end Go.Proofs.YtmhmlkdoaojimapGreatDoor

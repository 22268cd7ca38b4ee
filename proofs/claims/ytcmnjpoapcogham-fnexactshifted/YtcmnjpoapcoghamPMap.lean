/- Keys that are places: two addresses and a number, told apart in a map. -/
import Derived.Test.YtcmnjpoapcoghamRows
import Derived.Test.YtcmnjpoapcoghamMrg2
import Derived.LaidEql
import Derived.MapKept
import Derived.ProofKit
namespace Go.Proofs.Ytcmnjpoapcogham
open Go.RowKit

def pk (a : Addr) (b : Option Addr) (n : Int) : Value := .agg #[.pointer (some a), .pointer b, .int .i64 n]
/-- the block of a is one of cells, none of them frozen -/
def PB (w : World) (a : Addr) : Prop := ∃ cur T, w.heap[a.block]? = some (.cells cur T (0, 0))

theorem same_addr (w : World) (a b : Addr) (ha : PB w a) (hb : PB w b) : (sameAddr a b).run Try.prog w = .ok (decide (a = b)) w := by
  by_cases h : a = b
  · subst h
    rw [run_sameAddr_same, decide_eq_true rfl]
  · obtain ⟨c, t, h1⟩ := ha
    obtain ⟨c', t', h2⟩ := hb
    rw [run_sameAddr_other w h h1 h2, decide_eq_false h]

theorem held72 : Try.prog.stoodInHeld 112 = false := by kernel_rfl

theorem eq_ptr (d : Nat) (w : World) (a b : Addr) (ha : PB w a) (hb : PB w b) : (Op.equalIn (d + 1) 61 (.pointer (some a)) (.pointer (some b))).run Try.prog w = .ok (decide (a = b)) w := by
  have h : (sizeOf 28).run Try.prog w = .ok 4 w := by kernel_rfl
  simp [Op.equalIn, run_underlying Try.underlying61, h, same_addr w a b ha hb]

theorem eq_int (d : Nat) (w : World) (n n' : Int) : (Op.equalIn (d + 1) 3 (.int .i64 n) (.int .i64 n')).run Try.prog w = .ok (n == n') w := by
  simp [Op.equalIn, run_underlying Try.underlying3]

theorem isAggP (w : World) : (isAgg 61).run Try.prog w = .ok false w := by kernel_rfl
theorem isAggI (w : World) : (isAgg 3).run Try.prog w = .ok false w := by kernel_rfl

set_option linter.unusedSimpArgs false in
theorem eq_key_in (d : Nat) (w : World) (a a' : Addr) (b b' : Addr) (n n' : Int) (h1 : PB w a) (h2 : PB w a') (h3 : PB w b) (h4 : PB w b') :
    (Op.equalIn (d + 2) 112 (pk a (some b) n) (pk a' (some b') n')).run Try.prog w = .ok (decide (a = a' ∧ b = b' ∧ n = n')) w := by
  have e1 := eq_ptr d w a a' h1 h2
  have e2 := eq_ptr d w b b' h3 h4
  have e3 := eq_int d w n n'
  unfold pk
  rw [Op.equalIn]
  by_cases q1 : a = a'
  · subst q1
    rw [decide_eq_true rfl] at e1
    by_cases q2 : b = b'
    · subst q2
      rw [decide_eq_true rfl] at e2
      by_cases q3 : n = n'
      · subst q3
        simp [run_underlying Try.underlying112, held72, part, isAggP, isAggI, e1, e2, e3]
      · simp [run_underlying Try.underlying112, held72, part, isAggP, isAggI, e1, e2, e3, q3]
    · simp [run_underlying Try.underlying112, held72, part, isAggP, isAggI, e1, e2, e3, q2]
  · simp [run_underlying Try.underlying112, held72, part, isAggP, isAggI, e1, e2, e3, q1]

theorem eq_key (w : World) (a a' : Addr) (b b' : Addr) (n n' : Int) (h1 : PB w a) (h2 : PB w a') (h3 : PB w b) (h4 : PB w b') :
    (Op.equal 112 (pk a (some b) n) (pk a' (some b') n')).run Try.prog w = .ok (decide (a = a' ∧ b = b' ∧ n = n')) w :=
  eq_key_in 9998 w a a' b b' n n' h1 h2 h3 h4

/-- the entries of a map, each of them a place of the list S -/
def PEs (es : List MapEntry) (S : List (Addr × Addr × Int)) : Prop :=
  ∀ e ∈ es, ∃ a b n, e.key = pk a (some b) n ∧ e.val = .agg #[] ∧ (a, b, n) ∈ S
def SPB (w : World) (S : List (Addr × Addr × Int)) : Prop := ∀ x ∈ S, PB w x.1 ∧ PB w x.2.1

theorem ask (a b : Addr) (n : Int) (S : List (Addr × Addr × Int)) : ∀ (es : List MapEntry) (i : Nat), PEs es S →
    ∃ r, (∀ w, PB w a → PB w b → SPB w S → (Instr.findAsking 112 (pk a (some b) n) es i).run Try.prog w = .ok r w) ∧ (∀ j v, r = some (j, v) → i ≤ j ∧ (∃ e, es[j - i]? = some e ∧ e.key = pk a (some b) n) ∧ v = .agg #[] ∧ (a, b, n) ∈ S)
  | [], i, _ => ⟨none, fun w _ _ _ => by simp [Instr.findAsking], fun j v h => by cases h⟩
  | e :: es, i, h => by
    obtain ⟨a', b', n', hk, hv, hm⟩ := h e (by simp)
    have q := fun w (ha : PB w a) (hb : PB w b) (hS : SPB w S) => eq_key w a a' b b' n n' ha (hS _ hm).1 hb (hS _ hm).2
    rw [← hk] at q
    by_cases hq : a = a' ∧ b = b' ∧ n = n'
    · rw [decide_eq_true hq] at q
      obtain ⟨rfl, rfl, rfl⟩ := hq
      refine ⟨some (i, .agg #[]), fun w ha hb hS => by simp [Instr.findAsking, q w ha hb hS, hv], fun j v hj => ?_⟩
      cases hj
      exact ⟨Nat.le_refl _, ⟨e, by simp, hk⟩, rfl, hm⟩
    · rw [decide_eq_false hq] at q
      obtain ⟨r, hr, hp⟩ := ask a b n S es (i + 1) (fun e' he' => h e' (by simp [he']))
      refine ⟨r, fun w ha hb hS => by simp [Instr.findAsking, q w ha hb hS, hr w ha hb hS], fun j v hj => ?_⟩
      obtain ⟨h5, ⟨e', h6, h7⟩, h8⟩ := hp j v hj
      refine ⟨by omega, ⟨e', ?_, h7⟩, h8⟩
      rw [show j - i = (j - (i + 1)) + 1 by omega]
      simpa using h6

theorem find (a b : Addr) (n : Int) (S : List (Addr × Addr × Int)) (es : List MapEntry) (h : PEs es S) :
    ∃ r, (∀ w, PB w a → PB w b → SPB w S → (Instr.findKey 112 (pk a (some b) n) es).run Try.prog w = .ok r w) ∧ (∀ j v, r = some (j, v) → (∃ e, es[j]? = some e ∧ e.key = pk a (some b) n) ∧ v = .agg #[] ∧ (a, b, n) ∈ S) := by
  cases es with
  | nil => exact ⟨none, fun w _ _ _ => by simp [Instr.findKey, run_underlying Try.underlying112, Instr.findNow], fun j v h => by cases h⟩
  | cons e es =>
    obtain ⟨r, hr, hp⟩ := ask a b n S (e :: es) 0 h
    refine ⟨r, fun w ha hb hS => ?_, fun j v hj => ?_⟩
    · simp only [Instr.findKey]
      simp [run_underlying Try.underlying112, Instr.findNow, Instr.sameNow, pk]
      exact hr w ha hb hS
    · obtain ⟨_, h2, h3⟩ := hp j v hj
      exact ⟨by simpa using h2, h3⟩

set_option linter.unusedSimpArgs false in
theorem chk (d : Nat) (em : Bool) (w : World) (a b : Addr) (n : Int) : (Instr.checkKey em (d + 2) 112 (pk a (some b) n)).run Try.prog w = .ok () w := by
  have e1 : ∀ x, (Instr.checkKey em (d + 1) 61 (.pointer (some x))).run Try.prog w = .ok () w := fun x => by simp [Instr.checkKey, run_underlying Try.underlying61]
  have e2 : (Instr.checkKey em (d + 1) 3 (.int .i64 n)).run Try.prog w = .ok () w := by simp [Instr.checkKey, run_underlying Try.underlying3]
  unfold pk
  rw [Instr.checkKey]
  simp [run_underlying Try.underlying112, part, isAggP, isAggI, e1, e2]

/-- block m is a map whose keys are places of S -/
def PMapAt (w : World) (m : Nat) (S : List (Addr × Addr × Int)) : Prop := ∃ es clock, w.heap[m]? = some (.map es clock) ∧ PEs es.toList S

theorem pmap_look (w0 : World) (m : Nat) (S : List (Addr × Addr × Int)) (h : PMapAt w0 m S) (a b : Addr) (n : Int) :
    ∃ ok : Bool, (∀ w, w.heap[m]? = w0.heap[m]? → PB w a → PB w b → SPB w S → (Instr.lookup 106 (.map (some m)) (pk a (some b) n) true).run Try.prog w = .ok (.tuple #[.agg #[], .bool ok]) w) ∧ (ok = true → (a, b, n) ∈ S) := by
  obtain ⟨es, clock, h1, h2⟩ := h
  obtain ⟨r, hr, hp⟩ := find a b n S _ h2
  cases r with
  | none =>
    refine ⟨false, fun w he ha hb hS => ?_, by simp⟩
    have hc := chk 9998 es.isEmpty w a b n
    simp [Instr.lookup, run_underlying Try.underlying106, MapKept.run_getObj_map (he.trans h1), hc, hr w ha hb hS]
  | some p =>
    obtain ⟨j, v⟩ := p
    obtain ⟨_, rfl, hm⟩ := hp j v rfl
    refine ⟨true, fun w he ha hb hS => ?_, fun _ => hm⟩
    have hc := chk 9998 es.isEmpty w a b n
    simp [Instr.lookup, run_underlying Try.underlying106, MapKept.run_getObj_map (he.trans h1), hc, hr w ha hb hS]

theorem bits_pk (d : Nat) (a b : Addr) (n : Int) : Instr.sameBits (d + 1) (pk a (some b) n) (pk a (some b) n) = true := by
  simp [Instr.sameBits, pk]

/-- a world but for one block -/
def setB (w : World) (m : Nat) (o : Obj) : World := { w with heap := w.heap.setIfInBounds m o }

theorem setB_at {w : World} {m : Nat} {o o' : Obj} (h : w.heap[m]? = some o') : (setB w m o).heap[m]? = some o := by
  have := (Array.getElem?_eq_some_iff.1 h).1
  simp [setB, this]
theorem setB_other {w : World} {m k : Nat} {o : Obj} (h : k ≠ m) : (setB w m o).heap[k]? = w.heap[k]? := by
  simp [setB, Ne.symm h]
theorem PEs.mono {es : List MapEntry} {S S' : List (Addr × Addr × Int)} (h : PEs es S) (hS : ∀ x ∈ S, x ∈ S') : PEs es S' := fun e he => by
  obtain ⟨a, b, n, h1, h2, h5⟩ := h e he
  exact ⟨a, b, n, h1, h2, hS _ h5⟩

theorem pmap_put (w : World) (m : Nat) (S : List (Addr × Addr × Int)) (h : PMapAt w m S) (a b : Addr) (n : Int) (ha : PB w a) (hb : PB w b) (hS : SPB w S) :
    ∃ o, (Instr.mapUpdate 106 (.map (some m)) (pk a (some b) n) (.agg #[])).run Try.prog w = .ok () (setB w m o) ∧ PMapAt (setB w m o) m ((a, b, n) :: S) := by
  obtain ⟨es, clock, h1, h2⟩ := h
  obtain ⟨r, hr', hp⟩ := find a b n S _ h2
  have hr := hr' w ha hb hS
  have hc := chk 9998 false w a b n
  cases r with
  | none =>
    refine ⟨.map (es.push { key := pk a (some b) n, val := .agg #[], born := clock }) (clock + 1), ?_, _, _, setB_at h1, ?_⟩
    · simp [Instr.mapUpdate, run_underlying Try.underlying106, MapKept.run_getObj_map h1, hc, hr, MapKept.run_setObj_map _ h1, setB]
    · rw [Array.toList_push]
      intro e he
      rcases List.mem_append.1 he with he | he
      · exact PEs.mono h2 (fun x hx => by simp [hx]) e he
      · rw [List.mem_singleton] at he
        subst he
        exact ⟨a, b, n, rfl, rfl, by simp⟩
  | some p =>
    obtain ⟨j, v⟩ := p
    obtain ⟨⟨e, he, hk⟩, rfl, hm⟩ := hp j v rfl
    have he' : es[j]? = some e := by simpa using he
    have hbt := bits_pk 9999 a b n
    refine ⟨.map (es.modify j fun e => { e with key := pk a (some b) n, val := .agg #[] }) clock, ?_, _, _, setB_at h1, ?_⟩
    · simp [Instr.mapUpdate, run_underlying Try.underlying106, MapKept.run_getObj_map h1, hc, hr, he', hk, Instr.keyThatStays, hbt, MapKept.run_setObj_map _ h1, setB]
    · intro x hx
      rw [List.mem_iff_getElem?] at hx
      obtain ⟨i, hi⟩ := hx
      rw [Array.getElem?_toList, Array.getElem?_modify] at hi
      split at hi
      · cases hes : es[i]? with
        | none => rw [hes] at hi; cases hi
        | some y =>
          rw [hes] at hi
          cases hi
          exact ⟨a, b, n, rfl, rfl, by simp⟩
      · have hx2 : x ∈ es.toList := by rw [List.mem_iff_getElem?]; exact ⟨i, by simpa using hi⟩
        exact PEs.mono h2 (fun y hy => by simp [hy]) x hx2
end Go.Proofs.Ytcmnjpoapcogham

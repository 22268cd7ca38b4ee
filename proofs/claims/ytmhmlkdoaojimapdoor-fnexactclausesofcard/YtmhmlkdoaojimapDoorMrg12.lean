/- Four texts in one. -/
import Derived.Test.YtmhmlkdoaojimapDoorRows
import Derived.WalkKit
import Derived.ProofKit
import Derived.Test.YtmhmlkdoaojimapDoorMrg1
import Derived.LaidEql
import Derived.MapKept
/- A slice of terms takes one cell. -/
namespace Go.Proofs.YtmhmlkdoaojimapDoor
open Go.RowKit

theorem infoSl : (Tryd.prog.info? 44).map (fun i => (i.zero, i.size, i.bytes)) = some (some (.slice none 0 0), 1, 24) := by kernel_rfl
end Go.Proofs.YtmhmlkdoaojimapDoor

/- Keys that are places: two addresses and a number; a world but for one block. -/
namespace Go.Proofs.YtmhmlkdoaojimapDoor
open Go.RowKit

def pk (a : Addr) (b : Option Addr) (n : Int) : Value := .agg #[.pointer (some a), .pointer b, .int .i64 n]
/-- the block of a is one of cells, none of them frozen -/
def PB (w : World) (a : Addr) : Prop := ∃ cur T, w.heap[a.block]? = some (.cells cur T (0, 0))

theorem same_addr (w : World) (a b : Addr) (ha : PB w a) (hb : PB w b) : (sameAddr a b).run Tryd.prog w = .ok (decide (a = b)) w := by
  by_cases h : a = b
  · subst h
    rw [run_sameAddr_same, decide_eq_true rfl]
  · obtain ⟨c, t, h1⟩ := ha
    obtain ⟨c', t', h2⟩ := hb
    rw [run_sameAddr_other w h h1 h2, decide_eq_false h]

theorem held72 : Tryd.prog.stoodInHeld 139 = false := by kernel_rfl

theorem eq_ptr (d : Nat) (w : World) (a b : Addr) (ha : PB w a) (hb : PB w b) : (Op.equalIn (d + 1) 137 (.pointer (some a)) (.pointer (some b))).run Tryd.prog w = .ok (decide (a = b)) w := by
  have h : (sizeOf 46).run Tryd.prog w = .ok 4 w := by kernel_rfl
  simp [Op.equalIn, run_underlying Tryd.underlying137, h, same_addr w a b ha hb]

theorem isAggP (w : World) : (isAgg 137).run Tryd.prog w = .ok false w := by kernel_rfl
theorem isAggI (w : World) : (isAgg 3).run Tryd.prog w = .ok false w := by kernel_rfl

/-- a world but for one block -/
def setB (w : World) (m : Nat) (o : Obj) : World := { w with heap := w.heap.setIfInBounds m o }

theorem setB_at {w : World} {m : Nat} {o o' : Obj} (h : w.heap[m]? = some o') : (setB w m o).heap[m]? = some o := by
  have := (Array.getElem?_eq_some_iff.1 h).1
  simp [setB, this]
theorem setB_other {w : World} {m k : Nat} {o : Obj} (h : k ≠ m) : (setB w m o).heap[k]? = w.heap[k]? := by
  simp [setB, Ne.symm h]
end Go.Proofs.YtmhmlkdoaojimapDoor

/- Keys that are places of one list (an address, nothing, a number), asked for places that are not there. -/
namespace Go.Proofs.YtmhmlkdoaojimapDoor
open Go.RowKit

set_option linter.unusedSimpArgs false in
theorem ckey_in (d : Nat) (w : World) (a a' : Addr) (n n' : Int) (h : a ≠ a') (h1 : PB w a) (h2 : PB w a') :
    (Op.equalIn (d + 2) 139 (pk a none n) (pk a' none n')).run Tryd.prog w = .ok false w := by
  have e1 := eq_ptr d w a a' h1 h2
  rw [decide_eq_false h] at e1
  unfold pk
  rw [Op.equalIn]
  simp [run_underlying Tryd.underlying139, held72, part, isAggP, isAggI, e1]

theorem ckey (w : World) (a a' : Addr) (n n' : Int) (h : a ≠ a') (h1 : PB w a) (h2 : PB w a') :
    (Op.equal 139 (pk a none n) (pk a' none n')).run Tryd.prog w = .ok false w := ckey_in 9998 w a a' n n' h h1 h2

/-- the entries' keys are places in blocks of D -/
def CEs (es : List MapEntry) (D : List Nat) : Prop := ∀ e ∈ es, ∃ a n, e.key = pk a none n ∧ a.block ∈ D
def DPB (w : World) (D : List Nat) : Prop := ∀ f ∈ D, ∃ cur T, w.heap[f]? = some (.cells cur T (0, 0))

theorem cask (a : Addr) (n : Int) (D : List Nat) (hD : a.block ∉ D) : ∀ (es : List MapEntry) (i : Nat), CEs es D →
    ∀ w, PB w a → DPB w D → (Instr.findAsking 139 (pk a none n) es i).run Tryd.prog w = .ok none w
  | [], i, _, w, _, _ => by simp [Instr.findAsking]
  | e :: es, i, h, w, ha, hS => by
    obtain ⟨a', n', hk, hm⟩ := h e (by simp)
    have q := ckey w a a' n n' (fun e => hD (by rw [e]; exact hm)) ha (hS _ hm)
    rw [← hk] at q
    have := cask a n D hD es (i + 1) (fun e' he' => h e' (by simp [he'])) w ha hS
    simp [Instr.findAsking, q, this]

theorem cfind (a : Addr) (n : Int) (D : List Nat) (hD : a.block ∉ D) (es : List MapEntry) (h : CEs es D) (w : World) (ha : PB w a) (hS : DPB w D) :
    (Instr.findKey 139 (pk a none n) es).run Tryd.prog w = .ok none w := by
  cases es with
  | nil => simp [Instr.findKey, run_underlying Tryd.underlying139, Instr.findNow]
  | cons e es =>
    have := cask a n D hD (e :: es) 0 h w ha hS
    simp only [Instr.findKey]
    simp [run_underlying Tryd.underlying139, Instr.findNow, Instr.sameNow, pk]
    exact this

set_option linter.unusedSimpArgs false in
theorem cchk (d : Nat) (em : Bool) (w : World) (a : Addr) (n : Int) : (Instr.checkKey em (d + 2) 139 (pk a none n)).run Tryd.prog w = .ok () w := by
  have e1 : ∀ x, (Instr.checkKey em (d + 1) 137 (.pointer x)).run Tryd.prog w = .ok () w := fun x => by simp [Instr.checkKey, run_underlying Tryd.underlying137]
  have e2 : (Instr.checkKey em (d + 1) 3 (.int .i64 n)).run Tryd.prog w = .ok () w := by simp [Instr.checkKey, run_underlying Tryd.underlying3]
  unfold pk
  rw [Instr.checkKey]
  simp [run_underlying Tryd.underlying139, part, isAggP, isAggI, e1, e2]

def CMapAt (w : World) (m : Nat) (D : List Nat) : Prop := ∃ es clock, w.heap[m]? = some (.map es clock) ∧ CEs es.toList D

end Go.Proofs.YtmhmlkdoaojimapDoor

/- A map keyed by places of one list (an address, nothing, a number), asked for places that it has not. -/
namespace Go.Proofs.YtmhmlkdoaojimapDoor
open Go.RowKit

theorem cmap_look (w : World) (m : Nat) (D : List Nat) (h : CMapAt w m D) (a : Addr) (n : Int) (hD : a.block ∉ D) (ha : PB w a) (hS : DPB w D) :
    (Instr.lookup 92 (.map (some m)) (pk a none n) true).run Tryd.prog w = .ok (.tuple #[.slice none 0 0, .bool false]) w := by
  obtain ⟨es, clock, h1, h2⟩ := h
  have hr := cfind a n D hD _ h2 w ha hS
  have hc := cchk 9998 es.isEmpty w a n
  simp [Instr.lookup, run_underlying Tryd.underlying92, MapKept.run_getObj_map h1, hc, hr]

theorem cmap_put (w : World) (m : Nat) (D : List Nat) (h : CMapAt w m D) (a : Addr) (n : Int) (v : Value) (hD : a.block ∉ D) (ha : PB w a) (hS : DPB w D) :
    ∃ o, (Instr.mapUpdate 92 (.map (some m)) (pk a none n) v).run Tryd.prog w = .ok () (setB w m o) ∧ CMapAt (setB w m o) m (a.block :: D) := by
  obtain ⟨es, clock, h1, h2⟩ := h
  have hr := cfind a n D hD _ h2 w ha hS
  have hc := cchk 9998 false w a n
  refine ⟨.map (es.push { key := pk a none n, val := v, born := clock }) (clock + 1), ?_, _, _, setB_at h1, ?_⟩
  · simp [Instr.mapUpdate, run_underlying Tryd.underlying92, MapKept.run_getObj_map h1, hc, hr, MapKept.run_setObj_map _ h1, setB]
  · rw [Array.toList_push]
    intro e he
    rcases List.mem_append.1 he with he | he
    · obtain ⟨a', n', q1, q2⟩ := h2 e he
      exact ⟨a', n', q1, by simp [q2]⟩
    · rw [List.mem_singleton] at he
      subst he
      exact ⟨a, n, rfl, by simp⟩
end Go.Proofs.YtmhmlkdoaojimapDoor

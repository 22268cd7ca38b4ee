/- Four texts in one. -/
import Derived.Test.YtmhmlkdoaojimapGreatDoorRows
import Derived.Test.YtmhmlkdoaojimapGreatDoorMrg1
import Derived.LaidEql
import Derived.MapKept
import Derived.ProofKit
import Derived.Shelf.Strconv.Itoa0
import Derived.Shelf.Strconv.Itoa1
import Derived.Shelf.LaysM
import Derived.Shelf.Strconv.Itoa2
import Derived.Shelf.Strconv.Itoa3
import Derived.Shelf.Strconv.Clone
import Derived.Test.YtmhmlkdoaojimapGreatDoorProg
/- Keys that are places: two addresses and a number; a world but for one block. -/
namespace Go.Proofs.YtmhmlkdoaojimapGreatDoor
open Go.RowKit

def pk (a : Addr) (b : Option Addr) (n : Int) : Value := .agg #[.pointer (some a), .pointer b, .int .i64 n]
/-- the block of a is one of cells, none of them frozen -/
def PB (w : World) (a : Addr) : Prop := ∃ cur T, w.heap[a.block]? = some (.cells cur T (0, 0))

theorem same_addr (w : World) (a b : Addr) (ha : PB w a) (hb : PB w b) : (sameAddr a b).run Tryz.prog w = .ok (decide (a = b)) w := by
  by_cases h : a = b
  · subst h
    rw [run_sameAddr_same, decide_eq_true rfl]
  · obtain ⟨c, t, h1⟩ := ha
    obtain ⟨c', t', h2⟩ := hb
    rw [run_sameAddr_other w h h1 h2, decide_eq_false h]

theorem held72 : Tryz.prog.stoodInHeld 114 = false := by kernel_rfl

theorem eq_ptr (d : Nat) (w : World) (a b : Addr) (ha : PB w a) (hb : PB w b) : (Op.equalIn (d + 1) 112 (.pointer (some a)) (.pointer (some b))).run Tryz.prog w = .ok (decide (a = b)) w := by
  have h : (sizeOf 41).run Tryz.prog w = .ok 4 w := by kernel_rfl
  simp [Op.equalIn, run_underlying Tryz.underlying112, h, same_addr w a b ha hb]

theorem isAggP (w : World) : (isAgg 112).run Tryz.prog w = .ok false w := by kernel_rfl
theorem isAggI (w : World) : (isAgg 3).run Tryz.prog w = .ok false w := by kernel_rfl

/-- a world but for one block -/
def setB (w : World) (m : Nat) (o : Obj) : World := { w with heap := w.heap.setIfInBounds m o }

theorem setB_at {w : World} {m : Nat} {o o' : Obj} (h : w.heap[m]? = some o') : (setB w m o).heap[m]? = some o := by
  have := (Array.getElem?_eq_some_iff.1 h).1
  simp [setB, this]
theorem setB_other {w : World} {m k : Nat} {o : Obj} (h : k ≠ m) : (setB w m o).heap[k]? = w.heap[k]? := by
  simp [setB, Ne.symm h]
end Go.Proofs.YtmhmlkdoaojimapGreatDoor

/- Keys that are places of one list (an address, nothing, a number), asked for places that are not there. -/
namespace Go.Proofs.YtmhmlkdoaojimapGreatDoor
open Go.RowKit

set_option linter.unusedSimpArgs false in
theorem ckey_in (d : Nat) (w : World) (a a' : Addr) (n n' : Int) (h : a ≠ a') (h1 : PB w a) (h2 : PB w a') :
    (Op.equalIn (d + 2) 114 (pk a none n) (pk a' none n')).run Tryz.prog w = .ok false w := by
  have e1 := eq_ptr d w a a' h1 h2
  rw [decide_eq_false h] at e1
  unfold pk
  rw [Op.equalIn]
  simp [run_underlying Tryz.underlying114, held72, part, isAggP, isAggI, e1]

theorem ckey (w : World) (a a' : Addr) (n n' : Int) (h : a ≠ a') (h1 : PB w a) (h2 : PB w a') :
    (Op.equal 114 (pk a none n) (pk a' none n')).run Tryz.prog w = .ok false w := ckey_in 9998 w a a' n n' h h1 h2

/-- the entries' keys are places in blocks of D -/
def CEs (es : List MapEntry) (D : List Nat) : Prop := ∀ e ∈ es, ∃ a n, e.key = pk a none n ∧ a.block ∈ D
def DPB (w : World) (D : List Nat) : Prop := ∀ f ∈ D, ∃ cur T, w.heap[f]? = some (.cells cur T (0, 0))

theorem cask (a : Addr) (n : Int) (D : List Nat) (hD : a.block ∉ D) : ∀ (es : List MapEntry) (i : Nat), CEs es D →
    ∀ w, PB w a → DPB w D → (Instr.findAsking 114 (pk a none n) es i).run Tryz.prog w = .ok none w
  | [], i, _, w, _, _ => by simp [Instr.findAsking]
  | e :: es, i, h, w, ha, hS => by
    obtain ⟨a', n', hk, hm⟩ := h e (by simp)
    have q := ckey w a a' n n' (fun e => hD (by rw [e]; exact hm)) ha (hS _ hm)
    rw [← hk] at q
    have := cask a n D hD es (i + 1) (fun e' he' => h e' (by simp [he'])) w ha hS
    simp [Instr.findAsking, q, this]

theorem cfind (a : Addr) (n : Int) (D : List Nat) (hD : a.block ∉ D) (es : List MapEntry) (h : CEs es D) (w : World) (ha : PB w a) (hS : DPB w D) :
    (Instr.findKey 114 (pk a none n) es).run Tryz.prog w = .ok none w := by
  cases es with
  | nil => simp [Instr.findKey, run_underlying Tryz.underlying114, Instr.findNow]
  | cons e es =>
    have := cask a n D hD (e :: es) 0 h w ha hS
    simp only [Instr.findKey]
    simp [run_underlying Tryz.underlying114, Instr.findNow, Instr.sameNow, pk]
    exact this

set_option linter.unusedSimpArgs false in
theorem cchk (d : Nat) (em : Bool) (w : World) (a : Addr) (n : Int) : (Instr.checkKey em (d + 2) 114 (pk a none n)).run Tryz.prog w = .ok () w := by
  have e1 : ∀ x, (Instr.checkKey em (d + 1) 112 (.pointer x)).run Tryz.prog w = .ok () w := fun x => by simp [Instr.checkKey, run_underlying Tryz.underlying112]
  have e2 : (Instr.checkKey em (d + 1) 3 (.int .i64 n)).run Tryz.prog w = .ok () w := by simp [Instr.checkKey, run_underlying Tryz.underlying3]
  unfold pk
  rw [Instr.checkKey]
  simp [run_underlying Tryz.underlying114, part, isAggP, isAggI, e1, e2]

def CMapAt (w : World) (m : Nat) (D : List Nat) : Prop := ∃ es clock, w.heap[m]? = some (.map es clock) ∧ CEs es.toList D

end Go.Proofs.YtmhmlkdoaojimapGreatDoor

/- A map keyed by places of one list (an address, nothing, a number), asked for places that it has not. -/
namespace Go.Proofs.YtmhmlkdoaojimapGreatDoor
open Go.RowKit

theorem cmap_look (w : World) (m : Nat) (D : List Nat) (h : CMapAt w m D) (a : Addr) (n : Int) (hD : a.block ∉ D) (ha : PB w a) (hS : DPB w D) :
    (Instr.lookup 86 (.map (some m)) (pk a none n) true).run Tryz.prog w = .ok (.tuple #[.slice none 0 0, .bool false]) w := by
  obtain ⟨es, clock, h1, h2⟩ := h
  have hr := cfind a n D hD _ h2 w ha hS
  have hc := cchk 9998 es.isEmpty w a n
  simp [Instr.lookup, run_underlying Tryz.underlying86, MapKept.run_getObj_map h1, hc, hr]

theorem cmap_put (w : World) (m : Nat) (D : List Nat) (h : CMapAt w m D) (a : Addr) (n : Int) (v : Value) (hD : a.block ∉ D) (ha : PB w a) (hS : DPB w D) :
    ∃ o, (Instr.mapUpdate 86 (.map (some m)) (pk a none n) v).run Tryz.prog w = .ok () (setB w m o) ∧ CMapAt (setB w m o) m (a.block :: D) := by
  obtain ⟨es, clock, h1, h2⟩ := h
  have hr := cfind a n D hD _ h2 w ha hS
  have hc := cchk 9998 false w a n
  refine ⟨.map (es.push { key := pk a none n, val := v, born := clock }) (clock + 1), ?_, _, _, setB_at h1, ?_⟩
  · simp [Instr.mapUpdate, run_underlying Tryz.underlying86, MapKept.run_getObj_map h1, hc, hr, MapKept.run_setObj_map _ h1, setB]
  · rw [Array.toList_push]
    intro e he
    rcases List.mem_append.1 he with he | he
    · obtain ⟨a', n', q1, q2⟩ := h2 e he
      exact ⟨a', n', q1, by simp [q2]⟩
    · rw [List.mem_singleton] at he
      subst he
      exact ⟨a, n, rfl, by simp⟩
end Go.Proofs.YtmhmlkdoaojimapGreatDoor

/- The library contracts that are proved once over any program, at this translation: no walk, one application each. -/
namespace Go.Proofs.YtmhmlkdoaojimapGreatDoor
open Go.Proofs
open Go.Shelf
def sh_laysM316_ren : Go.Shelf.Ren := ⟨fun | 316 => 56 | n => n, fun | 9 => 9 | 3 => 3 | 4 => 4 | 37 => 90 | 0 => 0 | 127 => 94 | 5 => 5 | n => n, fun | n => n⟩
theorem sh_laysM316 : Go.Proofs.LaysM.n316 Tryz.prog sh_laysM316_ren := {
  mixed := by kernel_rfl
  f316 := Tryz.func56.trans (congrArg some (by kernel_rfl))
  t0 := Tryz.underlying0
  a0 := Tryz.isAgg0
  z0 := Tryz.sizeOf0
  v0 := Tryz.zeroValue0
  t3 := Tryz.underlying3
  a3 := Tryz.isAgg3
  z3 := Tryz.sizeOf3
  v3 := Tryz.zeroValue3
  t4 := Tryz.underlying4
  a4 := Tryz.isAgg4
  z4 := Tryz.sizeOf4
  v4 := Tryz.zeroValue4
  t9 := Tryz.underlying9
  a9 := Tryz.isAgg9
  z9 := Tryz.sizeOf9
  v9 := Tryz.zeroValue9
  t37 := Tryz.underlying90
  a37 := Tryz.isAgg90
  z37 := Tryz.sizeOf90
  v37 := Tryz.zeroValue90
  t127 := Tryz.underlying94
  a127 := Tryz.isAgg94
  z127 := Tryz.sizeOf94
  v127 := Tryz.zeroValue94
  t5 := Tryz.underlying5
  a5 := Tryz.isAgg5
  z5 := Tryz.sizeOf5
  v5 := Tryz.zeroValue5
  i0 := by kernel_rfl
  i3 := by kernel_rfl
  i4 := by kernel_rfl
  i5 := by kernel_rfl
  i9 := by kernel_rfl
  i37 := by kernel_rfl
  i127 := by kernel_rfl }
open Go.RowKit in
theorem sh_stringslite_Clone (s : ByteArray) (w : World) (hlim : s.size ≤ 281474976710656) :
    Calls Tryz.prog 56 #[.string s] w fun e w' => e = .returned (.string s) ∧ Below w.heap.size w w' := Any.stringslite_Clone sh_laysM316 s w hlim
end Go.Proofs.YtmhmlkdoaojimapGreatDoor

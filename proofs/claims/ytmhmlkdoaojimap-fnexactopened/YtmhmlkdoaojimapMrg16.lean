/- Four texts in one. -/
import Derived.Test.YtmhmlkdoaojimapMrg2
import Derived.Test.YtmhmlkdoaojimapRows
import Derived.WalkKit
import Derived.ProofKit
import Derived.LaidEql
import Derived.MapKept
/- Rows in blocks of their own: a cell set, a block kept. Of no program. -/
namespace Go.Proofs.Ytmhmlkdoaojimap
open Go.RowKit

theorem row_set {w : World} {e size n g cap i : Nat} {cs : List Value} {v : Value} (h : w.ownsRow 0 e size (.slice (some ⟨g, 0, none⟩) n cap) n cs) : (w.setCell ⟨g, i, none⟩ v).ownsRow 0 e size (.slice (some ⟨g, 0, none⟩) n cap) n (cs.set i v) := by
  refine ⟨by rw [List.length_set]; exact h.1, ?_⟩
  rcases h.2 with ⟨h, _⟩ | ⟨g', cap', cur, h1, h2, h3, h4, h5, h6, h7⟩
  · cases h
  · cases h1
    refine Or.inr ⟨g, cap, cur.setIfInBounds i v, rfl, h2, blk_set h3 v, h4, h5, by simpa using h6, ?_⟩
    rw [Array.toList_setIfInBounds, List.take_set, h7]
theorem row_set_same {w : World} {e size n g cap i : Nat} {cs : List Value} {v : Value} (h : w.ownsRow 0 e size (.slice (some ⟨g, 0, none⟩) n cap) n cs) (hi : cs[i]? = some v) : (w.setCell ⟨g, i, none⟩ v).ownsRow 0 e size (.slice (some ⟨g, 0, none⟩) n cap) n cs := by
  have := row_set (i := i) (v := v) h
  obtain ⟨h1, rfl⟩ := List.getElem?_eq_some_iff.1 hi
  rwa [List.set_getElem_self h1] at this
theorem row_lt0 {w : World} {e size n : Nat} {v : Value} {xs : List Value} (h : w.ownsRow 0 e size v n xs) {b : Nat} (hb : v.ownBlock = some b) : b < w.heap.size := by
  rcases h.2 with ⟨rfl, _⟩ | ⟨b', cap, cur, rfl, h1, h2, h3⟩
  · cases hb
  · cases hb; exact (Array.getElem?_eq_some_iff.1 h2).1
theorem row_frozen {w : World} {e size n g cap : Nat} {cs : List Value} (h : w.ownsRow 0 e size (.slice (some ⟨g, 0, none⟩) n cap) n cs) (i : Nat) : w.frozen? ⟨g, i, none⟩ = false := by
  rcases h.2 with ⟨h, _⟩ | ⟨g', cap', cur, h1, h2, h3, _⟩
  · cases h
  · cases h1; exact blk_frozen h3 i

theorem row_turn0 {w w' : World} {e size n : Nat} {v : Value} {xs : List Value} (h : w.ownsRow 0 e size v n xs) (hb : ∀ b, v.ownBlock = some b → w'.heap[b]? = w.heap[b]?) : w'.ownsRow 0 e size v n xs := by
  refine ⟨h.1, ?_⟩
  rcases h.2 with hn | ⟨b, cap, cur, e, h1, h2, h3⟩
  · exact Or.inl hn
  · exact Or.inr ⟨b, cap, cur, e, h1, (hb b (by rw [e]; rfl)).trans h2, h3⟩
end Go.Proofs.Ytmhmlkdoaojimap

/- A slice of terms takes one cell. -/
namespace Go.Proofs.Ytmhmlkdoaojimap
open Go.RowKit

theorem infoSl : (Try.prog.info? 52).map (fun i => (i.zero, i.size, i.bytes)) = some (some (.slice none 0 0), 1, 24) := by kernel_rfl
end Go.Proofs.Ytmhmlkdoaojimap

/- Keys that are places: two addresses and a number; a world but for one block. -/
namespace Go.Proofs.Ytmhmlkdoaojimap
open Go.RowKit

def pk (a : Addr) (b : Option Addr) (n : Int) : Value := .agg #[.pointer (some a), .pointer b, .int .i64 n]
/-- the block of a is one of cells, none of them frozen -/
def PB (w : World) (a : Addr) : Prop := ∃ cur T, w.heap[a.block]? = some (.cells cur T (0, 0))

theorem same_addr (w : World) (a b : Addr) (ha : PB w a) (hb : PB w b) : (sameAddr a b).run Try.prog w = .ok (decide (a = b)) w := by
  by_cases h : a = b
  · subst h
    rw [run_sameAddr_same, decide_eq_true rfl]
  · obtain ⟨c, t, h1⟩ := ha
    obtain ⟨c', t', h2⟩ := hb
    rw [run_sameAddr_other w h h1 h2, decide_eq_false h]

theorem held72 : Try.prog.stoodInHeld 94 = false := by kernel_rfl

theorem eq_ptr (d : Nat) (w : World) (a b : Addr) (ha : PB w a) (hb : PB w b) : (Op.equalIn (d + 1) 92 (.pointer (some a)) (.pointer (some b))).run Try.prog w = .ok (decide (a = b)) w := by
  have h : (sizeOf 54).run Try.prog w = .ok 4 w := by kernel_rfl
  simp [Op.equalIn, run_underlying Try.underlying92, h, same_addr w a b ha hb]

theorem isAggP (w : World) : (isAgg 92).run Try.prog w = .ok false w := by kernel_rfl
theorem isAggI (w : World) : (isAgg 3).run Try.prog w = .ok false w := by kernel_rfl

/-- a world but for one block -/
def setB (w : World) (m : Nat) (o : Obj) : World := { w with heap := w.heap.setIfInBounds m o }

theorem setB_at {w : World} {m : Nat} {o o' : Obj} (h : w.heap[m]? = some o') : (setB w m o).heap[m]? = some o := by
  have := (Array.getElem?_eq_some_iff.1 h).1
  simp [setB, this]
theorem setB_other {w : World} {m k : Nat} {o : Obj} (h : k ≠ m) : (setB w m o).heap[k]? = w.heap[k]? := by
  simp [setB, Ne.symm h]
end Go.Proofs.Ytmhmlkdoaojimap

/- Keys that are places of one list (an address, nothing, a number), asked for places that are not there. -/
namespace Go.Proofs.Ytmhmlkdoaojimap
open Go.RowKit

set_option linter.unusedSimpArgs false in
theorem ckey_in (d : Nat) (w : World) (a a' : Addr) (n n' : Int) (h : a ≠ a') (h1 : PB w a) (h2 : PB w a') :
    (Op.equalIn (d + 2) 94 (pk a none n) (pk a' none n')).run Try.prog w = .ok false w := by
  have e1 := eq_ptr d w a a' h1 h2
  rw [decide_eq_false h] at e1
  unfold pk
  rw [Op.equalIn]
  simp [run_underlying Try.underlying94, held72, part, isAggP, isAggI, e1]

theorem ckey (w : World) (a a' : Addr) (n n' : Int) (h : a ≠ a') (h1 : PB w a) (h2 : PB w a') :
    (Op.equal 94 (pk a none n) (pk a' none n')).run Try.prog w = .ok false w := ckey_in 9998 w a a' n n' h h1 h2

/-- the entries' keys are places in blocks of D -/
def CEs (es : List MapEntry) (D : List Nat) : Prop := ∀ e ∈ es, ∃ a n, e.key = pk a none n ∧ a.block ∈ D
def DPB (w : World) (D : List Nat) : Prop := ∀ f ∈ D, ∃ cur T, w.heap[f]? = some (.cells cur T (0, 0))

theorem cask (a : Addr) (n : Int) (D : List Nat) (hD : a.block ∉ D) : ∀ (es : List MapEntry) (i : Nat), CEs es D →
    ∀ w, PB w a → DPB w D → (Instr.findAsking 94 (pk a none n) es i).run Try.prog w = .ok none w
  | [], i, _, w, _, _ => by simp [Instr.findAsking]
  | e :: es, i, h, w, ha, hS => by
    obtain ⟨a', n', hk, hm⟩ := h e (by simp)
    have q := ckey w a a' n n' (fun e => hD (by rw [e]; exact hm)) ha (hS _ hm)
    rw [← hk] at q
    have := cask a n D hD es (i + 1) (fun e' he' => h e' (by simp [he'])) w ha hS
    simp [Instr.findAsking, q, this]

theorem cfind (a : Addr) (n : Int) (D : List Nat) (hD : a.block ∉ D) (es : List MapEntry) (h : CEs es D) (w : World) (ha : PB w a) (hS : DPB w D) :
    (Instr.findKey 94 (pk a none n) es).run Try.prog w = .ok none w := by
  cases es with
  | nil => simp [Instr.findKey, run_underlying Try.underlying94, Instr.findNow]
  | cons e es =>
    have := cask a n D hD (e :: es) 0 h w ha hS
    simp only [Instr.findKey]
    simp [run_underlying Try.underlying94, Instr.findNow, Instr.sameNow, pk]
    exact this

set_option linter.unusedSimpArgs false in
theorem cchk (d : Nat) (em : Bool) (w : World) (a : Addr) (n : Int) : (Instr.checkKey em (d + 2) 94 (pk a none n)).run Try.prog w = .ok () w := by
  have e1 : ∀ x, (Instr.checkKey em (d + 1) 92 (.pointer x)).run Try.prog w = .ok () w := fun x => by simp [Instr.checkKey, run_underlying Try.underlying92]
  have e2 : (Instr.checkKey em (d + 1) 3 (.int .i64 n)).run Try.prog w = .ok () w := by simp [Instr.checkKey, run_underlying Try.underlying3]
  unfold pk
  rw [Instr.checkKey]
  simp [run_underlying Try.underlying94, part, isAggP, isAggI, e1, e2]

def CMapAt (w : World) (m : Nat) (D : List Nat) : Prop := ∃ es clock, w.heap[m]? = some (.map es clock) ∧ CEs es.toList D

end Go.Proofs.Ytmhmlkdoaojimap

/- A map keyed by places of one list (an address, nothing, a number), asked for places that it has not. -/
import Derived.Test.YtdcphfcenaafbamPMap
namespace Go.Proofs.Ytdcphfcenaafbam
open Go.RowKit

set_option linter.unusedSimpArgs false in
theorem ckey_in (d : Nat) (w : World) (a a' : Addr) (n n' : Int) (h : a ≠ a') (h1 : PB w a) (h2 : PB w a') :
    (Op.equalIn (d + 2) 110 (pk a none n) (pk a' none n')).run Try.prog w = .ok false w := by
  have e1 := eq_ptr d w a a' h1 h2
  rw [decide_eq_false h] at e1
  unfold pk
  rw [Op.equalIn]
  simp [run_underlying Try.underlying110, held72, part, isAggP, isAggI, e1]

theorem ckey (w : World) (a a' : Addr) (n n' : Int) (h : a ≠ a') (h1 : PB w a) (h2 : PB w a') :
    (Op.equal 110 (pk a none n) (pk a' none n')).run Try.prog w = .ok false w := ckey_in 9998 w a a' n n' h h1 h2

/-- the entries' keys are places in blocks of D -/
def CEs (es : List MapEntry) (D : List Nat) : Prop := ∀ e ∈ es, ∃ a n, e.key = pk a none n ∧ a.block ∈ D
def DPB (w : World) (D : List Nat) : Prop := ∀ f ∈ D, ∃ cur T, w.heap[f]? = some (.cells cur T (0, 0))

theorem cask (a : Addr) (n : Int) (D : List Nat) (hD : a.block ∉ D) : ∀ (es : List MapEntry) (i : Nat), CEs es D →
    ∀ w, PB w a → DPB w D → (Instr.findAsking 110 (pk a none n) es i).run Try.prog w = .ok none w
  | [], i, _, w, _, _ => by simp [Instr.findAsking]
  | e :: es, i, h, w, ha, hS => by
    obtain ⟨a', n', hk, hm⟩ := h e (by simp)
    have q := ckey w a a' n n' (fun e => hD (by rw [e]; exact hm)) ha (hS _ hm)
    rw [← hk] at q
    have := cask a n D hD es (i + 1) (fun e' he' => h e' (by simp [he'])) w ha hS
    simp [Instr.findAsking, q, this]

theorem cfind (a : Addr) (n : Int) (D : List Nat) (hD : a.block ∉ D) (es : List MapEntry) (h : CEs es D) (w : World) (ha : PB w a) (hS : DPB w D) :
    (Instr.findKey 110 (pk a none n) es).run Try.prog w = .ok none w := by
  cases es with
  | nil => simp [Instr.findKey, run_underlying Try.underlying110, Instr.findNow]
  | cons e es =>
    have := cask a n D hD (e :: es) 0 h w ha hS
    simp only [Instr.findKey]
    simp [run_underlying Try.underlying110, Instr.findNow, Instr.sameNow, pk]
    exact this

set_option linter.unusedSimpArgs false in
theorem cchk (d : Nat) (em : Bool) (w : World) (a : Addr) (n : Int) : (Instr.checkKey em (d + 2) 110 (pk a none n)).run Try.prog w = .ok () w := by
  have e1 : ∀ x, (Instr.checkKey em (d + 1) 60 (.pointer x)).run Try.prog w = .ok () w := fun x => by simp [Instr.checkKey, run_underlying Try.underlying60]
  have e2 : (Instr.checkKey em (d + 1) 3 (.int .i64 n)).run Try.prog w = .ok () w := by simp [Instr.checkKey, run_underlying Try.underlying3]
  unfold pk
  rw [Instr.checkKey]
  simp [run_underlying Try.underlying110, part, isAggP, isAggI, e1, e2]

def CMapAt (w : World) (m : Nat) (D : List Nat) : Prop := ∃ es clock, w.heap[m]? = some (.map es clock) ∧ CEs es.toList D

theorem cmap_look (w : World) (m : Nat) (D : List Nat) (h : CMapAt w m D) (a : Addr) (n : Int) (hD : a.block ∉ D) (ha : PB w a) (hS : DPB w D) :
    (Instr.lookup 78 (.map (some m)) (pk a none n) true).run Try.prog w = .ok (.tuple #[.slice none 0 0, .bool false]) w := by
  obtain ⟨es, clock, h1, h2⟩ := h
  have hr := cfind a n D hD _ h2 w ha hS
  have hc := cchk 9998 es.isEmpty w a n
  simp [Instr.lookup, run_underlying Try.underlying78, MapKept.run_getObj_map h1, hc, hr]

theorem cmap_put (w : World) (m : Nat) (D : List Nat) (h : CMapAt w m D) (a : Addr) (n : Int) (v : Value) (hD : a.block ∉ D) (ha : PB w a) (hS : DPB w D) :
    ∃ o, (Instr.mapUpdate 78 (.map (some m)) (pk a none n) v).run Try.prog w = .ok () (setB w m o) ∧ CMapAt (setB w m o) m (a.block :: D) := by
  obtain ⟨es, clock, h1, h2⟩ := h
  have hr := cfind a n D hD _ h2 w ha hS
  have hc := cchk 9998 false w a n
  refine ⟨.map (es.push { key := pk a none n, val := v, born := clock }) (clock + 1), ?_, _, _, setB_at h1, ?_⟩
  · simp [Instr.mapUpdate, run_underlying Try.underlying78, MapKept.run_getObj_map h1, hc, hr, MapKept.run_setObj_map _ h1, setB]
  · rw [Array.toList_push]
    intro e he
    rcases List.mem_append.1 he with he | he
    · obtain ⟨a', n', q1, q2⟩ := h2 e he
      exact ⟨a', n', q1, by simp [q2]⟩
    · rw [List.mem_singleton] at he
      subst he
      exact ⟨a, n, rfl, by simp⟩
end Go.Proofs.Ytdcphfcenaafbam

/- A map keyed by places of one list (an address, nothing, a number), asked for places that it has not. -/
import Derived.Test.YtenmhpalpfppmaoCMapK
namespace Go.Proofs.Ytenmhpalpfppmao
open Go.RowKit

theorem cmap_look (w : World) (m : Nat) (D : List Nat) (h : CMapAt w m D) (a : Addr) (n : Int) (hD : a.block ∉ D) (ha : PB w a) (hS : DPB w D) :
    (Instr.lookup 53 (.map (some m)) (pk a none n) true).run Try.prog w = .ok (.tuple #[.slice none 0 0, .bool false]) w := by
  obtain ⟨es, clock, h1, h2⟩ := h
  have hr := cfind a n D hD _ h2 w ha hS
  have hc := cchk 9998 es.isEmpty w a n
  simp [Instr.lookup, run_underlying Try.underlying53, MapKept.run_getObj_map h1, hc, hr]

theorem cmap_put (w : World) (m : Nat) (D : List Nat) (h : CMapAt w m D) (a : Addr) (n : Int) (v : Value) (hD : a.block ∉ D) (ha : PB w a) (hS : DPB w D) :
    ∃ o, (Instr.mapUpdate 53 (.map (some m)) (pk a none n) v).run Try.prog w = .ok () (setB w m o) ∧ CMapAt (setB w m o) m (a.block :: D) := by
  obtain ⟨es, clock, h1, h2⟩ := h
  have hr := cfind a n D hD _ h2 w ha hS
  have hc := cchk 9998 false w a n
  refine ⟨.map (es.push { key := pk a none n, val := v, born := clock }) (clock + 1), ?_, _, _, setB_at h1, ?_⟩
  · simp [Instr.mapUpdate, run_underlying Try.underlying53, MapKept.run_getObj_map h1, hc, hr, MapKept.run_setObj_map _ h1, setB]
  · rw [Array.toList_push]
    intro e he
    rcases List.mem_append.1 he with he | he
    · obtain ⟨a', n', q1, q2⟩ := h2 e he
      exact ⟨a', n', q1, by simp [q2]⟩
    · rw [List.mem_singleton] at he
      subst he
      exact ⟨a, n, rfl, by simp⟩
end Go.Proofs.Ytenmhpalpfppmao

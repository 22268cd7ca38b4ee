/- A map keyed by numbers: which of them it has. -/
import Derived.Test.YtcmnjpoapcoghamPMap
namespace Go.Proofs.Ytcmnjpoapcogham
open Go.RowKit

theorem inow (n : Int) : ∀ (L : List Int) (es : List MapEntry) (i : Nat), es.map (·.key) = L.map (fun x => Value.int .i64 x) → (∀ e ∈ es, e.val = .agg #[]) →
    (n ∉ L → Instr.findNow (.int .i64) (.int .i64 n) es i = some none) ∧ (n ∈ L → ∃ j, Instr.findNow (.int .i64) (.int .i64 n) es i = some (some (j, .agg #[])))
  | [], [], i, _, _ => ⟨fun _ => rfl, fun h => by cases h⟩
  | [], e :: es, i, h, _ => by simp at h
  | x :: L, [], i, h, _ => by simp at h
  | x :: L, e :: es, i, h, hv => by
    simp only [List.map_cons, List.cons.injEq] at h
    obtain ⟨h1, h2⟩ := inow n L es (i + 1) h.2 (fun e he => hv e (by simp [he]))
    have hs : Instr.sameNow (.int .i64) (.int .i64 n) e.key = some (n == x) := by rw [h.1]; simp [Instr.sameNow]
    by_cases hx : n = x
    · subst hx
      refine ⟨fun hn => absurd (List.mem_cons_self) hn, fun _ => ⟨i, ?_⟩⟩
      simp [Instr.findNow, hs, hv e (by simp)]
    · have hb : (n == x) = false := by simpa using hx
      rw [hb] at hs
      refine ⟨fun hn => ?_, fun hm => ?_⟩
      · simp [Instr.findNow, hs, h1 (fun h => hn (by simp [h]))]
      · rcases List.mem_cons.1 hm with h | h
        · exact absurd h hx
        · obtain ⟨j, hj⟩ := h2 h
          exact ⟨j, by simp [Instr.findNow, hs, hj]⟩

/-- block m is a map whose keys are the numbers L -/
def IMapAt (w : World) (m : Nat) (L : List Int) : Prop := ∃ es clock, w.heap[m]? = some (.map es clock) ∧ es.toList.map (·.key) = L.map (fun x => Value.int .i64 x) ∧ ∀ e ∈ es.toList, e.val = .agg #[]

theorem ichk (d : Nat) (em : Bool) (w : World) (n : Int) : (Instr.checkKey em (d + 1) 3 (.int .i64 n)).run Try.prog w = .ok () w := by simp [Instr.checkKey, run_underlying Try.underlying3]

theorem imap_look (w : World) (m : Nat) (L : List Int) (h : IMapAt w m L) (n : Int) :
    (Instr.lookup 105 (.map (some m)) (.int .i64 n) true).run Try.prog w = .ok (.tuple #[.agg #[], .bool (decide (n ∈ L))]) w := by
  obtain ⟨es, clock, h1, h2, h3⟩ := h
  obtain ⟨q1, q2⟩ := inow n L es.toList 0 h2 h3
  have hc := ichk 9999 es.isEmpty w n
  by_cases hn : n ∈ L
  · obtain ⟨j, hj⟩ := q2 hn
    simp [Instr.lookup, run_underlying Try.underlying105, run_underlying Try.underlying3, MapKept.run_getObj_map h1, hc, Instr.findKey, hj, hn]
  · have hj := q1 hn
    simp [Instr.lookup, run_underlying Try.underlying105, run_underlying Try.underlying3, MapKept.run_getObj_map h1, hc, Instr.findKey, hj, hn]

theorem imap_put (w : World) (m : Nat) (L : List Int) (h : IMapAt w m L) (n : Int) (hn : n ∉ L) :
    ∃ o, (Instr.mapUpdate 105 (.map (some m)) (.int .i64 n) (.agg #[])).run Try.prog w = .ok () (setB w m o) ∧ IMapAt (setB w m o) m (L ++ [n]) := by
  obtain ⟨es, clock, h1, h2, h3⟩ := h
  obtain ⟨q1, _⟩ := inow n L es.toList 0 h2 h3
  have hj := q1 hn
  have hc := ichk 9999 false w n
  refine ⟨.map (es.push { key := .int .i64 n, val := .agg #[], born := clock }) (clock + 1), ?_, _, _, setB_at h1, ?_, ?_⟩
  · simp [Instr.mapUpdate, run_underlying Try.underlying105, run_underlying Try.underlying3, MapKept.run_getObj_map h1, hc, Instr.findKey, hj, MapKept.run_setObj_map _ h1, setB]
  · rw [Array.toList_push]; simp [h2]
  · intro e he
    rw [Array.toList_push] at he
    rcases List.mem_append.1 he with he | he
    · exact h3 e he
    · rw [List.mem_singleton] at he; subst he; rfl
end Go.Proofs.Ytcmnjpoapcogham

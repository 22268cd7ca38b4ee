/- The marks in a map: kindsAlone, and what is looked up in it. -/
import Derived.Test.YtenmhpalpfppmaoGreatDoorRows
import Derived.Test.YtenmhpalpfppmaoGreatDoorMrg2
import Derived.MapKept
import Derived.LaidEql
import Derived.WalkKit
import Derived.ProofKit
namespace Go.Proofs.YtenmhpalpfppmaoGreatDoor
open Go.RowKit

def aloneE : Array MapEntry := #[{ key := .int .i32 40, val := .int .i64 4, born := 0 }, { key := .int .i32 41, val := .int .i64 4, born := 1 }, { key := .int .i32 91, val := .int .i64 4, born := 2 }, { key := .int .i32 93, val := .int .i64 4, born := 3 }, { key := .int .i32 44, val := .int .i64 4, born := 4 }, { key := .int .i32 124, val := .int .i64 4, born := 5 }, { key := .int .i32 33, val := .int .i64 1, born := 6 }, { key := .int .i32 59, val := .int .i64 1, born := 7 }]
theorem chk32 (d : Nat) (em : Bool) (w : World) (n : Int) : (Instr.checkKey em (d + 1) 21 (.int .i32 n)).run Tryz.prog w = .ok () w := by simp [Instr.checkKey, run_underlying Tryz.underlying21]

theorem ins32 (w : World) (es : Array MapEntry) (c : Nat) (k v : Int) (hf : Instr.findNow (.int .i32) (.int .i32 k) es.toList 0 = some none) :
    (Instr.mapUpdate 99 (.map (some w.heap.size)) (.int .i32 k) (.int .i64 v)).run Tryz.prog (w.alloc (.map es c)) = .ok () (w.alloc (.map (es.push { key := .int .i32 k, val := .int .i64 v, born := c }) (c + 1))) := by
  have h1 : (w.alloc (.map es c)).heap[w.heap.size]? = some (.map es c) := heap_alloc_new w _
  have hc := chk32 9999 false (w.alloc (.map es c)) k
  have he : ({ (w.alloc (.map es c)) with heap := (w.alloc (.map es c)).heap.setIfInBounds w.heap.size (.map (es.push { key := .int .i32 k, val := .int .i64 v, born := c }) (c + 1)) } : World) = w.alloc (.map (es.push { key := .int .i32 k, val := .int .i64 v, born := c }) (c + 1)) := by
    have hh : ∀ (A B : Obj), (w.heap.push A).setIfInBounds w.heap.size B = w.heap.push B := fun A B => by
      apply Array.ext_getElem?
      intro j
      rw [Array.getElem?_setIfInBounds, Array.getElem?_push, Array.getElem?_push]
      by_cases hj : w.heap.size = j
      · subst hj; simp
      · rw [if_neg hj]
        by_cases hj2 : j = w.heap.size
        · exact absurd hj2.symm hj
        · rw [if_neg hj2, if_neg hj2]
    show ({ w with heap := (w.heap.push _).setIfInBounds w.heap.size _ } : World) = { w with heap := w.heap.push _ }
    rw [hh]
  simp [Instr.mapUpdate, run_underlying Tryz.underlying99, run_underlying Tryz.underlying21, MapKept.run_getObj_map h1, hc, Instr.findKey, hf, MapKept.run_setObj_map _ h1]
  exact he

theorem kinds_alone (w : World) :
    Calls Tryz.prog 75 #[] w fun e w' => e = .returned (.map (some w.heap.size)) ∧ w' = w.alloc (.map aloneE 8) := by
  have x0 := ins32 w #[] 0 40 4 (by simp [Instr.findNow])
  have x1 := ins32 w #[{ key := .int .i32 40, val := .int .i64 4, born := 0 }] 1 41 4 (by simp [Instr.findNow, Instr.sameNow])
  have x2 := ins32 w #[{ key := .int .i32 40, val := .int .i64 4, born := 0 }, { key := .int .i32 41, val := .int .i64 4, born := 1 }] 2 91 4 (by simp [Instr.findNow, Instr.sameNow])
  have x3 := ins32 w #[{ key := .int .i32 40, val := .int .i64 4, born := 0 }, { key := .int .i32 41, val := .int .i64 4, born := 1 }, { key := .int .i32 91, val := .int .i64 4, born := 2 }] 3 93 4 (by simp [Instr.findNow, Instr.sameNow])
  have x4 := ins32 w #[{ key := .int .i32 40, val := .int .i64 4, born := 0 }, { key := .int .i32 41, val := .int .i64 4, born := 1 }, { key := .int .i32 91, val := .int .i64 4, born := 2 }, { key := .int .i32 93, val := .int .i64 4, born := 3 }] 4 44 4 (by simp [Instr.findNow, Instr.sameNow])
  have x5 := ins32 w #[{ key := .int .i32 40, val := .int .i64 4, born := 0 }, { key := .int .i32 41, val := .int .i64 4, born := 1 }, { key := .int .i32 91, val := .int .i64 4, born := 2 }, { key := .int .i32 93, val := .int .i64 4, born := 3 }, { key := .int .i32 44, val := .int .i64 4, born := 4 }] 5 124 4 (by simp [Instr.findNow, Instr.sameNow])
  have x6 := ins32 w #[{ key := .int .i32 40, val := .int .i64 4, born := 0 }, { key := .int .i32 41, val := .int .i64 4, born := 1 }, { key := .int .i32 91, val := .int .i64 4, born := 2 }, { key := .int .i32 93, val := .int .i64 4, born := 3 }, { key := .int .i32 44, val := .int .i64 4, born := 4 }, { key := .int .i32 124, val := .int .i64 4, born := 5 }] 6 33 1 (by simp [Instr.findNow, Instr.sameNow])
  have x7 := ins32 w #[{ key := .int .i32 40, val := .int .i64 4, born := 0 }, { key := .int .i32 41, val := .int .i64 4, born := 1 }, { key := .int .i32 91, val := .int .i64 4, born := 2 }, { key := .int .i32 93, val := .int .i64 4, born := 3 }, { key := .int .i32 44, val := .int .i64 4, born := 4 }, { key := .int .i32 124, val := .int .i64 4, born := 5 }, { key := .int .i32 33, val := .int .i64 1, born := 6 }] 7 59 1 (by simp [Instr.findNow, Instr.sameNow])
  have xm : (Instr.makeMap 99 none).run Tryz.prog w = .ok (.map (some w.heap.size)) (w.alloc (.map #[] 0)) := rfl
  simp only [List.push_toArray, List.cons_append, List.nil_append, Nat.reduceAdd, Nat.zero_add] at x0 x1 x2 x3 x4 x5 x6 x7
  go_enter Tryz.func75, Tryz.ntmps75
  go_wp2
  go_ret
  exact ⟨rfl, rfl⟩

/-- the marks lie in block m -/
def MapIn (w : World) (m : Nat) : Prop := w.heap[m]? = some (.map aloneE 8)
def aloneK (r : Int) : Int := if r = 40 ∨ r = 41 ∨ r = 91 ∨ r = 93 ∨ r = 44 ∨ r = 124 then 4 else if r = 33 ∨ r = 59 then 1 else 0
def aloneB (r : Int) : Bool := decide (r = 40 ∨ r = 41 ∨ r = 91 ∨ r = 93 ∨ r = 44 ∨ r = 124 ∨ r = 33 ∨ r = 59)

theorem look_alone (w : World) (m : Nat) (h : MapIn w m) (r : Int) :
    (Instr.lookup 99 (.map (some m)) (.int .i32 r) true).run Tryz.prog w = .ok (.tuple #[.int .i64 (aloneK r), .bool (aloneB r)]) w := by
  have hc := chk32 9999 aloneE.isEmpty w r
  have hc2 : ∀ r : Int, (Instr.checkKey false 10000 21 (.int .i32 r)).run Tryz.prog w = .ok () w := fun r => chk32 9999 false w r
  unfold MapIn at h
  by_cases h0 : aloneB r = true
  · unfold aloneB at h0
    rcases of_decide_eq_true h0 with rfl | rfl | rfl | rfl | rfl | rfl | rfl | rfl
    all_goals
      simp [Instr.lookup, run_underlying Tryz.underlying99, run_underlying Tryz.underlying21, MapKept.run_getObj_map h, hc2, Instr.findKey, aloneE, Instr.findNow, Instr.sameNow, aloneK, aloneB]
  · have h1 : ¬ (r = 40 ∨ r = 41 ∨ r = 91 ∨ r = 93 ∨ r = 44 ∨ r = 124 ∨ r = 33 ∨ r = 59) := fun h' => h0 (decide_eq_true h')
    have e40 : (r == 40) = false := beq_eq_false_iff_ne.2 (by omega)
    have e41 : (r == 41) = false := beq_eq_false_iff_ne.2 (by omega)
    have e91 : (r == 91) = false := beq_eq_false_iff_ne.2 (by omega)
    have e93 : (r == 93) = false := beq_eq_false_iff_ne.2 (by omega)
    have e44 : (r == 44) = false := beq_eq_false_iff_ne.2 (by omega)
    have e124 : (r == 124) = false := beq_eq_false_iff_ne.2 (by omega)
    have e33 : (r == 33) = false := beq_eq_false_iff_ne.2 (by omega)
    have e59 : (r == 59) = false := beq_eq_false_iff_ne.2 (by omega)
    have hk : aloneK r = 0 := by unfold aloneK; rw [if_neg (by omega), if_neg (by omega)]
    have hb : aloneB r = false := by simpa using h0
    have hfn : Instr.findNow (.int .i32) (.int .i32 r) aloneE.toList 0 = some none := by
      simp [aloneE, Instr.findNow, Instr.sameNow, e40, e41, e91, e93, e44, e124, e33, e59]
    simp [Instr.lookup, run_underlying Tryz.underlying99, run_underlying Tryz.underlying21, MapKept.run_getObj_map h, hc, Instr.findKey, hfn, hk, hb]
end Go.Proofs.YtenmhpalpfppmaoGreatDoor

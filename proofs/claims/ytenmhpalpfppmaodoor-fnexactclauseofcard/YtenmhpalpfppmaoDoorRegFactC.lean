/- A region with one store among its first operations, and calls among them: a call that makes memory. -/
import Derived.Test.YtenmhpalpfppmaoDoorRegFactS
namespace Go.Proofs.YtenmhpalpfppmaoDoor
open Go.RowKit
namespace FS
theorem fact_callS {P : Program} {o : Oper} {a : Act} {w : World} {φ : Value → World → Prop} {Q : Exit → Act → World → Prop} {f : FuncId} {fn : Func} {xs : Array Operand} {ats : Array TypeId} {args : Array Value} {d st b i : Nat} (hd : o.dst = some d) (hop : o.op = .call { callee := .value (.func f), args := xs, argTypes := ats }) (hf : P.funcs[f]? = some fn) (hname : (fn.name == "runtime.NumGoroutine") = false) (hb : fn.body.isSome = true)
    (hargs : xs.map a.eval = args) (hc : Calls P f args w fun e w' => ∃ v, e = .returned v ∧ Below w.heap.size w w' ∧ φ v w') : o.wp P a w (fun a' w'' => ∃ v, a' = a.put o.dst v ∧ (o.dst = none → v = undef) ∧ Leaves st b i w w'' ∧ φ v w'') Q := by
  obtain ⟨c, hb⟩ := Option.isSome_iff_exists.1 hb
  have h1 : fn.name ≠ "runtime.NumGoroutine" := by simpa using hname
  have ef : a.eval (.func f) = .func (.func f) #[] #[] := rfl
  have he : (execOp a.eval o).run P w = .ok (.enter f args) w := by
    unfold execOp
    simp [hop, resolve, Deferred.ofValue, invoke, ef, hargs, callFunc, hf, h1, hb]
  unfold Oper.wp
  rw [he]
  simp only [Oper.upon]
  refine hc.mono ?_
  rintro e w' ⟨v, rfl, h2, h3⟩
  exact ⟨v, rfl, fun h => (by rw [hd] at h; cases h), leaves_below h2, h3⟩
theorem But.below {b B : Nat} {w w' : World} (h : But b w w') (hb : B ≤ b) (hw : B ≤ w.heap.size) : Below B w w' :=
  ⟨h.os, h.tape, h.output, h.size, fun k hk => h.block k (by omega) (by omega)⟩
/-- a store of four cells into the block -/
theorem but4 {b : Nat} {u : World} {T : TypeId} {c0 c1 c2 c3 d0 d1 d2 d3 : Value} (kb : u.heap[b]? = some (.cells #[c0, c1, c2, c3] T (0, 0))) (h : ∀ k, k ≠ b → ((((u.setCell ⟨b, 0, none⟩ d0).setCell ⟨b, 1, none⟩ d1).setCell ⟨b, 2, none⟩ d2).setCell ⟨b, 3, none⟩ d3).heap[k]? = u.heap[k]?)
    (hs : ((((u.setCell ⟨b, 0, none⟩ d0).setCell ⟨b, 1, none⟩ d1).setCell ⟨b, 2, none⟩ d2).setCell ⟨b, 3, none⟩ d3).heap[b]? = some (.cells #[d0, d1, d2, d3] T (0, 0))) : But b u ((((u.setCell ⟨b, 0, none⟩ d0).setCell ⟨b, 1, none⟩ d1).setCell ⟨b, 2, none⟩ d2).setCell ⟨b, 3, none⟩ d3) :=
  ⟨rfl, rfl, rfl, by simp [World.setCell], fun k _ hk => h k hk, fun T' n ⟨cs2, h1, h2⟩ => by rw [kb] at h1; cases h1; exact ⟨_, hs, h2⟩⟩
end FS
end Go.Proofs.YtenmhpalpfppmaoDoor

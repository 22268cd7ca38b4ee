/- Keys that are places of one list (an address, nothing, a number), asked for places that are not there. -/
import Derived.Test.YtenmhpalpfppmaoMrg7
namespace Go.Proofs.Ytenmhpalpfppmao
open Go.RowKit

set_option linter.unusedSimpArgs false in
theorem ckey_in (d : Nat) (w : World) (a a' : Addr) (n n' : Int) (h : a ≠ a') (h1 : PB w a) (h2 : PB w a') :
    (Op.equalIn (d + 2) 72 (pk a none n) (pk a' none n')).run Try.prog w = .ok false w := by
  have e1 := eq_ptr d w a a' h1 h2
  rw [decide_eq_false h] at e1
  unfold pk
  rw [Op.equalIn]
  simp [run_underlying Try.underlying72, held72, part, isAggP, isAggI, e1]

theorem ckey (w : World) (a a' : Addr) (n n' : Int) (h : a ≠ a') (h1 : PB w a) (h2 : PB w a') :
    (Op.equal 72 (pk a none n) (pk a' none n')).run Try.prog w = .ok false w := ckey_in 9998 w a a' n n' h h1 h2

/-- the entries' keys are places in blocks of D -/
def CEs (es : List MapEntry) (D : List Nat) : Prop := ∀ e ∈ es, ∃ a n, e.key = pk a none n ∧ a.block ∈ D
def DPB (w : World) (D : List Nat) : Prop := ∀ f ∈ D, ∃ cur T, w.heap[f]? = some (.cells cur T (0, 0))

theorem cask (a : Addr) (n : Int) (D : List Nat) (hD : a.block ∉ D) : ∀ (es : List MapEntry) (i : Nat), CEs es D →
    ∀ w, PB w a → DPB w D → (Instr.findAsking 72 (pk a none n) es i).run Try.prog w = .ok none w
  | [], i, _, w, _, _ => by simp [Instr.findAsking]
  | e :: es, i, h, w, ha, hS => by
    obtain ⟨a', n', hk, hm⟩ := h e (by simp)
    have q := ckey w a a' n n' (fun e => hD (by rw [e]; exact hm)) ha (hS _ hm)
    rw [← hk] at q
    have := cask a n D hD es (i + 1) (fun e' he' => h e' (by simp [he'])) w ha hS
    simp [Instr.findAsking, q, this]

theorem cfind (a : Addr) (n : Int) (D : List Nat) (hD : a.block ∉ D) (es : List MapEntry) (h : CEs es D) (w : World) (ha : PB w a) (hS : DPB w D) :
    (Instr.findKey 72 (pk a none n) es).run Try.prog w = .ok none w := by
  cases es with
  | nil => simp [Instr.findKey, run_underlying Try.underlying72, Instr.findNow]
  | cons e es =>
    have := cask a n D hD (e :: es) 0 h w ha hS
    simp only [Instr.findKey]
    simp [run_underlying Try.underlying72, Instr.findNow, Instr.sameNow, pk]
    exact this

set_option linter.unusedSimpArgs false in
theorem cchk (d : Nat) (em : Bool) (w : World) (a : Addr) (n : Int) : (Instr.checkKey em (d + 2) 72 (pk a none n)).run Try.prog w = .ok () w := by
  have e1 : ∀ x, (Instr.checkKey em (d + 1) 70 (.pointer x)).run Try.prog w = .ok () w := fun x => by simp [Instr.checkKey, run_underlying Try.underlying70]
  have e2 : (Instr.checkKey em (d + 1) 3 (.int .i64 n)).run Try.prog w = .ok () w := by simp [Instr.checkKey, run_underlying Try.underlying3]
  unfold pk
  rw [Instr.checkKey]
  simp [run_underlying Try.underlying72, part, isAggP, isAggI, e1, e2]

def CMapAt (w : World) (m : Nat) (D : List Nat) : Prop := ∃ es clock, w.heap[m]? = some (.map es clock) ∧ CEs es.toList D

end Go.Proofs.Ytenmhpalpfppmao

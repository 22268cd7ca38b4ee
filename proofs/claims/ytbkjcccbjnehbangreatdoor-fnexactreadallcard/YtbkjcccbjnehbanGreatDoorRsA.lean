/- The specification's reader: what it holds; is, mark, wants. -/
import Derived.Test.YtbkjcccbjnehbanGreatDoorRdO
import Derived.Test.YtbkjcccbjnehbanGreatDoorFxP
import Derived.Test.YtbkjcccbjnehbanGreatDoorSgW
import Derived.Deep.DeepCutAuto
import Derived.Deep.QuietTactic
import Derived.BigQuiet
import Derived.ProofKit
namespace Go.Proofs.YtbkjcccbjnehbanGreatDoor
open Go.RowKit

/-- the list of signs lies in memory that was there before block g -/
def LIn (w : World) (g : Nat) (L : List Sg) (lv : Value) : Prop := SgRow w 0 L lv ∧ ∀ b, lv.ownBlock = some b → b < g
theorem LIn.turn {w w' : World} {g : Nat} {L : List Sg} {lv : Value} (h : LIn w g L lv) (hb : ∀ k, k < g → w'.heap[k]? = w.heap[k]?) : LIn w' g L lv := ⟨h.1.turn fun b e => hb b (h.2 b e), h.2⟩
/-- a row of names above B -/
def NRow (w : World) (B : Nat) (ns : List ByteArray) (v : Value) : Prop := w.ownsRow B 9 1 v ns.length (ns.map Value.string)
theorem NRow.turn {w w' : World} {B : Nat} {ns : List ByteArray} {v : Value} (h : NRow w B ns v) (hb : ∀ b, v.ownBlock = some b → w'.heap[b]? = w.heap[b]?) : NRow w' B ns v := by
  refine ⟨h.1, ?_⟩
  rcases h.2 with hn | ⟨g, cap, cur, e, h1, h2, h3⟩
  · exact Or.inl hn
  · exact Or.inr ⟨g, cap, cur, e, h1, (hb g (by rw [e]; rfl)).trans h2, h3⟩
theorem NRow.lt {w : World} {B : Nat} {ns : List ByteArray} {v : Value} (h : NRow w B ns v) : ∀ b, v.ownBlock = some b → B ≤ b ∧ b < w.heap.size := by
  intro b e
  rcases h.2 with ⟨rfl, _⟩ | ⟨g, cap, cur, rfl, h1, h2, h3⟩
  · cases e
  · simp [Value.ownBlock] at e; subst e; exact ⟨h1, (Array.getElem?_eq_some_iff.1 h2).1⟩
/-- the blocks that a reader in block g may turn -/
def XS (g : Nat) (nv : Value) : Nat → Prop := fun k => k = g ∨ nv.ownBlock = some k

/-- what the reader in block g holds; none: it is bad; else how deep it is, and what is to be read -/
structure SRd (g : Nat) (L : List Sg) (lv nv : Value) (w : World) (o : Option (Nat × St)) : Prop where
  ex : ∃ (a : Int) (bad : Bool) (dv : Int) (nms : List ByteArray), w.heap[g]? = some (.cells #[lv, .int .i64 a, .bool bad, .int .i64 dv, nv] 52 (0, 0)) ∧ LIn w g L lv ∧ NRow w (g + 1) nms nv ∧
    (match o with | none => bad = true | some (d, st) => bad = false ∧ dv = (d : Int) ∧ nms = st.names ∧ ∃ p : Nat, a = (p : Int) ∧ p ≤ L.length ∧ L.drop p = st.rest ∧ nms.length ≤ p)
theorem SRd.keep {g : Nat} {L : List Sg} {lv nv : Value} {w w' : World} {o : Option (Nat × St)} (h : SRd g L lv nv w o) (hb : Below w.heap.size w w') : SRd g L lv nv w' o := by
  obtain ⟨a, bad, dv, nms, h1, h2, h3, h4⟩ := h.ex
  have hg : g < w.heap.size := (Array.getElem?_eq_some_iff.1 h1).1
  exact ⟨a, bad, dv, nms, (hb.block g hg).trans h1, h2.turn fun k hk => hb.block k (by omega), h3.turn fun b e => hb.block b (h3.lt b e).2, h4⟩
theorem b5f {w : World} {g : Nat} {c0 c1 c2 c3 c4 : Value} {T : TypeId} (h : w.heap[g]? = some (.cells #[c0, c1, c2, c3, c4] T (0, 0))) :
    w.cell? ⟨g, 0, none⟩ = some c0 ∧ w.cell? ⟨g, 1, none⟩ = some c1 ∧ w.cell? ⟨g, 2, none⟩ = some c2 ∧ w.cell? ⟨g, 3, none⟩ = some c3 ∧ w.cell? ⟨g, 4, none⟩ = some c4 ∧ (∀ i, w.frozen? ⟨g, i, none⟩ = false) := by
  refine ⟨?_, ?_, ?_, ?_, ?_, ?_⟩
  · simp [World.cell?, h]
  · simp [World.cell?, h]
  · simp [World.cell?, h]
  · simp [World.cell?, h]
  · simp [World.cell?, h]
  · intro i; simp [World.frozen?, h]
/-- a sign comes: where it lies -/
theorem SRd.sign {g : Nat} {L : List Sg} {lv nv : Value} {w : World} {d : Nat} {x : Sg} {r : List Sg} {names : List ByteArray} (h : SRd g L lv nv w (some (d, ⟨x :: r, names⟩))) :
    ∃ (p lb cap : Nat), lv = .slice (some ⟨lb, 0, none⟩) L.length cap ∧ p < L.length ∧ L.drop (p + 1) = r ∧ names.length ≤ p ∧ w.heap[g]? = some (.cells #[lv, .int .i64 (p : Int), .bool false, .int .i64 (d : Int), nv] 52 (0, 0)) ∧ LIn w g L lv ∧ NRow w (g + 1) names nv ∧
      w.cell? ⟨lb, p * 5, none⟩ = some (.int .i64 x.kind) ∧ w.cell? ⟨lb, p * 5 + 1, none⟩ = some (.string x.text) ∧ w.cell? ⟨lb, p * 5 + 2, none⟩ = some (.int .i64 x.num) ∧ w.cell? ⟨lb, p * 5 + 3, none⟩ = some (.int .i64 (x.at_ : Int)) ∧ w.cell? ⟨lb, p * 5 + 4, none⟩ = some (.bool x.near) ∧ lb < g := by
  obtain ⟨a, bad, dv, nms, h1, h2, h3, h4⟩ := h.ex
  obtain ⟨rfl, rfl, rfl, p, rfl, hp, hd, hn⟩ := h4
  have hpl : p < L.length := by
    rcases Nat.lt_or_ge p L.length with h | h
    · exact h
    · rw [List.drop_eq_nil_of_le h] at hd; cases hd
  have hx : L[p] = x ∧ L.drop (p + 1) = r := by
    rw [List.drop_eq_getElem_cons hpl] at hd
    exact List.cons.inj hd
  obtain ⟨lb, cap, e, _, _, _, _, hc⟩ := h2.1.cells (by rintro rfl; simp at hpl)
  obtain ⟨k0, k1, k2, k3, k4⟩ := hc p hpl
  rw [hx.1] at k0 k1 k2 k3 k4
  exact ⟨p, lb, cap, e, hpl, hx.2, hn, h1, h2, h3, k0, k1, k2, k3, k4, h2.2 lb (by rw [e]; rfl)⟩
/-- no sign comes -/
theorem SRd.last {g : Nat} {L : List Sg} {lv nv : Value} {w : World} {d : Nat} {names : List ByteArray} (h : SRd g L lv nv w (some (d, ⟨[], names⟩))) :
    ∃ (ao : Option Addr) (cap : Nat), lv = .slice ao L.length cap ∧ w.heap[g]? = some (.cells #[lv, .int .i64 (L.length : Int), .bool false, .int .i64 (d : Int), nv] 52 (0, 0)) := by
  obtain ⟨a, bad, dv, nms, h1, h2, h3, h4⟩ := h.ex
  obtain ⟨rfl, rfl, rfl, p, rfl, hp, hd, hn⟩ := h4
  have : p = L.length := by
    have := congrArg List.length hd
    simp at this; omega
  subst this
  obtain ⟨ao, cap, e, _⟩ := h2.1.shape
  exact ⟨ao, cap, e, h1⟩
theorem SRd.bad {g : Nat} {L : List Sg} {lv nv : Value} {w : World} (h : SRd g L lv nv w none) :
    ∃ (a dv : Int), w.heap[g]? = some (.cells #[lv, .int .i64 a, .bool true, .int .i64 dv, nv] 52 (0, 0)) := by
  obtain ⟨a, bad, dv, nms, h1, h2, h3, h4⟩ := h.ex
  obtain rfl : bad = true := h4
  exact ⟨a, dv, h1⟩

def isO (o : Option (Nat × St)) (kind : Int) (text : ByteArray) : Bool :=
  match o with
  | none => false
  | some (_, st) => match st.rest with
    | x :: _ => decide (x.kind = kind) && (decide (text.toList = []) || decide (x.text.toList = text.toList))
    | [] => false

set_option maxHeartbeats 4000000 in
theorem s_is (g : Nat) (L : List Sg) (lv nv : Value) (o : Option (Nat × St)) (kind : Int) (text : ByteArray) (w : World) (h : SRd g L lv nv w o) :
    Calls Tryz.prog 28 #[.pointer (some ⟨g, 0, none⟩), .int .i64 kind, .string text] w fun e w' => e = .returned (.bool (isO o kind text)) ∧ Below w.heap.size w w' := by
  rcases o with _ | ⟨d, ⟨_ | ⟨x, r⟩, names⟩⟩
  · obtain ⟨a, dv, hg⟩ := h.bad
    obtain ⟨c0, c1, c2, c3, c4, cf⟩ := b5f hg
    clear h hg cf
    go_enter Tryz.func28, Tryz.ntmps28
    go_upto_region 1 with fail
    go_quiet (fail)
    go_wp2
    go_ret
    exact ⟨rfl, ⟨rfl, rfl, rfl, Nat.le_refl _, fun _ _ => rfl⟩⟩
  · obtain ⟨ao, cap, rfl, hg⟩ := h.last
    obtain ⟨c0, c1, c2, c3, c4, cf⟩ := b5f hg
    obtain ⟨NL, hNL⟩ : ∃ NL, NL = L.length := ⟨_, rfl⟩
    rw [← hNL] at c0 c1
    have d1 : decide ((NL : Int) < (NL : Int)) = false := decide_eq_false (by omega)
    clear h hg cf hNL
    go_enter Tryz.func28, Tryz.ntmps28
    go_upto_region 1 with fail
    go_quiet (fail)
    go_wp2
    go_ret
    exact ⟨rfl, ⟨rfl, rfl, rfl, Nat.le_refl _, fun _ _ => rfl⟩⟩
  · obtain ⟨p, lb, cap, rfl, hp, _, _, hg, _, _, k0, k1, _⟩ := h.sign
    obtain ⟨c0, c1, c2, c3, c4, cf⟩ := b5f hg
    obtain ⟨NL, hNL⟩ : ∃ NL, NL = L.length := ⟨_, rfl⟩
    rw [← hNL] at c0 hp
    have d1 : decide ((p : Int) < (NL : Int)) = true := decide_eq_true (by omega)
    have d1' : decide (p < NL) = true := decide_eq_true hp
    clear h hg cf hNL
    obtain ⟨xk, xt, xn, xa, xb⟩ := x
    simp only at k0 k1
    by_cases hk : xk = kind
    · subst hk
      by_cases ht : text.toList = []
      · have HV : Hid (isO (some (d, ⟨⟨xk, xt, xn, xa, xb⟩ :: r, names⟩)) xk text = true) := by show _ = _; simp [isO, ht]
        go_enter Tryz.func28, Tryz.ntmps28
        go_upto_region 1 with fail
        go_quiet (fail)
        go_wp2
        go_ret
        exact ⟨by rw [HV.out]; rfl, ⟨rfl, rfl, rfl, Nat.le_refl _, fun _ _ => rfl⟩⟩
      · by_cases hx : xt.toList = text.toList
        · have HV : Hid (isO (some (d, ⟨⟨xk, xt, xn, xa, xb⟩ :: r, names⟩)) xk text = true) := by show _ = _; simp [isO, hx]
          go_enter Tryz.func28, Tryz.ntmps28
          go_upto_region 1 with fail
          go_quiet (fail)
          go_wp2
          go_ret
          exact ⟨by rw [HV.out]; rfl, ⟨rfl, rfl, rfl, Nat.le_refl _, fun _ _ => rfl⟩⟩
        · have HV : Hid (isO (some (d, ⟨⟨xk, xt, xn, xa, xb⟩ :: r, names⟩)) xk text = false) := by show _ = _; simp [isO, ht, hx]
          have hx2 : (xt.toList == text.toList) = false := by simpa using hx
          have ht2 : text.toList.isEmpty = false := by simpa using ht
          go_enter Tryz.func28, Tryz.ntmps28
          go_upto_region 1 with fail
          go_quiet (fail)
          go_wp2
          go_ret
          exact ⟨by rw [HV.out]; rfl, ⟨rfl, rfl, rfl, Nat.le_refl _, fun _ _ => rfl⟩⟩
    · have HV : Hid (isO (some (d, ⟨⟨xk, xt, xn, xa, xb⟩ :: r, names⟩)) kind text = false) := by show _ = _; simp [isO, hk]
      have hk2 : (xk == kind) = false := by simpa using hk
      go_enter Tryz.func28, Tryz.ntmps28
      go_upto_region 1 with fail
      go_quiet (fail)
      go_wp2
      go_ret
      exact ⟨by rw [HV.out]; rfl, ⟨rfl, rfl, rfl, Nat.le_refl _, fun _ _ => rfl⟩⟩
end Go.Proofs.YtbkjcccbjnehbanGreatDoor

/- A term that comes in as an argument is one in memory. -/
import Derived.Test.YtmhmlkdoaojimapDoorRows
import Derived.Test.YtmhmlkdoaojimapDoorMrg1
import Derived.ChangeArms
import Derived.ProofKit
import Derived.OpenShut
import Derived.Carry
namespace Go.Proofs.YtmhmlkdoaojimapDoor
open Go.ChangeShapes Go.WideShapes Go.ChangeAt Go.RowKit

theorem cellsTm : Tryd.prog.cellsOf 42 = 4 := by kernel_rfl
theorem cellsI : Tryd.prog.cellsOf 3 = 1 := by kernel_rfl
theorem cellsS : Tryd.prog.cellsOf 9 = 1 := by kernel_rfl
theorem cellsTmS : Tryd.prog.cellsOf 40 = 1 := by kernel_rfl
theorem laidOutT : laidOutB Tryd.prog = true := by kernel_rfl
theorem readsTm : Tryd.prog.readableRec 42 = true := by kernel_rfl
theorem rowTm : 42 < Tryd.prog.types.size := of_decide_eq_true (by kernel_rfl)

/-- terms lie in a row where each of them does -/
theorem tmsIn_of {w : World} {b : Nat} : ∀ (ks : List Tm) (off : Nat), (∀ j (hj : j < ks.length), ∃ c0 c1 c2 c3, w.cell? ⟨b, off + j * 4, none⟩ = some c0 ∧ w.cell? ⟨b, off + j * 4 + 1, none⟩ = some c1 ∧ w.cell? ⟨b, off + j * 4 + 2, none⟩ = some c2 ∧ w.cell? ⟨b, off + j * 4 + 3, none⟩ = some c3 ∧ TmIn w ks[j] (.agg #[c0, c1, c2, c3])) → TmsIn w ks b off
  | [], _, _ => by unfold TmsIn; trivial
  | t :: ts, off, h => by
    unfold TmsIn
    have h0 := h 0 (by simp)
    rw [Nat.zero_mul, Nat.add_zero] at h0
    refine ⟨h0, tmsIn_of ts (off + 4) fun j hj => ?_⟩
    have := h (j + 1) (by simpa using hj)
    rw [show off + (j + 1) * 4 = off + 4 + j * 4 by omega] at this
    exact this

set_option maxRecDepth 20000 in
theorem tm_of_trod {H : Type} {enc : TypeId × Value → H} {W : World} : ∀ (fuel : Nat) (cs : List Value) (x : DataW H × List MemPlace),
    DataW.trod enc Tryd.prog W 0 (fun _ => true) true fuel 42 cs = some x → ∃ t c0 c1 c2 c3, cs = [c0, c1, c2, c3] ∧ TmIn W t (.agg #[c0, c1, c2, c3]) := by
  intro fuel
  induction fuel using Nat.strongRecOn with
  | ind fuel ih =>
    intro cs x h
    obtain ⟨xs, n, hfu, rfl, hl, hxs, hf⟩ := DataW.trod_struct Tryd.underlying42 h
    rw [cellsTm] at hl
    match cs, hl with
    | [c0, c1, c2, c3], _ =>
      match xs, hxs with
      | [y0, y1, y2, y3], _ =>
        have h0 := hf 0 _ rfl
        have h1 := hf 1 _ rfl
        have h2 := hf 2 _ rfl
        have h3 := hf 3 _ rfl
        simp [cellsI, cellsS, cellsTmS] at h0 h1 h2 h3
        obtain ⟨k, hk, _, wk⟩ := DataW.trod_int Tryd.underlying3 h0
        obtain ⟨str, hs, _, ws⟩ := DataW.trod_string Tryd.underlying9 h1
        obtain ⟨num, hn, _, wn⟩ := DataW.trod_int Tryd.underlying3 h2
        simp only [List.cons.injEq, and_true] at hk hs hn
        subst hk hs hn
        have bk := bounds_i64 wk
        have bn := bounds_i64 wn
        rcases DataW.trod_slice Tryd.underlying40 h3 with ⟨hc, _⟩ | ⟨a, len, cap, elems, rest, m, hm, hc, _, _, hlc, hcm, hel, hat, _, _⟩
        · simp only [List.cons.injEq, and_true] at hc
          subst hc
          refine ⟨.mk k str num [], _, _, _, _, rfl, ?_⟩
          unfold TmIn
          exact ⟨none, 0, rfl, bk, bn, ws, Nat.le_refl _, Nat.zero_le _, fun h => absurd rfl h⟩
        · simp only [List.cons.injEq, and_true] at hc
          subst hc
          have each : ∀ i, i < len → ∃ t c0 c1 c2 c3, W.cell? (a.add (i * 4)) = some c0 ∧ W.cell? ((a.add (i * 4)).add 1) = some c1 ∧ W.cell? ((a.add (i * 4)).add 2) = some c2 ∧ W.cell? ((a.add (i * 4)).add 3) = some c3 ∧ TmIn W t (.agg #[c0, c1, c2, c3]) := fun i hi => by
            have hi' := hat i hi
            rw [List.getElem?_eq_getElem (by omega), cellsTm] at hi'
            obtain ⟨cs', hcs', htr⟩ := Option.bind_eq_some_iff.1 hi'
            obtain ⟨t, d0, d1, d2, d3, rfl, hin⟩ := ih m (by omega) cs' _ htr
            obtain ⟨_, _, hcell⟩ := World.cells?_some hcs'
            exact ⟨t, d0, d1, d2, d3, hcell 0 (by omega), hcell 1 (by omega), hcell 2 (by omega), hcell 3 (by omega), hin⟩
          obtain ⟨f, hfall⟩ : ∃ f : Nat → Tm, ∀ i, i < len → ∃ c0 c1 c2 c3, W.cell? (a.add (i * 4)) = some c0 ∧ W.cell? ((a.add (i * 4)).add 1) = some c1 ∧ W.cell? ((a.add (i * 4)).add 2) = some c2 ∧ W.cell? ((a.add (i * 4)).add 3) = some c3 ∧ TmIn W (f i) (.agg #[c0, c1, c2, c3]) := by
            refine ⟨fun i => if h : i < len then Classical.choose (each i h) else .mk 0 ⟨#[]⟩ 0 [], fun i hi => ?_⟩
            have := Classical.choose_spec (each i hi)
            simpa only [hi, dif_pos] using this
          refine ⟨.mk k str num ((List.range len).map f), _, _, _, _, rfl, ?_⟩
          unfold TmIn
          refine ⟨some a, cap, by simp, bk, bn, ws, by simpa using hlc, hcm, fun hne => ?_⟩
          have hpos : 0 < len := by
            rcases Nat.eq_zero_or_pos len with h | h
            · subst h; simp at hne
            · exact h
          obtain ⟨b, off, sp⟩ := a
          have hsp : sp = none := by
            obtain ⟨c0, _, _, _, hc0, _⟩ := hfall 0 hpos
            cases sp with
            | none => rfl
            | some z =>
              unfold World.cell? at hc0
              split at hc0
              · simp [Addr.add] at hc0
              · cases hc0
          subst hsp
          refine ⟨b, off, rfl, tmsIn_of _ off fun j hj => ?_⟩
          rw [List.length_map, List.length_range] at hj
          have := hfall j hj
          simp only [Addr.add_lit] at this
          simpa using this

set_option maxRecDepth 20000 in
/-- the argument itself -/
theorem tm_split {H : Type} {enc : TypeId × Value → H} {W : World} {base : Nat} {v : Value} {d : DataW H} {ps : List MemPlace} (hok : Value.okWide Tryd.prog W .any base 42 v)
    (h : DataW.Trod enc Tryd.prog W 0 (fun _ => true) true 42 v d ps) : ∃ t, TmIn W t v := by
  obtain ⟨cs, rfl, hsz⟩ := okWide_struct Tryd.underlying42 hok
  obtain ⟨fuel, hf⟩ := h
  obtain ⟨t, c0, c1, c2, c3, hc, hin⟩ := tm_of_trod fuel _ _ hf
  have e : cs = #[c0, c1, c2, c3] := by
    have hc' : cs.toList = [c0, c1, c2, c3] := hc
    apply Array.toList_inj.1
    rw [hc']
  exact ⟨t, e ▸ hin⟩
end Go.Proofs.YtmhmlkdoaojimapDoor

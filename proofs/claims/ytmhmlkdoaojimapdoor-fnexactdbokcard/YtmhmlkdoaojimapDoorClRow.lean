/- A clause that comes in as an argument is one in memory. -/
import Derived.Test.YtmhmlkdoaojimapDoorTmRow
namespace Go.Proofs.YtmhmlkdoaojimapDoor
open Go.ChangeShapes Go.WideShapes Go.ChangeAt Go.RowKit

theorem cellsCl : Tryd.prog.cellsOf 88 = 9 := by kernel_rfl
theorem readsCl : Tryd.prog.readableRec 88 = true := by kernel_rfl
theorem rowCl : 88 < Tryd.prog.types.size := of_decide_eq_true (by kernel_rfl)
set_option maxRecDepth 20000 in
theorem cl_of_trod {H : Type} {enc : TypeId × Value → H} {W : World} (fuel : Nat) (cs : List Value) (x : DataW H × List MemPlace) (h : DataW.trod enc Tryd.prog W 0 (fun _ => true) true fuel 88 cs = some x) :
    ∃ t u f c0 c1 c2 c3 c4 c5 c6 c7, cs = [c0, c1, c2, c3, c4, c5, c6, c7, .string f] ∧ f.size ≤ maxLen ∧ TmIn W t (.agg #[c0, c1, c2, c3]) ∧ TmIn W u (.agg #[c4, c5, c6, c7]) := by
  obtain ⟨xs, n, hfu, rfl, hl, hxs, hf⟩ := DataW.trod_struct Tryd.underlying88 h
  rw [cellsCl] at hl
  match cs, hl with
  | [c0, c1, c2, c3, c4, c5, c6, c7, c8], _ =>
    match xs, hxs with
    | [y0, y1, y2], _ =>
      have h0 := hf 0 _ rfl
      have h1 := hf 1 _ rfl
      have h2 := hf 2 _ rfl
      simp [cellsTm, cellsS] at h0 h1 h2
      obtain ⟨t, d0, d1, d2, d3, e0, i0⟩ := tm_of_trod _ _ _ h0
      obtain ⟨u, e4, e5, e6, e7, e1, i1⟩ := tm_of_trod _ _ _ h1
      obtain ⟨str, hs, _, ws⟩ := DataW.trod_string Tryd.underlying9 h2
      simp only [List.cons.injEq, and_true] at e0 e1 hs
      obtain ⟨rfl, rfl, rfl, rfl⟩ := e0
      obtain ⟨rfl, rfl, rfl, rfl⟩ := e1
      subst hs
      exact ⟨t, u, str, _, _, _, _, _, _, _, _, rfl, ws, i0, i1⟩
set_option maxRecDepth 20000 in
/-- the argument itself -/
theorem cl_split {H : Type} {enc : TypeId × Value → H} {W : World} {base : Nat} {v : Value} {d : DataW H} {ps : List MemPlace} (hok : Value.okWide Tryd.prog W .any base 88 v)
    (h : DataW.Trod enc Tryd.prog W 0 (fun _ => true) true 88 v d ps) : ∃ t u f c0 c1 c2 c3 c4 c5 c6 c7, v = .agg #[c0, c1, c2, c3, c4, c5, c6, c7, .string f] ∧ f.size ≤ maxLen ∧ TmIn W t (.agg #[c0, c1, c2, c3]) ∧ TmIn W u (.agg #[c4, c5, c6, c7]) := by
  obtain ⟨cs, rfl, hsz⟩ := okWide_struct Tryd.underlying88 hok
  obtain ⟨fuel, hf⟩ := h
  obtain ⟨t, u, f, c0, c1, c2, c3, c4, c5, c6, c7, hc, h1, h2, h3⟩ := cl_of_trod fuel _ _ hf
  have e : cs = #[c0, c1, c2, c3, c4, c5, c6, c7, .string f] := by
    have hc' : cs.toList = [c0, c1, c2, c3, c4, c5, c6, c7, .string f] := hc
    apply Array.toList_inj.1
    rw [hc']
  exact ⟨t, u, f, c0, c1, c2, c3, c4, c5, c6, c7, by rw [e], h1, h2, h3⟩
end Go.Proofs.YtmhmlkdoaojimapDoor

/- A Binds that comes in as an argument is a list of terms in memory. -/
import Derived.Test.YtdcphfcenaafbamTmRow
import Derived.Test.YtdcphfcenaafbamBindL
namespace Go.Proofs.Ytdcphfcenaafbam
open Go.ChangeShapes Go.WideShapes Go.ChangeAt Go.RowKit

theorem cellsBn : Try.prog.cellsOf 41 = 1 := by kernel_rfl
theorem readsBn : Try.prog.readableRec 41 = true := by kernel_rfl
theorem rowBn : 41 < Try.prog.types.size := of_decide_eq_true (by kernel_rfl)

set_option maxRecDepth 20000 in
theorem sl_of_trod {H : Type} {enc : TypeId × Value → H} {W : World} (fuel : Nat) (c : Value) (x : DataW H × List MemPlace)
    (h3 : DataW.trod enc Try.prog W 0 (fun _ => true) true fuel 22 [c] = some x) : ∃ ks, SlIn W ks c := by
  rcases DataW.trod_slice Try.underlying22 h3 with ⟨hc, _⟩ | ⟨a, len, cap, elems, rest, m, hm, hc, _, _, hlc, hcm, hel, hat, _, _⟩
  · simp only [List.cons.injEq, and_true] at hc
    subst hc
    exact ⟨[], none, 0, rfl, Nat.le_refl _, Nat.zero_le _, fun h => absurd rfl h⟩
  · simp only [List.cons.injEq, and_true] at hc
    subst hc
    have each : ∀ i, i < len → ∃ t c0 c1 c2 c3, W.cell? (a.add (i * 4)) = some c0 ∧ W.cell? ((a.add (i * 4)).add 1) = some c1 ∧ W.cell? ((a.add (i * 4)).add 2) = some c2 ∧ W.cell? ((a.add (i * 4)).add 3) = some c3 ∧ TmIn W t (.agg #[c0, c1, c2, c3]) := fun i hi => by
      have hi' := hat i hi
      rw [List.getElem?_eq_getElem (by omega), cellsTm] at hi'
      obtain ⟨cs', hcs', htr⟩ := Option.bind_eq_some_iff.1 hi'
      obtain ⟨t, d0, d1, d2, d3, rfl, hin⟩ := tm_of_trod m cs' _ htr
      obtain ⟨_, _, hcell⟩ := World.cells?_some hcs'
      exact ⟨t, d0, d1, d2, d3, hcell 0 (by omega), hcell 1 (by omega), hcell 2 (by omega), hcell 3 (by omega), hin⟩
    obtain ⟨f, hfall⟩ : ∃ f : Nat → Tm, ∀ i, i < len → ∃ c0 c1 c2 c3, W.cell? (a.add (i * 4)) = some c0 ∧ W.cell? ((a.add (i * 4)).add 1) = some c1 ∧ W.cell? ((a.add (i * 4)).add 2) = some c2 ∧ W.cell? ((a.add (i * 4)).add 3) = some c3 ∧ TmIn W (f i) (.agg #[c0, c1, c2, c3]) := by
      refine ⟨fun i => if h : i < len then Classical.choose (each i h) else .mk 0 ⟨#[]⟩ 0 [], fun i hi => ?_⟩
      have := Classical.choose_spec (each i hi)
      simpa only [hi, dif_pos] using this
    refine ⟨(List.range len).map f, some a, cap, by simp, by simpa using hlc, hcm, fun hne => ?_⟩
    have hpos : 0 < len := by
      rcases Nat.eq_zero_or_pos len with h | h
      · subst h; simp at hne
      · exact h
    obtain ⟨b, off, sp⟩ := a
    have hsp : sp = none := by
      obtain ⟨c0, _, _, _, hc0, _⟩ := hfall 0 hpos
      cases sp with
      | none => rfl
      | some z =>
        unfold World.cell? at hc0
        split at hc0
        · simp [Addr.add] at hc0
        · cases hc0
    subst hsp
    refine ⟨b, off, rfl, tmsIn_of _ off fun j hj => ?_⟩
    rw [List.length_map, List.length_range] at hj
    have := hfall j hj
    simp only [Addr.add_lit] at this
    simpa using this

set_option maxRecDepth 20000 in
/-- the argument itself -/
theorem binds_split {H : Type} {enc : TypeId × Value → H} {W : World} {base : Nat} {v : Value} {d : DataW H} {ps : List MemPlace} (hok : Value.okWide Try.prog W .any base 41 v)
    (h : DataW.Trod enc Try.prog W 0 (fun _ => true) true 41 v d ps) : ∃ ks sl, v = .agg #[sl] ∧ SlIn W ks sl := by
  obtain ⟨cs, rfl, hsz⟩ := okWide_struct Try.underlying41 hok
  obtain ⟨fuel, hf⟩ := h
  obtain ⟨xs, n, hfu, _, hl, hxs, hfs⟩ := DataW.trod_struct Try.underlying41 hf
  rw [cellsBn] at hl
  obtain ⟨c, hc⟩ : ∃ c, cs.toList = [c] := by
    match hcs : cs.toList, hl with
    | [c], _ => exact ⟨c, rfl⟩
  have e : cs = #[c] := by
    apply Array.toList_inj.1
    rw [hc]
  subst e
  match xs, hxs with
  | [y0], _ =>
    have h0 := hfs 0 _ rfl
    simp [cellsTmS] at h0
    obtain ⟨ks, hk⟩ := sl_of_trod _ c _ h0
    exact ⟨ks, c, rfl, hk⟩
end Go.Proofs.Ytdcphfcenaafbam

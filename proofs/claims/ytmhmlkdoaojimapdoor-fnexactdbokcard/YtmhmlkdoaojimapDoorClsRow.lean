/- A Db that comes in as an argument is a row of clauses and a row of strings in memory. -/
import Derived.Test.YtmhmlkdoaojimapDoorClRow
import Derived.Test.YtmhmlkdoaojimapDoorMrg1
namespace Go.Proofs.YtmhmlkdoaojimapDoor
open Go.ChangeShapes Go.WideShapes Go.ChangeAt Go.RowKit

theorem cellsDb : Tryd.prog.cellsOf 25 = 2 := by kernel_rfl
theorem cellsClS : Tryd.prog.cellsOf 22 = 1 := by kernel_rfl
theorem cellsStS : Tryd.prog.cellsOf 23 = 1 := by kernel_rfl
theorem readsDb : Tryd.prog.readableRec 25 = true := by kernel_rfl
theorem rowDb : 25 < Tryd.prog.types.size := of_decide_eq_true (by kernel_rfl)

theorem tm_shape4 {w : World} {t : Tm} {c0 c1 c2 c3 : Value} (h : TmIn w t (.agg #[c0, c1, c2, c3])) : ∃ k s n a l m, c0 = .int .i64 k ∧ c1 = .string s ∧ c2 = .int .i64 n ∧ c3 = .slice a l m := by
  obtain ⟨k, s, n, ks⟩ := t
  unfold TmIn at h
  obtain ⟨ao, cap, e, _⟩ := h
  simp only [Value.agg.injEq, Array.mk.injEq, List.cons.injEq, and_true] at e
  obtain ⟨rfl, rfl, rfl, rfl⟩ := e
  exact ⟨_, _, _, _, _, _, rfl, rfl, rfl, rfl⟩

set_option maxRecDepth 20000 in
theorem cls_of_trod {H : Type} {enc : TypeId × Value → H} {W : World} (fuel : Nat) (c : Value) (x : DataW H × List MemPlace)
    (h3 : DataW.trod enc Tryd.prog W 0 (fun _ => true) true fuel 22 [c] = some x) : ∃ cs, ClsIn W cs c := by
  rcases DataW.trod_slice Tryd.underlying22 h3 with ⟨hc, _⟩ | ⟨a, len, cap, elems, rest, m, hm, hc, _, _, hlc, hcm, hel, hat, _, _⟩
  · simp only [List.cons.injEq, and_true] at hc
    subst hc
    exact ⟨[], none, 0, rfl, Nat.le_refl _, Nat.zero_le _, fun h => absurd rfl h⟩
  · simp only [List.cons.injEq, and_true] at hc
    subst hc
    obtain ⟨b, off, sp⟩ := a
    have spn : 0 < len → sp = none := fun hpos => by
      have hi' := hat 0 hpos
      rw [List.getElem?_eq_getElem (by omega), cellsCl] at hi'
      obtain ⟨cs', hcs', _⟩ := Option.bind_eq_some_iff.1 hi'
      obtain ⟨_, hl0, hcell⟩ := World.cells?_some hcs'
      obtain ⟨c9, h0⟩ : ∃ c9, W.cell? _ = some c9 := ⟨cs'[0], (hcell 0 (by omega)).trans (List.getElem?_eq_getElem (by omega))⟩
      cases sp with
      | none => rfl
      | some z =>
        unfold World.cell? at h0
        split at h0
        · simp [Addr.add] at h0
        · cases h0
    have each : ∀ i, i < len → ∃ c : Cla, ClaAt W c b (off + i * 9) := fun i hi => by
      have hsp : sp = none := spn (by omega)
      subst hsp
      have hi' := hat i hi
      rw [List.getElem?_eq_getElem (by omega), cellsCl] at hi'
      obtain ⟨cs', hcs', htr⟩ := Option.bind_eq_some_iff.1 hi'
      obtain ⟨t, u, f, c0, c1, c2, c3, c4, c5, c6, c7, rfl, hf, i1, i2⟩ := cl_of_trod m cs' _ htr
      obtain ⟨_, _, hcell⟩ := World.cells?_some hcs'
      obtain ⟨k1, s1, n1, a1, l1, m1, rfl, rfl, rfl, rfl⟩ := tm_shape4 i1
      obtain ⟨k2, s2, n2, a2, l2, m2, rfl, rfl, rfl, rfl⟩ := tm_shape4 i2
      have g := fun j hj => hcell j hj
      simp only [Addr.add_lit] at g
      exact ⟨⟨t, u, f⟩, k1, s1, n1, a1, l1, m1, k2, s2, n2, a2, l2, m2, by first | (simp; done) | simpa using g 0 (by omega), by first | (simp; done) | simpa using g 1 (by omega), by first | (simp; done) | simpa using g 2 (by omega), by first | (simp; done) | simpa using g 3 (by omega), by first | (simp; done) | simpa using g 4 (by omega), by first | (simp; done) | simpa using g 5 (by omega), by first | (simp; done) | simpa using g 6 (by omega), by first | (simp; done) | simpa using g 7 (by omega), by first | (simp; done) | simpa using g 8 (by omega), hf, i1, i2⟩
    obtain ⟨f, hfall⟩ : ∃ f : Nat → Cla, ∀ i, i < len → ClaAt W (f i) b (off + i * 9) := by
      refine ⟨fun i => if h : i < len then Classical.choose (each i h) else ⟨.mk 0 ⟨#[]⟩ 0 [], .mk 0 ⟨#[]⟩ 0 [], ⟨#[]⟩⟩, fun i hi => ?_⟩
      have := Classical.choose_spec (each i hi)
      simpa only [hi, dif_pos] using this
    refine ⟨(List.range len).map f, some ⟨b, off, sp⟩, cap, by simp, by simpa using hlc, hcm, fun hne => ?_⟩
    have hpos : 0 < len := by
      rcases Nat.eq_zero_or_pos len with h | h
      · subst h; simp at hne
      · exact h
    have hsp : sp = none := spn hpos
    subst hsp
    refine ⟨b, off, rfl, fun j hj => ?_⟩
    rw [List.length_map, List.length_range] at hj
    have := hfall j hj
    simpa using this

set_option maxRecDepth 20000 in
theorem ss_of_trod {H : Type} {enc : TypeId × Value → H} {W : World} (fuel : Nat) (c : Value) (x : DataW H × List MemPlace)
    (h3 : DataW.trod enc Tryd.prog W 0 (fun _ => true) true fuel 23 [c] = some x) : ∃ xs, SsIn W xs c := by
  rcases DataW.trod_slice Tryd.underlying23 h3 with ⟨hc, _⟩ | ⟨a, len, cap, elems, rest, m, hm, hc, _, _, hlc, hcm, hel, hat, _, _⟩
  · simp only [List.cons.injEq, and_true] at hc
    subst hc
    exact ⟨[], none, 0, rfl, Nat.le_refl _, Nat.zero_le _, fun h => absurd rfl h⟩
  · simp only [List.cons.injEq, and_true] at hc
    subst hc
    obtain ⟨b, off, sp⟩ := a
    have spn : 0 < len → sp = none := fun hpos => by
      have hi' := hat 0 hpos
      rw [List.getElem?_eq_getElem (by omega), cellsS] at hi'
      obtain ⟨cs', hcs', _⟩ := Option.bind_eq_some_iff.1 hi'
      obtain ⟨_, hl0, hcell⟩ := World.cells?_some hcs'
      obtain ⟨c9, h0⟩ : ∃ c9, W.cell? _ = some c9 := ⟨cs'[0], (hcell 0 (by omega)).trans (List.getElem?_eq_getElem (by omega))⟩
      cases sp with
      | none => rfl
      | some z =>
        unfold World.cell? at h0
        split at h0
        · simp [Addr.add] at h0
        · cases h0
    have each : ∀ i, i < len → ∃ s : ByteArray, W.cell? ⟨b, off + i, none⟩ = some (.string s) ∧ s.size ≤ maxLen := fun i hi => by
      have hsp : sp = none := spn (by omega)
      subst hsp
      have hi' := hat i hi
      rw [List.getElem?_eq_getElem (by omega), cellsS] at hi'
      obtain ⟨cs', hcs', htr⟩ := Option.bind_eq_some_iff.1 hi'
      obtain ⟨str, hs, _, ws⟩ := DataW.trod_string Tryd.underlying9 htr
      subst hs
      obtain ⟨_, _, hcell⟩ := World.cells?_some hcs'
      have g := hcell 0 (by omega)
      simp only [Addr.add_lit] at g
      exact ⟨str, by simpa using g, ws⟩
    obtain ⟨f, hfall⟩ : ∃ f : Nat → ByteArray, ∀ i, i < len → W.cell? ⟨b, off + i, none⟩ = some (.string (f i)) ∧ (f i).size ≤ maxLen := by
      refine ⟨fun i => if h : i < len then Classical.choose (each i h) else ⟨#[]⟩, fun i hi => ?_⟩
      have := Classical.choose_spec (each i hi)
      simpa only [hi, dif_pos] using this
    refine ⟨(List.range len).map f, some ⟨b, off, sp⟩, cap, by simp, by simpa using hlc, hcm, fun hne => ?_⟩
    have hpos : 0 < len := by
      rcases Nat.eq_zero_or_pos len with h | h
      · subst h; simp at hne
      · exact h
    have hsp : sp = none := spn hpos
    subst hsp
    refine ⟨b, off, rfl, fun j hj => ?_⟩
    rw [List.length_map, List.length_range] at hj
    have := hfall j hj
    simpa using this

set_option maxRecDepth 20000 in
/-- the argument itself -/
theorem db_split {H : Type} {enc : TypeId × Value → H} {W : World} {base : Nat} {v : Value} {d : DataW H} {ps : List MemPlace} (hok : Value.okWide Tryd.prog W .any base 25 v)
    (h : DataW.Trod enc Tryd.prog W 0 (fun _ => true) true 25 v d ps) : ∃ cs xs c0 c1, v = .agg #[c0, c1] ∧ ClsIn W cs c0 ∧ SsIn W xs c1 := by
  obtain ⟨vs, rfl, hsz⟩ := okWide_struct Tryd.underlying25 hok
  obtain ⟨fuel, hf⟩ := h
  obtain ⟨xs, n, hfu, _, hl, hxs, hfs⟩ := DataW.trod_struct Tryd.underlying25 hf
  rw [cellsDb] at hl
  obtain ⟨c0, c1, hc⟩ : ∃ c0 c1, vs.toList = [c0, c1] := by
    match hcs : vs.toList, hl with
    | [c0, c1], _ => exact ⟨c0, c1, rfl⟩
  have e : vs = #[c0, c1] := by
    apply Array.toList_inj.1
    rw [hc]
  subst e
  match xs, hxs with
  | [y0, y1], _ =>
    have h0 := hfs 0 _ rfl
    have h1 := hfs 1 _ rfl
    simp [cellsClS, cellsStS] at h0 h1
    obtain ⟨ks, hk⟩ := cls_of_trod _ c0 _ h0
    obtain ⟨ss, hs⟩ := ss_of_trod _ c1 _ h1
    exact ⟨ks, ss, c0, c1, rfl, hk, hs⟩
end Go.Proofs.YtmhmlkdoaojimapDoor

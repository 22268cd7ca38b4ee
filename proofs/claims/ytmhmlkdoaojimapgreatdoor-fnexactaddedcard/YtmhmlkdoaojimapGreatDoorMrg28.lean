/- Four texts in one. -/
import Derived.Test.YtmhmlkdoaojimapGreatDoorRows
import Derived.Test.YtmhmlkdoaojimapGreatDoorMrg1
import Derived.ChangeArms
import Derived.ProofKit
import Derived.OpenShut
import Derived.Carry
import Derived.Test.YtmhmlkdoaojimapGreatDoorMrg2
import Derived.Test.YtmhmlkdoaojimapGreatDoorMrg24
/- A term that comes in as an argument is one in memory. -/
namespace Go.Proofs.YtmhmlkdoaojimapGreatDoor
open Go.ChangeShapes Go.WideShapes Go.ChangeAt Go.RowKit

theorem cellsTm : Tryz.prog.cellsOf 28 = 4 := by kernel_rfl
theorem cellsI : Tryz.prog.cellsOf 3 = 1 := by kernel_rfl
theorem cellsS : Tryz.prog.cellsOf 9 = 1 := by kernel_rfl
theorem cellsTmS : Tryz.prog.cellsOf 26 = 1 := by kernel_rfl
theorem laidOutT : laidOutB Tryz.prog = true := by kernel_rfl
theorem readsTm : Tryz.prog.readableRec 28 = true := by kernel_rfl
theorem rowTm : 28 < Tryz.prog.types.size := of_decide_eq_true (by kernel_rfl)

/-- terms lie in a row where each of them does -/
theorem tmsIn_of {w : World} {b : Nat} : ∀ (ks : List Tm) (off : Nat), (∀ j (hj : j < ks.length), ∃ c0 c1 c2 c3, w.cell? ⟨b, off + j * 4, none⟩ = some c0 ∧ w.cell? ⟨b, off + j * 4 + 1, none⟩ = some c1 ∧ w.cell? ⟨b, off + j * 4 + 2, none⟩ = some c2 ∧ w.cell? ⟨b, off + j * 4 + 3, none⟩ = some c3 ∧ TmIn w ks[j] (.agg #[c0, c1, c2, c3])) → TmsIn w ks b off
  | [], _, _ => by unfold TmsIn; trivial
  | t :: ts, off, h => by
    unfold TmsIn
    have h0 := h 0 (by simp)
    rw [Nat.zero_mul, Nat.add_zero] at h0
    refine ⟨h0, tmsIn_of ts (off + 4) fun j hj => ?_⟩
    have := h (j + 1) (by simpa using hj)
    rw [show off + (j + 1) * 4 = off + 4 + j * 4 by omega] at this
    exact this

set_option maxRecDepth 20000 in
theorem tm_of_trod {H : Type} {enc : TypeId × Value → H} {W : World} : ∀ (fuel : Nat) (cs : List Value) (x : DataW H × List MemPlace),
    DataW.trod enc Tryz.prog W 0 (fun _ => true) true fuel 28 cs = some x → ∃ t c0 c1 c2 c3, cs = [c0, c1, c2, c3] ∧ TmIn W t (.agg #[c0, c1, c2, c3]) := by
  intro fuel
  induction fuel using Nat.strongRecOn with
  | ind fuel ih =>
    intro cs x h
    obtain ⟨xs, n, hfu, rfl, hl, hxs, hf⟩ := DataW.trod_struct Tryz.underlying28 h
    rw [cellsTm] at hl
    match cs, hl with
    | [c0, c1, c2, c3], _ =>
      match xs, hxs with
      | [y0, y1, y2, y3], _ =>
        have h0 := hf 0 _ rfl
        have h1 := hf 1 _ rfl
        have h2 := hf 2 _ rfl
        have h3 := hf 3 _ rfl
        simp [cellsI, cellsS, cellsTmS] at h0 h1 h2 h3
        obtain ⟨k, hk, _, wk⟩ := DataW.trod_int Tryz.underlying3 h0
        obtain ⟨str, hs, _, ws⟩ := DataW.trod_string Tryz.underlying9 h1
        obtain ⟨num, hn, _, wn⟩ := DataW.trod_int Tryz.underlying3 h2
        simp only [List.cons.injEq, and_true] at hk hs hn
        subst hk hs hn
        have bk := bounds_i64 wk
        have bn := bounds_i64 wn
        rcases DataW.trod_slice Tryz.underlying26 h3 with ⟨hc, _⟩ | ⟨a, len, cap, elems, rest, m, hm, hc, _, _, hlc, hcm, hel, hat, _, _⟩
        · simp only [List.cons.injEq, and_true] at hc
          subst hc
          refine ⟨.mk k str num [], _, _, _, _, rfl, ?_⟩
          unfold TmIn
          exact ⟨none, 0, rfl, bk, bn, ws, Nat.le_refl _, Nat.zero_le _, fun h => absurd rfl h⟩
        · simp only [List.cons.injEq, and_true] at hc
          subst hc
          have each : ∀ i, i < len → ∃ t c0 c1 c2 c3, W.cell? (a.add (i * 4)) = some c0 ∧ W.cell? ((a.add (i * 4)).add 1) = some c1 ∧ W.cell? ((a.add (i * 4)).add 2) = some c2 ∧ W.cell? ((a.add (i * 4)).add 3) = some c3 ∧ TmIn W t (.agg #[c0, c1, c2, c3]) := fun i hi => by
            have hi' := hat i hi
            rw [List.getElem?_eq_getElem (by omega), cellsTm] at hi'
            obtain ⟨cs', hcs', htr⟩ := Option.bind_eq_some_iff.1 hi'
            obtain ⟨t, d0, d1, d2, d3, rfl, hin⟩ := ih m (by omega) cs' _ htr
            obtain ⟨_, _, hcell⟩ := World.cells?_some hcs'
            exact ⟨t, d0, d1, d2, d3, hcell 0 (by omega), hcell 1 (by omega), hcell 2 (by omega), hcell 3 (by omega), hin⟩
          obtain ⟨f, hfall⟩ : ∃ f : Nat → Tm, ∀ i, i < len → ∃ c0 c1 c2 c3, W.cell? (a.add (i * 4)) = some c0 ∧ W.cell? ((a.add (i * 4)).add 1) = some c1 ∧ W.cell? ((a.add (i * 4)).add 2) = some c2 ∧ W.cell? ((a.add (i * 4)).add 3) = some c3 ∧ TmIn W (f i) (.agg #[c0, c1, c2, c3]) := by
            refine ⟨fun i => if h : i < len then Classical.choose (each i h) else .mk 0 ⟨#[]⟩ 0 [], fun i hi => ?_⟩
            have := Classical.choose_spec (each i hi)
            simpa only [hi, dif_pos] using this
          refine ⟨.mk k str num ((List.range len).map f), _, _, _, _, rfl, ?_⟩
          unfold TmIn
          refine ⟨some a, cap, by simp, bk, bn, ws, by simpa using hlc, hcm, fun hne => ?_⟩
          have hpos : 0 < len := by
            rcases Nat.eq_zero_or_pos len with h | h
            · subst h; simp at hne
            · exact h
          obtain ⟨b, off, sp⟩ := a
          have hsp : sp = none := by
            obtain ⟨c0, _, _, _, hc0, _⟩ := hfall 0 hpos
            cases sp with
            | none => rfl
            | some z =>
              unfold World.cell? at hc0
              split at hc0
              · simp [Addr.add] at hc0
              · cases hc0
          subst hsp
          refine ⟨b, off, rfl, tmsIn_of _ off fun j hj => ?_⟩
          rw [List.length_map, List.length_range] at hj
          have := hfall j hj
          simp only [Addr.add_lit] at this
          simpa using this

set_option maxRecDepth 20000 in
/-- the argument itself -/
theorem tm_split {H : Type} {enc : TypeId × Value → H} {W : World} {base : Nat} {v : Value} {d : DataW H} {ps : List MemPlace} (hok : Value.okWide Tryz.prog W .any base 28 v)
    (h : DataW.Trod enc Tryz.prog W 0 (fun _ => true) true 28 v d ps) : ∃ t, TmIn W t v := by
  obtain ⟨cs, rfl, hsz⟩ := okWide_struct Tryz.underlying28 hok
  obtain ⟨fuel, hf⟩ := h
  obtain ⟨t, c0, c1, c2, c3, hc, hin⟩ := tm_of_trod fuel _ _ hf
  have e : cs = #[c0, c1, c2, c3] := by
    have hc' : cs.toList = [c0, c1, c2, c3] := hc
    apply Array.toList_inj.1
    rw [hc']
  exact ⟨t, e ▸ hin⟩
end Go.Proofs.YtmhmlkdoaojimapGreatDoor

/- A clause that comes in as an argument is one in memory. -/
namespace Go.Proofs.YtmhmlkdoaojimapGreatDoor
open Go.ChangeShapes Go.WideShapes Go.ChangeAt Go.RowKit

theorem cellsCl : Tryz.prog.cellsOf 30 = 9 := by kernel_rfl
theorem readsCl : Tryz.prog.readableRec 30 = true := by kernel_rfl
theorem rowCl : 30 < Tryz.prog.types.size := of_decide_eq_true (by kernel_rfl)
set_option maxRecDepth 20000 in
theorem cl_of_trod {H : Type} {enc : TypeId × Value → H} {W : World} (fuel : Nat) (cs : List Value) (x : DataW H × List MemPlace) (h : DataW.trod enc Tryz.prog W 0 (fun _ => true) true fuel 30 cs = some x) :
    ∃ t u f c0 c1 c2 c3 c4 c5 c6 c7, cs = [c0, c1, c2, c3, c4, c5, c6, c7, .string f] ∧ f.size ≤ maxLen ∧ TmIn W t (.agg #[c0, c1, c2, c3]) ∧ TmIn W u (.agg #[c4, c5, c6, c7]) := by
  obtain ⟨xs, n, hfu, rfl, hl, hxs, hf⟩ := DataW.trod_struct Tryz.underlying30 h
  rw [cellsCl] at hl
  match cs, hl with
  | [c0, c1, c2, c3, c4, c5, c6, c7, c8], _ =>
    match xs, hxs with
    | [y0, y1, y2], _ =>
      have h0 := hf 0 _ rfl
      have h1 := hf 1 _ rfl
      have h2 := hf 2 _ rfl
      simp [cellsTm, cellsS] at h0 h1 h2
      obtain ⟨t, d0, d1, d2, d3, e0, i0⟩ := tm_of_trod _ _ _ h0
      obtain ⟨u, e4, e5, e6, e7, e1, i1⟩ := tm_of_trod _ _ _ h1
      obtain ⟨str, hs, _, ws⟩ := DataW.trod_string Tryz.underlying9 h2
      simp only [List.cons.injEq, and_true] at e0 e1 hs
      obtain ⟨rfl, rfl, rfl, rfl⟩ := e0
      obtain ⟨rfl, rfl, rfl, rfl⟩ := e1
      subst hs
      exact ⟨t, u, str, _, _, _, _, _, _, _, _, rfl, ws, i0, i1⟩
set_option maxRecDepth 20000 in
/-- the argument itself -/
theorem cl_split {H : Type} {enc : TypeId × Value → H} {W : World} {base : Nat} {v : Value} {d : DataW H} {ps : List MemPlace} (hok : Value.okWide Tryz.prog W .any base 30 v)
    (h : DataW.Trod enc Tryz.prog W 0 (fun _ => true) true 30 v d ps) : ∃ t u f c0 c1 c2 c3 c4 c5 c6 c7, v = .agg #[c0, c1, c2, c3, c4, c5, c6, c7, .string f] ∧ f.size ≤ maxLen ∧ TmIn W t (.agg #[c0, c1, c2, c3]) ∧ TmIn W u (.agg #[c4, c5, c6, c7]) := by
  obtain ⟨cs, rfl, hsz⟩ := okWide_struct Tryz.underlying30 hok
  obtain ⟨fuel, hf⟩ := h
  obtain ⟨t, u, f, c0, c1, c2, c3, c4, c5, c6, c7, hc, h1, h2, h3⟩ := cl_of_trod fuel _ _ hf
  have e : cs = #[c0, c1, c2, c3, c4, c5, c6, c7, .string f] := by
    have hc' : cs.toList = [c0, c1, c2, c3, c4, c5, c6, c7, .string f] := hc
    apply Array.toList_inj.1
    rw [hc']
  exact ⟨t, u, f, c0, c1, c2, c3, c4, c5, c6, c7, by rw [e], h1, h2, h3⟩
end Go.Proofs.YtmhmlkdoaojimapGreatDoor

/- A Db that comes in as an argument is a row of clauses and a row of strings in memory. -/
namespace Go.Proofs.YtmhmlkdoaojimapGreatDoor
open Go.ChangeShapes Go.WideShapes Go.ChangeAt Go.RowKit

theorem cellsDb : Tryz.prog.cellsOf 25 = 2 := by kernel_rfl
theorem cellsClS : Tryz.prog.cellsOf 22 = 1 := by kernel_rfl
theorem cellsStS : Tryz.prog.cellsOf 23 = 1 := by kernel_rfl
theorem readsDb : Tryz.prog.readableRec 25 = true := by kernel_rfl
theorem rowDb : 25 < Tryz.prog.types.size := of_decide_eq_true (by kernel_rfl)

theorem tm_shape4 {w : World} {t : Tm} {c0 c1 c2 c3 : Value} (h : TmIn w t (.agg #[c0, c1, c2, c3])) : ∃ k s n a l m, c0 = .int .i64 k ∧ c1 = .string s ∧ c2 = .int .i64 n ∧ c3 = .slice a l m := by
  obtain ⟨k, s, n, ks⟩ := t
  unfold TmIn at h
  obtain ⟨ao, cap, e, _⟩ := h
  simp only [Value.agg.injEq, Array.mk.injEq, List.cons.injEq, and_true] at e
  obtain ⟨rfl, rfl, rfl, rfl⟩ := e
  exact ⟨_, _, _, _, _, _, rfl, rfl, rfl, rfl⟩

set_option maxRecDepth 20000 in
theorem cls_of_trod {H : Type} {enc : TypeId × Value → H} {W : World} (fuel : Nat) (c : Value) (x : DataW H × List MemPlace)
    (h3 : DataW.trod enc Tryz.prog W 0 (fun _ => true) true fuel 22 [c] = some x) : ∃ cs, ClsIn W cs c := by
  rcases DataW.trod_slice Tryz.underlying22 h3 with ⟨hc, _⟩ | ⟨a, len, cap, elems, rest, m, hm, hc, _, _, hlc, hcm, hel, hat, _, _⟩
  · simp only [List.cons.injEq, and_true] at hc
    subst hc
    exact ⟨[], none, 0, rfl, Nat.le_refl _, Nat.zero_le _, fun h => absurd rfl h⟩
  · simp only [List.cons.injEq, and_true] at hc
    subst hc
    obtain ⟨b, off, sp⟩ := a
    have spn : 0 < len → sp = none := fun hpos => by
      have hi' := hat 0 hpos
      rw [List.getElem?_eq_getElem (by omega), cellsCl] at hi'
      obtain ⟨cs', hcs', _⟩ := Option.bind_eq_some_iff.1 hi'
      obtain ⟨_, hl0, hcell⟩ := World.cells?_some hcs'
      obtain ⟨c9, h0⟩ : ∃ c9, W.cell? _ = some c9 := ⟨cs'[0], (hcell 0 (by omega)).trans (List.getElem?_eq_getElem (by omega))⟩
      cases sp with
      | none => rfl
      | some z =>
        unfold World.cell? at h0
        split at h0
        · simp [Addr.add] at h0
        · cases h0
    have each : ∀ i, i < len → ∃ c : Cla, ClaAt W c b (off + i * 9) := fun i hi => by
      have hsp : sp = none := spn (by omega)
      subst hsp
      have hi' := hat i hi
      rw [List.getElem?_eq_getElem (by omega), cellsCl] at hi'
      obtain ⟨cs', hcs', htr⟩ := Option.bind_eq_some_iff.1 hi'
      obtain ⟨t, u, f, c0, c1, c2, c3, c4, c5, c6, c7, rfl, hf, i1, i2⟩ := cl_of_trod m cs' _ htr
      obtain ⟨_, _, hcell⟩ := World.cells?_some hcs'
      obtain ⟨k1, s1, n1, a1, l1, m1, rfl, rfl, rfl, rfl⟩ := tm_shape4 i1
      obtain ⟨k2, s2, n2, a2, l2, m2, rfl, rfl, rfl, rfl⟩ := tm_shape4 i2
      have g := fun j hj => hcell j hj
      simp only [Addr.add_lit] at g
      exact ⟨⟨t, u, f⟩, k1, s1, n1, a1, l1, m1, k2, s2, n2, a2, l2, m2, by first | (simp; done) | simpa using g 0 (by omega), by first | (simp; done) | simpa using g 1 (by omega), by first | (simp; done) | simpa using g 2 (by omega), by first | (simp; done) | simpa using g 3 (by omega), by first | (simp; done) | simpa using g 4 (by omega), by first | (simp; done) | simpa using g 5 (by omega), by first | (simp; done) | simpa using g 6 (by omega), by first | (simp; done) | simpa using g 7 (by omega), by first | (simp; done) | simpa using g 8 (by omega), hf, i1, i2⟩
    obtain ⟨f, hfall⟩ : ∃ f : Nat → Cla, ∀ i, i < len → ClaAt W (f i) b (off + i * 9) := by
      refine ⟨fun i => if h : i < len then Classical.choose (each i h) else ⟨.mk 0 ⟨#[]⟩ 0 [], .mk 0 ⟨#[]⟩ 0 [], ⟨#[]⟩⟩, fun i hi => ?_⟩
      have := Classical.choose_spec (each i hi)
      simpa only [hi, dif_pos] using this
    refine ⟨(List.range len).map f, some ⟨b, off, sp⟩, cap, by simp, by simpa using hlc, hcm, fun hne => ?_⟩
    have hpos : 0 < len := by
      rcases Nat.eq_zero_or_pos len with h | h
      · subst h; simp at hne
      · exact h
    have hsp : sp = none := spn hpos
    subst hsp
    refine ⟨b, off, rfl, fun j hj => ?_⟩
    rw [List.length_map, List.length_range] at hj
    have := hfall j hj
    simpa using this

set_option maxRecDepth 20000 in
theorem ss_of_trod {H : Type} {enc : TypeId × Value → H} {W : World} (fuel : Nat) (c : Value) (x : DataW H × List MemPlace)
    (h3 : DataW.trod enc Tryz.prog W 0 (fun _ => true) true fuel 23 [c] = some x) : ∃ xs, SsIn W xs c := by
  rcases DataW.trod_slice Tryz.underlying23 h3 with ⟨hc, _⟩ | ⟨a, len, cap, elems, rest, m, hm, hc, _, _, hlc, hcm, hel, hat, _, _⟩
  · simp only [List.cons.injEq, and_true] at hc
    subst hc
    exact ⟨[], none, 0, rfl, Nat.le_refl _, Nat.zero_le _, fun h => absurd rfl h⟩
  · simp only [List.cons.injEq, and_true] at hc
    subst hc
    obtain ⟨b, off, sp⟩ := a
    have spn : 0 < len → sp = none := fun hpos => by
      have hi' := hat 0 hpos
      rw [List.getElem?_eq_getElem (by omega), cellsS] at hi'
      obtain ⟨cs', hcs', _⟩ := Option.bind_eq_some_iff.1 hi'
      obtain ⟨_, hl0, hcell⟩ := World.cells?_some hcs'
      obtain ⟨c9, h0⟩ : ∃ c9, W.cell? _ = some c9 := ⟨cs'[0], (hcell 0 (by omega)).trans (List.getElem?_eq_getElem (by omega))⟩
      cases sp with
      | none => rfl
      | some z =>
        unfold World.cell? at h0
        split at h0
        · simp [Addr.add] at h0
        · cases h0
    have each : ∀ i, i < len → ∃ s : ByteArray, W.cell? ⟨b, off + i, none⟩ = some (.string s) ∧ s.size ≤ maxLen := fun i hi => by
      have hsp : sp = none := spn (by omega)
      subst hsp
      have hi' := hat i hi
      rw [List.getElem?_eq_getElem (by omega), cellsS] at hi'
      obtain ⟨cs', hcs', htr⟩ := Option.bind_eq_some_iff.1 hi'
      obtain ⟨str, hs, _, ws⟩ := DataW.trod_string Tryz.underlying9 htr
      subst hs
      obtain ⟨_, _, hcell⟩ := World.cells?_some hcs'
      have g := hcell 0 (by omega)
      simp only [Addr.add_lit] at g
      exact ⟨str, by simpa using g, ws⟩
    obtain ⟨f, hfall⟩ : ∃ f : Nat → ByteArray, ∀ i, i < len → W.cell? ⟨b, off + i, none⟩ = some (.string (f i)) ∧ (f i).size ≤ maxLen := by
      refine ⟨fun i => if h : i < len then Classical.choose (each i h) else ⟨#[]⟩, fun i hi => ?_⟩
      have := Classical.choose_spec (each i hi)
      simpa only [hi, dif_pos] using this
    refine ⟨(List.range len).map f, some ⟨b, off, sp⟩, cap, by simp, by simpa using hlc, hcm, fun hne => ?_⟩
    have hpos : 0 < len := by
      rcases Nat.eq_zero_or_pos len with h | h
      · subst h; simp at hne
      · exact h
    have hsp : sp = none := spn hpos
    subst hsp
    refine ⟨b, off, rfl, fun j hj => ?_⟩
    rw [List.length_map, List.length_range] at hj
    have := hfall j hj
    simpa using this

set_option maxRecDepth 20000 in
/-- the argument itself -/
theorem db_split {H : Type} {enc : TypeId × Value → H} {W : World} {base : Nat} {v : Value} {d : DataW H} {ps : List MemPlace} (hok : Value.okWide Tryz.prog W .any base 25 v)
    (h : DataW.Trod enc Tryz.prog W 0 (fun _ => true) true 25 v d ps) : ∃ cs xs c0 c1, v = .agg #[c0, c1] ∧ ClsIn W cs c0 ∧ SsIn W xs c1 := by
  obtain ⟨vs, rfl, hsz⟩ := okWide_struct Tryz.underlying25 hok
  obtain ⟨fuel, hf⟩ := h
  obtain ⟨xs, n, hfu, _, hl, hxs, hfs⟩ := DataW.trod_struct Tryz.underlying25 hf
  rw [cellsDb] at hl
  obtain ⟨c0, c1, hc⟩ : ∃ c0 c1, vs.toList = [c0, c1] := by
    match hcs : vs.toList, hl with
    | [c0, c1], _ => exact ⟨c0, c1, rfl⟩
  have e : vs = #[c0, c1] := by
    apply Array.toList_inj.1
    rw [hc]
  subst e
  match xs, hxs with
  | [y0, y1], _ =>
    have h0 := hfs 0 _ rfl
    have h1 := hfs 1 _ rfl
    simp [cellsClS, cellsStS] at h0 h1
    obtain ⟨ks, hk⟩ := cls_of_trod _ c0 _ h0
    obtain ⟨ss, hs⟩ := ss_of_trod _ c1 _ h1
    exact ⟨ks, ss, c0, c1, rfl, hk, hs⟩
end Go.Proofs.YtmhmlkdoaojimapGreatDoor

/- The laws' size of a term. -/
namespace Go.Proofs.YtmhmlkdoaojimapGreatDoor
open Go.RowKit


def SzOk (t : Tm) : Prop := ∀ (w : World) (v : Value) (left : Nat), TmIn w t v → left ≤ 1048576 →
  Calls Tryz.prog 17 #[v, .int .i64 (left : Int)] w fun e w' => e = .returned (.int .i64 (szR t.wt left)) ∧ Below w.heap.size w w'

theorem sz_terms (ks : List Tm) (hks : ∀ t ∈ ks, SzOk t) (w : World) (ao : Option Addr) (cap left : Nat) (hlen : ks.length ≤ maxLen) (h : ks ≠ [] → ∃ b off, ao = some ⟨b, off, none⟩ ∧ TmsIn w ks b off) (hl : left ≤ 1048576) :
    Calls Tryz.prog 34 #[.slice ao ks.length cap, .int .i64 (left : Int)] w fun e w' => e = .returned (.int .i64 (szR (ks.length + wts ks) left)) ∧ Below w.heap.size w w' := by
  unfold maxLen at hlen
  by_cases hk : ks.length ≤ left
  · go_enter Tryz.func34, Tryz.ntmps34
    go_wp2
    go_loopw [1, 5] (fun vl vi wr => Hid (Below w.heap.size w wr) ∧ ∃ j l : Nat, j ≤ ks.length ∧ vl = .int .i64 (l : Int) ∧ vi = .int .i64 (j : Int) ∧ Hid (l + ks.length + wts (ks.take j) = left)) (fun _ i _ => ks.length - (intOf i).toNat)
    case atStart => exact ⟨Below.refl _ _, 0, left - ks.length, by omega, by simp; omega, rfl, by show _ = _; simp [wts, Tm.wt.wts]; omega⟩
    case round =>
      obtain ⟨HB, j, l, hj, rfl, rfl, HL⟩ := hrel
      have hll : l ≤ 1048576 := by have := HL.out; omega
      by_cases hlt : j < ks.length
      · obtain ⟨b, off, rfl, hin⟩ := h (by intro e; subst e; simp at hlt)
        obtain ⟨c0, c1, c2, c3, h0, h1, h2, h3, ht⟩ := (TmsIn.keep HB.out ks b off hin).at j hlt
        have HC := hks ks[j] (List.getElem_mem hlt) wr _ l ht hll
        have hw : wts (ks.take (j + 1)) = wts (ks.take j) + ks[j].wt := by
          rw [List.take_succ_eq_append_getElem hlt, wts_append]; simp [wts, Tm.wt.wts]
        have HW : Hid _ := hw
        clear hin ht hw h hks
        by_cases hfit : ks[j].wt ≤ l
        · have e : szR ks[j].wt l = ((l - ks[j].wt : Nat) : Int) := if_pos hfit
          rw [e] at HC
          replace HC : Hid _ := HC
          clear e
          go_wp2_with (go_at_call 17; refine (Calls.mono HC.out ?_); rintro e w1 ⟨rfl, hb⟩; have HB1 : Hid (Below w.heap.size w w1) := HB.out.trans (hb.mono HB.out.size); clear hb)
          go_roundw
          case rel => exact ⟨HB1.out, j + 1, l - ks[j].wt, by omega, rfl, by go_num, by show _ = _; have := HL.out; have := HW.out; omega⟩
          case measure => simp [intOf]; omega
        · have e : szR ks[j].wt l = -1 := if_neg hfit
          rw [e] at HC
          replace HC : Hid _ := HC
          clear e
          have hr : szR (ks.length + wts ks) left = -1 := by
            have h1 := HL.out
            have h2 := HW.out
            have h3 : wts (ks.take (j + 1)) + wts (ks.drop (j + 1)) = wts ks := by rw [← wts_append, List.take_append_drop]
            unfold szR
            rw [if_neg (by omega)]
          have HR : Hid _ := hr
          clear hr
          go_wp2_with (go_at_call 17; refine (Calls.mono HC.out ?_); rintro e w1 ⟨rfl, hb⟩; have HB1 : Hid (Below w.heap.size w w1) := HB.out.trans (hb.mono HB.out.size); clear hb)
          go_ret
          exact ⟨by rw [HR.out]; rfl, HB1.out⟩
      · have hr : szR (ks.length + wts ks) left = (l : Int) := by
          have h1 := HL.out
          rw [List.take_of_length_le (by omega)] at h1
          unfold szR
          rw [if_pos (by omega)]
          omega
        have HR : Hid _ := hr
        clear hr
        go_wp2
        go_ret
        exact ⟨by rw [HR.out]; rfl, HB.out⟩
  · have hr : szR (ks.length + wts ks) left = -1 := by unfold szR; rw [if_neg (by omega)]
    rw [hr]
    go_enter Tryz.func34, Tryz.ntmps34
    go_wp2
    go_ret
    exact ⟨rfl, Below.refl _ _⟩

theorem sz_term (t : Tm) : SzOk t := by
  refine tm_ind (p := SzOk) ?_ t
  clear t
  intro k s n ks hks w v left hin hl
  obtain ⟨ao, cap, rfl, hk, hn, hs, hlen, hcap, hrow⟩ := hin
  have HS : Hid (∀ w', Below w.heap.size w w' → ∀ l : Nat, l ≤ 1048576 → Calls Tryz.prog 34 #[.slice ao ks.length cap, .int .i64 (l : Int)] w' fun e w2 => e = .returned (.int .i64 (szR (ks.length + wts ks) l)) ∧ Below w'.heap.size w' w2) := fun w' hb l h =>
    sz_terms ks hks w' ao cap l (by omega) (fun h0 => by obtain ⟨b, off, e, hr⟩ := hrow h0; exact ⟨b, off, e, TmsIn.keep hb ks b off hr⟩) h
  clear hks hrow
  unfold maxLen at *
  have ew : (Tm.mk k s n ks).wt = s.size + (ks.length + wts ks) := by simp [Tm.wt, wts]; omega
  rw [ew]
  generalize ks.length + wts ks = m at *
  have hb1 : Below w.heap.size w (w.alloc (.cells #[.int .i64 k, .string s, .int .i64 n, .slice ao ks.length cap] 28)) := (Below.refl _ _).alloc (Nat.le_refl _) _
  by_cases h1 : s.size ≤ left
  · by_cases h2 : m ≤ left - s.size
    · have e1 : szR m (left - s.size) = ((left - s.size - m : Nat) : Int) := if_pos h2
      have e2 : szR (s.size + m) left = ((left - s.size - m : Nat) : Int) := by unfold szR; rw [if_pos (by omega)]; omega
      rw [e2]
      have HC := HS.out _ hb1 (left - s.size) (by omega)
      rw [e1, show ((left - s.size : Nat) : Int) = (left : Int) - (s.size : Int) by omega] at HC
      replace HC : Hid _ := HC
      replace hb1 : Hid _ := hb1
      clear e1 e2 HS
      go_enter Tryz.func17, Tryz.ntmps17
      go_wp2_with (go_at_call 34; refine (Calls.mono HC.out ?_); rintro e w1 ⟨rfl, hb⟩; have HB1 : Hid (Below w.heap.size w w1) := hb1.out.trans (hb.mono hb1.out.size); clear hb)
      go_ret
      exact ⟨rfl, HB1.out⟩
    · have e1 : szR m (left - s.size) = -1 := if_neg h2
      have e2 : szR (s.size + m) left = -1 := by unfold szR; rw [if_neg (by omega)]
      rw [e2]
      have HC := HS.out _ hb1 (left - s.size) (by omega)
      rw [e1, show ((left - s.size : Nat) : Int) = (left : Int) - (s.size : Int) by omega] at HC
      replace HC : Hid _ := HC
      replace hb1 : Hid _ := hb1
      clear e1 e2 HS
      go_enter Tryz.func17, Tryz.ntmps17
      go_wp2_with (go_at_call 34; refine (Calls.mono HC.out ?_); rintro e w1 ⟨rfl, hb⟩; have HB1 : Hid (Below w.heap.size w w1) := hb1.out.trans (hb.mono hb1.out.size); clear hb)
      go_ret
      exact ⟨rfl, HB1.out⟩
  · have e2 : szR (s.size + m) left = -1 := by unfold szR; rw [if_neg (by omega)]
    rw [e2]
    clear HS e2
    go_enter Tryz.func17, Tryz.ntmps17
    go_wp2
    go_ret
    exact ⟨rfl, hb1⟩
end Go.Proofs.YtmhmlkdoaojimapGreatDoor

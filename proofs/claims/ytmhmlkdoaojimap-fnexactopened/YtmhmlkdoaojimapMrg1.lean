/- Four texts in one. -/
import Derived.WalkKit
import Derived.WalkSpells
import Derived.Below
import Derived.Test.YtmhmlkdoaojimapRows
import Derived.ChangeArms
import Derived.ProofKit
import Derived.OpenShut
import Derived.Carry
/- Terms as a tree, and where they lie in memory. Of no program. -/
namespace Go.Proofs.Ytmhmlkdoaojimap
open Go.RowKit

inductive Tm where
  | mk : Int → ByteArray → Int → List Tm → Tm

/-- bytes of names and kids, all together -/
def Tm.wt : Tm → Nat
  | .mk _ s _ ks => s.size + ks.length + wts ks
where wts : List Tm → Nat
  | [] => 0
  | t :: ts => t.wt + wts ts
abbrev wts := Tm.wt.wts

mutual
/-- the value v is the term in w -/
def TmIn (w : World) : Tm → Value → Prop
  | .mk k s n ks, v => ∃ ao cap, v = .agg #[.int .i64 k, .string s, .int .i64 n, .slice ao ks.length cap] ∧ (-9223372036854775808 ≤ k ∧ k ≤ 9223372036854775807) ∧ (-9223372036854775808 ≤ n ∧ n ≤ 9223372036854775807) ∧
    s.size ≤ maxLen ∧ ks.length ≤ cap ∧ cap ≤ maxLen ∧ (ks ≠ [] → ∃ b off, ao = some ⟨b, off, none⟩ ∧ TmsIn w ks b off)
/-- .. the terms lie in a row, four cells each -/
def TmsIn (w : World) : List Tm → Nat → Nat → Prop
  | [], _, _ => True
  | t :: ts, b, off => (∃ c0 c1 c2 c3, w.cell? ⟨b, off, none⟩ = some c0 ∧ w.cell? ⟨b, off + 1, none⟩ = some c1 ∧ w.cell? ⟨b, off + 2, none⟩ = some c2 ∧ w.cell? ⟨b, off + 3, none⟩ = some c3 ∧ TmIn w t (.agg #[c0, c1, c2, c3])) ∧ TmsIn w ts b (off + 4)
end

theorem cell_blk {w : World} {a : Addr} {x : Value} (h : w.cell? a = some x) : a.block < w.heap.size := by
  unfold World.cell? at h
  split at h
  · rename_i hb; exact (Array.getElem?_eq_some_iff.1 hb).1
  · cases h

theorem cell_keep {w w' : World} {a : Addr} {x : Value} (h : w.cell? a = some x) (hb : Below w.heap.size w w') : w'.cell? a = some x := by
  rw [World.cell?_of_block (hb.block a.block (cell_blk h))]; exact h

theorem below_set {B g i : Nat} {w w' : World} (h : Below B w w') (hg : B ≤ g) (v : Value) : Below B w (w'.setCell ⟨g, i, none⟩ v) :=
  ⟨h.os, h.tape, h.output, by simpa [World.setCell] using h.size, fun k hk => by
    have : g ≠ k := by omega
    rw [← h.block k hk]
    simp [World.setCell, Array.getElem?_modify, this]⟩

mutual
theorem TmIn.keep {w w' : World} (hb : Below w.heap.size w w') : ∀ (t : Tm) (v : Value), TmIn w t v → TmIn w' t v
  | .mk k s n ks, v, h => by
    obtain ⟨ao, cap, rfl, h1, h2, h3, h4, h5, h6⟩ := h
    refine ⟨ao, cap, rfl, h1, h2, h3, h4, h5, fun h0 => ?_⟩
    obtain ⟨b, off, rfl, h7⟩ := h6 h0
    exact ⟨b, off, rfl, TmsIn.keep hb ks b off h7⟩
theorem TmsIn.keep {w w' : World} (hb : Below w.heap.size w w') : ∀ (ks : List Tm) (b off : Nat), TmsIn w ks b off → TmsIn w' ks b off
  | [], _, _, _ => trivial
  | t :: ts, b, off, h => by
    obtain ⟨⟨c0, c1, c2, c3, h0, h1, h2, h3, ht⟩, hr⟩ := h
    exact ⟨⟨c0, c1, c2, c3, cell_keep h0 hb, cell_keep h1 hb, cell_keep h2 hb, cell_keep h3 hb, TmIn.keep hb t _ ht⟩, TmsIn.keep hb ts b (off + 4) hr⟩
end

theorem TmsIn.at {w : World} {b : Nat} : ∀ {ks : List Tm} {off : Nat}, TmsIn w ks b off → ∀ (j : Nat) (hj : j < ks.length),
    ∃ c0 c1 c2 c3, w.cell? ⟨b, off + j * 4, none⟩ = some c0 ∧ w.cell? ⟨b, off + j * 4 + 1, none⟩ = some c1 ∧ w.cell? ⟨b, off + j * 4 + 2, none⟩ = some c2 ∧ w.cell? ⟨b, off + j * 4 + 3, none⟩ = some c3 ∧ TmIn w ks[j] (.agg #[c0, c1, c2, c3])
  | [], _, _, j, hj => by simp at hj
  | t :: ts, off, h, 0, _ => by simpa using h.1
  | t :: ts, off, h, j + 1, hj => by
    have := TmsIn.at h.2 j (by simpa using hj)
    rw [show off + 4 + j * 4 = off + (j + 1) * 4 by omega] at this
    exact this

theorem tm_kid_lt {k n : Int} {s : ByteArray} {ks : List Tm} {t : Tm} (h : t ∈ ks) : SizeOf.sizeOf t < SizeOf.sizeOf (Tm.mk k s n ks) := by
  have := List.sizeOf_lt_of_mem h
  simp
  omega

/-- what is proved of a term where it is proved of its kids -/
theorem tm_ind {p : Tm → Prop} (h : ∀ k s n ks, (∀ t ∈ ks, p t) → p (.mk k s n ks)) (t : Tm) : p t := by
  have : ∀ m, ∀ t, SizeOf.sizeOf t < m → p t := by
    intro m
    induction m with
    | zero => intro t ht; omega
    | succ m ih =>
      intro t ht
      obtain ⟨k, s, n, ks⟩ := t
      exact h k s n ks fun t' h' => ih t' (by have := tm_kid_lt (k := k) (n := n) (s := s) h'; omega)
  exact this _ t (Nat.lt_succ_self _)

theorem wts_append (l m : List Tm) : wts (l ++ m) = wts l + wts m := by
  induction l with
  | nil => simp [wts, Tm.wt.wts]
  | cons t r ih => simp only [List.cons_append, wts, Tm.wt.wts] at *; omega
end Go.Proofs.Ytmhmlkdoaojimap

/- A term that comes in as an argument is one in memory. -/
namespace Go.Proofs.Ytmhmlkdoaojimap
open Go.ChangeShapes Go.WideShapes Go.ChangeAt Go.RowKit

theorem cellsTm : Try.prog.cellsOf 48 = 4 := by kernel_rfl
theorem cellsI : Try.prog.cellsOf 3 = 1 := by kernel_rfl
theorem cellsS : Try.prog.cellsOf 9 = 1 := by kernel_rfl
theorem cellsTmS : Try.prog.cellsOf 46 = 1 := by kernel_rfl
theorem laidOutT : laidOutB Try.prog = true := by kernel_rfl
theorem readsTm : Try.prog.readableRec 48 = true := by kernel_rfl
theorem rowTm : 48 < Try.prog.types.size := of_decide_eq_true (by kernel_rfl)

/-- terms lie in a row where each of them does -/
theorem tmsIn_of {w : World} {b : Nat} : ∀ (ks : List Tm) (off : Nat), (∀ j (hj : j < ks.length), ∃ c0 c1 c2 c3, w.cell? ⟨b, off + j * 4, none⟩ = some c0 ∧ w.cell? ⟨b, off + j * 4 + 1, none⟩ = some c1 ∧ w.cell? ⟨b, off + j * 4 + 2, none⟩ = some c2 ∧ w.cell? ⟨b, off + j * 4 + 3, none⟩ = some c3 ∧ TmIn w ks[j] (.agg #[c0, c1, c2, c3])) → TmsIn w ks b off
  | [], _, _ => by unfold TmsIn; trivial
  | t :: ts, off, h => by
    unfold TmsIn
    have h0 := h 0 (by simp)
    rw [Nat.zero_mul, Nat.add_zero] at h0
    refine ⟨h0, tmsIn_of ts (off + 4) fun j hj => ?_⟩
    have := h (j + 1) (by simpa using hj)
    rw [show off + (j + 1) * 4 = off + 4 + j * 4 by omega] at this
    exact this

set_option maxRecDepth 20000 in
theorem tm_of_trod {H : Type} {enc : TypeId × Value → H} {W : World} : ∀ (fuel : Nat) (cs : List Value) (x : DataW H × List MemPlace),
    DataW.trod enc Try.prog W 0 (fun _ => true) true fuel 48 cs = some x → ∃ t c0 c1 c2 c3, cs = [c0, c1, c2, c3] ∧ TmIn W t (.agg #[c0, c1, c2, c3]) := by
  intro fuel
  induction fuel using Nat.strongRecOn with
  | ind fuel ih =>
    intro cs x h
    obtain ⟨xs, n, hfu, rfl, hl, hxs, hf⟩ := DataW.trod_struct Try.underlying48 h
    rw [cellsTm] at hl
    match cs, hl with
    | [c0, c1, c2, c3], _ =>
      match xs, hxs with
      | [y0, y1, y2, y3], _ =>
        have h0 := hf 0 _ rfl
        have h1 := hf 1 _ rfl
        have h2 := hf 2 _ rfl
        have h3 := hf 3 _ rfl
        simp [cellsI, cellsS, cellsTmS] at h0 h1 h2 h3
        obtain ⟨k, hk, _, wk⟩ := DataW.trod_int Try.underlying3 h0
        obtain ⟨str, hs, _, ws⟩ := DataW.trod_string Try.underlying9 h1
        obtain ⟨num, hn, _, wn⟩ := DataW.trod_int Try.underlying3 h2
        simp only [List.cons.injEq, and_true] at hk hs hn
        subst hk hs hn
        have bk := bounds_i64 wk
        have bn := bounds_i64 wn
        rcases DataW.trod_slice Try.underlying46 h3 with ⟨hc, _⟩ | ⟨a, len, cap, elems, rest, m, hm, hc, _, _, hlc, hcm, hel, hat, _, _⟩
        · simp only [List.cons.injEq, and_true] at hc
          subst hc
          refine ⟨.mk k str num [], _, _, _, _, rfl, ?_⟩
          unfold TmIn
          exact ⟨none, 0, rfl, bk, bn, ws, Nat.le_refl _, Nat.zero_le _, fun h => absurd rfl h⟩
        · simp only [List.cons.injEq, and_true] at hc
          subst hc
          have each : ∀ i, i < len → ∃ t c0 c1 c2 c3, W.cell? (a.add (i * 4)) = some c0 ∧ W.cell? ((a.add (i * 4)).add 1) = some c1 ∧ W.cell? ((a.add (i * 4)).add 2) = some c2 ∧ W.cell? ((a.add (i * 4)).add 3) = some c3 ∧ TmIn W t (.agg #[c0, c1, c2, c3]) := fun i hi => by
            have hi' := hat i hi
            rw [List.getElem?_eq_getElem (by omega), cellsTm] at hi'
            obtain ⟨cs', hcs', htr⟩ := Option.bind_eq_some_iff.1 hi'
            obtain ⟨t, d0, d1, d2, d3, rfl, hin⟩ := ih m (by omega) cs' _ htr
            obtain ⟨_, _, hcell⟩ := World.cells?_some hcs'
            exact ⟨t, d0, d1, d2, d3, hcell 0 (by omega), hcell 1 (by omega), hcell 2 (by omega), hcell 3 (by omega), hin⟩
          obtain ⟨f, hfall⟩ : ∃ f : Nat → Tm, ∀ i, i < len → ∃ c0 c1 c2 c3, W.cell? (a.add (i * 4)) = some c0 ∧ W.cell? ((a.add (i * 4)).add 1) = some c1 ∧ W.cell? ((a.add (i * 4)).add 2) = some c2 ∧ W.cell? ((a.add (i * 4)).add 3) = some c3 ∧ TmIn W (f i) (.agg #[c0, c1, c2, c3]) := by
            refine ⟨fun i => if h : i < len then Classical.choose (each i h) else .mk 0 ⟨#[]⟩ 0 [], fun i hi => ?_⟩
            have := Classical.choose_spec (each i hi)
            simpa only [hi, dif_pos] using this
          refine ⟨.mk k str num ((List.range len).map f), _, _, _, _, rfl, ?_⟩
          unfold TmIn
          refine ⟨some a, cap, by simp, bk, bn, ws, by simpa using hlc, hcm, fun hne => ?_⟩
          have hpos : 0 < len := by
            rcases Nat.eq_zero_or_pos len with h | h
            · subst h; simp at hne
            · exact h
          obtain ⟨b, off, sp⟩ := a
          have hsp : sp = none := by
            obtain ⟨c0, _, _, _, hc0, _⟩ := hfall 0 hpos
            cases sp with
            | none => rfl
            | some z =>
              unfold World.cell? at hc0
              split at hc0
              · simp [Addr.add] at hc0
              · cases hc0
          subst hsp
          refine ⟨b, off, rfl, tmsIn_of _ off fun j hj => ?_⟩
          rw [List.length_map, List.length_range] at hj
          have := hfall j hj
          simp only [Addr.add_lit] at this
          simpa using this

set_option maxRecDepth 20000 in
/-- the argument itself -/
theorem tm_split {H : Type} {enc : TypeId × Value → H} {W : World} {base : Nat} {v : Value} {d : DataW H} {ps : List MemPlace} (hok : Value.okWide Try.prog W .any base 48 v)
    (h : DataW.Trod enc Try.prog W 0 (fun _ => true) true 48 v d ps) : ∃ t, TmIn W t v := by
  obtain ⟨cs, rfl, hsz⟩ := okWide_struct Try.underlying48 hok
  obtain ⟨fuel, hf⟩ := h
  obtain ⟨t, c0, c1, c2, c3, hc, hin⟩ := tm_of_trod fuel _ _ hf
  have e : cs = #[c0, c1, c2, c3] := by
    have hc' : cs.toList = [c0, c1, c2, c3] := hc
    apply Array.toList_inj.1
    rw [hc']
  exact ⟨t, e ▸ hin⟩
end Go.Proofs.Ytmhmlkdoaojimap

/- A clause that comes in as an argument is one in memory. -/
namespace Go.Proofs.Ytmhmlkdoaojimap
open Go.ChangeShapes Go.WideShapes Go.ChangeAt Go.RowKit

theorem cellsCl : Try.prog.cellsOf 50 = 9 := by kernel_rfl
theorem readsCl : Try.prog.readableRec 50 = true := by kernel_rfl
theorem rowCl : 50 < Try.prog.types.size := of_decide_eq_true (by kernel_rfl)
set_option maxRecDepth 20000 in
theorem cl_of_trod {H : Type} {enc : TypeId × Value → H} {W : World} (fuel : Nat) (cs : List Value) (x : DataW H × List MemPlace) (h : DataW.trod enc Try.prog W 0 (fun _ => true) true fuel 50 cs = some x) :
    ∃ t u f c0 c1 c2 c3 c4 c5 c6 c7, cs = [c0, c1, c2, c3, c4, c5, c6, c7, .string f] ∧ f.size ≤ maxLen ∧ TmIn W t (.agg #[c0, c1, c2, c3]) ∧ TmIn W u (.agg #[c4, c5, c6, c7]) := by
  obtain ⟨xs, n, hfu, rfl, hl, hxs, hf⟩ := DataW.trod_struct Try.underlying50 h
  rw [cellsCl] at hl
  match cs, hl with
  | [c0, c1, c2, c3, c4, c5, c6, c7, c8], _ =>
    match xs, hxs with
    | [y0, y1, y2], _ =>
      have h0 := hf 0 _ rfl
      have h1 := hf 1 _ rfl
      have h2 := hf 2 _ rfl
      simp [cellsTm, cellsS] at h0 h1 h2
      obtain ⟨t, d0, d1, d2, d3, e0, i0⟩ := tm_of_trod _ _ _ h0
      obtain ⟨u, e4, e5, e6, e7, e1, i1⟩ := tm_of_trod _ _ _ h1
      obtain ⟨str, hs, _, ws⟩ := DataW.trod_string Try.underlying9 h2
      simp only [List.cons.injEq, and_true] at e0 e1 hs
      obtain ⟨rfl, rfl, rfl, rfl⟩ := e0
      obtain ⟨rfl, rfl, rfl, rfl⟩ := e1
      subst hs
      exact ⟨t, u, str, _, _, _, _, _, _, _, _, rfl, ws, i0, i1⟩
set_option maxRecDepth 20000 in
/-- the argument itself -/
theorem cl_split {H : Type} {enc : TypeId × Value → H} {W : World} {base : Nat} {v : Value} {d : DataW H} {ps : List MemPlace} (hok : Value.okWide Try.prog W .any base 50 v)
    (h : DataW.Trod enc Try.prog W 0 (fun _ => true) true 50 v d ps) : ∃ t u f c0 c1 c2 c3 c4 c5 c6 c7, v = .agg #[c0, c1, c2, c3, c4, c5, c6, c7, .string f] ∧ f.size ≤ maxLen ∧ TmIn W t (.agg #[c0, c1, c2, c3]) ∧ TmIn W u (.agg #[c4, c5, c6, c7]) := by
  obtain ⟨cs, rfl, hsz⟩ := okWide_struct Try.underlying50 hok
  obtain ⟨fuel, hf⟩ := h
  obtain ⟨t, u, f, c0, c1, c2, c3, c4, c5, c6, c7, hc, h1, h2, h3⟩ := cl_of_trod fuel _ _ hf
  have e : cs = #[c0, c1, c2, c3, c4, c5, c6, c7, .string f] := by
    have hc' : cs.toList = [c0, c1, c2, c3, c4, c5, c6, c7, .string f] := hc
    apply Array.toList_inj.1
    rw [hc']
  exact ⟨t, u, f, c0, c1, c2, c3, c4, c5, c6, c7, by rw [e], h1, h2, h3⟩
end Go.Proofs.Ytmhmlkdoaojimap

/- A row of clauses in memory, and a row of strings. -/
namespace Go.Proofs.Ytmhmlkdoaojimap
open Go.RowKit

/-- a clause: two terms and a text -/
structure Cla where
  h : Tm
  b : Tm
  f : ByteArray
def Cla.wt (c : Cla) : Nat := c.h.wt + c.b.wt + c.f.size
def claWts : List Cla → Nat
  | [] => 0
  | c :: cs => c.wt + claWts cs
theorem claWts_append (a b : List Cla) : claWts (a ++ b) = claWts a + claWts b := by
  induction a with
  | nil => simp [claWts]
  | cons c cs ih => simp only [List.cons_append, claWts, ih]; omega

/-- a clause lies at a place, nine cells -/
def ClaAt (w : World) (c : Cla) (b off : Nat) : Prop :=
  ∃ k1 s1 n1 a1 l1 m1 k2 s2 n2 a2 l2 m2, w.cell? ⟨b, off, none⟩ = some (.int .i64 k1) ∧ w.cell? ⟨b, off + 1, none⟩ = some (.string s1) ∧ w.cell? ⟨b, off + 2, none⟩ = some (.int .i64 n1) ∧ w.cell? ⟨b, off + 3, none⟩ = some (.slice a1 l1 m1) ∧
    w.cell? ⟨b, off + 4, none⟩ = some (.int .i64 k2) ∧ w.cell? ⟨b, off + 5, none⟩ = some (.string s2) ∧ w.cell? ⟨b, off + 6, none⟩ = some (.int .i64 n2) ∧ w.cell? ⟨b, off + 7, none⟩ = some (.slice a2 l2 m2) ∧ w.cell? ⟨b, off + 8, none⟩ = some (.string c.f) ∧
    c.f.size ≤ maxLen ∧ TmIn w c.h (.agg #[.int .i64 k1, .string s1, .int .i64 n1, .slice a1 l1 m1]) ∧ TmIn w c.b (.agg #[.int .i64 k2, .string s2, .int .i64 n2, .slice a2 l2 m2])
theorem ClaAt.keep {w w' : World} {c : Cla} {b off : Nat} (h : ClaAt w c b off) (hb : Below w.heap.size w w') : ClaAt w' c b off := by
  obtain ⟨k1, s1, n1, a1, l1, m1, k2, s2, n2, a2, l2, m2, h0, h1, h2, h3, h4, h5, h6, h7, h8, hf, i1, i2⟩ := h
  exact ⟨k1, s1, n1, a1, l1, m1, k2, s2, n2, a2, l2, m2, cell_keep h0 hb, cell_keep h1 hb, cell_keep h2 hb, cell_keep h3 hb, cell_keep h4 hb, cell_keep h5 hb, cell_keep h6 hb, cell_keep h7 hb, cell_keep h8 hb, hf, TmIn.keep hb _ _ i1, TmIn.keep hb _ _ i2⟩

/-- a slice of clauses -/
def ClsIn (w : World) (cs : List Cla) (v : Value) : Prop :=
  ∃ ao cap, v = .slice ao cs.length cap ∧ cs.length ≤ cap ∧ cap ≤ maxLen ∧ (cs ≠ [] → ∃ b off, ao = some ⟨b, off, none⟩ ∧ ∀ j (hj : j < cs.length), ClaAt w cs[j] b (off + j * 9))
theorem ClsIn.keep {w w' : World} {cs : List Cla} {v : Value} (h : ClsIn w cs v) (hb : Below w.heap.size w w') : ClsIn w' cs v := by
  obtain ⟨ao, cap, rfl, h1, h2, h3⟩ := h
  refine ⟨ao, cap, rfl, h1, h2, fun hne => ?_⟩
  obtain ⟨b, off, e, hr⟩ := h3 hne
  exact ⟨b, off, e, fun j hj => (hr j hj).keep hb⟩

/-- a slice of strings -/
def SsIn (w : World) (xs : List ByteArray) (v : Value) : Prop :=
  ∃ ao cap, v = .slice ao xs.length cap ∧ xs.length ≤ cap ∧ cap ≤ maxLen ∧ (xs ≠ [] → ∃ b off, ao = some ⟨b, off, none⟩ ∧ ∀ j (hj : j < xs.length), w.cell? ⟨b, off + j, none⟩ = some (.string xs[j]) ∧ xs[j].size ≤ maxLen)
theorem SsIn.keep {w w' : World} {xs : List ByteArray} {v : Value} (h : SsIn w xs v) (hb : Below w.heap.size w w') : SsIn w' xs v := by
  obtain ⟨ao, cap, rfl, h1, h2, h3⟩ := h
  refine ⟨ao, cap, rfl, h1, h2, fun hne => ?_⟩
  obtain ⟨b, off, e, hr⟩ := h3 hne
  exact ⟨b, off, e, fun j hj => ⟨cell_keep (hr j hj).1 hb, (hr j hj).2⟩⟩
def strWts : List ByteArray → Nat
  | [] => 0
  | x :: xs => x.size + strWts xs
theorem strWts_append (a b : List ByteArray) : strWts (a ++ b) = strWts a + strWts b := by
  induction a with
  | nil => simp [strWts]
  | cons c cs ih => simp only [List.cons_append, strWts, ih]; omega
end Go.Proofs.Ytmhmlkdoaojimap

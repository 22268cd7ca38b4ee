/- Four texts in one. -/
import Derived.Test.YtmhmlkdoaojimapMrg1
import Derived.WalkKit
import Derived.Test.YtmhmlkdoaojimapRows
import Derived.ProofKit
import Derived.Laws.AppendOwn
import Derived.Maps.AppendAt
/- A Db that comes in as an argument is a row of clauses and a row of strings in memory. -/
namespace Go.Proofs.Ytmhmlkdoaojimap
open Go.ChangeShapes Go.WideShapes Go.ChangeAt Go.RowKit

theorem cellsDb : Try.prog.cellsOf 25 = 2 := by kernel_rfl
theorem cellsClS : Try.prog.cellsOf 22 = 1 := by kernel_rfl
theorem cellsStS : Try.prog.cellsOf 23 = 1 := by kernel_rfl
theorem readsDb : Try.prog.readableRec 25 = true := by kernel_rfl
theorem rowDb : 25 < Try.prog.types.size := of_decide_eq_true (by kernel_rfl)

theorem tm_shape4 {w : World} {t : Tm} {c0 c1 c2 c3 : Value} (h : TmIn w t (.agg #[c0, c1, c2, c3])) : ∃ k s n a l m, c0 = .int .i64 k ∧ c1 = .string s ∧ c2 = .int .i64 n ∧ c3 = .slice a l m := by
  obtain ⟨k, s, n, ks⟩ := t
  unfold TmIn at h
  obtain ⟨ao, cap, e, _⟩ := h
  simp only [Value.agg.injEq, Array.mk.injEq, List.cons.injEq, and_true] at e
  obtain ⟨rfl, rfl, rfl, rfl⟩ := e
  exact ⟨_, _, _, _, _, _, rfl, rfl, rfl, rfl⟩

set_option maxRecDepth 20000 in
theorem cls_of_trod {H : Type} {enc : TypeId × Value → H} {W : World} (fuel : Nat) (c : Value) (x : DataW H × List MemPlace)
    (h3 : DataW.trod enc Try.prog W 0 (fun _ => true) true fuel 22 [c] = some x) : ∃ cs, ClsIn W cs c := by
  rcases DataW.trod_slice Try.underlying22 h3 with ⟨hc, _⟩ | ⟨a, len, cap, elems, rest, m, hm, hc, _, _, hlc, hcm, hel, hat, _, _⟩
  · simp only [List.cons.injEq, and_true] at hc
    subst hc
    exact ⟨[], none, 0, rfl, Nat.le_refl _, Nat.zero_le _, fun h => absurd rfl h⟩
  · simp only [List.cons.injEq, and_true] at hc
    subst hc
    obtain ⟨b, off, sp⟩ := a
    have spn : 0 < len → sp = none := fun hpos => by
      have hi' := hat 0 hpos
      rw [List.getElem?_eq_getElem (by omega), cellsCl] at hi'
      obtain ⟨cs', hcs', _⟩ := Option.bind_eq_some_iff.1 hi'
      obtain ⟨_, hl0, hcell⟩ := World.cells?_some hcs'
      obtain ⟨c9, h0⟩ : ∃ c9, W.cell? _ = some c9 := ⟨cs'[0], (hcell 0 (by omega)).trans (List.getElem?_eq_getElem (by omega))⟩
      cases sp with
      | none => rfl
      | some z =>
        unfold World.cell? at h0
        split at h0
        · simp [Addr.add] at h0
        · cases h0
    have each : ∀ i, i < len → ∃ c : Cla, ClaAt W c b (off + i * 9) := fun i hi => by
      have hsp : sp = none := spn (by omega)
      subst hsp
      have hi' := hat i hi
      rw [List.getElem?_eq_getElem (by omega), cellsCl] at hi'
      obtain ⟨cs', hcs', htr⟩ := Option.bind_eq_some_iff.1 hi'
      obtain ⟨t, u, f, c0, c1, c2, c3, c4, c5, c6, c7, rfl, hf, i1, i2⟩ := cl_of_trod m cs' _ htr
      obtain ⟨_, _, hcell⟩ := World.cells?_some hcs'
      obtain ⟨k1, s1, n1, a1, l1, m1, rfl, rfl, rfl, rfl⟩ := tm_shape4 i1
      obtain ⟨k2, s2, n2, a2, l2, m2, rfl, rfl, rfl, rfl⟩ := tm_shape4 i2
      have g := fun j hj => hcell j hj
      simp only [Addr.add_lit] at g
      exact ⟨⟨t, u, f⟩, k1, s1, n1, a1, l1, m1, k2, s2, n2, a2, l2, m2, by simpa using g 0 (by omega), by simpa using g 1 (by omega), by simpa using g 2 (by omega), by simpa using g 3 (by omega), by simpa using g 4 (by omega), by simpa using g 5 (by omega), by simpa using g 6 (by omega), by simpa using g 7 (by omega), by simpa using g 8 (by omega), hf, i1, i2⟩
    obtain ⟨f, hfall⟩ : ∃ f : Nat → Cla, ∀ i, i < len → ClaAt W (f i) b (off + i * 9) := by
      refine ⟨fun i => if h : i < len then Classical.choose (each i h) else ⟨.mk 0 ⟨#[]⟩ 0 [], .mk 0 ⟨#[]⟩ 0 [], ⟨#[]⟩⟩, fun i hi => ?_⟩
      have := Classical.choose_spec (each i hi)
      simpa only [hi, dif_pos] using this
    refine ⟨(List.range len).map f, some ⟨b, off, sp⟩, cap, by simp, by simpa using hlc, hcm, fun hne => ?_⟩
    have hpos : 0 < len := by
      rcases Nat.eq_zero_or_pos len with h | h
      · subst h; simp at hne
      · exact h
    have hsp : sp = none := spn hpos
    subst hsp
    refine ⟨b, off, rfl, fun j hj => ?_⟩
    rw [List.length_map, List.length_range] at hj
    have := hfall j hj
    simpa using this

set_option maxRecDepth 20000 in
theorem ss_of_trod {H : Type} {enc : TypeId × Value → H} {W : World} (fuel : Nat) (c : Value) (x : DataW H × List MemPlace)
    (h3 : DataW.trod enc Try.prog W 0 (fun _ => true) true fuel 23 [c] = some x) : ∃ xs, SsIn W xs c := by
  rcases DataW.trod_slice Try.underlying23 h3 with ⟨hc, _⟩ | ⟨a, len, cap, elems, rest, m, hm, hc, _, _, hlc, hcm, hel, hat, _, _⟩
  · simp only [List.cons.injEq, and_true] at hc
    subst hc
    exact ⟨[], none, 0, rfl, Nat.le_refl _, Nat.zero_le _, fun h => absurd rfl h⟩
  · simp only [List.cons.injEq, and_true] at hc
    subst hc
    obtain ⟨b, off, sp⟩ := a
    have spn : 0 < len → sp = none := fun hpos => by
      have hi' := hat 0 hpos
      rw [List.getElem?_eq_getElem (by omega), cellsS] at hi'
      obtain ⟨cs', hcs', _⟩ := Option.bind_eq_some_iff.1 hi'
      obtain ⟨_, hl0, hcell⟩ := World.cells?_some hcs'
      obtain ⟨c9, h0⟩ : ∃ c9, W.cell? _ = some c9 := ⟨cs'[0], (hcell 0 (by omega)).trans (List.getElem?_eq_getElem (by omega))⟩
      cases sp with
      | none => rfl
      | some z =>
        unfold World.cell? at h0
        split at h0
        · simp [Addr.add] at h0
        · cases h0
    have each : ∀ i, i < len → ∃ s : ByteArray, W.cell? ⟨b, off + i, none⟩ = some (.string s) ∧ s.size ≤ maxLen := fun i hi => by
      have hsp : sp = none := spn (by omega)
      subst hsp
      have hi' := hat i hi
      rw [List.getElem?_eq_getElem (by omega), cellsS] at hi'
      obtain ⟨cs', hcs', htr⟩ := Option.bind_eq_some_iff.1 hi'
      obtain ⟨str, hs, _, ws⟩ := DataW.trod_string Try.underlying9 htr
      subst hs
      obtain ⟨_, _, hcell⟩ := World.cells?_some hcs'
      have g := hcell 0 (by omega)
      simp only [Addr.add_lit] at g
      exact ⟨str, by simpa using g, ws⟩
    obtain ⟨f, hfall⟩ : ∃ f : Nat → ByteArray, ∀ i, i < len → W.cell? ⟨b, off + i, none⟩ = some (.string (f i)) ∧ (f i).size ≤ maxLen := by
      refine ⟨fun i => if h : i < len then Classical.choose (each i h) else ⟨#[]⟩, fun i hi => ?_⟩
      have := Classical.choose_spec (each i hi)
      simpa only [hi, dif_pos] using this
    refine ⟨(List.range len).map f, some ⟨b, off, sp⟩, cap, by simp, by simpa using hlc, hcm, fun hne => ?_⟩
    have hpos : 0 < len := by
      rcases Nat.eq_zero_or_pos len with h | h
      · subst h; simp at hne
      · exact h
    have hsp : sp = none := spn hpos
    subst hsp
    refine ⟨b, off, rfl, fun j hj => ?_⟩
    rw [List.length_map, List.length_range] at hj
    have := hfall j hj
    simpa using this

set_option maxRecDepth 20000 in
/-- the argument itself -/
theorem db_split {H : Type} {enc : TypeId × Value → H} {W : World} {base : Nat} {v : Value} {d : DataW H} {ps : List MemPlace} (hok : Value.okWide Try.prog W .any base 25 v)
    (h : DataW.Trod enc Try.prog W 0 (fun _ => true) true 25 v d ps) : ∃ cs xs c0 c1, v = .agg #[c0, c1] ∧ ClsIn W cs c0 ∧ SsIn W xs c1 := by
  obtain ⟨vs, rfl, hsz⟩ := okWide_struct Try.underlying25 hok
  obtain ⟨fuel, hf⟩ := h
  obtain ⟨xs, n, hfu, _, hl, hxs, hfs⟩ := DataW.trod_struct Try.underlying25 hf
  rw [cellsDb] at hl
  obtain ⟨c0, c1, hc⟩ : ∃ c0 c1, vs.toList = [c0, c1] := by
    match hcs : vs.toList, hl with
    | [c0, c1], _ => exact ⟨c0, c1, rfl⟩
  have e : vs = #[c0, c1] := by
    apply Array.toList_inj.1
    rw [hc]
  subst e
  match xs, hxs with
  | [y0, y1], _ =>
    have h0 := hfs 0 _ rfl
    have h1 := hfs 1 _ rfl
    simp [cellsClS, cellsStS] at h0 h1
    obtain ⟨ks, hk⟩ := cls_of_trod _ c0 _ h0
    obtain ⟨ss, hs⟩ := ss_of_trod _ c1 _ h1
    exact ⟨ks, ss, c0, c1, rfl, hk, hs⟩
end Go.Proofs.Ytmhmlkdoaojimap

/- What is left of a number of letters. Plain. -/
namespace Go.Proofs.Ytmhmlkdoaojimap
def szR (n : Nat) (left : Nat) : Int := if n ≤ left then ((left - n : Nat) : Int) else -1
end Go.Proofs.Ytmhmlkdoaojimap

/- The laws' size of a term. -/
namespace Go.Proofs.Ytmhmlkdoaojimap
open Go.RowKit


def SzOk (t : Tm) : Prop := ∀ (w : World) (v : Value) (left : Nat), TmIn w t v → left ≤ 1048576 →
  Calls Try.prog 39 #[v, .int .i64 (left : Int)] w fun e w' => e = .returned (.int .i64 (szR t.wt left)) ∧ Below w.heap.size w w'

theorem sz_terms (ks : List Tm) (hks : ∀ t ∈ ks, SzOk t) (w : World) (ao : Option Addr) (cap left : Nat) (hlen : ks.length ≤ maxLen) (h : ks ≠ [] → ∃ b off, ao = some ⟨b, off, none⟩ ∧ TmsIn w ks b off) (hl : left ≤ 1048576) :
    Calls Try.prog 44 #[.slice ao ks.length cap, .int .i64 (left : Int)] w fun e w' => e = .returned (.int .i64 (szR (ks.length + wts ks) left)) ∧ Below w.heap.size w w' := by
  unfold maxLen at hlen
  by_cases hk : ks.length ≤ left
  · go_enter Try.func44, Try.ntmps44
    go_wp2
    go_loopw [1, 5] (fun vl vi wr => Hid (Below w.heap.size w wr) ∧ ∃ j l : Nat, j ≤ ks.length ∧ vl = .int .i64 (l : Int) ∧ vi = .int .i64 (j : Int) ∧ Hid (l + ks.length + wts (ks.take j) = left)) (fun _ i _ => ks.length - (intOf i).toNat)
    case atStart => exact ⟨Below.refl _ _, 0, left - ks.length, by omega, by simp; omega, rfl, by show _ = _; simp [wts, Tm.wt.wts]; omega⟩
    case round =>
      obtain ⟨HB, j, l, hj, rfl, rfl, HL⟩ := hrel
      have hll : l ≤ 1048576 := by have := HL.out; omega
      by_cases hlt : j < ks.length
      · obtain ⟨b, off, rfl, hin⟩ := h (by intro e; subst e; simp at hlt)
        obtain ⟨c0, c1, c2, c3, h0, h1, h2, h3, ht⟩ := (TmsIn.keep HB.out ks b off hin).at j hlt
        have HC := hks ks[j] (List.getElem_mem hlt) wr _ l ht hll
        have hw : wts (ks.take (j + 1)) = wts (ks.take j) + ks[j].wt := by
          rw [List.take_succ_eq_append_getElem hlt, wts_append]; simp [wts, Tm.wt.wts]
        have HW : Hid _ := hw
        clear hin ht hw h hks
        by_cases hfit : ks[j].wt ≤ l
        · have e : szR ks[j].wt l = ((l - ks[j].wt : Nat) : Int) := if_pos hfit
          rw [e] at HC
          replace HC : Hid _ := HC
          clear e
          go_wp2_with (go_at_call 39; refine (Calls.mono HC.out ?_); rintro e w1 ⟨rfl, hb⟩; have HB1 : Hid (Below w.heap.size w w1) := HB.out.trans (hb.mono HB.out.size); clear hb)
          go_roundw
          case rel => exact ⟨HB1.out, j + 1, l - ks[j].wt, by omega, rfl, by go_num, by show _ = _; have := HL.out; have := HW.out; omega⟩
          case measure => simp [intOf]; omega
        · have e : szR ks[j].wt l = -1 := if_neg hfit
          rw [e] at HC
          replace HC : Hid _ := HC
          clear e
          have hr : szR (ks.length + wts ks) left = -1 := by
            have h1 := HL.out
            have h2 := HW.out
            have h3 : wts (ks.take (j + 1)) + wts (ks.drop (j + 1)) = wts ks := by rw [← wts_append, List.take_append_drop]
            unfold szR
            rw [if_neg (by omega)]
          have HR : Hid _ := hr
          clear hr
          go_wp2_with (go_at_call 39; refine (Calls.mono HC.out ?_); rintro e w1 ⟨rfl, hb⟩; have HB1 : Hid (Below w.heap.size w w1) := HB.out.trans (hb.mono HB.out.size); clear hb)
          go_ret
          exact ⟨by rw [HR.out]; rfl, HB1.out⟩
      · have hr : szR (ks.length + wts ks) left = (l : Int) := by
          have h1 := HL.out
          rw [List.take_of_length_le (by omega)] at h1
          unfold szR
          rw [if_pos (by omega)]
          omega
        have HR : Hid _ := hr
        clear hr
        go_wp2
        go_ret
        exact ⟨by rw [HR.out]; rfl, HB.out⟩
  · have hr : szR (ks.length + wts ks) left = -1 := by unfold szR; rw [if_neg (by omega)]
    rw [hr]
    go_enter Try.func44, Try.ntmps44
    go_wp2
    go_ret
    exact ⟨rfl, Below.refl _ _⟩

theorem sz_term (t : Tm) : SzOk t := by
  refine tm_ind (p := SzOk) ?_ t
  clear t
  intro k s n ks hks w v left hin hl
  obtain ⟨ao, cap, rfl, hk, hn, hs, hlen, hcap, hrow⟩ := hin
  have HS : Hid (∀ w', Below w.heap.size w w' → ∀ l : Nat, l ≤ 1048576 → Calls Try.prog 44 #[.slice ao ks.length cap, .int .i64 (l : Int)] w' fun e w2 => e = .returned (.int .i64 (szR (ks.length + wts ks) l)) ∧ Below w'.heap.size w' w2) := fun w' hb l h =>
    sz_terms ks hks w' ao cap l (by omega) (fun h0 => by obtain ⟨b, off, e, hr⟩ := hrow h0; exact ⟨b, off, e, TmsIn.keep hb ks b off hr⟩) h
  clear hks hrow
  unfold maxLen at *
  have ew : (Tm.mk k s n ks).wt = s.size + (ks.length + wts ks) := by simp [Tm.wt, wts]; omega
  rw [ew]
  generalize ks.length + wts ks = m at *
  have hb1 : Below w.heap.size w (w.alloc (.cells #[.int .i64 k, .string s, .int .i64 n, .slice ao ks.length cap] 48)) := (Below.refl _ _).alloc (Nat.le_refl _) _
  by_cases h1 : s.size ≤ left
  · by_cases h2 : m ≤ left - s.size
    · have e1 : szR m (left - s.size) = ((left - s.size - m : Nat) : Int) := if_pos h2
      have e2 : szR (s.size + m) left = ((left - s.size - m : Nat) : Int) := by unfold szR; rw [if_pos (by omega)]; omega
      rw [e2]
      have HC := HS.out _ hb1 (left - s.size) (by omega)
      rw [e1, show ((left - s.size : Nat) : Int) = (left : Int) - (s.size : Int) by omega] at HC
      replace HC : Hid _ := HC
      replace hb1 : Hid _ := hb1
      clear e1 e2 HS
      go_enter Try.func39, Try.ntmps39
      go_wp2_with (go_at_call 44; refine (Calls.mono HC.out ?_); rintro e w1 ⟨rfl, hb⟩; have HB1 : Hid (Below w.heap.size w w1) := hb1.out.trans (hb.mono hb1.out.size); clear hb)
      go_ret
      exact ⟨rfl, HB1.out⟩
    · have e1 : szR m (left - s.size) = -1 := if_neg h2
      have e2 : szR (s.size + m) left = -1 := by unfold szR; rw [if_neg (by omega)]
      rw [e2]
      have HC := HS.out _ hb1 (left - s.size) (by omega)
      rw [e1, show ((left - s.size : Nat) : Int) = (left : Int) - (s.size : Int) by omega] at HC
      replace HC : Hid _ := HC
      replace hb1 : Hid _ := hb1
      clear e1 e2 HS
      go_enter Try.func39, Try.ntmps39
      go_wp2_with (go_at_call 44; refine (Calls.mono HC.out ?_); rintro e w1 ⟨rfl, hb⟩; have HB1 : Hid (Below w.heap.size w w1) := hb1.out.trans (hb.mono hb1.out.size); clear hb)
      go_ret
      exact ⟨rfl, HB1.out⟩
  · have e2 : szR (s.size + m) left = -1 := by unfold szR; rw [if_neg (by omega)]
    rw [e2]
    clear HS e2
    go_enter Try.func39, Try.ntmps39
    go_wp2
    go_ret
    exact ⟨rfl, hb1⟩
end Go.Proofs.Ytmhmlkdoaojimap

/- Terms whose rows of kids lie each in a block of its own: the blocks, and what stays where they stay. Of no program. -/
namespace Go.Proofs.Ytmhmlkdoaojimap
open Go.RowKit

mutual
/-- the value v is the term in w, its rows in the blocks F, in the order in which they are met -/
def Own (e : TypeId) (w : World) : Tm → Value → List Nat → Prop
  | .mk k s n ks, v, F => ∃ sl, v = .agg #[.int .i64 k, .string s, .int .i64 n, sl] ∧ (-9223372036854775808 ≤ k ∧ k ≤ 9223372036854775807) ∧ (-9223372036854775808 ≤ n ∧ n ≤ 9223372036854775807) ∧ s.size ≤ maxLen ∧
    ((sl = .slice none 0 0 ∧ ks = [] ∧ F = []) ∨ ∃ g cap cs F', sl = .slice (some ⟨g, 0, none⟩) ks.length cap ∧ w.ownsRow 0 e 4 sl ks.length cs ∧ F = g :: F' ∧ OwnRow e w ks cs F')
/-- .. the cells of a row, four each -/
def OwnRow (e : TypeId) (w : World) : List Tm → List Value → List Nat → Prop
  | [], cs, F => cs = [] ∧ F = []
  | t :: ts, cs, F => ∃ c0 c1 c2 c3 cs' F1 F2, cs = c0 :: c1 :: c2 :: c3 :: cs' ∧ F = F1 ++ F2 ∧ Own e w t (.agg #[c0, c1, c2, c3]) F1 ∧ OwnRow e w ts cs' F2
end

/-- a slice of terms, its own row and theirs -/
def OwnS (e : TypeId) (w : World) (ks : List Tm) (sl : Value) (F : List Nat) : Prop :=
  (sl = .slice none 0 0 ∧ ks = [] ∧ F = []) ∨ ∃ g cap cs F', sl = .slice (some ⟨g, 0, none⟩) ks.length cap ∧ w.ownsRow 0 e 4 sl ks.length cs ∧ F = g :: F' ∧ OwnRow e w ks cs F'

theorem own_mk {e : TypeId} {w : World} {k n : Int} {s : ByteArray} {ks : List Tm} {sl : Value} {F : List Nat} (h : OwnS e w ks sl F) (hk : -9223372036854775808 ≤ k ∧ k ≤ 9223372036854775807) (hn : -9223372036854775808 ≤ n ∧ n ≤ 9223372036854775807) (hs : s.size ≤ maxLen) :
    Own e w (.mk k s n ks) (.agg #[.int .i64 k, .string s, .int .i64 n, sl]) F := by
  unfold Own
  exact ⟨sl, rfl, hk, hn, hs, h⟩

theorem own_open {e : TypeId} {w : World} {k n : Int} {s : ByteArray} {ks : List Tm} {v : Value} {F : List Nat} (h : Own e w (.mk k s n ks) v F) :
    ∃ sl, v = .agg #[.int .i64 k, .string s, .int .i64 n, sl] ∧ OwnS e w ks sl F := by
  unfold Own at h
  obtain ⟨sl, rfl, _, _, _, h⟩ := h
  exact ⟨sl, rfl, h⟩

theorem row_keep {w w' : World} {B e size n g cap : Nat} {xs : List Value} (h : w.ownsRow B e size (.slice (some ⟨g, 0, none⟩) n cap) n xs) (hb : w'.heap[g]? = w.heap[g]?) : w'.ownsRow B e size (.slice (some ⟨g, 0, none⟩) n cap) n xs := by
  refine ⟨h.1, ?_⟩
  rcases h.2 with ⟨h, _⟩ | ⟨g', cap', cur, h1, h2, h3, h4⟩
  · cases h
  · cases h1
    exact Or.inr ⟨g, cap, cur, rfl, h2, hb.trans h3, h4⟩

mutual
theorem Own.keep {e : TypeId} {w w' : World} : ∀ (t : Tm) (v : Value) (F : List Nat), Own e w t v F → (∀ f ∈ F, w'.heap[f]? = w.heap[f]?) → Own e w' t v F
  | .mk k s n ks, v, F, h, hF => by
    unfold Own at h ⊢
    obtain ⟨sl, rfl, h1, h2, h3, h4⟩ := h
    refine ⟨sl, rfl, h1, h2, h3, ?_⟩
    rcases h4 with h4 | ⟨g, cap, cs, F', rfl, h5, rfl, h6⟩
    · exact Or.inl h4
    · exact Or.inr ⟨g, cap, cs, F', rfl, row_keep h5 (hF g (by simp)), rfl, OwnRow.keep ks cs F' h6 (fun f hf => hF f (by simp [hf]))⟩
theorem OwnRow.keep {e : TypeId} {w w' : World} : ∀ (ks : List Tm) (cs : List Value) (F : List Nat), OwnRow e w ks cs F → (∀ f ∈ F, w'.heap[f]? = w.heap[f]?) → OwnRow e w' ks cs F
  | [], _, _, h, _ => by unfold OwnRow at h ⊢; exact h
  | t :: ts, cs, F, h, hF => by
    unfold OwnRow at h ⊢
    obtain ⟨c0, c1, c2, c3, cs', F1, F2, rfl, rfl, h1, h2⟩ := h
    exact ⟨c0, c1, c2, c3, cs', F1, F2, rfl, rfl, Own.keep t _ F1 h1 (fun f hf => hF f (by simp [hf])), OwnRow.keep ts cs' F2 h2 (fun f hf => hF f (by simp [hf]))⟩
end

mutual
theorem Own.lt {e : TypeId} {w : World} : ∀ (t : Tm) (v : Value) (F : List Nat), Own e w t v F → ∀ f ∈ F, f < w.heap.size
  | .mk k s n ks, v, F, h => by
    unfold Own at h
    obtain ⟨sl, rfl, h1, h2, h3, h4⟩ := h
    rcases h4 with ⟨_, _, rfl⟩ | ⟨g, cap, cs, F', rfl, h5, rfl, h6⟩
    · intro f hf; cases hf
    · intro f hf
      rcases List.mem_cons.1 hf with rfl | hf
      · exact (h5.lt _ rfl).2
      · exact OwnRow.lt ks cs F' h6 f hf
theorem OwnRow.lt {e : TypeId} {w : World} : ∀ (ks : List Tm) (cs : List Value) (F : List Nat), OwnRow e w ks cs F → ∀ f ∈ F, f < w.heap.size
  | [], _, _, h => by unfold OwnRow at h; obtain ⟨_, rfl⟩ := h; intro f hf; cases hf
  | t :: ts, cs, F, h => by
    unfold OwnRow at h
    obtain ⟨c0, c1, c2, c3, cs', F1, F2, rfl, rfl, h1, h2⟩ := h
    intro f hf
    rcases List.mem_append.1 hf with hf | hf
    · exact Own.lt t _ F1 h1 f hf
    · exact OwnRow.lt ts cs' F2 h2 f hf
end

mutual
theorem Own.toIn {e : TypeId} {w : World} : ∀ (t : Tm) (v : Value) (F : List Nat), Own e w t v F → TmIn w t v
  | .mk k s n ks, v, F, h => by
    unfold Own at h
    obtain ⟨sl, rfl, h1, h2, h3, h4⟩ := h
    unfold TmIn
    rcases h4 with ⟨rfl, rfl, _⟩ | ⟨g, cap, cs, F', rfl, h5, rfl, h6⟩
    · exact ⟨none, 0, rfl, h1, h2, h3, Nat.le_refl _, Nat.zero_le _, fun h => absurd rfl h⟩
    · have h5' := h5
      rcases h5.2 with ⟨h, _⟩ | ⟨g', cap', cur, hc, _, hh, hnc, hcm, hcs, htk⟩
      · cases h
      · cases hc
        refine ⟨_, cap, rfl, h1, h2, h3, hnc, hcm, fun _ => ⟨g, 0, rfl, OwnRow.toIn ks cs F' g 0 h6 fun i hi => ?_⟩⟩
        have := h5'.cellAt i (by rw [← h5'.1]; exact hi)
        rw [Nat.zero_add]
        rw [this]
theorem OwnRow.toIn {e : TypeId} {w : World} : ∀ (ks : List Tm) (cs : List Value) (F : List Nat) (g off : Nat), OwnRow e w ks cs F → (∀ i, i < cs.length → w.cell? ⟨g, off + i, none⟩ = cs[i]?) → TmsIn w ks g off
  | [], _, _, _, _, _, _ => by unfold TmsIn; trivial
  | t :: ts, cs, F, g, off, h, hc => by
    unfold OwnRow at h
    obtain ⟨c0, c1, c2, c3, cs', F1, F2, rfl, rfl, h1, h2⟩ := h
    unfold TmsIn
    refine ⟨⟨c0, c1, c2, c3, hc 0 (by simp), hc 1 (by simp), hc 2 (by simp), hc 3 (by simp), Own.toIn t _ F1 h1⟩, OwnRow.toIn ts cs' F2 g (off + 4) h2 fun i hi => ?_⟩
    have := hc (i + 4) (by simp only [List.length_cons]; omega)
    rw [show off + (i + 4) = off + 4 + i by omega] at this
    rw [this]
    simp
end

theorem OwnS.keep {e : TypeId} {w w' : World} {ks : List Tm} {sl : Value} {F : List Nat} (h : OwnS e w ks sl F) (hF : ∀ f ∈ F, w'.heap[f]? = w.heap[f]?) : OwnS e w' ks sl F := by
  rcases h with h | ⟨g, cap, cs, F', rfl, h5, rfl, h6⟩
  · exact Or.inl h
  · exact Or.inr ⟨g, cap, cs, F', rfl, row_keep h5 (hF g (by simp)), rfl, OwnRow.keep ks cs F' h6 (fun f hf => hF f (by simp [hf]))⟩

theorem OwnRow.snoc {e : TypeId} {w : World} {t : Tm} {c0 c1 c2 c3 : Value} {F2 : List Nat} (h2 : Own e w t (.agg #[c0, c1, c2, c3]) F2) : ∀ (ks : List Tm) (cs : List Value) (F : List Nat), OwnRow e w ks cs F → OwnRow e w (ks ++ [t]) (cs ++ [c0, c1, c2, c3]) (F ++ F2)
  | [], _, _, h => by
    unfold OwnRow at h
    obtain ⟨rfl, rfl⟩ := h
    unfold OwnRow
    exact ⟨c0, c1, c2, c3, [], F2, [], rfl, by simp, h2, by unfold OwnRow; exact ⟨rfl, rfl⟩⟩
  | t' :: ts, cs, F, h => by
    unfold OwnRow at h
    obtain ⟨d0, d1, d2, d3, cs', F1, F3, rfl, rfl, h1, h3⟩ := h
    show OwnRow e w (t' :: (ts ++ [t])) _ _
    unfold OwnRow
    exact ⟨d0, d1, d2, d3, cs' ++ [c0, c1, c2, c3], F1, F3 ++ F2, by simp, by simp, h1, OwnRow.snoc h2 ts cs' F3 h3⟩

theorem OwnRow.len {e : TypeId} {w : World} : ∀ (ks : List Tm) (cs : List Value) (F : List Nat), OwnRow e w ks cs F → cs.length = ks.length * 4
  | [], _, _, h => by unfold OwnRow at h; obtain ⟨rfl, _⟩ := h; rfl
  | t :: ts, cs, F, h => by
    unfold OwnRow at h
    obtain ⟨c0, c1, c2, c3, cs', F1, F2, rfl, rfl, h1, h2⟩ := h
    have := OwnRow.len ts cs' F2 h2
    simp only [List.length_cons]
    omega

theorem own_shape {e : TypeId} {w : World} {t : Tm} {v : Value} {F : List Nat} (h : Own e w t v F) : ∃ k s n ao len cap, v = .agg #[.int .i64 k, .string s, .int .i64 n, .slice ao len cap] := by
  obtain ⟨k, s, n, ks⟩ := t
  obtain ⟨sl, rfl, h1⟩ := own_open h
  rcases h1 with ⟨rfl, _⟩ | ⟨g, cap, cs, F', rfl, _⟩
  · exact ⟨_, _, _, _, _, _, rfl⟩
  · exact ⟨_, _, _, _, _, _, rfl⟩

theorem blk_cell {w : World} {g i : Nat} {cur : Array Value} {T : TypeId} {fr : Nat × Nat} (h : w.heap[g]? = some (.cells cur T fr)) (hi : i < cur.size) : w.cell? ⟨g, i, none⟩ = some cur[i] := by
  unfold World.cell?; rw [h]; simp [hi]
theorem blk_frozen {w : World} {g : Nat} {cur : Array Value} {T : TypeId} (h : w.heap[g]? = some (.cells cur T (0, 0))) (i : Nat) : w.frozen? ⟨g, i, none⟩ = false := by
  unfold World.frozen?; rw [h]; simp
theorem blk_set {w : World} {g i : Nat} {cur : Array Value} {T : TypeId} {fr : Nat × Nat} (h : w.heap[g]? = some (.cells cur T fr)) (v : Value) : (w.setCell ⟨g, i, none⟩ v).heap[g]? = some (.cells (cur.setIfInBounds i v) T fr) := by
  simp [World.setCell, Array.getElem?_modify, h]
theorem blk_other {w : World} {g i f : Nat} (v : Value) (hf : f ≠ g) : (w.setCell ⟨g, i, none⟩ v).heap[f]? = w.heap[f]? := by
  simp [World.setCell, Array.getElem?_modify, Ne.symm hf]
theorem set4_take {cur : Array Value} {j : Nat} {d0 d1 d2 d3 : Value} (h : j * 4 + 3 < cur.size) :
    ((((cur.setIfInBounds (j * 4) d0).setIfInBounds (j * 4 + 1) d1).setIfInBounds (j * 4 + 2) d2).setIfInBounds (j * 4 + 3) d3).toList.take ((j + 1) * 4) = cur.toList.take (j * 4) ++ [d0, d1, d2, d3] := by
  apply List.ext_getElem?
  intro i
  have hl : cur.toList.length = cur.size := by simp
  simp only [Array.toList_setIfInBounds, List.getElem?_take, List.getElem?_set, List.length_set, List.getElem?_append, List.length_take, hl]
  have e1 : min (j * 4) cur.size = j * 4 := by omega
  rw [e1]
  by_cases h1 : i < j * 4
  · have a1 : i < (j + 1) * 4 := by omega
    have a2 : ¬ j * 4 = i := by omega
    have a3 : ¬ j * 4 + 1 = i := by omega
    have a4 : ¬ j * 4 + 2 = i := by omega
    have a5 : ¬ j * 4 + 3 = i := by omega
    simp [h1, a1, a2, a3, a4, a5]
  · by_cases h2 : i < (j + 1) * 4
    · have : i = j * 4 ∨ i = j * 4 + 1 ∨ i = j * 4 + 2 ∨ i = j * 4 + 3 := by omega
      rcases this with rfl | rfl | rfl | rfl
      · have b1 : j * 4 < cur.size := by omega
        simp [h2, b1]
      · have b1 : j * 4 + 1 < cur.size := by omega
        simp [h2, b1]
        omega
      · have b1 : j * 4 + 2 < cur.size := by omega
        simp [h2, b1]
        omega
      · simp [h2, h]
        omega
    · have : ¬ i - j * 4 < 4 := by omega
      have a6 : [d0, d1, d2, d3][i - j * 4]? = none := by
        rw [List.getElem?_eq_none]; simp; omega
      simp [h1, h2, a6]
end Go.Proofs.Ytmhmlkdoaojimap

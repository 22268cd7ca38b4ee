/- Four texts in one. -/
import Derived.Test.YtmhmlkdoaojimapMrg7
import Derived.Test.YtmhmlkdoaojimapMrg5
import Derived.BigQuiet
import Derived.Laws.OwnMore
import Derived.Test.YtmhmlkdoaojimapMrg6
import Derived.Test.YtmhmlkdoaojimapMrg4
import Derived.Test.YtmhmlkdoaojimapMrg3
import Derived.Deep.DeepCutAuto
/- Rows of texts that a call owns, and the laws' three walks over them: held alike, marked, and found marked. -/
namespace Go.Proofs.Ytmhmlkdoaojimap
open Go.RowKit Go.BigFrame

def strsV (xs : List (List UInt8)) : List Value := xs.map fun l => Value.string ⟨l.toArray⟩
theorem strsV_len (xs : List (List UInt8)) : (strsV xs).length = xs.length := by simp [strsV]
theorem strsV_get (xs : List (List UInt8)) (j : Nat) (h : j < xs.length) : (strsV xs)[j]? = some (Value.string ⟨xs[j].toArray⟩) := by simp [strsV, h]
theorem strsV_append (xs ys : List (List UInt8)) : strsV (xs ++ ys) = strsV xs ++ strsV ys := by simp [strsV]

theorem owns_base {w : World} {B B' e size n : Nat} {v : Value} {xs : List Value} (h : w.ownsRow B e size v n xs) (hB : B' ≤ B) : w.ownsRow B' e size v n xs := by
  refine ⟨h.1, ?_⟩
  rcases h.2 with h | ⟨g, cap, cur, h1, h2, h3⟩
  · exact Or.inl h
  · exact Or.inr ⟨g, cap, cur, h1, Nat.le_trans hB h2, h3⟩

theorem owns_below {w w' : World} {B e size n : Nat} {v : Value} {xs : List Value} (h : w.ownsRow B e size v n xs) (hb : Below w.heap.size w w') : w'.ownsRow B e size v n xs := by
  refine ⟨h.1, ?_⟩
  rcases h.2 with h | ⟨g, cap, cur, h1, h2, h3, h4⟩
  · exact Or.inl h
  · exact Or.inr ⟨g, cap, cur, h1, h2, (hb.block g (Array.getElem?_eq_some_iff.1 h3).1).trans h3, h4⟩

theorem below_draw (B : Nat) (w : World) (n : Nat) : Below B w (w.drewN n) := ⟨rfl, rfl, rfl, Nat.le_refl _, fun _ _ => rfl⟩

set_option maxHeartbeats 1000000 in
theorem eqS_same (xs : List (List UInt8)) (a b : Value) (w : World) (hl : xs.length ≤ 1100000) (ha : w.ownsRow 0 9 1 a xs.length (strsV xs)) (hb : w.ownsRow 0 9 1 b xs.length (strsV xs)) :
    Calls Try.prog 21 #[a, b] w fun e w' => e = .returned (.bool true) ∧ Below w.heap.size w w' := by
  by_cases h0 : xs = []
  · subst h0
    rcases ha.2 with ⟨rfl, _⟩ | ⟨g, cap, cur, rfl, _⟩
    all_goals
      rcases hb.2 with ⟨rfl, _⟩ | ⟨g', cap', cur', rfl, _⟩
      all_goals
        clear ha hb
        go_enter Try.func21, Try.ntmps21
        go_wp2
        refine wp_loop_rounds 1 ?_
        rw [rounds_succ]
        go_wp2
        go_ret
        exact ⟨rfl, Below.refl _ _⟩
  · have hpos : 0 < xs.length := List.length_pos_iff.2 h0
    have ha' := ha
    have hb' := hb
    rcases ha.2 with ⟨rfl, hz⟩ | ⟨g, cap, cur, rfl, _⟩
    · omega
    rcases hb.2 with ⟨rfl, hz⟩ | ⟨g', cap', cur', rfl, _⟩
    · omega
    clear ha hb h0
    have hne : ((xs.length : Int) != (xs.length : Int)) = false := by simp
    go_enter Try.func21, Try.ntmps21
    go_wp2
    go_loopw [5] (fun i wr => ∃ k : Nat, k ≤ xs.length ∧ i = .int .i64 k ∧ Below w.heap.size w wr) (fun i _ => xs.length - (intOf i).toNat)
    case atStart => exact ⟨0, Nat.zero_le _, rfl, Below.refl _ _⟩
    case round =>
      obtain ⟨k, hk, rfl, hbel⟩ := hrel
      have ra := owns_below ha' hbel
      have rb := owns_below hb' hbel
      by_cases hlt : k < xs.length
      · have ca : wr.cell? ⟨g, k, none⟩ = some (.string ⟨xs[k].toArray⟩) := (ra.cellAt k (by omega)).trans (strsV_get xs k hlt)
        have cb : wr.cell? ⟨g', k, none⟩ = some (.string ⟨xs[k].toArray⟩) := (rb.cellAt k (by omega)).trans (strsV_get xs k hlt)
        clear ra rb
        go_wp2
        go_quiet (fail)
        go_wp2
        go_roundw
        case rel => exact ⟨k + 1, by omega, by go_num, hbel.trans (below_draw _ _ _)⟩
        case measure => simp [intOf]; omega
      · clear ra rb
        go_wp2
        go_ret
        exact ⟨rfl, hbel⟩

def marks (n : Nat) : List (List UInt8) := (List.range n).map fun j => mkS (j + 1)
theorem marks_len (n : Nat) : (marks n).length = n := by simp [marks]
theorem marks_get (n j : Nat) (h : j < n) : (marks n)[j]? = some (mkS (j + 1)) := by simp [marks, h]
theorem marks_succ (n : Nat) : marks (n + 1) = marks n ++ [mkS (n + 1)] := by simp [marks, List.range_succ]

theorem strsV_set (xs : List (List UInt8)) (j : Nat) (l : List UInt8) : (strsV xs).set j (Value.string ⟨l.toArray⟩) = strsV (xs.set j l) := by
  simp [strsV, List.map_set]

theorem take_set (ys : List (List UInt8)) (i : Nat) (l : List UInt8) (h : i < ys.length) : (ys.set i l).take (i + 1) = ys.take i ++ [l] := by
  rw [List.take_succ_eq_append_getElem (by simpa using h), List.getElem_set_self, List.take_set_of_le (Nat.le_refl _)]

end Go.Proofs.Ytmhmlkdoaojimap

/- laws.eqDb of the same. -/
namespace Go.Proofs.Ytmhmlkdoaojimap
open Go.RowKit

theorem cell_of_row {w : World} {g : Nat} {cur : Array Value} {e : TypeId} {i : Nat} {v : Value} (h : w.heap[g]? = some (.cells cur e (0, 0))) (hi : cur[i]? = some v) : w.cell? ⟨g, i, none⟩ = some v := by
  unfold World.cell?
  simp only
  rw [h]
  exact hi

/-- a row of clauses of its own is one in memory -/
theorem OwnClS.toIn {ec e : TypeId} {w : World} {ks : List Cla} {sl : Value} {F : List Nat} (h : OwnClS ec e w ks sl F) : ClsIn w ks sl := by
  rcases h with ⟨rfl, rfl, rfl⟩ | ⟨g, cap, cs, F', rfl, h5, rfl, h6⟩
  · exact ⟨none, 0, rfl, Nat.le_refl _, Nat.zero_le _, fun h => absurd rfl h⟩
  · obtain ⟨hl, h5⟩ := h5
    rcases h5 with ⟨h5, _⟩ | ⟨g', cap', cur, e', _, hblk, hc1, hc2, hc3, hc4⟩
    · cases h5
    · simp only [Value.slice.injEq, Option.some.injEq, Addr.mk.injEq, and_true, true_and] at e'
      obtain ⟨rfl, rfl⟩ := e'
      refine ⟨_, cap, rfl, hc1, hc2, fun _ => ⟨g, 0, rfl, fun j hj => ?_⟩⟩
      obtain ⟨F1, ⟨k1, s1, n1, a1, l1, m1, k2, s2, n2, a2, l2, m2, F2, F3, hcc, _, hf, o1, o2⟩, _⟩ := h6.at j hj
      have hat : ∀ i, i < 9 → ∀ v, ((cs.drop (j * 9)).take 9)[i]? = some v → w.cell? ⟨g, 0 + j * 9 + i, none⟩ = some v := fun i hi v hv => by
        refine cell_of_row hblk ?_
        rw [List.getElem?_take, if_pos hi, List.getElem?_drop, ← hc4, List.getElem?_take] at hv
        split at hv
        · rw [Nat.zero_add]; simpa using hv
        · cases hv
      rw [hcc] at hat
      exact ⟨k1, s1, n1, a1, l1, m1, k2, s2, n2, a2, l2, m2, hat 0 (by omega) _ rfl, hat 1 (by omega) _ rfl, hat 2 (by omega) _ rfl, hat 3 (by omega) _ rfl, hat 4 (by omega) _ rfl, hat 5 (by omega) _ rfl, hat 6 (by omega) _ rfl, hat 7 (by omega) _ rfl, hat 8 (by omega) _ rfl, hf, Own.toIn _ _ _ o1, Own.toIn _ _ _ o2⟩

theorem owns_shape {w : World} {B e size n : Nat} {v : Value} {xs : List Value} (h : w.ownsRow B e size v n xs) : ∃ ao l c, v = .slice ao l c := by
  rcases h.2 with ⟨rfl, _⟩ | ⟨g, cap, cur, rfl, _⟩
  · exact ⟨_, _, _, rfl⟩
  · exact ⟨_, _, _, rfl⟩

set_option maxRecDepth 20000 in
theorem eq_db (cs : List Cla) (xs : List (List UInt8)) (w : World) (sa ta sb tb : Value) (ha : ClsIn w cs sa) (hb : ClsIn w cs sb) (hl : xs.length ≤ 1100000) (ga : w.ownsRow 0 9 1 ta xs.length (strsV xs)) (gb : w.ownsRow 0 9 1 tb xs.length (strsV xs)) :
    Calls Try.prog 8 #[.agg #[sa, ta], .agg #[sb, tb]] w fun e w' => e = .returned (.bool true) ∧ Below w.heap.size w w' := by
  obtain ⟨W, hW⟩ : ∃ W, W = (w.alloc (.cells #[sa, ta] 29)).alloc (.cells #[sb, tb] 29) := ⟨_, rfl⟩
  have bW : Below w.heap.size w W := by rw [hW]; exact ((Below.refl _ _).alloc (Nat.le_refl _) _).alloc (by simp) _
  have k1' : W.heap[w.heap.size]? = some (.cells #[sa, ta] 29 (0, 0)) := by rw [hW]; exact (alloc_old _ _ (by simp)).trans (alloc_at _ _ rfl)
  have k2' : W.heap[w.heap.size + 1]? = some (.cells #[sb, tb] 29 (0, 0)) := by rw [hW]; exact alloc_at _ _ (by simp)
  have HK : Hid (∀ w1, Below W.heap.size W w1 → w1.heap[w.heap.size]? = some (.cells #[sa, ta] 29 (0, 0)) ∧ w1.heap[w.heap.size + 1]? = some (.cells #[sb, tb] 29 (0, 0))) := fun w1 hb => ⟨(hb.block _ (Array.getElem?_eq_some_iff.1 k1').1).trans k1', (hb.block _ (Array.getElem?_eq_some_iff.1 k2').1).trans k2'⟩
  have HC1 : Hid _ := eq_clauses cs W sa sb (ha.keep bW) (hb.keep bW)
  have HC2 : Hid (∀ w1, Below W.heap.size W w1 → Calls Try.prog 21 #[ta, tb] w1 fun e w' => e = .returned (.bool true) ∧ Below w1.heap.size w1 w') := fun w1 h1 => eqS_same xs ta tb w1 hl (owns_below (owns_below ga bW) h1) (owns_below (owns_below gb bW) h1)
  have HBW : Hid (Below w.heap.size w W) := bW
  obtain ⟨a1, p1, rfl, -⟩ := ha
  obtain ⟨a2, p2, rfl, -⟩ := hb
  obtain ⟨a3, l3, p3, rfl⟩ := owns_shape ga
  obtain ⟨a4, l4, p4, rfl⟩ := owns_shape gb
  clear bW k1' k2' ga gb hl
  go_enter Try.func8, Try.ntmps8
  go_upto_region 1 with fail
  rw [← hW]
  clear hW
  have y0 := blk_cell (i := 0) (HK.out W (Below.refl _ _)).1 (by simp)
  have z0 := blk_cell (i := 0) (HK.out W (Below.refl _ _)).2 (by simp)
  go_upto_region 3 with (go_at_call 20; refine (Calls.mono HC1.out ?_); rintro e w1 ⟨rfl, hb⟩; have HB1 : Hid (Below W.heap.size W w1) := hb; clear hb)
  clear y0 z0
  have y0 := blk_cell (i := 1) (HK.out w1 HB1.out).1 (by simp)
  have z0 := blk_cell (i := 1) (HK.out w1 HB1.out).2 (by simp)
  have HC3 : Hid _ := HC2.out w1 HB1.out
  go_wp2_with (go_at_call 21; refine (Calls.mono HC3.out ?_); rintro e w2 ⟨rfl, hb⟩; have HB2 : Hid (Below W.heap.size W w2) := HB1.out.trans (hb.mono HB1.out.size); clear hb)
  go_ret
  exact ⟨rfl, HBW.out.trans (HB2.out.mono HBW.out.size)⟩
end Go.Proofs.Ytmhmlkdoaojimap

/- Rows of strings, and the two cells of a Db. -/
namespace Go.Proofs.Ytmhmlkdoaojimap
open Go.RowKit

theorem strWt_le {xs : List ByteArray} {x : ByteArray} (h : x ∈ xs) : x.size ≤ strWts xs := by
  induction xs with
  | nil => cases h
  | cons a r ih =>
    simp only [strWts]
    rcases List.mem_cons.1 h with rfl | h
    · omega
    · have := ih h; omega

theorem owns_ss {w : World} {sl : Value} {xs : List ByteArray} (h : w.ownsRow 0 9 1 sl xs.length (xs.map Value.string)) (hs : ∀ x ∈ xs, x.size ≤ maxLen) : SsIn w xs sl := by
  rcases h.2 with ⟨rfl, hl⟩ | ⟨g, cap, cur, rfl, _, hh, hnc, hcm, hcs, htk⟩
  · exact ⟨none, 0, by rw [hl], by omega, by unfold maxLen; omega, fun hne => absurd (List.eq_nil_of_length_eq_zero hl) hne⟩
  · refine ⟨_, cap, rfl, hnc, hcm, fun _ => ⟨g, 0, rfl, fun j hj => ⟨?_, hs _ (List.getElem_mem hj)⟩⟩⟩
    rw [Nat.zero_add]
    refine cell_of_row hh ?_
    have h1 : (xs.map Value.string)[j]? = some (.string xs[j]) := by simp [hj]
    rw [← htk, List.getElem?_take] at h1
    split at h1
    · simpa using h1
    · cases h1

theorem ownsRow_zero {w : World} {B e size n : Nat} {v : Value} {xs : List Value} (h : w.ownsRow B e size v n xs) : w.ownsRow 0 e size v n xs := by
  rcases h.2 with ⟨rfl, hl⟩ | ⟨g, cap, cur, rfl, _, hh⟩
  · exact ⟨h.1, Or.inl ⟨rfl, hl⟩⟩
  · exact ⟨h.1, Or.inr ⟨g, cap, cur, rfl, Nat.zero_le _, hh⟩⟩
theorem db_two {w1 : World} {p : Nat} {a b : Value} (hk : w1.heap[p]? = some (.cells #[.slice none 0 0, .slice none 0 0] 29 (0, 0))) : ((w1.setCell ⟨p, 0, none⟩ a).setCell ⟨p, 1, none⟩ b).heap[p]? = some (.cells #[a, b] 29 (0, 0)) := by
  simpa using blk_set (i := 1) (blk_set (i := 0) hk a) b

/-- the clauses and names that come back, in memory of their own -/
def DbOut (w : World) (cs : List Cla) (xs : List ByteArray) (e : Ending) (w' : World) : Prop :=
  ∃ sl F k g, e = .returned (.agg #[sl, .slice (some ⟨g, 0, none⟩) xs.length k]) ∧ OwnClS 56 54 w' cs sl F ∧ w'.ownsRow 0 9 1 (.slice (some ⟨g, 0, none⟩) xs.length k) xs.length (xs.map Value.string) ∧
      (∀ f ∈ F, w.heap.size ≤ f) ∧ F.Nodup ∧ w.heap.size ≤ g ∧ g ∉ F ∧ Below w.heap.size w w'

end Go.Proofs.Ytmhmlkdoaojimap

/- A Db in memory of its own, for the laws' frames. -/
namespace Go.Proofs.Ytmhmlkdoaojimap
open Go.RowKit

/-- the texts as lists of bytes -/
def strL (xs : List ByteArray) : List (List UInt8) := xs.map fun x => x.data.toList
theorem strL_v (xs : List ByteArray) : strsV (strL xs) = xs.map Value.string := by
  simp [strsV, strL]
theorem strL_len (xs : List ByteArray) : (strL xs).length = xs.length := by simp [strL]

/-- the clauses and the names, each row in blocks of its own -/
def DbOwn (w : World) (cs : List Cla) (xs : List ByteArray) (c0 c1 : Value) (F : List Nat) : Prop :=
  ∃ a p g k F0, c0 = .slice a cs.length p ∧ c1 = .slice (some ⟨g, 0, none⟩) xs.length k ∧ OwnClS 56 54 w cs c0 F0 ∧ w.ownsRow 0 9 1 c1 xs.length (xs.map Value.string) ∧ F = F0 ++ [g] ∧ F.Nodup
theorem dbOwn_of {w : World} {cs : List Cla} {xs : List ByteArray} {sl : Value} {F : List Nat} {g k : Nat} (h1 : OwnClS 56 54 w cs sl F) (h2 : w.ownsRow 0 9 1 (.slice (some ⟨g, 0, none⟩) xs.length k) xs.length (xs.map Value.string)) (h3 : F.Nodup) (h4 : g ∉ F) : DbOwn w cs xs sl (.slice (some ⟨g, 0, none⟩) xs.length k) (F ++ [g]) := by
  obtain ⟨a, p, rfl⟩ := ownClS_shape h1
  exact ⟨a, p, g, k, F, rfl, rfl, h1, h2, rfl, List.nodup_append.2 ⟨h3, by simp, fun x hx y hy e => h4 (by simp at hy; rw [← hy, ← e]; exact hx)⟩⟩
theorem DbOwn.lt {w : World} {cs : List Cla} {xs : List ByteArray} {c0 c1 : Value} {F : List Nat} (h : DbOwn w cs xs c0 c1 F) : ∀ x ∈ F, x < w.heap.size := by
  obtain ⟨a, p, g, k, F0, rfl, rfl, h1, h2, rfl, _⟩ := h
  intro x hx
  rcases List.mem_append.1 hx with hx | hx
  · exact h1.lt x hx
  · obtain rfl : x = g := by simpa using hx
    exact (h2.lt x rfl).2
theorem DbOwn.keep {w w' : World} {cs : List Cla} {xs : List ByteArray} {c0 c1 : Value} {F : List Nat} (h : DbOwn w cs xs c0 c1 F) (hF : ∀ x ∈ F, w'.heap[x]? = w.heap[x]?) : DbOwn w' cs xs c0 c1 F := by
  obtain ⟨a, p, g, k, F0, rfl, rfl, h1, h2, rfl, h3⟩ := h
  exact ⟨a, p, g, k, F0, rfl, rfl, h1.keep fun f hf => hF f (by simp [hf]), row_keep h2 (hF g (by simp)), rfl, h3⟩
theorem DbOwn.below {w w' : World} {cs : List Cla} {xs : List ByteArray} {c0 c1 : Value} {F : List Nat} (h : DbOwn w cs xs c0 c1 F) (hb : Below w.heap.size w w') : DbOwn w' cs xs c0 c1 F := h.keep fun x hx => hb.block x (h.lt x hx)
theorem DbOwn.shape {w : World} {cs : List Cla} {xs : List ByteArray} {c0 c1 : Value} {F : List Nat} (h : DbOwn w cs xs c0 c1 F) : ∃ a p b l k, c0 = .slice a cs.length p ∧ c1 = .slice b l k := by
  obtain ⟨a, p, g, k, F0, rfl, rfl, _⟩ := h
  exact ⟨a, p, _, _, k, rfl, rfl⟩

theorem to_dbO (cs : List Cla) (xs : List ByteArray) (w : World) (c0 c1 : Value) (h : ClsIn w cs c0) (hx : SsIn w xs c1) (hl1 : cs.length + claWts cs ≤ 1048576) (hl2 : xs.length ≤ 1048576) :
    Calls Try.prog 6 #[.agg #[c0, c1]] w fun e w' => ∃ d0 d1 F, e = .returned (.agg #[d0, d1]) ∧ DbOwn w' cs xs d0 d1 F ∧ (∀ x ∈ F, w.heap.size ≤ x) ∧ Below w.heap.size w w' := by
  refine Calls.mono (to_db cs xs w c0 c1 h hx hl1 hl2) ?_
  rintro e w' ⟨sl, F, g, rfl, o1, o2, o3, o4, o5, o6, o7⟩
  refine ⟨_, _, _, rfl, dbOwn_of o1 o2 o4 o6, fun x hx => ?_, o7⟩
  rcases List.mem_append.1 hx with hx | hx
  · exact o3 x hx
  · obtain rfl : x = g := by simpa using hx
    exact o5
theorem eq_dbO (cs : List Cla) (xs : List ByteArray) (w : World) (c0 c1 d0 d1 : Value) (F G : List Nat) (h : DbOwn w cs xs c0 c1 F) (h' : DbOwn w cs xs d0 d1 G) (hl : xs.length ≤ 1100000) :
    Calls Try.prog 8 #[.agg #[c0, c1], .agg #[d0, d1]] w fun e w' => e = .returned (.bool true) ∧ Below w.heap.size w w' := by
  obtain ⟨a, p, g, k, F0, rfl, rfl, h1, h2, rfl, _⟩ := h
  obtain ⟨a', p', g', k', F0', rfl, rfl, h1', h2', rfl, _⟩ := h'
  have q1 := h2
  have q2 := h2'
  rw [← strL_v, ← strL_len xs] at q1 q2
  have := eq_db cs (strL xs) w _ _ _ _ h1.toIn h1'.toIn (by rw [strL_len]; exact hl) q1 q2
  rw [strL_len] at this
  exact this
/-- as an argument of one that only reads it -/
theorem DbOwn.args {w : World} {cs : List Cla} {xs : List ByteArray} {c0 c1 : Value} {F : List Nat} (h : DbOwn w cs xs c0 c1 F) (hs : ∀ x ∈ xs, x.size ≤ maxLen) : ClsIn w cs c0 ∧ SsIn w xs c1 ∧ ∃ F0, OwnClS 56 54 w cs c0 F0 ∧ F0.Nodup := by
  obtain ⟨a, p, g, k, F0, rfl, rfl, h1, h2, rfl, h3⟩ := h
  exact ⟨h1.toIn, owns_ss h2 hs, F0, h1, (List.nodup_append.1 h3).1⟩
end Go.Proofs.Ytmhmlkdoaojimap

/- Four texts in one. -/
import Derived.Test.YtceclkcmiaehkaoGreatDoorMrg3
import Derived.WalkKit
import Derived.BigQuiet
import Derived.Test.YtceclkcmiaehkaoGreatDoorMrg4
import Derived.Test.YtceclkcmiaehkaoGreatDoorMrg5
import Derived.Test.YtceclkcmiaehkaoGreatDoorMrg6
import Derived.Deep.DeepCutAuto
/- A block of four cells. Of no program. -/
namespace Go.Proofs.YtceclkcmiaehkaoGreatDoor
open Go.RowKit

theorem blk4 {w : World} {g : Nat} {c0 c1 c2 c3 : Value} {T : TypeId} (h : w.heap[g]? = some (.cells #[c0, c1, c2, c3] T (0, 0))) :
    w.cell? ⟨g, 0, none⟩ = some c0 ∧ w.cell? ⟨g, 1, none⟩ = some c1 ∧ w.cell? ⟨g, 2, none⟩ = some c2 ∧ w.cell? ⟨g, 3, none⟩ = some c3 ∧ w.frozen? ⟨g, 0, none⟩ = false ∧ w.frozen? ⟨g, 1, none⟩ = false ∧ w.frozen? ⟨g, 2, none⟩ = false ∧ w.frozen? ⟨g, 3, none⟩ = false :=
  ⟨blk_cell (i := 0) h (by simp), blk_cell (i := 1) h (by simp), blk_cell (i := 2) h (by simp), blk_cell (i := 3) h (by simp), blk_frozen h 0, blk_frozen h 1, blk_frozen h 2, blk_frozen h 3⟩

/-- four cells of a block set, one behind the other -/
theorem blk4_set {w : World} {g : Nat} {c0 c1 c2 c3 d0 d1 d2 d3 : Value} {T : TypeId} (h : w.heap[g]? = some (.cells #[c0, c1, c2, c3] T (0, 0))) :
    ((((w.setCell ⟨g, 0, none⟩ d0).setCell ⟨g, 1, none⟩ d1).setCell ⟨g, 2, none⟩ d2).setCell ⟨g, 3, none⟩ d3).heap[g]? = some (.cells #[d0, d1, d2, d3] T (0, 0)) := by
  have := blk_set (i := 3) (blk_set (i := 2) (blk_set (i := 1) (blk_set (i := 0) h d0) d1) d2) d3
  simpa using this
theorem blk4_other {w : World} {g f : Nat} {d0 d1 d2 d3 : Value} (h : f ≠ g) :
    ((((w.setCell ⟨g, 0, none⟩ d0).setCell ⟨g, 1, none⟩ d1).setCell ⟨g, 2, none⟩ d2).setCell ⟨g, 3, none⟩ d3).heap[f]? = w.heap[f]? := by
  rw [blk_other _ h, blk_other _ h, blk_other _ h, blk_other _ h]
theorem blk4_below {B : Nat} {w w' : World} {g : Nat} {d0 d1 d2 d3 : Value} (hb : Below B w w') (hg : B ≤ g) :
    Below B w ((((w'.setCell ⟨g, 0, none⟩ d0).setCell ⟨g, 1, none⟩ d1).setCell ⟨g, 2, none⟩ d2).setCell ⟨g, 3, none⟩ d3) :=
  below_set (below_set (below_set (below_set hb hg _) hg _) hg _) hg _

end Go.Proofs.YtceclkcmiaehkaoGreatDoor

/- A region that draws its order, reads memory, and holds calls which make memory, but whose values do not hang on what is made: walked once, in the order of the text, over all worlds that are as the first one was below its end. -/
namespace Go.Proofs.YtceclkcmiaehkaoGreatDoor
open Go.RowKit

/-- any world that is as W was below W's end (and W itself in the place of any other) -/
noncomputable def later (W u : World) : World := @ite _ (Below W.heap.size W u) (Classical.propDecidable _) u W

theorem later_below (W u : World) : Below W.heap.size W (later W u) := by
  unfold later
  split
  · assumption
  · exact Below.refl _ _
theorem later_of {W u : World} (h : Below W.heap.size W u) : u = later W u := by
  unfold later
  rw [if_pos h]

theorem wp_region_later {P : Program} {id : Nat} {Q : Exit → Act → World → Prop} {a : Act} {w : World} {l : List Oper} (hm : P.follows .mixedOrders = true) (hB : Region.lexB .any l.toArray = true)
    (h : wpQuiet P l.toArray (fun w' => ∃ u, w' = later w u) (fun a' => ∀ w', (∃ u, w' = later w u) → Q .normal a' w') l a) : (Code.region id l.toArray true).wp P Q a w :=
  wp_region_quiet (C := fun w' => ∃ u, w' = later w u) hm hB ⟨w.drew, later_of (Below.refl w.heap.size w).drew⟩ (by simpa using h)
theorem Calls.later_of_below {P : Program} {f : FuncId} {args : Array Value} {w u : World} {v : Value} (h : Calls P f args (later w u) fun e w' => e = .returned v ∧ Below (later w u).heap.size (later w u) w') :
    Calls P f args (later w u) fun e w' => e = .returned v ∧ ∃ u', w' = later w u' :=
  h.mono fun _ w' ⟨he, hb⟩ => ⟨he, w', later_of ((later_below w u).trans (hb.mono (later_below w u).size))⟩
theorem Calls.later_of_same {P : Program} {f : FuncId} {args : Array Value} {w u : World} {v : Value} (h : Calls P f args (later w u) fun e w' => e = .returned v ∧ w' = later w u) :
    Calls P f args (later w u) fun e w' => e = .returned v ∧ ∃ u', w' = later w u' :=
  h.mono fun _ _ ⟨he, hb⟩ => ⟨he, u, hb⟩
end Go.Proofs.YtceclkcmiaehkaoGreatDoor

/- The specification's l07Op, l03Is; what a right term is, kind by kind. -/
namespace Go.Proofs.YtceclkcmiaehkaoGreatDoor
open Go.RowKit

theorem opV_agg (o : Option OpP) : ∃ (a : ByteArray) (b c d : Int), opV o = .agg #[.string a, .int .i64 b, .int .i64 c, .int .i64 d] := by
  cases o with
  | none => exact ⟨_, _, _, _, rfl⟩
  | some o => exact ⟨_, _, _, _, rfl⟩
set_option maxHeartbeats 1000000 in
theorem s_op (s : ByteArray) (w : World) :
    Calls Tryz.prog 19 #[.string s] w fun e w' => e = .returned (.bool (isOpB s)) ∧ Below w.heap.size w w' := by
  have HI : Hid _ := fun w => c_infix s w
  have HP : Hid _ := fun w => c_prefix s w
  unfold isOpB
  obtain ⟨a0, a1, a2, a3, ea⟩ := opV_agg (infixP s)
  obtain ⟨b0, b1, b2, b3, eb⟩ := opV_agg (prefixP s)
  rw [ea] at HI
  rw [eb] at HP
  generalize (infixP s).isSome = x at *
  generalize (prefixP s).isSome = y at *
  clear ea eb
  cases x <;> cases y
  all_goals
    go_enter Tryz.func19, Tryz.ntmps19
    go_wp2_with (first
      | (go_at_call 23; refine (Calls.mono (HI.out _) ?_); rintro e w1 ⟨rfl, b1⟩; have B1 : Hid (Below w.heap.size w w1) := b1; clear b1)
      | (go_at_call 32; refine (Calls.mono (HP.out _) ?_); rintro e w2 ⟨rfl, b2⟩; have B2 : Hid (Below w.heap.size w w2) := (B1.out.alloc B1.out.size _).trans (b2.mono (by have := B1.out.size; simp; omega)); clear b2))
    go_ret
    exact ⟨rfl, B2.out.alloc B2.out.size _⟩

def isPairB (k : Int) (s : ByteArray) (l : Nat) : Bool := decide (k = 4) && decide (s = cDot) && decide (l = 2)
set_option maxHeartbeats 1000000 in
theorem s_pair (k : Int) (s : ByteArray) (n : Int) (ao : Option Addr) (l cap : Nat) (w : World) (hl : l ≤ maxLen) :
    Calls Tryz.prog 21 #[.agg #[.int .i64 k, .string s, .int .i64 n, .slice ao l cap], .string ⟨#[46]⟩, .int .i64 2] w fun e w' => e = .returned (.bool (isPairB k s l)) ∧ Below w.heap.size w w' := by
  unfold maxLen at hl
  have hb0 : Hid (Below w.heap.size w (w.alloc (.cells #[.int .i64 k, .string s, .int .i64 n, .slice ao l cap] 29))) := (Below.refl _ _).alloc (Nat.le_refl _) _
  obtain ⟨r, hr⟩ : ∃ r, r = isPairB k s l := ⟨_, rfl⟩
  have HV : Hid (r = isPairB k s l) := hr
  rw [← hr]
  clear hr
  by_cases h1 : k = 4
  · subst h1
    by_cases h2 : s = ⟨#[46]⟩
    · subst h2
      by_cases h3 : l = 2
      · subst h3
        go_enter Tryz.func21, Tryz.ntmps21
        go_wp2
        go_ret
        exact ⟨by rw [HV.out]; rfl, hb0.out⟩
      · have h3' : ((l : Int) == 2) = false := beq_eq_false_iff_ne.2 (by omega)
        have HF : Hid (isPairB 4 ⟨#[46]⟩ l = false) := by show _ = _; simp [isPairB, h3]
        clear h3
        go_enter Tryz.func21, Tryz.ntmps21
        go_wp2
        go_ret
        exact ⟨by rw [HV.out, HF.out]; rfl, hb0.out⟩
    · have h2' := toL_ne (l := [46]) h2
      have HF : Hid (isPairB 4 s l = false) := by
        have : ¬ s = cDot := h2
        show _ = _; simp [isPairB, this]
      clear h2
      go_enter Tryz.func21, Tryz.ntmps21
      go_wp2
      go_ret
      exact ⟨by rw [HV.out, HF.out]; rfl, hb0.out⟩
  · have h1' : (k == 4) = false := beq_eq_false_iff_ne.2 h1
    have HF : Hid (isPairB k s l = false) := by show _ = _; simp [isPairB, h1]
    clear h1
    go_enter Tryz.func21, Tryz.ntmps21
    go_wp2
    go_ret
    exact ⟨by rw [HV.out, HF.out]; rfl, hb0.out⟩

/-- what a right term is -/
theorem right_kinds {k : Int} {s : ByteArray} {n : Int} {ks : List Tm} {d : Nat} (h : (Tm.mk k s n ks).right d = true) :
    ((k = 1 ∨ k = 3) ∧ s.size = 0 ∧ -999999999 ≤ n ∧ n ≤ 999999999 ∧ ks = [] ∧ (k = 1 → 0 ≤ n)) ∨ (k = 2 ∧ s.size ≤ 20 ∧ n = 0 ∧ ks = []) ∨ (k = 4 ∧ s.size ≤ 20 ∧ n = 0 ∧ 1 ≤ ks.length ∧ ks.length ≤ 5) := by
  rw [right_mk, Bool.and_eq_true, Bool.and_eq_true] at h
  obtain ⟨⟨_, h⟩, _⟩ := h
  unfold oneT at h
  by_cases h1 : k = 1
  · rw [if_pos h1] at h
    simp only [Bool.and_eq_true, decide_eq_true_eq] at h
    exact Or.inl ⟨Or.inl h1, h.1.2, by omega, by omega, List.eq_nil_of_length_eq_zero h.2, fun _ => h.1.1.1⟩
  by_cases h2 : k = 2
  · rw [if_neg h1, if_pos h2] at h
    simp only [nameOk, Bool.and_eq_true, decide_eq_true_eq] at h
    exact Or.inr (Or.inl ⟨h2, by omega, h.1.2, List.eq_nil_of_length_eq_zero h.2⟩)
  by_cases h3 : k = 3
  · rw [if_neg h1, if_neg h2, if_pos h3] at h
    simp only [Bool.and_eq_true, decide_eq_true_eq] at h
    exact Or.inl ⟨Or.inr h3, h.1.2, by omega, by omega, List.eq_nil_of_length_eq_zero h.2, fun e => absurd e h1⟩
  rw [if_neg h1, if_neg h2, if_neg h3] at h
  split at h
  · rename_i h4
    simp only [nameOk, Bool.and_eq_true, decide_eq_true_eq] at h
    exact Or.inr (Or.inr ⟨h4, by omega, h.1.2, h.2.1, h.2.2⟩)
  · cases h
theorem right_kid {k : Int} {s : ByteArray} {n : Int} {ks : List Tm} {d : Nat} (h : (Tm.mk k s n ks).right d = true) {u : Tm} (hu : u ∈ ks) : u.right (d + 1) = true := by
  rw [right_mk, Bool.and_eq_true, Bool.and_eq_true, rights_all, List.all_eq_true] at h
  exact h.2 u hu
theorem n_kid {ks : List Tm} {u : Tm} (hu : u ∈ ks) : u.n ≤ ns ks := by
  induction ks with
  | nil => cases hu
  | cons a r ih =>
    have e : ns (a :: r) = a.n + ns r := by simp [ns, Tm.n.ns]
    rcases List.mem_cons.1 hu with rfl | h
    · omega
    · have := ih h; omega
theorem decI_neg {n : Int} (h : n < 0) : 45 :: decI (-n) = decI n := by
  have e : decI n = 45 :: decR n.natAbs := by rw [decI, if_pos h]
  rw [e, decI, if_neg (by omega), decB, if_neg (by omega)]
  congr 2
  omega
/-- its value's shape -/
theorem tm_open {w : World} {k : Int} {s : ByteArray} {n : Int} {ks : List Tm} {v : Value} (h : TmIn w (.mk k s n ks) v) :
    ∃ ao cap, v = .agg #[.int .i64 k, .string s, .int .i64 n, .slice ao ks.length cap] ∧ s.size ≤ maxLen ∧ ks.length ≤ cap ∧ cap ≤ maxLen ∧ (ks ≠ [] → ∃ b off, ao = some ⟨b, off, none⟩ ∧ TmsIn w ks b off) := by
  unfold TmIn at h
  obtain ⟨ao, cap, rfl, _, _, h3, h4, h5, h6⟩ := h
  exact ⟨ao, cap, rfl, h3, h4, h5, h6⟩
end Go.Proofs.YtceclkcmiaehkaoGreatDoor

/- The specification's l07Row. -/
namespace Go.Proofs.YtceclkcmiaehkaoGreatDoor
open Go.RowKit

def strLen : Value → Nat
  | .string s => s.size
  | _ => 0
def WsOk (t : Tm) : Prop := ∀ (w : World) (v : Value) (d : Nat), TmIn w t v → t.right d = true → t.n ≤ 400 →
  Calls Tryz.prog 11 #[v] w fun e w' => e = .returned (.string ⟨t.wr.toArray⟩) ∧ Below w.heap.size w w'

/-- two terms in a row -/
theorem two_at {w : World} {x y : Tm} {b off : Nat} (h : TmsIn w [x, y] b off) : ∃ c0 c1 c2 c3 d0 d1 d2 d3,
    (w.cell? ⟨b, off, none⟩ = some c0 ∧ w.cell? ⟨b, off + 1, none⟩ = some c1 ∧ w.cell? ⟨b, off + 2, none⟩ = some c2 ∧ w.cell? ⟨b, off + 3, none⟩ = some c3 ∧ TmIn w x (.agg #[c0, c1, c2, c3])) ∧
    (w.cell? ⟨b, off + 4, none⟩ = some d0 ∧ w.cell? ⟨b, off + 4 + 1, none⟩ = some d1 ∧ w.cell? ⟨b, off + 4 + 2, none⟩ = some d2 ∧ w.cell? ⟨b, off + 4 + 3, none⟩ = some d3 ∧ TmIn w y (.agg #[d0, d1, d2, d3])) := by
  obtain ⟨c0, c1, c2, c3, h0⟩ := h.at 0 (by simp)
  obtain ⟨d0, d1, d2, d3, h1⟩ := h.at 1 (by simp)
  simp only [Nat.zero_mul, Nat.add_zero, Nat.one_mul] at h0 h1
  exact ⟨c0, c1, c2, c3, d0, d1, d2, d3, h0, h1⟩

theorem two_of {ks : List Tm} (h : ks.length = 2) : ∃ x y, ks = [x, y] := by
  match ks, h with
  | [a, b], _ => exact ⟨a, b, rfl⟩
theorem pair_tl {n : Int} {x y : Tm} : (Tm.mk 4 cDot n [x, y]).wr = 91 :: (x.wr ++ y.tl) ∧ (Tm.mk 4 cDot n [x, y]).tl = 44 :: (x.wr ++ y.tl) := by
  unfold Tm.wr Tm.tl
  rw [wp_mk]
  simp [wrMk]

/-- what no pair is, as the rest of a list -/
theorem rest_tl {k : Int} {s : ByteArray} {n : Int} {ks : List Tm} {d : Nat} (hr : (Tm.mk k s n ks).right d = true) (hp : isPairB k s ks.length = false) :
    (k = 2 ∧ s = cNone ∧ (Tm.mk k s n ks).tl = [93]) ∨ (¬ (k = 2 ∧ s = cNone) ∧ (Tm.mk k s n ks).tl = 124 :: ((Tm.mk k s n ks).wr ++ [93])) := by
  unfold Tm.tl Tm.wr
  rw [wp_mk]
  unfold wrMk
  rcases right_kinds hr with ⟨h1, _⟩ | ⟨h2, _⟩ | ⟨h4, _, _, h5, _⟩
  · right
    refine ⟨by omega, ?_⟩
    rcases h1 with h1 | h1
    · rw [if_pos h1]
    · rw [if_neg (by omega), if_pos h1]
  · rw [if_neg (by omega), if_neg (by omega), if_pos h2]
    by_cases hs : s = cNone
    · exact Or.inl ⟨h2, hs, by rw [if_pos hs]⟩
    · exact Or.inr ⟨fun h => hs h.2, by show (if s = cNone then [93] else _) = _; rw [if_neg hs]⟩
  · right
    refine ⟨by omega, ?_⟩
    rw [if_neg (by omega), if_neg (by omega), if_neg (by omega)]
    match ks, hp with
    | [], _ => rfl
    | [a], _ => rfl
    | [a, b], hp =>
      have hs : ¬ s = cDot := by
        intro e
        simp [isPairB, h4, e] at hp
      simp only [List.map_cons, List.map_nil, if_neg hs]
      split <;> rfl
    | a :: b :: c :: r, _ => rfl

set_option maxHeartbeats 2000000 in
set_option maxRecDepth 20000 in
theorem s_row (t x y : Tm) (n : Int) (et : t = .mk 4 cDot n [x, y]) (IH : ∀ u : Tm, SizeOf.sizeOf u < SizeOf.sizeOf t → WsOk u) (w : World) (v : Value) (d : Nat) (hin : TmIn w t v) (hr : t.right d = true) (hn : t.n ≤ 400) :
    Calls Tryz.prog 22 #[v] w fun e w' => e = .returned (.string ⟨t.wr.toArray⟩) ∧ Below w.heap.size w w' := by
  have hR := (wp_len t d hr).1
  obtain ⟨R, eR⟩ : ∃ R, R = t.wr := ⟨_, rfl⟩
  rw [← eR] at hR ⊢
  have eR2 : R = 91 :: (x.wr ++ y.tl) := by rw [eR, et]; exact pair_tl.1
  obtain ⟨T0, hT0⟩ : ∃ T0, T0 = SizeOf.sizeOf t := ⟨_, rfl⟩
  rw [← hT0] at IH
  subst et
  obtain ⟨ao, cap, rfl, hs, hlen, hcap, hrow⟩ := tm_open hin
  obtain ⟨b, off, rfl, hks⟩ := hrow (by simp)
  obtain ⟨c0, c1, c2, c3, d0, d1, d2, d3, hx, hy⟩ := two_at hks
  have hxr := right_kid hr (u := x) (by simp)
  have hyr := right_kid hr (u := y) (by simp)
  have hxn := n_kid (ks := [x, y]) (u := x) (by simp)
  have hyn := n_kid (ks := [x, y]) (u := y) (by simp)
  rw [n_mk] at hn hR
  have hxs : SizeOf.sizeOf x < T0 := by rw [hT0]; exact tm_kid_lt (by simp)
  have hys : SizeOf.sizeOf y < T0 := by rw [hT0]; exact tm_kid_lt (by simp)
  obtain ⟨W, hW⟩ : ∃ W, W = w.alloc (.cells #[.int .i64 4, .string cDot, .int .i64 n, .slice (some ⟨b, off, none⟩) 2 cap] 29) := ⟨_, rfl⟩
  have bW : Below w.heap.size w W := by rw [hW]; exact (Below.refl _ _).alloc (Nat.le_refl _) _
  have HKW : Hid (W.heap[w.heap.size]? = some (.cells #[.int .i64 4, .string cDot, .int .i64 n, .slice (some ⟨b, off, none⟩) 2 cap] 29 (0, 0))) := by rw [hW]; exact heap_alloc_new w _
  have HX : Hid _ := IH x hxs W _ (d + 1) (TmIn.keep bW _ _ hx.2.2.2.2) hxr (by omega)
  have hxl : x.wr.length ≤ R.length := by rw [eR2]; simp only [List.length_cons, List.length_append]; omega
  have hadd : ∀ u, (Op.stringOp .add ⟨#[91]⟩ ⟨x.wr.toArray⟩).run Tryz.prog u = .ok (.string ⟨(91 :: x.wr).toArray⟩) u := add_txt [91] x.wr (by simp only [List.length_cons, List.length_nil]; omega)
  have HCX : Hid (∀ wr, Below W.heap.size W wr → wr.heap[w.heap.size]? = some (.cells #[.int .i64 4, .string cDot, .int .i64 n, .slice (some ⟨b, off, none⟩) 2 cap] 29 (0, 0))) := fun wr hb => (hb.block _ (Array.getElem?_eq_some_iff.1 HKW.out).1).trans HKW.out
  obtain ⟨q0, q1, q2, q3, _⟩ := blk4 HKW.out
  have hcx0 := cell_keep hx.1 bW
  have hcx1 := cell_keep hx.2.1 bW
  have hcx2 := cell_keep hx.2.2.1 bW
  have hcx3 := cell_keep hx.2.2.2.1 bW
  have HKS : Hid (TmsIn w [x, y] b off) := hks
  have HR : Hid (R = 91 :: (x.wr ++ y.tl)) := eR2
  have HRL : Hid (R.length ≤ 30000) := by show _ ≤ _; omega
  have HY : Hid (y.right (d + 1) = true ∧ y.n ≤ 400 ∧ SizeOf.sizeOf y < T0) := ⟨hyr, by omega, hys⟩
  have HIH : Hid _ := IH
  have HBW : Hid (Below w.heap.size w W) := bW
  have HCAP : Hid (cap ≤ maxLen) := hcap
  have HCW : Hid (W = w.alloc (.cells #[.int .i64 4, .string cDot, .int .i64 n, .slice (some ⟨b, off, none⟩) 2 cap] 29)) := hW
  clear IH hin hr hn hR eR eR2 hT0 hrow hks hx hy hxr hyr hxn hyn hxs hys bW hs hxl
  unfold maxLen at hcap
  have HW2 : Hid (W.heap.size = w.heap.size + 1) := by show _ = _; rw [HCW.out]; simp
  go_enter Tryz.func22, Tryz.ntmps22
  go_upto_region 1 with (fail)
  rw [← HCW.out]
  clear hW
  go_wp2_with (go_at_call 11; refine (Calls.mono HX.out ?_); rintro e w1 ⟨rfl, b1⟩; have B1 : Hid (Below W.heap.size W w1) := b1; clear b1)
  go_loopw [3] (fun v3 wr => ∃ (x' y' : Tm) (n' : Int) (b' off' cap' d' : Nat) (acc : List UInt8), v3 = .string ⟨acc.toArray⟩ ∧ Hid (acc ++ y'.tl = R) ∧ Hid (Below w.heap.size w wr) ∧
      Hid (wr.heap[w.heap.size]? = some (.cells #[.int .i64 4, .string cDot, .int .i64 n', .slice (some ⟨b', off', none⟩) 2 cap'] 29 (0, 0))) ∧ Hid (TmsIn w [x', y'] b' off') ∧ Hid (cap' ≤ maxLen) ∧ 2 ≤ cap' ∧ Hid (y'.right d' = true ∧ y'.n ≤ 400 ∧ SizeOf.sizeOf y' < T0)) (fun v3 _ => R.length - strLen v3)
  case atStart => exact ⟨x, y, n, b, off, cap, d + 1, 91 :: x.wr, rfl, by show _ = _; rw [HR.out]; rfl, HBW.out.trans (B1.out.mono HBW.out.size), HCX.out _ B1.out, HKS.out, HCAP.out, by simpa using hlen, HY.out⟩
  case round =>
    clear HX hadd q0 q1 q2 q3 hcx0 hcx1 hcx2 hcx3 B1 HY HKS HKW HCX HR HCAP hcap
    obtain ⟨x', y', n', b', off', cap', d', acc, rfl, HA, HB, HK, HT, HCP, h2c, HY⟩ := hrel
    obtain ⟨c0, c1, c2, c3, d0, d1, d2, d3, hx, hy⟩ := two_at HT.out
    obtain ⟨q0, q1, q2, q3, z0, z1, z2, z3⟩ := blk4 HK.out
    have hd0 := cell_keep hy.1 HB.out
    have hd1 := cell_keep hy.2.1 HB.out
    have hd2 := cell_keep hy.2.2.1 HB.out
    have hd3 := cell_keep hy.2.2.2.1 HB.out
    obtain ⟨k2, s2, n2, ks2⟩ := y'
    have hty := hy.2.2.2.2
    obtain ⟨ao2, cap2, ey, hs2, hl2, hc2, hrow2⟩ := tm_open hty
    simp only [Value.agg.injEq, Array.mk.injEq, List.cons.injEq, and_true] at ey
    obtain ⟨rfl, rfl, rfl, rfl⟩ := ey
    have HP : Hid (∀ wr, Calls Tryz.prog 21 #[.agg #[.int .i64 k2, .string s2, .int .i64 n2, .slice ao2 ks2.length cap2], .string ⟨#[46]⟩, .int .i64 2] wr fun e w' => e = .returned (.bool (isPairB k2 s2 ks2.length)) ∧ Below wr.heap.size wr w') := fun wr => s_pair k2 s2 n2 ao2 ks2.length cap2 wr (by omega)
    have hcap := HCP.out
    unfold maxLen at hcap
    have hbb : b' < w.heap.size := cell_blk hy.1
    have hne1 : ¬ w.heap.size = b' := by omega
    have HYC : Hid (w.cell? ⟨b', off' + 4, none⟩ = some (.int .i64 k2) ∧ w.cell? ⟨b', off' + 4 + 1, none⟩ = some (.string s2) ∧ w.cell? ⟨b', off' + 4 + 2, none⟩ = some (.int .i64 n2) ∧ w.cell? ⟨b', off' + 4 + 3, none⟩ = some (.slice ao2 ks2.length cap2)) := ⟨hy.1, hy.2.1, hy.2.2.1, hy.2.2.2.1⟩
    have HTY : Hid (TmIn w (.mk k2 s2 n2 ks2) (.agg #[.int .i64 k2, .string s2, .int .i64 n2, .slice ao2 ks2.length cap2])) := hty
    have HROW : Hid (ks2 ≠ [] → ∃ b off, ao2 = some ⟨b, off, none⟩ ∧ TmsIn w ks2 b off) := hrow2
    clear hrow2 hx hy hty HT hs2
    cases hpr : isPairB k2 s2 ks2.length with
    | true =>
      rw [hpr] at HP
      simp only [isPairB, Bool.and_eq_true, decide_eq_true_eq] at hpr
      obtain ⟨⟨rfl, rfl⟩, hlen2⟩ := hpr
      obtain ⟨x2, y2, rfl⟩ := two_of hlen2
      clear hlen2
      obtain ⟨b2, off2, rfl, hks2⟩ := HROW.out (by simp)
      obtain ⟨e0, e1, e2, e3, f0, f1, f2, f3, hx2, hy2⟩ := two_at hks2
      have hbb2 : b2 < w.heap.size := cell_blk hx2.1
      have hne2 : ¬ w.heap.size = b2 := by omega
      have hxr := right_kid HY.out.1 (u := x2) (by simp)
      have hyr := right_kid HY.out.1 (u := y2) (by simp)
      have hxn := n_kid (ks := [x2, y2]) (u := x2) (by simp)
      have hyn := n_kid (ks := [x2, y2]) (u := y2) (by simp)
      have hn2 := HY.out.2.1
      rw [n_mk] at hn2
      have hxs : SizeOf.sizeOf x2 < T0 := Nat.lt_trans (tm_kid_lt (by simp)) HY.out.2.2
      have hys : SizeOf.sizeOf y2 < T0 := Nat.lt_trans (tm_kid_lt (by simp)) HY.out.2.2
      have HX2 : Hid (∀ V, Below w.heap.size w V → Calls Tryz.prog 11 #[.agg #[e0, e1, e2, e3]] V fun e w' => e = .returned (.string ⟨x2.wr.toArray⟩) ∧ Below V.heap.size V w') := fun V hb => HIH.out x2 hxs V _ (d' + 1) (TmIn.keep hb _ _ hx2.2.2.2.2) hxr (by omega)
      have HX2C : Hid (w.cell? ⟨b2, off2, none⟩ = some e0 ∧ w.cell? ⟨b2, off2 + 1, none⟩ = some e1 ∧ w.cell? ⟨b2, off2 + 2, none⟩ = some e2 ∧ w.cell? ⟨b2, off2 + 3, none⟩ = some e3) := ⟨hx2.1, hx2.2.1, hx2.2.2.1, hx2.2.2.2.1⟩
      have HY2 : Hid (y2.right (d' + 1) = true ∧ y2.n ≤ 400 ∧ SizeOf.sizeOf y2 < T0) := ⟨hyr, by omega, hys⟩
      have HA2 : Hid (acc ++ 44 :: (x2.wr ++ y2.tl) = R) := by have := HA.out; rwa [pair_tl.2] at this
      have HA3 : Hid (acc ++ [44] ++ x2.wr ++ y2.tl = R) := by show _ = _; rw [← HA2.out]; simp
      have hRl : acc.length + 1 + x2.wr.length ≤ R.length := by rw [← HA2.out]; simp only [List.length_append, List.length_cons]; omega
      have hadd1 : ∀ u, (Op.stringOp .add ⟨acc.toArray⟩ ⟨#[44]⟩).run Tryz.prog u = .ok (.string ⟨(acc ++ [44]).toArray⟩) u := add_txt acc [44] (by have := HRL.out; simp only [List.length_cons, List.length_nil]; omega)
      have hadd2 : ∀ u, (Op.stringOp .add ⟨(acc ++ [44]).toArray⟩ ⟨x2.wr.toArray⟩).run Tryz.prog u = .ok (.string ⟨(acc ++ [44] ++ x2.wr).toArray⟩) u := add_txt (acc ++ [44]) x2.wr (by have := HRL.out; simp only [List.length_append, List.length_cons, List.length_nil]; omega)
      have HKS2 : Hid (TmsIn w [x2, y2] b2 off2) := hks2
      have HRL2 : Hid (acc.length < (acc ++ [44] ++ x2.wr).length ∧ (acc ++ [44] ++ x2.wr).length ≤ R.length) := by refine ⟨?_, ?_⟩ <;> (simp only [List.length_append, List.length_cons, List.length_nil]; omega)
      have HC2 : Hid (cap2 ≤ maxLen) := hc2
      have hl2' : 2 ≤ cap2 := by simpa using hl2
      generalize acc ++ [44] ++ x2.wr = acc3 at *
      generalize acc ++ [44] = acc2 at *
      clear hks2 hx2 hy2 hxr hyr hxn hyn hn2 hxs hys hRl HROW HY HA hl2
      unfold maxLen at hc2
      go_upto_region 3 with (go_at_call 21; refine (Calls.mono (HP.out _) ?_); rintro e w1 ⟨rfl, b1⟩; have B1 : Hid (Below wr.heap.size wr w1) := b1; clear b1)
      have BW1 : Hid (Below w.heap.size w w1) := HB.out.trans (B1.out.mono HB.out.size)
      have HK1 : Hid (w1.heap[w.heap.size]? = some (.cells #[.int .i64 4, .string cDot, .int .i64 n', .slice (some ⟨b', off', none⟩) 2 cap'] 29 (0, 0))) := (B1.out.block _ (Array.getElem?_eq_some_iff.1 HK.out).1).trans HK.out
      clear q0 q1 q2 q3 z0 z1 z2 z3 hd0 hd1 hd2 hd3 HP HK
      obtain ⟨q0, q1, q2, q3, z0, z1, z2, z3⟩ := blk4 HK1.out
      have hd0 := cell_keep HYC.out.1 BW1.out
      have hd1 := cell_keep HYC.out.2.1 BW1.out
      have hd2 := cell_keep HYC.out.2.2.1 BW1.out
      have hd3 := cell_keep HYC.out.2.2.2 BW1.out
      go_upto_region 4 with (fail)
      obtain ⟨V, hV⟩ : ∃ V, V = (((w1.setCell ⟨w.heap.size, 0, none⟩ (.int .i64 4)).setCell ⟨w.heap.size, 1, none⟩ (.string cDot)).setCell ⟨w.heap.size, 2, none⟩ (.int .i64 n2)).setCell ⟨w.heap.size, 3, none⟩ (.slice (some ⟨b2, off2, none⟩) 2 cap2) := ⟨_, rfl⟩
      have HKV : Hid (V.heap[w.heap.size]? = some (.cells #[.int .i64 4, .string cDot, .int .i64 n2, .slice (some ⟨b2, off2, none⟩) 2 cap2] 29 (0, 0))) := by rw [hV]; exact blk4_set HK1.out
      have BWV : Hid (Below w.heap.size w V) := by rw [hV]; exact blk4_below BW1.out (Nat.le_refl _)
      first | rw [← hV] | (simp only [List.length_cons, List.length_nil] at *; rw [← hV])
      clear hV q0 q1 q2 q3 z0 z1 z2 z3 hd0 hd1 hd2 hd3 HK1 B1 BW1
      obtain ⟨q0, q1, q2, q3, _⟩ := blk4 HKV.out
      have he0 := cell_keep HX2C.out.1 BWV.out
      have he1 := cell_keep HX2C.out.2.1 BWV.out
      have he2 := cell_keep HX2C.out.2.2.1 BWV.out
      have he3 := cell_keep HX2C.out.2.2.2 BWV.out
      have HXV : Hid _ := HX2.out V BWV.out
      go_wp2_with (go_at_call 11; refine (Calls.mono HXV.out ?_); rintro e w2 ⟨rfl, b2⟩; have B2 : Hid (Below V.heap.size V w2) := b2; clear b2)
      go_roundw
      case rel => exact ⟨x2, y2, n2, b2, off2, cap2, d' + 1, acc3, rfl, HA3.out, BWV.out.trans (B2.out.mono BWV.out.size), (B2.out.block _ (Array.getElem?_eq_some_iff.1 HKV.out).1).trans HKV.out, HKS2.out, HC2.out, hl2', HY2.out⟩
      case measure => have := HRL2.out; simp only [strLen, size_mk]; omega
    | false =>
      rw [hpr] at HP
      have hrest := rest_tl HY.out.1 hpr
      have hyn := HY.out.2.1
      have hwr := (wp_len _ d' HY.out.1).1
      have HW3 : Hid (∀ V, Below w.heap.size w V → Calls Tryz.prog 11 #[.agg #[.int .i64 k2, .string s2, .int .i64 n2, .slice ao2 ks2.length cap2]] V fun e w' => e = .returned (.string ⟨(Tm.mk k2 s2 n2 ks2).wr.toArray⟩) ∧ Below V.heap.size V w') := fun V hb => HIH.out _ HY.out.2.2 V _ d' (TmIn.keep hb _ _ HTY.out) HY.out.1 hyn
      have HA' := HA.out
      clear hpr HROW HY HA HTY hl2 hc2
      go_upto_region 5 with (go_at_call 21; refine (Calls.mono (HP.out _) ?_); rintro e w1 ⟨rfl, b1⟩; have B1 : Hid (Below wr.heap.size wr w1) := b1; clear b1)
      have BW1 : Hid (Below w.heap.size w w1) := HB.out.trans (B1.out.mono HB.out.size)
      have HK1 : Hid (w1.heap[w.heap.size]? = some (.cells #[.int .i64 4, .string cDot, .int .i64 n', .slice (some ⟨b', off', none⟩) 2 cap'] 29 (0, 0))) := (B1.out.block _ (Array.getElem?_eq_some_iff.1 HK.out).1).trans HK.out
      clear q0 q1 q2 q3 z0 z1 z2 z3 hd0 hd1 hd2 hd3 HP HK
      obtain ⟨q0, q1, q2, q3, z0, z1, z2, z3⟩ := blk4 HK1.out
      have hd0 := cell_keep HYC.out.1 BW1.out
      have hd1 := cell_keep HYC.out.2.1 BW1.out
      have hd2 := cell_keep HYC.out.2.2.1 BW1.out
      have hd3 := cell_keep HYC.out.2.2.2 BW1.out
      rcases hrest with ⟨rfl, rfl, htl⟩ | ⟨hno, htl⟩
      · rw [htl] at HA'
        have hadd1 : ∀ u, (Op.stringOp .add ⟨acc.toArray⟩ ⟨#[93]⟩).run Tryz.prog u = .ok (.string ⟨(acc ++ [93]).toArray⟩) u := add_txt acc [93] (by have := HRL.out; rw [← HA', List.length_append] at this; simp only [List.length_cons, List.length_nil] at *; omega)
        rw [HA'] at hadd1
        clear htl HA' hwr hyn HW3
        rw [show cNone = ⟨#[91, 93]⟩ from rfl] at hd1
        go_wp2
        go_ret
        exact ⟨rfl, BW1.out.alloc BW1.out.size _⟩
      · rw [htl] at HA'
        have hadd1 : ∀ u, (Op.stringOp .add ⟨acc.toArray⟩ ⟨#[124]⟩).run Tryz.prog u = .ok (.string ⟨(acc ++ [124]).toArray⟩) u := add_txt acc [124] (by have := HRL.out; rw [← HA', List.length_append] at this; simp only [List.length_cons, List.length_append, List.length_nil] at *; omega)
        have HRL4 : Hid (acc.length + (Tm.mk k2 s2 n2 ks2).wr.length + 2 = R.length) := by show _ = _; rw [← HA']; simp only [List.length_cons, List.length_append, List.length_nil]; omega
        have HA4 : Hid (acc ++ [124] ++ (Tm.mk k2 s2 n2 ks2).wr ++ [93] = R) := by show _ = _; rw [← HA']; simp
        clear htl HA' hwr hyn
        obtain ⟨Y, hY⟩ : ∃ Y, Y = (Tm.mk k2 s2 n2 ks2).wr := ⟨_, rfl⟩
        rw [← hY] at HW3 HRL4 HA4
        clear hY
        have hadd2 : ∀ u, (Op.stringOp .add ⟨(acc ++ [124]).toArray⟩ ⟨Y.toArray⟩).run Tryz.prog u = .ok (.string ⟨(acc ++ [124] ++ Y).toArray⟩) u := add_txt (acc ++ [124]) Y (by have := HRL.out; have := HRL4.out; simp only [List.length_append, List.length_cons, List.length_nil]; omega)
        have hadd3 : ∀ u, (Op.stringOp .add ⟨(acc ++ [124] ++ Y).toArray⟩ ⟨#[93]⟩).run Tryz.prog u = .ok (.string ⟨R.toArray⟩) u := by
          have := add_txt (acc ++ [124] ++ Y) [93] (by have := HRL.out; have := HRL4.out; simp only [List.length_append, List.length_cons, List.length_nil]; omega)
          rwa [HA4.out] at this
        generalize acc ++ [124] ++ Y = acc3 at *
        generalize acc ++ [124] = acc2 at *
        obtain ⟨V, hV⟩ : ∃ V, V = w1.alloc (.cells #[.int .i64 k2, .string s2, .int .i64 n2, .slice ao2 ks2.length cap2] 29) := ⟨_, rfl⟩
        have BWV : Hid (Below w.heap.size w V) := by rw [hV]; exact BW1.out.alloc BW1.out.size _
        have HV : Hid (V = w1.alloc (.cells #[.int .i64 k2, .string s2, .int .i64 n2, .slice ao2 ks2.length cap2] 29)) := hV
        have HXV : Hid _ := HW3.out V BWV.out
        rw [hV] at HXV
        clear hV HW3
        by_cases hk2 : k2 = 2
        · subst hk2
          have hs2 : ¬ s2 = ⟨#[91, 93]⟩ := fun e => hno ⟨rfl, e⟩
          have hs2' := toL_ne (l := [91, 93]) hs2
          clear hs2 hno
          go_wp2_with (go_at_call 11; refine (Calls.mono HXV.out ?_); rintro e w2 ⟨rfl, b2⟩; rw [← HV.out] at b2; have B2 : Hid (Below V.heap.size V w2) := b2; clear b2)
          go_ret
          exact ⟨rfl, BWV.out.trans (B2.out.mono BWV.out.size)⟩
        · have hk2' : (k2 == 2) = false := beq_eq_false_iff_ne.2 hk2
          clear hk2 hno
          go_wp2_with (go_at_call 11; refine (Calls.mono HXV.out ?_); rintro e w2 ⟨rfl, b2⟩; rw [← HV.out] at b2; have B2 : Hid (Below V.heap.size V w2) := b2; clear b2)
          go_ret
          exact ⟨rfl, BWV.out.trans (B2.out.mono BWV.out.size)⟩
end Go.Proofs.YtceclkcmiaehkaoGreatDoor

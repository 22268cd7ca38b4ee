/- Four texts in one. -/
import Derived.Test.YtenmhpalpfppmaoMrg2
import Derived.Test.YtenmhpalpfppmaoMrg5
import Derived.ProofKit
import Derived.Test.YtenmhpalpfppmaoMrg4
import Derived.Test.YtenmhpalpfppmaoMrg3
import Derived.Deep.DeepCutAuto
/- Which terms are right: the plain rule. -/
namespace Go.Proofs.Ytenmhpalpfppmao
open Go.RowKit

def oneT (k : Int) (s : ByteArray) (n : Int) (l : Nat) : Bool :=
  if k = 1 then decide (0 ≤ n ∧ n ≤ 99999) && decide (s.size = 0) && decide (l = 0)
  else if k = 2 then nameOk s && decide (n = 0) && decide (l = 0)
  else if k = 3 then decide (-999999999 ≤ n ∧ n ≤ 999999999) && decide (s.size = 0) && decide (l = 0)
  else if k = 4 then nameOk s && decide (n = 0) && decide (1 ≤ l ∧ l ≤ 5)
  else false
def Tm.right : Tm → Nat → Bool
  | .mk k s n ks, d => decide (d ≤ 40) && oneT k s n ks.length && rights ks (d + 1)
where rights : List Tm → Nat → Bool
  | [], _ => true
  | t :: ts, d => t.right d && rights ts d
abbrev rights := Tm.right.rights
def Tm.ok (t : Tm) : Bool := decide (t.n ≤ 400) && t.right 1
theorem right_mk (k : Int) (s : ByteArray) (n : Int) (ks : List Tm) (d : Nat) : (Tm.mk k s n ks).right d = (decide (d ≤ 40) && oneT k s n ks.length && rights ks (d + 1)) := by simp [Tm.right, rights]
theorem rights_all (ks : List Tm) (d : Nat) : rights ks d = ks.all fun t => t.right d := by
  induction ks with
  | nil => rfl
  | cons t r ih => simp only [rights, Tm.right.rights, List.all_cons] at *; rw [ih]

theorem ret_bool {a b : Bool} (h : a = b) : Ending.returned (.bool a) = .returned (.bool b) := by rw [h]

theorem rights_take {ks : List Tm} {d j : Nat} (hj : j < ks.length) (h : rights (ks.take j) d = true) (h1 : ks[j].right d = true) : rights (ks.take (j + 1)) d = true := by
  rw [rights_all] at *
  rw [List.take_succ_eq_append_getElem hj, List.all_append, h]
  simp [h1]
theorem rights_no {ks : List Tm} {d j : Nat} (hj : j < ks.length) (h1 : ks[j].right d = false) : rights ks d = false := by
  rw [rights_all, List.all_eq_false]
  exact ⟨ks[j], List.getElem_mem hj, by simp [h1]⟩

theorem empty_of {s : ByteArray} (h : s.size = 0) : s = ⟨#[]⟩ := by
  apply ByteArray.ext
  exact Array.eq_empty_of_size_eq_zero h
theorem not_empty {s : ByteArray} (h : s.size ≠ 0) : ¬ s.toList = [] := by
  intro e
  apply h
  have := congrArg List.length e
  rw [ByteArray.toList_eq, Array.length_toList] at this
  exact this

theorem nat0 (l : Nat) : ((l : Int) == 0) = decide (l = 0) := by
  by_cases h : l = 0
  · subst h; rfl
  · rw [decide_eq_false h, beq_eq_false_iff_ne]; omega

theorem tm_shape {w : World} {t : Tm} {v : Value} (h : TmIn w t v) : ∃ k s n ao len cap, v = .agg #[.int .i64 k, .string s, .int .i64 n, .slice ao len cap] := by
  obtain ⟨k, s, n, ks⟩ := t
  unfold TmIn at h
  obtain ⟨ao, cap, rfl, _⟩ := h
  exact ⟨_, _, _, _, _, _, rfl⟩

end Go.Proofs.Ytenmhpalpfppmao

/- Clauses of terms: head and body, the plain rule. Of no program. -/
namespace Go.Proofs.Ytenmhpalpfppmao
open Go.RowKit

def cIf : ByteArray := ⟨#[58, 45]⟩
def cTrue : ByteArray := ⟨#[116, 114, 117, 101]⟩
def cCall : ByteArray := ⟨#[99, 97, 108, 108]⟩
def Tm.kd : Tm → Int
  | .mk k _ _ _ => k
/-- a struct of a name, with so many kids -/
def isSB (k : Int) (s : ByteArray) (l : Nat) (m : ByteArray) (c : Int) : Bool := decide (k = 4) && decide (s = m) && decide ((l : Int) = c)
/-- of a name that may have clauses -/
def mayB (p : ByteArray) : Bool := decide (¬ p = ⟨#[]⟩) && !ctlB p
/-- head and body -/
def cutC : Tm → Tm × Tm
  | .mk k s n [h, b] => if k = 4 ∧ s = cIf then (h, if b.kd = 1 then .mk 4 cCall 0 [b] else b) else (.mk k s n [h, b], .mk 2 cTrue 0 [])
  | t => (t, .mk 2 cTrue 0 [])
theorem cutC_yes (n : Int) (h b : Tm) : cutC (.mk 4 cIf n [h, b]) = (h, if b.kd = 1 then .mk 4 cCall 0 [b] else b) := by
  simp [cutC]
theorem cutC_no {k : Int} {s : ByteArray} {ks : List Tm} (n : Int) (h : isSB k s ks.length cIf 2 = false) : cutC (.mk k s n ks) = (.mk k s n ks, .mk 2 cTrue 0 []) := by
  match ks, h with
  | [], _ => rfl
  | [_], _ => rfl
  | [_, _], h =>
    refine if_neg ?_
    rintro ⟨rfl, rfl⟩
    simp [isSB] at h
  | _ :: _ :: _ :: _, _ => rfl
theorem isSB_yes {k : Int} {s m : ByteArray} {ks : List Tm} (h : isSB k s ks.length m 2 = true) : k = 4 ∧ s = m ∧ ∃ a b, ks = [a, b] := by
  simp only [isSB, Bool.and_eq_true, decide_eq_true_eq] at h
  obtain ⟨⟨h1, h2⟩, h3⟩ := h
  refine ⟨h1, h2, ?_⟩
  match ks, h3 with
  | [a, b], _ => exact ⟨a, b, rfl⟩
  | [], h3 => simp at h3
  | [_], h3 => simp at h3
  | _ :: _ :: _ :: _, h3 => simp at h3; omega
/-- a term is a clause -/
def clB (t : Tm) : Bool := t.ok && mayB (predB (cutC t).1)
theorem right_up (t : Tm) : ∀ d, t.right (d + 1) = true → t.right d = true := by
  refine tm_ind (p := fun t => ∀ d, t.right (d + 1) = true → t.right d = true) ?_ t
  intro k s n ks hks d h
  rw [right_mk, Bool.and_eq_true, Bool.and_eq_true] at h ⊢
  refine ⟨⟨?_, h.1.2⟩, ?_⟩
  · have := of_decide_eq_true h.1.1
    exact decide_eq_true (by omega)
  · have h2 := h.2
    rw [rights_all, List.all_eq_true] at h2 ⊢
    exact fun u hu => hks u hu _ (h2 u hu)
theorem okk_right {t : Tm} (h : t.ok = true) : t.right 1 = true := by
  unfold Tm.ok at h; rw [Bool.and_eq_true] at h; exact h.2
theorem okk_n {t : Tm} (h : t.ok = true) : t.n ≤ 400 := by
  unfold Tm.ok at h; rw [Bool.and_eq_true] at h; exact of_decide_eq_true h.1
theorem okk_mk {t : Tm} (h : t.n ≤ 400) (h2 : t.right 1 = true) : t.ok = true := by
  unfold Tm.ok; rw [Bool.and_eq_true]; exact ⟨decide_eq_true h, h2⟩
theorem okk_nk {ks : List Tm} {u : Tm} (hu : u ∈ ks) : u.n ≤ ns ks := by
  induction ks with
  | nil => cases hu
  | cons a r ih =>
    have e : ns (a :: r) = a.n + ns r := by simp [ns, Tm.n.ns]
    rcases List.mem_cons.1 hu with rfl | h
    · omega
    · have := ih h; omega
theorem okk_kid {k : Int} {s : ByteArray} {n : Int} {ks : List Tm} (h : (Tm.mk k s n ks).ok = true) {u : Tm} (hu : u ∈ ks) : u.ok = true ∧ u.right 2 = true := by
  have h1 := okk_right h
  have h2 := okk_n h
  rw [n_mk] at h2
  rw [right_mk, Bool.and_eq_true, Bool.and_eq_true, rights_all, List.all_eq_true] at h1
  have h3 := h1.2 u hu
  exact ⟨okk_mk (by have := okk_nk hu; omega) (right_up u 1 h3), h3⟩
theorem ok_true : (Tm.mk 2 cTrue 0 []).ok = true := by decide
theorem ok_call {b : Tm} (h : b.right 2 = true) (hk : b.kd = 1) : (Tm.mk 4 cCall 0 [b]).ok = true := by
  obtain ⟨k, s, n, ks⟩ := b
  obtain rfl : k = 1 := hk
  have h' := h
  rw [right_mk, Bool.and_eq_true, Bool.and_eq_true] at h
  have h1 := h.1.2
  unfold oneT at h1
  rw [if_pos rfl] at h1
  simp only [Bool.and_eq_true, decide_eq_true_eq] at h1
  obtain rfl : ks = [] := List.eq_nil_of_length_eq_zero h1.2
  refine okk_mk ?_ ?_
  · rw [n_mk]; show 1 + ns [_] ≤ 400
    have e : ns [Tm.mk 1 s n []] = 1 := by simp [ns, Tm.n.ns, Tm.n]
    omega
  · rw [right_mk, Bool.and_eq_true, Bool.and_eq_true, rights_all, List.all_eq_true]
    refine ⟨⟨by decide, by show oneT 4 cCall 0 1 = true; decide⟩, fun u hu => ?_⟩
    obtain rfl : u = _ := by simpa using hu
    exact h'
/-- what is cut of a right term is right -/
theorem cut_ok {t : Tm} (h : t.ok = true) : (cutC t).1.ok = true ∧ (cutC t).2.ok = true := by
  obtain ⟨k, s, n, ks⟩ := t
  cases hc : isSB k s ks.length cIf 2 with
  | false => rw [cutC_no n hc]; exact ⟨h, ok_true⟩
  | true =>
    obtain ⟨rfl, rfl, a, b, rfl⟩ := isSB_yes hc
    rw [cutC_yes]
    have hb := okk_kid h (u := b) (by simp)
    refine ⟨(okk_kid h (u := a) (by simp)).1, ?_⟩
    show (if _ then _ else _ : Tm).ok = true
    split
    · rename_i hk; exact ok_call hb.2 hk
    · exact hb.1
theorem ok_wt {t : Tm} (h : t.ok = true) : t.wt ≤ 10000 := by
  have hb : ∀ (t : Tm) (d : Nat), t.right d = true → t.wt + 1 ≤ 22 * t.n := by
    intro t
    refine tm_ind (p := fun t => ∀ d, t.right d = true → t.wt + 1 ≤ 22 * t.n) ?_ t
    intro k s n ks hks d h
    rw [right_mk, Bool.and_eq_true, Bool.and_eq_true, rights_all, List.all_eq_true] at h
    have hs : s.size ≤ 20 := by
      have h1 := h.1.2
      unfold oneT nameOk at h1
      split at h1
      · simp only [Bool.and_eq_true, decide_eq_true_eq] at h1; omega
      · split at h1
        · simp only [Bool.and_eq_true, decide_eq_true_eq] at h1; omega
        · split at h1
          · simp only [Bool.and_eq_true, decide_eq_true_eq] at h1; omega
          · split at h1
            · simp only [Bool.and_eq_true, decide_eq_true_eq] at h1; omega
            · cases h1
    have hL : ∀ l : List Tm, (∀ t ∈ l, t ∈ ks) → wts l + l.length ≤ 22 * ns l := by
      intro l hl
      induction l with
      | nil => simp [wts, Tm.wt.wts]
      | cons a r ih =>
        have e : ns (a :: r) = a.n + ns r := by simp [ns, Tm.n.ns]
        have e2 : wts (a :: r) = a.wt + wts r := by simp [wts, Tm.wt.wts]
        have h1 := hks a (hl a (by simp)) _ (h.2 a (hl a (by simp)))
        have h2 := ih fun t ht => hl t (by simp [ht])
        simp only [List.length_cons]
        omega
    have h3 := hL ks fun t ht => ht
    have ew : (Tm.mk k s n ks).wt = s.size + (ks.length + wts ks) := by simp [Tm.wt, wts]; omega
    rw [n_mk, ew]
    omega
  have := hb t 1 (okk_right h)
  have := okk_n h
  omega
end Go.Proofs.Ytenmhpalpfppmao

/- spec.ClauseTerm. -/
namespace Go.Proofs.Ytenmhpalpfppmao
open Go.RowKit

/-- a row of two terms in a block -/
theorem tms_two {w : World} {b : Nat} {T : TypeId} {H B : Tm} {c0 c1 c2 c3 c4 c5 c6 c7 : Value} (hk : w.heap[b]? = some (.cells #[c0, c1, c2, c3, c4, c5, c6, c7] T (0, 0))) (h1 : TmIn w H (.agg #[c0, c1, c2, c3])) (h2 : TmIn w B (.agg #[c4, c5, c6, c7])) : TmsIn w [H, B] b 0 :=
  ⟨⟨_, _, _, _, blk_cell (i := 0) hk (by simp), blk_cell (i := 1) hk (by simp), blk_cell (i := 2) hk (by simp), blk_cell (i := 3) hk (by simp), h1⟩,
   ⟨_, _, _, _, blk_cell (i := 4) hk (by simp), blk_cell (i := 5) hk (by simp), blk_cell (i := 6) hk (by simp), blk_cell (i := 7) hk (by simp), h2⟩, trivial⟩
set_option maxHeartbeats 2000000 in
theorem s_two (m : ByteArray) (w : World) (k1 s1 n1 a1 l1 c1 k2 s2 n2 a2 l2 c2) :
    Calls Try.prog 27 #[.string m, .agg #[.int .i64 k1, .string s1, .int .i64 n1, .slice a1 l1 c1], .agg #[.int .i64 k2, .string s2, .int .i64 n2, .slice a2 l2 c2]] w fun e w' => ∃ b, e = .returned (.agg #[.int .i64 4, .string m, .int .i64 0, .slice (some ⟨b, 0, none⟩) 2 2]) ∧ w.heap.size ≤ b ∧ w'.heap[b]? = some (.cells #[.int .i64 k1, .string s1, .int .i64 n1, .slice a1 l1 c1, .int .i64 k2, .string s2, .int .i64 n2, .slice a2 l2 c2] 31 (0, 0)) ∧ Below w.heap.size w w' := by
  obtain ⟨W, hW⟩ : ∃ W, W = ((w.alloc (.cells #[.int .i64 k1, .string s1, .int .i64 n1, .slice a1 l1 c1] 31)).alloc (.cells #[.int .i64 k2, .string s2, .int .i64 n2, .slice a2 l2 c2] 31)).alloc (.cells #[.int .i64 0, .string ⟨#[]⟩, .int .i64 0, .slice none 0 0] 31) := ⟨_, rfl⟩
  have bW : Below w.heap.size w W := by rw [hW]; exact (((Below.refl _ _).alloc (Nat.le_refl _) _).alloc (by simp) _).alloc (by simp; omega) _
  have lW : W.heap.size = w.heap.size + 3 := by rw [hW]; simp
  have q1 : W.heap[w.heap.size]? = some (.cells #[.int .i64 k1, .string s1, .int .i64 n1, .slice a1 l1 c1] 31 (0, 0)) := by rw [hW]; exact (alloc_old _ _ (by simp; omega)).trans ((alloc_old _ _ (by simp)).trans (alloc_at _ _ rfl))
  have q2 : W.heap[w.heap.size + 1]? = some (.cells #[.int .i64 k2, .string s2, .int .i64 n2, .slice a2 l2 c2] 31 (0, 0)) := by rw [hW]; exact (alloc_old _ _ (by simp)).trans (alloc_at _ _ (by simp))
  have q3 : W.heap[w.heap.size + 2]? = some (.cells #[.int .i64 0, .string ⟨#[]⟩, .int .i64 0, .slice none 0 0] 31 (0, 0)) := by rw [hW]; exact alloc_at _ _ (by simp)
  have HQ3 : Hid _ := q3
  have HBW : Hid (Below w.heap.size w W) := bW
  have HL : Hid (W.heap.size = w.heap.size + 3) := lW
  clear bW lW
  go_enter Try.func27, Try.ntmps27
  go_upto_region 1 with fail
  rw [← hW]
  clear hW
  obtain ⟨x0, x1, x2, x3, _⟩ := blk4 q1
  obtain ⟨y0, y1, y2, y3, _⟩ := blk4 q2
  obtain ⟨z0, z1, z2, z3, g0, g1, g2, g3⟩ := blk4 q3
  have hpl := (Array.getElem?_eq_some_iff.1 q3).1
  clear q1 q2 q3
  go_wp2
  have hps : w.heap.size ≤ w.heap.size + 2 := by omega
  obtain ⟨p, hp⟩ : ∃ p, p = w.heap.size + 2 := ⟨_, rfl⟩
  rw [← hp] at hpl hps
  have hq3 := HQ3.out
  rw [← hp] at hq3
  refine bodyPost_ret_by (results_cell_row rfl _ _ p 31 _ (0, 0) _ (by rw [hp]; rfl) ((alloc_old _ _ (by simpa [World.setCell] using hpl)).trans (by subst hp; exact blk4_set hq3)) Try.underlying31 rfl (by kernel_rfl)) rfl ?_
  subst hp
  have hend : ∀ d0 d1 d2 d3, Below w.heap.size w (((((W.setCell ⟨w.heap.size + 2, 0, none⟩ d0).setCell ⟨w.heap.size + 2, 1, none⟩ d1).setCell ⟨w.heap.size + 2, 2, none⟩ d2).setCell ⟨w.heap.size + 2, 3, none⟩ d3).alloc (.cells #[.int .i64 k1, .string s1, .int .i64 n1, .slice a1 l1 c1, .int .i64 k2, .string s2, .int .i64 n2, .slice a2 l2 c2] 31)) := fun d0 d1 d2 d3 => (blk4_below HBW.out hps).alloc (by have := HBW.out.size; simp [World.setCell]; omega) _
  have hkb : ∀ d0 d1 d2 d3, (((((W.setCell ⟨w.heap.size + 2, 0, none⟩ d0).setCell ⟨w.heap.size + 2, 1, none⟩ d1).setCell ⟨w.heap.size + 2, 2, none⟩ d2).setCell ⟨w.heap.size + 2, 3, none⟩ d3).alloc (.cells #[.int .i64 k1, .string s1, .int .i64 n1, .slice a1 l1 c1, .int .i64 k2, .string s2, .int .i64 n2, .slice a2 l2 c2] 31)).heap[W.heap.size]? = some (.cells #[.int .i64 k1, .string s1, .int .i64 n1, .slice a1 l1 c1, .int .i64 k2, .string s2, .int .i64 n2, .slice a2 l2 c2] 31 (0, 0)) := fun d0 d1 d2 d3 => alloc_at _ _ (by simp [World.setCell])
  exact ⟨W.heap.size, rfl, HBW.out.size, hkb _ _ _ _, hend _ _ _ _⟩

set_option maxHeartbeats 2000000 in
theorem s_clauseTermRaw (f : ByteArray) (w : World) (k1 s1 n1 a1 l1 c1 k2 s2 n2 a2 l2 c2) :
    Calls Try.prog 17 #[.agg #[.int .i64 k1, .string s1, .int .i64 n1, .slice a1 l1 c1, .int .i64 k2, .string s2, .int .i64 n2, .slice a2 l2 c2, .string f]] w fun e w' => ∃ b, e = .returned (.agg #[.int .i64 4, .string cIf, .int .i64 0, .slice (some ⟨b, 0, none⟩) 2 2]) ∧ w.heap.size ≤ b ∧ w'.heap[b]? = some (.cells #[.int .i64 k1, .string s1, .int .i64 n1, .slice a1 l1 c1, .int .i64 k2, .string s2, .int .i64 n2, .slice a2 l2 c2] 31 (0, 0)) ∧ Below w.heap.size w w' := by
  obtain ⟨W, hW⟩ : ∃ W, W = (w.alloc (.cells #[.int .i64 k1, .string s1, .int .i64 n1, .slice a1 l1 c1, .int .i64 k2, .string s2, .int .i64 n2, .slice a2 l2 c2, .string f] 34)).alloc (.cells #[.int .i64 0, .string ⟨#[]⟩, .int .i64 0, .slice none 0 0] 31) := ⟨_, rfl⟩
  have bW : Below w.heap.size w W := by rw [hW]; exact ((Below.refl _ _).alloc (Nat.le_refl _) _).alloc (by simp) _
  have q1 : W.heap[w.heap.size]? = some (.cells #[.int .i64 k1, .string s1, .int .i64 n1, .slice a1 l1 c1, .int .i64 k2, .string s2, .int .i64 n2, .slice a2 l2 c2, .string f] 34 (0, 0)) := by rw [hW]; exact (alloc_old _ _ (by simp)).trans (alloc_at _ _ rfl)
  have q3 : W.heap[w.heap.size + 1]? = some (.cells #[.int .i64 0, .string ⟨#[]⟩, .int .i64 0, .slice none 0 0] 31 (0, 0)) := by rw [hW]; exact alloc_at _ _ (by simp)
  have HQ3 : Hid _ := q3
  have HBW : Hid (Below w.heap.size w W) := bW
  have HC : Hid _ := s_two cIf W k1 s1 n1 a1 l1 c1 k2 s2 n2 a2 l2 c2
  have lW : W.heap.size = w.heap.size + 2 := by rw [hW]; simp
  have HL : Hid (W.heap.size = w.heap.size + 2) := lW
  clear bW q3 lW
  go_enter Try.func17, Try.ntmps17
  go_upto_region 1 with fail
  rw [← hW]
  clear hW
  obtain ⟨⟨y0, y1, y2, y3, y4, y5, y6, y7, y8⟩, _⟩ := blk9 q1
  clear q1
  go_wp2_with (go_at_call 27; refine (Calls.mono HC.out ?_); rintro e w1 ⟨b, rfl, hbs, ht, hb⟩; have HT : Hid (W.heap.size ≤ b ∧ w1.heap[b]? = _) := ⟨hbs, ht⟩; have HB1 : Hid (Below W.heap.size W w1) := hb; have hz := (hb.block _ (Array.getElem?_eq_some_iff.1 HQ3.out).1).trans HQ3.out; have HZ : Hid _ := hz; obtain ⟨z0, z1, z2, z3, g0, g1, g2, g3⟩ := blk4 hz; clear ht hbs hb hz)
  refine bodyPost_ret_by (results_cell_row rfl _ _ (w.heap.size + 1) 31 _ (0, 0) _ rfl (blk4_set HZ.out) Try.underlying31 rfl (by kernel_rfl)) rfl ?_
  have hend : ∀ d0 d1 d2 d3, Below w.heap.size w (((((w1.setCell ⟨w.heap.size + 1, 0, none⟩ d0).setCell ⟨w.heap.size + 1, 1, none⟩ d1).setCell ⟨w.heap.size + 1, 2, none⟩ d2).setCell ⟨w.heap.size + 1, 3, none⟩ d3)) := fun d0 d1 d2 d3 => blk4_below (HBW.out.trans (HB1.out.mono HBW.out.size)) (by omega)
  have hlb := HL.out
  have hbb := HT.out.1
  exact ⟨b, rfl, by omega, (blk4_other (by omega)).trans HT.out.2, hend _ _ _ _⟩

set_option maxHeartbeats 2000000 in
theorem s_clauseTerm (H B : Tm) (f : ByteArray) (w : World) (k1 s1 n1 a1 l1 c1 k2 s2 n2 a2 l2 c2) (h1 : TmIn w H (.agg #[.int .i64 k1, .string s1, .int .i64 n1, .slice a1 l1 c1])) (h2 : TmIn w B (.agg #[.int .i64 k2, .string s2, .int .i64 n2, .slice a2 l2 c2])) (hw : H.wt + B.wt ≤ 1048576) :
    Calls Try.prog 8 #[.agg #[.int .i64 k1, .string s1, .int .i64 n1, .slice a1 l1 c1, .int .i64 k2, .string s2, .int .i64 n2, .slice a2 l2 c2, .string f]] w fun e w' => ∃ v' F, e = .returned v' ∧ Own 31 w' (.mk 4 cIf 0 [H, B]) v' F ∧ (∀ x ∈ F, w.heap.size ≤ x) ∧ F.Nodup ∧ Below w.heap.size w w' := by
  obtain ⟨W, hW⟩ : ∃ W, W = (w.alloc (.cells #[.int .i64 k1, .string s1, .int .i64 n1, .slice a1 l1 c1, .int .i64 k2, .string s2, .int .i64 n2, .slice a2 l2 c2, .string f] 34)).alloc (.cells #[.int .i64 0, .string ⟨#[]⟩, .int .i64 0, .slice none 0 0] 31) := ⟨_, rfl⟩
  have bW : Below w.heap.size w W := by rw [hW]; exact ((Below.refl _ _).alloc (Nat.le_refl _) _).alloc (by simp) _
  have lW : W.heap.size = w.heap.size + 2 := by rw [hW]; simp
  have q1 : W.heap[w.heap.size]? = some (.cells #[.int .i64 k1, .string s1, .int .i64 n1, .slice a1 l1 c1, .int .i64 k2, .string s2, .int .i64 n2, .slice a2 l2 c2, .string f] 34 (0, 0)) := by rw [hW]; exact (alloc_old _ _ (by simp)).trans (alloc_at _ _ rfl)
  have q3 : W.heap[w.heap.size + 1]? = some (.cells #[.int .i64 0, .string ⟨#[]⟩, .int .i64 0, .slice none 0 0] 31 (0, 0)) := by rw [hW]; exact alloc_at _ _ (by simp)
  have HQ3 : Hid _ := q3
  have HBW : Hid (Below w.heap.size w W) := bW
  have HL : Hid (W.heap.size = w.heap.size + 2) := lW
  have HC : Hid _ := s_clauseTermRaw f W k1 s1 n1 a1 l1 c1 k2 s2 n2 a2 l2 c2
  have HT : Hid (TmIn w H (.agg #[.int .i64 k1, .string s1, .int .i64 n1, .slice a1 l1 c1]) ∧ TmIn w B (.agg #[.int .i64 k2, .string s2, .int .i64 n2, .slice a2 l2 c2])) := ⟨h1, h2⟩
  have HWT : Hid ((Tm.mk 4 cIf 0 [H, B]).wt ≤ 1100000) := by
    show _ ≤ _
    have e : (Tm.mk 4 cIf 0 [H, B]).wt = 2 + 2 + (H.wt + (B.wt + 0)) := by simp [Tm.wt, Tm.wt.wts]; rfl
    omega
  clear h1 h2 bW q3 lW hw
  go_enter Try.func8, Try.ntmps8
  go_upto_region 1 with fail
  rw [← hW]
  clear hW
  obtain ⟨⟨y0, y1, y2, y3, y4, y5, y6, y7, y8⟩, _⟩ := blk9 q1
  clear q1
  go_upto_region 2 with (go_at_call 17; refine (Calls.mono HC.out ?_); rintro e w1 ⟨b, rfl, hbs, ht, hb⟩; have HR : Hid (W.heap.size ≤ b ∧ w1.heap[b]? = _) := ⟨hbs, ht⟩; have HB1 : Hid (Below W.heap.size W w1) := hb; clear ht hbs hb)
  clear y0 y1 y2 y3 y4 y5 y6 y7 y8
  obtain ⟨U, hU⟩ : ∃ U, U = w1.alloc (.cells #[.int .i64 4, .string cIf, .int .i64 0, .slice (some ⟨b, 0, none⟩) 2 2] 31) := ⟨_, rfl⟩
  first | rw [← hU] | (rw [show w1.alloc (.cells #[.int .i64 4, .string ⟨#[58, 45]⟩, .int .i64 0, .slice (some ⟨b, 0, none⟩) 2 2] 31) = U from hU.symm])
  have bU : Below w1.heap.size w1 U := by rw [hU]; exact (Below.refl _ _).alloc (Nat.le_refl _) _
  have kU : U.heap[w1.heap.size]? = some (.cells #[.int .i64 4, .string cIf, .int .i64 0, .slice (some ⟨b, 0, none⟩) 2 2] 31 (0, 0)) := by rw [hU]; exact heap_alloc_new _ _
  have HBU : Hid (Below W.heap.size W U) := HB1.out.trans (bU.mono HB1.out.size)
  have hwU := HBW.out.trans (HBU.out.mono HBW.out.size)
  have tU : TmIn U (.mk 4 cIf 0 [H, B]) (.agg #[.int .i64 4, .string cIf, .int .i64 0, .slice (some ⟨b, 0, none⟩) 2 2]) :=
    ⟨some ⟨b, 0, none⟩, 2, rfl, by omega, by omega, by show 2 ≤ maxLen; unfold maxLen; omega, Nat.le_refl _, by unfold maxLen; omega, fun _ => ⟨b, 0, rfl, tms_two ((bU.block _ (Array.getElem?_eq_some_iff.1 HR.out.2).1).trans HR.out.2) (TmIn.keep hwU _ _ HT.out.1) (TmIn.keep hwU _ _ HT.out.2)⟩⟩
  have HL34 : Hid _ := l34_termB _ U _ tU HWT.out
  obtain ⟨x0, x1, x2, x3, _⟩ := blk4 kU
  have hzU := (HBU.out.block _ (Array.getElem?_eq_some_iff.1 HQ3.out).1).trans HQ3.out
  clear hU bU kU tU hwU
  go_wp2_with (go_at_call 18; refine (Calls.mono HL34.out ?_); rintro e w2 ⟨v', F, rfl, o, hf, nd, hb⟩; obtain ⟨k3, s3, n3, a3, l3, c3, rfl⟩ := own_shape o; have HO : Hid _ := (And.intro o (And.intro hf nd)); have HB2 : Hid (Below W.heap.size W w2) := HBU.out.trans (hb.mono HBU.out.size); have hz := (hb.block _ (Array.getElem?_eq_some_iff.1 hzU).1).trans hzU; have HZ : Hid _ := hz; obtain ⟨z0, z1, z2, z3, g0, g1, g2, g3⟩ := blk4 hz; clear o hf nd hb hz)
  refine bodyPost_ret_by (results_cell_row rfl _ _ (w.heap.size + 1) 31 _ (0, 0) _ rfl (blk4_set HZ.out) Try.underlying31 rfl (by kernel_rfl)) rfl ?_
  have hl := HL.out
  have hs := HBU.out.size
  have hend : ∀ d0 d1 d2 d3, Below w.heap.size w (((((w2.setCell ⟨w.heap.size + 1, 0, none⟩ d0).setCell ⟨w.heap.size + 1, 1, none⟩ d1).setCell ⟨w.heap.size + 1, 2, none⟩ d2).setCell ⟨w.heap.size + 1, 3, none⟩ d3)) := fun d0 d1 d2 d3 => blk4_below (HBW.out.trans (HB2.out.mono HBW.out.size)) (by omega)
  obtain ⟨o, hf, nd⟩ := HO.out
  exact ⟨_, F, rfl, Own.keep _ _ _ o fun x hx => blk4_other (by have := hf x hx; omega), fun x hx => by have := hf x hx; omega, nd, hend _ _ _ _⟩
end Go.Proofs.Ytenmhpalpfppmao

/- Rows of terms that are copied: what is copied, and what the copies come to. Of no program. -/
namespace Go.Proofs.Ytenmhpalpfppmao
open Go.RowKit

/-- a row: its block, how many terms, its cells -/
abbrev Row := Nat × Nat × List Value

mutual
/-- the value v is the term in w; its rows that are not empty, each in a block of its own -/
def Src (e : TypeId) (w : World) : Tm → Value → List Row → Prop
  | .mk k s n ks, v, R => ∃ ao cap, v = .agg #[.int .i64 k, .string s, .int .i64 n, .slice ao ks.length cap] ∧ (-9223372036854775808 ≤ k ∧ k ≤ 9223372036854775807) ∧ (-9223372036854775808 ≤ n ∧ n ≤ 9223372036854775807) ∧ s.size ≤ maxLen ∧
    ((ks = [] ∧ R = []) ∨ ∃ g cs R', ks ≠ [] ∧ ao = some ⟨g, 0, none⟩ ∧ w.ownsRow 0 e 4 (.slice (some ⟨g, 0, none⟩) ks.length cap) ks.length cs ∧ R = (g, ks.length, cs) :: R' ∧ SrcRow e w ks cs R')
def SrcRow (e : TypeId) (w : World) : List Tm → List Value → List Row → Prop
  | [], cs, R => cs = [] ∧ R = []
  | t :: ts, cs, R => ∃ c0 c1 c2 c3 cs' R1 R2, cs = c0 :: c1 :: c2 :: c3 :: cs' ∧ R = R1 ++ R2 ∧ Src e w t (.agg #[c0, c1, c2, c3]) R1 ∧ SrcRow e w ts cs' R2
end

mutual
theorem own_src {e : TypeId} {w : World} : ∀ (t : Tm) (v : Value) (F : List Nat), Own e w t v F → ∃ R, Src e w t v R ∧ (R.map (·.1)).Sublist F
  | .mk k s n ks, v, F, h => by
    unfold Own at h
    obtain ⟨sl, rfl, h1, h2, h3, h4⟩ := h
    rcases h4 with ⟨rfl, rfl, rfl⟩ | ⟨g, cap, cs, F', rfl, h5, rfl, h6⟩
    · exact ⟨[], by unfold Src; exact ⟨none, 0, rfl, h1, h2, h3, Or.inl ⟨rfl, rfl⟩⟩, List.Sublist.refl _⟩
    · by_cases h0 : ks = []
      · subst h0
        exact ⟨[], by unfold Src; exact ⟨_, _, rfl, h1, h2, h3, Or.inl ⟨rfl, rfl⟩⟩, List.nil_sublist _⟩
      · obtain ⟨R, hR, hs⟩ := ownRow_src ks cs F' h6
        exact ⟨(g, ks.length, cs) :: R, by unfold Src; exact ⟨_, _, rfl, h1, h2, h3, Or.inr ⟨g, cs, R, h0, rfl, h5, rfl, hR⟩⟩, by simpa using hs.cons_cons g⟩
theorem ownRow_src {e : TypeId} {w : World} : ∀ (ks : List Tm) (cs : List Value) (F : List Nat), OwnRow e w ks cs F → ∃ R, SrcRow e w ks cs R ∧ (R.map (·.1)).Sublist F
  | [], cs, F, h => by
    unfold OwnRow at h
    obtain ⟨rfl, rfl⟩ := h
    exact ⟨[], by unfold SrcRow; exact ⟨rfl, rfl⟩, List.Sublist.refl _⟩
  | t :: ts, cs, F, h => by
    unfold OwnRow at h
    obtain ⟨c0, c1, c2, c3, cs', F1, F2, rfl, rfl, h1, h2⟩ := h
    obtain ⟨R1, a1, a2⟩ := own_src t _ F1 h1
    obtain ⟨R2, b1, b2⟩ := ownRow_src ts cs' F2 h2
    exact ⟨R1 ++ R2, by unfold SrcRow; exact ⟨c0, c1, c2, c3, cs', R1, R2, rfl, rfl, a1, b1⟩, by rw [List.map_append]; exact a2.append b2⟩
end

mutual
theorem Src.keep {e : TypeId} {w w' : World} : ∀ (t : Tm) (v : Value) (R : List Row), Src e w t v R → (∀ r ∈ R, w'.heap[r.1]? = w.heap[r.1]?) → Src e w' t v R
  | .mk k s n ks, v, R, h, hF => by
    unfold Src at h ⊢
    obtain ⟨ao, cap, rfl, h1, h2, h3, h4⟩ := h
    refine ⟨ao, cap, rfl, h1, h2, h3, ?_⟩
    rcases h4 with h4 | ⟨g, cs, R', h0, rfl, h5, rfl, h6⟩
    · exact Or.inl h4
    · exact Or.inr ⟨g, cs, R', h0, rfl, row_keep h5 (hF (g, ks.length, cs) (by simp)), rfl, SrcRow.keep ks cs R' h6 (fun r hr => hF r (by simp [hr]))⟩
theorem SrcRow.keep {e : TypeId} {w w' : World} : ∀ (ks : List Tm) (cs : List Value) (R : List Row), SrcRow e w ks cs R → (∀ r ∈ R, w'.heap[r.1]? = w.heap[r.1]?) → SrcRow e w' ks cs R
  | [], _, _, h, _ => by unfold SrcRow at h ⊢; exact h
  | t :: ts, cs, R, h, hF => by
    unfold SrcRow at h ⊢
    obtain ⟨c0, c1, c2, c3, cs', R1, R2, rfl, rfl, h1, h2⟩ := h
    exact ⟨c0, c1, c2, c3, cs', R1, R2, rfl, rfl, Src.keep t _ R1 h1 (fun f hf => hF f (by simp [hf])), SrcRow.keep ts cs' R2 h2 (fun f hf => hF f (by simp [hf]))⟩
end

/-- a row's block is one of cells, of that length -/
def RowIn (e : TypeId) (w : World) (r : Row) : Prop := ∃ cap, w.ownsRow 0 e 4 (.slice (some ⟨r.1, 0, none⟩) r.2.1 cap) r.2.1 r.2.2

mutual
theorem Src.rows {e : TypeId} {w : World} : ∀ (t : Tm) (v : Value) (R : List Row), Src e w t v R → (∀ r ∈ R, RowIn e w r) ∧ (R.map (·.2.1)).sum ≤ t.wt
  | .mk k s n ks, v, R, h => by
    unfold Src at h
    obtain ⟨ao, cap, rfl, h1, h2, h3, h4⟩ := h
    have ew : (Tm.mk k s n ks).wt = s.size + (ks.length + wts ks) := by simp [Tm.wt, wts]; omega
    rw [ew]
    rcases h4 with ⟨rfl, rfl⟩ | ⟨g, cs, R', h0, rfl, h5, rfl, h6⟩
    · exact ⟨by simp, by simp⟩
    · obtain ⟨a1, a2⟩ := SrcRow.rows ks cs R' h6
      refine ⟨fun r hr => ?_, by simp; omega⟩
      rcases List.mem_cons.1 hr with rfl | hr
      · exact ⟨cap, h5⟩
      · exact a1 r hr
theorem SrcRow.rows {e : TypeId} {w : World} : ∀ (ks : List Tm) (cs : List Value) (R : List Row), SrcRow e w ks cs R → (∀ r ∈ R, RowIn e w r) ∧ (R.map (·.2.1)).sum ≤ wts ks
  | [], _, _, h => by unfold SrcRow at h; obtain ⟨_, rfl⟩ := h; exact ⟨by simp, by simp⟩
  | t :: ts, cs, R, h => by
    unfold SrcRow at h
    obtain ⟨c0, c1, c2, c3, cs', R1, R2, rfl, rfl, h1, h2⟩ := h
    obtain ⟨a1, a2⟩ := Src.rows t _ R1 h1
    obtain ⟨b1, b2⟩ := SrcRow.rows ts cs' R2 h2
    refine ⟨fun r hr => ?_, ?_⟩
    · rcases List.mem_append.1 hr with hr | hr
      · exact a1 r hr
      · exact b1 r hr
    · rw [List.map_append, List.sum_append]
      show _ ≤ Tm.wt.wts (t :: ts)
      simp only [Tm.wt.wts]
      unfold wts at b2
      omega
end

/-- the cells of a row: four a term, their texts no longer than they weigh -/
def CellsOk (cs : List Value) (n L : Nat) : Prop := cs.length = n * 4 ∧ ∀ j, j < n → ∃ k s i ao m cap, cs[j * 4]? = some (.int .i64 k) ∧ cs[j * 4 + 1]? = some (.string s) ∧ cs[j * 4 + 2]? = some (.int .i64 i) ∧ cs[j * 4 + 3]? = some (.slice ao m cap) ∧ s.size ≤ L

theorem srcRow_cells {e : TypeId} {w : World} (L : Nat) : ∀ (ks : List Tm) (cs : List Value) (R : List Row), SrcRow e w ks cs R → wts ks ≤ L → CellsOk cs ks.length L
  | [], _, _, h, _ => by unfold SrcRow at h; obtain ⟨rfl, rfl⟩ := h; exact ⟨rfl, fun j hj => by simp at hj⟩
  | t :: ts, cs, R, h, hw => by
    unfold SrcRow at h
    obtain ⟨c0, c1, c2, c3, cs', R1, R2, rfl, rfl, h1, h2⟩ := h
    have e1 : wts (t :: ts) = t.wt + wts ts := by simp [wts, Tm.wt.wts]
    rw [e1] at hw
    obtain ⟨a1, a2⟩ := srcRow_cells L ts cs' R2 h2 (by omega)
    obtain ⟨k, s, n, ks⟩ := t
    have ew : (Tm.mk k s n ks).wt = s.size + (ks.length + wts ks) := by simp [Tm.wt, wts]; omega
    unfold Src at h1
    obtain ⟨ao, cap, he, _⟩ := h1
    obtain ⟨rfl, rfl, rfl, rfl⟩ : c0 = .int .i64 k ∧ c1 = .string s ∧ c2 = .int .i64 n ∧ c3 = .slice ao ks.length cap := by simpa using he
    refine ⟨by simp only [List.length_cons, a1]; omega, fun j hj => ?_⟩
    cases j with
    | zero => exact ⟨k, s, n, ao, ks.length, cap, rfl, rfl, rfl, rfl, by omega⟩
    | succ j =>
      obtain ⟨k', s', i', ao', m', cap', b1, b2, b3, b4, b5⟩ := a2 j (by simpa using hj)
      refine ⟨k', s', i', ao', m', cap', ?_, ?_, ?_, ?_, b5⟩
      · rw [show (j + 1) * 4 = j * 4 + 1 + 1 + 1 + 1 by omega]; simpa using b1
      · rw [show (j + 1) * 4 + 1 = j * 4 + 1 + 1 + 1 + 1 + 1 by omega]; simpa using b2
      · rw [show (j + 1) * 4 + 2 = j * 4 + 2 + 1 + 1 + 1 + 1 by omega]; simpa using b3
      · rw [show (j + 1) * 4 + 3 = j * 4 + 3 + 1 + 1 + 1 + 1 by omega]; simpa using b4

mutual
theorem Src.all {e : TypeId} {w : World} (L : Nat) : ∀ (t : Tm) (v : Value) (R : List Row), Src e w t v R → t.wt ≤ L → ∀ r ∈ R, CellsOk r.2.2 r.2.1 L ∧ 0 < r.2.1
  | .mk k s n ks, v, R, h, hL => by
    unfold Src at h
    obtain ⟨ao, cap, rfl, h1, h2, h3, h4⟩ := h
    have ew : (Tm.mk k s n ks).wt = s.size + (ks.length + wts ks) := by simp [Tm.wt, wts]; omega
    rw [ew] at hL
    rcases h4 with ⟨rfl, rfl⟩ | ⟨g, cs, R', h0, rfl, h5, rfl, h6⟩
    · intro r hr; cases hr
    · intro r hr
      rcases List.mem_cons.1 hr with rfl | hr
      · exact ⟨srcRow_cells L ks cs R' h6 (by omega), by cases ks with | nil => exact absurd rfl h0 | cons _ _ => simp⟩
      · exact SrcRow.all L ks cs R' h6 (by omega) r hr
theorem SrcRow.all {e : TypeId} {w : World} (L : Nat) : ∀ (ks : List Tm) (cs : List Value) (R : List Row), SrcRow e w ks cs R → wts ks ≤ L → ∀ r ∈ R, CellsOk r.2.2 r.2.1 L ∧ 0 < r.2.1
  | [], _, _, h, _ => by unfold SrcRow at h; obtain ⟨_, rfl⟩ := h; intro r hr; cases hr
  | t :: ts, cs, R, h, hL => by
    unfold SrcRow at h
    obtain ⟨c0, c1, c2, c3, cs', R1, R2, rfl, rfl, h1, h2⟩ := h
    have e1 : wts (t :: ts) = t.wt + wts ts := by simp [wts, Tm.wt.wts]
    rw [e1] at hL
    intro r hr
    rcases List.mem_append.1 hr with hr | hr
    · exact Src.all L t _ R1 h1 (by omega) r hr
    · exact SrcRow.all L ts cs' R2 h2 (by omega) r hr
end
theorem rows_len : ∀ (R : List Row), (∀ r ∈ R, 0 < r.2.1) → R.length ≤ (R.map (·.2.1)).sum
  | [], _ => by simp
  | r :: R, h => by
    have := rows_len R fun r' hr => h r' (by simp [hr])
    have := h r (by simp)
    simp only [List.length_cons, List.map_cons, List.sum_cons]
    omega

/-- a cell of the copy: a list that is not empty is another block's -/
def cpV (gg cc : Nat → Nat) : Value → Value
  | .slice (some a) (n + 1) _ => .slice (some ⟨gg a.block, 0, none⟩) (n + 1) (cc a.block)
  | .slice _ _ _ => .slice none 0 0
  | v => v

theorem cpV_nil (gg cc : Nat → Nat) (ao : Option Addr) (cap : Nat) : cpV gg cc (.slice ao 0 cap) = .slice none 0 0 := by
  cases ao <;> rfl
theorem cpV_some (gg cc : Nat → Nat) (a : Addr) (n cap : Nat) (h : 0 < n) : cpV gg cc (.slice (some a) n cap) = .slice (some ⟨gg a.block, 0, none⟩) n (cc a.block) := by
  obtain ⟨m, rfl⟩ : ∃ m, n = m + 1 := ⟨n - 1, by omega⟩
  rfl

mutual
theorem Src.copied {e : TypeId} {w0 w : World} (gg cc : Nat → Nat) : ∀ (t : Tm) (v : Value) (R : List Row), Src e w0 t v R → (∀ r ∈ R, w.ownsRow 0 e 4 (.slice (some ⟨gg r.1, 0, none⟩) r.2.1 (cc r.1)) r.2.1 (r.2.2.map (cpV gg cc))) →
    ∀ c0 c1 c2 c3, v = .agg #[c0, c1, c2, c3] → Own e w t (.agg #[cpV gg cc c0, cpV gg cc c1, cpV gg cc c2, cpV gg cc c3]) (R.map fun r => gg r.1)
  | .mk k s n ks, v, R, h, hR, c0, c1, c2, c3, hv => by
    unfold Src at h
    obtain ⟨ao, cap, rfl, h1, h2, h3, h4⟩ := h
    obtain ⟨rfl, rfl, rfl, rfl⟩ : .int .i64 k = c0 ∧ .string s = c1 ∧ .int .i64 n = c2 ∧ .slice ao ks.length cap = c3 := by simpa using hv
    unfold Own
    refine ⟨cpV gg cc (.slice ao ks.length cap), rfl, h1, h2, h3, ?_⟩
    rcases h4 with ⟨rfl, rfl⟩ | ⟨g, cs, R', h0, rfl, h5, rfl, h6⟩
    · exact Or.inl ⟨cpV_nil _ _ _ _, rfl, rfl⟩
    · have hl : 0 < ks.length := by cases ks with | nil => exact absurd rfl h0 | cons _ _ => simp
      rw [cpV_some _ _ _ _ _ hl]
      exact Or.inr ⟨gg g, cc g, cs.map (cpV gg cc), R'.map fun r => gg r.1, rfl, hR (g, ks.length, cs) (by simp), by simp, SrcRow.copied gg cc ks cs R' h6 fun r hr => hR r (by simp [hr])⟩
theorem SrcRow.copied {e : TypeId} {w0 w : World} (gg cc : Nat → Nat) : ∀ (ks : List Tm) (cs : List Value) (R : List Row), SrcRow e w0 ks cs R → (∀ r ∈ R, w.ownsRow 0 e 4 (.slice (some ⟨gg r.1, 0, none⟩) r.2.1 (cc r.1)) r.2.1 (r.2.2.map (cpV gg cc))) →
    OwnRow e w ks (cs.map (cpV gg cc)) (R.map fun r => gg r.1)
  | [], _, _, h, _ => by unfold SrcRow at h; obtain ⟨rfl, rfl⟩ := h; unfold OwnRow; exact ⟨rfl, rfl⟩
  | t :: ts, cs, R, h, hR => by
    unfold SrcRow at h
    obtain ⟨c0, c1, c2, c3, cs', R1, R2, rfl, rfl, h1, h2⟩ := h
    unfold OwnRow
    exact ⟨cpV gg cc c0, cpV gg cc c1, cpV gg cc c2, cpV gg cc c3, cs'.map (cpV gg cc), R1.map (fun r => gg r.1), R2.map (fun r => gg r.1), rfl, by rw [List.map_append],
      Src.copied gg cc t _ R1 h1 (fun r hr => hR r (by simp [hr])) c0 c1 c2 c3 rfl, SrcRow.copied gg cc ts cs' R2 h2 fun r hr => hR r (by simp [hr])⟩
end
end Go.Proofs.Ytenmhpalpfppmao

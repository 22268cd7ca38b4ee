/- Four texts in one. -/
import Derived.Test.YtmhmlkdoaojimapGreatDoorMrg1
import Derived.Test.YtmhmlkdoaojimapGreatDoorMrg5
import Derived.Test.YtmhmlkdoaojimapGreatDoorMrg11
import Derived.Test.YtmhmlkdoaojimapGreatDoorMrg12
import Derived.Test.YtmhmlkdoaojimapGreatDoorMrg13
import Derived.Test.YtmhmlkdoaojimapGreatDoorMrg2
/- The predicates of Control, and the name of a term's predicate. Of no program. -/
namespace Go.Proofs.YtmhmlkdoaojimapGreatDoor

def ctlL : List (List UInt8) := [[116, 114, 117, 101, 47, 48], [102, 97, 105, 108, 47, 48], [33, 47, 48], [44, 47, 50], [59, 47, 50], [45, 62, 47, 50], [92, 43, 47, 49], [99, 97, 108, 108, 47, 49], [99, 97, 108, 108, 47, 50], [99, 97, 108, 108, 47, 51], [99, 97, 116, 99, 104, 47, 51], [116, 104, 114, 111, 119, 47, 49], [61, 47, 50], [92, 61, 47, 50], [61, 61, 47, 50], [105, 115, 47, 50], [60, 47, 50], [61, 58, 61, 47, 50], [118, 97, 114, 47, 49], [97, 116, 111, 109, 47, 49], [119, 114, 105, 116, 101, 47, 49], [97, 115, 115, 101, 114, 116, 122, 47, 49], [114, 101, 116, 114, 97, 99, 116, 47, 49], [58, 45, 47, 50], [58, 45, 47, 49], [45, 45, 62, 47, 50]]
/-- one of the predicates of Control -/
def ctlB (s : ByteArray) : Bool := ctlL.any fun l => s.toList == l
theorem ctl_no {s : ByteArray} (e0 : (s.toList == [116, 114, 117, 101, 47, 48]) = false) (e1 : (s.toList == [102, 97, 105, 108, 47, 48]) = false) (e2 : (s.toList == [33, 47, 48]) = false) (e3 : (s.toList == [44, 47, 50]) = false) (e4 : (s.toList == [59, 47, 50]) = false) (e5 : (s.toList == [45, 62, 47, 50]) = false) (e6 : (s.toList == [92, 43, 47, 49]) = false) (e7 : (s.toList == [99, 97, 108, 108, 47, 49]) = false) (e8 : (s.toList == [99, 97, 108, 108, 47, 50]) = false) (e9 : (s.toList == [99, 97, 108, 108, 47, 51]) = false) (e10 : (s.toList == [99, 97, 116, 99, 104, 47, 51]) = false) (e11 : (s.toList == [116, 104, 114, 111, 119, 47, 49]) = false) (e12 : (s.toList == [61, 47, 50]) = false) (e13 : (s.toList == [92, 61, 47, 50]) = false) (e14 : (s.toList == [61, 61, 47, 50]) = false) (e15 : (s.toList == [105, 115, 47, 50]) = false) (e16 : (s.toList == [60, 47, 50]) = false) (e17 : (s.toList == [61, 58, 61, 47, 50]) = false) (e18 : (s.toList == [118, 97, 114, 47, 49]) = false) (e19 : (s.toList == [97, 116, 111, 109, 47, 49]) = false) (e20 : (s.toList == [119, 114, 105, 116, 101, 47, 49]) = false) (e21 : (s.toList == [97, 115, 115, 101, 114, 116, 122, 47, 49]) = false) (e22 : (s.toList == [114, 101, 116, 114, 97, 99, 116, 47, 49]) = false) (e23 : (s.toList == [58, 45, 47, 50]) = false) (e24 : (s.toList == [58, 45, 47, 49]) = false) (e25 : (s.toList == [45, 45, 62, 47, 50]) = false) : ctlB s = false := by
  unfold ctlB ctlL
  simp only [List.any_cons, List.any_nil, Bool.or_false, e0, e1, e2, e3, e4, e5, e6, e7, e8, e9, e10, e11, e12, e13, e14, e15, e16, e17, e18, e19, e20, e21, e22, e23, e24, e25]
/-- a text is no constant -/
theorem toL_neq {s : ByteArray} {l : List UInt8} (h : ¬ s = ⟨l.toArray⟩) : (s.toList == l) = false := by
  rw [beq_eq_false_iff_ne]
  intro e
  apply h
  rw [ByteArray.toList_eq] at e
  subst e
  simp
theorem decI_le (n : Int) (h : -999999999 ≤ n ∧ n ≤ 999999999) : (decI n).length ≤ 11 := by
  unfold decI
  split
  · have := decR_len 10 n.natAbs (by omega)
    simp only [List.length_cons]; omega
  · unfold decB
    split
    · decide
    · have := decR_len 10 n.toNat (by omega)
      omega
/-- the name of a term's predicate; empty of one that has none -/
def predB : Tm → ByteArray
  | .mk k s _ ks => if k = 2 ∨ k = 4 then s ++ ⟨#[47]⟩ ++ ⟨(decI (ks.length : Int)).toArray⟩ else ⟨#[]⟩
end Go.Proofs.YtmhmlkdoaojimapGreatDoor

/- Clauses of terms: head and body, the plain rule. Of no program. -/
namespace Go.Proofs.YtmhmlkdoaojimapGreatDoor
open Go.RowKit

def cIf : ByteArray := ⟨#[58, 45]⟩
def cTrue : ByteArray := ⟨#[116, 114, 117, 101]⟩
def cCall : ByteArray := ⟨#[99, 97, 108, 108]⟩
def Tm.kd : Tm → Int
  | .mk k _ _ _ => k
/-- a struct of a name, with so many kids -/
def isSB (k : Int) (s : ByteArray) (l : Nat) (m : ByteArray) (c : Int) : Bool := decide (k = 4) && decide (s = m) && decide ((l : Int) = c)
/-- of a name that may have clauses -/
def mayB (p : ByteArray) : Bool := decide (¬ p = ⟨#[]⟩) && !ctlB p
/-- head and body -/
def cutC : Tm → Tm × Tm
  | .mk k s n [h, b] => if k = 4 ∧ s = cIf then (h, if b.kd = 1 then .mk 4 cCall 0 [b] else b) else (.mk k s n [h, b], .mk 2 cTrue 0 [])
  | t => (t, .mk 2 cTrue 0 [])
theorem cutC_yes (n : Int) (h b : Tm) : cutC (.mk 4 cIf n [h, b]) = (h, if b.kd = 1 then .mk 4 cCall 0 [b] else b) := by
  simp [cutC]
theorem cutC_no {k : Int} {s : ByteArray} {ks : List Tm} (n : Int) (h : isSB k s ks.length cIf 2 = false) : cutC (.mk k s n ks) = (.mk k s n ks, .mk 2 cTrue 0 []) := by
  match ks, h with
  | [], _ => rfl
  | [_], _ => rfl
  | [_, _], h =>
    refine if_neg ?_
    rintro ⟨rfl, rfl⟩
    simp [isSB] at h
  | _ :: _ :: _ :: _, _ => rfl
theorem isSB_yes {k : Int} {s m : ByteArray} {ks : List Tm} (h : isSB k s ks.length m 2 = true) : k = 4 ∧ s = m ∧ ∃ a b, ks = [a, b] := by
  simp only [isSB, Bool.and_eq_true, decide_eq_true_eq] at h
  obtain ⟨⟨h1, h2⟩, h3⟩ := h
  refine ⟨h1, h2, ?_⟩
  match ks, h3 with
  | [a, b], _ => exact ⟨a, b, rfl⟩
  | [], h3 => simp at h3
  | [_], h3 => simp at h3
  | _ :: _ :: _ :: _, h3 => simp at h3; omega
/-- a term is a clause -/
def clB (t : Tm) : Bool := t.ok && mayB (predB (cutC t).1)
theorem right_up (t : Tm) : ∀ d, t.right (d + 1) = true → t.right d = true := by
  refine tm_ind (p := fun t => ∀ d, t.right (d + 1) = true → t.right d = true) ?_ t
  intro k s n ks hks d h
  rw [right_mk, Bool.and_eq_true, Bool.and_eq_true] at h ⊢
  refine ⟨⟨?_, h.1.2⟩, ?_⟩
  · have := of_decide_eq_true h.1.1
    exact decide_eq_true (by omega)
  · have h2 := h.2
    rw [rights_all, List.all_eq_true] at h2 ⊢
    exact fun u hu => hks u hu _ (h2 u hu)
theorem okk_right {t : Tm} (h : t.ok = true) : t.right 1 = true := by
  unfold Tm.ok at h; rw [Bool.and_eq_true] at h; exact h.2
theorem okk_n {t : Tm} (h : t.ok = true) : t.n ≤ 400 := by
  unfold Tm.ok at h; rw [Bool.and_eq_true] at h; exact of_decide_eq_true h.1
theorem okk_mk {t : Tm} (h : t.n ≤ 400) (h2 : t.right 1 = true) : t.ok = true := by
  unfold Tm.ok; rw [Bool.and_eq_true]; exact ⟨decide_eq_true h, h2⟩
theorem okk_nk {ks : List Tm} {u : Tm} (hu : u ∈ ks) : u.n ≤ ns ks := by
  induction ks with
  | nil => cases hu
  | cons a r ih =>
    have e : ns (a :: r) = a.n + ns r := by simp [ns, Tm.n.ns]
    rcases List.mem_cons.1 hu with rfl | h
    · omega
    · have := ih h; omega
theorem okk_kid {k : Int} {s : ByteArray} {n : Int} {ks : List Tm} (h : (Tm.mk k s n ks).ok = true) {u : Tm} (hu : u ∈ ks) : u.ok = true ∧ u.right 2 = true := by
  have h1 := okk_right h
  have h2 := okk_n h
  rw [n_mk] at h2
  rw [right_mk, Bool.and_eq_true, Bool.and_eq_true, rights_all, List.all_eq_true] at h1
  have h3 := h1.2 u hu
  exact ⟨okk_mk (by have := okk_nk hu; omega) (right_up u 1 h3), h3⟩
theorem ok_true : (Tm.mk 2 cTrue 0 []).ok = true := by decide
theorem ok_call {b : Tm} (h : b.right 2 = true) (hk : b.kd = 1) : (Tm.mk 4 cCall 0 [b]).ok = true := by
  obtain ⟨k, s, n, ks⟩ := b
  obtain rfl : k = 1 := hk
  have h' := h
  rw [right_mk, Bool.and_eq_true, Bool.and_eq_true] at h
  have h1 := h.1.2
  unfold oneT at h1
  rw [if_pos rfl] at h1
  simp only [Bool.and_eq_true, decide_eq_true_eq] at h1
  obtain rfl : ks = [] := List.eq_nil_of_length_eq_zero h1.2
  refine okk_mk ?_ ?_
  · rw [n_mk]; show 1 + ns [_] ≤ 400
    have e : ns [Tm.mk 1 s n []] = 1 := by simp [ns, Tm.n.ns, Tm.n]
    omega
  · rw [right_mk, Bool.and_eq_true, Bool.and_eq_true, rights_all, List.all_eq_true]
    refine ⟨⟨by decide, by show oneT 4 cCall 0 1 = true; decide⟩, fun u hu => ?_⟩
    obtain rfl : u = _ := by simpa using hu
    exact h'
/-- what is cut of a right term is right -/
theorem cut_ok {t : Tm} (h : t.ok = true) : (cutC t).1.ok = true ∧ (cutC t).2.ok = true := by
  obtain ⟨k, s, n, ks⟩ := t
  cases hc : isSB k s ks.length cIf 2 with
  | false => rw [cutC_no n hc]; exact ⟨h, ok_true⟩
  | true =>
    obtain ⟨rfl, rfl, a, b, rfl⟩ := isSB_yes hc
    rw [cutC_yes]
    have hb := okk_kid h (u := b) (by simp)
    refine ⟨(okk_kid h (u := a) (by simp)).1, ?_⟩
    show (if _ then _ else _ : Tm).ok = true
    split
    · rename_i hk; exact ok_call hb.2 hk
    · exact hb.1
theorem ok_wt {t : Tm} (h : t.ok = true) : t.wt ≤ 10000 := by
  have hb : ∀ (t : Tm) (d : Nat), t.right d = true → t.wt + 1 ≤ 22 * t.n := by
    intro t
    refine tm_ind (p := fun t => ∀ d, t.right d = true → t.wt + 1 ≤ 22 * t.n) ?_ t
    intro k s n ks hks d h
    rw [right_mk, Bool.and_eq_true, Bool.and_eq_true, rights_all, List.all_eq_true] at h
    have hs : s.size ≤ 20 := by
      have h1 := h.1.2
      unfold oneT nameOk at h1
      split at h1
      · simp only [Bool.and_eq_true, decide_eq_true_eq] at h1; omega
      · split at h1
        · simp only [Bool.and_eq_true, decide_eq_true_eq] at h1; omega
        · split at h1
          · simp only [Bool.and_eq_true, decide_eq_true_eq] at h1; omega
          · split at h1
            · simp only [Bool.and_eq_true, decide_eq_true_eq] at h1; omega
            · cases h1
    have hL : ∀ l : List Tm, (∀ t ∈ l, t ∈ ks) → wts l + l.length ≤ 22 * ns l := by
      intro l hl
      induction l with
      | nil => simp [wts, Tm.wt.wts]
      | cons a r ih =>
        have e : ns (a :: r) = a.n + ns r := by simp [ns, Tm.n.ns]
        have e2 : wts (a :: r) = a.wt + wts r := by simp [wts, Tm.wt.wts]
        have h1 := hks a (hl a (by simp)) _ (h.2 a (hl a (by simp)))
        have h2 := ih fun t ht => hl t (by simp [ht])
        simp only [List.length_cons]
        omega
    have h3 := hL ks fun t ht => ht
    have ew : (Tm.mk k s n ks).wt = s.size + (ks.length + wts ks) := by simp [Tm.wt, wts]; omega
    rw [n_mk, ew]
    omega
  have := hb t 1 (okk_right h)
  have := okk_n h
  omega
end Go.Proofs.YtmhmlkdoaojimapGreatDoor

/- (*copier).copyOf of a right term: a copy in memory of its own, and nothing is turned. -/
namespace Go.Proofs.YtmhmlkdoaojimapGreatDoor
open Go.RowKit

set_option maxHeartbeats 4000000 in
set_option maxRecDepth 20000 in
theorem copy_sp (t : Tm) (v : Value) (w : World) (gc : Nat) (hin : TmIn w t v) (hwt : t.wt ≤ 1048576) (hsh : t.shp 0) (hr : (match t with | .mk _ _ _ ks => ks.length = 0) ∨ t.ok = true) :
    Calls Tryz.prog 63 #[.pointer (some ⟨gc, 0, none⟩), v] w fun e w' => ∃ v' F', e = .returned v' ∧ Own 41 w' t v' F' ∧ (∀ f ∈ F', w.heap.size ≤ f) ∧ F'.Nodup ∧ Below w.heap.size w w' := by
  obtain ⟨k, s, n, ks⟩ := t
  have hr' : ks.length = 0 ∨ (Tm.mk k s n ks).ok = true := hr
  clear hr
  have hin' := hin
  unfold TmIn at hin
  obtain ⟨ao, cap, rfl, hk, hn, hs, hlen, hcap, _⟩ := hin
  obtain ⟨W, hW⟩ : ∃ W, W = (w.alloc (.cells #[.int .i64 k, .string s, .int .i64 n, .slice ao ks.length cap] 41)).alloc (.cells #[.int .i64 0, .string ⟨#[]⟩, .int .i64 0, .slice none 0 0] 41) := ⟨_, rfl⟩
  have bW : Below w.heap.size w W := by rw [hW]; exact ((Below.refl _ _).alloc (Nat.le_refl _) _).alloc (by simp) _
  have k1 : W.heap[w.heap.size]? = some (.cells #[.int .i64 k, .string s, .int .i64 n, .slice ao ks.length cap] 41 (0, 0)) := by rw [hW]; exact (alloc_old _ _ (by simp)).trans (alloc_at _ _ rfl)
  have k2 : W.heap[w.heap.size + 1]? = some (.cells #[.int .i64 0, .string ⟨#[]⟩, .int .i64 0, .slice none 0 0] 41 (0, 0)) := by rw [hW]; exact alloc_at _ _ (by simp)
  have lW : W.heap.size = w.heap.size + 2 := by rw [hW]; simp
  have HK : Hid (∀ w1, Below W.heap.size W w1 → w1.heap[w.heap.size]? = some (.cells #[.int .i64 k, .string s, .int .i64 n, .slice ao ks.length cap] 41 (0, 0)) ∧ w1.heap[w.heap.size + 1]? = some (.cells #[.int .i64 0, .string ⟨#[]⟩, .int .i64 0, .slice none 0 0] 41 (0, 0))) := fun w1 hb => ⟨(hb.block _ (by omega)).trans k1, (hb.block _ (by omega)).trans k2⟩
  have HBW : Hid (Below w.heap.size w W) := bW
  unfold maxLen at hcap
  have HOK := implOk _ W _ (TmIn.keep bW _ _ hin')
  have HSR : Hid (∀ w1, Below W.heap.size W w1 → Calls Tryz.prog 73 #[.agg #[.int .i64 k, .string s, .int .i64 n, .slice ao ks.length cap], .int .i64 0] w1 fun e w' => ∃ v' F, e = .returned v' ∧ Own 41 w' (.mk k s n ks) v' F ∧ (∀ f ∈ F, w1.heap.size ≤ f) ∧ F.Nodup ∧ Below w1.heap.size w1 w') := fun w1 hb => by
    have := shifted_right 0 (.mk k s n ks) w1 _ (TmIn.keep (bW.trans (hb.mono bW.size)) _ _ hin') (by omega) hsh
    rwa [shift_zero] at this
  have HE : Hid (∀ w1 w2 v' F', Below W.heap.size W w1 → Own 41 w2 (.mk k s n ks) v' F' → (∀ f ∈ F', w1.heap.size ≤ f) → Below w1.heap.size w1 w2 → (∀ f ∈ F', w.heap.size ≤ f) ∧ ∀ d0 d1 d2 d3 w3, w3 = ((((w2.setCell ⟨w.heap.size + 1, 0, none⟩ d0).setCell ⟨w.heap.size + 1, 1, none⟩ d1).setCell ⟨w.heap.size + 1, 2, none⟩ d2).setCell ⟨w.heap.size + 1, 3, none⟩ d3) →
      Own 41 w3 (.mk k s n ks) v' F' ∧ Below w.heap.size w w3) := by
    intro w1 w2 v' F' hb1 ho hf hb2
    have hs1 := hb1.size
    refine ⟨fun f hf' => by have := hf f hf'; omega, fun d0 d1 d2 d3 w3 hw3 => ⟨Own.keep _ _ _ ho fun f hf' => ?_, ?_⟩⟩
    · have := hf f hf'
      rw [hw3, blk4_other (by omega)]
    · rw [hw3]
      exact blk4_below (bW.trans ((hb1.trans (hb2.mono hb1.size)).mono bW.size)) (by omega)
  clear hsh hin' bW k1 k2 hwt
  by_cases hk0 : ks.length = 0
  · rw [hk0] at hW HK HSR ⊢
    have HS0 := HSR.out W (Below.refl _ _)
    rw [hW] at HS0
    replace HS0 : Hid _ := HS0
    clear HOK HSR hlen hr'
    go_enter Tryz.func63, Tryz.ntmps63
    go_wp2_with (go_at_call 73; refine (Calls.mono HS0.out ?_); rintro e w2 ⟨v', F2, rfl, ho, hfr, hnd, hb⟩; rw [← hW] at hfr hb; obtain ⟨k', s', n', ao', len', cap', rfl⟩ := own_shape ho; have hz := (HK.out w2 hb).2; obtain ⟨y0, y1, y2, y3, z0, z1, z2, z3⟩ := blk4 hz; have HX : Hid _ := HE.out W w2 _ F2 (Below.refl _ _) ho hfr hb; have HZ : Hid _ := hz; have HND : Hid F2.Nodup := hnd; clear ho hfr hb hz hnd)
    refine bodyPost_ret_by (results_cell_row rfl _ _ (w.heap.size + 1) 41 _ (0, 0) _ rfl (blk4_set HZ.out) Tryz.underlying41 rfl (by kernel_rfl)) rfl ?_
    exact ⟨_, F2, rfl, (HX.out.2 _ _ _ _ _ rfl).1, HX.out.1, HND.out, (HX.out.2 _ _ _ _ _ rfl).2⟩
  · rw [hr'.resolve_left hk0, hW] at HOK
    replace HOK : Hid _ := HOK
    have hk1 : ((ks.length : Int) == 0) = false := by rw [nat0]; exact decide_eq_false hk0
    clear hk0 hr'
    go_enter Tryz.func63, Tryz.ntmps63
    go_wp2_with (first | (go_at_call 55; refine (Calls.mono HOK.out ?_); rintro e w1 ⟨rfl, hb⟩; rw [← hW] at hb; obtain ⟨x0, x1, x2, x3, _⟩ := blk4 (HK.out w1 hb).1; have HS1 : Hid _ := HSR.out w1 hb; have HB1 : Hid (Below W.heap.size W w1) := hb; clear hb) | (go_at_call 73; refine (Calls.mono HS1.out ?_); rintro e w2 ⟨v', F2, rfl, ho, hfr, hnd, hb⟩; obtain ⟨k', s', n', ao', len', cap', rfl⟩ := own_shape ho; have hz := (HK.out w2 (HB1.out.trans (hb.mono HB1.out.size))).2; obtain ⟨y0, y1, y2, y3, z0, z1, z2, z3⟩ := blk4 hz; have HX : Hid _ := HE.out w1 w2 _ F2 HB1.out ho hfr hb; have HZ : Hid _ := hz; have HND : Hid F2.Nodup := hnd; clear ho hfr hb hz hnd))
    refine bodyPost_ret_by (results_cell_row rfl _ _ (w.heap.size + 1) 41 _ (0, 0) _ rfl (blk4_set HZ.out) Tryz.underlying41 rfl (by kernel_rfl)) rfl ?_
    exact ⟨_, F2, rfl, (HX.out.2 _ _ _ _ _ rfl).1, HX.out.1, HND.out, (HX.out.2 _ _ _ _ _ rfl).2⟩
theorem copy_ok (t : Tm) (v : Value) (w : World) (gc : Nat) (hin : TmIn w t v) (hok : t.ok = true) :
    Calls Tryz.prog 63 #[.pointer (some ⟨gc, 0, none⟩), v] w fun e w' => ∃ v' F', e = .returned v' ∧ Own 41 w' t v' F' ∧ (∀ f ∈ F', w.heap.size ≤ f) ∧ F'.Nodup ∧ Below w.heap.size w w' :=
  copy_sp t v w gc hin (by have := ok_wt hok; omega) (right_shp 0 (by omega) _ 1 (okk_right hok)) (Or.inr hok)
theorem copy_leaf (k : Int) (s : ByteArray) (n : Int) (ks : List Tm) (v : Value) (w : World) (gc : Nat) (hin : TmIn w (.mk k s n ks) v) (hwt : (Tm.mk k s n ks).wt ≤ 1048576) (h : ks.length = 0) :
    Calls Tryz.prog 63 #[.pointer (some ⟨gc, 0, none⟩), v] w fun e w' => ∃ v' F', e = .returned v' ∧ Own 41 w' (.mk k s n ks) v' F' ∧ (∀ f ∈ F', w.heap.size ≤ f) ∧ F'.Nodup ∧ Below w.heap.size w w' := by
  refine copy_sp _ v w gc hin hwt ?_ (Or.inl h)
  obtain rfl : ks = [] := List.eq_nil_of_length_eq_zero h
  unfold TmIn at hin
  obtain ⟨_, _, _, _, h2, _⟩ := hin
  rw [shp_mk]
  exact ⟨fun _ => by omega, Or.inl rfl, trivial⟩
end Go.Proofs.YtmhmlkdoaojimapGreatDoor

/- (*copier).copyOf of a copier that was used before: a copy in memory of its own. -/
namespace Go.Proofs.YtmhmlkdoaojimapGreatDoor
open Go.RowKit

/-- what a call leaves -/
def KPost (T0 : Nat) (D0 : List Nat) (osl : Value) (gc m : Nat) (t : Tm) (F : List Nat) (w : World) (e : Ending) (w' : World) : Prop :=
  ∃ v' F' T1 D1 osl', e = .returned v' ∧ Own 41 w' t v' F' ∧ (∀ f ∈ F', w.heap.size ≤ f ∧ osl'.ownBlock ≠ some f) ∧ F'.Nodup ∧ Out (gc :: m :: osl.ownBlock.toList) w w' ∧ KSt w' gc m T1 D1 osl' ∧ T1 ≤ T0 + (t.wt + 1) ∧ (∀ d ∈ D1, d ∈ D0 ∨ d ∈ F ∨ w.heap.size ≤ d) ∧ (∀ z, osl'.ownBlock = some z → osl.ownBlock = some z ∨ w.heap.size ≤ z)

set_option maxHeartbeats 4000000 in
set_option maxRecDepth 20000 in
theorem copy_any (t : Tm) (v : Value) (F : List Nat) (w : World) (gc m T0 : Nat) (D0 : List Nat) (osl : Value) (hown : Own 41 w t v F) (hnd : F.Nodup) (hwt : t.wt ≤ 1048576) (hst : KSt w gc m T0 D0 osl) (hT : T0 ≤ 2097152) (hF : ∀ f ∈ F, f ≠ gc ∧ f ≠ m ∧ osl.ownBlock ≠ some f ∧ f ∉ D0) :
    Calls Tryz.prog 63 #[.pointer (some ⟨gc, 0, none⟩), v] w (KPost T0 D0 osl gc m t F w) := by
  obtain ⟨k, s, n, ks⟩ := t
  have hlt := Own.lt _ _ _ hown
  have hin := Own.toIn _ _ _ hown
  have hin' := hin
  unfold TmIn at hin
  obtain ⟨ao, cap, rfl, hk, hn, hs, hlen, hcap, _⟩ := hin
  obtain ⟨W, hW⟩ : ∃ W, W = (w.alloc (.cells #[.int .i64 k, .string s, .int .i64 n, .slice ao ks.length cap] 41)).alloc (.cells #[.int .i64 0, .string ⟨#[]⟩, .int .i64 0, .slice none 0 0] 41) := ⟨_, rfl⟩
  have bW : Below w.heap.size w W := by rw [hW]; exact ((Below.refl _ _).alloc (Nat.le_refl _) _).alloc (by simp) _
  have k1 : W.heap[w.heap.size]? = some (.cells #[.int .i64 k, .string s, .int .i64 n, .slice ao ks.length cap] 41 (0, 0)) := by rw [hW]; exact (alloc_old _ _ (by simp)).trans (alloc_at _ _ rfl)
  have k2 : W.heap[w.heap.size + 1]? = some (.cells #[.int .i64 0, .string ⟨#[]⟩, .int .i64 0, .slice none 0 0] 41 (0, 0)) := by rw [hW]; exact alloc_at _ _ (by simp)
  have lW : W.heap.size = w.heap.size + 2 := by rw [hW]; simp
  have HK : Hid (∀ w1, Below W.heap.size W w1 → w1.heap[w.heap.size]? = some (.cells #[.int .i64 k, .string s, .int .i64 n, .slice ao ks.length cap] 41 (0, 0)) ∧ w1.heap[w.heap.size + 1]? = some (.cells #[.int .i64 0, .string ⟨#[]⟩, .int .i64 0, .slice none 0 0] 41 (0, 0))) := fun w1 hb => ⟨(hb.block _ (by omega)).trans k1, (hb.block _ (by omega)).trans k2⟩
  have HBW : Hid (Below w.heap.size w W) := bW
  have hl20 : ks.length ≤ 1048576 := by
    have ew : (Tm.mk k s n ks).wt = s.size + (ks.length + wts ks) := by simp [Tm.wt, wts]; omega
    omega
  unfold maxLen at hcap
  have hgm := hst.gm
  have HOK := implOk _ W _ (TmIn.keep bW _ _ hin')
  by_cases hr : ks.length = 0 ∨ (Tm.mk k s n ks).ok = true
  · have hfin : Calls Tryz.prog 63 #[.pointer (some ⟨gc, 0, none⟩), .agg #[.int .i64 k, .string s, .int .i64 n, .slice ao ks.length cap]] w fun e w' => ∃ v' F', e = .returned v' ∧ Own 41 w' (.mk k s n ks) v' F' ∧ (∀ f ∈ F', w.heap.size ≤ f) ∧ F'.Nodup ∧ Below w.heap.size w w' := by
      rcases hr with h | h
      · exact copy_leaf _ _ _ _ _ w gc hin' hwt h
      · exact copy_ok _ _ w gc hin' h
    refine Calls.mono hfin ?_
    rintro e w' ⟨v', F', rfl, o, f, nd, hb⟩
    exact ⟨v', F', T0, D0, osl, rfl, o, fun x hx => ⟨f x hx, fun e => by have := f x hx; have := hst.lt x (Or.inr (Or.inr (Or.inr e))); omega⟩, nd, Out.of_below hb, hst.keep hb, by omega, fun d hd => Or.inl hd, fun z hz => Or.inl hz⟩
  have hk0 : ¬ ks.length = 0 := fun h => hr (Or.inl h)
  have hok : (Tm.mk k s n ks).ok = false := by cases h : (Tm.mk k s n ks).ok with | false => rfl | true => exact absurd (Or.inr h) hr
  obtain ⟨R, hsrc, hsub⟩ := own_src _ _ _ hown
  have hgl : gc < w.heap.size := hst.lt _ (Or.inl rfl)
  have hml : m < w.heap.size := hst.lt _ (Or.inr (Or.inl rfl))
  have HST : Hid (∀ w1, Below W.heap.size W w1 → ∀ W2, W2 = w1.alloc (.cells #[.int .i64 k, .string s, .int .i64 n, .slice ao ks.length cap] 41) → Below w.heap.size w W2 ∧ Src 41 W2 (.mk k s n ks) (.agg #[.int .i64 k, .string s, .int .i64 n, .slice ao ks.length cap]) R ∧
      Rows1 W2 ((w1.heap.size, 1, [.int .i64 k, .string s, .int .i64 n, .slice ao ks.length cap]) :: R) gc m T0 D0 osl.ownBlock.toList ∧ Kop W2 ((w1.heap.size, 1, [.int .i64 k, .string s, .int .i64 n, .slice ao ks.length cap]) :: R) T0 D0 osl.ownBlock.toList W2 gc m osl [] [] (((w1.heap.size, 1, [.int .i64 k, .string s, .int .i64 n, .slice ao ks.length cap]) :: R) ++ []) ∧ W2.ownsRow 0 41 4 (.slice (some ⟨w1.heap.size, 0, none⟩) 1 1) 1 [.int .i64 k, .string s, .int .i64 n, .slice ao ks.length cap] ∧ SrcRow 41 W2 [.mk k s n ks] [.int .i64 k, .string s, .int .i64 n, .slice ao ks.length cap] R) := by
    intro w1 hb W2 hW2
    have hb2 : Below w1.heap.size w1 W2 := by rw [hW2]; exact (Below.refl _ _).alloc (Nat.le_refl _) _
    have hb1 := bW.trans (hb.mono bW.size)
    have hbb : Below w.heap.size w W2 := hb1.trans (hb2.mono hb1.size)
    have hs1 := hb.size
    have hsW2 : Src 41 W2 (.mk k s n ks) (.agg #[.int .i64 k, .string s, .int .i64 n, .slice ao ks.length cap]) R := Src.keep _ _ _ hsrc fun r hr' => hbb.block _ (hlt _ (hsub.subset (List.mem_map_of_mem hr')))
    have hlk : ∀ k, (k = gc ∨ k = m ∨ k ∈ D0 ∨ osl.ownBlock = some k) → k < w1.heap.size := fun k hk => by have := hst.lt k hk; omega
    refine ⟨hbb, hsW2, kop_start (F := F) hsW2 hwt ⟨_, _, _, _, rfl, rfl⟩ hsub hnd (fun f hf => ⟨(hF f hf).1, (hF f hf).2.1, by have := hlt f hf; omega, (hF f hf).2.2.1, (hF f hf).2.2.2⟩) ⟨by omega, by omega, fun e => by have := hlk _ (Or.inr (Or.inr (Or.inr e))); omega, fun e => by have := hlk _ (Or.inr (Or.inr (Or.inl e))); omega⟩ (hst.keep hbb) hT ?_⟩
    rw [hW2]; exact heap_alloc_new w1 _
  have hk1 : ((ks.length : Int) == 0) = false := by rw [nat0]; exact decide_eq_false hk0
  rw [hok, hW] at HOK
  replace HOK : Hid _ := HOK
  have HSUB : Hid ((∀ f ∈ F, f < w.heap.size) ∧ (∀ r ∈ R, r.1 ∈ F)) := ⟨hlt, fun r hr => hsub.subset (List.mem_map_of_mem hr)⟩
  have hsr := (Src.rows _ _ _ hsrc).2
  have HSR2 : Hid ((R.map (·.2.1)).sum ≤ (Tm.mk k s n ks).wt) := hsr
  have HKL : Hid (∀ k, (k = gc ∨ k = m ∨ k ∈ D0 ∨ osl.ownBlock = some k) → k < w.heap.size) := hst.lt
  clear hr hok hown hnd hst hT hF hlt hin' bW k1 k2 hwt hsrc hsub hk0 hsr
  go_enter Tryz.func63, Tryz.ntmps63
  go_wp2_with (first | (go_at_call 55; refine (Calls.mono HOK.out ?_); rintro e w1 ⟨rfl, hb⟩; rw [← hW] at hb; obtain ⟨x0, x1, x2, x3, _⟩ := blk4 (HK.out w1 hb).1; have HB1 : Hid (Below W.heap.size W w1) := hb; have HCA := (let h := HST.out w1 hb _ rfl; Kop.call (cap := 1) (ks := [Tm.mk k s n ks]) h.2.2.2.1 h.2.2.1 rfl h.2.2.2.2.2 h.2.2.2.2.1); replace HCA : Hid _ := HCA; clear hb) | (go_at_call 74; refine (Calls.mono HCA.out ?_); rintro e w3 ⟨g0, cap0, osl0, rfl, hcop⟩; have HCP : Hid _ := hcop; clear hcop))
  obtain ⟨W2, hW2⟩ : ∃ W2, W2 = w1.alloc (.cells #[.int .i64 k, .string s, .int .i64 n, .slice ao ks.length cap] 41) := ⟨_, rfl⟩
  obtain ⟨bs, hbs⟩ : ∃ bs, bs = w1.heap.size := ⟨_, rfl⟩
  obtain ⟨cs0, hcs0⟩ : ∃ cs0, cs0 = [Value.int .i64 k, .string s, .int .i64 n, .slice ao ks.length cap] := ⟨_, rfl⟩
  obtain ⟨R0, hR0⟩ : ∃ R0, R0 = (bs, 1, cs0) :: R := ⟨_, rfl⟩
  have hall := HST.out w1 HB1.out W2 hW2
  have hzz := HK.out w1 HB1.out
  have hq0 := HCP.out
  rw [← hW2] at hq0
  have hbb := hall.1
  have hsW2 := hall.2.1
  have h0 := hall.2.2.1
  clear hall
  rw [← hbs, ← hcs0, ← hR0] at h0 hq0
  have HBS : Hid (w.heap.size + 2 ≤ bs) := by
    have := HB1.out.size
    show _ ≤ _
    rw [hbs]; omega
  have hw2s : w.heap.size + 2 ≤ W2.heap.size := by
    have := HB1.out.size
    rw [hW2]; simp; omega
  have hz2 : W2.heap[w.heap.size + 1]? = some (.cells #[.int .i64 0, .string ⟨#[]⟩, .int .i64 0, .slice none 0 0] 41 (0, 0)) := by
    rw [hW2]; exact (alloc_old _ _ (by have := HB1.out.size; omega)).trans hzz.2
  have HBB : Hid (Below w.heap.size w W2) := hbb
  have HS2 : Hid (Src 41 W2 (.mk k s n ks) (.agg #[.int .i64 k, .string s, .int .i64 n, .slice ao ks.length cap]) R) := hsW2
  have H0 : Hid (Rows1 W2 R0 gc m T0 D0 osl.ownBlock.toList) := h0
  have HZ2 : Hid (W2.heap[w.heap.size + 1]? = some (.cells #[.int .i64 0, .string ⟨#[]⟩, .int .i64 0, .slice none 0 0] 41 (0, 0))) := hz2
  have HQ0 : Hid (∃ N, QK W2 R0 T0 D0 osl.ownBlock.toList gc m bs g0 w3 N) := ⟨_, _, _, _, hq0, (fun p hp => by cases hp), ⟨⟨bs, 1, cs0, g0, cap0, [Tm.mk k s n ks], R⟩, by simp, rfl, rfl⟩, rfl⟩
  have HR0 : Hid (R0 = (bs, 1, cs0) :: R) := hR0
  have HCS0 : Hid (cs0 = [Value.int .i64 k, .string s, .int .i64 n, .slice ao ks.length cap]) := hcs0
  have hcap0 : cap0 ≤ maxLen := by
    rcases (hq0.op _ (List.mem_append_right _ (List.mem_singleton.2 rfl))).2 with ⟨h, _⟩ | ⟨_, _, _, h, _, _, _, h2, _⟩
    · cases h
    · cases h; exact h2
  unfold maxLen at hcap0
  clear hbb hsW2 h0 hz2 hq0 hzz hR0 hcs0 hW2 hbs HST HOK HCA HCP HB1 HK x0 x1 x2 x3 HBW hW lW
  go_loopw [] (fun wr => Hid (∃ N, QK W2 R0 T0 D0 osl.ownBlock.toList gc m bs g0 wr N)) (fun wr => least (QK W2 R0 T0 D0 osl.ownBlock.toList gc m bs g0 wr))
  case atStart => exact HQ0.out
  case round =>
    obtain ⟨C, O, oslx, hI, hcl, hroot, hN⟩ := least_is hrel.out
    have HNL : Hid (R0.length - C.length = least (QK W2 R0 T0 D0 osl.ownBlock.toList gc m bs g0 wr)) := hN
    obtain ⟨oo, ol, oc, rfl⟩ : ∃ oo ol oc, oslx = .slice oo ol oc := by
      rcases hI.stack.2 with ⟨rfl, _⟩ | ⟨_, _, _, rfl, _⟩
      · exact ⟨_, _, _, rfl⟩
      · exact ⟨_, _, _, rfl⟩
    have hol : ol = O.length := by
      rcases hI.stack.2 with ⟨h, h'⟩ | ⟨_, _, _, h, _⟩
      · cases h; exact h'.symm
      · cases h; rfl
    have x2 : wr.cell? ⟨gc, 2, none⟩ = some (.slice oo ol oc) := blk_cell (i := 2) hI.cop (by simp)
    cases hO : O with
    | nil =>
      subst hO
      obtain rfl : ol = 0 := hol
      obtain ⟨y, hy, hyb, hyg⟩ := hroot
      simp only [List.append_nil] at hy
      obtain ⟨d0, d1, d2, d3, F', q0, q1, q2, q3, hown, hfr, hnd⟩ := hI.done H0.out hcl HR0.out HS2.out rfl HCS0.out hy hyb
      rw [hyg] at q0 q1 q2 q3
      have hzr : wr.heap[w.heap.size + 1]? = some (.cells #[.int .i64 0, .string ⟨#[]⟩, .int .i64 0, .slice none 0 0] 41 (0, 0)) := (hI.out.block _ (by omega) (fun h9 => by simp only [List.mem_cons] at h9; rcases h9 with h9 | h9 | h9; (· omega); (· omega); (· have := HKL.out _ (Or.inr (Or.inr (Or.inr (by simpa using h9)))); omega))).trans HZ2.out
      obtain ⟨y0, y1, y2, y3, z0, z1, z2, z3⟩ := blk4 hzr
      obtain ⟨k', s', n', ao', len', cap', hsh⟩ := own_shape hown
      obtain ⟨rfl, rfl, rfl, rfl⟩ : d0 = .int .i64 k' ∧ d1 = .string s' ∧ d2 = .int .i64 n' ∧ d3 = .slice ao' len' cap' := by simpa using hsh
      have HZ : Hid _ := hzr
      obtain ⟨hke, hkd⟩ := kop_end hI H0.out
      have hgfr := hI.gfr
      have hofr := hI.ofr
      have HEND : Hid (∀ w5, w5 = ((((wr.setCell ⟨w.heap.size + 1, 0, none⟩ (.int .i64 k')).setCell ⟨w.heap.size + 1, 1, none⟩ (.string s')).setCell ⟨w.heap.size + 1, 2, none⟩ (.int .i64 n')).setCell ⟨w.heap.size + 1, 3, none⟩ (.slice ao' len' cap')) → KPost T0 D0 osl gc m (.mk k s n ks) F w (.returned (.agg #[.int .i64 k', .string s', .int .i64 n', .slice ao' len' cap'])) w5) := by
        intro w5 hw5
        have hD1 : ∀ d ∈ (C.map (·.1)).map (·.b) ++ D0, d ∈ D0 ∨ d ∈ F ∨ w.heap.size + 2 ≤ d := fun d hd => by
          rcases hkd d hd with h | h
          · exact Or.inl h
          · rw [HR0.out] at h
            rcases List.mem_cons.1 h with h | h
            · exact Or.inr (Or.inr (by rw [h]; exact HBS.out))
            · obtain ⟨r, hr, rfl⟩ := List.mem_map.1 h
              exact Or.inr (Or.inl (HSUB.out.2 r hr))
        refine ⟨_, F', _, _, _, rfl, Own.keep _ _ _ hown fun f hf => ?_, fun f hf => ⟨?_, (hfr f hf).2⟩, hnd, ?_, hke.turn fun q hq => ?_, ?_, fun d hd => ?_, ?_⟩
        · have := (hfr f hf).1
          rw [hw5, blk4_other (by omega)]
        · have := (hfr f hf).1; omega
        · have h1 : Out (gc :: m :: osl.ownBlock.toList) w wr := (Out.of_below HBB.out).trans hI.out
          refine ⟨by rw [hw5]; exact h1.os, by rw [hw5]; exact h1.tape, by rw [hw5]; exact h1.output, by rw [hw5]; simpa [World.setCell] using h1.size, fun f hf hn => ?_⟩
          rw [hw5, blk4_other (by omega)]
          exact h1.block f hf hn
        · rw [hw5]
          refine blk4_other ?_
          rcases hq with rfl | rfl | hq | hq
          · have := HKL.out _ (Or.inl rfl); omega
          · have := HKL.out _ (Or.inr (Or.inl rfl)); omega
          · rcases hD1 q hq with h | h | h
            · have := HKL.out q (Or.inr (Or.inr (Or.inl h))); omega
            · have := HSUB.out.1 q h; omega
            · omega
          · rcases hofr q hq with h | h
            · omega
            · have := HKL.out q (Or.inr (Or.inr (Or.inr (by simpa using h)))); omega
        · rw [HR0.out, List.map_cons, List.sum_cons]
          have := HSR2.out
          show T0 + (1 + _) ≤ T0 + ((Tm.mk k s n ks).wt + 1)
          omega
        · rcases hD1 d hd with h | h | h
          · exact Or.inl h
          · exact Or.inr (Or.inl h)
          · exact Or.inr (Or.inr (by omega))
        · intro z hz
          rcases hofr z hz with h | h
          · exact Or.inr (by omega)
          · exact Or.inl (by simpa using h)
      clear hI hcl hN hown hfr hnd hzr hsh hrel HNL hke hkd hgfr hofr
      go_wp2
      refine bodyPost_ret_by (results_cell_row rfl _ _ (w.heap.size + 1) 41 _ (0, 0) _ rfl (blk4_set HZ.out) Tryz.underlying41 rfl (by kernel_rfl)) rfl ?_
      exact HEND.out _ rfl
    | cons o1 o2 =>
      have hne : O ≠ [] := by rw [hO]; simp
      clear hO
      obtain ⟨O', x, rfl⟩ : ∃ M p, O = M ++ [p] := ⟨O.dropLast, O.getLast hne, (List.dropLast_concat_getLast hne).symm⟩
      rw [List.length_append, List.length_singleton] at hol
      subst hol
      obtain ⟨ob, rfl⟩ : ∃ ob, oo = some ⟨ob, 0, none⟩ := by
        rcases hI.stack.2 with ⟨h, h'⟩ | ⟨_, _, _, h, _⟩
        · cases h
        · simp at h; exact ⟨_, h.1⟩
      have hstk := hI.stack
      have hoc : O'.length + 1 ≤ oc ∧ oc ≤ maxLen := by
        rcases hstk.2 with ⟨h, h'⟩ | ⟨_, _, _, h, _, _, h1, h2, _⟩
        · cases h
        · simp at h; rw [← h.2] at h1 h2; simp at h1; exact ⟨h1, h2⟩
      obtain ⟨hoc1, hoc2⟩ := hoc
      unfold maxLen at hoc2
      have hxe : wr.cell? ⟨ob, O'.length, none⟩ = some x.sl := by
        have := hstk.cells (g := ob) rfl O'.length x.sl (by simp)
        rwa [Addr.add_lit, Nat.zero_add] at this
      have hent := hI.ents x (by simp)
      have hxr : x.row ∈ R0 := hI.perm.mem_iff.1 (by simp)
      have hxc : CellsOk x.cs x.n 1048576 := H0.out.cells _ hxr
      have hd2 : wr.drew.cell? ⟨gc, 2, none⟩ = some (.slice (some ⟨ob, 0, none⟩) (O'.length + 1) oc) := cell_keep x2 (Below.refl _ _).drew
      have hde : wr.drew.cell? ⟨ob, O'.length, none⟩ = some x.sl := cell_keep hxe (Below.refl _ _).drew
      have hdd : wr.drew.drew.cell? ⟨gc, 2, none⟩ = some (.slice (some ⟨ob, 0, none⟩) (O'.length + 1) oc) := cell_keep x2 (Below.refl _ _).drew.drew
      have hdf : wr.drew.drew.frozen? ⟨gc, 2, none⟩ = false := blk_frozen (((Below.refl wr.heap.size wr).drew.drew.block gc (cell_blk x2)).trans hI.cop) _
      have hpop := hI.pop.below H0.out (Below.refl _ _).drew.drew
      have hxn : x.n ≤ 2097152 := by
        have h1 := hI.ns
        have h2 := H0.out.sum
        simp only [List.map_append, List.map_cons, List.map_nil, List.sum_append, List.sum_cons, List.sum_nil] at h1
        omega
      obtain ⟨hxk, hxn0, hxs⟩ := hent
      have hxcap : x.n ≤ x.cap ∧ x.cap ≤ maxLen := by
        rcases (hI.op x (by simp)).2 with ⟨h, h'⟩ | ⟨_, _, _, h, _, _, h1, h2, _⟩
        · cases h
        · simp only [Ent.sl] at h; cases h; exact ⟨h1, h2⟩
      obtain ⟨hxc1, hxc2⟩ := hxcap
      unfold maxLen at hxc2
      have HLEN : Hid (C.length < R0.length) := by
        have := hI.len
        simp only [List.length_append, List.length_singleton] at this
        show C.length < R0.length
        omega
      have HROOT : Hid (∃ y ∈ (C ++ [(x, 0)]).map (fun p : Ent × Nat => p.1) ++ O', y.b = bs ∧ y.g = g0) := by
        obtain ⟨y, hy, e⟩ := hroot
        refine ⟨y, ?_, e⟩
        simp only [List.mem_append, List.map_append, List.map_cons, List.map_nil, List.mem_singleton] at hy ⊢
        rcases hy with h | h | h <;> simp [h]
      have HCL : Hid (∀ p ∈ C, p.2 = p.1.n) := hcl
      have HXC : Hid (CellsOk x.cs x.n 1048576) := hxc
      have HXS : Hid (x.ks.length = x.n ∧ SrcRow 41 W2 x.ks x.cs x.R) := ⟨hxk, hxs⟩
      unfold Ent.sl at hde
      obtain ⟨w4, hw4⟩ : ∃ w4, w4 = (wr.setCell ⟨gc, 2, none⟩ (.slice (some ⟨ob, 0, none⟩) O'.length oc)).drew.drew := ⟨_, rfl⟩
      rw [← hw4] at hpop
      have HPOP : Hid (Kop W2 R0 T0 D0 osl.ownBlock.toList w4 gc m (.slice (some ⟨ob, 0, none⟩) O'.length oc) (C ++ [(x, 0)]) O' x.R) := hpop
      clear hI hcl hroot hN hstk hxe hxr hxc hpop hxk hxs hrel hne
      go_wp2
      go_region
      go_wp2
      go_region
      rw [← hw4]
      clear hw4 hd2 hde hdd hdf x2
      go_wp2
      go_loopw [56] (fun vi wr => ∃ (j : Nat), j ≤ x.n ∧ vi = .int .i64 (j : Int) ∧ Hid (∃ O oslx P, Kop W2 R0 T0 D0 osl.ownBlock.toList wr gc m oslx (C ++ [(x, j)]) O P ∧ SrcRow 41 W2 (x.ks.drop j) (x.cs.drop (j * 4)) P ∧ ∃ y ∈ (C ++ [(x, j)]).map (fun p : Ent × Nat => p.1) ++ O, y.b = bs ∧ y.g = g0)) (fun i _ => x.n - (intOf i).toNat)
      case atStart => exact ⟨0, by omega, rfl, _, _, _, HPOP.out, by simpa using HXS.out.2, HROOT.out⟩
      case round =>
        obtain ⟨j, hj, rfl, hrel⟩ := hrel
        obtain ⟨O, oslx, P, hI, hsr, hroot⟩ := hrel.out
        by_cases hlt : j < x.n
        · have hlk : j < x.ks.length := by rw [HXS.out.1]; exact hlt
          rw [List.drop_eq_getElem_cons hlk] at hsr
          unfold SrcRow at hsr
          obtain ⟨c0, c1, c2, c3, cs', R1, R2, hcs, rfl, hs1, hs2⟩ := hsr
          generalize x.ks[j] = t1 at hs1
          obtain ⟨k1, s1, n1, ks1⟩ := t1
          unfold Src at hs1
          obtain ⟨ao1, cap1, hv1, _, _, _, hs1⟩ := hs1
          obtain ⟨rfl, rfl, rfl, rfl⟩ : c0 = .int .i64 k1 ∧ c1 = .string s1 ∧ c2 = .int .i64 n1 ∧ c3 = .slice ao1 ks1.length cap1 := by simpa using hv1
          have hc3 : x.cs[j * 4 + 3]? = some (.slice ao1 ks1.length cap1) := by
            have := congrArg (fun l : List Value => l[3]?) hcs
            simp only [List.getElem?_drop] at this
            simpa using this
          have hcs' : x.cs.drop ((j + 1) * 4) = cs' := by
            have := congrArg (List.drop 4) hcs
            rw [List.drop_drop] at this
            rw [show (j + 1) * 4 = j * 4 + 4 by omega, this]; rfl
          rw [← hcs'] at hs2
          obtain ⟨gg, cc, hA⟩ := hI.agree H0.out
          have hxrow := hI.cl (x, j) (by simp) gg cc hA
          have hxl := HXC.out.1
          have hcell : wr.cell? ⟨x.g, j * 4 + 3, none⟩ = some (.slice ao1 ks1.length cap1) := by
            have h1 := hxrow.cellAt (j * 4 + 3) (by simp only; omega)
            rw [half_at _ _ _ _ _ (by omega)] at h1
            exact h1.trans hc3
          have hnc : ∀ w', Below wr.heap.size wr w' → Kop W2 R0 T0 D0 osl.ownBlock.toList w' gc m oslx (C ++ [(x, j)]) O (R1 ++ R2) := fun w' hb => hI.below H0.out hb
          have HC3 : Hid (x.cs[j * 4 + 3]? = some (.slice ao1 ks1.length cap1)) := hc3
          have HS2 : Hid (SrcRow 41 W2 (x.ks.drop (j + 1)) (x.cs.drop ((j + 1) * 4)) R2) := hs2
          have HRT : Hid (∃ y ∈ (C ++ [(x, j)]).map (fun p : Ent × Nat => p.1) ++ O, y.b = bs ∧ y.g = g0) := hroot
          rcases hs1 with ⟨rfl, rfl⟩ | ⟨b1, cs1, R1', hks1, rfl, hrow1, rfl, hsr1⟩
          · have HN : Hid (Calls Tryz.prog 74 #[.pointer (some ⟨gc, 0, none⟩), .slice ao1 0 cap1] wr fun e w' => e = .returned (.slice none 0 0) ∧ Below wr.heap.size wr w') := list_nil wr gc ao1 cap1
            have HAF : Hid (∀ w', Below wr.heap.size wr w' → (∃ c, w'.cell? ⟨x.g, j * 4 + 3, none⟩ = some (.slice ao1 0 cap1) ∧ c = w'.frozen? ⟨x.g, j * 4 + 3, none⟩ ∧ c = false) ∧ ∀ w6, w6 = w'.setCell ⟨x.g, j * 4 + 3, none⟩ (.slice none 0 0) → Kop W2 R0 T0 D0 osl.ownBlock.toList w6 gc m oslx (C ++ [(x, j + 1)]) O R2) := fun w' hb => by
              have h1 := hnc w' hb
              refine ⟨⟨_, cell_keep hcell hb, rfl, ?_⟩, fun w6 hw6 => ?_⟩
              · exact row_frozen (row_keep hxrow (hb.block _ (row_lt0 hxrow rfl))) _
              · rw [hw6]
                exact h1.store HXC.out hlt HC3.out fun gg cc _ => cpV_nil gg cc ao1 cap1
            clear hI hcs hv1 hc3 hcs' hs2 hxrow hnc hrel hroot hA
            go_wp2_with (go_at_call 74; refine (Calls.mono HN.out ?_); rintro e w5 ⟨rfl, hb⟩; obtain ⟨⟨_, q1, rfl, q2⟩, q3⟩ := HAF.out w5 hb; have HQ3 : Hid _ := q3; clear hb q3)
            go_roundw
            case rel => exact ⟨j + 1, by omega, by go_num, O, oslx, R2, HQ3.out _ rfl, HS2.out, by obtain ⟨y, hy, e⟩ := HRT.out; exact ⟨y, by simpa using hy, e⟩⟩
            case measure => simp [intOf]; omega
          · have hl1 : 0 < ks1.length := by cases ks1 with | nil => exact absurd rfl hks1 | cons _ _ => simp
            have HN := Kop.call (cap := cap1) (ks := ks1) hI H0.out rfl hsr1 hrow1
            replace HN : Hid _ := HN
            have HAF : Hid (∀ w' g' cap' osl', Kop W2 R0 T0 D0 osl.ownBlock.toList w' gc m osl' (C ++ [(x, j)]) (O ++ [⟨b1, ks1.length, cs1, g', cap', ks1, R1'⟩]) R2 → (∃ c, w'.cell? ⟨x.g, j * 4 + 3, none⟩ = some (.slice (some ⟨b1, 0, none⟩) ks1.length cap1) ∧ c = w'.frozen? ⟨x.g, j * 4 + 3, none⟩ ∧ c = false) ∧ ∀ w6, w6 = w'.setCell ⟨x.g, j * 4 + 3, none⟩ (.slice (some ⟨g', 0, none⟩) ks1.length cap') → Kop W2 R0 T0 D0 osl.ownBlock.toList w6 gc m osl' (C ++ [(x, j + 1)]) (O ++ [⟨b1, ks1.length, cs1, g', cap', ks1, R1'⟩]) R2) := fun w' g' cap' osl' h1 => by
              obtain ⟨gg, cc, hA⟩ := h1.agree H0.out
              have hr1 := h1.cl (x, j) (by simp) gg cc hA
              refine ⟨⟨_, ?_, rfl, row_frozen hr1 _⟩, fun w6 hw6 => ?_⟩
              · have h2 := hr1.cellAt (j * 4 + 3) (by simp only; omega)
                rw [half_at _ _ _ _ _ (by omega)] at h2
                exact h2.trans HC3.out
              · rw [hw6]
                refine h1.store HXC.out hlt HC3.out fun gg cc hA' => ?_
                obtain ⟨e1, e2⟩ := hA' ⟨b1, ks1.length, cs1, g', cap', ks1, R1'⟩ (by simp)
                rw [cpV_some _ _ _ _ _ hl1]
                simp only at e1 e2
                rw [e1, e2]
            have hcap1 : cap1 ≤ maxLen ∧ ks1.length ≤ cap1 := by
              rcases hrow1.2 with ⟨h, _⟩ | ⟨_, _, _, h, _, _, h1, h2, _⟩
              · cases h
              · cases h; exact ⟨h2, h1⟩
            clear hI hcs hv1 hc3 hcs' hs2 hxrow hnc hrel hroot hA hsr1 hrow1
            go_wp2_with (go_at_call 74; refine (Calls.mono HN.out ?_); rintro e w5 ⟨g', cap', osl', rfl, hcp⟩; obtain ⟨⟨_, q1, rfl, q2⟩, q3⟩ := HAF.out w5 g' cap' osl' hcp; have HQ3 : Hid _ := q3; clear hcp q3)
            go_roundw
            case rel => exact ⟨j + 1, by omega, by go_num, _, osl', R2, HQ3.out _ rfl, HS2.out, by obtain ⟨y, hy, e⟩ := HRT.out; exact ⟨y, (by simp only [List.mem_append, List.map_append, List.map_cons, List.map_nil, List.mem_singleton] at hy ⊢; rcases hy with (h | h) | h <;> simp [h]), e⟩⟩
            case measure => simp [intOf]; omega
        · obtain rfl : j = x.n := by omega
          have hP : P = [] := by
            rw [List.drop_eq_nil_of_le (by rw [HXS.out.1]; omega)] at hsr
            unfold SrcRow at hsr
            exact hsr.2
          subst hP
          have HQ : Hid (∃ N, QK W2 R0 T0 D0 osl.ownBlock.toList gc m bs g0 wr N ∧ N + 1 = R0.length - C.length) := by
            refine ⟨R0.length - (C ++ [(x, x.n)]).length, ⟨C ++ [(x, x.n)], O, oslx, hI, fun p hp => ?_, hroot, rfl⟩, ?_⟩
            · rcases List.mem_append.1 hp with hp | hp
              · exact HCL.out p hp
              · rw [List.mem_singleton] at hp; subst hp; rfl
            · have := HLEN.out
              rw [List.length_append, List.length_singleton]
              omega
          clear hI hsr hroot hrel
          go_wp2
          go_roundw
          case rel => obtain ⟨N, h1, _⟩ := HQ.out; exact ⟨N, h1⟩
          case measure =>
            obtain ⟨N, h1, h2⟩ := HQ.out
            have h3 := least_le h1
            have h4 := HNL.out
            omega
end Go.Proofs.YtmhmlkdoaojimapGreatDoor

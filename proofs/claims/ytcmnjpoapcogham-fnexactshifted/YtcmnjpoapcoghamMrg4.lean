/- Four texts in one. -/
import Derived.Test.YtcmnjpoapcoghamMrg3
import Derived.Test.YtcmnjpoapcoghamMrg2
/- A term with other numbers of TmVars. Plain. -/
namespace Go.Proofs.Ytcmnjpoapcogham

def Tm.shift (b : Int) : Tm → Tm
  | .mk k s n ks => .mk k s (if k = 1 ∧ s.size = 0 ∧ ks.length = 0 then n + b else n) (shifts b ks)
where shifts (b : Int) : List Tm → List Tm
  | [] => []
  | t :: ts => t.shift b :: shifts b ts
abbrev shifts := Tm.shift.shifts
theorem shift_mk (b k : Int) (s : ByteArray) (n : Int) (ks : List Tm) : (Tm.mk k s n ks).shift b = .mk k s (if k = 1 ∧ s.size = 0 ∧ ks.length = 0 then n + b else n) (shifts b ks) := by simp [Tm.shift, shifts]
theorem shifts_map (b : Int) (ks : List Tm) : shifts b ks = ks.map (Tm.shift b) := by
  induction ks with
  | nil => rfl
  | cons t r ih => simp only [shifts, Tm.shift.shifts, List.map_cons] at *; rw [ih]

/-- what shiftedRight takes: no kids, or one of a Name and kids that it takes -/
def Tm.shp (b : Int) : Tm → Prop
  | .mk k _ n ks => (k = 1 → -9223372036854775808 ≤ n + b ∧ n + b ≤ 9223372036854775807) ∧ (ks = [] ∨ (k = 4 ∧ n = 0)) ∧ shps b ks
where shps (b : Int) : List Tm → Prop
  | [] => True
  | t :: ts => t.shp b ∧ shps b ts
abbrev shps := Tm.shp.shps
theorem shp_mk (b k : Int) (s : ByteArray) (n : Int) (ks : List Tm) : (Tm.mk k s n ks).shp b = ((k = 1 → -9223372036854775808 ≤ n + b ∧ n + b ≤ 9223372036854775807) ∧ (ks = [] ∨ (k = 4 ∧ n = 0)) ∧ shps b ks) := by simp [Tm.shp, shps]
theorem shps_all (b : Int) (ks : List Tm) : shps b ks ↔ ∀ t ∈ ks, t.shp b := by
  induction ks with
  | nil => simp [shps, Tm.shp.shps]
  | cons t r ih => simp only [shps, Tm.shp.shps, List.mem_cons, forall_eq_or_imp] at *; rw [ih]

theorem shift_zero (t : Tm) : t.shift 0 = t := by
  refine tm_ind (p := fun t => t.shift 0 = t) ?_ t
  intro k s n ks h
  rw [shift_mk, shifts_map]
  have e : ks.map (Tm.shift 0) = ks := by
    conv => rhs; rw [← List.map_id ks]
    exact List.map_congr_left fun t ht => h t ht
  rw [e]
  simp
end Go.Proofs.Ytcmnjpoapcogham

/- The numbers of the TmVars of a term, each once, in order. Plain. -/
namespace Go.Proofs.Ytcmnjpoapcogham

def addN (n : Int) (out : List Int) : List Int := if n ∈ out then out else out ++ [n]
def Tm.vars : Tm → List Int → List Int
  | .mk k _ n ks, out => varsL ks (if k = 1 then addN n out else out)
where varsL : List Tm → List Int → List Int
  | [], out => out
  | t :: ts, out => varsL ts (t.vars out)
abbrev varsL := Tm.vars.varsL
theorem vars_mk (k : Int) (s : ByteArray) (n : Int) (ks : List Tm) (out : List Int) : (Tm.mk k s n ks).vars out = varsL ks (if k = 1 then addN n out else out) := by simp [Tm.vars, varsL]
theorem varsL_nil (out : List Int) : varsL [] out = out := rfl
theorem varsL_cons (t : Tm) (ts : List Tm) (out : List Int) : varsL (t :: ts) out = varsL ts (t.vars out) := rfl
theorem varsL_append (l m : List Tm) (out : List Int) : varsL (l ++ m) out = varsL m (varsL l out) := by
  induction l generalizing out with
  | nil => rfl
  | cons t r ih => rw [List.cons_append, varsL_cons, varsL_cons, ih]
theorem varsL_take {ks : List Tm} {j : Nat} (hj : j < ks.length) (out : List Int) : varsL (ks.take (j + 1)) out = ks[j].vars (varsL (ks.take j) out) := by
  rw [List.take_succ_eq_append_getElem hj, varsL_append]; rfl
theorem addN_len (n : Int) (out : List Int) : (addN n out).length ≤ out.length + 1 := by
  unfold addN; split <;> simp
theorem vars_len (t : Tm) : ∀ out, (t.vars out).length ≤ out.length + t.n := by
  refine tm_ind (p := fun t => ∀ out, (t.vars out).length ≤ out.length + t.n) ?_ t
  intro k s n ks h out
  rw [vars_mk, n_mk]
  have hL : ∀ (l : List Tm) o, (∀ t ∈ l, ∀ out, (t.vars out).length ≤ out.length + t.n) → (varsL l o).length ≤ o.length + ns l := by
    intro l
    induction l with
    | nil => intro o _; simp [varsL, Tm.vars.varsL]
    | cons t r ih =>
      intro o hl
      rw [varsL_cons]
      have h1 := hl t (by simp) o
      have h2 := ih (t.vars o) fun t' ht' => hl t' (by simp [ht'])
      have h3 : ns (t :: r) = t.n + ns r := by simp [ns, Tm.n.ns]
      omega
  have h1 := hL ks (if k = 1 then addN n out else out) h
  have h2 : (if k = 1 then addN n out else out).length ≤ out.length + 1 := by
    split
    · exact addN_len n out
    · omega
  omega
theorem varsL_len (l : List Tm) (o : List Int) : (varsL l o).length ≤ o.length + ns l := by
  induction l generalizing o with
  | nil => simp [varsL, Tm.vars.varsL]
  | cons t r ih =>
    rw [varsL_cons]
    have h1 := vars_len t o
    have h2 := ih (t.vars o)
    have h3 : ns (t :: r) = t.n + ns r := by simp [ns, Tm.n.ns]
    omega
end Go.Proofs.Ytcmnjpoapcogham

/- Which numbers a term may be shifted by. Plain. -/
namespace Go.Proofs.Ytcmnjpoapcogham

/-- of every TmVar in it -/
def Tm.allV (p : Int → Prop) : Tm → Prop
  | .mk k _ n ks => (k = 1 → p n) ∧ allVs p ks
where allVs (p : Int → Prop) : List Tm → Prop
  | [] => True
  | t :: ts => t.allV p ∧ allVs p ts
abbrev allVs := Tm.allV.allVs
theorem allV_mk (p : Int → Prop) (k : Int) (s : ByteArray) (n : Int) (ks : List Tm) : (Tm.mk k s n ks).allV p = ((k = 1 → p n) ∧ allVs p ks) := by simp [Tm.allV, allVs]
theorem allVs_all (p : Int → Prop) (ks : List Tm) : allVs p ks ↔ ∀ t ∈ ks, t.allV p := by
  induction ks with
  | nil => simp [allVs, Tm.allV.allVs]
  | cons t r ih => simp only [allVs, Tm.allV.allVs, List.mem_cons, forall_eq_or_imp] at *; rw [ih]

theorem addN_all (p : Int → Prop) (n : Int) (out : List Int) : (∀ x ∈ addN n out, p x) ↔ (∀ x ∈ out, p x) ∧ p n := by
  unfold addN
  by_cases h : n ∈ out
  · rw [if_pos h]; exact ⟨fun h1 => ⟨h1, h1 n h⟩, fun h1 => h1.1⟩
  · rw [if_neg h]
    constructor
    · intro h1; exact ⟨fun x hx => h1 x (by simp [hx]), h1 n (by simp)⟩
    · rintro ⟨h1, h2⟩ x hx
      rcases List.mem_append.1 hx with hx | hx
      · exact h1 x hx
      · rw [List.mem_singleton] at hx; rw [hx]; exact h2

theorem vars_all (p : Int → Prop) (t : Tm) : ∀ out, (∀ x ∈ t.vars out, p x) ↔ (∀ x ∈ out, p x) ∧ t.allV p := by
  refine tm_ind (p := fun t => ∀ out, (∀ x ∈ t.vars out, p x) ↔ (∀ x ∈ out, p x) ∧ t.allV p) ?_ t
  intro k s n ks hks out
  have hL : ∀ (l : List Tm), (∀ t ∈ l, ∀ out, (∀ x ∈ t.vars out, p x) ↔ (∀ x ∈ out, p x) ∧ t.allV p) → ∀ o, (∀ x ∈ varsL l o, p x) ↔ (∀ x ∈ o, p x) ∧ allVs p l := by
    intro l
    induction l with
    | nil => intro _ o; simp [varsL, Tm.vars.varsL, allVs, Tm.allV.allVs]
    | cons t r ih =>
      intro hl o
      rw [varsL_cons, ih (fun t' ht' => hl t' (by simp [ht'])), hl t (by simp) o]
      simp only [allVs, Tm.allV.allVs]
      exact and_assoc
  rw [vars_mk, hL ks hks, allV_mk]
  by_cases hk : k = 1
  · rw [if_pos hk, addN_all]
    simp only [hk, true_implies]
    exact and_assoc
  · rw [if_neg hk]
    simp [hk]

theorem shift_id (b : Int) (t : Tm) : t.allV (fun _ => False) → t.shift b = t := by
  refine tm_ind (p := fun t => t.allV (fun _ => False) → t.shift b = t) ?_ t
  intro k s n ks hks h
  rw [allV_mk] at h
  have hk : k ≠ 1 := fun e => h.1 e
  rw [shift_mk, shifts_map, if_neg (fun e => hk e.1)]
  have e : ks.map (Tm.shift b) = ks := by
    conv => rhs; rw [← List.map_id ks]
    exact List.map_congr_left fun t ht => hks t ht ((allVs_all _ ks).1 h.2 t ht)
  rw [e]

/-- of a term that is right: it is right when it is shifted, just where each number may be -/
theorem right_shift (b : Int) (t : Tm) : ∀ d, t.right d = true → ((t.shift b).right d = true ↔ t.allV fun n => 0 ≤ n + b ∧ n + b ≤ 99999) := by
  refine tm_ind (p := fun t => ∀ d, t.right d = true → ((t.shift b).right d = true ↔ t.allV fun n => 0 ≤ n + b ∧ n + b ≤ 99999)) ?_ t
  intro k s n ks hks d h
  rw [right_mk, Bool.and_eq_true, Bool.and_eq_true] at h
  obtain ⟨⟨h1, h2⟩, h3⟩ := h
  rw [rights_all, List.all_eq_true] at h3
  have hkids : rights (shifts b ks) (d + 1) = true ↔ allVs (fun n => 0 ≤ n + b ∧ n + b ≤ 99999) ks := by
    rw [rights_all, List.all_eq_true, shifts_map, allVs_all]
    constructor
    · intro h4 t ht; exact (hks t ht _ (h3 t ht)).1 (h4 _ (List.mem_map_of_mem ht))
    · intro h4 t' ht'
      obtain ⟨t, ht, rfl⟩ := List.mem_map.1 ht'
      exact (hks t ht _ (h3 t ht)).2 (h4 t ht)
  have hlen : (shifts b ks).length = ks.length := by rw [shifts_map]; simp
  rw [shift_mk, right_mk, allV_mk, Bool.and_eq_true, Bool.and_eq_true, hkids, hlen]
  by_cases hk : k = 1
  · subst hk
    have hs : s.size = 0 ∧ ks.length = 0 := by
      unfold oneT at h2
      rw [if_pos rfl] at h2
      simp only [Bool.and_eq_true, decide_eq_true_eq] at h2
      exact ⟨h2.1.2, h2.2⟩
    rw [if_pos ⟨rfl, hs.1, hs.2⟩]
    unfold oneT
    rw [if_pos rfl]
    simp only [h1, Bool.and_eq_true, decide_eq_true_eq, true_and, true_implies, hs.1, hs.2, and_true]
  · rw [if_neg (fun e => hk e.1)]
    simp [h1, h2, hk]

theorem n_shift (b : Int) (t : Tm) : (t.shift b).n = t.n := by
  refine tm_ind (p := fun t => (t.shift b).n = t.n) ?_ t
  intro k s n ks h
  rw [shift_mk, n_mk, n_mk, shifts_map]
  have : ns (ks.map (Tm.shift b)) = ns ks := by
    clear k s n
    induction ks with
    | nil => rfl
    | cons t r ih =>
      have h1 := h t (by simp)
      have h2 := ih fun t' ht' => h t' (by simp [ht'])
      simp only [List.map_cons, ns, Tm.n.ns] at *
      omega
  rw [this]

theorem wt_shift (b : Int) (t : Tm) : (t.shift b).wt = t.wt := by
  refine tm_ind (p := fun t => (t.shift b).wt = t.wt) ?_ t
  intro k s n ks h
  rw [shift_mk, shifts_map]
  have e : ∀ (k n : Int) (ks : List Tm), (Tm.mk k s n ks).wt = s.size + (ks.length + wts ks) := by intro k n ks; simp [Tm.wt, wts]; omega
  rw [e, e]
  have : wts (ks.map (Tm.shift b)) = wts ks := by
    clear k n e
    induction ks with
    | nil => rfl
    | cons t r ih =>
      have h1 := h t (by simp)
      have h2 := ih fun t' ht' => h t' (by simp [ht'])
      simp only [List.map_cons, wts, Tm.wt.wts] at *
      omega
  rw [this]; simp

theorem right_vars (t : Tm) : ∀ d, t.right d = true → t.allV fun n => 0 ≤ n ∧ n ≤ 99999 := by
  intro d h
  have := (right_shift 0 t d h).1 (by rw [shift_zero]; exact h)
  simpa using this

/-- what Shifted hands back -/
noncomputable def shiftR (t : Tm) (b : Int) : Tm := @ite _ (t.ok = true ∧ ∀ n ∈ t.vars [], -n ≤ b ∧ b ≤ 99999 - n) (Classical.propDecidable _) (t.shift b) t

theorem shiftR_no {t : Tm} {b : Int} (h : t.ok = false) : shiftR t b = t := by
  unfold shiftR; rw [if_neg (fun h' => by rw [h] at h'; exact Bool.noConfusion h'.1)]

theorem shiftR_far {t : Tm} {b : Int} (h : ¬ (-99999 ≤ b ∧ b ≤ 99999)) : shiftR t b = t := by
  unfold shiftR
  by_cases hc : t.ok = true ∧ ∀ n ∈ t.vars [], -n ≤ b ∧ b ≤ 99999 - n
  · rw [if_pos hc]
    obtain ⟨h1, h2⟩ := hc
    have hr : t.right 1 = true := by unfold Tm.ok at h1; simp at h1; exact h1.2
    have hv : ∀ n ∈ t.vars [], 0 ≤ n ∧ n ≤ 99999 := (vars_all _ t []).2 ⟨by simp, right_vars t 1 hr⟩
    have : ∀ n ∈ t.vars [], False := fun n hn => by
      have := h2 n hn; have := hv n hn; omega
    exact shift_id b t ((vars_all _ t []).1 this).2
  · rw [if_neg hc]

theorem shift_ok {t : Tm} {b : Int} (h : t.ok = true) : (t.shift b).ok = true ↔ ∀ n ∈ t.vars [], -n ≤ b ∧ b ≤ 99999 - n := by
  have hr : t.right 1 = true := by unfold Tm.ok at h; simp at h; exact h.2
  have hn : t.n ≤ 400 := by unfold Tm.ok at h; simp at h; exact h.1
  have e : (t.shift b).ok = true ↔ (t.shift b).right 1 = true := by unfold Tm.ok; rw [n_shift]; simp [hn]
  rw [e, right_shift b t 1 hr, vars_all]
  have e2 : (fun n : Int => 0 ≤ n + b ∧ n + b ≤ 99999) = fun n => -n ≤ b ∧ b ≤ 99999 - n := by funext n; apply propext; omega
  rw [e2]; simp

theorem shiftR_yes {t : Tm} {b : Int} (h : t.ok = true) (h2 : (t.shift b).ok = true) : shiftR t b = t.shift b := by
  unfold shiftR; rw [if_pos ⟨h, (shift_ok h).1 h2⟩]
theorem shiftR_not {t : Tm} {b : Int} (h : t.ok = true) (h2 : (t.shift b).ok = false) : shiftR t b = t := by
  unfold shiftR; rw [if_neg (fun h' => by rw [(shift_ok h).2 h'.2] at h2; exact Bool.noConfusion h2)]
theorem shiftR_wt (t : Tm) (b : Int) : (shiftR t b).wt = t.wt := by
  unfold shiftR; split
  · exact wt_shift b t
  · rfl
end Go.Proofs.Ytcmnjpoapcogham

/- A block of four cells. Of no program. -/
namespace Go.Proofs.Ytcmnjpoapcogham
open Go.RowKit

theorem blk4 {w : World} {g : Nat} {c0 c1 c2 c3 : Value} {T : TypeId} (h : w.heap[g]? = some (.cells #[c0, c1, c2, c3] T (0, 0))) :
    w.cell? ⟨g, 0, none⟩ = some c0 ∧ w.cell? ⟨g, 1, none⟩ = some c1 ∧ w.cell? ⟨g, 2, none⟩ = some c2 ∧ w.cell? ⟨g, 3, none⟩ = some c3 ∧ w.frozen? ⟨g, 0, none⟩ = false ∧ w.frozen? ⟨g, 1, none⟩ = false ∧ w.frozen? ⟨g, 2, none⟩ = false ∧ w.frozen? ⟨g, 3, none⟩ = false :=
  ⟨blk_cell (i := 0) h (by simp), blk_cell (i := 1) h (by simp), blk_cell (i := 2) h (by simp), blk_cell (i := 3) h (by simp), blk_frozen h 0, blk_frozen h 1, blk_frozen h 2, blk_frozen h 3⟩

/-- four cells of a block set, one behind the other -/
theorem blk4_set {w : World} {g : Nat} {c0 c1 c2 c3 d0 d1 d2 d3 : Value} {T : TypeId} (h : w.heap[g]? = some (.cells #[c0, c1, c2, c3] T (0, 0))) :
    ((((w.setCell ⟨g, 0, none⟩ d0).setCell ⟨g, 1, none⟩ d1).setCell ⟨g, 2, none⟩ d2).setCell ⟨g, 3, none⟩ d3).heap[g]? = some (.cells #[d0, d1, d2, d3] T (0, 0)) := by
  have := blk_set (i := 3) (blk_set (i := 2) (blk_set (i := 1) (blk_set (i := 0) h d0) d1) d2) d3
  simpa using this
theorem blk4_other {w : World} {g f : Nat} {d0 d1 d2 d3 : Value} (h : f ≠ g) :
    ((((w.setCell ⟨g, 0, none⟩ d0).setCell ⟨g, 1, none⟩ d1).setCell ⟨g, 2, none⟩ d2).setCell ⟨g, 3, none⟩ d3).heap[f]? = w.heap[f]? := by
  rw [blk_other _ h, blk_other _ h, blk_other _ h, blk_other _ h]
theorem blk4_below {B : Nat} {w w' : World} {g : Nat} {d0 d1 d2 d3 : Value} (hb : Below B w w') (hg : B ≤ g) :
    Below B w ((((w'.setCell ⟨g, 0, none⟩ d0).setCell ⟨g, 1, none⟩ d1).setCell ⟨g, 2, none⟩ d2).setCell ⟨g, 3, none⟩ d3) :=
  below_set (below_set (below_set (below_set hb hg _) hg _) hg _) hg _

end Go.Proofs.Ytcmnjpoapcogham

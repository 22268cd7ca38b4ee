/- A term with other numbers of TmVars. Plain. -/
import Derived.Test.YtmhmlkdoaojimapWalkP
import Derived.Test.YtmhmlkdoaojimapTmOkP
namespace Go.Proofs.Ytmhmlkdoaojimap

def Tm.shift (b : Int) : Tm → Tm
  | .mk k s n ks => .mk k s (if k = 1 ∧ s.size = 0 ∧ ks.length = 0 then n + b else n) (shifts b ks)
where shifts (b : Int) : List Tm → List Tm
  | [] => []
  | t :: ts => t.shift b :: shifts b ts
abbrev shifts := Tm.shift.shifts
theorem shift_mk (b k : Int) (s : ByteArray) (n : Int) (ks : List Tm) : (Tm.mk k s n ks).shift b = .mk k s (if k = 1 ∧ s.size = 0 ∧ ks.length = 0 then n + b else n) (shifts b ks) := by simp [Tm.shift, shifts]
theorem shifts_map (b : Int) (ks : List Tm) : shifts b ks = ks.map (Tm.shift b) := by
  induction ks with
  | nil => rfl
  | cons t r ih => simp only [shifts, Tm.shift.shifts, List.map_cons] at *; rw [ih]

/-- what shiftedRight takes: no kids, or one of a Name and kids that it takes -/
def Tm.shp (b : Int) : Tm → Prop
  | .mk k _ n ks => (k = 1 → -9223372036854775808 ≤ n + b ∧ n + b ≤ 9223372036854775807) ∧ (ks = [] ∨ (k = 4 ∧ n = 0)) ∧ shps b ks
where shps (b : Int) : List Tm → Prop
  | [] => True
  | t :: ts => t.shp b ∧ shps b ts
abbrev shps := Tm.shp.shps
theorem shp_mk (b k : Int) (s : ByteArray) (n : Int) (ks : List Tm) : (Tm.mk k s n ks).shp b = ((k = 1 → -9223372036854775808 ≤ n + b ∧ n + b ≤ 9223372036854775807) ∧ (ks = [] ∨ (k = 4 ∧ n = 0)) ∧ shps b ks) := by simp [Tm.shp, shps]
theorem shps_all (b : Int) (ks : List Tm) : shps b ks ↔ ∀ t ∈ ks, t.shp b := by
  induction ks with
  | nil => simp [shps, Tm.shp.shps]
  | cons t r ih => simp only [shps, Tm.shp.shps, List.mem_cons, forall_eq_or_imp] at *; rw [ih]

theorem shift_zero (t : Tm) : t.shift 0 = t := by
  refine tm_ind (p := fun t => t.shift 0 = t) ?_ t
  intro k s n ks h
  rw [shift_mk, shifts_map]
  have e : ks.map (Tm.shift 0) = ks := by
    conv => rhs; rw [← List.map_id ks]
    exact List.map_congr_left fun t ht => h t ht
  rw [e]
  simp
end Go.Proofs.Ytmhmlkdoaojimap

/- Figures, one behind the other. Plain. -/
import Derived.Test.YtbkjcccbjnehbanGreatDoorSgP
namespace Go.Proofs.YtbkjcccbjnehbanGreatDoor

theorem sgNum_stop {t : ByteArray} {j : Nat} {a : Int} (h : ∀ hj : j < t.size, isFig t[j] = false) : sgNum (t.data.toList.drop j) a = some (a, 0) := by
  by_cases hj : j < t.size
  · rw [drop_at t j hj]; unfold sgNum; rw [if_neg (by rw [h hj]; exact Bool.noConfusion)]
  · rw [drop_end t j hj]; rfl
theorem sgNum_go {t : ByteArray} {j : Nat} {a : Int} (hj : j < t.size) (h : isFig t[j] = true) : sgNum (t.data.toList.drop j) a = if 999999999 < 10 * a + (t[j].toNat : Int) - 48 then none else (sgNum (t.data.toList.drop (j + 1)) (10 * a + (t[j].toNat : Int) - 48)).map fun x => (x.1, x.2 + 1) := by
  rw [drop_at t j hj]; conv => lhs; unfold sgNum
  rw [if_pos h]
/-- what is told of the figures so far -/
def NumAt (t : ByteArray) (i j : Nat) (a : Int) : Prop :=
  (a ≤ 999999999 ∧ sgNum (t.data.toList.drop i) 0 = (sgNum (t.data.toList.drop j) a).map fun x => (x.1, x.2 + (j - i))) ∨ (999999999 < a ∧ sgNum (t.data.toList.drop i) 0 = none)
theorem NumAt.start (t : ByteArray) (i : Nat) : NumAt t i i 0 := by
  refine Or.inl ⟨by omega, ?_⟩
  cases h : sgNum (t.data.toList.drop i) 0 with
  | none => rfl
  | some x => simp
theorem NumAt.next {t : ByteArray} {i j : Nat} {a : Int} (h : NumAt t i j a) (ha : a ≤ 999999999) (hij : i ≤ j) (hj : j < t.size) (hf : isFig t[j] = true) : NumAt t i (j + 1) (10 * a + (t[j].toNat : Int) - 48) := by
  rcases h with ⟨_, h⟩ | ⟨h0, _⟩
  · rw [sgNum_go hj hf] at h
    by_cases hg : 999999999 < 10 * a + (t[j].toNat : Int) - 48
    · rw [if_pos hg] at h; exact Or.inr ⟨hg, h⟩
    · rw [if_neg hg] at h
      refine Or.inl ⟨by omega, ?_⟩
      rw [h, Option.map_map]
      congr 1
      funext x
      show (x.1, x.2 + 1 + (j - i)) = (x.1, x.2 + (j + 1 - i))
      congr 1; omega
  · omega
theorem NumAt.done {t : ByteArray} {i j : Nat} {a : Int} (h : NumAt t i j a) (ha : a ≤ 999999999) (hij : i ≤ j) (hf : ∀ hj : j < t.size, isFig t[j] = false) : numSg t i = mkSg t 3 ⟨#[]⟩ a i j := by
  rcases h with ⟨_, h⟩ | ⟨h0, _⟩
  · rw [sgNum_stop hf] at h
    unfold numSg
    rw [h]
    show mkSg t 3 ⟨#[]⟩ a i (i + (0 + (j - i))) = _
    rw [show i + (0 + (j - i)) = j by omega]
  · omega
theorem NumAt.over {t : ByteArray} {i j : Nat} {a : Int} (h : NumAt t i j a) (ha : 999999999 < a) : numSg t i = badSg t i := by
  rcases h with ⟨h0, _⟩ | ⟨_, h⟩
  · omega
  · unfold numSg; rw [h]

end Go.Proofs.YtbkjcccbjnehbanGreatDoor

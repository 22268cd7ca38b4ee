/- What is right may be shifted a little. Of no program. -/
import Derived.Test.YtmhmlkdoaojimapShiftP
import Derived.Test.YtmhmlkdoaojimapTmOkP
namespace Go.Proofs.Ytmhmlkdoaojimap
open Go.RowKit

theorem right_shp (b : Int) (hb : -100000 ≤ b ∧ b ≤ 100000) (t : Tm) : ∀ d, t.right d = true → t.shp b := by
  refine tm_ind (p := fun t => ∀ d, t.right d = true → t.shp b) ?_ t
  intro k s n ks hks d h
  rw [right_mk, Bool.and_eq_true, Bool.and_eq_true] at h
  obtain ⟨⟨_, h2⟩, h3⟩ := h
  rw [rights_all, List.all_eq_true] at h3
  rw [shp_mk, shps_all]
  unfold oneT at h2
  refine ⟨fun hk => ?_, ?_, fun t ht => hks t ht _ (h3 t ht)⟩
  · subst hk
    simp at h2
    omega
  · split at h2
    · simp at h2; exact Or.inl h2.2
    · split at h2
      · simp at h2; exact Or.inl h2.2
      · split at h2
        · simp at h2; exact Or.inl h2.2
        · split at h2
          · rename_i h4; simp at h2; exact Or.inr ⟨h4, h2.1.2⟩
          · simp at h2

end Go.Proofs.Ytmhmlkdoaojimap

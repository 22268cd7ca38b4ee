/- The code's CompareTerm. -/
import Derived.Test.YtgkchpjincmjfalCmpIB
import Derived.Test.YtgkchpjincmjfalTmCmpC
import Derived.Test.YtgkchpjincmjfalRightI
namespace Go.Proofs.Ytgkchpjincmjfal
open Go.RowKit



theorem implCompare (t u : Tm) (w : World) (va vb : Value) (ha : TmIn w t va) (hb : TmIn w u vb) :
    Calls Try.prog 19 #[va, vb] w fun e w' => e = .returned (.int .i64 (cmpT t u)) ∧ Below w.heap.size w w' := by
  obtain ⟨k, s, n, ao, len, cap, rfl⟩ := tm_shape ha
  obtain ⟨k', s', n', bo, len', cap', rfl⟩ := tm_shape hb
  obtain ⟨W, hW⟩ : ∃ W, W = ((w.alloc (.cells #[.int .i64 k, .string s, .int .i64 n, .slice ao len cap] 29)).alloc (.cells #[.int .i64 k', .string s', .int .i64 n', .slice bo len' cap'] 29)) := ⟨_, rfl⟩
  have hb0 : Below w.heap.size w W := by rw [hW]; exact ((Below.refl _ _).alloc (Nat.le_refl _) _).alloc (by simp) _
  have HA : Hid (∀ wr, Below W.heap.size W wr → wr.cell? ⟨w.heap.size, 0, none⟩ = some (.int .i64 k) ∧ wr.cell? ⟨w.heap.size, 1, none⟩ = some (.string s) ∧ wr.cell? ⟨w.heap.size, 2, none⟩ = some (.int .i64 n) ∧ wr.cell? ⟨w.heap.size, 3, none⟩ = some (.slice ao len cap)) := fun wr hb =>
    ⟨cell_keep (w := W) (by rw [hW]; simp) hb, cell_keep (w := W) (by rw [hW]; simp) hb, cell_keep (w := W) (by rw [hW]; simp) hb, cell_keep (w := W) (by rw [hW]; simp) hb⟩
  have HB' : Hid (∀ wr, Below W.heap.size W wr → wr.cell? ⟨w.heap.size + 1, 0, none⟩ = some (.int .i64 k') ∧ wr.cell? ⟨w.heap.size + 1, 1, none⟩ = some (.string s') ∧ wr.cell? ⟨w.heap.size + 1, 2, none⟩ = some (.int .i64 n') ∧ wr.cell? ⟨w.heap.size + 1, 3, none⟩ = some (.slice bo len' cap')) := fun wr hb =>
    ⟨cell_keep (w := W) (by rw [hW]; simp) hb, cell_keep (w := W) (by rw [hW]; simp) hb, cell_keep (w := W) (by rw [hW]; simp) hb, cell_keep (w := W) (by rw [hW]; simp) hb⟩
  have HTA : Hid (∀ wr, Below W.heap.size W wr → TmIn wr t (.agg #[.int .i64 k, .string s, .int .i64 n, .slice ao len cap])) := fun wr h => TmIn.keep h _ _ (TmIn.keep hb0 _ _ ha)
  have HTB : Hid (∀ wr, Below W.heap.size W wr → TmIn wr u (.agg #[.int .i64 k', .string s', .int .i64 n', .slice bo len' cap'])) := fun wr h => TmIn.keep h _ _ (TmIn.keep hb0 _ _ hb)
  have HOK : Hid (∀ (t : Tm) (w : World) (v : Value), TmIn w t v → Calls Try.prog 12 #[v] w fun e w' => e = .returned (.bool t.ok) ∧ Below w.heap.size w w') := implOk
  replace hb0 : Hid _ := hb0
  clear ha hb
  obtain ⟨R, hR⟩ : ∃ R, R = cmpT t u := ⟨_, rfl⟩
  rw [← hR]
  cases hta : t.ok with
  | false =>
    have HV : Hid (R = 0) := by rw [hR]; unfold cmpT; rw [hta]; rfl
    have HO1 := HOK.out t W _ (HTA.out W (Below.refl _ _))
    rw [hta, hW] at HO1
    replace HO1 : Hid _ := HO1
    clear hR hta HOK HTA HTB
    go_enter Try.func19, Try.ntmps19
    go_wp2_with (go_at_call 12; refine (Calls.mono HO1.out ?_); rintro e w1 ⟨rfl, hb⟩; rw [← hW] at hb; have HB1 : Hid (Below W.heap.size W w1) := hb; clear hb)
    go_ret
    exact ⟨by rw [HV.out]; rfl, hb0.out.trans (HB1.out.mono hb0.out.size)⟩
  | true =>
    have HO1 := HOK.out t W _ (HTA.out W (Below.refl _ _))
    rw [hta, hW] at HO1
    replace HO1 : Hid _ := HO1
    have hrt : t.right 1 = true := by unfold Tm.ok at hta; simp only [Bool.and_eq_true] at hta; exact hta.2
    go_enter Try.func19, Try.ntmps19
    go_wp2_with (fail)
    go_at_call 12
    refine (Calls.mono HO1.out ?_)
    rintro e w1 ⟨rfl, hb⟩
    rw [← hW] at hb
    have HB1 : Hid (Below W.heap.size W w1) := hb
    obtain ⟨y0, y1, y2, y3⟩ := HB'.out w1 hb
    clear hb HO1
    have HO2 := HOK.out u w1 _ (HTB.out w1 HB1.out)
    cases hub : u.ok with
    | false =>
      have HV : Hid (R = 0) := by rw [hR]; unfold cmpT; rw [hta, hub]; rfl
      rw [hub] at HO2
      replace HO2 : Hid _ := HO2
      clear hR hta hub HOK HTA HTB hrt
      go_wp2_with (go_at_call 12; refine (Calls.mono HO2.out ?_); rintro e w2 ⟨rfl, hb⟩; have HB2 : Hid (Below W.heap.size W w2) := HB1.out.trans (hb.mono HB1.out.size); clear hb)
      go_ret
      exact ⟨by rw [HV.out]; rfl, hb0.out.trans (HB2.out.mono hb0.out.size)⟩
    | true =>
      have HV : Hid (R = t.cmp u) := by rw [hR]; unfold cmpT; rw [hta, hub]; rfl
      have hru : u.right 1 = true := by unfold Tm.ok at hub; simp only [Bool.and_eq_true] at hub; exact hub.2
      rw [hub] at HO2
      replace HO2 : Hid _ := HO2
      have HCM : Hid (∀ wr, Below W.heap.size W wr → Calls Try.prog 37 #[.agg #[.int .i64 k, .string s, .int .i64 n, .slice ao len cap], .agg #[.int .i64 k', .string s', .int .i64 n', .slice bo len' cap']] wr fun e w' => e = .returned (.int .i64 (t.cmp u)) ∧ Below wr.heap.size wr w') := fun wr h =>
        cmpI_term t wr u _ _ 1 1 (HTA.out wr h) (HTB.out wr h) hrt hru
      clear hR hta hub HOK HTA HTB hrt hru
      go_wp2_with (first
        | (go_at_call 12; refine (Calls.mono HO2.out ?_); rintro e w2 ⟨rfl, hb⟩; have HB2 : Hid (Below W.heap.size W w2) := HB1.out.trans (hb.mono HB1.out.size); obtain ⟨x0, x1, x2, x3⟩ := HA.out w2 HB2.out; obtain ⟨z0, z1, z2, z3⟩ := HB'.out w2 HB2.out; clear hb)
        | (go_at_call 37; refine (Calls.mono (HCM.out _ HB2.out) ?_); rintro e w3 ⟨rfl, hb⟩; have HB3 : Hid (Below W.heap.size W w3) := HB2.out.trans (hb.mono HB2.out.size); clear hb))
      go_ret
      exact ⟨by rw [HV.out]; rfl, hb0.out.trans (HB3.out.mono hb0.out.size)⟩
end Go.Proofs.Ytgkchpjincmjfal

/- impl.PredOf. -/
import Derived.Test.YtenmhpalpfppmaoDoorRows
import Derived.Test.YtenmhpalpfppmaoDoorMrg2
import Derived.Test.YtenmhpalpfppmaoDoorMrg5
import Derived.Test.YtenmhpalpfppmaoDoorPowTab
import Derived.Deep.RegionWith
import Derived.Deep.DeepCutAuto
import Derived.Laws.Concat
import Derived.Test.YtenmhpalpfppmaoDoorMrg6
import Derived.ProofKit
namespace Go.Proofs.YtenmhpalpfppmaoDoor
open Go.RowKit

set_option maxHeartbeats 2000000 in
theorem i_pred (t : Tm) (w : World) (v : Value) (hin : TmIn w t v) (hwt : t.wt ≤ 1048576) (htab : Lib.TabIs Tryd.prog w "internal/strconv.uint64pow10" .u64 Lib.pow10Tab) :
    Calls Tryd.prog 11 #[v] w fun e w' => e = .returned (.string (predB t)) ∧ Below w.heap.size w w' := by
  obtain ⟨k, s, n, ks⟩ := t
  unfold TmIn at hin
  obtain ⟨ao, cap, rfl, hk, hn, hs, hlc, hcm, _⟩ := hin
  unfold Tm.wt at hwt
  have hkl : (ks.length : Int) ≤ 1048576 := by omega
  have hss : s.size ≤ 1048576 := by omega
  obtain ⟨W, hW⟩ : ∃ W, W = w.alloc (.cells #[.int .i64 k, .string s, .int .i64 n, .slice ao ks.length cap] 31) := ⟨_, rfl⟩
  have bW : Below w.heap.size w W := by rw [hW]; exact (Below.refl _ _).alloc (Nat.le_refl _) _
  have HBW : Hid (Below w.heap.size w W) := bW
  have HT : Hid (∀ w1, Below w.heap.size w w1 → Lib.TabIs Tryd.prog w1 "internal/strconv.uint64pow10" .u64 Lib.pow10Tab) := fun w1 hb => pow_keep htab hb
  clear htab
  have HD : Hid (∀ w1, Below W.heap.size W w1 → Calls Tryd.prog 25 #[.int .i64 (ks.length : Int)] w1 fun e w' => e = .returned (.string ⟨(decI (ks.length : Int)).toArray⟩) ∧ Below w1.heap.size w1 w') := fun w1 hb => impl_any _ w1 (by omega) (by omega) (HT.out _ (bW.trans (hb.mono bW.size)))
  by_cases hkk : k = 2 ∨ k = 4
  · have HV : Hid (predB (.mk k s n ks) = s ++ ⟨#[47]⟩ ++ ⟨(decI (ks.length : Int)).toArray⟩) := by show _ = _; show (if k = 2 ∨ k = 4 then _ else _) = _; rw [if_pos hkk]
    obtain ⟨KL, hKL⟩ : ∃ KL, KL = ks.length := ⟨_, rfl⟩
    rw [← hKL] at hW HD HV hkl ⊢
    obtain ⟨D, hD⟩ : ∃ D : ByteArray, D = ⟨(decI (KL : Int)).toArray⟩ := ⟨_, rfl⟩
    have hDl : D.size ≤ 11 := by
      rw [hD]
      show (decI (KL : Int)).toArray.size ≤ 11
      rw [List.size_toArray]
      exact decI_le _ (by omega)
    rw [← hD] at HD HV
    have hadd1 : ∀ u, (Op.stringOp .add s ⟨#[47]⟩).run Tryd.prog u = .ok (.string (s ++ ⟨#[47]⟩)) u := fun u => run_string_add_sum u _ _ (by show _ + 1 ≤ _; omega)
    have hadd2 : ∀ u, (Op.stringOp .add (s ++ ⟨#[47]⟩) D).run Tryd.prog u = .ok (.string (s ++ ⟨#[47]⟩ ++ D)) u := fun u => run_string_add_sum u _ _ (by rw [ByteArray.size_append]; show _ + 1 + _ ≤ _; omega)
    have k0 : W.heap[w.heap.size]? = some (.cells #[.int .i64 k, .string s, .int .i64 n, .slice ao KL cap] 31 (0, 0)) := by rw [hW]; exact heap_alloc_new _ _
    have HK : Hid _ := k0
    rcases hkk with rfl | rfl
    all_goals
      clear hD hDl hKL bW k0 hlc hcm hs hk hn
      go_enter Tryd.func11, Tryd.ntmps11
      go_upto_region 3 with fail
      try rw [← hW]
      obtain ⟨c0, c1, c2, c3, _⟩ := blk4 HK.out
      clear hW
      have z1 := fun u => cell_keep c1 (later_below W u)
      have z3 := fun u => cell_keep c3 (later_below W u)
      have HC : Hid (∀ u, Calls Tryd.prog 25 #[.int .i64 (KL : Int)] (later W u) fun e w' => e = .returned (.string D) ∧ ∃ u', w' = later W u') := fun u => Calls.later_of_below (HD.out _ (later_below W u))
      clear c0 c1 c2 c3
      refine wp_region_later (by kernel_rfl) (by kernel_rfl) ?_
      repeat (go_big_quiet_step ((go_at_call 25; exact HC.out _)))
      refine wpQuiet_nil ?_
      rintro _ ⟨u3, rfl⟩
      go_wp2
      go_ret
      exact ⟨by rw [HV.out]; rfl, HBW.out.trans ((later_below W u3).mono HBW.out.size)⟩
  · have HV : Hid (predB (.mk k s n ks) = ⟨#[]⟩) := by show (if k = 2 ∨ k = 4 then _ else _) = _; rw [if_neg hkk]
    have e2 : ¬ k = 2 := fun h => hkk (Or.inl h)
    have e4 : ¬ k = 4 := fun h => hkk (Or.inr h)
    have b2 : (k != 2) = true := bne_iff_ne.2 e2
    have b4 : (k != 4) = true := bne_iff_ne.2 e4
    clear hkk hlc hcm hs hk hn
    go_enter Tryd.func11, Tryd.ntmps11
    go_wp2
    go_ret
    exact ⟨by rw [HV.out]; rfl, by rw [← hW]; exact HBW.out⟩
end Go.Proofs.YtenmhpalpfppmaoDoor

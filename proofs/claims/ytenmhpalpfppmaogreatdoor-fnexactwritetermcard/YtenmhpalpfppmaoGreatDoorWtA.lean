/- Both AtomText. -/
import Derived.Test.YtenmhpalpfppmaoGreatDoorMrg4
import Derived.Test.YtenmhpalpfppmaoGreatDoorSgQ0
import Derived.Test.YtenmhpalpfppmaoGreatDoorSgV
import Derived.Deep.DeepCutAuto
namespace Go.Proofs.YtenmhpalpfppmaoGreatDoor
open Go.RowKit

theorem alone_eq (s : ByteArray) : asAtomB s = match (signsR s).1 with | [x] => decide (x.kind = 1) && decide (x.text = s) | _ => false := by
  unfold asAtomB signsR
  by_cases h : s.size ≤ 3000
  · rw [decide_eq_true h, if_pos (by omega), Bool.true_and]; rfl
  · rw [decide_eq_false h, if_neg (by omega), Bool.false_and]
/-- what stands in the row that SignsOf answers, as AtomText looks at it -/
inductive Looked (w : World) (B : Nat) (s : ByteArray) : Value → Prop where
  | none (ao : Option Addr) (n cap : Nat) : ¬ n = 1 → asAtomB s = false → (n : Int) ≤ 3000 → Looked w B s (.slice ao n cap)
  | one (g cap : Nat) (k : Int) (x : ByteArray) : asAtomB s = (decide (k = 1) && decide (x = s)) → cap ≤ maxLen → 1 ≤ cap → w.cell? ⟨g, 0, none⟩ = some (.int .i64 k) → w.cell? ⟨g, 1, none⟩ = some (.string x) → Looked w B s (.slice (some ⟨g, 0, none⟩) 1 cap)
theorem looked {w : World} {B : Nat} {s : ByteArray} {v : Value} (h : SgRow w B (signsR s).1 v) : Looked w B s v := by
  have ha := alone_eq s
  have hl := signsR_len s
  generalize (signsR s).1 = L at *
  match L, ha, hl, h with
  | [], ha, _, h =>
    obtain ⟨ao, cap, rfl, _⟩ := h.shape
    exact .none _ _ _ (by simp) ha (by simp)
  | [x], ha, _, h =>
    obtain ⟨g, cap, rfl, _, _, h1, h2, hc⟩ := h.cells (by simp)
    obtain ⟨c0, c1, _⟩ := hc 0 (by simp)
    exact .one g cap x.kind x.text ha h2 h1 (by simpa using c0) (by simpa using c1)
  | x :: y :: r, ha, hl, h =>
    obtain ⟨ao, cap, rfl, _⟩ := h.shape
    exact .none _ _ _ (by simp) ha (by omega)

set_option maxHeartbeats 1000000 in
theorem s_atom (s : ByteArray) (w : World) (hs : s.size ≤ 1048576) :
    Calls Tryz.prog 20 #[.string s] w fun e w' => e = .returned (.string ⟨(atomL s).toArray⟩) ∧ Below w.heap.size w w' := by
  have HC : Hid _ := spec_all s w
  have hsz : s.data.toList.length = s.size := by rw [Array.length_toList]; rfl
  have hadd1 : ∀ u, (Op.stringOp .add ⟨#[39]⟩ s).run Tryz.prog u = .ok (.string ⟨(39 :: s.data.toList).toArray⟩) u := fun u => by
    have := add_txt [39] s.data.toList (by simp only [List.length_cons, List.length_nil]; omega) u
    rwa [mk_data] at this
  have hadd2 : ∀ u, (Op.stringOp .add ⟨(39 :: s.data.toList).toArray⟩ ⟨#[39]⟩).run Tryz.prog u = .ok (.string ⟨(39 :: (s.data.toList ++ [39])).toArray⟩) u := fun u =>
    add_txt (39 :: s.data.toList) [39] (by simp only [List.length_cons, List.length_nil]; omega) u
  have HY : Hid (asAtomB s = true → s = ⟨(atomL s).toArray⟩) := fun h => by rw [atomL, if_pos h, mk_data]
  have HNO : Hid (asAtomB s = false → (⟨(39 :: (s.data.toList ++ [39])).toArray⟩ : ByteArray) = ⟨(atomL s).toArray⟩) := fun h => by rw [atomL, if_neg (by rw [h]; simp)]
  obtain ⟨R, hR⟩ : ∃ R, R = (⟨(atomL s).toArray⟩ : ByteArray) := ⟨_, rfl⟩
  rw [← hR] at HY HNO ⊢
  generalize (⟨(39 :: (s.data.toList ++ [39])).toArray⟩ : ByteArray) = q2 at *
  generalize (⟨(39 :: s.data.toList).toArray⟩ : ByteArray) = q1 at *
  clear hs hR hsz
  go_enter Tryz.func20, Tryz.ntmps20
  go_upto_region 2 with (go_at_call 33; refine (Calls.mono HC.out ?_); rintro e w1 ⟨v1, rfl, r1, b1⟩; have l1 := looked r1; have B1 : Hid (Below w.heap.size w w1) := b1; clear r1 b1)
  clear HC
  generalize (signsR s).2 = bb at *
  cases l1 with
  | none ao n cap hn hal hle =>
    have hn' : ((n : Int) == 1) = false := beq_eq_false_iff_ne.2 (by omega)
    obtain rfl := HNO.out hal
    clear HY HNO hal hn
    go_wp2
    go_ret
    exact ⟨rfl, B1.out⟩
  | one g cap k x hal hcap h1 c0 c1 =>
    unfold maxLen at hcap
    by_cases hk : k = 1
    · subst hk
      by_cases hx : x = s
      · subst hx
        obtain rfl := HY.out (by rw [hal]; simp)
        clear HNO HY hal
        go_wp2
        go_ret
        exact ⟨rfl, B1.out⟩
      · obtain rfl := HNO.out (by rw [hal, decide_eq_false hx, Bool.and_false])
        have hx' := toL_ne2 hx
        clear HNO HY hal hx
        go_wp2
        go_ret
        exact ⟨rfl, B1.out⟩
    · obtain rfl := HNO.out (by rw [hal, decide_eq_false hk, Bool.false_and])
      have hk' : (k == 1) = false := beq_eq_false_iff_ne.2 hk
      clear HNO HY hal hk
      go_wp2
      go_ret
      exact ⟨rfl, B1.out⟩

set_option maxHeartbeats 1000000 in
theorem i_alone (s : ByteArray) (w : World) (hT : Lib.Utf8Tabs 3 4 w) :
    Calls Tryz.prog 55 #[.string s] w fun e w' => e = .returned (.bool (asAtomB s)) ∧ Below w.heap.size w w' := by
  have HC : Hid _ := impl_all s w hT
  clear hT
  go_enter Tryz.func55, Tryz.ntmps55
  go_upto_region 2 with (go_at_call 68; refine (Calls.mono HC.out ?_); rintro e w1 ⟨v1, rfl, r1, b1⟩; have l1 := looked r1; have B1 : Hid (Below w.heap.size w w1) := b1; clear r1 b1)
  clear HC
  generalize (signsR s).2 = bb at *
  cases l1 with
  | none ao n cap hn hal hle =>
    have hn' : ((n : Int) == 1) = false := beq_eq_false_iff_ne.2 (by omega)
    have HAL : Hid (asAtomB s = false) := hal
    clear hal hn
    go_wp2
    go_ret
    exact ⟨by rw [HAL.out]; rfl, B1.out⟩
  | one g cap k x hal hcap h1 c0 c1 =>
    unfold maxLen at hcap
    by_cases hk : k = 1
    · subst hk
      by_cases hx : x = s
      · subst hx
        have HAL : Hid (asAtomB x = true) := by show _ = _; rw [hal]; simp
        clear hal
        go_wp2
        go_ret
        exact ⟨by rw [HAL.out]; rfl, B1.out⟩
      · have HAL : Hid (asAtomB s = false) := by show _ = _; rw [hal, decide_eq_false hx, Bool.and_false]
        have hx' := toL_ne2 hx
        clear hal hx
        go_wp2
        go_ret
        exact ⟨by rw [HAL.out]; rfl, B1.out⟩
    · have HAL : Hid (asAtomB s = false) := by show _ = _; rw [hal, decide_eq_false hk, Bool.false_and]
      have hk' : (k == 1) = false := beq_eq_false_iff_ne.2 hk
      clear hal hk
      go_wp2
      go_ret
      exact ⟨by rw [HAL.out]; rfl, B1.out⟩

set_option maxHeartbeats 1000000 in
theorem i_atom (s : ByteArray) (w : World) (hs : s.size ≤ 1048576) (hT : Lib.Utf8Tabs 3 4 w) :
    Calls Tryz.prog 41 #[.string s] w fun e w' => e = .returned (.string ⟨(atomL s).toArray⟩) ∧ Below w.heap.size w w' := by
  have HC : Hid _ := i_alone s w hT
  have hsz : s.data.toList.length = s.size := by rw [Array.length_toList]; rfl
  have HA : Hid (atomL s = if asAtomB s then s.data.toList else 39 :: (s.data.toList ++ [39])) := rfl
  have HMK : Hid (s = ⟨s.data.toList.toArray⟩) := (mk_data s).symm
  clear hT
  generalize s.data.toList = l at *
  obtain rfl := HMK.out
  replace hs : Hid (l.length ≤ 1048576) := by show _ ≤ _; rw [hsz]; exact hs
  clear hsz HMK
  cases hal : asAtomB ⟨l.toArray⟩ with
  | true =>
    rw [hal] at HA HC
    clear hal
    go_enter Tryz.func41, Tryz.ntmps41
    go_upto_region 2 with (go_at_call 55; refine (Calls.mono HC.out ?_); rintro e w1 ⟨rfl, b1⟩; have B1 : Hid (Below w.heap.size w w1) := b1; clear b1)
    clear HC
    have HT : Hid _ := tog_any [l] w1.heap.size 0 1 1 _ rfl (txt1 w1 l) (Nat.le_refl _) (by decide) (by have := hs.out; simp only [List.flatten_cons, List.flatten_nil, List.append_nil]; omega)
    go_wp2_with (go_at_call 26; refine (Calls.mono HT.out ?_); rintro e w2 ⟨rfl, b2⟩; have B2 : Hid (Below w.heap.size w w2) := B1.out.trans (((Below.refl _ _).alloc (Nat.le_refl _) _).trans (b2.mono (by simp)) |>.mono B1.out.size); clear b2)
    go_ret
    exact ⟨by rw [HA.out]; simp, B2.out⟩
  | false =>
    rw [hal] at HA HC
    clear hal
    go_enter Tryz.func41, Tryz.ntmps41
    go_upto_region 3 with (go_at_call 55; refine (Calls.mono HC.out ?_); rintro e w1 ⟨rfl, b1⟩; have B1 : Hid (Below w.heap.size w w1) := b1; clear b1)
    clear HC
    have HT : Hid _ := tog_any [[39], l, [39]] w1.heap.size 0 3 3 _ rfl (txt3 w1 [39] l [39]) (Nat.le_refl _) (by decide) (by have := hs.out; simp only [List.flatten_cons, List.flatten_nil, List.append_nil, List.length_append, List.length_cons, List.length_nil]; omega)
    go_wp2_with (go_at_call 26; refine (Calls.mono HT.out ?_); rintro e w2 ⟨rfl, b2⟩; have B2 : Hid (Below w.heap.size w w2) := B1.out.trans (((Below.refl _ _).alloc (Nat.le_refl _) _).trans (b2.mono (by simp)) |>.mono B1.out.size); clear b2)
    go_ret
    exact ⟨by rw [HA.out]; simp, B2.out⟩
end Go.Proofs.YtenmhpalpfppmaoGreatDoor

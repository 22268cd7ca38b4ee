/- The code's PartsOf hands back ptRes, in a row of its own. -/
import Derived.Test.YtdabglemkpokpakDoorClone
import Derived.Test.YtdabglemkpokpakDoorStrRow
import Derived.Test.YtdabglemkpokpakDoorPtPlain
import Derived.Test.YtdabglemkpokpakDoorFld
namespace Go.Proofs.YtdabglemkpokpakDoor
open Go.RowKit Go.BigFrame

theorem plain_yes (s : ByteArray) (w : World) (hs : s.size ≤ 1048576) (hp : plainAt s s.size) :
    Calls Tryd.prog 21 #[.string s] w fun e w' => e = .returned (.bool true) ∧ w' = w := by
  have HP : Hid _ := hp
  clear hp
  go_enter Tryd.func21, Tryd.ntmps21
  go_wp2
  go_loop [3] (fun i => ∃ k : Nat, k ≤ s.size ∧ i = .int .i64 k) (fun i => s.size - (intOf i).toNat)
  case atStart => exact ⟨0, Nat.zero_le _, rfl⟩
  case round =>
    obtain ⟨k, hk, rfl⟩ := hrel
    by_cases hlt : k < s.size
    · obtain ⟨h1, h2⟩ := HP.out k hlt hlt
      have hc8 := UInt8.toNat_lt s[k]
      go_wp2
      go_round
      case rel => exact ⟨k + 1, by omega, by go_num⟩
      case measure => simp [intOf]; omega
    · go_wp2
      go_ret
      exact ⟨rfl, rfl⟩

theorem plain_no (s : ByteArray) (w : World) (hs : s.size ≤ 1048576) (hp : ¬ plainAt s s.size) :
    Calls Tryd.prog 21 #[.string s] w fun e w' => e = .returned (.bool false) ∧ w' = w := by
  have HP : Hid _ := hp
  clear hp
  go_enter Tryd.func21, Tryd.ntmps21
  go_wp2
  go_loop [3] (fun i => ∃ k : Nat, k ≤ s.size ∧ i = .int .i64 k ∧ Hid (plainAt s k)) (fun i => s.size - (intOf i).toNat)
  case atStart => exact ⟨0, Nat.zero_le _, rfl, fun j _ h => by omega⟩
  case round =>
    obtain ⟨k, hk, rfl, hq⟩ := hrel
    by_cases hlt : k < s.size
    · have hc8 := UInt8.toNat_lt s[k]
      by_cases h1 : s[k].toNat < 32
      · go_wp2
        go_ret
        exact ⟨rfl, rfl⟩
      by_cases h2 : 126 < s[k].toNat
      · go_wp2
        go_ret
        exact ⟨rfl, rfl⟩
      have hq' : Hid (plainAt s (k + 1)) := by
        intro j hj hjk
        by_cases e : j = k
        · subst e; omega
        · exact hq.out j hj (by omega)
      go_wp2
      go_round
      case rel => exact ⟨k + 1, by omega, by go_num, hq'⟩
      case measure => simp [intOf]; omega
    · obtain rfl : k = s.size := by omega
      exact absurd hq.out HP.out

theorem set_self (xs : List (List UInt8)) (k : Nat) (h : k < xs.length) : xs.set k xs[k] = xs := by simp

set_option maxHeartbeats 1000000 in
theorem implPt_any (s : ByteArray) (w : World) (hs : s.size ≤ 1048576) (htab : Lib.TabIs Tryd.prog w "strings.asciiSpace" .u8 Lib.asciiSpaceTab) :
    Calls Tryd.prog 9 #[.string s] w fun e w' => ∃ v, e = .returned (.tuple #[v, .bool (ptOk s)]) ∧ w'.ownsRow w.heap.size 9 1 v (ptRes s).length (strsV (ptRes s)) ∧ Below w.heap.size w w' := by
  have HT : Hid _ := htab
  clear htab
  by_cases h1 : 600 < s.size
  · have hk := ptOk_long h1
    rw [ptRes_no hk, hk]
    clear hk
    go_enter Tryd.func9, Tryd.ntmps9
    go_wp2
    go_ret2
    exact ⟨_, rfl, World.ownsRow_nil _ _ _ _, Below.refl _ _⟩
  by_cases hp : plainAt s s.size
  · have hasc : Hid (∀ (j : Nat) b, s.data.toList[j]? = some b → b.toNat < 128) := by
      intro j b hj
      obtain ⟨hlt, rfl⟩ := List.getElem?_eq_some_iff.1 hj
      have hl : s.data.toList.length = s.size := by rw [Array.length_toList]; rfl
      have this : 32 ≤ s.data[j].toNat ∧ s.data[j].toNat ≤ 126 := hp j (by omega) (by omega)
      simp
      omega
    have HP : Hid _ := hp
    have hel : Hid (∀ x ∈ Lib.fields s.data.toList, x.length ≤ 1048576) := by
      intro x hx
      have := fieldsGo_le _ _ x hx
      have hl : s.data.toList.length = s.size := by rw [Array.length_toList]; rfl
      simp at this
      omega
    clear hp
    by_cases hn : 10 < (Lib.fields s.data.toList).length
    · have hk := ptOk_many hn
      rw [ptRes_no hk, hk]
      clear hk
      generalize hxs : Lib.fields s.data.toList = xs at *
      go_enter Tryd.func9, Tryd.ntmps9
      go_wp2_with (first | (go_at_call 21; refine (plain_yes _ _ hs HP.out).mono ?_; rintro e w' ⟨rfl, rfl⟩) | (go_at_call 22; refine (sh_strings_Fields _ _ (by omega) hasc.out HT.out).mono ?_; rintro e w1 ⟨rfl, rfl⟩; rw [hxs]))
      go_ret2
      exact ⟨_, rfl, World.ownsRow_nil _ _ _ _, (Below.refl _ _).alloc (Nat.le_refl _) _⟩
    · have hk := ptOk_yes (by omega) HP.out (by omega)
      rw [ptRes_yes hk, hk]
      clear hk
      generalize hxs : Lib.fields s.data.toList = xs at *
      have hown0 : (w.alloc (.cells (xs.map fun l => Value.string ⟨l.toArray⟩).toArray 9)).ownsRow w.heap.size 9 1 (.slice (some ⟨w.heap.size, 0, none⟩) xs.length xs.length) xs.length (strsV xs) :=
        World.ownsRow_lit w _ xs.length (Nat.le_refl _) (by unfold maxLen; omega) (by simp)
      have H0 : Hid _ := hown0
      clear hown0
      go_enter Tryd.func9, Tryd.ntmps9
      go_wp2_with (first | (go_at_call 21; refine (plain_yes _ _ hs HP.out).mono ?_; rintro e w' ⟨rfl, hw⟩; subst hw) | (go_at_call 22; refine (sh_strings_Fields _ _ (by omega) hasc.out HT.out).mono ?_; rintro e w1 ⟨rfl, hw⟩; rw [hxs] at hw ⊢; subst hw))
      go_loopw [22, 5, 6] (fun i _ _ wr => ∃ k : Nat, k ≤ xs.length ∧ i = .int .i64 k ∧ wr.ownsRow w'.heap.size 9 1 (.slice (some ⟨w'.heap.size, 0, none⟩) xs.length xs.length) xs.length (strsV xs) ∧ Below w'.heap.size w' wr) (fun i _ _ _ => xs.length - (intOf i).toNat)
      case atStart => exact ⟨0, Nat.zero_le _, rfl, H0.out, (Below.refl _ _).alloc (Nat.le_refl _) _⟩
      case round =>
        obtain ⟨k, hk, rfl, hown, hbel⟩ := hrel
        have hsz := hbel.size
        by_cases hlt : k < xs.length
        · have hc : wr.cell? ⟨w'.heap.size, k, none⟩ = some (.string ⟨xs[k].toArray⟩) := (hown.cellAt k (by omega)).trans (strsV_get xs k hlt)
          have hsl : (⟨xs[k].toArray⟩ : ByteArray).size ≤ 1048576 := by rw [size_mk]; exact hel.out _ (List.getElem_mem hlt)
          go_wp2_with (go_at_call 23; refine (clone_any _ _ hsl).mono ?_; rintro e w1 ⟨rfl, hb1⟩; have r1 := owns_below hown hb1; have c1 := (r1.cellAt k (by omega)).trans (strsV_get xs k hlt); have f1 := r1.frozenAt k)
          have R := r1.stored k (.string ⟨xs[k].toArray⟩)
          rw [strsV_set, set_self xs k hlt] at R
          go_roundw
          case rel => exact ⟨k + 1, by omega, by go_num, R.1, (hbel.trans (hb1.mono hsz)).setCell (Nat.le_refl _) _⟩
          case measure => simp [intOf]; omega
        · go_wp2
          go_ret2
          exact ⟨_, rfl, hown, hbel⟩
  · have hk : ptOk s = false := by
      unfold ptOk
      have : (s.data.toList.all fun c => decide (32 ≤ c.toNat) && decide (c.toNat ≤ 126)) = false := by
        rw [← Bool.not_eq_true]; intro e; exact hp ((plain_iff s).1 e)
      rw [this]; simp
    rw [ptRes_no hk, hk]
    have HP : Hid _ := hp
    clear hk hp
    go_enter Tryd.func9, Tryd.ntmps9
    go_wp2_with (go_at_call 21; refine (plain_no _ _ hs HP.out).mono ?_; rintro e w' ⟨rfl, rfl⟩)
    go_ret2
    exact ⟨_, rfl, World.ownsRow_nil _ _ _ _, Below.refl _ _⟩
end Go.Proofs.YtdabglemkpokpakDoor

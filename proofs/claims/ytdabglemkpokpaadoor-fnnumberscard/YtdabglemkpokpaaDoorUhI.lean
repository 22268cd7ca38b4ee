/- The code's Unhex reads unhexL. -/
import Derived.Test.YtdabglemkpokpaaDoorMakeOwn
import Derived.Test.YtdabglemkpokpaaDoorUhPlain
namespace Go.Proofs.YtdabglemkpokpaaDoor
open Go.RowKit

def halfV (c : UInt8) : Nat := (hv c).getD 0

theorem half_any (c : UInt8) (w : World) :
    Calls Tryd.prog 30 #[.int .u8 (c.toNat : Int)] w fun e w' => e = .returned (.tuple #[.int .u8 (halfV c : Int), .bool (hv c).isSome]) ∧ w' = w := by
  have hc := UInt8.toNat_lt c
  have hr : (48 ≤ c.toNat ∧ c.toNat ≤ 57) ∨ (97 ≤ c.toNat ∧ c.toNat ≤ 102) ∨ c.toNat < 48 ∨ (57 < c.toNat ∧ c.toNat < 97) ∨ 102 < c.toNat := by omega
  rcases hr with ⟨h1, h2⟩ | ⟨h1, h2⟩ | h1 | ⟨h1, h2⟩ | h1
  · have e : hv c = some (c.toNat - 48) := by unfold hv; rw [if_pos ⟨h1, h2⟩]
    rw [halfV, e]
    clear e
    go_enter Tryd.func30, Tryd.ntmps30
    go_wp2
    go_ret2
    exact ⟨tup_u8 (by simp; omega), rfl⟩
  · have e : hv c = some (c.toNat - 87) := by unfold hv; rw [if_neg (by omega), if_pos ⟨h1, h2⟩]
    rw [halfV, e]
    clear e
    go_enter Tryd.func30, Tryd.ntmps30
    go_wp2
    go_ret2
    exact ⟨tup_u8 (by simp; omega), rfl⟩
  all_goals
    have e : hv c = none := by unfold hv; rw [if_neg (by omega), if_neg (by omega)]
    rw [halfV, e]
    clear e
    go_enter Tryd.func30, Tryd.ntmps30
    go_wp2
    go_ret2
    exact ⟨rfl, rfl⟩

def OddAt (s : ByteArray) (j x : Nat) : Prop := ∃ h : j < s.size, hv s[j] = some x

set_option maxHeartbeats 1000000 in
theorem implUh_yes (s : ByteArray) (w : World) (hs : s.size ≤ 40000) (h2 : s.size % 2 = 0) :
    Calls Tryd.prog 15 #[.string s] w fun e w' => e = .returned (uhRes s.data.toList) ∧ Below w.heap.size w w' := by
  obtain ⟨i0, hi, hz0, hz1, hz2⟩ := info_parts info5
  have hmod : ((s.size : Int) % 2 != 0) = false := by rw [bne_eq_false_iff_eq]; omega
  obtain ⟨M, hM, hmk, hown0⟩ := make_bytes ((s.size : Int) / 2) (by omega) (by omega)
  have H0 : Hid _ := hown0
  clear hown0 hM
  go_enter Tryd.func15, Tryd.ntmps15
  go_wp2
  go_step3
  go_wp2
  go_step3
  go_wp2
  go_loopw [4, 5, 6, 7, 8] (fun v hg i _ _ wr => ∃ (x : Nat) (p : List UInt8), x < 16 ∧ hg = .int .u8 x ∧ wr.ownsRow w.heap.size 5 1 v p.length (bytesV p) ∧ Below w.heap.size w wr ∧
      ((∃ k : Nat, k % 2 = 0 ∧ k ≤ s.size ∧ p.length ≤ k ∧ i = .int .i64 k ∧ Hid (unhexL s.data.toList = (unhexL (s.data.toList.drop k)).map fun t => p ++ t)) ∨
       (∃ j : Nat, j % 2 = 0 ∧ j + 1 < s.size ∧ p.length ≤ j ∧ i = .int .i64 ((j : Int) + 1) ∧ Hid (unhexL s.data.toList = (unhexL (s.data.toList.drop j)).map fun t => p ++ t) ∧ Hid (OddAt s j x))))
    (fun _ _ i _ _ _ => s.size - (intOf i).toNat)
  case atStart => exact ⟨0, [], by omega, rfl, H0.out w _ (Nat.le_refl _), (Below.refl _ _).alloc (Nat.le_refl _) _, Or.inl ⟨0, rfl, Nat.zero_le _, Nat.le_refl _, rfl, by show _ = _; simp⟩⟩
  case round =>
    obtain ⟨x, p, hx16, rfl, hown, hb, hcase⟩ := hrel
    have hsz := hb.size
    clear hmk H0
    rcases hcase with ⟨k, hk2, hk, hpl, rfl, hp⟩ | ⟨j, hj2, hj, hpl, rfl, hp, hodd⟩
    · by_cases hlt : k < s.size
      · have hlt1 : k + 1 < s.size := by omega
        have hkm : ((k : Int) % 2 == 0) = true := beq_iff_eq.2 (by omega)
        cases ha : hv s[k] with
        | none =>
          have hf : Hid (uhRes s.data.toList = _) := uhRes_none (pre_no1 s k p hlt1 ha hp.out)
          have hn : (hv s[k]).isSome = false := by rw [ha]; rfl
          clear ha hp
          go_wp2_with (go_at_call 30; refine (half_any _ _).mono ?_; rintro e w' ⟨rfl, rfl⟩)
          try rw [Exit.noGoto_ret]
          go_ret2
          exact ⟨by rw [hf.out]; rfl, hb⟩
        | some y =>
          have hn : (hv s[k]).isSome = true := by rw [ha]; rfl
          have hy : halfV s[k] = y := by rw [halfV, ha]; rfl
          have hy16 := hv_lt ha
          rw [← hy] at hy16
          have hO : Hid (OddAt s k (halfV s[k])) := ⟨hlt, by rw [hy]; exact ha⟩
          clear ha hy
          go_wp2_with (go_at_call 30; refine (half_any _ _).mono ?_; rintro e w' ⟨rfl, rfl⟩)
          go_roundw
          case rel => exact ⟨_, p, hy16, rfl, hown, hb, Or.inr ⟨k, hk2, hlt1, hpl, by go_num, hp, hO⟩⟩
          case measure => simp [intOf]; omega
      · have hf := pre_end s k p hlt hp.out
        have hF : Hid (uhRes s.data.toList = _) := uhRes_some hf
        by_cases h0 : p = []
        · subst h0
          have HC := own_string_nil (P := Tryd.prog) 22 9 5 Tryd.underlying22 Tryd.underlying5 Tryd.underlying9 hown
          clear hf hp
          go_wp2
          try rw [Exit.noGoto_ret]
          go_ret2
          exact ⟨by rw [hF.out]; rfl, hb⟩
        · have HC := own_string (P := Tryd.prog) 22 9 5 Tryd.underlying22 Tryd.underlying5 Tryd.underlying9 hown h0
          clear h0 hf hp
          go_wp2
          try rw [Exit.noGoto_ret]
          go_ret2
          exact ⟨by rw [hF.out]; rfl, hb⟩
    · have hjm : (((j : Int) + 1) % 2 == 0) = false := beq_eq_false_iff_ne.2 (by omega)
      cases ha : hv s[j + 1] with
      | none =>
        have hf : Hid (uhRes s.data.toList = _) := uhRes_none (pre_no2 s j p hj ha hp.out)
        have hn : (hv s[j + 1]).isSome = false := by rw [ha]; rfl
        clear ha hp
        go_wp2_with (go_at_call 30; refine (half_any _ _).mono ?_; rintro e w' ⟨rfl, rfl⟩)
        try rw [Exit.noGoto_ret]
        go_ret2
        exact ⟨by rw [hf.out]; rfl, hb⟩
      | some y =>
        have hn : (hv s[j + 1]).isSome = true := by rw [ha]; rfl
        have hy : halfV s[j + 1] = y := by rw [halfV, ha]; rfl
        have hy16 := hv_lt ha
        rw [← hy] at hy16 ha
        obtain ⟨hjl, hxx⟩ := hodd.out
        have hq : Hid _ := pre_yes s j _ _ p hj hxx ha hp.out
        clear ha hy hp hxx hodd
        go_wp2_with (first | (go_at_call 30; refine (half_any _ _).mono ?_; rintro e w' ⟨rfl, rfl⟩) | (at_builtin; refine wpList_append_own _ rfl _ _ 22 rfl w.heap.size 5 i0 (.int .u8 0) 1 1 Tryd.underlying22 hi hz0 hz1 hz2 rfl (by decide) _ _ _ rfl (hown.alloc _) ⟨_, 0, none⟩ 1 1 [.int .u8 ((x : Int) * 16 + (halfV s[j + 1] : Int))] rfl rfl ?c1 ?c2 ?c3 ?c4 ?c5 ?_))
        case c1 => exact cell_one_new _ _ _
        case c2 => intro u hu; simp at hu; subst hu; rfl
        case c3 => unfold maxLen; omega
        case c4 => omega
        case c5 => simp; omega
        · intro v' w1 hown' hgrow _
          have R := own_push (UInt8.ofNat (16 * x + halfV s[j + 1])) (by simp; omega) hb hsz hown hown' hgrow
          clear hown hown' hgrow
          go_wp2
          go_roundw
          case rel => exact ⟨x, _, hx16, rfl, R.1, R.2, Or.inl ⟨j + 2, by omega, by omega, by simp; omega, by go_num, hq⟩⟩
          case measure => simp [intOf]; omega

theorem implUh_no (s : ByteArray) (w : World) (_hs : s.size ≤ 1048576) (h : 40000 < s.size ∨ s.size % 2 ≠ 0) :
    Calls Tryd.prog 15 #[.string s] w fun e w' => e = .returned (.tuple #[.string ⟨#[]⟩, .bool false]) ∧ w' = w := by
  by_cases h1 : s.size % 2 = 0
  · have hmod : ((s.size : Int) % 2 != 0) = false := by rw [bne_eq_false_iff_eq]; omega
    have h3 : 40000 < s.size := by omega
    clear h
    go_enter Tryd.func15, Tryd.ntmps15
    go_wp2
    go_step3
    go_wp2
    rw [Exit.noGoto_ret]
    go_ret2
    exact ⟨rfl, rfl⟩
  · have hmod : ((s.size : Int) % 2 != 0) = true := by rw [bne_iff_ne]; omega
    clear h
    go_enter Tryd.func15, Tryd.ntmps15
    go_wp2
    go_step3
    go_wp2
    rw [Exit.noGoto_ret]
    go_ret2
    exact ⟨rfl, rfl⟩
end Go.Proofs.YtdabglemkpokpaaDoor

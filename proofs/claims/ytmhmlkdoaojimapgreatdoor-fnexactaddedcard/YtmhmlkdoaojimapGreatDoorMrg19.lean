/- Four texts in one. -/
import Derived.Shelf.Strconv.Itoa0
import Derived.Shelf.Strconv.Itoa1
import Derived.Shelf.LaysM
import Derived.Shelf.Strconv.Itoa2
import Derived.Shelf.Strconv.Itoa3
import Derived.Shelf.Strconv.Clone
import Derived.Test.YtmhmlkdoaojimapGreatDoorProg
import Derived.Test.YtmhmlkdoaojimapGreatDoorRows
import Derived.Test.YtmhmlkdoaojimapGreatDoorMrg5
import Derived.WalkSmall
import Derived.WalkKit
import Derived.WalkSpells
import Derived.Lib.LaidTab
import Derived.Stop.LaidErr
import Derived.Test.YtmhmlkdoaojimapGreatDoorMrg14
import Derived.Deep.RegionWith
import Derived.Deep.DeepCutAuto
import Derived.Laws.Concat
import Derived.Test.YtmhmlkdoaojimapGreatDoorMrg2
import Derived.Test.YtmhmlkdoaojimapGreatDoorMrg3
import Derived.ProofKit
/- The library contracts that are proved once over any program, at this translation: no walk, one application each. -/
namespace Go.Proofs.YtmhmlkdoaojimapGreatDoor
open Go.Proofs
open Go.Shelf
def sh_laysM171_ren : Go.Shelf.Ren := ⟨fun | 171 => 69 | 243 => 77 | 246 => 83 | 283 => 84 | 284 => 85 | 285 => 86 | 286 => 87 | 129 => 89 | 317 => 88 | 318 => 90 | 319 => 91 | 320 => 92 | 337 => 93 | 338 => 94 | n => n, fun | 3 => 3 | 9 => 9 | 2 => 2 | 4 => 4 | 171 => 119 | 0 => 0 | 53 => 120 | 37 => 90 | 5 => 5 | 173 => 123 | 212 => 127 | 51 => 128 | 20 => 20 | 213 => 129 | 46 => 131 | 232 => 134 | 233 => 135 | n => n, fun | 17 => 0 | 18 => 1 | 19 => 2 | n => n⟩
theorem sh_laysM171 : Go.Proofs.LaysM.n171 Tryz.prog sh_laysM171_ren := {
  mixed := by kernel_rfl
  f129 := Tryz.func89.trans (congrArg some (by kernel_rfl))
  f171 := Tryz.func69.trans (congrArg some (by kernel_rfl))
  f243 := Tryz.func77.trans (congrArg some (by kernel_rfl))
  f246 := Tryz.func83.trans (congrArg some (by kernel_rfl))
  f283 := Tryz.func84.trans (congrArg some (by kernel_rfl))
  f284 := Tryz.func85.trans (congrArg some (by kernel_rfl))
  f285 := Tryz.func86.trans (congrArg some (by kernel_rfl))
  f286 := Tryz.func87.trans (congrArg some (by kernel_rfl))
  f317 := Tryz.func88.trans (congrArg some (by kernel_rfl))
  f318 := Tryz.func90.trans (congrArg some (by kernel_rfl))
  f319 := Tryz.func91.trans (congrArg some (by kernel_rfl))
  f320 := Tryz.func92.trans (congrArg some (by kernel_rfl))
  f337 := Tryz.func93.trans (congrArg some (by kernel_rfl))
  f338 := Tryz.func94.trans (congrArg some (by kernel_rfl))
  t0 := Tryz.underlying0
  a0 := Tryz.isAgg0
  z0 := Tryz.sizeOf0
  v0 := Tryz.zeroValue0
  t2 := Tryz.underlying2
  a2 := Tryz.isAgg2
  z2 := Tryz.sizeOf2
  v2 := Tryz.zeroValue2
  t3 := Tryz.underlying3
  a3 := Tryz.isAgg3
  z3 := Tryz.sizeOf3
  v3 := Tryz.zeroValue3
  t4 := Tryz.underlying4
  a4 := Tryz.isAgg4
  z4 := Tryz.sizeOf4
  v4 := Tryz.zeroValue4
  t5 := Tryz.underlying5
  a5 := Tryz.isAgg5
  z5 := Tryz.sizeOf5
  v5 := Tryz.zeroValue5
  t9 := Tryz.underlying9
  a9 := Tryz.isAgg9
  z9 := Tryz.sizeOf9
  v9 := Tryz.zeroValue9
  t20 := Tryz.underlying20
  a20 := Tryz.isAgg20
  z20 := Tryz.sizeOf20
  v20 := Tryz.zeroValue20
  t37 := Tryz.underlying90
  a37 := Tryz.isAgg90
  z37 := Tryz.sizeOf90
  v37 := Tryz.zeroValue90
  t46 := Tryz.underlying131
  a46 := Tryz.isAgg131
  z46 := Tryz.sizeOf131
  v46 := Tryz.zeroValue131
  t51 := Tryz.underlying128
  a51 := Tryz.isAgg128
  z51 := Tryz.sizeOf128
  v51 := Tryz.zeroValue128
  t53 := Tryz.underlying120
  a53 := Tryz.isAgg120
  z53 := Tryz.sizeOf120
  v53 := Tryz.zeroValue120
  t171 := Tryz.underlying119
  a171 := Tryz.isAgg119
  z171 := Tryz.sizeOf119
  v171 := Tryz.zeroValue119
  t173 := Tryz.underlying123
  a173 := Tryz.isAgg123
  z173 := Tryz.sizeOf123
  v173 := Tryz.zeroValue123
  t212 := Tryz.underlying127
  a212 := Tryz.isAgg127
  z212 := Tryz.sizeOf127
  v212 := Tryz.zeroValue127
  t213 := Tryz.underlying129
  a213 := Tryz.isAgg129
  z213 := Tryz.sizeOf129
  t232 := Tryz.underlying134
  a232 := Tryz.isAgg134
  z232 := Tryz.sizeOf134
  v232 := Tryz.zeroValue134
  t233 := Tryz.underlying135
  a233 := Tryz.isAgg135
  z233 := Tryz.sizeOf135
  v233 := Tryz.zeroValue135
  g17 := by kernel_rfl
  g18 := by kernel_rfl
  g19 := by kernel_rfl
  i0 := by kernel_rfl
  i2 := by kernel_rfl
  i3 := by kernel_rfl
  i4 := by kernel_rfl
  i5 := by kernel_rfl
  i9 := by kernel_rfl
  i20 := by kernel_rfl
  i37 := by kernel_rfl
  i46 := by kernel_rfl
  i51 := by kernel_rfl
  i53 := by kernel_rfl
  i171 := by kernel_rfl
  i173 := by kernel_rfl
  i212 := by kernel_rfl
  i232 := by kernel_rfl
  i233 := by kernel_rfl
  m17 := by kernel_rfl
  m18 := by kernel_rfl
  m19 := by kernel_rfl }
open Go.RowKit Go.Sort Go.Lib in
theorem sh_strconv_Itoa (n : Int) (h0 : -9223372036854775808 ≤ n) (h1 : n ≤ 9223372036854775807) (w : World) (htab : Lib.TabIs Tryz.prog w "internal/strconv.uint64pow10" .u64 Lib.pow10Tab) :
    Calls Tryz.prog 69 #[.int .i64 n] w fun e w' => e = .returned (.string ⟨(Lib.itoa n).toArray⟩) ∧ ∃ k os, w' = grow (w.drewN k) os := Any.strconv_Itoa sh_laysM171 n h0 h1 w htab
end Go.Proofs.YtmhmlkdoaojimapGreatDoor

/- The library's decimal numeral is decI; the code's Decimal. -/
namespace Go.Proofs.YtmhmlkdoaojimapGreatDoor
open Go.RowKit

theorem lib_digits (n : Nat) : Lib.decDigits n = decB n := by
  induction n using Nat.strongRecOn with
  | ind n ih =>
    rw [Lib.decDigits]
    by_cases h : n < 10
    · rw [dif_pos h]
      unfold decB
      by_cases h0 : n = 0
      · subst h0; rfl
      · rw [if_neg h0, decR_pos (by omega), show n / 10 = 0 by omega, decR_zero, show n % 10 = n by omega, fig, if_pos h]
        rfl
    · rw [dif_neg h, ih (n / 10) (by omega), decB, if_neg (by omega), decB, if_neg (by omega), decR_pos (show 0 < n by omega)]
      congr 2
      rw [fig, if_pos (by omega)]

theorem lib_itoa (n : Int) : Lib.itoa n = decI n := by
  unfold Lib.itoa decI
  split
  · rename_i h
    rw [lib_digits, decB, if_neg (by omega)]
  · rw [lib_digits]

theorem below_grow (w : World) (k : Nat) (os : Array Obj) : Below w.heap.size w (Go.Sort.grow (w.drewN k) os) :=
  ⟨rfl, rfl, rfl, by simp [Go.Sort.grow], fun j hj => by
    have hj' : j < w.heap.size := hj
    show (w.heap ++ os)[j]? = w.heap[j]?
    rw [Array.getElem?_append_left hj']⟩

theorem impl_any (n : Int) (w : World) (h0 : -9223372036854775808 ≤ n) (h1 : n ≤ 9223372036854775807) (htab : Lib.TabIs Tryz.prog w "internal/strconv.uint64pow10" .u64 Lib.pow10Tab) :
    Calls Tryz.prog 61 #[.int .i64 n] w fun e w' => e = .returned (.string ⟨(decI n).toArray⟩) ∧ Below w.heap.size w w' := by
  rw [← lib_itoa]
  have HT : Hid _ := htab
  clear htab
  go_enter Tryz.func61, Tryz.ntmps61
  go_wp2_with (go_at_call 69; refine (sh_strconv_Itoa _ h0 h1 _ HT.out).mono ?_; rintro e w' ⟨rfl, k, os, rfl⟩)
  go_ret
  exact ⟨rfl, below_grow _ _ _⟩
end Go.Proofs.YtmhmlkdoaojimapGreatDoor

/- The table of powers of ten stays. -/
namespace Go.Proofs.YtmhmlkdoaojimapGreatDoor
open Go.RowKit

theorem gPowT : Tryz.prog.globalNamed "internal/strconv.uint64pow10" = some 0 := by kernel_rfl
theorem powT_lt {w : World} (h : Lib.TabIs Tryz.prog w "internal/strconv.uint64pow10" .u64 Lib.pow10Tab) : 0 < w.heap.size := by
  unfold Lib.TabIs World.var? at h
  rw [gPowT, Option.bind_some] at h
  cases hb : w.heap[0]? with
  | none => rw [hb] at h; cases h
  | some o => exact (Array.getElem?_eq_some_iff.1 hb).1
theorem pow_keep {w w' : World} (h : Lib.TabIs Tryz.prog w "internal/strconv.uint64pow10" .u64 Lib.pow10Tab) (hb : Below w.heap.size w w') : Lib.TabIs Tryz.prog w' "internal/strconv.uint64pow10" .u64 Lib.pow10Tab :=
  var?_below hb gPowT (powT_lt h) h
end Go.Proofs.YtmhmlkdoaojimapGreatDoor

/- impl.PredOf. -/
namespace Go.Proofs.YtmhmlkdoaojimapGreatDoor
open Go.RowKit

set_option maxHeartbeats 2000000 in
theorem i_pred (t : Tm) (w : World) (v : Value) (hin : TmIn w t v) (hwt : t.wt ≤ 1048576) (htab : Lib.TabIs Tryz.prog w "internal/strconv.uint64pow10" .u64 Lib.pow10Tab) :
    Calls Tryz.prog 53 #[v] w fun e w' => e = .returned (.string (predB t)) ∧ Below w.heap.size w w' := by
  obtain ⟨k, s, n, ks⟩ := t
  unfold TmIn at hin
  obtain ⟨ao, cap, rfl, hk, hn, hs, hlc, hcm, _⟩ := hin
  unfold Tm.wt at hwt
  have hkl : (ks.length : Int) ≤ 1048576 := by omega
  have hss : s.size ≤ 1048576 := by omega
  obtain ⟨W, hW⟩ : ∃ W, W = w.alloc (.cells #[.int .i64 k, .string s, .int .i64 n, .slice ao ks.length cap] 41) := ⟨_, rfl⟩
  have bW : Below w.heap.size w W := by rw [hW]; exact (Below.refl _ _).alloc (Nat.le_refl _) _
  have HBW : Hid (Below w.heap.size w W) := bW
  have HT : Hid (∀ w1, Below w.heap.size w w1 → Lib.TabIs Tryz.prog w1 "internal/strconv.uint64pow10" .u64 Lib.pow10Tab) := fun w1 hb => pow_keep htab hb
  clear htab
  have HD : Hid (∀ w1, Below W.heap.size W w1 → Calls Tryz.prog 61 #[.int .i64 (ks.length : Int)] w1 fun e w' => e = .returned (.string ⟨(decI (ks.length : Int)).toArray⟩) ∧ Below w1.heap.size w1 w') := fun w1 hb => impl_any _ w1 (by omega) (by omega) (HT.out _ (bW.trans (hb.mono bW.size)))
  by_cases hkk : k = 2 ∨ k = 4
  · have HV : Hid (predB (.mk k s n ks) = s ++ ⟨#[47]⟩ ++ ⟨(decI (ks.length : Int)).toArray⟩) := by show _ = _; show (if k = 2 ∨ k = 4 then _ else _) = _; rw [if_pos hkk]
    obtain ⟨KL, hKL⟩ : ∃ KL, KL = ks.length := ⟨_, rfl⟩
    rw [← hKL] at hW HD HV hkl ⊢
    obtain ⟨D, hD⟩ : ∃ D : ByteArray, D = ⟨(decI (KL : Int)).toArray⟩ := ⟨_, rfl⟩
    have hDl : D.size ≤ 11 := by
      rw [hD]
      show (decI (KL : Int)).toArray.size ≤ 11
      rw [List.size_toArray]
      exact decI_le _ (by omega)
    rw [← hD] at HD HV
    have hadd1 : ∀ u, (Op.stringOp .add s ⟨#[47]⟩).run Tryz.prog u = .ok (.string (s ++ ⟨#[47]⟩)) u := fun u => run_string_add_sum u _ _ (by show _ + 1 ≤ _; omega)
    have hadd2 : ∀ u, (Op.stringOp .add (s ++ ⟨#[47]⟩) D).run Tryz.prog u = .ok (.string (s ++ ⟨#[47]⟩ ++ D)) u := fun u => run_string_add_sum u _ _ (by rw [ByteArray.size_append]; show _ + 1 + _ ≤ _; omega)
    have k0 : W.heap[w.heap.size]? = some (.cells #[.int .i64 k, .string s, .int .i64 n, .slice ao KL cap] 41 (0, 0)) := by rw [hW]; exact heap_alloc_new _ _
    have HK : Hid _ := k0
    rcases hkk with rfl | rfl
    all_goals
      clear hD hDl hKL bW k0 hlc hcm hs hk hn
      go_enter Tryz.func53, Tryz.ntmps53
      go_upto_region 3 with fail
      try rw [← hW]
      obtain ⟨c0, c1, c2, c3, _⟩ := blk4 HK.out
      clear hW
      have z1 := fun u => cell_keep c1 (later_below W u)
      have z3 := fun u => cell_keep c3 (later_below W u)
      have HC : Hid (∀ u, Calls Tryz.prog 61 #[.int .i64 (KL : Int)] (later W u) fun e w' => e = .returned (.string D) ∧ ∃ u', w' = later W u') := fun u => Calls.later_of_below (HD.out _ (later_below W u))
      clear c0 c1 c2 c3
      refine wp_region_later (by kernel_rfl) (by kernel_rfl) ?_
      repeat (go_big_quiet_step ((go_at_call 61; exact HC.out _)))
      refine wpQuiet_nil ?_
      rintro _ ⟨u3, rfl⟩
      go_wp2
      go_ret
      exact ⟨by rw [HV.out]; rfl, HBW.out.trans ((later_below W u3).mono HBW.out.size)⟩
  · have HV : Hid (predB (.mk k s n ks) = ⟨#[]⟩) := by show (if k = 2 ∨ k = 4 then _ else _) = _; rw [if_neg hkk]
    have e2 : ¬ k = 2 := fun h => hkk (Or.inl h)
    have e4 : ¬ k = 4 := fun h => hkk (Or.inr h)
    have b2 : (k != 2) = true := bne_iff_ne.2 e2
    have b4 : (k != 4) = true := bne_iff_ne.2 e4
    clear hkk hlc hcm hs hk hn
    go_enter Tryz.func53, Tryz.ntmps53
    go_wp2
    go_ret
    exact ⟨by rw [HV.out]; rfl, by rw [← hW]; exact HBW.out⟩
end Go.Proofs.YtmhmlkdoaojimapGreatDoor

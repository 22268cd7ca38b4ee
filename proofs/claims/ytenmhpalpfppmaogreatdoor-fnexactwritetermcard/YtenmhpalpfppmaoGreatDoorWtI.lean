/- The code's writing: isPair, infixText, writtenAtom, parted. -/
import Derived.Test.YtenmhpalpfppmaoGreatDoorWtV
import Derived.Test.YtenmhpalpfppmaoGreatDoorOpI
import Derived.Test.YtenmhpalpfppmaoGreatDoorNoneI
import Derived.Test.YtenmhpalpfppmaoGreatDoorMrg6
import Derived.Laws.MakeOwn
namespace Go.Proofs.YtenmhpalpfppmaoGreatDoor
open Go.RowKit

/-- the tables that writing reads -/
structure TabsW (w : World) : Prop where
  utf : Lib.Utf8Tabs 3 4 w
  pow : Lib.TabIs Tryz.prog w "internal/strconv.uint64pow10" .u64 Lib.pow10Tab
theorem gPow : Tryz.prog.globalNamed "internal/strconv.uint64pow10" = some 0 := by kernel_rfl
theorem pow_lt {w : World} (h : Lib.TabIs Tryz.prog w "internal/strconv.uint64pow10" .u64 Lib.pow10Tab) : 0 < w.heap.size := by
  unfold Lib.TabIs World.var? at h
  rw [gPow, Option.bind_some] at h
  cases hb : w.heap[0]? with
  | none => rw [hb] at h; cases h
  | some o => exact (Array.getElem?_eq_some_iff.1 hb).1
theorem TabsW.keep {w w' : World} (h : TabsW w) (hb : Below w.heap.size w w') : TabsW w' :=
  ⟨tabs_keep h.utf hb, var?_below hb gPow (pow_lt h.pow) h.pow⟩

theorem isSB_pair (k : Int) (s : ByteArray) (l : Nat) : isSB k s l ⟨#[46]⟩ 2 = isPairB k s l := by
  unfold isSB isPairB
  congr 1
  exact decide_eq_decide.2 (by omega)
theorem i_pair (k : Int) (s : ByteArray) (n : Int) (ao : Option Addr) (l cap : Nat) (w : World) (_ : l ≤ maxLen) :
    Calls Tryz.prog 42 #[.agg #[.int .i64 k, .string s, .int .i64 n, .slice ao l cap]] w fun e w' => e = .returned (.bool (isPairB k s l)) ∧ Below w.heap.size w w' := by
  rw [← isSB_pair]
  exact i_pairS k s n ao l cap w

set_option maxHeartbeats 1000000 in
theorem i_infixText (s : ByteArray) (w : World) (hs : s.size ≤ 20) (hT : TabsW w) :
    Calls Tryz.prog 44 #[.string s] w fun e w' => e = .returned (.string ⟨(signL s).toArray⟩) ∧ Below w.heap.size w w' := by
  by_cases hc : s = ⟨#[44]⟩
  · subst hc
    have HT : Hid _ := tog_any [[44]] w.heap.size 0 1 1 _ rfl (txt1 w [44]) (Nat.le_refl _) (by decide) (by decide)
    have HB : Hid (Below w.heap.size w (w.alloc (.cells #[.string ⟨#[44]⟩] 9))) := (Below.refl _ _).alloc (Nat.le_refl _) _
    clear hT hs
    go_enter Tryz.func44, Tryz.ntmps44
    go_wp2_with (go_at_call 26; refine (Calls.mono HT.out ?_); rintro e w2 ⟨rfl, b2⟩; have B2 : Hid (Below w.heap.size w w2) := HB.out.trans (b2.mono HB.out.size); clear b2)
    go_ret
    exact ⟨rfl, B2.out⟩
  · have HA : Hid _ := i_atom s w (by omega) hT.utf
    rw [show signL s = atomL s by unfold signL; rw [if_neg (by intro e; apply hc; apply ByteArray.ext; exact Array.toList_inj.1 e)]]
    have hc' := toL_ne (l := [44]) hc
    clear hc hT hs
    go_enter Tryz.func44, Tryz.ntmps44
    go_wp2_with (go_at_call 41; refine (Calls.mono HA.out ?_); rintro e w2 ⟨rfl, b2⟩; have B2 : Hid (Below w.heap.size w w2) := b2; clear b2)
    go_ret
    exact ⟨rfl, B2.out⟩

set_option maxHeartbeats 2000000 in
theorem i_writtenAtom (s : ByteArray) (w : World) (hs : s.size ≤ 20) (hT : TabsW w) :
    Calls Tryz.prog 28 #[.string s] w fun e w' => e = .returned (.string ⟨(wrAtom s).toArray⟩) ∧ Below w.heap.size w w' := by
  obtain ⟨a0, a1, a2, a3, ea⟩ := opV_agg (infixP s)
  obtain ⟨b0, b1, b2, b3, eb⟩ := opV_agg (prefixP s)
  have HI : Hid (∀ w, Calls Tryz.prog 39 #[.string s] w fun e w' => e = .returned (.tuple #[opV (infixP s), .bool (infixP s).isSome]) ∧ Below w.heap.size w w') := fun w => i_infix s w (by omega)
  have HP : Hid (∀ w, Calls Tryz.prog 40 #[.string s] w fun e w' => e = .returned (.tuple #[opV (prefixP s), .bool (prefixP s).isSome]) ∧ Below w.heap.size w w') := fun w => i_prefix s w (by omega)
  rw [ea] at HI
  rw [eb] at HP
  have HA : Hid (∀ w', Below w.heap.size w w' → Calls Tryz.prog 41 #[.string s] w' fun e w2 => e = .returned (.string ⟨(atomL s).toArray⟩) ∧ Below w'.heap.size w' w2) := fun w' hb => i_atom s w' (by omega) (hT.keep hb).utf
  have HW : Hid (wrAtom s = if s = cNone then [91, 93] else if isOpB s then 40 :: (atomL s ++ [41]) else atomL s) := rfl
  have HOP : Hid (isOpB s = ((infixP s).isSome || (prefixP s).isSome)) := rfl
  have hal := atomL_len s
  generalize (infixP s).isSome = x at *
  generalize (prefixP s).isSome = y at *
  clear ea eb hT
  by_cases hn : s = ⟨#[91, 93]⟩
  · subst hn
    clear HOP hal hs
    go_enter Tryz.func28, Tryz.ntmps28
    go_upto_region 3 with (first
      | (go_at_call 39; refine (Calls.mono (HI.out _) ?_); rintro e w1 ⟨rfl, b1⟩; have B1 : Hid (Below w.heap.size w w1) := b1; clear b1)
      | (go_at_call 40; refine (Calls.mono (HP.out _) ?_); rintro e w2 ⟨rfl, b2⟩; have B2 : Hid (Below w.heap.size w w2) := (B1.out.alloc B1.out.size _).trans (b2.mono (by have := B1.out.size; simp; omega)); clear b2))
    obtain ⟨V, hV⟩ : ∃ V, V = w2.alloc (.cells #[.string b0, .int .i64 b1, .int .i64 b2, .int .i64 b3] 44) := ⟨_, rfl⟩
    have BV : Hid (Below w.heap.size w V) := by rw [hV]; exact B2.out.alloc B2.out.size _
    rw [← hV]
    have HT : Hid _ := tog_any [[91, 93]] V.heap.size 0 1 1 _ rfl (txt1 V [91, 93]) (Nat.le_refl _) (by decide) (by decide)
    clear hV
    go_wp2_with (go_at_call 26; refine (Calls.mono HT.out ?_); rintro e w4 ⟨rfl, b4⟩; have B4 : Hid (Below w.heap.size w w4) := (BV.out.alloc BV.out.size _).trans (b4.mono (by have := BV.out.size; simp; omega)); clear b4)
    go_ret
    exact ⟨rfl, B4.out⟩
  · have hn' := toL_ne (l := [91, 93]) hn
    have HN : Hid (¬ s = cNone) := hn
    have HAL : Hid ((atomL s).length ≤ 22) := by show _ ≤ _; omega
    clear hal hs hn
    obtain ⟨A, hA⟩ : ∃ A, A = atomL s := ⟨_, rfl⟩
    rw [← hA] at HA HW HAL
    clear hA
    cases x <;> cases y
    all_goals
      go_enter Tryz.func28, Tryz.ntmps28
      go_upto_region 3 with (first
        | (go_at_call 39; refine (Calls.mono (HI.out _) ?_); rintro e w1 ⟨rfl, b1⟩; have B1 : Hid (Below w.heap.size w w1) := b1; clear b1)
        | (go_at_call 40; refine (Calls.mono (HP.out _) ?_); rintro e w2 ⟨rfl, b2⟩; have B2 : Hid (Below w.heap.size w w2) := (B1.out.alloc B1.out.size _).trans (b2.mono (by have := B1.out.size; simp; omega)); clear b2))
      obtain ⟨V, hV⟩ : ∃ V, V = w2.alloc (.cells #[.string b0, .int .i64 b1, .int .i64 b2, .int .i64 b3] 44) := ⟨_, rfl⟩
      have BV : Hid (Below w.heap.size w V) := by rw [hV]; exact B2.out.alloc B2.out.size _
      rw [← hV]
      have HAV : Hid _ := HA.out V BV.out
      clear hV
    · rw [if_neg HN.out, if_neg (by rw [HOP.out]; decide)] at HW
      go_wp2_with (go_at_call 41; refine (Calls.mono HAV.out ?_); rintro e w4 ⟨rfl, b4⟩; have B4 : Hid (Below w.heap.size w w4) := BV.out.trans (b4.mono BV.out.size); clear b4)
      go_ret
      exact ⟨by rw [HW.out]; rfl, B4.out⟩
    all_goals
      rw [if_neg HN.out, if_pos (by rw [HOP.out]; decide)] at HW
      have HTG : Hid _ := tog3 [40] A [41] (by have := HAL.out; simp only [List.length_cons, List.length_nil]; omega)
      go_wp2_with (first
        | (go_at_call 41; refine (Calls.mono HAV.out ?_); rintro e w4 ⟨rfl, b4⟩; have B4 : Hid (Below w.heap.size w w4) := BV.out.trans (b4.mono BV.out.size); clear b4)
        | (go_at_call 26; refine (Calls.mono (HTG.out _) ?_); rintro e w5 ⟨rfl, b5⟩; have B5 : Hid (Below w.heap.size w w5) := B4.out.trans (b5.mono B4.out.size); clear b5))
      go_ret
      exact ⟨by rw [HW.out]; simp, B5.out⟩
end Go.Proofs.YtenmhpalpfppmaoGreatDoor

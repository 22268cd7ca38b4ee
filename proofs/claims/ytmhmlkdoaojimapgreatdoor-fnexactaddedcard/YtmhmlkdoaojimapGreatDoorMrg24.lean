/- Four texts in one. -/
import Derived.Test.YtmhmlkdoaojimapGreatDoorRows
import Derived.Test.YtmhmlkdoaojimapGreatDoorMrg14
import Derived.Test.YtmhmlkdoaojimapGreatDoorMrg23
import Derived.Deep.RegionWith
import Derived.Deep.DeepCutAuto
import Derived.Laws.Concat
import Derived.Test.YtmhmlkdoaojimapGreatDoorMrg2
import Derived.Test.YtmhmlkdoaojimapGreatDoorMrg3
import Derived.ProofKit
import Derived.Test.YtmhmlkdoaojimapGreatDoorMrg11
import Derived.WalkKit
import Derived.Test.YtmhmlkdoaojimapGreatDoorMrg1
import Derived.Test.YtmhmlkdoaojimapGreatDoorMrg9
/- spec.PredOf. -/
namespace Go.Proofs.YtmhmlkdoaojimapGreatDoor
open Go.RowKit

set_option maxHeartbeats 2000000 in
theorem c_pred (t : Tm) (w : World) (v : Value) (hin : TmIn w t v) (hwt : t.wt ≤ 1048576) :
    Calls Tryz.prog 66 #[v] w fun e w' => e = .returned (.string (predB t)) ∧ Below w.heap.size w w' := by
  obtain ⟨k, s, n, ks⟩ := t
  unfold TmIn at hin
  obtain ⟨ao, cap, rfl, hk, hn, hs, hlc, hcm, _⟩ := hin
  unfold Tm.wt at hwt
  have hkl : (ks.length : Int) ≤ 1048576 := by omega
  have hss : s.size ≤ 1048576 := by omega
  obtain ⟨W, hW⟩ : ∃ W, W = w.alloc (.cells #[.int .i64 k, .string s, .int .i64 n, .slice ao ks.length cap] 41) := ⟨_, rfl⟩
  have bW : Below w.heap.size w W := by rw [hW]; exact (Below.refl _ _).alloc (Nat.le_refl _) _
  have HBW : Hid (Below w.heap.size w W) := bW
  have HD : Hid (∀ w1, Below W.heap.size W w1 → Calls Tryz.prog 76 #[.int .i64 (ks.length : Int)] w1 fun e w' => e = .returned (.string ⟨(decI (ks.length : Int)).toArray⟩) ∧ Below w1.heap.size w1 w') := fun w1 hb => dec_any _ w1 (by omega) (by omega)
  by_cases hkk : k = 2 ∨ k = 4
  · have HV : Hid (predB (.mk k s n ks) = s ++ ⟨#[47]⟩ ++ ⟨(decI (ks.length : Int)).toArray⟩) := by show _ = _; show (if k = 2 ∨ k = 4 then _ else _) = _; rw [if_pos hkk]
    obtain ⟨KL, hKL⟩ : ∃ KL, KL = ks.length := ⟨_, rfl⟩
    rw [← hKL] at hW HD HV hkl ⊢
    obtain ⟨D, hD⟩ : ∃ D : ByteArray, D = ⟨(decI (KL : Int)).toArray⟩ := ⟨_, rfl⟩
    have hDl : D.size ≤ 11 := by
      rw [hD]
      show (decI (KL : Int)).toArray.size ≤ 11
      rw [List.size_toArray]
      exact decI_le _ (by omega)
    rw [← hD] at HD HV
    have hadd1 : ∀ u, (Op.stringOp .add s ⟨#[47]⟩).run Tryz.prog u = .ok (.string (s ++ ⟨#[47]⟩)) u := fun u => run_string_add_sum u _ _ (by show _ + 1 ≤ _; omega)
    have hadd2 : ∀ u, (Op.stringOp .add (s ++ ⟨#[47]⟩) D).run Tryz.prog u = .ok (.string (s ++ ⟨#[47]⟩ ++ D)) u := fun u => run_string_add_sum u _ _ (by rw [ByteArray.size_append]; show _ + 1 + _ ≤ _; omega)
    have k0 : W.heap[w.heap.size]? = some (.cells #[.int .i64 k, .string s, .int .i64 n, .slice ao KL cap] 41 (0, 0)) := by rw [hW]; exact heap_alloc_new _ _
    have HK : Hid _ := k0
    rcases hkk with rfl | rfl
    all_goals
      clear hD hDl hKL bW k0 hlc hcm hs hk hn
      go_enter Tryz.func66, Tryz.ntmps66
      go_upto_region 3 with fail
      try rw [← hW]
      obtain ⟨c0, c1, c2, c3, _⟩ := blk4 HK.out
      clear hW
      have z1 := fun u => cell_keep c1 (later_below W u)
      have z3 := fun u => cell_keep c3 (later_below W u)
      have HC : Hid (∀ u, Calls Tryz.prog 76 #[.int .i64 (KL : Int)] (later W u) fun e w' => e = .returned (.string D) ∧ ∃ u', w' = later W u') := fun u => Calls.later_of_below (HD.out _ (later_below W u))
      clear c0 c1 c2 c3
      refine wp_region_later (by kernel_rfl) (by kernel_rfl) ?_
      repeat (go_big_quiet_step ((go_at_call 76; exact HC.out _)))
      refine wpQuiet_nil ?_
      rintro _ ⟨u3, rfl⟩
      go_wp2
      go_ret
      exact ⟨by rw [HV.out]; rfl, HBW.out.trans ((later_below W u3).mono HBW.out.size)⟩
  · have HV : Hid (predB (.mk k s n ks) = ⟨#[]⟩) := by show (if k = 2 ∨ k = 4 then _ else _) = _; rw [if_neg hkk]
    have e2 : ¬ k = 2 := fun h => hkk (Or.inl h)
    have e4 : ¬ k = 4 := fun h => hkk (Or.inr h)
    have b2 : (k != 2) = true := bne_iff_ne.2 e2
    have b4 : (k != 4) = true := bne_iff_ne.2 e4
    clear hkk hlc hcm hs hk hn
    go_enter Tryz.func66, Tryz.ntmps66
    go_wp2
    go_ret
    exact ⟨by rw [HV.out]; rfl, by rw [← hW]; exact HBW.out⟩
end Go.Proofs.YtmhmlkdoaojimapGreatDoor

/- spec.l08Head. -/
namespace Go.Proofs.YtmhmlkdoaojimapGreatDoor
open Go.RowKit

set_option maxHeartbeats 1000000 in
theorem s_head (t : Tm) (w : World) (v : Value) (hin : TmIn w t v) (hwt : t.wt ≤ 1048576) :
    Calls Tryz.prog 59 #[v] w fun e w' => e = .returned (.bool (mayB (predB t))) ∧ Below w.heap.size w w' := by
  obtain ⟨k, s, n, ao, len, cap, rfl⟩ := tm_shape hin
  have HBW : Hid (Below w.heap.size w (w.alloc (.cells #[.int .i64 k, .string s, .int .i64 n, .slice ao len cap] 41))) := (Below.refl _ _).alloc (Nat.le_refl _) _
  have HP0 := c_pred t _ _ (TmIn.keep HBW.out _ _ hin) hwt
  obtain ⟨p, hp⟩ : ∃ p, p = predB t := ⟨_, rfl⟩
  rw [← hp] at HP0 ⊢
  have HP : Hid _ := HP0
  have HC : Hid (∀ w, Calls Tryz.prog 67 #[.string p] w fun e w' => e = .returned (.bool (ctlB p)) ∧ Below w.heap.size w w') := fun w => c_control p w
  obtain ⟨r, hr⟩ : ∃ r, r = mayB p := ⟨_, rfl⟩
  have HV : Hid (r = mayB p) := hr
  rw [← hr]
  clear hr HP0 hin hwt hp
  by_cases h : p = ⟨#[]⟩
  · subst h
    go_enter Tryz.func59, Tryz.ntmps59
    go_wp2_with (go_at_call 66; refine (Calls.mono HP.out ?_); rintro e w1 ⟨rfl, hb⟩; have HB : Hid (Below w.heap.size w w1) := HBW.out.trans (hb.mono HBW.out.size); clear hb)
    go_ret
    exact ⟨by rw [HV.out]; rfl, HB.out⟩
  · have h1 : ¬ p.toList = [] := fun e => h (by rw [ByteArray.toList_eq] at e; exact ByteArray.ext (Array.toList_inj.1 e))
    have HE : Hid (p.toList.isEmpty = false) := by show _ = _; cases hp : p.toList with | nil => exact absurd hp h1 | cons _ _ => rfl
    have HX : Hid (mayB p = !ctlB p) := by show _ = _; unfold mayB; rw [decide_eq_true h, Bool.true_and]
    clear h
    go_enter Tryz.func59, Tryz.ntmps59
    go_wp2_with (first
      | (go_at_call 66; refine (Calls.mono HP.out ?_); rintro e w1 ⟨rfl, hb⟩; have HB : Hid (Below w.heap.size w w1) := HBW.out.trans (hb.mono HBW.out.size); clear hb)
      | (go_at_call 67; refine (Calls.mono (HC.out _) ?_); rintro e w2 ⟨rfl, hb⟩; have HB2 : Hid (Below w.heap.size w w2) := HB.out.trans (hb.mono HB.out.size); clear hb))
    go_ret
    exact ⟨by rw [HV.out, HX.out]; show Ending.returned (.bool (!p.toList.isEmpty && !ctlB p)) = _; rw [HE.out]; rfl, HB2.out⟩
end Go.Proofs.YtmhmlkdoaojimapGreatDoor

/- What is left of a number of letters. Plain. -/
namespace Go.Proofs.YtmhmlkdoaojimapGreatDoor
def szR (n : Nat) (left : Nat) : Int := if n ≤ left then ((left - n : Nat) : Int) else -1
end Go.Proofs.YtmhmlkdoaojimapGreatDoor

/- How many terms a term has: the specification's count, down from a room, and SizeOf. -/
namespace Go.Proofs.YtmhmlkdoaojimapGreatDoor
open Go.RowKit

def CntOk (t : Tm) : Prop := ∀ (w : World) (v : Value) (room : Nat), TmIn w t v → room ≤ 1048576 →
  Calls Tryz.prog 64 #[v, .int .i64 (room : Int)] w fun e w' => e = .returned (.int .i64 (szR t.n room)) ∧ Below w.heap.size w w'

theorem count_term (t : Tm) : CntOk t := by
  refine tm_ind (p := CntOk) ?_ t
  clear t
  intro k s n ks hks w v room hin hroom
  unfold TmIn at hin
  obtain ⟨ao, cap, rfl, hk, hn, hs, hlen, hcap, hrow⟩ := hin
  unfold maxLen at hcap
  rw [n_mk]
  have hb0 : Below w.heap.size w (w.alloc (.cells #[.int .i64 k, .string s, .int .i64 n, .slice ao ks.length cap] 41)) := (Below.refl _ _).alloc (Nat.le_refl _) _
  have HC3 : Hid (∀ wr, Below (w.alloc (.cells #[.int .i64 k, .string s, .int .i64 n, .slice ao ks.length cap] 41)).heap.size (w.alloc (.cells #[.int .i64 k, .string s, .int .i64 n, .slice ao ks.length cap] 41)) wr → wr.cell? ⟨w.heap.size, 3, none⟩ = some (.slice ao ks.length cap)) := fun wr hb =>
    cell_keep (w := w.alloc _) (by simp) hb
  have HR : Hid (∀ wr, Below (w.alloc (.cells #[.int .i64 k, .string s, .int .i64 n, .slice ao ks.length cap] 41)).heap.size (w.alloc (.cells #[.int .i64 k, .string s, .int .i64 n, .slice ao ks.length cap] 41)) wr → ks ≠ [] → ∃ b off, ao = some ⟨b, off, none⟩ ∧ TmsIn wr ks b off) := fun wr hb h0 => by
    obtain ⟨b, off, e, hr⟩ := hrow h0
    exact ⟨b, off, e, TmsIn.keep hb ks b off (TmsIn.keep hb0 ks b off hr)⟩
  have HKS : Hid _ := hks
  replace hb0 : Hid _ := hb0
  clear hrow hks
  go_enter Tryz.func64, Tryz.ntmps64
  go_wp2
  generalize hW : w.alloc (.cells #[.int .i64 k, .string s, .int .i64 n, .slice ao ks.length cap] 41) = W at *
  go_loopw [1, 5] (fun vl vi wr => Hid (Below W.heap.size W wr) ∧ ∃ j : Nat, j ≤ ks.length ∧ vi = .int .i64 (j : Int) ∧ ((∃ l : Nat, vl = .int .i64 (l : Int) ∧ l ≤ 1048576 ∧ Hid (l + 1 + ns (ks.take j) = room)) ∨ (vl = .int .i64 (-1) ∧ Hid (szR (1 + ns ks) room = -1)))) (fun _ i _ => ks.length - (intOf i).toNat)
  case atStart =>
    refine ⟨Below.refl _ _, 0, by omega, rfl, ?_⟩
    by_cases h0 : room = 0
    · subst h0
      exact Or.inr ⟨rfl, by show _ = _; unfold szR; rw [if_neg (by omega)]⟩
    · exact Or.inl ⟨room - 1, by simp; omega, by omega, by show _ = _; simp [ns, Tm.n.ns]; omega⟩
  case round =>
    obtain ⟨HB, j, hj, rfl, hl⟩ := hrel
    have c3 := HC3.out wr HB.out
    rcases hl with ⟨l, rfl, hll, HL⟩ | ⟨rfl, HL⟩
    · by_cases hlt : j < ks.length
      · obtain ⟨b, off, rfl, hin⟩ := HR.out wr HB.out (by intro e; subst e; simp at hlt)
        obtain ⟨c0, c1, c2, c3', h0, h1, h2, h3, ht⟩ := hin.at j hlt
        have HC := HKS.out ks[j] (List.getElem_mem hlt) wr _ l ht hll
        have hw : ns (ks.take (j + 1)) = ns (ks.take j) + ks[j].n := by
          rw [List.take_succ_eq_append_getElem hlt, ns_append]; simp [ns, Tm.n.ns]
        have HW : Hid _ := hw
        clear hin ht hw HR HC3 HKS
        by_cases hfit : ks[j].n ≤ l
        · rw [show szR ks[j].n l = ((l - ks[j].n : Nat) : Int) from if_pos hfit] at HC
          replace HC : Hid _ := HC
          go_wp2_with (go_at_call 64; refine (Calls.mono HC.out ?_); rintro e w1 ⟨rfl, hb⟩; have HB1 : Hid (Below W.heap.size W w1) := HB.out.trans (hb.mono HB.out.size); clear hb)
          go_roundw
          case rel => exact ⟨HB1.out, j + 1, by omega, by go_num, Or.inl ⟨l - ks[j].n, rfl, by omega, by show _ = _; have := HL.out; have := HW.out; omega⟩⟩
          case measure => simp [intOf]; omega
        · rw [show szR ks[j].n l = -1 from if_neg hfit] at HC
          replace HC : Hid _ := HC
          have hr : szR (1 + ns ks) room = -1 := by
            have h1 := HL.out
            have h2 := HW.out
            have h3 : ns (ks.take (j + 1)) + ns (ks.drop (j + 1)) = ns ks := by rw [← ns_append, List.take_append_drop]
            unfold szR
            rw [if_neg (by omega)]
          have HRR : Hid _ := hr
          clear hr
          go_wp2_with (go_at_call 64; refine (Calls.mono HC.out ?_); rintro e w1 ⟨rfl, hb⟩; have HB1 : Hid (Below W.heap.size W w1) := HB.out.trans (hb.mono HB.out.size); clear hb)
          go_roundw
          case rel => exact ⟨HB1.out, j + 1, by omega, by go_num, Or.inr ⟨rfl, HRR.out⟩⟩
          case measure => simp [intOf]; omega
      · have hr : szR (1 + ns ks) room = (l : Int) := by
          have h1 := HL.out
          rw [List.take_of_length_le (by omega)] at h1
          unfold szR
          rw [if_pos (by omega)]
          omega
        have HRR : Hid _ := hr
        clear hr HR HC3 HKS
        go_wp2
        go_ret
        exact ⟨by rw [HRR.out]; rfl, hb0.out.trans (HB.out.mono hb0.out.size)⟩
    · clear HR HC3 HKS
      by_cases hlt : j < ks.length
      · go_wp2
        go_ret
        exact ⟨by rw [HL.out]; rfl, hb0.out.trans (HB.out.mono hb0.out.size)⟩
      · go_wp2
        go_ret
        exact ⟨by rw [HL.out]; rfl, hb0.out.trans (HB.out.mono hb0.out.size)⟩

end Go.Proofs.YtmhmlkdoaojimapGreatDoor

/- Four texts in one. -/
import Derived.Test.YtenmhpalpfppmaoDoorMrg4
import Derived.Test.YtenmhpalpfppmaoDoorMrg6
import Derived.Test.YtenmhpalpfppmaoDoorMrg3
import Derived.Test.YtenmhpalpfppmaoDoorRows
import Derived.Below
import Derived.ProofKit
import Derived.WalkKit
import Derived.Test.YtenmhpalpfppmaoDoorMrg2
/- spec.l08Head. -/
namespace Go.Proofs.YtenmhpalpfppmaoDoor
open Go.RowKit

set_option maxHeartbeats 1000000 in
theorem s_head (t : Tm) (w : World) (v : Value) (hin : TmIn w t v) (hwt : t.wt ≤ 1048576) :
    Calls Tryd.prog 46 #[v] w fun e w' => e = .returned (.bool (mayB (predB t))) ∧ Below w.heap.size w w' := by
  obtain ⟨k, s, n, ao, len, cap, rfl⟩ := tm_shape hin
  have HBW : Hid (Below w.heap.size w (w.alloc (.cells #[.int .i64 k, .string s, .int .i64 n, .slice ao len cap] 31))) := (Below.refl _ _).alloc (Nat.le_refl _) _
  have HP0 := c_pred t _ _ (TmIn.keep HBW.out _ _ hin) hwt
  obtain ⟨p, hp⟩ : ∃ p, p = predB t := ⟨_, rfl⟩
  rw [← hp] at HP0 ⊢
  have HP : Hid _ := HP0
  have HC : Hid (∀ w, Calls Tryd.prog 70 #[.string p] w fun e w' => e = .returned (.bool (ctlB p)) ∧ Below w.heap.size w w') := fun w => c_control p w
  obtain ⟨r, hr⟩ : ∃ r, r = mayB p := ⟨_, rfl⟩
  have HV : Hid (r = mayB p) := hr
  rw [← hr]
  clear hr HP0 hin hwt hp
  by_cases h : p = ⟨#[]⟩
  · subst h
    go_enter Tryd.func46, Tryd.ntmps46
    go_wp2_with (go_at_call 9; refine (Calls.mono HP.out ?_); rintro e w1 ⟨rfl, hb⟩; have HB : Hid (Below w.heap.size w w1) := HBW.out.trans (hb.mono HBW.out.size); clear hb)
    go_ret
    exact ⟨by rw [HV.out]; rfl, HB.out⟩
  · have h1 : ¬ p.toList = [] := fun e => h (by rw [ByteArray.toList_eq] at e; exact ByteArray.ext (Array.toList_inj.1 e))
    have HE : Hid (p.toList.isEmpty = false) := by show _ = _; cases hp : p.toList with | nil => exact absurd hp h1 | cons _ _ => rfl
    have HX : Hid (mayB p = !ctlB p) := by show _ = _; unfold mayB; rw [decide_eq_true h, Bool.true_and]
    clear h
    go_enter Tryd.func46, Tryd.ntmps46
    go_wp2_with (first
      | (go_at_call 9; refine (Calls.mono HP.out ?_); rintro e w1 ⟨rfl, hb⟩; have HB : Hid (Below w.heap.size w w1) := HBW.out.trans (hb.mono HBW.out.size); clear hb)
      | (go_at_call 70; refine (Calls.mono (HC.out _) ?_); rintro e w2 ⟨rfl, hb⟩; have HB2 : Hid (Below w.heap.size w w2) := HB.out.trans (hb.mono HB.out.size); clear hb))
    go_ret
    exact ⟨by rw [HV.out, HX.out]; show Ending.returned (.bool (!p.toList.isEmpty && !ctlB p)) = _; rw [HE.out]; rfl, HB2.out⟩
end Go.Proofs.YtenmhpalpfppmaoDoor

/- spec.l03Is: a struct of a name, with so many kids. -/
namespace Go.Proofs.YtenmhpalpfppmaoDoor
open Go.RowKit

theorem toL_neq_s_isS {a b : ByteArray} (h : ¬ a = b) : (a.toList == b.toList) = false := by
  rw [beq_eq_false_iff_ne]
  intro e
  apply h
  rw [ByteArray.toList_eq, ByteArray.toList_eq] at e
  exact ByteArray.ext (Array.toList_inj.1 e)
set_option maxHeartbeats 1000000 in
theorem s_isS (k : Int) (s : ByteArray) (n : Int) (ao : Option Addr) (l cap : Nat) (m : ByteArray) (c : Int) (w : World) :
    Calls Tryd.prog 45 #[.agg #[.int .i64 k, .string s, .int .i64 n, .slice ao l cap], .string m, .int .i64 c] w fun e w' => e = .returned (.bool (isSB k s l m c)) ∧ Below w.heap.size w w' := by
  have hb0 : Hid (Below w.heap.size w (w.alloc (.cells #[.int .i64 k, .string s, .int .i64 n, .slice ao l cap] 31))) := (Below.refl _ _).alloc (Nat.le_refl _) _
  obtain ⟨r, hr⟩ : ∃ r, r = isSB k s l m c := ⟨_, rfl⟩
  have HV : Hid (r = isSB k s l m c) := hr
  rw [← hr]
  clear hr
  by_cases h1 : k = 4
  · subst h1
    by_cases h2 : s = m
    · subst h2
      by_cases h3 : (l : Int) = c
      · subst h3
        have HF : Hid (isSB 4 s l s l = true) := by show _ = _; simp [isSB]
        go_enter Tryd.func45, Tryd.ntmps45
        go_wp2
        go_ret
        exact ⟨by rw [HV.out, HF.out]; first | rfl | simp, hb0.out⟩
      · have h3' : ((l : Int) == c) = false := beq_eq_false_iff_ne.2 h3
        have HF : Hid (isSB 4 s l s c = false) := by show _ = _; simp [isSB, h3]
        clear h3
        go_enter Tryd.func45, Tryd.ntmps45
        go_wp2
        go_ret
        exact ⟨by rw [HV.out, HF.out]; rfl, hb0.out⟩
    · have h2' := toL_neq_s_isS h2
      have HF : Hid (isSB 4 s l m c = false) := by show _ = _; simp [isSB, h2]
      clear h2
      go_enter Tryd.func45, Tryd.ntmps45
      go_wp2
      go_ret
      exact ⟨by rw [HV.out, HF.out]; rfl, hb0.out⟩
  · have h1' : (k == 4) = false := beq_eq_false_iff_ne.2 h1
    have HF : Hid (isSB k s l m c = false) := by show _ = _; simp [isSB, h1]
    clear h1
    go_enter Tryd.func45, Tryd.ntmps45
    go_wp2
    go_ret
    exact ⟨by rw [HV.out, HF.out]; rfl, hb0.out⟩
end Go.Proofs.YtenmhpalpfppmaoDoor

/- What is left of a number of letters. Plain. -/
namespace Go.Proofs.YtenmhpalpfppmaoDoor
def szR (n : Nat) (left : Nat) : Int := if n ≤ left then ((left - n : Nat) : Int) else -1
end Go.Proofs.YtenmhpalpfppmaoDoor

/- How many terms a term has: the specification's count, down from a room, and SizeOf. -/
namespace Go.Proofs.YtenmhpalpfppmaoDoor
open Go.RowKit

def CntOk (t : Tm) : Prop := ∀ (w : World) (v : Value) (room : Nat), TmIn w t v → room ≤ 1048576 →
  Calls Tryd.prog 68 #[v, .int .i64 (room : Int)] w fun e w' => e = .returned (.int .i64 (szR t.n room)) ∧ Below w.heap.size w w'

theorem count_term (t : Tm) : CntOk t := by
  refine tm_ind (p := CntOk) ?_ t
  clear t
  intro k s n ks hks w v room hin hroom
  unfold TmIn at hin
  obtain ⟨ao, cap, rfl, hk, hn, hs, hlen, hcap, hrow⟩ := hin
  unfold maxLen at hcap
  rw [n_mk]
  have hb0 : Below w.heap.size w (w.alloc (.cells #[.int .i64 k, .string s, .int .i64 n, .slice ao ks.length cap] 31)) := (Below.refl _ _).alloc (Nat.le_refl _) _
  have HC3 : Hid (∀ wr, Below (w.alloc (.cells #[.int .i64 k, .string s, .int .i64 n, .slice ao ks.length cap] 31)).heap.size (w.alloc (.cells #[.int .i64 k, .string s, .int .i64 n, .slice ao ks.length cap] 31)) wr → wr.cell? ⟨w.heap.size, 3, none⟩ = some (.slice ao ks.length cap)) := fun wr hb =>
    cell_keep (w := w.alloc _) (by simp) hb
  have HR : Hid (∀ wr, Below (w.alloc (.cells #[.int .i64 k, .string s, .int .i64 n, .slice ao ks.length cap] 31)).heap.size (w.alloc (.cells #[.int .i64 k, .string s, .int .i64 n, .slice ao ks.length cap] 31)) wr → ks ≠ [] → ∃ b off, ao = some ⟨b, off, none⟩ ∧ TmsIn wr ks b off) := fun wr hb h0 => by
    obtain ⟨b, off, e, hr⟩ := hrow h0
    exact ⟨b, off, e, TmsIn.keep hb ks b off (TmsIn.keep hb0 ks b off hr)⟩
  have HKS : Hid _ := hks
  replace hb0 : Hid _ := hb0
  clear hrow hks
  go_enter Tryd.func68, Tryd.ntmps68
  go_wp2
  generalize hW : w.alloc (.cells #[.int .i64 k, .string s, .int .i64 n, .slice ao ks.length cap] 31) = W at *
  go_loopw [1, 5] (fun vl vi wr => Hid (Below W.heap.size W wr) ∧ ∃ j : Nat, j ≤ ks.length ∧ vi = .int .i64 (j : Int) ∧ ((∃ l : Nat, vl = .int .i64 (l : Int) ∧ l ≤ 1048576 ∧ Hid (l + 1 + ns (ks.take j) = room)) ∨ (vl = .int .i64 (-1) ∧ Hid (szR (1 + ns ks) room = -1)))) (fun _ i _ => ks.length - (intOf i).toNat)
  case atStart =>
    refine ⟨Below.refl _ _, 0, by omega, rfl, ?_⟩
    by_cases h0 : room = 0
    · subst h0
      exact Or.inr ⟨rfl, by show _ = _; unfold szR; rw [if_neg (by omega)]⟩
    · exact Or.inl ⟨room - 1, by simp; omega, by omega, by show _ = _; simp [ns, Tm.n.ns]; omega⟩
  case round =>
    obtain ⟨HB, j, hj, rfl, hl⟩ := hrel
    have c3 := HC3.out wr HB.out
    rcases hl with ⟨l, rfl, hll, HL⟩ | ⟨rfl, HL⟩
    · by_cases hlt : j < ks.length
      · obtain ⟨b, off, rfl, hin⟩ := HR.out wr HB.out (by intro e; subst e; simp at hlt)
        obtain ⟨c0, c1, c2, c3', h0, h1, h2, h3, ht⟩ := hin.at j hlt
        have HC := HKS.out ks[j] (List.getElem_mem hlt) wr _ l ht hll
        have hw : ns (ks.take (j + 1)) = ns (ks.take j) + ks[j].n := by
          rw [List.take_succ_eq_append_getElem hlt, ns_append]; simp [ns, Tm.n.ns]
        have HW : Hid _ := hw
        clear hin ht hw HR HC3 HKS
        by_cases hfit : ks[j].n ≤ l
        · rw [show szR ks[j].n l = ((l - ks[j].n : Nat) : Int) from if_pos hfit] at HC
          replace HC : Hid _ := HC
          go_wp2_with (go_at_call 68; refine (Calls.mono HC.out ?_); rintro e w1 ⟨rfl, hb⟩; have HB1 : Hid (Below W.heap.size W w1) := HB.out.trans (hb.mono HB.out.size); clear hb)
          go_roundw
          case rel => exact ⟨HB1.out, j + 1, by omega, by go_num, Or.inl ⟨l - ks[j].n, rfl, by omega, by show _ = _; have := HL.out; have := HW.out; omega⟩⟩
          case measure => simp [intOf]; omega
        · rw [show szR ks[j].n l = -1 from if_neg hfit] at HC
          replace HC : Hid _ := HC
          have hr : szR (1 + ns ks) room = -1 := by
            have h1 := HL.out
            have h2 := HW.out
            have h3 : ns (ks.take (j + 1)) + ns (ks.drop (j + 1)) = ns ks := by rw [← ns_append, List.take_append_drop]
            unfold szR
            rw [if_neg (by omega)]
          have HRR : Hid _ := hr
          clear hr
          go_wp2_with (go_at_call 68; refine (Calls.mono HC.out ?_); rintro e w1 ⟨rfl, hb⟩; have HB1 : Hid (Below W.heap.size W w1) := HB.out.trans (hb.mono HB.out.size); clear hb)
          go_roundw
          case rel => exact ⟨HB1.out, j + 1, by omega, by go_num, Or.inr ⟨rfl, HRR.out⟩⟩
          case measure => simp [intOf]; omega
      · have hr : szR (1 + ns ks) room = (l : Int) := by
          have h1 := HL.out
          rw [List.take_of_length_le (by omega)] at h1
          unfold szR
          rw [if_pos (by omega)]
          omega
        have HRR : Hid _ := hr
        clear hr HR HC3 HKS
        go_wp2
        go_ret
        exact ⟨by rw [HRR.out]; rfl, hb0.out.trans (HB.out.mono hb0.out.size)⟩
    · clear HR HC3 HKS
      by_cases hlt : j < ks.length
      · go_wp2
        go_ret
        exact ⟨by rw [HL.out]; rfl, hb0.out.trans (HB.out.mono hb0.out.size)⟩
      · go_wp2
        go_ret
        exact ⟨by rw [HL.out]; rfl, hb0.out.trans (HB.out.mono hb0.out.size)⟩

end Go.Proofs.YtenmhpalpfppmaoDoor

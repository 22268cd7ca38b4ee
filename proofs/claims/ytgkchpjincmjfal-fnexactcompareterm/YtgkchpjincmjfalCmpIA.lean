/- The library's cmp.Compare of numbers and texts, the ranks of the forms, slices.CompareFunc over terms. -/
import Derived.Test.YtgkchpjincmjfalTmCmp
import Derived.Test.YtgkchpjincmjfalFormI
import Derived.Test.YtgkchpjincmjfalSizeI
import Derived.Test.YtgkchpjincmjfalTmTo
import Derived.ProofKit
namespace Go.Proofs.Ytgkchpjincmjfal
open Go.RowKit

theorem nanInt (a : Int) (w : World) : Calls Try.prog 59 #[.int .i64 a] w fun e w' => e = .returned (.bool false) ∧ w' = w := by
  go_enter Try.func59, Try.ntmps59
  go_wp2
  go_ret
  exact ⟨rfl, rfl⟩
theorem nanText (a : ByteArray) (w : World) : Calls Try.prog 60 #[.string a] w fun e w' => e = .returned (.bool false) ∧ w' = w := by
  go_enter Try.func60, Try.ntmps60
  go_wp2
  go_ret
  exact ⟨rfl, rfl⟩

theorem libInt (a b : Int) (w : World) :
    Calls Try.prog 50 #[.int .i64 a, .int .i64 b] w fun e w' => e = .returned (.int .i64 (cmpI a b)) ∧ w' = w := by
  have HN : Hid (∀ (a : Int) (w : World), Calls Try.prog 59 #[.int .i64 a] w fun e w' => e = .returned (.bool false) ∧ w' = w) := nanInt
  by_cases h : a < b
  · rw [show cmpI a b = -1 from if_pos h]
    go_enter Try.func50, Try.ntmps50
    go_wp2_with (go_at_call 59; refine (Calls.mono (HN.out _ _) ?_); rintro e w2 ⟨rfl, rfl⟩)
    go_ret
    exact ⟨rfl, rfl⟩
  · by_cases h' : b < a
    · rw [show cmpI a b = 1 by unfold cmpI; rw [if_neg h, if_pos h']]
      go_enter Try.func50, Try.ntmps50
      go_wp2_with (go_at_call 59; refine (Calls.mono (HN.out _ _) ?_); rintro e w2 ⟨rfl, rfl⟩)
      go_ret
      exact ⟨rfl, rfl⟩
    · rw [show cmpI a b = 0 by unfold cmpI; rw [if_neg h, if_neg h']]
      go_enter Try.func50, Try.ntmps50
      go_wp2_with (go_at_call 59; refine (Calls.mono (HN.out _ _) ?_); rintro e w2 ⟨rfl, rfl⟩)
      go_ret
      exact ⟨rfl, rfl⟩

theorem libText (a b : ByteArray) (w : World) :
    Calls Try.prog 51 #[.string a, .string b] w fun e w' => e = .returned (.int .i64 (cmpS a b)) ∧ w' = w := by
  have HN : Hid (∀ (a : ByteArray) (w : World), Calls Try.prog 60 #[.string a] w fun e w' => e = .returned (.bool false) ∧ w' = w) := nanText
  cases h : Op.bytesLess a.toList b.toList with
  | true =>
    rw [show cmpS a b = -1 by unfold cmpS; rw [h]; rfl]
    go_enter Try.func51, Try.ntmps51
    go_wp2_with (go_at_call 60; refine (Calls.mono (HN.out _ _) ?_); rintro e w2 ⟨rfl, rfl⟩)
    go_ret
    exact ⟨rfl, rfl⟩
  | false =>
    cases h' : (a.toList == b.toList) with
    | true =>
      rw [show cmpS a b = 0 by unfold cmpS; rw [h, h']; rfl]
      go_enter Try.func51, Try.ntmps51
      go_wp2_with (go_at_call 60; refine (Calls.mono (HN.out _ _) ?_); rintro e w2 ⟨rfl, rfl⟩)
      go_ret
      exact ⟨rfl, rfl⟩
    | false =>
      rw [show cmpS a b = 1 by unfold cmpS; rw [h, h']; rfl]
      go_enter Try.func51, Try.ntmps51
      go_wp2_with (go_at_call 60; refine (Calls.mono (HN.out _ _) ?_); rintro e w2 ⟨rfl, rfl⟩)
      go_ret
      exact ⟨rfl, rfl⟩

theorem rankVar (n : Int) (w : World) : Calls Try.prog 79 #[.agg #[.int .i64 n]] w fun e w' => e = .returned (.int .i64 1) ∧ Below w.heap.size w w' := by
  go_enter Try.func79, Try.ntmps79
  go_wp2
  go_ret
  exact ⟨rfl, (Below.refl _ _).alloc (Nat.le_refl _) _⟩
theorem rankInt (n : Int) (w : World) : Calls Try.prog 81 #[.agg #[.int .i64 n]] w fun e w' => e = .returned (.int .i64 2) ∧ Below w.heap.size w w' := by
  go_enter Try.func81, Try.ntmps81
  go_wp2
  go_ret
  exact ⟨rfl, (Below.refl _ _).alloc (Nat.le_refl _) _⟩
theorem rankAtom (s : ByteArray) (w : World) : Calls Try.prog 83 #[.agg #[.string s]] w fun e w' => e = .returned (.int .i64 3) ∧ Below w.heap.size w w' := by
  go_enter Try.func83, Try.ntmps83
  go_wp2
  go_ret
  exact ⟨rfl, (Below.refl _ _).alloc (Nat.le_refl _) _⟩
theorem rankStruct (s : ByteArray) (ao : Option Addr) (l cap : Nat) (w : World) : Calls Try.prog 78 #[.agg #[.string s, .slice ao l cap]] w fun e w' => e = .returned (.int .i64 4) ∧ Below w.heap.size w w' := by
  go_enter Try.func78, Try.ntmps78
  go_wp2
  go_ret
  exact ⟨rfl, (Below.refl _ _).alloc (Nat.le_refl _) _⟩

def CmpIOk (t : Tm) : Prop := ∀ (w : World) (u : Tm) (va vb : Value) (d d' : Nat), TmIn w t va → TmIn w u vb → t.right d = true → u.right d' = true →
  Calls Try.prog 37 #[va, vb] w fun e w' => e = .returned (.int .i64 (t.cmp u)) ∧ Below w.heap.size w w'

set_option maxHeartbeats 4000000 in
set_option maxRecDepth 20000 in
theorem cmpFunc (ks us : List Tm) (w : World) (ao bo : Option Addr) (ca cb : Nat) (hl : ks.length = us.length) (hca : ks.length ≤ ca) (hcm : ca ≤ maxLen) (hcb : us.length ≤ cb) (_hcm' : cb ≤ maxLen)
    (hr : ks ≠ [] → ∃ b off, ao = some ⟨b, off, none⟩ ∧ TmsIn w ks b off) (hr' : us ≠ [] → ∃ b off, bo = some ⟨b, off, none⟩ ∧ TmsIn w us b off)
    (hks : ∀ t ∈ ks, ∀ u ∈ us, ∀ (w : World) (va vb : Value), TmIn w t va → TmIn w u vb → Calls Try.prog 37 #[va, vb] w fun e w' => e = .returned (.int .i64 (t.cmp u)) ∧ Below w.heap.size w w') :
    Calls Try.prog 52 #[.slice ao ks.length ca, .slice bo us.length cb, .func (.func 37) #[] #[]] w fun e w' => e = .returned (.int .i64 (cmps ks us)) ∧ Below w.heap.size w w' := by
  unfold maxLen at *
  obtain ⟨R, hR⟩ : ∃ R, R = cmps ks us := ⟨_, rfl⟩
  rw [← hR]
  have HR : Hid (∀ wr, Below w.heap.size w wr → ks ≠ [] → ∃ b off, ao = some ⟨b, off, none⟩ ∧ TmsIn wr ks b off) := fun wr hb h0 => by
    obtain ⟨b, off, e, hr⟩ := hr h0
    exact ⟨b, off, e, TmsIn.keep hb ks b off hr⟩
  have HR' : Hid (∀ wr, Below w.heap.size w wr → us ≠ [] → ∃ b off, bo = some ⟨b, off, none⟩ ∧ TmsIn wr us b off) := fun wr hb h0 => by
    obtain ⟨b, off, e, hr⟩ := hr' h0
    exact ⟨b, off, e, TmsIn.keep hb us b off hr⟩
  have HKS : Hid _ := hks
  have HL : Hid _ := hl
  have HV : Hid (R = cmps (ks.drop 0) (us.drop 0)) := by rw [List.drop_zero, List.drop_zero]; exact hR
  clear hr hr' hks hl hR
  go_enter Try.func52, Try.ntmps52
  go_wp2
  go_loopw [13] (fun vi wr => Hid (Below w.heap.size w wr) ∧ ∃ (j : Nat), j ≤ ks.length ∧ vi = .int .i64 (j : Int) ∧ Hid (R = cmps (ks.drop j) (us.drop j))) (fun i _ => ks.length - (intOf i).toNat)
  case atStart => exact ⟨Below.refl _ _, 0, by omega, rfl, HV.out⟩
  case round =>
    obtain ⟨HB, j, hj, rfl, HJ⟩ := hrel
    by_cases hlt : j < ks.length
    · have hlu : j < us.length := by rw [← HL.out]; exact hlt
      obtain ⟨b, off, rfl, hin⟩ := HR.out wr HB.out (by intro e; subst e; simp at hlt)
      obtain ⟨b', off', rfl, hin'⟩ := HR'.out wr HB.out (by intro e; subst e; simp at hlu)
      obtain ⟨c0, c1, c2, c3, h0, h1, h2, h3, ht⟩ := hin.at j hlt
      obtain ⟨k1, s1, n1, ao1, len1, cap1, he⟩ := tm_shape ht
      obtain ⟨rfl, rfl, rfl, rfl⟩ : c0 = .int .i64 k1 ∧ c1 = .string s1 ∧ c2 = .int .i64 n1 ∧ c3 = .slice ao1 len1 cap1 := by simpa using he
      clear he
      obtain ⟨c0, c1, c2, c3, g0, g1, g2, g3, gt⟩ := hin'.at j hlu
      obtain ⟨k2, s2, n2, ao2, len2, cap2, he⟩ := tm_shape gt
      obtain ⟨rfl, rfl, rfl, rfl⟩ : c0 = .int .i64 k2 ∧ c1 = .string s2 ∧ c2 = .int .i64 n2 ∧ c3 = .slice ao2 len2 cap2 := by simpa using he
      clear he hin hin'
      obtain ⟨A1, hA1⟩ : ∃ A1, A1 = wr.alloc (.cells #[.int .i64 k1, .string s1, .int .i64 n1, .slice ao1 len1 cap1] 29) := ⟨_, rfl⟩
      have hbA : Below wr.heap.size wr A1 := by rw [hA1]; exact (Below.refl _ _).alloc (Nat.le_refl _) _
      replace g0 := cell_keep g0 hbA
      replace g1 := cell_keep g1 hbA
      replace g2 := cell_keep g2 hbA
      replace g3 := cell_keep g3 hbA
      obtain ⟨A2, hA2⟩ : ∃ A2, A2 = A1.alloc (.cells #[.int .i64 k2, .string s2, .int .i64 n2, .slice ao2 len2 cap2] 29) := ⟨_, rfl⟩
      have hbB : Below wr.heap.size wr A2 := by rw [hA2, hA1]; exact ((Below.refl _ _).alloc (Nat.le_refl _) _).alloc (by simp) _
      have HC := HKS.out ks[j] (List.getElem_mem hlt) us[j] (List.getElem_mem hlu) A2 _ _ (TmIn.keep hbB _ _ ht) (TmIn.keep hbB _ _ gt)
      have HB2 : Hid (Below w.heap.size w A2) := HB.out.trans (hbB.mono HB.out.size)
      have HN : Hid (R = thenC (ks[j].cmp us[j]) (cmps (ks.drop (j + 1)) (us.drop (j + 1)))) := by rw [HJ.out, cmps_drop hlt hlu]; rfl
      generalize ks[j].cmp us[j] = c at *
      rw [hA2, hA1] at HC
      rw [hA1] at g0 g1 g2 g3
      replace HC : Hid _ := HC
      clear ht gt hbA hbB HR HR' HKS HJ
      by_cases hc : c = 0
      · subst hc
        rw [thenC_zero] at HN
        go_wp2_with (go_at_call 37; refine (Calls.mono HC.out ?_); rintro e w2 ⟨rfl, hb⟩; rw [← hA1, ← hA2] at hb; have HB3 : Hid (Below w.heap.size w w2) := HB2.out.trans (hb.mono HB2.out.size); clear hb)
        go_roundw
        case rel => exact ⟨HB3.out, j + 1, by omega, by go_num, HN.out⟩
        case measure => simp [intOf]; omega
      · have e0 : (c == 0) = false := beq_eq_false_iff_ne.2 hc
        rw [thenC_ne _ hc] at HN
        go_wp2_with (go_at_call 37; refine (Calls.mono HC.out ?_); rintro e w2 ⟨rfl, hb⟩; rw [← hA1, ← hA2] at hb; have HB3 : Hid (Below w.heap.size w w2) := HB2.out.trans (hb.mono HB2.out.size); clear hb)
        go_ret
        exact ⟨by rw [HN.out]; rfl, HB3.out⟩
    · have hnu : ¬ ks.length < us.length := by rw [← HL.out]; omega
      have HF : Hid (R = 0) := by rw [HJ.out, cmps_end hlt]; rfl
      clear HR HR' HKS HJ HL HV
      go_wp2
      go_ret
      exact ⟨by rw [HF.out]; rfl, HB.out⟩
end Go.Proofs.Ytgkchpjincmjfal

/- The code's comparison of right terms: the same order as the specification's. -/
import Derived.Test.YtgkchpjincmjfalCmpIA
import Derived.Test.YtgkchpjincmjfalRegLater
import Derived.BigQuiet
namespace Go.Proofs.Ytgkchpjincmjfal
open Go.RowKit

theorem right_cases {k : Int} {s : ByteArray} {n : Int} {ks : List Tm} {d : Nat} (h : (Tm.mk k s n ks).right d = true) (ao : Option Addr) (cap : Nat) :
    (formV k s n ao ks.length cap = .iface 82 (.agg #[.int .i64 n]) ∧ k = 1 ∧ s = ⟨#[]⟩ ∧ ks = []) ∨
    (formV k s n ao ks.length cap = .iface 83 (.agg #[.int .i64 n]) ∧ k = 3 ∧ s = ⟨#[]⟩ ∧ ks = []) ∨
    (formV k s n ao ks.length cap = .iface 85 (.agg #[.string s]) ∧ k = 2 ∧ n = 0 ∧ ks = []) ∨
    (formV k s n ao ks.length cap = .iface 70 (.agg #[.string s, .slice ao ks.length cap]) ∧ k = 4 ∧ n = 0) := by
  rw [right_mk] at h
  simp only [Bool.and_eq_true] at h
  have h1 := h.1.2
  unfold oneT at h1
  by_cases a : k = 1
  · subst a
    simp only [if_true, Bool.and_eq_true, decide_eq_true_eq] at h1
    obtain rfl := empty_of h1.1.2
    obtain rfl := List.eq_nil_of_length_eq_zero h1.2
    left
    exact ⟨by simp [formV, show (⟨#[]⟩ : ByteArray).size = 0 from rfl], rfl, rfl, rfl⟩
  by_cases b : k = 2
  · subst b
    simp only [show ¬ (2 : Int) = 1 by omega, if_false, if_true, Bool.and_eq_true, decide_eq_true_eq] at h1
    obtain rfl := h1.1.2
    obtain rfl := List.eq_nil_of_length_eq_zero h1.2
    right; right; left
    exact ⟨by simp [formV], rfl, rfl, rfl⟩
  by_cases c : k = 3
  · subst c
    simp only [show ¬ (3 : Int) = 1 by omega, show ¬ (3 : Int) = 2 by omega, if_false, if_true, Bool.and_eq_true, decide_eq_true_eq] at h1
    obtain rfl := empty_of h1.1.2
    obtain rfl := List.eq_nil_of_length_eq_zero h1.2
    right; left
    exact ⟨by simp [formV, show (⟨#[]⟩ : ByteArray).size = 0 from rfl], rfl, rfl, rfl⟩
  by_cases e : k = 4
  · subst e
    simp only [show ¬ (4 : Int) = 1 by omega, show ¬ (4 : Int) = 2 by omega, show ¬ (4 : Int) = 3 by omega, if_false, if_true, Bool.and_eq_true, decide_eq_true_eq] at h1
    obtain rfl := h1.1.2
    right; right; right
    exact ⟨by simp [formV], rfl, rfl⟩
  rw [if_neg a, if_neg b, if_neg c, if_neg e] at h1; cases h1

theorem nil_toList : (⟨#[]⟩ : ByteArray).toList = [] := by
  unfold ByteArray.toList
  rw [ByteArray.toList.loop]
  simp [show (⟨#[]⟩ : ByteArray).size = 0 from rfl]
theorem thenC_last (a : Int) : thenC a 0 = a := by unfold thenC; split <;> omega
theorem cmpS_self (s : ByteArray) (h : s = ⟨#[]⟩) (s' : ByteArray) (h' : s' = ⟨#[]⟩) : cmpS s s' = 0 := by subst h; subst h'; unfold cmpS; rw [nil_toList]; rfl

set_option maxHeartbeats 4000000 in
set_option maxRecDepth 20000 in
theorem cmpI_term (t : Tm) : CmpIOk t := by
  refine tm_ind (p := CmpIOk) ?_ t
  clear t
  intro k s n ks hks w u va vb d d' hin hin' hrt hru
  obtain ⟨k', s', n', us⟩ := u
  unfold TmIn at hin hin'
  obtain ⟨ao, ca, rfl, hk, hn, hs, hlen, hcap, hrow⟩ := hin
  obtain ⟨bo, cb, rfl, hk', hn', hs', hlen', hcap', hrow'⟩ := hin'
  have hkr := (right_kind hrt).2
  have hkr' := (right_kind hru).2
  have HCA : Hid _ := hcap
  have HCB : Hid _ := hcap'
  have hml : ks.length ≤ maxLen := by omega
  have hml' : us.length ≤ maxLen := by omega
  have HF : Hid (∀ (k : Int) (s : ByteArray) (n : Int) (ao : Option Addr) (l cap : Nat) (_ : l ≤ maxLen) (w : World), Calls Try.prog 43 #[.agg #[.int .i64 k, .string s, .int .i64 n, .slice ao l cap]] w fun e w' => e = .returned (formV k s n ao l cap) ∧ Below w.heap.size w w') := implForm
  have HM : Hid _ := hml
  have HM' : Hid _ := hml'
  unfold maxLen at hs hs' hcap hcap' hml hml'
  rw [cmp_mk]
  obtain ⟨R, hR⟩ : ∃ R, R = thenC (cmpI (rank k) (rank k')) (thenC (cmpI ks.length us.length) (thenC (cmpI n n') (thenC (cmpS s s') (cmps ks us)))) := ⟨_, rfl⟩
  rw [← hR]
  obtain ⟨W, hW⟩ : ∃ W, W = ((w.alloc (.cells #[.int .i64 k, .string s, .int .i64 n, .slice ao ks.length ca] 29)).alloc (.cells #[.int .i64 k', .string s', .int .i64 n', .slice bo us.length cb] 29)) := ⟨_, rfl⟩
  have hb0 : Below w.heap.size w W := by rw [hW]; exact ((Below.refl _ _).alloc (Nat.le_refl _) _).alloc (by simp) _
  have HA : Hid (∀ wr, Below W.heap.size W wr → wr.cell? ⟨w.heap.size, 0, none⟩ = some (.int .i64 k) ∧ wr.cell? ⟨w.heap.size, 1, none⟩ = some (.string s) ∧ wr.cell? ⟨w.heap.size, 2, none⟩ = some (.int .i64 n) ∧ wr.cell? ⟨w.heap.size, 3, none⟩ = some (.slice ao ks.length ca)) := fun wr hb =>
    ⟨cell_keep (w := W) (by rw [hW]; simp) hb, cell_keep (w := W) (by rw [hW]; simp) hb, cell_keep (w := W) (by rw [hW]; simp) hb, cell_keep (w := W) (by rw [hW]; simp) hb⟩
  have HB' : Hid (∀ wr, Below W.heap.size W wr → wr.cell? ⟨w.heap.size + 1, 0, none⟩ = some (.int .i64 k') ∧ wr.cell? ⟨w.heap.size + 1, 1, none⟩ = some (.string s') ∧ wr.cell? ⟨w.heap.size + 1, 2, none⟩ = some (.int .i64 n') ∧ wr.cell? ⟨w.heap.size + 1, 3, none⟩ = some (.slice bo us.length cb)) := fun wr hb =>
    ⟨cell_keep (w := W) (by rw [hW]; simp) hb, cell_keep (w := W) (by rw [hW]; simp) hb, cell_keep (w := W) (by rw [hW]; simp) hb, cell_keep (w := W) (by rw [hW]; simp) hb⟩
  have HI : Hid (∀ (a b : Int) (w : World), Calls Try.prog 50 #[.int .i64 a, .int .i64 b] w fun e w' => e = .returned (.int .i64 (cmpI a b)) ∧ w' = w) := libInt
  have HT : Hid (∀ (a b : ByteArray) (w : World), Calls Try.prog 51 #[.string a, .string b] w fun e w' => e = .returned (.int .i64 (cmpS a b)) ∧ w' = w) := libText
  have HCF : Hid (∀ (w2 : World), Below W.heap.size W w2 → ks.length = us.length → Calls Try.prog 52 #[.slice ao ks.length ca, .slice bo us.length cb, .func (.func 37) #[] #[]] w2 fun e w' => e = .returned (.int .i64 (cmps ks us)) ∧ Below w2.heap.size w2 w') := fun w2 hb hl => by
    have hb2 := hb0.trans (hb.mono hb0.size)
    refine cmpFunc ks us w2 ao bo ca cb hl hlen HCA.out hlen' HCB.out (fun h0 => ?_) (fun h0 => ?_) (fun t ht u hu w va vb h1 h2 => hks t ht w u va vb (d + 1) (d' + 1) h1 h2 (hkr t ht) (hkr' u hu))
    · obtain ⟨b, off, e, hr⟩ := hrow h0
      exact ⟨b, off, e, TmsIn.keep hb2 ks b off hr⟩
    · obtain ⟨b, off, e, hr⟩ := hrow' h0
      exact ⟨b, off, e, TmsIn.keep hb2 us b off hr⟩
  have a0 : ∀ u, (later W u).cell? ⟨w.heap.size, 0, none⟩ = some (.int .i64 k) := fun u => (HA.out _ (later_below W u)).1
  have a1 : ∀ u, (later W u).cell? ⟨w.heap.size, 1, none⟩ = some (.string s) := fun u => (HA.out _ (later_below W u)).2.1
  have a2 : ∀ u, (later W u).cell? ⟨w.heap.size, 2, none⟩ = some (.int .i64 n) := fun u => (HA.out _ (later_below W u)).2.2.1
  have a3 : ∀ u, (later W u).cell? ⟨w.heap.size, 3, none⟩ = some (.slice ao ks.length ca) := fun u => (HA.out _ (later_below W u)).2.2.2
  have b0 : ∀ u, (later W u).cell? ⟨w.heap.size + 1, 0, none⟩ = some (.int .i64 k') := fun u => (HB'.out _ (later_below W u)).1
  have b1 : ∀ u, (later W u).cell? ⟨w.heap.size + 1, 1, none⟩ = some (.string s') := fun u => (HB'.out _ (later_below W u)).2.1
  have b2 : ∀ u, (later W u).cell? ⟨w.heap.size + 1, 2, none⟩ = some (.int .i64 n') := fun u => (HB'.out _ (later_below W u)).2.2.1
  have b3 : ∀ u, (later W u).cell? ⟨w.heap.size + 1, 3, none⟩ = some (.slice bo us.length cb) := fun u => (HB'.out _ (later_below W u)).2.2.2
  have hRC := right_cases hrt ao ca
  have hRC' := right_cases hru bo cb
  replace hb0 : Hid _ := hb0
  clear hrow hrow' hks hrt hru hkr hkr' hk hn hs hlen hcap hk' hn' hs' hlen' hcap' HCA HCB hml hml'
  obtain ⟨fa, hfa⟩ : ∃ fa, fa = formV k s n ao ks.length ca := ⟨_, rfl⟩
  obtain ⟨fb, hfb⟩ : ∃ fb, fb = formV k' s' n' bo us.length cb := ⟨_, rfl⟩
  rw [← hfa] at hRC
  rw [← hfb] at hRC'
  have HRC : Hid _ := hRC
  have HRC' : Hid _ := hRC'
  have HRR : Hid _ := hR
  clear hRC hRC' hR
  go_enter Try.func37, Try.ntmps37
  go_wp2
  rw [← hW]
  clear hW
  refine wp_region_later (by kernel_rfl) (by kernel_rfl) ?_
  repeat (go_big_quiet_step ((go_at_call 43; exact Calls.later_of_below (HF.out _ _ _ _ _ _ (by first | exact HM.out | exact HM'.out) _))))
  refine wpQuiet_nil ?_
  rintro _ ⟨u, rfl⟩
  have HB1 : Hid (Below W.heap.size W (later W u)) := later_below W u
  generalize later W u = w1 at *
  clear a0 a1 a2 a3 b0 b1 b2 b3 HF HM HM'
  rw [← hfa, ← hfb]
  clear hfa hfb
  rcases HRC.out with ⟨rfl, hk, hx, hy⟩ | ⟨rfl, hk, hx, hy⟩ | ⟨rfl, hk, hx, hy⟩ | ⟨rfl, hk, hx⟩
  · rcases HRC'.out with ⟨rfl, hk', hx', hy'⟩ | ⟨rfl, hk', hx', hy'⟩ | ⟨rfl, hk', hx', hy'⟩ | ⟨rfl, hk', hx'⟩
    · have q1 : cmpI 1 1 = 0 := rfl
      have HV : Hid (R = cmpI n n') := by rw [HRR.out, hk, hk', hx, hx', hy, hy', show cmpI (rank 1) (rank 1) = 0 from rfl, thenC_zero, show cmpI (([] : List Tm).length : Int) (([] : List Tm).length : Int) = 0 from rfl, thenC_zero, cmpS_self _ rfl _ rfl, thenC_zero]; exact thenC_last _
      clear HRR hk hx hy hk' hx' hy' HRC HRC' HT HCF
      go_wp2_with (fail)
      go_at_call 79
      refine (Calls.mono (rankVar _ _) ?_)
      rintro e w2 ⟨rfl, hb⟩
      have HB2 : Hid (Below W.heap.size W w2) := HB1.out.trans (hb.mono HB1.out.size)
      clear hb
      go_wp2_with (fail)
      go_at_call 79
      refine (Calls.mono (rankVar _ _) ?_)
      rintro e w3 ⟨rfl, hb⟩
      have HB3 : Hid (Below W.heap.size W w3) := HB2.out.trans (hb.mono HB2.out.size)
      clear hb
      obtain ⟨x0, x1, x2, x3⟩ := HA.out w3 HB3.out
      obtain ⟨y0, y1, y2, y3⟩ := HB'.out w3 HB3.out
      go_wp2_with (go_at_call 50; refine (Calls.mono (HI.out _ _ _) ?_); rintro e w5 ⟨rfl, rfl⟩)
      go_ret
      exact ⟨by rw [HV.out]; rfl, hb0.out.trans (HB3.out.mono hb0.out.size)⟩
    · have q1 : cmpI 1 2 = -1 := rfl
      have HV : Hid (R = -1) := by rw [HRR.out, hk, hk', show cmpI (rank 1) (rank 3) = -1 from rfl, thenC_ne _ (by omega)]; rfl
      clear HRR hk hx hk' hx' HRC HRC' HA HB' HT HCF
      clear hy
      clear hy'
      go_wp2_with (first | (go_at_call 79; refine (Calls.mono (rankVar _ _) ?_); rintro e w2 ⟨rfl, hb⟩; have HB2 : Hid (Below W.heap.size W w2) := HB1.out.trans (hb.mono HB1.out.size); clear hb) | (go_at_call 81; refine (Calls.mono (rankInt _ _) ?_); rintro e w3 ⟨rfl, hb⟩; have HB3 : Hid (Below W.heap.size W w3) := HB2.out.trans (hb.mono HB2.out.size); clear hb) | (go_at_call 50; refine (Calls.mono (HI.out _ _ _) ?_); rintro e w4 ⟨rfl, rfl⟩))
      go_ret
      exact ⟨by rw [HV.out]; rfl, hb0.out.trans (HB3.out.mono hb0.out.size)⟩
    · have q1 : cmpI 1 3 = -1 := rfl
      have HV : Hid (R = -1) := by rw [HRR.out, hk, hk', show cmpI (rank 1) (rank 2) = -1 from rfl, thenC_ne _ (by omega)]; rfl
      clear HRR hk hx hk' hx' HRC HRC' HA HB' HT HCF
      clear hy
      clear hy'
      go_wp2_with (first | (go_at_call 79; refine (Calls.mono (rankVar _ _) ?_); rintro e w2 ⟨rfl, hb⟩; have HB2 : Hid (Below W.heap.size W w2) := HB1.out.trans (hb.mono HB1.out.size); clear hb) | (go_at_call 83; refine (Calls.mono (rankAtom _ _) ?_); rintro e w3 ⟨rfl, hb⟩; have HB3 : Hid (Below W.heap.size W w3) := HB2.out.trans (hb.mono HB2.out.size); clear hb) | (go_at_call 50; refine (Calls.mono (HI.out _ _ _) ?_); rintro e w4 ⟨rfl, rfl⟩))
      go_ret
      exact ⟨by rw [HV.out]; rfl, hb0.out.trans (HB3.out.mono hb0.out.size)⟩
    · have q1 : cmpI 1 4 = -1 := rfl
      have HV : Hid (R = -1) := by rw [HRR.out, hk, hk', show cmpI (rank 1) (rank 4) = -1 from rfl, thenC_ne _ (by omega)]; rfl
      clear HRR hk hx hk' hx' HRC HRC' HA HB' HT HCF
      clear hy
      go_wp2_with (first | (go_at_call 79; refine (Calls.mono (rankVar _ _) ?_); rintro e w2 ⟨rfl, hb⟩; have HB2 : Hid (Below W.heap.size W w2) := HB1.out.trans (hb.mono HB1.out.size); clear hb) | (go_at_call 78; refine (Calls.mono (rankStruct _ _ _ _ _) ?_); rintro e w3 ⟨rfl, hb⟩; have HB3 : Hid (Below W.heap.size W w3) := HB2.out.trans (hb.mono HB2.out.size); clear hb) | (go_at_call 50; refine (Calls.mono (HI.out _ _ _) ?_); rintro e w4 ⟨rfl, rfl⟩))
      go_ret
      exact ⟨by rw [HV.out]; rfl, hb0.out.trans (HB3.out.mono hb0.out.size)⟩
  · rcases HRC'.out with ⟨rfl, hk', hx', hy'⟩ | ⟨rfl, hk', hx', hy'⟩ | ⟨rfl, hk', hx', hy'⟩ | ⟨rfl, hk', hx'⟩
    · have q1 : cmpI 2 1 = 1 := rfl
      have HV : Hid (R = 1) := by rw [HRR.out, hk, hk', show cmpI (rank 3) (rank 1) = 1 from rfl, thenC_ne _ (by omega)]; rfl
      clear HRR hk hx hk' hx' HRC HRC' HA HB' HT HCF
      clear hy
      clear hy'
      go_wp2_with (first | (go_at_call 81; refine (Calls.mono (rankInt _ _) ?_); rintro e w2 ⟨rfl, hb⟩; have HB2 : Hid (Below W.heap.size W w2) := HB1.out.trans (hb.mono HB1.out.size); clear hb) | (go_at_call 79; refine (Calls.mono (rankVar _ _) ?_); rintro e w3 ⟨rfl, hb⟩; have HB3 : Hid (Below W.heap.size W w3) := HB2.out.trans (hb.mono HB2.out.size); clear hb) | (go_at_call 50; refine (Calls.mono (HI.out _ _ _) ?_); rintro e w4 ⟨rfl, rfl⟩))
      go_ret
      exact ⟨by rw [HV.out]; rfl, hb0.out.trans (HB3.out.mono hb0.out.size)⟩
    · have q1 : cmpI 2 2 = 0 := rfl
      have HV : Hid (R = cmpI n n') := by rw [HRR.out, hk, hk', hx, hx', hy, hy', show cmpI (rank 3) (rank 3) = 0 from rfl, thenC_zero, show cmpI (([] : List Tm).length : Int) (([] : List Tm).length : Int) = 0 from rfl, thenC_zero, cmpS_self _ rfl _ rfl, thenC_zero]; exact thenC_last _
      clear HRR hk hx hy hk' hx' hy' HRC HRC' HT HCF
      go_wp2_with (fail)
      go_at_call 81
      refine (Calls.mono (rankInt _ _) ?_)
      rintro e w2 ⟨rfl, hb⟩
      have HB2 : Hid (Below W.heap.size W w2) := HB1.out.trans (hb.mono HB1.out.size)
      clear hb
      go_wp2_with (fail)
      go_at_call 81
      refine (Calls.mono (rankInt _ _) ?_)
      rintro e w3 ⟨rfl, hb⟩
      have HB3 : Hid (Below W.heap.size W w3) := HB2.out.trans (hb.mono HB2.out.size)
      clear hb
      obtain ⟨x0, x1, x2, x3⟩ := HA.out w3 HB3.out
      obtain ⟨y0, y1, y2, y3⟩ := HB'.out w3 HB3.out
      go_wp2_with (go_at_call 50; refine (Calls.mono (HI.out _ _ _) ?_); rintro e w5 ⟨rfl, rfl⟩)
      go_ret
      exact ⟨by rw [HV.out]; rfl, hb0.out.trans (HB3.out.mono hb0.out.size)⟩
    · have q1 : cmpI 2 3 = -1 := rfl
      have HV : Hid (R = -1) := by rw [HRR.out, hk, hk', show cmpI (rank 3) (rank 2) = -1 from rfl, thenC_ne _ (by omega)]; rfl
      clear HRR hk hx hk' hx' HRC HRC' HA HB' HT HCF
      clear hy
      clear hy'
      go_wp2_with (first | (go_at_call 81; refine (Calls.mono (rankInt _ _) ?_); rintro e w2 ⟨rfl, hb⟩; have HB2 : Hid (Below W.heap.size W w2) := HB1.out.trans (hb.mono HB1.out.size); clear hb) | (go_at_call 83; refine (Calls.mono (rankAtom _ _) ?_); rintro e w3 ⟨rfl, hb⟩; have HB3 : Hid (Below W.heap.size W w3) := HB2.out.trans (hb.mono HB2.out.size); clear hb) | (go_at_call 50; refine (Calls.mono (HI.out _ _ _) ?_); rintro e w4 ⟨rfl, rfl⟩))
      go_ret
      exact ⟨by rw [HV.out]; rfl, hb0.out.trans (HB3.out.mono hb0.out.size)⟩
    · have q1 : cmpI 2 4 = -1 := rfl
      have HV : Hid (R = -1) := by rw [HRR.out, hk, hk', show cmpI (rank 3) (rank 4) = -1 from rfl, thenC_ne _ (by omega)]; rfl
      clear HRR hk hx hk' hx' HRC HRC' HA HB' HT HCF
      clear hy
      go_wp2_with (first | (go_at_call 81; refine (Calls.mono (rankInt _ _) ?_); rintro e w2 ⟨rfl, hb⟩; have HB2 : Hid (Below W.heap.size W w2) := HB1.out.trans (hb.mono HB1.out.size); clear hb) | (go_at_call 78; refine (Calls.mono (rankStruct _ _ _ _ _) ?_); rintro e w3 ⟨rfl, hb⟩; have HB3 : Hid (Below W.heap.size W w3) := HB2.out.trans (hb.mono HB2.out.size); clear hb) | (go_at_call 50; refine (Calls.mono (HI.out _ _ _) ?_); rintro e w4 ⟨rfl, rfl⟩))
      go_ret
      exact ⟨by rw [HV.out]; rfl, hb0.out.trans (HB3.out.mono hb0.out.size)⟩
  · rcases HRC'.out with ⟨rfl, hk', hx', hy'⟩ | ⟨rfl, hk', hx', hy'⟩ | ⟨rfl, hk', hx', hy'⟩ | ⟨rfl, hk', hx'⟩
    · have q1 : cmpI 3 1 = 1 := rfl
      have HV : Hid (R = 1) := by rw [HRR.out, hk, hk', show cmpI (rank 2) (rank 1) = 1 from rfl, thenC_ne _ (by omega)]; rfl
      clear HRR hk hx hk' hx' HRC HRC' HA HB' HT HCF
      clear hy
      clear hy'
      go_wp2_with (first | (go_at_call 83; refine (Calls.mono (rankAtom _ _) ?_); rintro e w2 ⟨rfl, hb⟩; have HB2 : Hid (Below W.heap.size W w2) := HB1.out.trans (hb.mono HB1.out.size); clear hb) | (go_at_call 79; refine (Calls.mono (rankVar _ _) ?_); rintro e w3 ⟨rfl, hb⟩; have HB3 : Hid (Below W.heap.size W w3) := HB2.out.trans (hb.mono HB2.out.size); clear hb) | (go_at_call 50; refine (Calls.mono (HI.out _ _ _) ?_); rintro e w4 ⟨rfl, rfl⟩))
      go_ret
      exact ⟨by rw [HV.out]; rfl, hb0.out.trans (HB3.out.mono hb0.out.size)⟩
    · have q1 : cmpI 3 2 = 1 := rfl
      have HV : Hid (R = 1) := by rw [HRR.out, hk, hk', show cmpI (rank 2) (rank 3) = 1 from rfl, thenC_ne _ (by omega)]; rfl
      clear HRR hk hx hk' hx' HRC HRC' HA HB' HT HCF
      clear hy
      clear hy'
      go_wp2_with (first | (go_at_call 83; refine (Calls.mono (rankAtom _ _) ?_); rintro e w2 ⟨rfl, hb⟩; have HB2 : Hid (Below W.heap.size W w2) := HB1.out.trans (hb.mono HB1.out.size); clear hb) | (go_at_call 81; refine (Calls.mono (rankInt _ _) ?_); rintro e w3 ⟨rfl, hb⟩; have HB3 : Hid (Below W.heap.size W w3) := HB2.out.trans (hb.mono HB2.out.size); clear hb) | (go_at_call 50; refine (Calls.mono (HI.out _ _ _) ?_); rintro e w4 ⟨rfl, rfl⟩))
      go_ret
      exact ⟨by rw [HV.out]; rfl, hb0.out.trans (HB3.out.mono hb0.out.size)⟩
    · have q1 : cmpI 3 3 = 0 := rfl
      have HV : Hid (R = cmpS s s') := by rw [HRR.out, hk, hk', hx, hx', hy, hy', show cmpI (rank 2) (rank 2) = 0 from rfl, thenC_zero, show cmpI (([] : List Tm).length : Int) (([] : List Tm).length : Int) = 0 from rfl, thenC_zero, show cmpI 0 0 = 0 from rfl, thenC_zero]; exact thenC_last _
      clear HRR hk hx hy hk' hx' hy' HRC HRC' HCF
      go_wp2_with (fail)
      go_at_call 83
      refine (Calls.mono (rankAtom _ _) ?_)
      rintro e w2 ⟨rfl, hb⟩
      have HB2 : Hid (Below W.heap.size W w2) := HB1.out.trans (hb.mono HB1.out.size)
      clear hb
      go_wp2_with (fail)
      go_at_call 83
      refine (Calls.mono (rankAtom _ _) ?_)
      rintro e w3 ⟨rfl, hb⟩
      have HB3 : Hid (Below W.heap.size W w3) := HB2.out.trans (hb.mono HB2.out.size)
      clear hb
      obtain ⟨x0, x1, x2, x3⟩ := HA.out w3 HB3.out
      obtain ⟨y0, y1, y2, y3⟩ := HB'.out w3 HB3.out
      go_wp2_with (first | (go_at_call 50; refine (Calls.mono (HI.out _ _ _) ?_); rintro e w4 ⟨rfl, rfl⟩) | (go_at_call 51; refine (Calls.mono (HT.out _ _ _) ?_); rintro e w5 ⟨rfl, rfl⟩))
      go_ret
      exact ⟨by rw [HV.out]; rfl, hb0.out.trans (HB3.out.mono hb0.out.size)⟩
    · have q1 : cmpI 3 4 = -1 := rfl
      have HV : Hid (R = -1) := by rw [HRR.out, hk, hk', show cmpI (rank 2) (rank 4) = -1 from rfl, thenC_ne _ (by omega)]; rfl
      clear HRR hk hx hk' hx' HRC HRC' HA HB' HT HCF
      clear hy
      go_wp2_with (first | (go_at_call 83; refine (Calls.mono (rankAtom _ _) ?_); rintro e w2 ⟨rfl, hb⟩; have HB2 : Hid (Below W.heap.size W w2) := HB1.out.trans (hb.mono HB1.out.size); clear hb) | (go_at_call 78; refine (Calls.mono (rankStruct _ _ _ _ _) ?_); rintro e w3 ⟨rfl, hb⟩; have HB3 : Hid (Below W.heap.size W w3) := HB2.out.trans (hb.mono HB2.out.size); clear hb) | (go_at_call 50; refine (Calls.mono (HI.out _ _ _) ?_); rintro e w4 ⟨rfl, rfl⟩))
      go_ret
      exact ⟨by rw [HV.out]; rfl, hb0.out.trans (HB3.out.mono hb0.out.size)⟩
  · rcases HRC'.out with ⟨rfl, hk', hx', hy'⟩ | ⟨rfl, hk', hx', hy'⟩ | ⟨rfl, hk', hx', hy'⟩ | ⟨rfl, hk', hx'⟩
    · have q1 : cmpI 4 1 = 1 := rfl
      have HV : Hid (R = 1) := by rw [HRR.out, hk, hk', show cmpI (rank 4) (rank 1) = 1 from rfl, thenC_ne _ (by omega)]; rfl
      clear HRR hk hx hk' hx' HRC HRC' HA HB' HT HCF
      clear hy'
      go_wp2_with (first | (go_at_call 78; refine (Calls.mono (rankStruct _ _ _ _ _) ?_); rintro e w2 ⟨rfl, hb⟩; have HB2 : Hid (Below W.heap.size W w2) := HB1.out.trans (hb.mono HB1.out.size); clear hb) | (go_at_call 79; refine (Calls.mono (rankVar _ _) ?_); rintro e w3 ⟨rfl, hb⟩; have HB3 : Hid (Below W.heap.size W w3) := HB2.out.trans (hb.mono HB2.out.size); clear hb) | (go_at_call 50; refine (Calls.mono (HI.out _ _ _) ?_); rintro e w4 ⟨rfl, rfl⟩))
      go_ret
      exact ⟨by rw [HV.out]; rfl, hb0.out.trans (HB3.out.mono hb0.out.size)⟩
    · have q1 : cmpI 4 2 = 1 := rfl
      have HV : Hid (R = 1) := by rw [HRR.out, hk, hk', show cmpI (rank 4) (rank 3) = 1 from rfl, thenC_ne _ (by omega)]; rfl
      clear HRR hk hx hk' hx' HRC HRC' HA HB' HT HCF
      clear hy'
      go_wp2_with (first | (go_at_call 78; refine (Calls.mono (rankStruct _ _ _ _ _) ?_); rintro e w2 ⟨rfl, hb⟩; have HB2 : Hid (Below W.heap.size W w2) := HB1.out.trans (hb.mono HB1.out.size); clear hb) | (go_at_call 81; refine (Calls.mono (rankInt _ _) ?_); rintro e w3 ⟨rfl, hb⟩; have HB3 : Hid (Below W.heap.size W w3) := HB2.out.trans (hb.mono HB2.out.size); clear hb) | (go_at_call 50; refine (Calls.mono (HI.out _ _ _) ?_); rintro e w4 ⟨rfl, rfl⟩))
      go_ret
      exact ⟨by rw [HV.out]; rfl, hb0.out.trans (HB3.out.mono hb0.out.size)⟩
    · have q1 : cmpI 4 3 = 1 := rfl
      have HV : Hid (R = 1) := by rw [HRR.out, hk, hk', show cmpI (rank 4) (rank 2) = 1 from rfl, thenC_ne _ (by omega)]; rfl
      clear HRR hk hx hk' hx' HRC HRC' HA HB' HT HCF
      clear hy'
      go_wp2_with (first | (go_at_call 78; refine (Calls.mono (rankStruct _ _ _ _ _) ?_); rintro e w2 ⟨rfl, hb⟩; have HB2 : Hid (Below W.heap.size W w2) := HB1.out.trans (hb.mono HB1.out.size); clear hb) | (go_at_call 83; refine (Calls.mono (rankAtom _ _) ?_); rintro e w3 ⟨rfl, hb⟩; have HB3 : Hid (Below W.heap.size W w3) := HB2.out.trans (hb.mono HB2.out.size); clear hb) | (go_at_call 50; refine (Calls.mono (HI.out _ _ _) ?_); rintro e w4 ⟨rfl, rfl⟩))
      go_ret
      exact ⟨by rw [HV.out]; rfl, hb0.out.trans (HB3.out.mono hb0.out.size)⟩
    · have q1 : cmpI 4 4 = 0 := rfl
      have hR := HRR.out
      rw [hk, hk', hx, hx', show cmpI (rank 4) (rank 4) = 0 from rfl, thenC_zero, show cmpI 0 0 = 0 from rfl, thenC_zero] at hR
      have HLN : Hid (cmpI (ks.length : Int) (us.length : Int) = 0 → ks.length = us.length) := fun h => by have := cmpI_zero h; exact Int.ofNat.inj this
      clear HRR hk hx hk' hx' HRC HRC'
      by_cases h1 : cmpI (ks.length : Int) (us.length : Int) = 0
      rotate_left
      · have e1 : (cmpI (ks.length : Int) (us.length : Int) == 0) = false := beq_eq_false_iff_ne.2 h1
        rw [thenC_ne _ h1] at hR
        have HV : Hid _ := hR
        clear hR
        go_wp2_with (fail)
        go_at_call 78
        refine (Calls.mono (rankStruct _ _ _ _ _) ?_)
        rintro e w2 ⟨rfl, hb⟩
        have HB2 : Hid (Below W.heap.size W w2) := HB1.out.trans (hb.mono HB1.out.size)
        clear hb
        go_wp2_with (fail)
        go_at_call 78
        refine (Calls.mono (rankStruct _ _ _ _ _) ?_)
        rintro e w3 ⟨rfl, hb⟩
        have HB3 : Hid (Below W.heap.size W w3) := HB2.out.trans (hb.mono HB2.out.size)
        clear hb
        obtain ⟨x0, x1, x2, x3⟩ := HA.out w3 HB3.out
        obtain ⟨y0, y1, y2, y3⟩ := HB'.out w3 HB3.out
        go_wp2_with (first | (go_at_call 50; refine (Calls.mono (HI.out _ _ _) ?_); rintro e w4 ⟨rfl, rfl⟩))
        go_ret
        exact ⟨by rw [HV.out]; rfl, hb0.out.trans (HB3.out.mono hb0.out.size)⟩
      rw [h1, thenC_zero] at hR
      by_cases h2 : cmpS s s' = 0
      rotate_left
      · have e1 : (cmpS s s' == 0) = false := beq_eq_false_iff_ne.2 h2
        rw [thenC_ne _ h2] at hR
        have HV : Hid _ := hR
        clear hR
        go_wp2_with (fail)
        go_at_call 78
        refine (Calls.mono (rankStruct _ _ _ _ _) ?_)
        rintro e w2 ⟨rfl, hb⟩
        have HB2 : Hid (Below W.heap.size W w2) := HB1.out.trans (hb.mono HB1.out.size)
        clear hb
        go_wp2_with (fail)
        go_at_call 78
        refine (Calls.mono (rankStruct _ _ _ _ _) ?_)
        rintro e w3 ⟨rfl, hb⟩
        have HB3 : Hid (Below W.heap.size W w3) := HB2.out.trans (hb.mono HB2.out.size)
        clear hb
        obtain ⟨x0, x1, x2, x3⟩ := HA.out w3 HB3.out
        obtain ⟨y0, y1, y2, y3⟩ := HB'.out w3 HB3.out
        go_wp2_with (first | (go_at_call 50; refine (Calls.mono (HI.out _ _ _) ?_); rintro e w4 ⟨rfl, rfl⟩) | (go_at_call 51; refine (Calls.mono (HT.out _ _ _) ?_); rintro e w6 ⟨rfl, rfl⟩))
        go_ret
        exact ⟨by rw [HV.out]; rfl, hb0.out.trans (HB3.out.mono hb0.out.size)⟩
      · rw [h2, thenC_zero] at hR
        have HLL : Hid _ := HLN.out h1
        have HV : Hid _ := hR
        clear hR
        go_wp2_with (fail)
        go_at_call 78
        refine (Calls.mono (rankStruct _ _ _ _ _) ?_)
        rintro e w2 ⟨rfl, hb⟩
        have HB2 : Hid (Below W.heap.size W w2) := HB1.out.trans (hb.mono HB1.out.size)
        clear hb
        go_wp2_with (fail)
        go_at_call 78
        refine (Calls.mono (rankStruct _ _ _ _ _) ?_)
        rintro e w3 ⟨rfl, hb⟩
        have HB3 : Hid (Below W.heap.size W w3) := HB2.out.trans (hb.mono HB2.out.size)
        clear hb
        obtain ⟨x0, x1, x2, x3⟩ := HA.out w3 HB3.out
        obtain ⟨y0, y1, y2, y3⟩ := HB'.out w3 HB3.out
        go_wp2_with (first | (go_at_call 50; refine (Calls.mono (HI.out _ _ _) ?_); rintro e w4 ⟨rfl, rfl⟩) | (go_at_call 51; refine (Calls.mono (HT.out _ _ _) ?_); rintro e w6 ⟨rfl, rfl⟩) | (go_at_call 52; refine (Calls.mono (HCF.out _ HB3.out HLL.out) ?_); rintro e w7 ⟨rfl, hb⟩; have HB7 : Hid (Below W.heap.size W w7) := HB3.out.trans (hb.mono HB3.out.size); clear hb))
        go_ret
        exact ⟨by rw [HV.out]; rfl, hb0.out.trans (HB7.out.mono hb0.out.size)⟩
end Go.Proofs.Ytgkchpjincmjfal

/- Whether two terms are the same: the plain rule, and the specification's. -/
import Derived.Test.YtgkchpjincmjfalTmOwn
import Derived.Test.YtgkchpjincmjfalRegLater
import Derived.Test.YtgkchpjincmjfalRows
import Derived.ProofKit
import Derived.BigQuiet
namespace Go.Proofs.Ytgkchpjincmjfal
open Go.RowKit

def Tm.same : Tm → Tm → Bool
  | .mk k s n ks, .mk k' s' n' ks' => decide (k = k') && (s.toList == s'.toList) && decide (n = n') && decide (ks.length = ks'.length) && sames ks ks'
where sames : List Tm → List Tm → Bool
  | t :: ts, u :: us => t.same u && sames ts us
  | _, _ => true
abbrev sames := Tm.same.sames
theorem same_mk (k : Int) (s : ByteArray) (n : Int) (ks : List Tm) (k' : Int) (s' : ByteArray) (n' : Int) (ks' : List Tm) :
    (Tm.mk k s n ks).same (Tm.mk k' s' n' ks') = (decide (k = k') && (s.toList == s'.toList) && decide (n = n') && decide (ks.length = ks'.length) && sames ks ks') := by simp [Tm.same, sames]
theorem sames_cons (t : Tm) (ts : List Tm) (u : Tm) (us : List Tm) : sames (t :: ts) (u :: us) = (t.same u && sames ts us) := by simp [sames, Tm.same.sames]
theorem sames_nil (us : List Tm) : sames [] us = true := by simp [sames, Tm.same.sames]
theorem sames_take : ∀ {ks us : List Tm} {j : Nat} (hj : j < ks.length) (hu : j < us.length), sames (ks.take j) (us.take j) = true → ks[j].same us[j] = true → sames (ks.take (j + 1)) (us.take (j + 1)) = true
  | t :: ts, u :: us, 0, _, _, _, h => by simp only [List.take_succ_cons, List.take_zero, sames_cons, sames_nil, Bool.and_true]; exact h
  | t :: ts, u :: us, j + 1, hj, hu, h0, h => by
    simp only [List.take_succ_cons, sames_cons, Bool.and_eq_true] at h0 ⊢
    exact ⟨h0.1, sames_take (by simpa using hj) (by simpa using hu) h0.2 (by simpa using h)⟩
theorem sames_no : ∀ {ks us : List Tm} {j : Nat} (hj : j < ks.length) (hu : j < us.length), ks[j].same us[j] = false → sames ks us = false
  | t :: ts, u :: us, 0, _, _, h => by rw [sames_cons, show t.same u = false from h, Bool.false_and]
  | t :: ts, u :: us, j + 1, hj, hu, h => by
    rw [sames_cons, sames_no (ks := ts) (us := us) (j := j) (by simpa using hj) (by simpa using hu) (by simpa using h), Bool.and_false]

def SameOk (t : Tm) : Prop := ∀ (w : World) (u : Tm) (va vb : Value), TmIn w t va → TmIn w u vb →
  Calls Try.prog 16 #[va, vb] w fun e w' => e = .returned (.bool (t.same u)) ∧ Below w.heap.size w w'

set_option maxHeartbeats 1000000 in
theorem same_term (t : Tm) : SameOk t := by
  refine tm_ind (p := SameOk) ?_ t
  clear t
  intro k s n ks hks w u va vb hin hin'
  obtain ⟨k', s', n', us⟩ := u
  unfold TmIn at hin hin'
  obtain ⟨ao, ca, rfl, hk, hn, hs, hlen, hcap, hrow⟩ := hin
  obtain ⟨bo, cb, rfl, hk', hn', hs', hlen', hcap', hrow'⟩ := hin'
  unfold maxLen at *
  rw [same_mk]
  obtain ⟨W, hW⟩ : ∃ W, W = ((w.alloc (.cells #[.int .i64 k, .string s, .int .i64 n, .slice ao ks.length ca] 29)).alloc (.cells #[.int .i64 k', .string s', .int .i64 n', .slice bo us.length cb] 29)) := ⟨_, rfl⟩
  have hb0 : Below w.heap.size w W := by rw [hW]; exact ((Below.refl _ _).alloc (Nat.le_refl _) _).alloc (by simp) _
  by_cases h1 : k = k'
  · subst h1
    cases h2 : (s.toList == s'.toList) with
    | true =>
      by_cases h3 : n = n'
      · subst h3
        by_cases h4 : ks.length = us.length
        · rw [decide_eq_true rfl, decide_eq_true rfl, decide_eq_true h4, Bool.true_and, Bool.true_and, Bool.true_and]
          rw [← h4] at hW hlen'
          rw [← h4]
          have H4 : Hid _ := h4
          clear h4
          have HA : Hid (∀ wr, Below W.heap.size W wr → wr.cell? ⟨w.heap.size, 3, none⟩ = some (.slice ao ks.length ca)) := fun wr hb => cell_keep (w := W) (by rw [hW]; simp) hb
          have HB' : Hid (∀ wr, Below W.heap.size W wr → wr.cell? ⟨w.heap.size + 1, 3, none⟩ = some (.slice bo ks.length cb)) := fun wr hb => cell_keep (w := W) (by rw [hW]; simp) hb
          have HRA : Hid (∀ wr, Below W.heap.size W wr → ks ≠ [] → ∃ b off, ao = some ⟨b, off, none⟩ ∧ TmsIn wr ks b off) := fun wr hb h0 => by
            obtain ⟨b, off, e, hr⟩ := hrow h0
            exact ⟨b, off, e, TmsIn.keep hb ks b off (TmsIn.keep hb0 ks b off hr)⟩
          have HRB : Hid (∀ wr, Below W.heap.size W wr → us ≠ [] → ∃ b off, bo = some ⟨b, off, none⟩ ∧ TmsIn wr us b off) := fun wr hb h0 => by
            obtain ⟨b, off, e, hr⟩ := hrow' h0
            exact ⟨b, off, e, TmsIn.keep hb us b off (TmsIn.keep hb0 us b off hr)⟩
          have HKS : Hid _ := hks
          replace hb0 : Hid _ := hb0
          clear hrow hrow' hks
          go_enter Try.func16, Try.ntmps16
          go_wp2
          rw [← hW]
          clear hW
          go_loopw [5] (fun vi wr => Hid (Below W.heap.size W wr) ∧ ∃ j : Nat, j ≤ ks.length ∧ vi = .int .i64 (j : Int) ∧ Hid (sames (ks.take j) (us.take j) = true)) (fun i _ => ks.length - (intOf i).toNat)
          case atStart => exact ⟨Below.refl _ _, 0, by omega, rfl, by show _ = _; rfl⟩
          case round =>
            obtain ⟨HB, j, hj, rfl, HL⟩ := hrel
            have c3 := HA.out wr HB.out
            by_cases hlt : j < ks.length
            · have hlu : j < us.length := by rw [← H4.out]; exact hlt
              obtain ⟨b, off, rfl, hin⟩ := HRA.out wr HB.out (by intro e; subst e; simp at hlt)
              obtain ⟨b', off', rfl, hin'⟩ := HRB.out wr HB.out (by intro e; subst e; simp at hlu)
              obtain ⟨c0, c1, c2, d3, h0, h1, h2', h3, ht⟩ := hin.at j hlt
              obtain ⟨e0, e1, e2, e3, g0, g1, g2, g3, gt⟩ := hin'.at j hlu
              have HC : Hid (∀ u, Calls Try.prog 16 #[.agg #[c0, c1, c2, d3], .agg #[e0, e1, e2, e3]] (later wr u) fun e w' => e = .returned (.bool (ks[j].same us[j])) ∧ Below (later wr u).heap.size (later wr u) w') := fun u =>
                HKS.out ks[j] (List.getElem_mem hlt) (later wr u) us[j] _ _ (TmIn.keep (later_below wr u) _ _ ht) (TmIn.keep (later_below wr u) _ _ gt)
              have m3 : ∀ u, (later wr u).cell? ⟨w.heap.size, 3, none⟩ = some (.slice (some ⟨b, off, none⟩) ks.length ca) := fun u => cell_keep c3 (later_below wr u)
              have n3 : ∀ u, (later wr u).cell? ⟨w.heap.size + 1, 3, none⟩ = some (.slice (some ⟨b', off', none⟩) ks.length cb) := fun u => cell_keep (HB'.out wr HB.out) (later_below wr u)
              have k0 : ∀ u, (later wr u).cell? ⟨b, off + j * 4, none⟩ = some c0 := fun u => cell_keep h0 (later_below wr u)
              have k1 : ∀ u, (later wr u).cell? ⟨b, off + j * 4 + 1, none⟩ = some c1 := fun u => cell_keep h1 (later_below wr u)
              have k2 : ∀ u, (later wr u).cell? ⟨b, off + j * 4 + 2, none⟩ = some c2 := fun u => cell_keep h2' (later_below wr u)
              have k3 : ∀ u, (later wr u).cell? ⟨b, off + j * 4 + 3, none⟩ = some d3 := fun u => cell_keep h3 (later_below wr u)
              have l0 : ∀ u, (later wr u).cell? ⟨b', off' + j * 4, none⟩ = some e0 := fun u => cell_keep g0 (later_below wr u)
              have l1 : ∀ u, (later wr u).cell? ⟨b', off' + j * 4 + 1, none⟩ = some e1 := fun u => cell_keep g1 (later_below wr u)
              have l2 : ∀ u, (later wr u).cell? ⟨b', off' + j * 4 + 2, none⟩ = some e2 := fun u => cell_keep g2 (later_below wr u)
              have l3 : ∀ u, (later wr u).cell? ⟨b', off' + j * 4 + 3, none⟩ = some e3 := fun u => cell_keep g3 (later_below wr u)
              clear hin hin' ht gt h0 h1 h2' h3 g0 g1 g2 g3 HRA HRB HKS HA HB'
              cases hj1 : ks[j].same us[j] with
              | true =>
                rw [hj1] at HC
                have HL' : Hid _ := sames_take hlt hlu HL.out hj1
                clear HL hj1
                go_wp2
                refine wp_region_later (by kernel_rfl) (by kernel_rfl) ?_
                repeat (go_big_quiet_step ((go_at_call 16; exact Calls.later_of_below (HC.out _))))
                refine wpQuiet_nil ?_
                rintro _ ⟨u, rfl⟩
                have hb2 := later_below wr u
                clear k0 k1 k2 k3 l0 l1 l2 l3 m3 n3
                go_wp2
                go_roundw
                case rel => exact ⟨HB.out.trans (hb2.mono HB.out.size), j + 1, by omega, by go_num, HL'.out⟩
                case measure => simp [intOf]; omega
              | false =>
                rw [hj1] at HC
                have HF : Hid _ := sames_no hlt hlu hj1
                clear HL hj1
                go_wp2
                refine wp_region_later (by kernel_rfl) (by kernel_rfl) ?_
                repeat (go_big_quiet_step ((go_at_call 16; exact Calls.later_of_below (HC.out _))))
                refine wpQuiet_nil ?_
                rintro _ ⟨u, rfl⟩
                have hb2 := later_below wr u
                clear k0 k1 k2 k3 l0 l1 l2 l3 m3 n3
                go_wp2
                go_ret
                exact ⟨by rw [HF.out]; rfl, hb0.out.trans ((HB.out.trans (hb2.mono HB.out.size)).mono hb0.out.size)⟩
            · have hf := HL.out
              rw [List.take_of_length_le (by omega), List.take_of_length_le (by rw [← H4.out]; omega)] at hf
              have HF : Hid _ := hf
              clear HL hf HRA HRB HKS HA HB'
              go_wp2
              go_ret
              exact ⟨by rw [HF.out]; rfl, hb0.out.trans (HB.out.mono hb0.out.size)⟩
        · rw [decide_eq_false h4]
          simp only [Bool.and_false, Bool.false_and]
          rw [hW] at hb0
          clear hrow hrow' hks hW
          go_enter Try.func16, Try.ntmps16
          go_wp2
          go_ret
          exact ⟨rfl, hb0⟩
      · rw [decide_eq_false h3]
        simp only [Bool.and_false, Bool.false_and]
        rw [hW] at hb0
        clear hrow hrow' hks hW
        go_enter Try.func16, Try.ntmps16
        go_wp2
        go_ret
        exact ⟨rfl, hb0⟩
    | false =>
      simp only [Bool.and_false, Bool.false_and]
      rw [hW] at hb0
      clear hrow hrow' hks hW
      go_enter Try.func16, Try.ntmps16
      go_wp2
      go_ret
      exact ⟨rfl, hb0⟩
  · rw [decide_eq_false h1]
    simp only [Bool.false_and]
    rw [hW] at hb0
    clear hrow hrow' hks hW
    go_enter Try.func16, Try.ntmps16
    go_wp2
    go_ret
    exact ⟨rfl, hb0⟩
end Go.Proofs.Ytgkchpjincmjfal

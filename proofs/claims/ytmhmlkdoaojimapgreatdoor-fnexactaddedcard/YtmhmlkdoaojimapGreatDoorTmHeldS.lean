/- laws.heldTermS: what was marked is found as it was marked. -/
import Derived.Test.YtmhmlkdoaojimapGreatDoorRows
import Derived.Test.YtmhmlkdoaojimapGreatDoorMrg29
import Derived.Test.YtmhmlkdoaojimapGreatDoorMrg3
import Derived.BigQuiet
namespace Go.Proofs.YtmhmlkdoaojimapGreatDoor
open Go.RowKit

def HeldOk (ks : List Tm) : Prop := ∀ (w : World) (ao : Option Addr) (cap c : Nat), 0 < c → c + 3 * ns ks ≤ 2305843009213693952 → ks.length ≤ cap → cap ≤ maxLen → (ks ≠ [] → ∃ b off, ao = some ⟨b, off, none⟩ ∧ TmsIn w (markL ks c) b off) →
  Calls Tryz.prog 50 #[.slice ao ks.length cap, .int .i64 (c : Int)] w fun e w' => e = .returned (.int .i64 ((c + 3 * ns ks : Nat) : Int)) ∧ Below w.heap.size w w'

set_option maxHeartbeats 4000000 in
set_option maxRecDepth 20000 in
theorem held_list (ks : List Tm) (hks : ∀ t ∈ ks, HeldOk t.kids) : HeldOk ks := by
  intro w ao cap c hc0 hcm hlen hcap hrow
  unfold maxLen at hcap
  have HR : Hid (∀ wr, Below w.heap.size w wr → ks ≠ [] → ∃ b off, ao = some ⟨b, off, none⟩ ∧ TmsIn wr (markL ks c) b off) := fun wr hb h0 => by
    obtain ⟨b, off, e, hr⟩ := hrow h0
    exact ⟨b, off, e, TmsIn.keep hb _ b off hr⟩
  have HKS : Hid _ := hks
  clear hks hrow
  have HBD : Hid (∀ j, c + 3 * ns (ks.take j) ≤ c + 3 * ns ks) := fun j => by
    have : ns (ks.take j) + ns (ks.drop j) = ns ks := by rw [← ns_append, List.take_append_drop]
    omega
  go_enter Tryz.func50, Tryz.ntmps50
  go_wp2
  go_loopw [1, 5] (fun vk vi wr => Hid (Below w.heap.size w wr) ∧ ∃ (j cj : Nat), j ≤ ks.length ∧ vi = .int .i64 (j : Int) ∧ vk = .int .i64 (cj : Int) ∧ Hid (cj = c + 3 * ns (ks.take j))) (fun _ i _ => ks.length - (intOf i).toNat)
  case atStart => exact ⟨Below.refl _ _, 0, c, by omega, rfl, rfl, by show _ = _; simp [ns, Tm.n.ns]⟩
  case round =>
    obtain ⟨HB, j, cj, hj, rfl, rfl, HCJ⟩ := hrel
    have hcjm : cj ≤ 2305843009213693952 := by have := HCJ.out; have := HBD.out j; omega
    have hcj0 : 0 < cj := by have := HCJ.out; omega
    by_cases hlt : j < ks.length
    · obtain ⟨b, off, rfl, hin⟩ := HR.out wr HB.out (by intro e; subst e; simp at hlt)
      have hlm : j < (markL ks c).length := by rw [markL_len]; exact hlt
      obtain ⟨c0, c1, c2, c3, h0, h1, h2, h3, ht⟩ := hin.at j hlm
      rw [markL_at hlt, ← HCJ.out] at ht
      obtain ⟨kj, hkj⟩ : ∃ kj, kj = ks[j] := ⟨_, rfl⟩
      have hK1 : HeldOk ks[j].kids := HKS.out ks[j] (List.getElem_mem hlt)
      rw [← hkj] at ht hK1
      obtain ⟨k1, s1, n1, kids⟩ := kj
      have hKn : ks[j].n = 1 + ns kids := by rw [← hkj, n_mk]
      replace hK1 : HeldOk kids := hK1
      rw [markT_mk] at ht
      unfold TmIn at ht
      obtain ⟨ao1, cap1, he, _, _, _, hl1, hm1, hr1⟩ := ht
      rw [markL_len] at he hl1
      obtain ⟨mt, hmt⟩ : ∃ mt : ByteArray, mt = ⟨(mkS (cj + 1)).toArray⟩ := ⟨_, rfl⟩
      rw [← hmt] at he
      obtain ⟨rfl, rfl, rfl, rfl⟩ : c0 = .int .i64 (cj : Int) ∧ c1 = .string mt ∧ c2 = .int .i64 ((cj + 2 : Nat) : Int) ∧ c3 = .slice ao1 kids.length cap1 := by simpa using he
      rw [show ((cj + 2 : Nat) : Int) = (cj : Int) + 1 + 1 by omega] at h2
      have HMK : Hid (∀ w, Calls Tryz.prog 48 #[.int .i64 ((cj : Int) + 1)] w fun e w' => e = .returned (.string mt) ∧ Below w.heap.size w w') := fun w => by
        have := mark_any (cj + 1) w (by omega) (by omega)
        rw [hmt]
        rwa [show ((cj + 1 : Nat) : Int) = (cj : Int) + 1 by omega] at this
      have hbd3 : cj + 3 + 3 * ns kids ≤ 2305843009213693952 := by
        have h1 := HCJ.out
        have h2 := HBD.out (j + 1)
        rw [List.take_succ_eq_append_getElem hlt, ns_append, show ns [ks[j]] = ks[j].n by simp [ns, Tm.n.ns], hKn] at h2
        omega
      have HNC : Hid (cj + 3 + 3 * ns kids = c + 3 * ns (ks.take (j + 1))) := by
        show _ = _
        rw [List.take_succ_eq_append_getElem hlt, ns_append, show ns [ks[j]] = ks[j].n by simp [ns, Tm.n.ns], hKn, HCJ.out]
        omega
      have HREC : Hid (∀ w1, Below wr.heap.size wr w1 → Calls Tryz.prog 50 #[.slice ao1 kids.length cap1, .int .i64 ((cj : Int) + 1 + 1 + 1)] w1 fun e w' => e = .returned (.int .i64 ((cj + 3 + 3 * ns kids : Nat) : Int)) ∧ Below w1.heap.size w1 w') := fun w1 hb => by
        have := hK1 w1 ao1 cap1 (cj + 3) (by omega) hbd3 hl1 hm1 (fun h0 => by
          obtain ⟨b1, off1, e1, hr2⟩ := hr1 (by intro e; apply h0; rw [← List.length_eq_zero_iff, ← markL_len kids (cj + 3), e]; rfl)
          exact ⟨b1, off1, e1, TmsIn.keep hb _ _ _ hr2⟩)
        rwa [show ((cj + 3 : Nat) : Int) = (cj : Int) + 1 + 1 + 1 by omega] at this
      have HCL : Hid (∀ w1, Below wr.heap.size wr w1 → w1.cell? ⟨b, off + j * 4, none⟩ = some (.int .i64 (cj : Int)) ∧ w1.cell? ⟨b, off + j * 4 + 1, none⟩ = some (.string mt) ∧ w1.cell? ⟨b, off + j * 4 + 2, none⟩ = some (.int .i64 ((cj : Int) + 1 + 1)) ∧ w1.cell? ⟨b, off + j * 4 + 3, none⟩ = some (.slice ao1 kids.length cap1)) := fun w1 hb =>
        ⟨cell_keep h0 hb, cell_keep h1 hb, cell_keep h2 hb, cell_keep h3 hb⟩
      have l1 : ∀ u, (later wr u).cell? ⟨b, off + j * 4 + 1, none⟩ = some (.string mt) := fun u => (HCL.out _ (later_below wr u)).2.1
      have hnn : ¬ ((cj + 3 + 3 * ns kids : Nat) : Int) < 0 := by omega
      generalize cj + 3 + 3 * ns kids = nx at *
      clear he hin hr1 hK1 hKn hkj hmt HKS HR HBD
      go_wp2
      refine wp_region_later (by kernel_rfl) (by kernel_rfl) ?_
      repeat (go_big_quiet_step ((go_at_call 48; exact Calls.later_of_below (HMK.out _))))
      refine wpQuiet_nil ?_
      rintro _ ⟨u, rfl⟩
      have HB1 : Hid (Below wr.heap.size wr (later wr u)) := later_below wr u
      generalize later wr u = w1 at *
      obtain ⟨m0, m1, m2, m3⟩ := HCL.out w1 HB1.out
      clear l1
      go_wp2_with (go_at_call 50; refine (Calls.mono (HREC.out w1 HB1.out) ?_); rintro e w4 ⟨rfl, hb⟩; have HB4 : Hid (Below w.heap.size w w4) := HB.out.trans ((HB1.out.trans (hb.mono HB1.out.size)).mono HB.out.size); clear hb)
      go_roundw
      case rel => exact ⟨HB4.out, j + 1, nx, by omega, by go_num, rfl, HNC.out⟩
      case measure => simp [intOf]; omega
    · have HC2 : Hid (cj = c + 3 * ns ks) := by
        have := HCJ.out
        rw [List.take_of_length_le (by omega)] at this
        exact this
      clear HCJ HKS HBD HR
      go_wp2
      go_ret
      exact ⟨by rw [← HC2.out]; rfl, HB.out⟩

theorem held_all (ks : List Tm) : HeldOk ks :=
  tm_ind (p := fun t => HeldOk t.kids) (fun _ _ _ ks h => held_list ks h) (Tm.mk 0 ⟨#[]⟩ 0 ks)
end Go.Proofs.YtmhmlkdoaojimapGreatDoor

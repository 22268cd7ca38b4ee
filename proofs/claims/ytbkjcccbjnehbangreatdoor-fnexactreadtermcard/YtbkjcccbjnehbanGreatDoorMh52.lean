import Derived.Test.YtbkjcccbjnehbanGreatDoorRows
import Derived.Test.YtbkjcccbjnehbanGreatDoorMh51
import Derived.Test.YtbkjcccbjnehbanGreatDoorMh5
import Derived.BigQuiet
import Derived.Test.YtbkjcccbjnehbanGreatDoorMh1
import Derived.ProofKit
import Derived.Test.YtbkjcccbjnehbanGreatDoorMh49
namespace Go.Proofs.YtbkjcccbjnehbanGreatDoor
open Go.RowKit
def HeldOk (ks : List Tm) : Prop := ∀ (w : World) (ao : Option Addr) (cap c : Nat), 0 < c → c + 3 * ns ks ≤ 2305843009213693952 → ks.length ≤ cap → cap ≤ maxLen → (ks ≠ [] → ∃ b off, ao = some ⟨b, off, none⟩ ∧ TmsIn w (markL ks c) b off) →
 Calls Tryz.prog 17 #[.slice ao ks.length cap, .int .i64 (c : Int)] w fun e w' => e = .returned (.int .i64 ((c + 3 * ns ks : Nat) : Int)) ∧ Below w.heap.size w w'
set_option maxHeartbeats 4000000 in
set_option maxRecDepth 20000 in
theorem held_list (ks : List Tm) (hks : ∀ t ∈ ks, HeldOk t.kids) : HeldOk ks := by
 intro w ao cap c hc0 hcm hlen hcap hrow
 unfold maxLen at hcap
 have HR : Hid (∀ wr, Below w.heap.size w wr → ks ≠ [] → ∃ b off, ao = some ⟨b, off, none⟩ ∧ TmsIn wr (markL ks c) b off) := fun wr hb h0 => by
   obtain ⟨b, off, e, hr⟩ := hrow h0
   exact ⟨b, off, e, TmsIn.keep hb _ b off hr⟩
 have HKS : Hid _ := hks
 clear hks hrow
 have HBD : Hid (∀ j, c + 3 * ns (ks.take j) ≤ c + 3 * ns ks) := fun j => by
   have : ns (ks.take j) + ns (ks.drop j) = ns ks := by rw [← ns_append, List.take_append_drop]
   omega
 go_enter Tryz.func17, Tryz.ntmps17
 go_wp2
 go_loopw [1, 5] (fun vk vi wr => Hid (Below w.heap.size w wr) ∧ ∃ (j cj : Nat), j ≤ ks.length ∧ vi = .int .i64 (j : Int) ∧ vk = .int .i64 (cj : Int) ∧ Hid (cj = c + 3 * ns (ks.take j))) (fun _ i _ => ks.length - (intOf i).toNat)
 case atStart => exact ⟨Below.refl _ _, 0, c, by omega, rfl, rfl, by show _ = _; simp [ns, Tm.n.ns]⟩
 case round =>
   obtain ⟨HB, j, cj, hj, rfl, rfl, HCJ⟩ := hrel
   have hcjm : cj ≤ 2305843009213693952 := by have := HCJ.out; have := HBD.out j; omega
   have hcj0 : 0 < cj := by have := HCJ.out; omega
   by_cases hlt : j < ks.length
   · obtain ⟨b, off, rfl, hin⟩ := HR.out wr HB.out (by intro e; subst e; simp at hlt)
     have hlm : j < (markL ks c).length := by rw [markL_len]; exact hlt
     obtain ⟨c0, c1, c2, c3, h0, h1, h2, h3, ht⟩ := hin.at j hlm
     rw [markL_at hlt, ← HCJ.out] at ht
     obtain ⟨kj, hkj⟩ : ∃ kj, kj = ks[j] := ⟨_, rfl⟩
     have hK1 : HeldOk ks[j].kids := HKS.out ks[j] (List.getElem_mem hlt)
     rw [← hkj] at ht hK1
     obtain ⟨k1, s1, n1, kids⟩ := kj
     have hKn : ks[j].n = 1 + ns kids := by rw [← hkj, n_mk]
     replace hK1 : HeldOk kids := hK1
     rw [markT_mk] at ht
     unfold TmIn at ht
     obtain ⟨ao1, cap1, he, _, _, _, hl1, hm1, hr1⟩ := ht
     rw [markL_len] at he hl1
     obtain ⟨mt, hmt⟩ : ∃ mt : ByteArray, mt = ⟨(mkS (cj + 1)).toArray⟩ := ⟨_, rfl⟩
     rw [← hmt] at he
     obtain ⟨rfl, rfl, rfl, rfl⟩ : c0 = .int .i64 (cj : Int) ∧ c1 = .string mt ∧ c2 = .int .i64 ((cj + 2 : Nat) : Int) ∧ c3 = .slice ao1 kids.length cap1 := by simpa using he
     rw [show ((cj + 2 : Nat) : Int) = (cj : Int) + 1 + 1 by omega] at h2
     have HMK : Hid (∀ w, Calls Tryz.prog 22 #[.int .i64 ((cj : Int) + 1)] w fun e w' => e = .returned (.string mt) ∧ Below w.heap.size w w') := fun w => by
       have := mark_any (cj + 1) w (by omega) (by omega)
       rw [hmt]
       rwa [show ((cj + 1 : Nat) : Int) = (cj : Int) + 1 by omega] at this
     have hbd3 : cj + 3 + 3 * ns kids ≤ 2305843009213693952 := by
       have h1 := HCJ.out
       have h2 := HBD.out (j + 1)
       rw [List.take_succ_eq_append_getElem hlt, ns_append, show ns [ks[j]] = ks[j].n by simp [ns, Tm.n.ns], hKn] at h2
       omega
     have HNC : Hid (cj + 3 + 3 * ns kids = c + 3 * ns (ks.take (j + 1))) := by
       show _ = _
       rw [List.take_succ_eq_append_getElem hlt, ns_append, show ns [ks[j]] = ks[j].n by simp [ns, Tm.n.ns], hKn, HCJ.out]
       omega
     have HREC : Hid (∀ w1, Below wr.heap.size wr w1 → Calls Tryz.prog 17 #[.slice ao1 kids.length cap1, .int .i64 ((cj : Int) + 1 + 1 + 1)] w1 fun e w' => e = .returned (.int .i64 ((cj + 3 + 3 * ns kids : Nat) : Int)) ∧ Below w1.heap.size w1 w') := fun w1 hb => by
       have := hK1 w1 ao1 cap1 (cj + 3) (by omega) hbd3 hl1 hm1 (fun h0 => by
         obtain ⟨b1, off1, e1, hr2⟩ := hr1 (by intro e; apply h0; rw [← List.length_eq_zero_iff, ← markL_len kids (cj + 3), e]; rfl)
         exact ⟨b1, off1, e1, TmsIn.keep hb _ _ _ hr2⟩)
       rwa [show ((cj + 3 : Nat) : Int) = (cj : Int) + 1 + 1 + 1 by omega] at this
     have HCL : Hid (∀ w1, Below wr.heap.size wr w1 → w1.cell? ⟨b, off + j * 4, none⟩ = some (.int .i64 (cj : Int)) ∧ w1.cell? ⟨b, off + j * 4 + 1, none⟩ = some (.string mt) ∧ w1.cell? ⟨b, off + j * 4 + 2, none⟩ = some (.int .i64 ((cj : Int) + 1 + 1)) ∧ w1.cell? ⟨b, off + j * 4 + 3, none⟩ = some (.slice ao1 kids.length cap1)) := fun w1 hb =>
       ⟨cell_keep h0 hb, cell_keep h1 hb, cell_keep h2 hb, cell_keep h3 hb⟩
     have l1 : ∀ u, (later wr u).cell? ⟨b, off + j * 4 + 1, none⟩ = some (.string mt) := fun u => (HCL.out _ (later_below wr u)).2.1
     have hnn : ¬ ((cj + 3 + 3 * ns kids : Nat) : Int) < 0 := by omega
     generalize cj + 3 + 3 * ns kids = nx at *
     clear he hin hr1 hK1 hKn hkj hmt HKS HR HBD
     go_wp2
     refine wp_region_later (by kernel_rfl) (by kernel_rfl) ?_
     repeat (go_big_quiet_step ((go_at_call 22; exact Calls.later_of_below (HMK.out _))))
     refine wpQuiet_nil ?_
     rintro _ ⟨u, rfl⟩
     have HB1 : Hid (Below wr.heap.size wr (later wr u)) := later_below wr u
     generalize later wr u = w1 at *
     obtain ⟨m0, m1, m2, m3⟩ := HCL.out w1 HB1.out
     clear l1
     go_wp2_with (go_at_call 17; refine (Calls.mono (HREC.out w1 HB1.out) ?_); rintro e w4 ⟨rfl, hb⟩; have HB4 : Hid (Below w.heap.size w w4) := HB.out.trans ((HB1.out.trans (hb.mono HB1.out.size)).mono HB.out.size); clear hb)
     go_roundw
     case rel => exact ⟨HB4.out, j + 1, nx, by omega, by go_num, rfl, HNC.out⟩
     case measure => simp [intOf]; omega
   · have HC2 : Hid (cj = c + 3 * ns ks) := by
       have := HCJ.out
       rw [List.take_of_length_le (by omega)] at this
       exact this
     clear HCJ HKS HBD HR
     go_wp2
     go_ret
     exact ⟨by rw [← HC2.out]; rfl, HB.out⟩
theorem held_all (ks : List Tm) : HeldOk ks :=
 tm_ind (p := fun t => HeldOk t.kids) (fun _ _ _ ks h => held_list ks h) (Tm.mk 0 ⟨#[]⟩ 0 ks)
set_option maxRecDepth 20000 in
theorem held_term (t : Tm) (w : World) (v : Value) (c : Nat) (h : TmIn w (t.markK c) v) (hc : 0 < c) (hb : c + 3 * ns t.kids ≤ 2305843009213693952) :
   Calls Tryz.prog 11 #[v, .int .i64 (c : Int)] w fun e w' => e = .returned (.int .i64 ((c + 3 * ns t.kids : Nat) : Int)) ∧ Below w.heap.size w w' := by
 obtain ⟨k, s, n, ks⟩ := t
 unfold Tm.markK TmIn at h
 obtain ⟨ao, cap, rfl, _, _, _, hl, hm, hr⟩ := h
 rw [markL_len] at *
 obtain ⟨W, hW⟩ : ∃ W, W = w.alloc (.cells #[.int .i64 k, .string s, .int .i64 n, .slice ao ks.length cap] 24) := ⟨_, rfl⟩
 have hbW : Below w.heap.size w W := by rw [hW]; exact (Below.refl _ _).alloc (Nat.le_refl _) _
 have HC := held_all ks W ao cap c hc hb hl hm (fun h0 => by
   obtain ⟨b1, off1, e1, hr2⟩ := hr (by intro e; apply h0; rw [← List.length_eq_zero_iff, ← markL_len ks c, e]; rfl)
   exact ⟨b1, off1, e1, TmsIn.keep hbW _ _ _ hr2⟩)
 rw [hW] at HC
 replace HC : Hid _ := HC
 have HBW : Hid _ := hbW
 change c + 3 * ns ks ≤ 2305843009213693952 at hb
 show Calls Tryz.prog 11 _ _ fun e w' => e = .returned (.int .i64 ((c + 3 * ns ks : Nat) : Int)) ∧ Below w.heap.size w w'
 have hnn : ¬ ((c + 3 * ns ks : Nat) : Int) < 0 := by omega
 generalize c + 3 * ns ks = nx at *
 clear hr hbW
 go_enter Tryz.func11, Tryz.ntmps11
 go_wp2_with (go_at_call 17; refine (Calls.mono HC.out ?_); rintro e w1 ⟨rfl, hb⟩; rw [← hW] at hb; have HU : Hid (Below w.heap.size w w1) := HBW.out.trans (hb.mono HBW.out.size); clear hb)
 go_ret
 exact ⟨rfl, HU.out⟩
end Go.Proofs.YtbkjcccbjnehbanGreatDoor

namespace Go.Proofs.YtbkjcccbjnehbanGreatDoor
open Go.RowKit
def EqOk (t : Tm) : Prop := ∀ (w : World) (va vb : Value), TmIn w t va → TmIn w t vb →
 Calls Tryz.prog 7 #[va, vb] w fun e w' => e = .returned (.bool true) ∧ Below w.heap.size w w'
theorem eq_terms (ks : List Tm) (hks : ∀ t ∈ ks, EqOk t) (w : World) (ao bo : Option Addr) (ca cb : Nat) (hlen : ks.length ≤ maxLen) (ha : ks ≠ [] → ∃ b off, ao = some ⟨b, off, none⟩ ∧ TmsIn w ks b off) (hb : ks ≠ [] → ∃ b off, bo = some ⟨b, off, none⟩ ∧ TmsIn w ks b off) :
   Calls Tryz.prog 15 #[.slice ao ks.length ca, .slice bo ks.length cb] w fun e w' => e = .returned (.bool true) ∧ Below w.heap.size w w' := by
 unfold maxLen at hlen
 go_enter Tryz.func15, Tryz.ntmps15
 go_wp2
 go_loopw [5] (fun vi wr => Hid (Below w.heap.size w wr) ∧ ∃ j : Nat, j ≤ ks.length ∧ vi = .int .i64 (j : Int)) (fun i _ => ks.length - (intOf i).toNat)
 case atStart => exact ⟨Below.refl _ _, 0, by omega, rfl⟩
 case round =>
   obtain ⟨HB, j, hj, rfl⟩ := hrel
   by_cases hlt : j < ks.length
   · have hne : ks ≠ [] := by intro e; subst e; simp at hlt
     obtain ⟨b, off, rfl, hin⟩ := ha hne
     obtain ⟨b', off', rfl, hin'⟩ := hb hne
     obtain ⟨c0, c1, c2, c3, h0, h1, h2, h3, ht⟩ := (TmsIn.keep HB.out ks b off hin).at j hlt
     obtain ⟨d0, d1, d2, d3, g0, g1, g2, g3, gt⟩ := (TmsIn.keep HB.out ks b' off' hin').at j hlt
     have HC : Hid (∀ u, Calls Tryz.prog 7 #[.agg #[c0, c1, c2, c3], .agg #[d0, d1, d2, d3]] (later wr u) fun e w' => e = .returned (.bool true) ∧ Below (later wr u).heap.size (later wr u) w') := fun u =>
       hks ks[j] (List.getElem_mem hlt) (later wr u) _ _ (TmIn.keep (later_below wr u) _ _ ht) (TmIn.keep (later_below wr u) _ _ gt)
     have k0 : ∀ u, (later wr u).cell? ⟨b, off + j * 4, none⟩ = some c0 := fun u => cell_keep h0 (later_below wr u)
     have k1 : ∀ u, (later wr u).cell? ⟨b, off + j * 4 + 1, none⟩ = some c1 := fun u => cell_keep h1 (later_below wr u)
     have k2 : ∀ u, (later wr u).cell? ⟨b, off + j * 4 + 2, none⟩ = some c2 := fun u => cell_keep h2 (later_below wr u)
     have k3 : ∀ u, (later wr u).cell? ⟨b, off + j * 4 + 3, none⟩ = some c3 := fun u => cell_keep h3 (later_below wr u)
     have l0 : ∀ u, (later wr u).cell? ⟨b', off' + j * 4, none⟩ = some d0 := fun u => cell_keep g0 (later_below wr u)
     have l1 : ∀ u, (later wr u).cell? ⟨b', off' + j * 4 + 1, none⟩ = some d1 := fun u => cell_keep g1 (later_below wr u)
     have l2 : ∀ u, (later wr u).cell? ⟨b', off' + j * 4 + 2, none⟩ = some d2 := fun u => cell_keep g2 (later_below wr u)
     have l3 : ∀ u, (later wr u).cell? ⟨b', off' + j * 4 + 3, none⟩ = some d3 := fun u => cell_keep g3 (later_below wr u)
     clear hin hin' ht gt ha hb hks h0 h1 h2 h3 g0 g1 g2 g3
     go_wp2
     refine wp_region_later (by kernel_rfl) (by kernel_rfl) ?_
     repeat (go_big_quiet_step ((go_at_call 7; exact Calls.later_of_below (HC.out _))))
     refine wpQuiet_nil ?_
     rintro _ ⟨u, rfl⟩
     have hb2 := later_below wr u
     clear k0 k1 k2 k3 l0 l1 l2 l3
     go_wp2
     go_roundw
     case rel => exact ⟨HB.out.trans (hb2.mono HB.out.size), j + 1, by omega, by go_num⟩
     case measure => simp [intOf]; omega
   · go_wp2
     go_ret
     exact ⟨rfl, HB.out⟩
theorem eq_term (t : Tm) : EqOk t := by
 refine tm_ind (p := EqOk) ?_ t
 clear t
 intro k s n ks hks w va vb hin hin'
 unfold TmIn at hin hin'
 obtain ⟨ao, ca, rfl, hk, hn, hs, hlen, hcap, hrow⟩ := hin
 obtain ⟨bo, cb, rfl, _, _, _, _, _, hrow'⟩ := hin'
 have hb1 : Below w.heap.size w ((w.alloc (.cells #[.int .i64 k, .string s, .int .i64 n, .slice ao ks.length ca] 24)).alloc (.cells #[.int .i64 k, .string s, .int .i64 n, .slice bo ks.length cb] 24)) :=
   ((Below.refl _ _).alloc (Nat.le_refl _) _).alloc (by simp) _
 have HC : Hid _ := eq_terms ks hks _ ao bo ca cb (by omega) (fun h0 => by obtain ⟨b, off, e, hr⟩ := hrow h0; exact ⟨b, off, e, TmsIn.keep hb1 ks b off hr⟩) (fun h0 => by obtain ⟨b, off, e, hr⟩ := hrow' h0; exact ⟨b, off, e, TmsIn.keep hb1 ks b off hr⟩)
 replace hb1 : Hid _ := hb1
 clear hks hrow hrow'
 unfold maxLen at *
 go_enter Tryz.func7, Tryz.ntmps7
 go_wp2_with (go_at_call 15; refine (Calls.mono HC.out ?_); rintro e w1 ⟨rfl, hb⟩; have HB1 : Hid (Below w.heap.size w w1) := hb1.out.trans (hb.mono hb1.out.size); clear hb)
 go_ret
 exact ⟨rfl, HB1.out⟩
end Go.Proofs.YtbkjcccbjnehbanGreatDoor

namespace Go.Proofs.YtbkjcccbjnehbanGreatDoor
open Go.RowKit
def RowIn (w : World) (ks : List Tm) (ao : Option Addr) (cap : Nat) : Prop := ks.length ≤ cap ∧ cap ≤ maxLen ∧ (ks ≠ [] → ∃ b off, ao = some ⟨b, off, none⟩ ∧ TmsIn w ks b off)
theorem RowIn.keep {w w' : World} {ks : List Tm} {ao : Option Addr} {cap : Nat} (h : RowIn w ks ao cap) (hb : Below w.heap.size w w') : RowIn w' ks ao cap :=
 ⟨h.1, h.2.1, fun h0 => by obtain ⟨b, off, e, h4⟩ := h.2.2 h0; exact ⟨b, off, e, TmsIn.keep hb _ _ _ h4⟩⟩
theorem OwnS.rowIn {e : TypeId} {w : World} {ks : List Tm} {ao : Option Addr} {n cap : Nat} {F : List Nat} (h : OwnS e w ks (.slice ao n cap) F) : RowIn w ks ao cap := by
 have h1 : Own e w (.mk 0 ⟨#[]⟩ 0 ks) (.agg #[.int .i64 0, .string ⟨#[]⟩, .int .i64 0, .slice ao n cap]) F := own_mk h (by omega) (by omega) (Nat.zero_le _)
 have h2 := Own.toIn _ _ _ h1
 unfold TmIn at h2
 obtain ⟨ao', cap', he, _, _, _, h3, h4, h5⟩ := h2
 obtain ⟨rfl, _, rfl⟩ : ao = ao' ∧ n = ks.length ∧ cap = cap' := by simpa using he
 exact ⟨h3, h4, h5⟩
theorem readS_ok {r : List Sg} {y : Tm × List ByteArray × List Sg} (h : readS r = some y) : y.1.n ≤ 400 := by
 unfold readS at h
 cases e : termO true 130 1200 ⟨r, []⟩ with
 | none => rw [e] at h; cases h
 | some z =>
   rw [e] at h
   obtain ⟨t, ⟨rest, names⟩⟩ := z
   cases rest with
   | nil => cases h
   | cons x r' =>
     simp only at h
     split at h
     · rename_i hh
       cases h
       have := hh.2
       unfold Tm.ok at this
       rw [Bool.and_eq_true] at this
       exact of_decide_eq_true this.1
     · cases h
theorem rsR_n (L : List Sg) (a : Nat) : (rsR L a).t.n ≤ 400 := by
 unfold rsR
 cases e : (if a < L.length then readS (L.drop a) else none) with
 | none => simp [noTm, Tm.n, Tm.n.ns]
 | some y =>
   obtain ⟨t, names, r⟩ := y
   simp only
   split at e
   · exact readS_ok e
   · cases e
theorem raF_n (L : List Sg) : ∀ (f a : Nat) (ks : List Tm) (b : Nat), (raF L f a ks b).1.length ≤ ks.length + f ∧ ns (raF L f a ks b).1 ≤ ns ks + 400 * f
 | 0, a, ks, b => by simp [raF]
 | f + 1, a, ks, b => by
   unfold raF
   split
   · split
     · have h1 := raF_n L f (rsR L a).nx (ks ++ [(rsR L a).t]) b
       have h2 := rsR_n L a
       rw [ns_append, List.length_append] at h1
       have h3 : ns [(rsR L a).t] = (rsR L a).t.n := by simp [ns, Tm.n.ns]
       simp only [List.length_cons, List.length_nil] at h1
       omega
     · have h1 := raF_n L f (rsR L a).nx ks (b + 1)
       omega
   · simp
theorem raR_n (t : ByteArray) : (raR t).1.length ≤ 3000 ∧ ns (raR t).1 ≤ 1200000 := by
 have h := raF_n (signsR t).1 ((signsR t).1.length - 0) 0 [] 0
 have hl := signsR_len t
 have e : raR t = raF (signsR t).1 ((signsR t).1.length - 0) 0 [] 0 := rfl
 rw [e]
 simp only [List.length_nil, ns, Tm.n.ns] at h ⊢
 omega
end Go.Proofs.YtbkjcccbjnehbanGreatDoor

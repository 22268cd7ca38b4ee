/- The code's written and WriteTerm. -/
import Derived.Test.YtenmhpalpfppmaoGreatDoorWtL
import Derived.Test.YtenmhpalpfppmaoGreatDoorFormI
import Derived.Test.YtenmhpalpfppmaoGreatDoorRightI
namespace Go.Proofs.YtenmhpalpfppmaoGreatDoor
open Go.RowKit

set_option maxHeartbeats 4000000 in
set_option maxRecDepth 20000 in
theorem i_write : ∀ (m : Nat) (t : Tm), SizeOf.sizeOf t < m → WiOk t := by
  intro m
  induction m with
  | zero => intro t ht; omega
  | succ m ihm =>
    intro t ht w v d hin hr hn hT
    have IH : ∀ u : Tm, SizeOf.sizeOf u < SizeOf.sizeOf t → WiOk u := fun u hu => ihm u (by omega)
    clear ihm ht
    obtain ⟨k, s, n, ks⟩ := t
    have hkinds := right_kinds hr
    have hrl := (wp_len _ d hr).1
    have HRL : Hid ((Tm.mk k s n ks).wr.length ≤ 30000) := by show _ ≤ _; omega
    clear hrl
    obtain ⟨ao, cap, rfl, hs, hlen, hcap, hrow⟩ := tm_open hin
    obtain ⟨NL, hNL⟩ : ∃ NL, NL = ks.length := ⟨_, rfl⟩
    have HNL : Hid (ks.length = NL) := hNL.symm
    rw [← hNL] at hlen hin hkinds ⊢
    clear hNL
    obtain ⟨W, hW⟩ : ∃ W, W = w.alloc (.cells #[.int .i64 k, .string s, .int .i64 n, .slice ao NL cap] 29) := ⟨_, rfl⟩
    have bW : Below w.heap.size w W := by rw [hW]; exact (Below.refl _ _).alloc (Nat.le_refl _) _
    have hFM := implForm k s n ao NL cap (by omega) W
    have HT : Hid (TabsW w) := hT
    have HW : Hid (W = w.alloc (.cells #[.int .i64 k, .string s, .int .i64 n, .slice ao NL cap] 29)) := hW
    have HBW : Hid (Below w.heap.size w W) := bW
    have HKW : Hid (∀ wr, Below W.heap.size W wr → wr.heap[w.heap.size]? = some (.cells #[.int .i64 k, .string s, .int .i64 n, .slice ao NL cap] 29 (0, 0))) := fun wr hb => by
      have h0 : W.heap[w.heap.size]? = some (.cells #[.int .i64 k, .string s, .int .i64 n, .slice ao NL cap] 29 (0, 0)) := by rw [hW]; exact heap_alloc_new w _
      exact (hb.block _ (Array.getElem?_eq_some_iff.1 h0).1).trans h0
    rcases hkinds with ⟨h13, hs0, hn0, hn1, hks, hpos⟩ | ⟨h2, hs20, hn0, hks⟩ | ⟨h4, hs20, hn0, hl1, hl5⟩
    · subst hks
      obtain rfl : NL = 0 := by have := HNL.out; simpa using this.symm
      have HD : Hid (∀ V, Below w.heap.size w V → Calls Tryz.prog 27 #[.int .i64 n] V fun e w' => e = .returned (.string ⟨(decI n).toArray⟩) ∧ Below V.heap.size V w') := fun V hb => impl_any n V (by omega) (by omega) (HT.out.keep hb).pow
      rcases h13 with rfl | rfl
      · rw [show formV 1 s n ao 0 cap = .iface 53 (.agg #[.int .i64 n]) by unfold formV; rw [if_pos ⟨rfl, hs0, rfl⟩]] at hFM
        rw [wr_var] at HRL ⊢
        have HTG : Hid (∀ V, _) := tog2 [95] (decI n) (by have := HRL.out; simp only [List.length_cons, List.length_nil] at *; omega)
        have HFM : Hid _ := hFM
        clear hFM hin hr hn hT IH hs0 hn0 hn1 hpos hrow bW hlen
        unfold maxLen at hcap
        go_enter Tryz.func14, Tryz.ntmps14
        go_upto_region 1 with (fail)
        rw [← HW.out]
        clear hW
        obtain ⟨q0, q1, q2, q3, _⟩ := blk4 (HKW.out W (Below.refl _ _))
        go_wp2_with (first
          | (go_at_call 25; refine (Calls.mono HFM.out ?_); rintro e w1 ⟨rfl, b1⟩; have B1 : Hid (Below w.heap.size w w1) := HBW.out.trans (b1.mono HBW.out.size); clear b1)
          | (go_at_call 27; refine (Calls.mono (HD.out _ (B1.out.alloc B1.out.size _)) ?_); rintro e w2 ⟨rfl, b2⟩; have B2 : Hid (Below w.heap.size w w2) := (B1.out.alloc B1.out.size _).trans (b2.mono (by have := B1.out.size; simp; omega)); clear b2)
          | (go_at_call 26; refine (Calls.mono (HTG.out _) ?_); rintro e w3 ⟨rfl, b3⟩; have B3 : Hid (Below w.heap.size w w3) := B2.out.trans (b3.mono B2.out.size); clear b3))
        go_ret
        exact ⟨rfl, B3.out⟩
      · rw [show formV 3 s n ao 0 cap = .iface 55 (.agg #[.int .i64 n]) by unfold formV; rw [if_neg (by omega), if_pos ⟨rfl, hs0, rfl⟩]] at hFM
        rw [wr_int]
        have HFM : Hid _ := hFM
        clear hFM hin hr hn hT IH hs0 hn0 hn1 hpos hrow bW hlen HRL
        unfold maxLen at hcap
        go_enter Tryz.func14, Tryz.ntmps14
        go_upto_region 1 with (fail)
        rw [← HW.out]
        clear hW
        obtain ⟨q0, q1, q2, q3, _⟩ := blk4 (HKW.out W (Below.refl _ _))
        go_wp2_with (first
          | (go_at_call 25; refine (Calls.mono HFM.out ?_); rintro e w1 ⟨rfl, b1⟩; have B1 : Hid (Below w.heap.size w w1) := HBW.out.trans (b1.mono HBW.out.size); clear b1)
          | (go_at_call 27; refine (Calls.mono (HD.out _ (B1.out.alloc B1.out.size _)) ?_); rintro e w2 ⟨rfl, b2⟩; have B2 : Hid (Below w.heap.size w w2) := (B1.out.alloc B1.out.size _).trans (b2.mono (by have := B1.out.size; simp; omega)); clear b2))
        go_ret
        exact ⟨rfl, B2.out⟩
    · subst h2
      subst hks
      obtain rfl : NL = 0 := by have := HNL.out; simpa using this.symm
      rw [show formV 2 s n ao 0 cap = .iface 57 (.agg #[.string s]) by unfold formV; rw [if_neg (by omega), if_neg (by omega), if_pos ⟨rfl, hn0, rfl⟩]] at hFM
      rw [wr_atom]
      have HA : Hid (∀ V, Below w.heap.size w V → Calls Tryz.prog 28 #[.string s] V fun e w' => e = .returned (.string ⟨(wrAtom s).toArray⟩) ∧ Below V.heap.size V w') := fun V hb => i_writtenAtom s V hs20 (HT.out.keep hb)
      have HFM : Hid _ := hFM
      clear hFM hin hr hn hT IH hn0 hrow bW hlen HRL hs20
      unfold maxLen at hcap
      go_enter Tryz.func14, Tryz.ntmps14
      go_upto_region 1 with (fail)
      rw [← HW.out]
      clear hW
      obtain ⟨q0, q1, q2, q3, _⟩ := blk4 (HKW.out W (Below.refl _ _))
      go_wp2_with (first
        | (go_at_call 25; refine (Calls.mono HFM.out ?_); rintro e w1 ⟨rfl, b1⟩; have B1 : Hid (Below w.heap.size w w1) := HBW.out.trans (b1.mono HBW.out.size); clear b1)
        | (go_at_call 28; refine (Calls.mono (HA.out _ (B1.out.alloc B1.out.size _)) ?_); rintro e w2 ⟨rfl, b2⟩; have B2 : Hid (Below w.heap.size w w2) := (B1.out.alloc B1.out.size _).trans (b2.mono (by have := B1.out.size; simp; omega)); clear b2))
      go_ret
      exact ⟨rfl, B2.out⟩
    · subst h4
      rw [show formV 4 s n ao NL cap = .iface 59 (.agg #[.string s, .slice ao NL cap]) by unfold formV; rw [if_neg (by omega), if_neg (by omega), if_neg (by omega), if_pos ⟨rfl, hn0⟩]] at hFM
      have HS : Hid (∀ V, Below w.heap.size w V → Calls Tryz.prog 29 #[.agg #[.int .i64 4, .string s, .int .i64 n, .slice ao NL cap]] V fun e w' => e = .returned (.string ⟨(Tm.mk 4 s n ks).wr.toArray⟩) ∧ Below V.heap.size V w') := fun V hb => i_struct s n ks IH V _ d (TmIn.keep hb _ _ hin) hr hn (HT.out.keep hb)
      have HFM : Hid _ := hFM
      have HLW : Hid (w.heap.size < W.heap.size) := by show _ < _; rw [hW]; simp
      clear hFM hin hr hn hT IH hn0 hrow bW hlen HRL hs20 hl1 hl5
      generalize (Tm.mk 4 s n ks).wr = R at *
      unfold maxLen at hcap
      go_enter Tryz.func14, Tryz.ntmps14
      go_upto_region 1 with (fail)
      rw [← HW.out]
      clear hW
      obtain ⟨q0, q1, q2, q3, _⟩ := blk4 (HKW.out W (Below.refl _ _))
      go_wp2_with (first
        | (go_at_call 25; refine (Calls.mono HFM.out ?_); rintro e w1 ⟨rfl, b1⟩; have B1 : Hid (Below w.heap.size w w1) := HBW.out.trans (b1.mono HBW.out.size); have hlt1 : w.heap.size < w1.heap.size := Nat.lt_of_lt_of_le HLW.out b1.size; obtain ⟨p0, p1, p2, p3, _⟩ := blk4 (HKW.out w1 b1); clear b1)
        | (go_at_call 29; refine (Calls.mono (HS.out _ (B1.out.alloc B1.out.size _)) ?_); rintro e w2 ⟨rfl, b2⟩; have B2 : Hid (Below w.heap.size w w2) := (B1.out.alloc B1.out.size _).trans (b2.mono (by have := B1.out.size; simp; omega)); clear b2))
      go_ret
      exact ⟨rfl, B2.out⟩

set_option maxHeartbeats 1000000 in
theorem i_writeTerm (t : Tm) (w : World) (v : Value) (hin : TmIn w t v) (hT : TabsW w) :
    Calls Tryz.prog 7 #[v] w fun e w' => e = .returned (.string ⟨(writeR t).toArray⟩) ∧ Below w.heap.size w w' := by
  obtain ⟨k, s, n, ao, l, cap, rfl⟩ := tm_shape hin
  obtain ⟨W, hW⟩ : ∃ W, W = w.alloc (.cells #[.int .i64 k, .string s, .int .i64 n, .slice ao l cap] 29) := ⟨_, rfl⟩
  have bW : Below w.heap.size w W := by rw [hW]; exact (Below.refl _ _).alloc (Nat.le_refl _) _
  have HK : Hid (∀ wr, Below W.heap.size W wr → wr.heap[w.heap.size]? = some (.cells #[.int .i64 k, .string s, .int .i64 n, .slice ao l cap] 29 (0, 0))) := fun wr hb => by
    have h0 : W.heap[w.heap.size]? = some (.cells #[.int .i64 k, .string s, .int .i64 n, .slice ao l cap] 29 (0, 0)) := by rw [hW]; exact heap_alloc_new w _
    exact (hb.block _ (Array.getElem?_eq_some_iff.1 h0).1).trans h0
  have HIN : Hid (∀ V, Below W.heap.size W V → TmIn V t (.agg #[.int .i64 k, .string s, .int .i64 n, .slice ao l cap])) := fun V hb => TmIn.keep (bW.trans (hb.mono bW.size)) _ _ hin
  have HBW : Hid (Below w.heap.size w W) := bW
  have HC := implOk t W _ (HIN.out W (Below.refl _ _))
  have HW : Hid (W = w.alloc (.cells #[.int .i64 k, .string s, .int .i64 n, .slice ao l cap] 29)) := hW
  have HS : Hid (WiOk t) := i_write _ t (Nat.lt_succ_self _)
  have HT : Hid (TabsW w) := hT
  have HR : Hid (writeR t = if t.ok then t.wr else []) := rfl
  cases hok : t.ok with
  | true =>
    rw [hok] at HC HR
    obtain ⟨h1, h2⟩ := ok_right hok
    have HWR : Hid (∀ V, Below W.heap.size W V → Calls Tryz.prog 14 #[.agg #[.int .i64 k, .string s, .int .i64 n, .slice ao l cap]] V fun e w' => e = .returned (.string ⟨t.wr.toArray⟩) ∧ Below V.heap.size V w') := fun V hb => HS.out V _ 1 (HIN.out V hb) h1 h2 (HT.out.keep (HBW.out.trans (hb.mono HBW.out.size)))
    replace HC : Hid _ := HC
    clear h1 h2 hok bW hin HS hT
    go_enter Tryz.func7, Tryz.ntmps7
    go_upto_region 1 with (fail)
    rw [← HW.out]
    clear hW
    obtain ⟨q0, q1, q2, q3, _⟩ := blk4 (HK.out W (Below.refl _ _))
    go_wp2_with (first
      | (go_at_call 13; refine (Calls.mono HC.out ?_); rintro e w1 ⟨rfl, b1⟩; have B1 : Hid (Below W.heap.size W w1) := b1; obtain ⟨p0, p1, p2, p3, _⟩ := blk4 (HK.out w1 b1); clear b1)
      | (go_at_call 14; refine (Calls.mono (HWR.out _ B1.out) ?_); rintro e w2 ⟨rfl, b2⟩; have B2 : Hid (Below W.heap.size W w2) := B1.out.trans (b2.mono B1.out.size); clear b2))
    go_ret
    exact ⟨by rw [HR.out]; rfl, HBW.out.trans (B2.out.mono HBW.out.size)⟩
  | false =>
    rw [hok] at HC HR
    replace HC : Hid _ := HC
    clear hok bW hin HS hT
    go_enter Tryz.func7, Tryz.ntmps7
    go_upto_region 1 with (fail)
    rw [← HW.out]
    clear hW
    obtain ⟨q0, q1, q2, q3, _⟩ := blk4 (HK.out W (Below.refl _ _))
    go_wp2_with (go_at_call 13; refine (Calls.mono HC.out ?_); rintro e w1 ⟨rfl, b1⟩; have B1 : Hid (Below W.heap.size W w1) := b1; clear b1)
    go_ret
    exact ⟨by rw [HR.out]; rfl, HBW.out.trans (B1.out.mono HBW.out.size)⟩
end Go.Proofs.YtenmhpalpfppmaoGreatDoor

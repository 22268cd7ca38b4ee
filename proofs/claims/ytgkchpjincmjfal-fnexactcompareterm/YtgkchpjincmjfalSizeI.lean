/- How large a term is, the code's: sizeUpTo counts up to a most. -/
import Derived.Test.YtgkchpjincmjfalRows
import Derived.Test.YtgkchpjincmjfalTmCnt
import Derived.ProofKit
namespace Go.Proofs.Ytgkchpjincmjfal
open Go.RowKit

def UpOk (t : Tm) : Prop := ∀ (w : World) (v : Value) (most : Nat), TmIn w t v → 1 ≤ most → most ≤ 401 →
  Calls Try.prog 34 #[v, .int .i64 (most : Int)] w fun e w' => e = .returned (.int .i64 ((min t.n most : Nat) : Int)) ∧ Below w.heap.size w w'

theorem ns_take_le (ks : List Tm) (j : Nat) : ns (ks.take j) ≤ ns ks := by
  have : ns (ks.take j) + ns (ks.drop j) = ns ks := by rw [← ns_append, List.take_append_drop]
  omega

theorem size_up (t : Tm) : UpOk t := by
  refine tm_ind (p := UpOk) ?_ t
  clear t
  intro k s n ks hks w v most hin hm1 hm2
  unfold TmIn at hin
  obtain ⟨ao, cap, rfl, hk, hn, hs, hlen, hcap, hrow⟩ := hin
  unfold maxLen at hcap
  rw [n_mk]
  have hb0 : Below w.heap.size w (w.alloc (.cells #[.int .i64 k, .string s, .int .i64 n, .slice ao ks.length cap] 29)) := (Below.refl _ _).alloc (Nat.le_refl _) _
  have HC3 : Hid (∀ wr, Below (w.alloc (.cells #[.int .i64 k, .string s, .int .i64 n, .slice ao ks.length cap] 29)).heap.size (w.alloc (.cells #[.int .i64 k, .string s, .int .i64 n, .slice ao ks.length cap] 29)) wr → wr.cell? ⟨w.heap.size, 3, none⟩ = some (.slice ao ks.length cap)) := fun wr hb =>
    cell_keep (w := w.alloc _) (by simp) hb
  have HR : Hid (∀ wr, Below (w.alloc (.cells #[.int .i64 k, .string s, .int .i64 n, .slice ao ks.length cap] 29)).heap.size (w.alloc (.cells #[.int .i64 k, .string s, .int .i64 n, .slice ao ks.length cap] 29)) wr → ks ≠ [] → ∃ b off, ao = some ⟨b, off, none⟩ ∧ TmsIn wr ks b off) := fun wr hb h0 => by
    obtain ⟨b, off, e, hr⟩ := hrow h0
    exact ⟨b, off, e, TmsIn.keep hb ks b off (TmsIn.keep hb0 ks b off hr)⟩
  have HKS : Hid _ := hks
  replace hb0 : Hid _ := hb0
  clear hrow hks
  go_enter Try.func34, Try.ntmps34
  go_wp2
  generalize hW : w.alloc (.cells #[.int .i64 k, .string s, .int .i64 n, .slice ao ks.length cap] 29) = W at *
  go_loopw [5, 6] (fun vl vi wr => Hid (Below W.heap.size W wr) ∧ ∃ j l : Nat, j ≤ ks.length ∧ vi = .int .i64 (j : Int) ∧ vl = .int .i64 (l : Int) ∧ l ≤ 401 ∧ Hid (l = min (1 + ns (ks.take j)) most)) (fun _ i _ => ks.length - (intOf i).toNat)
  case atStart =>
    exact ⟨Below.refl _ _, 0, 1, by omega, rfl, rfl, by omega, by show _ = _; simp [ns, Tm.n.ns]; omega⟩
  case round =>
    obtain ⟨HB, j, l, hj, rfl, rfl, hll, HL⟩ := hrel
    have c3 := HC3.out wr HB.out
    have hlm : l ≤ most := by have := HL.out; omega
    by_cases hlt : j < ks.length
    · by_cases hfull : l < most
      · obtain ⟨b, off, rfl, hin⟩ := HR.out wr HB.out (by intro e; subst e; simp at hlt)
        obtain ⟨c0, c1, c2, c3', h0, h1, h2, h3, ht⟩ := hin.at j hlt
        have HC := HKS.out ks[j] (List.getElem_mem hlt) wr _ (most - l) ht (by omega) (by omega)
        rw [show ((most - l : Nat) : Int) = (most : Int) - (l : Int) by omega] at HC
        have hw : ns (ks.take (j + 1)) = ns (ks.take j) + ks[j].n := by
          rw [List.take_succ_eq_append_getElem hlt, ns_append]; simp [ns, Tm.n.ns]
        have hx : min ks[j].n (most - l) ≤ 401 := by omega
        have HW : Hid (min (1 + ns (ks.take (j + 1))) most = l + min ks[j].n (most - l)) := by
          show _ = _
          have := HL.out
          omega
        generalize min ks[j].n (most - l) = x at *
        replace HC : Hid _ := HC
        clear hin ht hw HR HC3 HKS
        go_wp2_with (go_at_call 34; refine (Calls.mono HC.out ?_); rintro e w1 ⟨rfl, hb⟩; have HB1 : Hid (Below W.heap.size W w1) := HB.out.trans (hb.mono HB.out.size); clear hb)
        go_roundw
        case rel => exact ⟨HB1.out, j + 1, l + x, by omega, by go_num, by go_num, by have := HW.out; omega, by show _ = _; rw [HW.out]⟩
        case measure => simp [intOf]; omega
      · have HRR : Hid (min (1 + ns ks) most = l) := by
          show _ = _
          have := HL.out
          have := ns_take_le ks j
          omega
        clear HR HC3 HKS
        go_wp2
        go_ret
        exact ⟨by rw [HRR.out]; rfl, hb0.out.trans (HB.out.mono hb0.out.size)⟩
    · have HRR : Hid (min (1 + ns ks) most = l) := by
        show _ = _
        have h1 := HL.out
        rw [List.take_of_length_le (by omega)] at h1
        exact h1.symm
      clear HR HC3 HKS
      go_wp2
      go_ret
      exact ⟨by rw [HRR.out]; rfl, hb0.out.trans (HB.out.mono hb0.out.size)⟩

theorem implSize (t : Tm) (w : World) (v : Value) (h : TmIn w t v) :
    Calls Try.prog 15 #[v] w fun e w' => e = .returned (.int .i64 ((min t.n 401 : Nat) : Int)) ∧ Below w.heap.size w w' := by
  have H := h
  obtain ⟨k, s, n, ks⟩ := t
  unfold TmIn at h
  obtain ⟨ao, cap, rfl, hk, hn, hs, hlen, hcap, hrow⟩ := h
  clear hrow
  generalize Tm.mk k s n ks = t at *
  have hb0 : Below w.heap.size w (w.alloc (.cells #[.int .i64 k, .string s, .int .i64 n, .slice ao ks.length cap] 29)) := (Below.refl _ _).alloc (Nat.le_refl _) _
  have HC := size_up t _ _ 401 (TmIn.keep hb0 _ _ H) (by omega) (by omega)
  generalize min t.n 401 = x at *
  replace hb0 : Hid _ := hb0
  replace HC : Hid _ := HC
  clear H
  go_enter Try.func15, Try.ntmps15
  go_wp2_with (go_at_call 34; refine (Calls.mono HC.out ?_); rintro e w1 ⟨rfl, hb⟩; have HB1 : Hid (Below w.heap.size w w1) := hb0.out.trans (hb.mono hb0.out.size); clear hb)
  go_ret
  exact ⟨rfl, HB1.out⟩
end Go.Proofs.Ytgkchpjincmjfal

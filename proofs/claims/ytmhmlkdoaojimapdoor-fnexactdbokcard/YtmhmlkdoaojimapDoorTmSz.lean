/- The laws' size of a term. -/
import Derived.Test.YtmhmlkdoaojimapDoorRows
import Derived.Test.YtmhmlkdoaojimapDoorMrg1
import Derived.Test.YtmhmlkdoaojimapDoorMrg7
import Derived.ProofKit
namespace Go.Proofs.YtmhmlkdoaojimapDoor
open Go.RowKit


def SzOk (t : Tm) : Prop := ∀ (w : World) (v : Value) (left : Nat), TmIn w t v → left ≤ 1048576 →
  Calls Tryd.prog 20 #[v, .int .i64 (left : Int)] w fun e w' => e = .returned (.int .i64 (szR t.wt left)) ∧ Below w.heap.size w w'

theorem sz_terms (ks : List Tm) (hks : ∀ t ∈ ks, SzOk t) (w : World) (ao : Option Addr) (cap left : Nat) (hlen : ks.length ≤ maxLen) (h : ks ≠ [] → ∃ b off, ao = some ⟨b, off, none⟩ ∧ TmsIn w ks b off) (hl : left ≤ 1048576) :
    Calls Tryd.prog 46 #[.slice ao ks.length cap, .int .i64 (left : Int)] w fun e w' => e = .returned (.int .i64 (szR (ks.length + wts ks) left)) ∧ Below w.heap.size w w' := by
  unfold maxLen at hlen
  by_cases hk : ks.length ≤ left
  · go_enter Tryd.func46, Tryd.ntmps46
    go_wp2
    go_loopw [1, 5] (fun vl vi wr => Hid (Below w.heap.size w wr) ∧ ∃ j l : Nat, j ≤ ks.length ∧ vl = .int .i64 (l : Int) ∧ vi = .int .i64 (j : Int) ∧ Hid (l + ks.length + wts (ks.take j) = left)) (fun _ i _ => ks.length - (intOf i).toNat)
    case atStart => exact ⟨Below.refl _ _, 0, left - ks.length, by omega, by simp; omega, rfl, by show _ = _; simp [wts, Tm.wt.wts]; omega⟩
    case round =>
      obtain ⟨HB, j, l, hj, rfl, rfl, HL⟩ := hrel
      have hll : l ≤ 1048576 := by have := HL.out; omega
      by_cases hlt : j < ks.length
      · obtain ⟨b, off, rfl, hin⟩ := h (by intro e; subst e; simp at hlt)
        obtain ⟨c0, c1, c2, c3, h0, h1, h2, h3, ht⟩ := (TmsIn.keep HB.out ks b off hin).at j hlt
        have HC := hks ks[j] (List.getElem_mem hlt) wr _ l ht hll
        have hw : wts (ks.take (j + 1)) = wts (ks.take j) + ks[j].wt := by
          rw [List.take_succ_eq_append_getElem hlt, wts_append]; simp [wts, Tm.wt.wts]
        have HW : Hid _ := hw
        clear hin ht hw h hks
        by_cases hfit : ks[j].wt ≤ l
        · have e : szR ks[j].wt l = ((l - ks[j].wt : Nat) : Int) := if_pos hfit
          rw [e] at HC
          replace HC : Hid _ := HC
          clear e
          go_wp2_with (go_at_call 20; refine (Calls.mono HC.out ?_); rintro e w1 ⟨rfl, hb⟩; have HB1 : Hid (Below w.heap.size w w1) := HB.out.trans (hb.mono HB.out.size); clear hb)
          go_roundw
          case rel => exact ⟨HB1.out, j + 1, l - ks[j].wt, by omega, rfl, by go_num, by show _ = _; have := HL.out; have := HW.out; omega⟩
          case measure => simp [intOf]; omega
        · have e : szR ks[j].wt l = -1 := if_neg hfit
          rw [e] at HC
          replace HC : Hid _ := HC
          clear e
          have hr : szR (ks.length + wts ks) left = -1 := by
            have h1 := HL.out
            have h2 := HW.out
            have h3 : wts (ks.take (j + 1)) + wts (ks.drop (j + 1)) = wts ks := by rw [← wts_append, List.take_append_drop]
            unfold szR
            rw [if_neg (by omega)]
          have HR : Hid _ := hr
          clear hr
          go_wp2_with (go_at_call 20; refine (Calls.mono HC.out ?_); rintro e w1 ⟨rfl, hb⟩; have HB1 : Hid (Below w.heap.size w w1) := HB.out.trans (hb.mono HB.out.size); clear hb)
          go_ret
          exact ⟨by rw [HR.out]; rfl, HB1.out⟩
      · have hr : szR (ks.length + wts ks) left = (l : Int) := by
          have h1 := HL.out
          rw [List.take_of_length_le (by omega)] at h1
          unfold szR
          rw [if_pos (by omega)]
          omega
        have HR : Hid _ := hr
        clear hr
        go_wp2
        go_ret
        exact ⟨by rw [HR.out]; rfl, HB.out⟩
  · have hr : szR (ks.length + wts ks) left = -1 := by unfold szR; rw [if_neg (by omega)]
    rw [hr]
    go_enter Tryd.func46, Tryd.ntmps46
    go_wp2
    go_ret
    exact ⟨rfl, Below.refl _ _⟩

theorem sz_term (t : Tm) : SzOk t := by
  refine tm_ind (p := SzOk) ?_ t
  clear t
  intro k s n ks hks w v left hin hl
  obtain ⟨ao, cap, rfl, hk, hn, hs, hlen, hcap, hrow⟩ := hin
  have HS : Hid (∀ w', Below w.heap.size w w' → ∀ l : Nat, l ≤ 1048576 → Calls Tryd.prog 46 #[.slice ao ks.length cap, .int .i64 (l : Int)] w' fun e w2 => e = .returned (.int .i64 (szR (ks.length + wts ks) l)) ∧ Below w'.heap.size w' w2) := fun w' hb l h =>
    sz_terms ks hks w' ao cap l (by omega) (fun h0 => by obtain ⟨b, off, e, hr⟩ := hrow h0; exact ⟨b, off, e, TmsIn.keep hb ks b off hr⟩) h
  clear hks hrow
  unfold maxLen at *
  have ew : (Tm.mk k s n ks).wt = s.size + (ks.length + wts ks) := by simp [Tm.wt, wts]; omega
  rw [ew]
  generalize ks.length + wts ks = m at *
  have hb1 : Below w.heap.size w (w.alloc (.cells #[.int .i64 k, .string s, .int .i64 n, .slice ao ks.length cap] 42)) := (Below.refl _ _).alloc (Nat.le_refl _) _
  by_cases h1 : s.size ≤ left
  · by_cases h2 : m ≤ left - s.size
    · have e1 : szR m (left - s.size) = ((left - s.size - m : Nat) : Int) := if_pos h2
      have e2 : szR (s.size + m) left = ((left - s.size - m : Nat) : Int) := by unfold szR; rw [if_pos (by omega)]; omega
      rw [e2]
      have HC := HS.out _ hb1 (left - s.size) (by omega)
      rw [e1, show ((left - s.size : Nat) : Int) = (left : Int) - (s.size : Int) by omega] at HC
      replace HC : Hid _ := HC
      replace hb1 : Hid _ := hb1
      clear e1 e2 HS
      go_enter Tryd.func20, Tryd.ntmps20
      go_wp2_with (go_at_call 46; refine (Calls.mono HC.out ?_); rintro e w1 ⟨rfl, hb⟩; have HB1 : Hid (Below w.heap.size w w1) := hb1.out.trans (hb.mono hb1.out.size); clear hb)
      go_ret
      exact ⟨rfl, HB1.out⟩
    · have e1 : szR m (left - s.size) = -1 := if_neg h2
      have e2 : szR (s.size + m) left = -1 := by unfold szR; rw [if_neg (by omega)]
      rw [e2]
      have HC := HS.out _ hb1 (left - s.size) (by omega)
      rw [e1, show ((left - s.size : Nat) : Int) = (left : Int) - (s.size : Int) by omega] at HC
      replace HC : Hid _ := HC
      replace hb1 : Hid _ := hb1
      clear e1 e2 HS
      go_enter Tryd.func20, Tryd.ntmps20
      go_wp2_with (go_at_call 46; refine (Calls.mono HC.out ?_); rintro e w1 ⟨rfl, hb⟩; have HB1 : Hid (Below w.heap.size w w1) := hb1.out.trans (hb.mono hb1.out.size); clear hb)
      go_ret
      exact ⟨rfl, HB1.out⟩
  · have e2 : szR (s.size + m) left = -1 := by unfold szR; rw [if_neg (by omega)]
    rw [e2]
    clear HS e2
    go_enter Tryd.func20, Tryd.ntmps20
    go_wp2
    go_ret
    exact ⟨rfl, hb1⟩
end Go.Proofs.YtmhmlkdoaojimapDoor

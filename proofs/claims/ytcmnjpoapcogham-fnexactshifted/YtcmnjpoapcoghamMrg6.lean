/- Four texts in one. -/
import Derived.Test.YtcmnjpoapcoghamRows
import Derived.WalkKit
import Derived.WalkSpells
import Derived.Below
import Derived.ProofKit
import Derived.Test.YtcmnjpoapcoghamMrg3
import Derived.Test.YtcmnjpoapcoghamMrg5
/- spec.l01In. -/
namespace Go.Proofs.Ytcmnjpoapcogham
open Go.RowKit

theorem in_any (x a b : Int) (w : World) :
    Calls Try.prog 55 #[.int .i64 x, .int .i64 a, .int .i64 b] w fun e w' => e = .returned (.bool (decide (a ≤ x ∧ x ≤ b))) ∧ w' = w := by
  by_cases h0 : a ≤ x
  · by_cases h1 : x ≤ b
    · rw [decide_eq_true (show a ≤ x ∧ x ≤ b from ⟨h0, h1⟩)]
      go_enter Try.func55, Try.ntmps55
      go_wp2
      go_ret
      exact ⟨by simp, rfl⟩
    · rw [decide_eq_false (show ¬ (a ≤ x ∧ x ≤ b) from fun h => h1 h.2)]
      go_enter Try.func55, Try.ntmps55
      go_wp2
      go_ret
      exact ⟨by simp, rfl⟩
  · rw [decide_eq_false (show ¬ (a ≤ x ∧ x ≤ b) from fun h => h0 h.1)]
    go_enter Try.func55, Try.ntmps55
    go_wp2
    go_ret
    exact ⟨by simp, rfl⟩

end Go.Proofs.Ytcmnjpoapcogham

/- spec.l03Name. -/
namespace Go.Proofs.Ytcmnjpoapcogham
open Go.RowKit

theorem specName (s : ByteArray) (hs : s.size ≤ maxLen) (w : World) :
    Calls Try.prog 89 #[.string s] w fun e w' => e = .returned (.bool (nameOk s)) ∧ w' = w := by
  unfold maxLen at hs
  go_enter Try.func89, Try.ntmps89
  go_wp2
  go_loopw [3] (fun i wr => wr = w ∧ ∃ k : Nat, k ≤ s.size ∧ i = .int .i64 (k : Int) ∧ Hid ((s.data.toList.take k).all charOk = true)) (fun i _ => s.size - (intOf i).toNat)
  case atStart => exact ⟨rfl, 0, by omega, rfl, by show _ = _; simp⟩
  case round =>
    obtain ⟨rfl, k, hk, rfl, hp⟩ := hrel
    by_cases hlt : k < s.size
    · have hc := s[k].toNat_lt
      by_cases hb : charOk s[k] = true
      · have hp' : Hid ((s.data.toList.take (k + 1)).all charOk = true) := by show _ = _; rw [take_at s k hlt, List.all_append, hp.out]; simp [hb]
        have h4 : 33 ≤ s[k].toNat ∧ s[k].toNat ≤ 126 ∧ s[k].toNat ≠ 39 ∧ s[k].toNat ≠ 34 := by
          unfold charOk at hb; simp at hb; omega
        obtain ⟨b1, b2, b3, b4⟩ := h4
        have e3 : ((s[k].toNat : Int) == 39) = false := beq_eq_false_iff_ne.2 (by omega)
        have e4 : ((s[k].toNat : Int) == 34) = false := beq_eq_false_iff_ne.2 (by omega)
        clear hp hb
        go_wp2
        go_roundw
        case rel => exact ⟨trivial, k + 1, by omega, by go_num, hp'⟩
        case measure => simp [intOf]; omega
      · have hf : nameOk s = false := by
          unfold nameOk
          rw [Bool.and_eq_false_iff]; left
          rw [List.all_eq_false]
          exact ⟨s[k], mem_s s k hlt, hb⟩
        have HF : Hid _ := hf
        have h4 : s[k].toNat < 33 ∨ (33 ≤ s[k].toNat ∧ 126 < s[k].toNat) ∨ s[k].toNat = 39 ∨ s[k].toNat = 34 := by
          unfold charOk at hb; simp at hb; omega
        clear hp hb hf
        rcases h4 with h4 | ⟨h4, h5⟩ | h4 | h4
        · go_wp2
          go_ret
          exact ⟨by rw [HF.out]; rfl, rfl⟩
        · go_wp2
          go_ret
          exact ⟨by rw [HF.out]; rfl, rfl⟩
        · go_wp2
          go_ret
          exact ⟨by rw [HF.out]; rfl, rfl⟩
        · go_wp2
          go_ret
          exact ⟨by rw [HF.out]; rfl, rfl⟩
    · have hf : nameOk s = decide ((1 : Int) ≤ (s.size : Int) ∧ (s.size : Int) ≤ 20) := by
        have := hp.out
        rw [List.take_of_length_le (by simp; omega)] at this
        unfold nameOk
        rw [this, Bool.true_and]
        congr 1
        apply propext
        omega
      have HF : Hid _ := hf
      clear hp hf
      go_wp2_with (go_at_call 55; refine (in_any _ _ _ _).mono ?_; rintro e w1 ⟨rfl, rfl⟩)
      go_ret
      exact ⟨by rw [HF.out, Bool.decide_and]; rfl, rfl⟩

end Go.Proofs.Ytcmnjpoapcogham

/- Which terms are right: the specification's. -/
namespace Go.Proofs.Ytcmnjpoapcogham
open Go.RowKit

theorem in_t (x a b : Int) (w : World) (h : a ≤ x ∧ x ≤ b) :
    Calls Try.prog 55 #[.int .i64 x, .int .i64 a, .int .i64 b] w fun e w' => e = .returned (.bool true) ∧ w' = w := by
  have := in_any x a b w
  rwa [decide_eq_true h] at this
theorem in_f (x a b : Int) (w : World) (h : ¬ (a ≤ x ∧ x ≤ b)) :
    Calls Try.prog 55 #[.int .i64 x, .int .i64 a, .int .i64 b] w fun e w' => e = .returned (.bool false) ∧ w' = w := by
  have := in_any x a b w
  rwa [decide_eq_false h] at this

theorem specOne (k : Int) (s : ByteArray) (n : Int) (ao : Option Addr) (l cap : Nat) (hs : s.size ≤ maxLen) (hl : l ≤ maxLen) (w : World) :
    Calls Try.prog 82 #[.agg #[.int .i64 k, .string s, .int .i64 n, .slice ao l cap]] w fun e w' => e = .returned (.bool (oneT k s n l)) ∧ Below w.heap.size w w' := by
  have hb0 : Below w.heap.size w (w.alloc (.cells #[.int .i64 k, .string s, .int .i64 n, .slice ao l cap] 28)) := (Below.refl _ _).alloc (Nat.le_refl _) _
  have HN : Hid (∀ w, Calls Try.prog 89 #[.string s] w fun e w' => e = .returned (.bool (nameOk s)) ∧ w' = w) := specName s hs
  unfold maxLen at hl
  clear hs
  by_cases h1 : k = 1
  · subst h1
    clear HN
    by_cases hr : 0 ≤ n ∧ n ≤ 99999
    · by_cases hz : s.size = 0
      · obtain rfl := empty_of hz
        go_enter Try.func82, Try.ntmps82
        go_wp2_with (go_at_call 55; refine (in_t _ _ _ _ hr).mono ?_; rintro e w1 ⟨rfl, rfl⟩)
        go_ret
        exact ⟨ret_bool (by simp only [oneT, nat0, decide_eq_true hr, show (⟨#[]⟩ : ByteArray).size = 0 from rfl]; simp), hb0⟩
      · have hq := not_empty hz
        go_enter Try.func82, Try.ntmps82
        go_wp2_with (go_at_call 55; refine (in_t _ _ _ _ hr).mono ?_; rintro e w1 ⟨rfl, rfl⟩)
        go_ret
        exact ⟨ret_bool (by simp [oneT, hz]), hb0⟩
    · go_enter Try.func82, Try.ntmps82
      go_wp2_with (go_at_call 55; refine (in_f _ _ _ _ hr).mono ?_; rintro e w1 ⟨rfl, rfl⟩)
      go_ret
      exact ⟨ret_bool (by simp only [oneT, decide_eq_false hr]; simp), hb0⟩
  · by_cases h2 : k = 2
    · subst h2
      clear h1
      cases hN : nameOk s with
      | true =>
        rw [hN] at HN
        by_cases hz : n = 0
        · subst hz
          go_enter Try.func82, Try.ntmps82
          go_wp2_with (go_at_call 89; refine (Calls.mono (HN.out _) ?_); rintro e w1 ⟨rfl, rfl⟩)
          go_ret
          exact ⟨ret_bool (by simp [oneT, hN, nat0]), hb0⟩
        · go_enter Try.func82, Try.ntmps82
          go_wp2_with (go_at_call 89; refine (Calls.mono (HN.out _) ?_); rintro e w1 ⟨rfl, rfl⟩)
          go_ret
          exact ⟨ret_bool (by simp [oneT, hz]), hb0⟩
      | false =>
        rw [hN] at HN
        go_enter Try.func82, Try.ntmps82
        go_wp2_with (go_at_call 89; refine (Calls.mono (HN.out _) ?_); rintro e w1 ⟨rfl, rfl⟩)
        go_ret
        exact ⟨ret_bool (by simp [oneT, hN]), hb0⟩
    · by_cases h3 : k = 3
      · subst h3
        clear h1 h2 HN
        by_cases hr : -999999999 ≤ n ∧ n ≤ 999999999
        · by_cases hz : s.size = 0
          · obtain rfl := empty_of hz
            go_enter Try.func82, Try.ntmps82
            go_wp2_with (go_at_call 55; refine (in_t _ _ _ _ hr).mono ?_; rintro e w1 ⟨rfl, rfl⟩)
            go_ret
            exact ⟨ret_bool (by simp only [oneT, nat0, decide_eq_true hr, show (⟨#[]⟩ : ByteArray).size = 0 from rfl]; simp), hb0⟩
          · have hq := not_empty hz
            go_enter Try.func82, Try.ntmps82
            go_wp2_with (go_at_call 55; refine (in_t _ _ _ _ hr).mono ?_; rintro e w1 ⟨rfl, rfl⟩)
            go_ret
            exact ⟨ret_bool (by simp [oneT, hz]), hb0⟩
        · go_enter Try.func82, Try.ntmps82
          go_wp2_with (go_at_call 55; refine (in_f _ _ _ _ hr).mono ?_; rintro e w1 ⟨rfl, rfl⟩)
          go_ret
          exact ⟨ret_bool (by simp only [oneT, decide_eq_false hr]; simp), hb0⟩
      · by_cases h4 : k = 4
        · subst h4
          clear h1 h2 h3
          cases hN : nameOk s with
          | true =>
            rw [hN] at HN
            by_cases hz : n = 0
            · subst hz
              go_enter Try.func82, Try.ntmps82
              go_wp2_with (first | (go_at_call 89; refine (Calls.mono (HN.out _) ?_); rintro e w1 ⟨rfl, rfl⟩) | (go_at_call 55; refine (in_any _ _ _ _).mono ?_; rintro e w1 ⟨rfl, rfl⟩))
              go_ret
              exact ⟨ret_bool (by simp [oneT, hN]; congr 1 <;> congr 1 <;> apply propext <;> omega), hb0⟩
            · go_enter Try.func82, Try.ntmps82
              go_wp2_with (go_at_call 89; refine (Calls.mono (HN.out _) ?_); rintro e w1 ⟨rfl, rfl⟩)
              go_ret
              exact ⟨ret_bool (by simp [oneT, hz]), hb0⟩
          | false =>
            rw [hN] at HN
            go_enter Try.func82, Try.ntmps82
            go_wp2_with (go_at_call 89; refine (Calls.mono (HN.out _) ?_); rintro e w1 ⟨rfl, rfl⟩)
            go_ret
            exact ⟨ret_bool (by simp [oneT, hN]), hb0⟩
        · clear HN
          have e1 : (k == 1) = false := beq_eq_false_iff_ne.2 h1
          have e2 : (k == 2) = false := beq_eq_false_iff_ne.2 h2
          have e3 : (k == 3) = false := beq_eq_false_iff_ne.2 h3
          have e4 : (k == 4) = false := beq_eq_false_iff_ne.2 h4
          go_enter Try.func82, Try.ntmps82
          go_wp2
          go_ret
          exact ⟨ret_bool (by simp [oneT, h1, h2, h3, h4]), hb0⟩

def RightOk (t : Tm) : Prop := ∀ (w : World) (v : Value) (d : Nat), TmIn w t v → d ≤ 41 →
  Calls Try.prog 76 #[v, .int .i64 (d : Int)] w fun e w' => e = .returned (.bool (t.right d)) ∧ Below w.heap.size w w'

theorem right_term (t : Tm) : RightOk t := by
  refine tm_ind (p := RightOk) ?_ t
  clear t
  intro k s n ks hks w v d hin hd
  unfold TmIn at hin
  obtain ⟨ao, cap, rfl, hk, hn, hs, hlen, hcap, hrow⟩ := hin
  have HONE := specOne k s n ao ks.length cap hs (by omega)
  unfold maxLen at hcap
  rw [right_mk]
  have hb0 : Below w.heap.size w (w.alloc (.cells #[.int .i64 k, .string s, .int .i64 n, .slice ao ks.length cap] 28)) := (Below.refl _ _).alloc (Nat.le_refl _) _
  by_cases hdeep : d ≤ 40
  · rw [decide_eq_true hdeep, Bool.true_and]
    cases ho : oneT k s n ks.length with
    | false =>
      rw [ho] at HONE
      replace HONE : Hid _ := HONE
      replace hb0 : Hid _ := hb0
      rw [Bool.false_and]
      clear hrow hks
      go_enter Try.func76, Try.ntmps76
      go_wp2_with (go_at_call 82; refine (Calls.mono (HONE.out _) ?_); rintro e w1 ⟨rfl, hb⟩; have HB1 : Hid (Below w.heap.size w w1) := hb0.out.trans (hb.mono hb0.out.size); clear hb)
      go_ret
      exact ⟨rfl, HB1.out⟩
    | true =>
      rw [ho] at HONE
      replace HONE : Hid _ := HONE
      rw [Bool.true_and]
      obtain ⟨W, hW⟩ : ∃ W, W = w.alloc (.cells #[.int .i64 k, .string s, .int .i64 n, .slice ao ks.length cap] 28) := ⟨_, rfl⟩
      rw [← hW] at hb0
      have HC3 : Hid (∀ wr, Below W.heap.size W wr → wr.cell? ⟨w.heap.size, 3, none⟩ = some (.slice ao ks.length cap)) := fun wr hb =>
        cell_keep (w := W) (by rw [hW]; simp) hb
      have HR : Hid (∀ wr, Below W.heap.size W wr → ks ≠ [] → ∃ b off, ao = some ⟨b, off, none⟩ ∧ TmsIn wr ks b off) := fun wr hb h0 => by
        obtain ⟨b, off, e, hr⟩ := hrow h0
        exact ⟨b, off, e, TmsIn.keep hb ks b off (TmsIn.keep hb0 ks b off hr)⟩
      have HKS : Hid _ := hks
      replace hb0 : Hid _ := hb0
      clear hrow hks
      go_enter Try.func76, Try.ntmps76
      go_wp2_with (go_at_call 82; refine (Calls.mono (HONE.out _) ?_); rintro e w1 ⟨rfl, hb⟩; rw [← hW] at hb; have HB1 : Hid (Below W.heap.size W w1) := hb; clear hb)
      go_loopw [5] (fun vi wr => Hid (Below W.heap.size W wr) ∧ ∃ j : Nat, j ≤ ks.length ∧ vi = .int .i64 (j : Int) ∧ Hid (rights (ks.take j) (d + 1) = true)) (fun i _ => ks.length - (intOf i).toNat)
      case atStart => exact ⟨HB1.out, 0, by omega, rfl, by show _ = _; rfl⟩
      case round =>
        obtain ⟨HB, j, hj, rfl, HL⟩ := hrel
        have c3 := HC3.out wr HB.out
        by_cases hlt : j < ks.length
        · obtain ⟨b, off, rfl, hin⟩ := HR.out wr HB.out (by intro e; subst e; simp at hlt)
          obtain ⟨c0, c1, c2, c3', h0, h1, h2, h3, ht⟩ := hin.at j hlt
          have HC := HKS.out ks[j] (List.getElem_mem hlt) wr _ (d + 1) ht (by omega)
          rw [show ((d + 1 : Nat) : Int) = (d : Int) + 1 by omega] at HC
          clear hin ht HR HC3 HKS HB1 HONE
          cases hj1 : ks[j].right (d + 1) with
          | true =>
            rw [hj1] at HC
            replace HC : Hid _ := HC
            have HL' : Hid _ := rights_take hlt HL.out hj1
            clear HL hj1
            go_wp2_with (go_at_call 76; refine (Calls.mono HC.out ?_); rintro e w2 ⟨rfl, hb⟩; have HB2 : Hid (Below W.heap.size W w2) := HB.out.trans (hb.mono HB.out.size); clear hb)
            go_roundw
            case rel => exact ⟨HB2.out, j + 1, by omega, by go_num, HL'.out⟩
            case measure => simp [intOf]; omega
          | false =>
            rw [hj1] at HC
            replace HC : Hid _ := HC
            have HF : Hid _ := rights_no hlt hj1
            clear HL hj1
            go_wp2_with (go_at_call 76; refine (Calls.mono HC.out ?_); rintro e w2 ⟨rfl, hb⟩; have HB2 : Hid (Below W.heap.size W w2) := HB.out.trans (hb.mono HB.out.size); clear hb)
            go_ret
            exact ⟨by rw [HF.out]; rfl, hb0.out.trans (HB2.out.mono hb0.out.size)⟩
        · have hf := HL.out
          rw [List.take_of_length_le (by omega)] at hf
          have HF : Hid _ := hf
          clear HL hf HR HC3 HKS HB1 HONE
          go_wp2
          go_ret
          exact ⟨by rw [HF.out]; rfl, hb0.out.trans (HB.out.mono hb0.out.size)⟩
  · rw [decide_eq_false hdeep, Bool.false_and, Bool.false_and]
    clear hrow hks HONE
    go_enter Try.func76, Try.ntmps76
    go_wp2
    go_ret
    exact ⟨rfl, hb0⟩

theorem specOk (t : Tm) (w : World) (v : Value) (h : TmIn w t v) :
    Calls Try.prog 54 #[v] w fun e w' => e = .returned (.bool t.ok) ∧ Below w.heap.size w w' := by
  obtain ⟨k, s, n, ao, len, cap, rfl⟩ := tm_shape h
  obtain ⟨W, hW⟩ : ∃ W, W = w.alloc (.cells #[.int .i64 k, .string s, .int .i64 n, .slice ao len cap] 28) := ⟨_, rfl⟩
  have hb0 : Below w.heap.size w W := by rw [hW]; exact (Below.refl _ _).alloc (Nat.le_refl _) _
  have hblk : W.heap[w.heap.size]? = some (.cells #[.int .i64 k, .string s, .int .i64 n, .slice ao len cap] 28 (0, 0)) := by rw [hW]; exact heap_alloc_new w _
  have hwW : w.heap.size < W.heap.size := by rw [hW]; simp
  have HCELL : Hid (∀ w', Below W.heap.size W w' → w'.cell? ⟨w.heap.size, 0, none⟩ = some (.int .i64 k) ∧ w'.cell? ⟨w.heap.size, 1, none⟩ = some (.string s) ∧ w'.cell? ⟨w.heap.size, 2, none⟩ = some (.int .i64 n) ∧ w'.cell? ⟨w.heap.size, 3, none⟩ = some (.slice ao len cap)) := fun w' hb => by
    have h := (hb.block _ hwW).trans hblk
    exact ⟨blk_cell (i := 0) h (by simp), blk_cell (i := 1) h (by simp), blk_cell (i := 2) h (by simp), blk_cell (i := 3) h (by simp)⟩
  have HIN : Hid (∀ w', Below W.heap.size W w' → TmIn w' t (.agg #[.int .i64 k, .string s, .int .i64 n, .slice ao len cap])) := fun w' hb => TmIn.keep hb _ _ (TmIn.keep hb0 _ _ h)
  have HC := count_term t W _ 400 (HIN.out W (Below.refl _ _)) (by omega)
  rw [hW] at HC
  clear h hblk hwW
  by_cases hf : t.n ≤ 400
  · rw [show szR t.n 400 = ((400 - t.n : Nat) : Int) from if_pos hf] at HC
    have hz : (0 : Int) ≤ ((400 - t.n : Nat) : Int) := by omega
    generalize ((400 - t.n : Nat) : Int) = z at *
    rw [show t.ok = t.right 1 by unfold Tm.ok; rw [decide_eq_true hf, Bool.true_and]]
    generalize hb : t.right 1 = b
    have HRT : Hid (∀ w', Below W.heap.size W w' → Calls Try.prog 76 #[.agg #[.int .i64 k, .string s, .int .i64 n, .slice ao len cap], .int .i64 1] w' fun e w2 => e = .returned (.bool b) ∧ Below w'.heap.size w' w2) := fun w' hbw => by
      have := right_term t w' _ 1 (HIN.out w' hbw) (by omega)
      rw [hb] at this
      exact this
    replace HC : Hid _ := HC
    clear hb
    go_enter Try.func54, Try.ntmps54
    go_wp2_with (first
      | (go_at_call 75; refine (Calls.mono HC.out ?_); rintro e w1 ⟨rfl, hb⟩; rw [← hW] at hb; have HB1 : Hid (Below W.heap.size W w1) := hb; obtain ⟨c0, c1, c2, c3⟩ := HCELL.out w1 hb; clear hb)
      | (go_at_call 76; refine (Calls.mono (HRT.out _ HB1.out) ?_); rintro e w2 ⟨rfl, hb⟩; have HB2 : Hid (Below W.heap.size W w2) := HB1.out.trans (hb.mono HB1.out.size); clear hb))
    go_ret
    exact ⟨rfl, hb0.trans (HB2.out.mono hb0.size)⟩
  · rw [show szR t.n 400 = -1 from if_neg hf] at HC
    rw [show t.ok = false by unfold Tm.ok; rw [decide_eq_false hf, Bool.false_and]]
    replace HC : Hid _ := HC
    go_enter Try.func54, Try.ntmps54
    go_wp2_with (go_at_call 75; refine (Calls.mono HC.out ?_); rintro e w1 ⟨rfl, hb⟩; rw [← hW] at hb; have HB1 : Hid (Below W.heap.size W w1) := hb; clear hb)
    go_ret
    exact ⟨rfl, hb0.trans (HB1.out.mono hb0.size)⟩
end Go.Proofs.Ytcmnjpoapcogham

/- spec.Shifted: as impl.Shifted. -/
namespace Go.Proofs.Ytcmnjpoapcogham
open Go.RowKit

set_option maxHeartbeats 1000000 in
set_option maxRecDepth 20000 in
theorem shifted_raw (t : Tm) (b : Int) (w : World) (v : Value) (ht : TmIn w t v) (hwt : t.wt ≤ 1048576) :
    Calls Try.prog 32 #[v, .int .i64 b] w fun e w' => ∃ v', e = .returned v' ∧ TmIn w' (shiftR t b) v' ∧ Below w.heap.size w w' := by
  obtain ⟨k, s, n, ao, len, cap, rfl⟩ := tm_shape ht
  obtain ⟨W, hW⟩ : ∃ W, W = (w.alloc (.cells #[.int .i64 k, .string s, .int .i64 n, .slice ao len cap] 28)).alloc (.cells #[.int .i64 0, .string ⟨#[]⟩, .int .i64 0, .slice none 0 0] 28) := ⟨_, rfl⟩
  have bW : Below w.heap.size w W := by rw [hW]; exact ((Below.refl _ _).alloc (Nat.le_refl _) _).alloc (by simp) _
  have lW : W.heap.size = w.heap.size + 2 := by rw [hW]; simp
  have k1 : W.heap[w.heap.size]? = some (.cells #[.int .i64 k, .string s, .int .i64 n, .slice ao len cap] 28 (0, 0)) := by rw [hW]; exact (alloc_old _ _ (by simp)).trans (alloc_at _ _ rfl)
  have k2 : W.heap[w.heap.size + 1]? = some (.cells #[.int .i64 0, .string ⟨#[]⟩, .int .i64 0, .slice none 0 0] 28 (0, 0)) := by rw [hW]; exact alloc_at _ _ (by simp)
  have HK : Hid (∀ w1, Below W.heap.size W w1 → TmIn w1 t (.agg #[.int .i64 k, .string s, .int .i64 n, .slice ao len cap]) ∧ w1.heap[w.heap.size]? = some (.cells #[.int .i64 k, .string s, .int .i64 n, .slice ao len cap] 28 (0, 0)) ∧ w1.heap[w.heap.size + 1]? = some (.cells #[.int .i64 0, .string ⟨#[]⟩, .int .i64 0, .slice none 0 0] 28 (0, 0))) := fun w1 hb =>
    ⟨TmIn.keep hb _ _ (TmIn.keep bW _ _ ht), (hb.block _ (by omega)).trans k1, (hb.block _ (by omega)).trans k2⟩
  have HOK := specOk t W _ (HK.out W (Below.refl _ _)).1
  have HBW : Hid (Below w.heap.size w W) := bW
  have HT0 : Hid (TmIn w t (.agg #[.int .i64 k, .string s, .int .i64 n, .slice ao len cap])) := ht
  clear ht k1 k2 bW
  by_cases h1 : t.ok = true
  · rw [h1, hW] at HOK
    replace HOK : Hid _ := HOK
    by_cases h2 : -99999 ≤ b ∧ b ≤ 99999
    · have HSH : Hid (∀ w1 v1, TmIn w1 t v1 → Calls Try.prog 56 #[v1, .int .i64 b] w1 fun e w' => ∃ v' F, e = .returned v' ∧ Own 28 w' (t.shift b) v' F ∧ (∀ f ∈ F, w1.heap.size ≤ f) ∧ F.Nodup ∧ Below w1.heap.size w1 w') := fun w1 v1 h => l03_shift b h2.1 h2.2 t w1 v1 1 h (by unfold Tm.ok at h1; simp at h1; exact h1.2) hwt
      have HIN : Hid (∀ w1, Calls Try.prog 55 #[.int .i64 b, .int .i64 (-99999), .int .i64 99999] w1 fun e w' => e = .returned (.bool true) ∧ w' = w1) := fun w1 => by have := in_any b (-99999) 99999 w1; rw [decide_eq_true h2] at this; exact this
      by_cases h3 : (t.shift b).ok = true
      · have HR : Hid (shiftR t b = t.shift b) := shiftR_yes h1 h3
        obtain ⟨u, hu⟩ : ∃ u, u = t.shift b := ⟨_, rfl⟩
        rw [← hu] at HSH h3 HR
        have HO2 : Hid (∀ w1 v1, TmIn w1 u v1 → Calls Try.prog 54 #[v1] w1 fun e w' => e = .returned (.bool true) ∧ Below w1.heap.size w1 w') := fun w1 v1 h => by have := specOk u w1 v1 h; rw [h3] at this; exact this
        clear h1 h2 h3 hu hwt
        go_enter Try.func32, Try.ntmps32
        go_upto_region 3 with (first
          | (go_at_call 54; refine (Calls.mono HOK.out ?_); rintro e w1 ⟨rfl, hb1⟩; rw [← hW] at hb1; have HB1 : Hid (Below W.heap.size W w1) := hb1; clear hb1)
          | (go_at_call 55; refine (HIN.out _).mono ?_; rintro e w' ⟨rfl, rfl⟩))
        obtain ⟨g1, g2, g3⟩ := HK.out _ HB1.out
        obtain ⟨y0, y1, y2, y3, _⟩ := blk4 g2
        have HC : Hid _ := HSH.out _ _ g1
        clear g1 g2 g3 HOK hW
        go_upto_region 4 with (go_at_call 56; refine (Calls.mono HC.out ?_); rintro e w2 ⟨v2, F2, rfl, o2, f2, _, b2⟩; obtain ⟨k2, s2, n2, ao2, len2, cap2, rfl⟩ := own_shape o2; have O2 : Hid (Own 28 w2 u (.agg #[.int .i64 k2, .string s2, .int .i64 n2, .slice ao2 len2 cap2]) F2) := o2; have HB2 : Hid (Below W.heap.size W w2) := HB1.out.trans (b2.mono HB1.out.size); have HF2 : Hid (∀ f ∈ F2, W.heap.size ≤ f) := fun f hf => Nat.le_trans HB1.out.size (f2 f hf); clear o2 f2 b2)
        obtain ⟨V, hV⟩ : ∃ V, V = w2.alloc (.cells #[.int .i64 k2, .string s2, .int .i64 n2, .slice ao2 len2 cap2] 28) := ⟨_, rfl⟩
        have bV : Below w2.heap.size w2 V := by rw [hV]; exact (Below.refl _ _).alloc (Nat.le_refl _) _
        have kV : V.heap[w2.heap.size]? = some (.cells #[.int .i64 k2, .string s2, .int .i64 n2, .slice ao2 len2 cap2] 28 (0, 0)) := by rw [hV]; exact heap_alloc_new _ _
        have lV : V.heap.size = w2.heap.size + 1 := by rw [hV]; simp
        rw [← hV]
        have HVB : Hid (∀ f, f < w2.heap.size → V.heap[f]? = w2.heap[f]?) := fun f hf => bV.block f hf
        have HB3 : Hid (Below W.heap.size W V) := HB2.out.trans (bV.mono HB2.out.size)
        have tV : TmIn V u (.agg #[.int .i64 k2, .string s2, .int .i64 n2, .slice ao2 len2 cap2]) := TmIn.keep bV _ _ (Own.toIn _ _ _ O2.out)
        have HTV : Hid _ := HO2.out V _ tV
        have HTU : Hid (∀ w', Below V.heap.size V w' → TmIn w' u (.agg #[.int .i64 k2, .string s2, .int .i64 n2, .slice ao2 len2 cap2]) ∧ w'.heap[w2.heap.size]? = some (.cells #[.int .i64 k2, .string s2, .int .i64 n2, .slice ao2 len2 cap2] 28 (0, 0))) := fun w' h => ⟨TmIn.keep h _ _ tV, (h.block _ (by omega)).trans kV⟩
        obtain ⟨x0, x1, x2, x3, _⟩ := blk4 kV
        clear HC y0 y1 y2 y3 hV bV tV kV
        go_upto_region 6 with (go_at_call 54; refine (Calls.mono HTV.out ?_); rintro e w3 ⟨rfl, b3⟩; have HB4 : Hid (Below V.heap.size V w3) := b3; clear b3)
        have HB5 : Hid (Below W.heap.size W w3) := HB3.out.trans (HB4.out.mono HB3.out.size)
        obtain ⟨j1, j2, j3⟩ := HK.out w3 HB5.out
        obtain ⟨i1, i2⟩ := HTU.out w3 HB4.out
        have HZ : Hid (w3.heap[w.heap.size + 1]? = some (.cells #[.int .i64 0, .string ⟨#[]⟩, .int .i64 0, .slice none 0 0] 28 (0, 0))) := j3
        obtain ⟨y0, y1, y2, y3, _⟩ := blk4 j2
        obtain ⟨z0, z1, z2, z3, z4, z5, z6, z7⟩ := blk4 j3
        obtain ⟨t0, t1, t2, t3, _⟩ := blk4 i2
        clear x0 x1 x2 x3 i1 i2 j1 j2 j3
        go_wp2
        refine bodyPost_ret_by (results_cell_row rfl _ _ (w.heap.size + 1) 28 _ (0, 0) _ rfl (blk4_set HZ.out) Try.underlying28 rfl (by kernel_rfl)) rfl ?_
        have hbl : Below w.heap.size w w3 := HBW.out.trans (HB5.out.mono HBW.out.size)
        refine ⟨_, rfl, ?_, blk4_below hbl (by omega)⟩
        rw [HR.out]
        refine Own.toIn _ _ _ (Own.keep _ _ _ O2.out fun f hf => ?_)
        have f1 := HF2.out f hf
        have f2 := Own.lt _ _ _ O2.out f hf
        rw [blk4_other (by omega), HB4.out.block f (by omega), HVB.out f f2]
      · have HR : Hid (shiftR t b = t) := shiftR_not h1 (by simpa using h3)
        obtain ⟨u, hu⟩ : ∃ u, u = t.shift b := ⟨_, rfl⟩
        rw [← hu] at HSH h3
        have HO2 : Hid (∀ w1 v1, TmIn w1 u v1 → Calls Try.prog 54 #[v1] w1 fun e w' => e = .returned (.bool false) ∧ Below w1.heap.size w1 w') := fun w1 v1 h => by have := specOk u w1 v1 h; rw [show u.ok = false by simpa using h3] at this; exact this
        clear h1 h2 h3 hu hwt
        go_enter Try.func32, Try.ntmps32
        go_upto_region 3 with (first
          | (go_at_call 54; refine (Calls.mono HOK.out ?_); rintro e w1 ⟨rfl, hb1⟩; rw [← hW] at hb1; have HB1 : Hid (Below W.heap.size W w1) := hb1; clear hb1)
          | (go_at_call 55; refine (HIN.out _).mono ?_; rintro e w' ⟨rfl, rfl⟩))
        obtain ⟨g1, g2, g3⟩ := HK.out _ HB1.out
        obtain ⟨y0, y1, y2, y3, _⟩ := blk4 g2
        have HC : Hid _ := HSH.out _ _ g1
        clear g1 g2 g3 HOK hW
        go_upto_region 4 with (go_at_call 56; refine (Calls.mono HC.out ?_); rintro e w2 ⟨v2, F2, rfl, o2, f2, _, b2⟩; obtain ⟨k2, s2, n2, ao2, len2, cap2, rfl⟩ := own_shape o2; have O2 : Hid (Own 28 w2 u (.agg #[.int .i64 k2, .string s2, .int .i64 n2, .slice ao2 len2 cap2]) F2) := o2; have HB2 : Hid (Below W.heap.size W w2) := HB1.out.trans (b2.mono HB1.out.size); have HF2 : Hid (∀ f ∈ F2, W.heap.size ≤ f) := fun f hf => Nat.le_trans HB1.out.size (f2 f hf); clear o2 f2 b2)
        obtain ⟨V, hV⟩ : ∃ V, V = w2.alloc (.cells #[.int .i64 k2, .string s2, .int .i64 n2, .slice ao2 len2 cap2] 28) := ⟨_, rfl⟩
        have bV : Below w2.heap.size w2 V := by rw [hV]; exact (Below.refl _ _).alloc (Nat.le_refl _) _
        have kV : V.heap[w2.heap.size]? = some (.cells #[.int .i64 k2, .string s2, .int .i64 n2, .slice ao2 len2 cap2] 28 (0, 0)) := by rw [hV]; exact heap_alloc_new _ _
        have lV : V.heap.size = w2.heap.size + 1 := by rw [hV]; simp
        rw [← hV]
        have HVB : Hid (∀ f, f < w2.heap.size → V.heap[f]? = w2.heap[f]?) := fun f hf => bV.block f hf
        have HB3 : Hid (Below W.heap.size W V) := HB2.out.trans (bV.mono HB2.out.size)
        have tV : TmIn V u (.agg #[.int .i64 k2, .string s2, .int .i64 n2, .slice ao2 len2 cap2]) := TmIn.keep bV _ _ (Own.toIn _ _ _ O2.out)
        have HTV : Hid _ := HO2.out V _ tV
        have HTU : Hid (∀ w', Below V.heap.size V w' → TmIn w' u (.agg #[.int .i64 k2, .string s2, .int .i64 n2, .slice ao2 len2 cap2]) ∧ w'.heap[w2.heap.size]? = some (.cells #[.int .i64 k2, .string s2, .int .i64 n2, .slice ao2 len2 cap2] 28 (0, 0))) := fun w' h => ⟨TmIn.keep h _ _ tV, (h.block _ (by omega)).trans kV⟩
        obtain ⟨x0, x1, x2, x3, _⟩ := blk4 kV
        clear HC y0 y1 y2 y3 hV bV tV kV
        go_upto_region 5 with (go_at_call 54; refine (Calls.mono HTV.out ?_); rintro e w3 ⟨rfl, b3⟩; have HB4 : Hid (Below V.heap.size V w3) := b3; clear b3)
        have HB5 : Hid (Below W.heap.size W w3) := HB3.out.trans (HB4.out.mono HB3.out.size)
        obtain ⟨j1, j2, j3⟩ := HK.out w3 HB5.out
        obtain ⟨i1, i2⟩ := HTU.out w3 HB4.out
        have HZ : Hid (w3.heap[w.heap.size + 1]? = some (.cells #[.int .i64 0, .string ⟨#[]⟩, .int .i64 0, .slice none 0 0] 28 (0, 0))) := j3
        obtain ⟨y0, y1, y2, y3, _⟩ := blk4 j2
        obtain ⟨z0, z1, z2, z3, z4, z5, z6, z7⟩ := blk4 j3
        obtain ⟨t0, t1, t2, t3, _⟩ := blk4 i2
        clear x0 x1 x2 x3 i1 i2 j1 j2 j3
        go_wp2
        refine bodyPost_ret_by (results_cell_row rfl _ _ (w.heap.size + 1) 28 _ (0, 0) _ rfl (blk4_set HZ.out) Try.underlying28 rfl (by kernel_rfl)) rfl ?_
        have hbl : Below w.heap.size w w3 := HBW.out.trans (HB5.out.mono HBW.out.size)
        refine ⟨_, rfl, ?_, blk4_below hbl (by omega)⟩
        rw [HR.out]
        exact TmIn.keep (blk4_below hbl (by omega)) _ _ HT0.out
    · have HR : Hid (shiftR t b = t) := shiftR_far h2
      have HIN : Hid (∀ w1, Calls Try.prog 55 #[.int .i64 b, .int .i64 (-99999), .int .i64 99999] w1 fun e w' => e = .returned (.bool false) ∧ w' = w1) := fun w1 => by have := in_any b (-99999) 99999 w1; rw [decide_eq_false h2] at this; exact this
      clear h1 h2 hwt
      go_enter Try.func32, Try.ntmps32
      go_upto_region 2 with (first
        | (go_at_call 54; refine (Calls.mono HOK.out ?_); rintro e w1 ⟨rfl, hb1⟩; rw [← hW] at hb1; have HB1 : Hid (Below W.heap.size W w1) := hb1; clear hb1)
        | (go_at_call 55; refine (HIN.out _).mono ?_; rintro e w' ⟨rfl, rfl⟩))
      obtain ⟨j1, j2, j3⟩ := HK.out _ HB1.out
      have HZ : Hid (w'.heap[w.heap.size + 1]? = some (.cells #[.int .i64 0, .string ⟨#[]⟩, .int .i64 0, .slice none 0 0] 28 (0, 0))) := j3
      obtain ⟨y0, y1, y2, y3, _⟩ := blk4 j2
      obtain ⟨z0, z1, z2, z3, z4, z5, z6, z7⟩ := blk4 j3
      clear j1 j2 j3 hW HOK
      go_wp2
      refine bodyPost_ret_by (results_cell_row rfl _ _ (w.heap.size + 1) 28 _ (0, 0) _ rfl (blk4_set HZ.out) Try.underlying28 rfl (by kernel_rfl)) rfl ?_
      have hbl : Below w.heap.size w w' := HBW.out.trans (HB1.out.mono HBW.out.size)
      refine ⟨_, rfl, ?_, blk4_below hbl (by omega)⟩
      rw [HR.out]
      exact TmIn.keep (blk4_below hbl (by omega)) _ _ HT0.out
  · have h1' : t.ok = false := by simpa using h1
    have HR : Hid (shiftR t b = t) := shiftR_no h1'
    rw [h1', hW] at HOK
    replace HOK : Hid _ := HOK
    clear h1 h1' hwt
    go_enter Try.func32, Try.ntmps32
    go_upto_region 2 with (go_at_call 54; refine (Calls.mono HOK.out ?_); rintro e w1 ⟨rfl, hb1⟩; rw [← hW] at hb1; have HB1 : Hid (Below W.heap.size W w1) := hb1; clear hb1)
    obtain ⟨j1, j2, j3⟩ := HK.out _ HB1.out
    have HZ : Hid (w1.heap[w.heap.size + 1]? = some (.cells #[.int .i64 0, .string ⟨#[]⟩, .int .i64 0, .slice none 0 0] 28 (0, 0))) := j3
    obtain ⟨y0, y1, y2, y3, _⟩ := blk4 j2
    obtain ⟨z0, z1, z2, z3, z4, z5, z6, z7⟩ := blk4 j3
    clear j1 j2 j3 hW HOK
    go_wp2
    refine bodyPost_ret_by (results_cell_row rfl _ _ (w.heap.size + 1) 28 _ (0, 0) _ rfl (blk4_set HZ.out) Try.underlying28 rfl (by kernel_rfl)) rfl ?_
    have hbl : Below w.heap.size w w1 := HBW.out.trans (HB1.out.mono HBW.out.size)
    refine ⟨_, rfl, ?_, blk4_below hbl (by omega)⟩
    rw [HR.out]
    exact TmIn.keep (blk4_below hbl (by omega)) _ _ HT0.out

set_option maxRecDepth 20000 in
theorem spec_shifted (t : Tm) (b : Int) (w : World) (v : Value) (ht : TmIn w t v) (hwt : t.wt ≤ 1048576) :
    Calls Try.prog 10 #[v, .int .i64 b] w fun e w' => ∃ v' F, e = .returned v' ∧ Own 28 w' (shiftR t b) v' F ∧ (∀ f ∈ F, w.heap.size ≤ f) ∧ F.Nodup ∧ Below w.heap.size w w' := by
  obtain ⟨k, s, n, ao, len, cap, rfl⟩ := tm_shape ht
  obtain ⟨W, hW⟩ : ∃ W, W = (w.alloc (.cells #[.int .i64 k, .string s, .int .i64 n, .slice ao len cap] 28)).alloc (.cells #[.int .i64 0, .string ⟨#[]⟩, .int .i64 0, .slice none 0 0] 28) := ⟨_, rfl⟩
  have bW : Below w.heap.size w W := by rw [hW]; exact ((Below.refl _ _).alloc (Nat.le_refl _) _).alloc (by simp) _
  have lW : W.heap.size = w.heap.size + 2 := by rw [hW]; simp
  have k2 : W.heap[w.heap.size + 1]? = some (.cells #[.int .i64 0, .string ⟨#[]⟩, .int .i64 0, .slice none 0 0] 28 (0, 0)) := by rw [hW]; exact alloc_at _ _ (by simp)
  have HC := shifted_raw t b W _ (TmIn.keep bW _ _ ht) hwt
  rw [hW] at HC
  replace HC : Hid _ := HC
  have hrw : (shiftR t b).wt ≤ 1048576 := by rw [shiftR_wt]; exact hwt
  generalize hr : shiftR t b = R at *
  have HL : Hid (∀ w1 v1, TmIn w1 R v1 → Calls Try.prog 33 #[v1] w1 fun e w' => ∃ v' F, e = .returned v' ∧ Own 28 w' R v' F ∧ (∀ f ∈ F, w1.heap.size ≤ f) ∧ F.Nodup ∧ Below w1.heap.size w1 w') := fun w1 v1 h => l34_term R w1 v1 h hrw
  clear hr ht hwt hrw
  have HK2 : Hid (∀ w1, Below W.heap.size W w1 → w1.heap[w.heap.size + 1]? = some (.cells #[.int .i64 0, .string ⟨#[]⟩, .int .i64 0, .slice none 0 0] 28 (0, 0))) := fun w1 hb => (hb.block _ (by omega)).trans k2
  have HBW : Hid (Below w.heap.size w W) := bW
  clear k2 bW
  go_enter Try.func10, Try.ntmps10
  go_upto_region 2 with (go_at_call 32; refine (Calls.mono HC.out ?_); rintro e w1 ⟨v1, rfl, ht1, hb1⟩; rw [← hW] at hb1; obtain ⟨k1, s1, n1, ao1, len1, cap1, rfl⟩ := tm_shape ht1; have HT1 : Hid (TmIn w1 R (.agg #[.int .i64 k1, .string s1, .int .i64 n1, .slice ao1 len1 cap1])) := ht1; have HB1 : Hid (Below W.heap.size W w1) := hb1; clear ht1 hb1)
  obtain ⟨V, hV⟩ : ∃ V, V = w1.alloc (.cells #[.int .i64 k1, .string s1, .int .i64 n1, .slice ao1 len1 cap1] 28) := ⟨_, rfl⟩
  rw [← hV]
  have bV : Below w1.heap.size w1 V := by rw [hV]; exact (Below.refl _ _).alloc (Nat.le_refl _) _
  have kV : V.heap[w1.heap.size]? = some (.cells #[.int .i64 k1, .string s1, .int .i64 n1, .slice ao1 len1 cap1] 28 (0, 0)) := by rw [hV]; exact heap_alloc_new _ _
  have HB2 : Hid (Below W.heap.size W V) := HB1.out.trans (bV.mono HB1.out.size)
  have HC2 : Hid _ := HL.out V _ (TmIn.keep bV _ _ HT1.out)
  obtain ⟨x0, x1, x2, x3, _⟩ := blk4 kV
  clear hV bV kV hW HC
  go_wp2_with (go_at_call 33; refine (Calls.mono HC2.out ?_); rintro e w2 ⟨v2, F, rfl, hown, hfr, hnd, hb2⟩; obtain ⟨k3, s3, n3, ao3, len3, cap3, rfl⟩ := own_shape hown; have HB3 : Hid (Below W.heap.size W w2) := HB2.out.trans (hb2.mono HB2.out.size); have HZ : Hid (w2.heap[w.heap.size + 1]? = some (.cells #[.int .i64 0, .string ⟨#[]⟩, .int .i64 0, .slice none 0 0] 28 (0, 0))) := HK2.out w2 HB3.out; obtain ⟨y0, y1, y2, y3, z0, z1, z2, z3⟩ := blk4 HZ.out; have HO : Hid (Own 28 w2 R (.agg #[.int .i64 k3, .string s3, .int .i64 n3, .slice ao3 len3 cap3]) F) := hown; have HF : Hid (∀ f ∈ F, V.heap.size ≤ f) := hfr; have HND : Hid (F.Nodup) := hnd; clear hown hfr hnd hb2 x0 x1 x2 x3)
  refine bodyPost_ret_by (results_cell_row rfl _ _ (w.heap.size + 1) 28 _ (0, 0) _ rfl (blk4_set HZ.out) Try.underlying28 rfl (by kernel_rfl)) rfl ?_
  have hbl : Below w.heap.size w w2 := HBW.out.trans (HB3.out.mono HBW.out.size)
  have hVs := HB2.out.size
  refine ⟨_, F, rfl, Own.keep _ _ _ HO.out fun f hf => blk4_other (by have := HF.out f hf; omega), fun f hf => by have := HF.out f hf; omega, HND.out, blk4_below hbl (by omega)⟩
end Go.Proofs.Ytcmnjpoapcogham

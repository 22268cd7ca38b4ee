/- Which terms are right: the specification's. -/
import Derived.Test.YtenmhpalpfppmaoGreatDoorSzR
import Derived.Test.YtenmhpalpfppmaoGreatDoorMrg4
import Derived.Test.YtenmhpalpfppmaoGreatDoorTmCntA
import Derived.Test.YtenmhpalpfppmaoGreatDoorMrg8
import Derived.Test.YtenmhpalpfppmaoGreatDoorMrg9
namespace Go.Proofs.YtenmhpalpfppmaoGreatDoor
open Go.RowKit

theorem in_t (x a b : Int) (w : World) (h : a ≤ x ∧ x ≤ b) :
    Calls Tryz.prog 47 #[.int .i64 x, .int .i64 a, .int .i64 b] w fun e w' => e = .returned (.bool true) ∧ w' = w := by
  have := in_any x a b w
  rwa [decide_eq_true h] at this
theorem in_f (x a b : Int) (w : World) (h : ¬ (a ≤ x ∧ x ≤ b)) :
    Calls Tryz.prog 47 #[.int .i64 x, .int .i64 a, .int .i64 b] w fun e w' => e = .returned (.bool false) ∧ w' = w := by
  have := in_any x a b w
  rwa [decide_eq_false h] at this

theorem specOne (k : Int) (s : ByteArray) (n : Int) (ao : Option Addr) (l cap : Nat) (hs : s.size ≤ maxLen) (hl : l ≤ maxLen) (w : World) :
    Calls Tryz.prog 30 #[.agg #[.int .i64 k, .string s, .int .i64 n, .slice ao l cap]] w fun e w' => e = .returned (.bool (oneT k s n l)) ∧ Below w.heap.size w w' := by
  have hb0 : Below w.heap.size w (w.alloc (.cells #[.int .i64 k, .string s, .int .i64 n, .slice ao l cap] 29)) := (Below.refl _ _).alloc (Nat.le_refl _) _
  have HN : Hid (∀ w, Calls Tryz.prog 48 #[.string s] w fun e w' => e = .returned (.bool (nameOk s)) ∧ w' = w) := specName s hs
  unfold maxLen at hl
  clear hs
  by_cases h1 : k = 1
  · subst h1
    clear HN
    by_cases hr : 0 ≤ n ∧ n ≤ 99999
    · by_cases hz : s.size = 0
      · obtain rfl := empty_of hz
        go_enter Tryz.func30, Tryz.ntmps30
        go_wp2_with (go_at_call 47; refine (in_t _ _ _ _ hr).mono ?_; rintro e w1 ⟨rfl, rfl⟩)
        go_ret
        exact ⟨ret_bool (by simp only [oneT, nat0, decide_eq_true hr, show (⟨#[]⟩ : ByteArray).size = 0 from rfl]; simp), hb0⟩
      · have hq := not_empty hz
        go_enter Tryz.func30, Tryz.ntmps30
        go_wp2_with (go_at_call 47; refine (in_t _ _ _ _ hr).mono ?_; rintro e w1 ⟨rfl, rfl⟩)
        go_ret
        exact ⟨ret_bool (by simp [oneT, hz]), hb0⟩
    · go_enter Tryz.func30, Tryz.ntmps30
      go_wp2_with (go_at_call 47; refine (in_f _ _ _ _ hr).mono ?_; rintro e w1 ⟨rfl, rfl⟩)
      go_ret
      exact ⟨ret_bool (by simp only [oneT, decide_eq_false hr]; simp), hb0⟩
  · by_cases h2 : k = 2
    · subst h2
      clear h1
      cases hN : nameOk s with
      | true =>
        rw [hN] at HN
        by_cases hz : n = 0
        · subst hz
          go_enter Tryz.func30, Tryz.ntmps30
          go_wp2_with (go_at_call 48; refine (Calls.mono (HN.out _) ?_); rintro e w1 ⟨rfl, rfl⟩)
          go_ret
          exact ⟨ret_bool (by simp [oneT, hN, nat0]), hb0⟩
        · go_enter Tryz.func30, Tryz.ntmps30
          go_wp2_with (go_at_call 48; refine (Calls.mono (HN.out _) ?_); rintro e w1 ⟨rfl, rfl⟩)
          go_ret
          exact ⟨ret_bool (by simp [oneT, hz]), hb0⟩
      | false =>
        rw [hN] at HN
        go_enter Tryz.func30, Tryz.ntmps30
        go_wp2_with (go_at_call 48; refine (Calls.mono (HN.out _) ?_); rintro e w1 ⟨rfl, rfl⟩)
        go_ret
        exact ⟨ret_bool (by simp [oneT, hN]), hb0⟩
    · by_cases h3 : k = 3
      · subst h3
        clear h1 h2 HN
        by_cases hr : -999999999 ≤ n ∧ n ≤ 999999999
        · by_cases hz : s.size = 0
          · obtain rfl := empty_of hz
            go_enter Tryz.func30, Tryz.ntmps30
            go_wp2_with (go_at_call 47; refine (in_t _ _ _ _ hr).mono ?_; rintro e w1 ⟨rfl, rfl⟩)
            go_ret
            exact ⟨ret_bool (by simp only [oneT, nat0, decide_eq_true hr, show (⟨#[]⟩ : ByteArray).size = 0 from rfl]; simp), hb0⟩
          · have hq := not_empty hz
            go_enter Tryz.func30, Tryz.ntmps30
            go_wp2_with (go_at_call 47; refine (in_t _ _ _ _ hr).mono ?_; rintro e w1 ⟨rfl, rfl⟩)
            go_ret
            exact ⟨ret_bool (by simp [oneT, hz]), hb0⟩
        · go_enter Tryz.func30, Tryz.ntmps30
          go_wp2_with (go_at_call 47; refine (in_f _ _ _ _ hr).mono ?_; rintro e w1 ⟨rfl, rfl⟩)
          go_ret
          exact ⟨ret_bool (by simp only [oneT, decide_eq_false hr]; simp), hb0⟩
      · by_cases h4 : k = 4
        · subst h4
          clear h1 h2 h3
          cases hN : nameOk s with
          | true =>
            rw [hN] at HN
            by_cases hz : n = 0
            · subst hz
              go_enter Tryz.func30, Tryz.ntmps30
              go_wp2_with (first | (go_at_call 48; refine (Calls.mono (HN.out _) ?_); rintro e w1 ⟨rfl, rfl⟩) | (go_at_call 47; refine (in_any _ _ _ _).mono ?_; rintro e w1 ⟨rfl, rfl⟩))
              go_ret
              exact ⟨ret_bool (by simp [oneT, hN]; congr 1 <;> congr 1 <;> apply propext <;> omega), hb0⟩
            · go_enter Tryz.func30, Tryz.ntmps30
              go_wp2_with (go_at_call 48; refine (Calls.mono (HN.out _) ?_); rintro e w1 ⟨rfl, rfl⟩)
              go_ret
              exact ⟨ret_bool (by simp [oneT, hz]), hb0⟩
          | false =>
            rw [hN] at HN
            go_enter Tryz.func30, Tryz.ntmps30
            go_wp2_with (go_at_call 48; refine (Calls.mono (HN.out _) ?_); rintro e w1 ⟨rfl, rfl⟩)
            go_ret
            exact ⟨ret_bool (by simp [oneT, hN]), hb0⟩
        · clear HN
          have e1 : (k == 1) = false := beq_eq_false_iff_ne.2 h1
          have e2 : (k == 2) = false := beq_eq_false_iff_ne.2 h2
          have e3 : (k == 3) = false := beq_eq_false_iff_ne.2 h3
          have e4 : (k == 4) = false := beq_eq_false_iff_ne.2 h4
          go_enter Tryz.func30, Tryz.ntmps30
          go_wp2
          go_ret
          exact ⟨ret_bool (by simp [oneT, h1, h2, h3, h4]), hb0⟩

def RightOk (t : Tm) : Prop := ∀ (w : World) (v : Value) (d : Nat), TmIn w t v → d ≤ 41 →
  Calls Tryz.prog 17 #[v, .int .i64 (d : Int)] w fun e w' => e = .returned (.bool (t.right d)) ∧ Below w.heap.size w w'

theorem right_term (t : Tm) : RightOk t := by
  refine tm_ind (p := RightOk) ?_ t
  clear t
  intro k s n ks hks w v d hin hd
  unfold TmIn at hin
  obtain ⟨ao, cap, rfl, hk, hn, hs, hlen, hcap, hrow⟩ := hin
  have HONE := specOne k s n ao ks.length cap hs (by omega)
  unfold maxLen at hcap
  rw [right_mk]
  have hb0 : Below w.heap.size w (w.alloc (.cells #[.int .i64 k, .string s, .int .i64 n, .slice ao ks.length cap] 29)) := (Below.refl _ _).alloc (Nat.le_refl _) _
  by_cases hdeep : d ≤ 40
  · rw [decide_eq_true hdeep, Bool.true_and]
    cases ho : oneT k s n ks.length with
    | false =>
      rw [ho] at HONE
      replace HONE : Hid _ := HONE
      replace hb0 : Hid _ := hb0
      rw [Bool.false_and]
      clear hrow hks
      go_enter Tryz.func17, Tryz.ntmps17
      go_wp2_with (go_at_call 30; refine (Calls.mono (HONE.out _) ?_); rintro e w1 ⟨rfl, hb⟩; have HB1 : Hid (Below w.heap.size w w1) := hb0.out.trans (hb.mono hb0.out.size); clear hb)
      go_ret
      exact ⟨rfl, HB1.out⟩
    | true =>
      rw [ho] at HONE
      replace HONE : Hid _ := HONE
      rw [Bool.true_and]
      obtain ⟨W, hW⟩ : ∃ W, W = w.alloc (.cells #[.int .i64 k, .string s, .int .i64 n, .slice ao ks.length cap] 29) := ⟨_, rfl⟩
      rw [← hW] at hb0
      have HC3 : Hid (∀ wr, Below W.heap.size W wr → wr.cell? ⟨w.heap.size, 3, none⟩ = some (.slice ao ks.length cap)) := fun wr hb =>
        cell_keep (w := W) (by rw [hW]; simp) hb
      have HR : Hid (∀ wr, Below W.heap.size W wr → ks ≠ [] → ∃ b off, ao = some ⟨b, off, none⟩ ∧ TmsIn wr ks b off) := fun wr hb h0 => by
        obtain ⟨b, off, e, hr⟩ := hrow h0
        exact ⟨b, off, e, TmsIn.keep hb ks b off (TmsIn.keep hb0 ks b off hr)⟩
      have HKS : Hid _ := hks
      replace hb0 : Hid _ := hb0
      clear hrow hks
      go_enter Tryz.func17, Tryz.ntmps17
      go_wp2_with (go_at_call 30; refine (Calls.mono (HONE.out _) ?_); rintro e w1 ⟨rfl, hb⟩; rw [← hW] at hb; have HB1 : Hid (Below W.heap.size W w1) := hb; clear hb)
      go_loopw [5] (fun vi wr => Hid (Below W.heap.size W wr) ∧ ∃ j : Nat, j ≤ ks.length ∧ vi = .int .i64 (j : Int) ∧ Hid (rights (ks.take j) (d + 1) = true)) (fun i _ => ks.length - (intOf i).toNat)
      case atStart => exact ⟨HB1.out, 0, by omega, rfl, by show _ = _; rfl⟩
      case round =>
        obtain ⟨HB, j, hj, rfl, HL⟩ := hrel
        have c3 := HC3.out wr HB.out
        by_cases hlt : j < ks.length
        · obtain ⟨b, off, rfl, hin⟩ := HR.out wr HB.out (by intro e; subst e; simp at hlt)
          obtain ⟨c0, c1, c2, c3', h0, h1, h2, h3, ht⟩ := hin.at j hlt
          have HC := HKS.out ks[j] (List.getElem_mem hlt) wr _ (d + 1) ht (by omega)
          rw [show ((d + 1 : Nat) : Int) = (d : Int) + 1 by omega] at HC
          clear hin ht HR HC3 HKS HB1 HONE
          cases hj1 : ks[j].right (d + 1) with
          | true =>
            rw [hj1] at HC
            replace HC : Hid _ := HC
            have HL' : Hid _ := rights_take hlt HL.out hj1
            clear HL hj1
            go_wp2_with (go_at_call 17; refine (Calls.mono HC.out ?_); rintro e w2 ⟨rfl, hb⟩; have HB2 : Hid (Below W.heap.size W w2) := HB.out.trans (hb.mono HB.out.size); clear hb)
            go_roundw
            case rel => exact ⟨HB2.out, j + 1, by omega, by go_num, HL'.out⟩
            case measure => simp [intOf]; omega
          | false =>
            rw [hj1] at HC
            replace HC : Hid _ := HC
            have HF : Hid _ := rights_no hlt hj1
            clear HL hj1
            go_wp2_with (go_at_call 17; refine (Calls.mono HC.out ?_); rintro e w2 ⟨rfl, hb⟩; have HB2 : Hid (Below W.heap.size W w2) := HB.out.trans (hb.mono HB.out.size); clear hb)
            go_ret
            exact ⟨by rw [HF.out]; rfl, hb0.out.trans (HB2.out.mono hb0.out.size)⟩
        · have hf := HL.out
          rw [List.take_of_length_le (by omega)] at hf
          have HF : Hid _ := hf
          clear HL hf HR HC3 HKS HB1 HONE
          go_wp2
          go_ret
          exact ⟨by rw [HF.out]; rfl, hb0.out.trans (HB.out.mono hb0.out.size)⟩
  · rw [decide_eq_false hdeep, Bool.false_and, Bool.false_and]
    clear hrow hks HONE
    go_enter Tryz.func17, Tryz.ntmps17
    go_wp2
    go_ret
    exact ⟨rfl, hb0⟩

theorem specOk (t : Tm) (w : World) (v : Value) (h : TmIn w t v) :
    Calls Tryz.prog 10 #[v] w fun e w' => e = .returned (.bool t.ok) ∧ Below w.heap.size w w' := by
  obtain ⟨k, s, n, ao, len, cap, rfl⟩ := tm_shape h
  obtain ⟨W, hW⟩ : ∃ W, W = w.alloc (.cells #[.int .i64 k, .string s, .int .i64 n, .slice ao len cap] 29) := ⟨_, rfl⟩
  have hb0 : Below w.heap.size w W := by rw [hW]; exact (Below.refl _ _).alloc (Nat.le_refl _) _
  have hblk : W.heap[w.heap.size]? = some (.cells #[.int .i64 k, .string s, .int .i64 n, .slice ao len cap] 29 (0, 0)) := by rw [hW]; exact heap_alloc_new w _
  have hwW : w.heap.size < W.heap.size := by rw [hW]; simp
  have HCELL : Hid (∀ w', Below W.heap.size W w' → w'.cell? ⟨w.heap.size, 0, none⟩ = some (.int .i64 k) ∧ w'.cell? ⟨w.heap.size, 1, none⟩ = some (.string s) ∧ w'.cell? ⟨w.heap.size, 2, none⟩ = some (.int .i64 n) ∧ w'.cell? ⟨w.heap.size, 3, none⟩ = some (.slice ao len cap)) := fun w' hb => by
    have h := (hb.block _ hwW).trans hblk
    exact ⟨blk_cell (i := 0) h (by simp), blk_cell (i := 1) h (by simp), blk_cell (i := 2) h (by simp), blk_cell (i := 3) h (by simp)⟩
  have HIN : Hid (∀ w', Below W.heap.size W w' → TmIn w' t (.agg #[.int .i64 k, .string s, .int .i64 n, .slice ao len cap])) := fun w' hb => TmIn.keep hb _ _ (TmIn.keep hb0 _ _ h)
  have HC := count_term t W _ 400 (HIN.out W (Below.refl _ _)) (by omega)
  rw [hW] at HC
  clear h hblk hwW
  by_cases hf : t.n ≤ 400
  · rw [show szR t.n 400 = ((400 - t.n : Nat) : Int) from if_pos hf] at HC
    have hz : (0 : Int) ≤ ((400 - t.n : Nat) : Int) := by omega
    generalize ((400 - t.n : Nat) : Int) = z at *
    rw [show t.ok = t.right 1 by unfold Tm.ok; rw [decide_eq_true hf, Bool.true_and]]
    generalize hb : t.right 1 = b
    have HRT : Hid (∀ w', Below W.heap.size W w' → Calls Tryz.prog 17 #[.agg #[.int .i64 k, .string s, .int .i64 n, .slice ao len cap], .int .i64 1] w' fun e w2 => e = .returned (.bool b) ∧ Below w'.heap.size w' w2) := fun w' hbw => by
      have := right_term t w' _ 1 (HIN.out w' hbw) (by omega)
      rw [hb] at this
      exact this
    replace HC : Hid _ := HC
    clear hb
    go_enter Tryz.func10, Tryz.ntmps10
    go_wp2_with (first
      | (go_at_call 16; refine (Calls.mono HC.out ?_); rintro e w1 ⟨rfl, hb⟩; rw [← hW] at hb; have HB1 : Hid (Below W.heap.size W w1) := hb; obtain ⟨c0, c1, c2, c3⟩ := HCELL.out w1 hb; clear hb)
      | (go_at_call 17; refine (Calls.mono (HRT.out _ HB1.out) ?_); rintro e w2 ⟨rfl, hb⟩; have HB2 : Hid (Below W.heap.size W w2) := HB1.out.trans (hb.mono HB1.out.size); clear hb))
    go_ret
    exact ⟨rfl, hb0.trans (HB2.out.mono hb0.size)⟩
  · rw [show szR t.n 400 = -1 from if_neg hf] at HC
    rw [show t.ok = false by unfold Tm.ok; rw [decide_eq_false hf, Bool.false_and]]
    replace HC : Hid _ := HC
    go_enter Tryz.func10, Tryz.ntmps10
    go_wp2_with (go_at_call 16; refine (Calls.mono HC.out ?_); rintro e w1 ⟨rfl, hb⟩; rw [← hW] at hb; have HB1 : Hid (Below W.heap.size W w1) := hb; clear hb)
    go_ret
    exact ⟨rfl, hb0.trans (HB1.out.mono hb0.size)⟩
end Go.Proofs.YtenmhpalpfppmaoGreatDoor

/- Four texts in one. -/
import Derived.Test.YtenmhpalpfppmaoDoorRows
import Derived.WalkKit
import Derived.WalkSpells
import Derived.Below
import Derived.ProofKit
import Derived.Test.YtenmhpalpfppmaoDoorMrg2
import Derived.Test.YtenmhpalpfppmaoDoorMrg7
import Derived.Test.YtenmhpalpfppmaoDoorMrg3
import Derived.Test.YtenmhpalpfppmaoDoorMrg1
import Derived.ChangeArms
import Derived.OpenShut
import Derived.Carry
/- spec.l01In. -/
namespace Go.Proofs.YtenmhpalpfppmaoDoor
open Go.RowKit

theorem in_any (x a b : Int) (w : World) :
    Calls Tryd.prog 94 #[.int .i64 x, .int .i64 a, .int .i64 b] w fun e w' => e = .returned (.bool (decide (a ≤ x ∧ x ≤ b))) ∧ w' = w := by
  by_cases h0 : a ≤ x
  · by_cases h1 : x ≤ b
    · rw [decide_eq_true (show a ≤ x ∧ x ≤ b from ⟨h0, h1⟩)]
      go_enter Tryd.func94, Tryd.ntmps94
      go_wp2
      go_ret
      exact ⟨by simp, rfl⟩
    · rw [decide_eq_false (show ¬ (a ≤ x ∧ x ≤ b) from fun h => h1 h.2)]
      go_enter Tryd.func94, Tryd.ntmps94
      go_wp2
      go_ret
      exact ⟨by simp, rfl⟩
  · rw [decide_eq_false (show ¬ (a ≤ x ∧ x ≤ b) from fun h => h0 h.1)]
    go_enter Tryd.func94, Tryd.ntmps94
    go_wp2
    go_ret
    exact ⟨by simp, rfl⟩

end Go.Proofs.YtenmhpalpfppmaoDoor

/- spec.l03Name. -/
namespace Go.Proofs.YtenmhpalpfppmaoDoor
open Go.RowKit

theorem specName (s : ByteArray) (hs : s.size ≤ maxLen) (w : World) :
    Calls Tryd.prog 79 #[.string s] w fun e w' => e = .returned (.bool (nameOk s)) ∧ w' = w := by
  unfold maxLen at hs
  go_enter Tryd.func79, Tryd.ntmps79
  go_wp2
  go_loopw [3] (fun i wr => wr = w ∧ ∃ k : Nat, k ≤ s.size ∧ i = .int .i64 (k : Int) ∧ Hid ((s.data.toList.take k).all charOk = true)) (fun i _ => s.size - (intOf i).toNat)
  case atStart => exact ⟨rfl, 0, by omega, rfl, by show _ = _; simp⟩
  case round =>
    obtain ⟨rfl, k, hk, rfl, hp⟩ := hrel
    by_cases hlt : k < s.size
    · have hc := s[k].toNat_lt
      by_cases hb : charOk s[k] = true
      · have hp' : Hid ((s.data.toList.take (k + 1)).all charOk = true) := by show _ = _; rw [take_at s k hlt, List.all_append, hp.out]; simp [hb]
        have h4 : 33 ≤ s[k].toNat ∧ s[k].toNat ≤ 126 ∧ s[k].toNat ≠ 39 ∧ s[k].toNat ≠ 34 := by
          unfold charOk at hb; simp at hb; omega
        obtain ⟨b1, b2, b3, b4⟩ := h4
        have e3 : ((s[k].toNat : Int) == 39) = false := beq_eq_false_iff_ne.2 (by omega)
        have e4 : ((s[k].toNat : Int) == 34) = false := beq_eq_false_iff_ne.2 (by omega)
        clear hp hb
        go_wp2
        go_roundw
        case rel => exact ⟨trivial, k + 1, by omega, by go_num, hp'⟩
        case measure => simp [intOf]; omega
      · have hf : nameOk s = false := by
          unfold nameOk
          rw [Bool.and_eq_false_iff]; left
          rw [List.all_eq_false]
          exact ⟨s[k], mem_s s k hlt, hb⟩
        have HF : Hid _ := hf
        have h4 : s[k].toNat < 33 ∨ (33 ≤ s[k].toNat ∧ 126 < s[k].toNat) ∨ s[k].toNat = 39 ∨ s[k].toNat = 34 := by
          unfold charOk at hb; simp at hb; omega
        clear hp hb hf
        rcases h4 with h4 | ⟨h4, h5⟩ | h4 | h4
        · go_wp2
          go_ret
          exact ⟨by rw [HF.out]; rfl, rfl⟩
        · go_wp2
          go_ret
          exact ⟨by rw [HF.out]; rfl, rfl⟩
        · go_wp2
          go_ret
          exact ⟨by rw [HF.out]; rfl, rfl⟩
        · go_wp2
          go_ret
          exact ⟨by rw [HF.out]; rfl, rfl⟩
    · have hf : nameOk s = decide ((1 : Int) ≤ (s.size : Int) ∧ (s.size : Int) ≤ 20) := by
        have := hp.out
        rw [List.take_of_length_le (by simp; omega)] at this
        unfold nameOk
        rw [this, Bool.true_and]
        congr 1
        apply propext
        omega
      have HF : Hid _ := hf
      clear hp hf
      go_wp2_with (go_at_call 94; refine (in_any _ _ _ _).mono ?_; rintro e w1 ⟨rfl, rfl⟩)
      go_ret
      exact ⟨by rw [HF.out, Bool.decide_and]; rfl, rfl⟩

end Go.Proofs.YtenmhpalpfppmaoDoor

/- Which terms are right: the specification's. -/
namespace Go.Proofs.YtenmhpalpfppmaoDoor
open Go.RowKit

theorem in_t (x a b : Int) (w : World) (h : a ≤ x ∧ x ≤ b) :
    Calls Tryd.prog 94 #[.int .i64 x, .int .i64 a, .int .i64 b] w fun e w' => e = .returned (.bool true) ∧ w' = w := by
  have := in_any x a b w
  rwa [decide_eq_true h] at this
theorem in_f (x a b : Int) (w : World) (h : ¬ (a ≤ x ∧ x ≤ b)) :
    Calls Tryd.prog 94 #[.int .i64 x, .int .i64 a, .int .i64 b] w fun e w' => e = .returned (.bool false) ∧ w' = w := by
  have := in_any x a b w
  rwa [decide_eq_false h] at this

theorem specOne (k : Int) (s : ByteArray) (n : Int) (ao : Option Addr) (l cap : Nat) (hs : s.size ≤ maxLen) (hl : l ≤ maxLen) (w : World) :
    Calls Tryd.prog 91 #[.agg #[.int .i64 k, .string s, .int .i64 n, .slice ao l cap]] w fun e w' => e = .returned (.bool (oneT k s n l)) ∧ Below w.heap.size w w' := by
  have hb0 : Below w.heap.size w (w.alloc (.cells #[.int .i64 k, .string s, .int .i64 n, .slice ao l cap] 31)) := (Below.refl _ _).alloc (Nat.le_refl _) _
  have HN : Hid (∀ w, Calls Tryd.prog 79 #[.string s] w fun e w' => e = .returned (.bool (nameOk s)) ∧ w' = w) := specName s hs
  unfold maxLen at hl
  clear hs
  by_cases h1 : k = 1
  · subst h1
    clear HN
    by_cases hr : 0 ≤ n ∧ n ≤ 99999
    · by_cases hz : s.size = 0
      · obtain rfl := empty_of hz
        go_enter Tryd.func91, Tryd.ntmps91
        go_wp2_with (go_at_call 94; refine (in_t _ _ _ _ hr).mono ?_; rintro e w1 ⟨rfl, rfl⟩)
        go_ret
        exact ⟨ret_bool (by simp only [oneT, nat0, decide_eq_true hr, show (⟨#[]⟩ : ByteArray).size = 0 from rfl]; simp), hb0⟩
      · have hq := not_empty hz
        go_enter Tryd.func91, Tryd.ntmps91
        go_wp2_with (go_at_call 94; refine (in_t _ _ _ _ hr).mono ?_; rintro e w1 ⟨rfl, rfl⟩)
        go_ret
        exact ⟨ret_bool (by simp [oneT, hz]), hb0⟩
    · go_enter Tryd.func91, Tryd.ntmps91
      go_wp2_with (go_at_call 94; refine (in_f _ _ _ _ hr).mono ?_; rintro e w1 ⟨rfl, rfl⟩)
      go_ret
      exact ⟨ret_bool (by simp only [oneT, decide_eq_false hr]; simp), hb0⟩
  · by_cases h2 : k = 2
    · subst h2
      clear h1
      cases hN : nameOk s with
      | true =>
        rw [hN] at HN
        by_cases hz : n = 0
        · subst hz
          go_enter Tryd.func91, Tryd.ntmps91
          go_wp2_with (go_at_call 79; refine (Calls.mono (HN.out _) ?_); rintro e w1 ⟨rfl, rfl⟩)
          go_ret
          exact ⟨ret_bool (by simp [oneT, hN, nat0]), hb0⟩
        · go_enter Tryd.func91, Tryd.ntmps91
          go_wp2_with (go_at_call 79; refine (Calls.mono (HN.out _) ?_); rintro e w1 ⟨rfl, rfl⟩)
          go_ret
          exact ⟨ret_bool (by simp [oneT, hz]), hb0⟩
      | false =>
        rw [hN] at HN
        go_enter Tryd.func91, Tryd.ntmps91
        go_wp2_with (go_at_call 79; refine (Calls.mono (HN.out _) ?_); rintro e w1 ⟨rfl, rfl⟩)
        go_ret
        exact ⟨ret_bool (by simp [oneT, hN]), hb0⟩
    · by_cases h3 : k = 3
      · subst h3
        clear h1 h2 HN
        by_cases hr : -999999999 ≤ n ∧ n ≤ 999999999
        · by_cases hz : s.size = 0
          · obtain rfl := empty_of hz
            go_enter Tryd.func91, Tryd.ntmps91
            go_wp2_with (go_at_call 94; refine (in_t _ _ _ _ hr).mono ?_; rintro e w1 ⟨rfl, rfl⟩)
            go_ret
            exact ⟨ret_bool (by simp only [oneT, nat0, decide_eq_true hr, show (⟨#[]⟩ : ByteArray).size = 0 from rfl]; simp), hb0⟩
          · have hq := not_empty hz
            go_enter Tryd.func91, Tryd.ntmps91
            go_wp2_with (go_at_call 94; refine (in_t _ _ _ _ hr).mono ?_; rintro e w1 ⟨rfl, rfl⟩)
            go_ret
            exact ⟨ret_bool (by simp [oneT, hz]), hb0⟩
        · go_enter Tryd.func91, Tryd.ntmps91
          go_wp2_with (go_at_call 94; refine (in_f _ _ _ _ hr).mono ?_; rintro e w1 ⟨rfl, rfl⟩)
          go_ret
          exact ⟨ret_bool (by simp only [oneT, decide_eq_false hr]; simp), hb0⟩
      · by_cases h4 : k = 4
        · subst h4
          clear h1 h2 h3
          cases hN : nameOk s with
          | true =>
            rw [hN] at HN
            by_cases hz : n = 0
            · subst hz
              go_enter Tryd.func91, Tryd.ntmps91
              go_wp2_with (first | (go_at_call 79; refine (Calls.mono (HN.out _) ?_); rintro e w1 ⟨rfl, rfl⟩) | (go_at_call 94; refine (in_any _ _ _ _).mono ?_; rintro e w1 ⟨rfl, rfl⟩))
              go_ret
              exact ⟨ret_bool (by simp [oneT, hN]; congr 1 <;> congr 1 <;> apply propext <;> omega), hb0⟩
            · go_enter Tryd.func91, Tryd.ntmps91
              go_wp2_with (go_at_call 79; refine (Calls.mono (HN.out _) ?_); rintro e w1 ⟨rfl, rfl⟩)
              go_ret
              exact ⟨ret_bool (by simp [oneT, hz]), hb0⟩
          | false =>
            rw [hN] at HN
            go_enter Tryd.func91, Tryd.ntmps91
            go_wp2_with (go_at_call 79; refine (Calls.mono (HN.out _) ?_); rintro e w1 ⟨rfl, rfl⟩)
            go_ret
            exact ⟨ret_bool (by simp [oneT, hN]), hb0⟩
        · clear HN
          have e1 : (k == 1) = false := beq_eq_false_iff_ne.2 h1
          have e2 : (k == 2) = false := beq_eq_false_iff_ne.2 h2
          have e3 : (k == 3) = false := beq_eq_false_iff_ne.2 h3
          have e4 : (k == 4) = false := beq_eq_false_iff_ne.2 h4
          go_enter Tryd.func91, Tryd.ntmps91
          go_wp2
          go_ret
          exact ⟨ret_bool (by simp [oneT, h1, h2, h3, h4]), hb0⟩

def RightOk (t : Tm) : Prop := ∀ (w : World) (v : Value) (d : Nat), TmIn w t v → d ≤ 41 →
  Calls Tryd.prog 69 #[v, .int .i64 (d : Int)] w fun e w' => e = .returned (.bool (t.right d)) ∧ Below w.heap.size w w'

theorem right_term (t : Tm) : RightOk t := by
  refine tm_ind (p := RightOk) ?_ t
  clear t
  intro k s n ks hks w v d hin hd
  unfold TmIn at hin
  obtain ⟨ao, cap, rfl, hk, hn, hs, hlen, hcap, hrow⟩ := hin
  have HONE := specOne k s n ao ks.length cap hs (by omega)
  unfold maxLen at hcap
  rw [right_mk]
  have hb0 : Below w.heap.size w (w.alloc (.cells #[.int .i64 k, .string s, .int .i64 n, .slice ao ks.length cap] 31)) := (Below.refl _ _).alloc (Nat.le_refl _) _
  by_cases hdeep : d ≤ 40
  · rw [decide_eq_true hdeep, Bool.true_and]
    cases ho : oneT k s n ks.length with
    | false =>
      rw [ho] at HONE
      replace HONE : Hid _ := HONE
      replace hb0 : Hid _ := hb0
      rw [Bool.false_and]
      clear hrow hks
      go_enter Tryd.func69, Tryd.ntmps69
      go_wp2_with (go_at_call 91; refine (Calls.mono (HONE.out _) ?_); rintro e w1 ⟨rfl, hb⟩; have HB1 : Hid (Below w.heap.size w w1) := hb0.out.trans (hb.mono hb0.out.size); clear hb)
      go_ret
      exact ⟨rfl, HB1.out⟩
    | true =>
      rw [ho] at HONE
      replace HONE : Hid _ := HONE
      rw [Bool.true_and]
      obtain ⟨W, hW⟩ : ∃ W, W = w.alloc (.cells #[.int .i64 k, .string s, .int .i64 n, .slice ao ks.length cap] 31) := ⟨_, rfl⟩
      rw [← hW] at hb0
      have HC3 : Hid (∀ wr, Below W.heap.size W wr → wr.cell? ⟨w.heap.size, 3, none⟩ = some (.slice ao ks.length cap)) := fun wr hb =>
        cell_keep (w := W) (by rw [hW]; simp) hb
      have HR : Hid (∀ wr, Below W.heap.size W wr → ks ≠ [] → ∃ b off, ao = some ⟨b, off, none⟩ ∧ TmsIn wr ks b off) := fun wr hb h0 => by
        obtain ⟨b, off, e, hr⟩ := hrow h0
        exact ⟨b, off, e, TmsIn.keep hb ks b off (TmsIn.keep hb0 ks b off hr)⟩
      have HKS : Hid _ := hks
      replace hb0 : Hid _ := hb0
      clear hrow hks
      go_enter Tryd.func69, Tryd.ntmps69
      go_wp2_with (go_at_call 91; refine (Calls.mono (HONE.out _) ?_); rintro e w1 ⟨rfl, hb⟩; rw [← hW] at hb; have HB1 : Hid (Below W.heap.size W w1) := hb; clear hb)
      go_loopw [5] (fun vi wr => Hid (Below W.heap.size W wr) ∧ ∃ j : Nat, j ≤ ks.length ∧ vi = .int .i64 (j : Int) ∧ Hid (rights (ks.take j) (d + 1) = true)) (fun i _ => ks.length - (intOf i).toNat)
      case atStart => exact ⟨HB1.out, 0, by omega, rfl, by show _ = _; rfl⟩
      case round =>
        obtain ⟨HB, j, hj, rfl, HL⟩ := hrel
        have c3 := HC3.out wr HB.out
        by_cases hlt : j < ks.length
        · obtain ⟨b, off, rfl, hin⟩ := HR.out wr HB.out (by intro e; subst e; simp at hlt)
          obtain ⟨c0, c1, c2, c3', h0, h1, h2, h3, ht⟩ := hin.at j hlt
          have HC := HKS.out ks[j] (List.getElem_mem hlt) wr _ (d + 1) ht (by omega)
          rw [show ((d + 1 : Nat) : Int) = (d : Int) + 1 by omega] at HC
          clear hin ht HR HC3 HKS HB1 HONE
          cases hj1 : ks[j].right (d + 1) with
          | true =>
            rw [hj1] at HC
            replace HC : Hid _ := HC
            have HL' : Hid _ := rights_take hlt HL.out hj1
            clear HL hj1
            go_wp2_with (go_at_call 69; refine (Calls.mono HC.out ?_); rintro e w2 ⟨rfl, hb⟩; have HB2 : Hid (Below W.heap.size W w2) := HB.out.trans (hb.mono HB.out.size); clear hb)
            go_roundw
            case rel => exact ⟨HB2.out, j + 1, by omega, by go_num, HL'.out⟩
            case measure => simp [intOf]; omega
          | false =>
            rw [hj1] at HC
            replace HC : Hid _ := HC
            have HF : Hid _ := rights_no hlt hj1
            clear HL hj1
            go_wp2_with (go_at_call 69; refine (Calls.mono HC.out ?_); rintro e w2 ⟨rfl, hb⟩; have HB2 : Hid (Below W.heap.size W w2) := HB.out.trans (hb.mono HB.out.size); clear hb)
            go_ret
            exact ⟨by rw [HF.out]; rfl, hb0.out.trans (HB2.out.mono hb0.out.size)⟩
        · have hf := HL.out
          rw [List.take_of_length_le (by omega)] at hf
          have HF : Hid _ := hf
          clear HL hf HR HC3 HKS HB1 HONE
          go_wp2
          go_ret
          exact ⟨by rw [HF.out]; rfl, hb0.out.trans (HB.out.mono hb0.out.size)⟩
  · rw [decide_eq_false hdeep, Bool.false_and, Bool.false_and]
    clear hrow hks HONE
    go_enter Tryd.func69, Tryd.ntmps69
    go_wp2
    go_ret
    exact ⟨rfl, hb0⟩

theorem specOk (t : Tm) (w : World) (v : Value) (h : TmIn w t v) :
    Calls Tryd.prog 43 #[v] w fun e w' => e = .returned (.bool t.ok) ∧ Below w.heap.size w w' := by
  obtain ⟨k, s, n, ao, len, cap, rfl⟩ := tm_shape h
  obtain ⟨W, hW⟩ : ∃ W, W = w.alloc (.cells #[.int .i64 k, .string s, .int .i64 n, .slice ao len cap] 31) := ⟨_, rfl⟩
  have hb0 : Below w.heap.size w W := by rw [hW]; exact (Below.refl _ _).alloc (Nat.le_refl _) _
  have hblk : W.heap[w.heap.size]? = some (.cells #[.int .i64 k, .string s, .int .i64 n, .slice ao len cap] 31 (0, 0)) := by rw [hW]; exact heap_alloc_new w _
  have hwW : w.heap.size < W.heap.size := by rw [hW]; simp
  have HCELL : Hid (∀ w', Below W.heap.size W w' → w'.cell? ⟨w.heap.size, 0, none⟩ = some (.int .i64 k) ∧ w'.cell? ⟨w.heap.size, 1, none⟩ = some (.string s) ∧ w'.cell? ⟨w.heap.size, 2, none⟩ = some (.int .i64 n) ∧ w'.cell? ⟨w.heap.size, 3, none⟩ = some (.slice ao len cap)) := fun w' hb => by
    have h := (hb.block _ hwW).trans hblk
    exact ⟨blk_cell (i := 0) h (by simp), blk_cell (i := 1) h (by simp), blk_cell (i := 2) h (by simp), blk_cell (i := 3) h (by simp)⟩
  have HIN : Hid (∀ w', Below W.heap.size W w' → TmIn w' t (.agg #[.int .i64 k, .string s, .int .i64 n, .slice ao len cap])) := fun w' hb => TmIn.keep hb _ _ (TmIn.keep hb0 _ _ h)
  have HC := count_term t W _ 400 (HIN.out W (Below.refl _ _)) (by omega)
  rw [hW] at HC
  clear h hblk hwW
  by_cases hf : t.n ≤ 400
  · rw [show szR t.n 400 = ((400 - t.n : Nat) : Int) from if_pos hf] at HC
    have hz : (0 : Int) ≤ ((400 - t.n : Nat) : Int) := by omega
    generalize ((400 - t.n : Nat) : Int) = z at *
    rw [show t.ok = t.right 1 by unfold Tm.ok; rw [decide_eq_true hf, Bool.true_and]]
    generalize hb : t.right 1 = b
    have HRT : Hid (∀ w', Below W.heap.size W w' → Calls Tryd.prog 69 #[.agg #[.int .i64 k, .string s, .int .i64 n, .slice ao len cap], .int .i64 1] w' fun e w2 => e = .returned (.bool b) ∧ Below w'.heap.size w' w2) := fun w' hbw => by
      have := right_term t w' _ 1 (HIN.out w' hbw) (by omega)
      rw [hb] at this
      exact this
    replace HC : Hid _ := HC
    clear hb
    go_enter Tryd.func43, Tryd.ntmps43
    go_wp2_with (first
      | (go_at_call 68; refine (Calls.mono HC.out ?_); rintro e w1 ⟨rfl, hb⟩; rw [← hW] at hb; have HB1 : Hid (Below W.heap.size W w1) := hb; obtain ⟨c0, c1, c2, c3⟩ := HCELL.out w1 hb; clear hb)
      | (go_at_call 69; refine (Calls.mono (HRT.out _ HB1.out) ?_); rintro e w2 ⟨rfl, hb⟩; have HB2 : Hid (Below W.heap.size W w2) := HB1.out.trans (hb.mono HB1.out.size); clear hb))
    go_ret
    exact ⟨rfl, hb0.trans (HB2.out.mono hb0.size)⟩
  · rw [show szR t.n 400 = -1 from if_neg hf] at HC
    rw [show t.ok = false by unfold Tm.ok; rw [decide_eq_false hf, Bool.false_and]]
    replace HC : Hid _ := HC
    go_enter Tryd.func43, Tryd.ntmps43
    go_wp2_with (go_at_call 68; refine (Calls.mono HC.out ?_); rintro e w1 ⟨rfl, hb⟩; rw [← hW] at hb; have HB1 : Hid (Below W.heap.size W w1) := hb; clear hb)
    go_ret
    exact ⟨rfl, hb0.trans (HB1.out.mono hb0.size)⟩
end Go.Proofs.YtenmhpalpfppmaoDoor

/- A term that comes in as an argument is one in memory. -/
namespace Go.Proofs.YtenmhpalpfppmaoDoor
open Go.ChangeShapes Go.WideShapes Go.ChangeAt Go.RowKit

theorem cellsTm : Tryd.prog.cellsOf 26 = 4 := by kernel_rfl
theorem cellsI : Tryd.prog.cellsOf 3 = 1 := by kernel_rfl
theorem cellsS : Tryd.prog.cellsOf 9 = 1 := by kernel_rfl
theorem cellsTmS : Tryd.prog.cellsOf 24 = 1 := by kernel_rfl
theorem laidOutT : laidOutB Tryd.prog = true := by kernel_rfl
theorem readsTm : Tryd.prog.readableRec 26 = true := by kernel_rfl
theorem rowTm : 26 < Tryd.prog.types.size := of_decide_eq_true (by kernel_rfl)

/-- terms lie in a row where each of them does -/
theorem tmsIn_of {w : World} {b : Nat} : ∀ (ks : List Tm) (off : Nat), (∀ j (hj : j < ks.length), ∃ c0 c1 c2 c3, w.cell? ⟨b, off + j * 4, none⟩ = some c0 ∧ w.cell? ⟨b, off + j * 4 + 1, none⟩ = some c1 ∧ w.cell? ⟨b, off + j * 4 + 2, none⟩ = some c2 ∧ w.cell? ⟨b, off + j * 4 + 3, none⟩ = some c3 ∧ TmIn w ks[j] (.agg #[c0, c1, c2, c3])) → TmsIn w ks b off
  | [], _, _ => by unfold TmsIn; trivial
  | t :: ts, off, h => by
    unfold TmsIn
    have h0 := h 0 (by simp)
    rw [Nat.zero_mul, Nat.add_zero] at h0
    refine ⟨h0, tmsIn_of ts (off + 4) fun j hj => ?_⟩
    have := h (j + 1) (by simpa using hj)
    rw [show off + (j + 1) * 4 = off + 4 + j * 4 by omega] at this
    exact this

set_option maxRecDepth 20000 in
theorem tm_of_trod {H : Type} {enc : TypeId × Value → H} {W : World} : ∀ (fuel : Nat) (cs : List Value) (x : DataW H × List MemPlace),
    DataW.trod enc Tryd.prog W 0 (fun _ => true) true fuel 26 cs = some x → ∃ t c0 c1 c2 c3, cs = [c0, c1, c2, c3] ∧ TmIn W t (.agg #[c0, c1, c2, c3]) := by
  intro fuel
  induction fuel using Nat.strongRecOn with
  | ind fuel ih =>
    intro cs x h
    obtain ⟨xs, n, hfu, rfl, hl, hxs, hf⟩ := DataW.trod_struct Tryd.underlying26 h
    rw [cellsTm] at hl
    match cs, hl with
    | [c0, c1, c2, c3], _ =>
      match xs, hxs with
      | [y0, y1, y2, y3], _ =>
        have h0 := hf 0 _ rfl
        have h1 := hf 1 _ rfl
        have h2 := hf 2 _ rfl
        have h3 := hf 3 _ rfl
        simp [cellsI, cellsS, cellsTmS] at h0 h1 h2 h3
        obtain ⟨k, hk, _, wk⟩ := DataW.trod_int Tryd.underlying3 h0
        obtain ⟨str, hs, _, ws⟩ := DataW.trod_string Tryd.underlying9 h1
        obtain ⟨num, hn, _, wn⟩ := DataW.trod_int Tryd.underlying3 h2
        simp only [List.cons.injEq, and_true] at hk hs hn
        subst hk hs hn
        have bk := bounds_i64 wk
        have bn := bounds_i64 wn
        rcases DataW.trod_slice Tryd.underlying24 h3 with ⟨hc, _⟩ | ⟨a, len, cap, elems, rest, m, hm, hc, _, _, hlc, hcm, hel, hat, _, _⟩
        · simp only [List.cons.injEq, and_true] at hc
          subst hc
          refine ⟨.mk k str num [], _, _, _, _, rfl, ?_⟩
          unfold TmIn
          exact ⟨none, 0, rfl, bk, bn, ws, Nat.le_refl _, Nat.zero_le _, fun h => absurd rfl h⟩
        · simp only [List.cons.injEq, and_true] at hc
          subst hc
          have each : ∀ i, i < len → ∃ t c0 c1 c2 c3, W.cell? (a.add (i * 4)) = some c0 ∧ W.cell? ((a.add (i * 4)).add 1) = some c1 ∧ W.cell? ((a.add (i * 4)).add 2) = some c2 ∧ W.cell? ((a.add (i * 4)).add 3) = some c3 ∧ TmIn W t (.agg #[c0, c1, c2, c3]) := fun i hi => by
            have hi' := hat i hi
            rw [List.getElem?_eq_getElem (by omega), cellsTm] at hi'
            obtain ⟨cs', hcs', htr⟩ := Option.bind_eq_some_iff.1 hi'
            obtain ⟨t, d0, d1, d2, d3, rfl, hin⟩ := ih m (by omega) cs' _ htr
            obtain ⟨_, _, hcell⟩ := World.cells?_some hcs'
            exact ⟨t, d0, d1, d2, d3, hcell 0 (by omega), hcell 1 (by omega), hcell 2 (by omega), hcell 3 (by omega), hin⟩
          obtain ⟨f, hfall⟩ : ∃ f : Nat → Tm, ∀ i, i < len → ∃ c0 c1 c2 c3, W.cell? (a.add (i * 4)) = some c0 ∧ W.cell? ((a.add (i * 4)).add 1) = some c1 ∧ W.cell? ((a.add (i * 4)).add 2) = some c2 ∧ W.cell? ((a.add (i * 4)).add 3) = some c3 ∧ TmIn W (f i) (.agg #[c0, c1, c2, c3]) := by
            refine ⟨fun i => if h : i < len then Classical.choose (each i h) else .mk 0 ⟨#[]⟩ 0 [], fun i hi => ?_⟩
            have := Classical.choose_spec (each i hi)
            simpa only [hi, dif_pos] using this
          refine ⟨.mk k str num ((List.range len).map f), _, _, _, _, rfl, ?_⟩
          unfold TmIn
          refine ⟨some a, cap, by simp, bk, bn, ws, by simpa using hlc, hcm, fun hne => ?_⟩
          have hpos : 0 < len := by
            rcases Nat.eq_zero_or_pos len with h | h
            · subst h; simp at hne
            · exact h
          obtain ⟨b, off, sp⟩ := a
          have hsp : sp = none := by
            obtain ⟨c0, _, _, _, hc0, _⟩ := hfall 0 hpos
            cases sp with
            | none => rfl
            | some z =>
              unfold World.cell? at hc0
              split at hc0
              · simp [Addr.add] at hc0
              · cases hc0
          subst hsp
          refine ⟨b, off, rfl, tmsIn_of _ off fun j hj => ?_⟩
          rw [List.length_map, List.length_range] at hj
          have := hfall j hj
          simp only [Addr.add_lit] at this
          simpa using this

set_option maxRecDepth 20000 in
/-- the argument itself -/
theorem tm_split {H : Type} {enc : TypeId × Value → H} {W : World} {base : Nat} {v : Value} {d : DataW H} {ps : List MemPlace} (hok : Value.okWide Tryd.prog W .any base 26 v)
    (h : DataW.Trod enc Tryd.prog W 0 (fun _ => true) true 26 v d ps) : ∃ t, TmIn W t v := by
  obtain ⟨cs, rfl, hsz⟩ := okWide_struct Tryd.underlying26 hok
  obtain ⟨fuel, hf⟩ := h
  obtain ⟨t, c0, c1, c2, c3, hc, hin⟩ := tm_of_trod fuel _ _ hf
  have e : cs = #[c0, c1, c2, c3] := by
    have hc' : cs.toList = [c0, c1, c2, c3] := hc
    apply Array.toList_inj.1
    rw [hc']
  exact ⟨t, e ▸ hin⟩
end Go.Proofs.YtenmhpalpfppmaoDoor

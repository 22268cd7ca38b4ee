/- Four texts in one. -/
import Derived.Test.YtmhmlkdoaojimapGreatDoorRows
import Derived.WalkKit
import Derived.WalkSpells
import Derived.Below
import Derived.ProofKit
import Derived.Test.YtmhmlkdoaojimapGreatDoorMrg10
import Derived.Test.YtmhmlkdoaojimapGreatDoorMrg24
import Derived.Test.YtmhmlkdoaojimapGreatDoorMrg11
import Derived.Test.YtmhmlkdoaojimapGreatDoorMrg20
import Derived.Test.YtmhmlkdoaojimapGreatDoorMrg2
import Derived.Test.YtmhmlkdoaojimapGreatDoorMrg6
/- spec.l01In. -/
namespace Go.Proofs.YtmhmlkdoaojimapGreatDoor
open Go.RowKit

theorem in_any (x a b : Int) (w : World) :
    Calls Tryz.prog 80 #[.int .i64 x, .int .i64 a, .int .i64 b] w fun e w' => e = .returned (.bool (decide (a ≤ x ∧ x ≤ b))) ∧ w' = w := by
  by_cases h0 : a ≤ x
  · by_cases h1 : x ≤ b
    · rw [decide_eq_true (show a ≤ x ∧ x ≤ b from ⟨h0, h1⟩)]
      go_enter Tryz.func80, Tryz.ntmps80
      go_wp2
      go_ret
      exact ⟨by simp, rfl⟩
    · rw [decide_eq_false (show ¬ (a ≤ x ∧ x ≤ b) from fun h => h1 h.2)]
      go_enter Tryz.func80, Tryz.ntmps80
      go_wp2
      go_ret
      exact ⟨by simp, rfl⟩
  · rw [decide_eq_false (show ¬ (a ≤ x ∧ x ≤ b) from fun h => h0 h.1)]
    go_enter Tryz.func80, Tryz.ntmps80
    go_wp2
    go_ret
    exact ⟨by simp, rfl⟩

end Go.Proofs.YtmhmlkdoaojimapGreatDoor

/- spec.l03Name. -/
namespace Go.Proofs.YtmhmlkdoaojimapGreatDoor
open Go.RowKit

theorem specName (s : ByteArray) (hs : s.size ≤ maxLen) (w : World) :
    Calls Tryz.prog 81 #[.string s] w fun e w' => e = .returned (.bool (nameOk s)) ∧ w' = w := by
  unfold maxLen at hs
  go_enter Tryz.func81, Tryz.ntmps81
  go_wp2
  go_loopw [3] (fun i wr => wr = w ∧ ∃ k : Nat, k ≤ s.size ∧ i = .int .i64 (k : Int) ∧ Hid ((s.data.toList.take k).all charOk = true)) (fun i _ => s.size - (intOf i).toNat)
  case atStart => exact ⟨rfl, 0, by omega, rfl, by show _ = _; simp⟩
  case round =>
    obtain ⟨rfl, k, hk, rfl, hp⟩ := hrel
    by_cases hlt : k < s.size
    · have hc := s[k].toNat_lt
      by_cases hb : charOk s[k] = true
      · have hp' : Hid ((s.data.toList.take (k + 1)).all charOk = true) := by show _ = _; rw [take_at s k hlt, List.all_append, hp.out]; simp [hb]
        have h4 : 33 ≤ s[k].toNat ∧ s[k].toNat ≤ 126 ∧ s[k].toNat ≠ 39 ∧ s[k].toNat ≠ 34 := by
          unfold charOk at hb; simp at hb; omega
        obtain ⟨b1, b2, b3, b4⟩ := h4
        have e3 : ((s[k].toNat : Int) == 39) = false := beq_eq_false_iff_ne.2 (by omega)
        have e4 : ((s[k].toNat : Int) == 34) = false := beq_eq_false_iff_ne.2 (by omega)
        clear hp hb
        go_wp2
        go_roundw
        case rel => exact ⟨trivial, k + 1, by omega, by go_num, hp'⟩
        case measure => simp [intOf]; omega
      · have hf : nameOk s = false := by
          unfold nameOk
          rw [Bool.and_eq_false_iff]; left
          rw [List.all_eq_false]
          exact ⟨s[k], mem_s s k hlt, hb⟩
        have HF : Hid _ := hf
        have h4 : s[k].toNat < 33 ∨ (33 ≤ s[k].toNat ∧ 126 < s[k].toNat) ∨ s[k].toNat = 39 ∨ s[k].toNat = 34 := by
          unfold charOk at hb; simp at hb; omega
        clear hp hb hf
        rcases h4 with h4 | ⟨h4, h5⟩ | h4 | h4
        · go_wp2
          go_ret
          exact ⟨by rw [HF.out]; rfl, rfl⟩
        · go_wp2
          go_ret
          exact ⟨by rw [HF.out]; rfl, rfl⟩
        · go_wp2
          go_ret
          exact ⟨by rw [HF.out]; rfl, rfl⟩
        · go_wp2
          go_ret
          exact ⟨by rw [HF.out]; rfl, rfl⟩
    · have hf : nameOk s = decide ((1 : Int) ≤ (s.size : Int) ∧ (s.size : Int) ≤ 20) := by
        have := hp.out
        rw [List.take_of_length_le (by simp; omega)] at this
        unfold nameOk
        rw [this, Bool.true_and]
        congr 1
        apply propext
        omega
      have HF : Hid _ := hf
      clear hp hf
      go_wp2_with (go_at_call 80; refine (in_any _ _ _ _).mono ?_; rintro e w1 ⟨rfl, rfl⟩)
      go_ret
      exact ⟨by rw [HF.out, Bool.decide_and]; rfl, rfl⟩

end Go.Proofs.YtmhmlkdoaojimapGreatDoor

/- Which terms are right: the specification's. -/
namespace Go.Proofs.YtmhmlkdoaojimapGreatDoor
open Go.RowKit

theorem in_t (x a b : Int) (w : World) (h : a ≤ x ∧ x ≤ b) :
    Calls Tryz.prog 80 #[.int .i64 x, .int .i64 a, .int .i64 b] w fun e w' => e = .returned (.bool true) ∧ w' = w := by
  have := in_any x a b w
  rwa [decide_eq_true h] at this
theorem in_f (x a b : Int) (w : World) (h : ¬ (a ≤ x ∧ x ≤ b)) :
    Calls Tryz.prog 80 #[.int .i64 x, .int .i64 a, .int .i64 b] w fun e w' => e = .returned (.bool false) ∧ w' = w := by
  have := in_any x a b w
  rwa [decide_eq_false h] at this

theorem specOne (k : Int) (s : ByteArray) (n : Int) (ao : Option Addr) (l cap : Nat) (hs : s.size ≤ maxLen) (hl : l ≤ maxLen) (w : World) :
    Calls Tryz.prog 75 #[.agg #[.int .i64 k, .string s, .int .i64 n, .slice ao l cap]] w fun e w' => e = .returned (.bool (oneT k s n l)) ∧ Below w.heap.size w w' := by
  have hb0 : Below w.heap.size w (w.alloc (.cells #[.int .i64 k, .string s, .int .i64 n, .slice ao l cap] 41)) := (Below.refl _ _).alloc (Nat.le_refl _) _
  have HN : Hid (∀ w, Calls Tryz.prog 81 #[.string s] w fun e w' => e = .returned (.bool (nameOk s)) ∧ w' = w) := specName s hs
  unfold maxLen at hl
  clear hs
  by_cases h1 : k = 1
  · subst h1
    clear HN
    by_cases hr : 0 ≤ n ∧ n ≤ 99999
    · by_cases hz : s.size = 0
      · obtain rfl := empty_of hz
        go_enter Tryz.func75, Tryz.ntmps75
        go_wp2_with (go_at_call 80; refine (in_t _ _ _ _ hr).mono ?_; rintro e w1 ⟨rfl, rfl⟩)
        go_ret
        exact ⟨ret_bool (by simp only [oneT, nat0, decide_eq_true hr, show (⟨#[]⟩ : ByteArray).size = 0 from rfl]; simp), hb0⟩
      · have hq := not_empty hz
        go_enter Tryz.func75, Tryz.ntmps75
        go_wp2_with (go_at_call 80; refine (in_t _ _ _ _ hr).mono ?_; rintro e w1 ⟨rfl, rfl⟩)
        go_ret
        exact ⟨ret_bool (by simp [oneT, hz]), hb0⟩
    · go_enter Tryz.func75, Tryz.ntmps75
      go_wp2_with (go_at_call 80; refine (in_f _ _ _ _ hr).mono ?_; rintro e w1 ⟨rfl, rfl⟩)
      go_ret
      exact ⟨ret_bool (by simp only [oneT, decide_eq_false hr]; simp), hb0⟩
  · by_cases h2 : k = 2
    · subst h2
      clear h1
      cases hN : nameOk s with
      | true =>
        rw [hN] at HN
        by_cases hz : n = 0
        · subst hz
          go_enter Tryz.func75, Tryz.ntmps75
          go_wp2_with (go_at_call 81; refine (Calls.mono (HN.out _) ?_); rintro e w1 ⟨rfl, rfl⟩)
          go_ret
          exact ⟨ret_bool (by simp [oneT, hN, nat0]), hb0⟩
        · go_enter Tryz.func75, Tryz.ntmps75
          go_wp2_with (go_at_call 81; refine (Calls.mono (HN.out _) ?_); rintro e w1 ⟨rfl, rfl⟩)
          go_ret
          exact ⟨ret_bool (by simp [oneT, hz]), hb0⟩
      | false =>
        rw [hN] at HN
        go_enter Tryz.func75, Tryz.ntmps75
        go_wp2_with (go_at_call 81; refine (Calls.mono (HN.out _) ?_); rintro e w1 ⟨rfl, rfl⟩)
        go_ret
        exact ⟨ret_bool (by simp [oneT, hN]), hb0⟩
    · by_cases h3 : k = 3
      · subst h3
        clear h1 h2 HN
        by_cases hr : -999999999 ≤ n ∧ n ≤ 999999999
        · by_cases hz : s.size = 0
          · obtain rfl := empty_of hz
            go_enter Tryz.func75, Tryz.ntmps75
            go_wp2_with (go_at_call 80; refine (in_t _ _ _ _ hr).mono ?_; rintro e w1 ⟨rfl, rfl⟩)
            go_ret
            exact ⟨ret_bool (by simp only [oneT, nat0, decide_eq_true hr, show (⟨#[]⟩ : ByteArray).size = 0 from rfl]; simp), hb0⟩
          · have hq := not_empty hz
            go_enter Tryz.func75, Tryz.ntmps75
            go_wp2_with (go_at_call 80; refine (in_t _ _ _ _ hr).mono ?_; rintro e w1 ⟨rfl, rfl⟩)
            go_ret
            exact ⟨ret_bool (by simp [oneT, hz]), hb0⟩
        · go_enter Tryz.func75, Tryz.ntmps75
          go_wp2_with (go_at_call 80; refine (in_f _ _ _ _ hr).mono ?_; rintro e w1 ⟨rfl, rfl⟩)
          go_ret
          exact ⟨ret_bool (by simp only [oneT, decide_eq_false hr]; simp), hb0⟩
      · by_cases h4 : k = 4
        · subst h4
          clear h1 h2 h3
          cases hN : nameOk s with
          | true =>
            rw [hN] at HN
            by_cases hz : n = 0
            · subst hz
              go_enter Tryz.func75, Tryz.ntmps75
              go_wp2_with (first | (go_at_call 81; refine (Calls.mono (HN.out _) ?_); rintro e w1 ⟨rfl, rfl⟩) | (go_at_call 80; refine (in_any _ _ _ _).mono ?_; rintro e w1 ⟨rfl, rfl⟩))
              go_ret
              exact ⟨ret_bool (by simp [oneT, hN]; congr 1 <;> congr 1 <;> apply propext <;> omega), hb0⟩
            · go_enter Tryz.func75, Tryz.ntmps75
              go_wp2_with (go_at_call 81; refine (Calls.mono (HN.out _) ?_); rintro e w1 ⟨rfl, rfl⟩)
              go_ret
              exact ⟨ret_bool (by simp [oneT, hz]), hb0⟩
          | false =>
            rw [hN] at HN
            go_enter Tryz.func75, Tryz.ntmps75
            go_wp2_with (go_at_call 81; refine (Calls.mono (HN.out _) ?_); rintro e w1 ⟨rfl, rfl⟩)
            go_ret
            exact ⟨ret_bool (by simp [oneT, hN]), hb0⟩
        · clear HN
          have e1 : (k == 1) = false := beq_eq_false_iff_ne.2 h1
          have e2 : (k == 2) = false := beq_eq_false_iff_ne.2 h2
          have e3 : (k == 3) = false := beq_eq_false_iff_ne.2 h3
          have e4 : (k == 4) = false := beq_eq_false_iff_ne.2 h4
          go_enter Tryz.func75, Tryz.ntmps75
          go_wp2
          go_ret
          exact ⟨ret_bool (by simp [oneT, h1, h2, h3, h4]), hb0⟩

def RightOk (t : Tm) : Prop := ∀ (w : World) (v : Value) (d : Nat), TmIn w t v → d ≤ 41 →
  Calls Tryz.prog 65 #[v, .int .i64 (d : Int)] w fun e w' => e = .returned (.bool (t.right d)) ∧ Below w.heap.size w w'

theorem right_term (t : Tm) : RightOk t := by
  refine tm_ind (p := RightOk) ?_ t
  clear t
  intro k s n ks hks w v d hin hd
  unfold TmIn at hin
  obtain ⟨ao, cap, rfl, hk, hn, hs, hlen, hcap, hrow⟩ := hin
  have HONE := specOne k s n ao ks.length cap hs (by omega)
  unfold maxLen at hcap
  rw [right_mk]
  have hb0 : Below w.heap.size w (w.alloc (.cells #[.int .i64 k, .string s, .int .i64 n, .slice ao ks.length cap] 41)) := (Below.refl _ _).alloc (Nat.le_refl _) _
  by_cases hdeep : d ≤ 40
  · rw [decide_eq_true hdeep, Bool.true_and]
    cases ho : oneT k s n ks.length with
    | false =>
      rw [ho] at HONE
      replace HONE : Hid _ := HONE
      replace hb0 : Hid _ := hb0
      rw [Bool.false_and]
      clear hrow hks
      go_enter Tryz.func65, Tryz.ntmps65
      go_wp2_with (go_at_call 75; refine (Calls.mono (HONE.out _) ?_); rintro e w1 ⟨rfl, hb⟩; have HB1 : Hid (Below w.heap.size w w1) := hb0.out.trans (hb.mono hb0.out.size); clear hb)
      go_ret
      exact ⟨rfl, HB1.out⟩
    | true =>
      rw [ho] at HONE
      replace HONE : Hid _ := HONE
      rw [Bool.true_and]
      obtain ⟨W, hW⟩ : ∃ W, W = w.alloc (.cells #[.int .i64 k, .string s, .int .i64 n, .slice ao ks.length cap] 41) := ⟨_, rfl⟩
      rw [← hW] at hb0
      have HC3 : Hid (∀ wr, Below W.heap.size W wr → wr.cell? ⟨w.heap.size, 3, none⟩ = some (.slice ao ks.length cap)) := fun wr hb =>
        cell_keep (w := W) (by rw [hW]; simp) hb
      have HR : Hid (∀ wr, Below W.heap.size W wr → ks ≠ [] → ∃ b off, ao = some ⟨b, off, none⟩ ∧ TmsIn wr ks b off) := fun wr hb h0 => by
        obtain ⟨b, off, e, hr⟩ := hrow h0
        exact ⟨b, off, e, TmsIn.keep hb ks b off (TmsIn.keep hb0 ks b off hr)⟩
      have HKS : Hid _ := hks
      replace hb0 : Hid _ := hb0
      clear hrow hks
      go_enter Tryz.func65, Tryz.ntmps65
      go_wp2_with (go_at_call 75; refine (Calls.mono (HONE.out _) ?_); rintro e w1 ⟨rfl, hb⟩; rw [← hW] at hb; have HB1 : Hid (Below W.heap.size W w1) := hb; clear hb)
      go_loopw [5] (fun vi wr => Hid (Below W.heap.size W wr) ∧ ∃ j : Nat, j ≤ ks.length ∧ vi = .int .i64 (j : Int) ∧ Hid (rights (ks.take j) (d + 1) = true)) (fun i _ => ks.length - (intOf i).toNat)
      case atStart => exact ⟨HB1.out, 0, by omega, rfl, by show _ = _; rfl⟩
      case round =>
        obtain ⟨HB, j, hj, rfl, HL⟩ := hrel
        have c3 := HC3.out wr HB.out
        by_cases hlt : j < ks.length
        · obtain ⟨b, off, rfl, hin⟩ := HR.out wr HB.out (by intro e; subst e; simp at hlt)
          obtain ⟨c0, c1, c2, c3', h0, h1, h2, h3, ht⟩ := hin.at j hlt
          have HC := HKS.out ks[j] (List.getElem_mem hlt) wr _ (d + 1) ht (by omega)
          rw [show ((d + 1 : Nat) : Int) = (d : Int) + 1 by omega] at HC
          clear hin ht HR HC3 HKS HB1 HONE
          cases hj1 : ks[j].right (d + 1) with
          | true =>
            rw [hj1] at HC
            replace HC : Hid _ := HC
            have HL' : Hid _ := rights_take hlt HL.out hj1
            clear HL hj1
            go_wp2_with (go_at_call 65; refine (Calls.mono HC.out ?_); rintro e w2 ⟨rfl, hb⟩; have HB2 : Hid (Below W.heap.size W w2) := HB.out.trans (hb.mono HB.out.size); clear hb)
            go_roundw
            case rel => exact ⟨HB2.out, j + 1, by omega, by go_num, HL'.out⟩
            case measure => simp [intOf]; omega
          | false =>
            rw [hj1] at HC
            replace HC : Hid _ := HC
            have HF : Hid _ := rights_no hlt hj1
            clear HL hj1
            go_wp2_with (go_at_call 65; refine (Calls.mono HC.out ?_); rintro e w2 ⟨rfl, hb⟩; have HB2 : Hid (Below W.heap.size W w2) := HB.out.trans (hb.mono HB.out.size); clear hb)
            go_ret
            exact ⟨by rw [HF.out]; rfl, hb0.out.trans (HB2.out.mono hb0.out.size)⟩
        · have hf := HL.out
          rw [List.take_of_length_le (by omega)] at hf
          have HF : Hid _ := hf
          clear HL hf HR HC3 HKS HB1 HONE
          go_wp2
          go_ret
          exact ⟨by rw [HF.out]; rfl, hb0.out.trans (HB.out.mono hb0.out.size)⟩
  · rw [decide_eq_false hdeep, Bool.false_and, Bool.false_and]
    clear hrow hks HONE
    go_enter Tryz.func65, Tryz.ntmps65
    go_wp2
    go_ret
    exact ⟨rfl, hb0⟩

theorem specOk (t : Tm) (w : World) (v : Value) (h : TmIn w t v) :
    Calls Tryz.prog 58 #[v] w fun e w' => e = .returned (.bool t.ok) ∧ Below w.heap.size w w' := by
  obtain ⟨k, s, n, ao, len, cap, rfl⟩ := tm_shape h
  obtain ⟨W, hW⟩ : ∃ W, W = w.alloc (.cells #[.int .i64 k, .string s, .int .i64 n, .slice ao len cap] 41) := ⟨_, rfl⟩
  have hb0 : Below w.heap.size w W := by rw [hW]; exact (Below.refl _ _).alloc (Nat.le_refl _) _
  have hblk : W.heap[w.heap.size]? = some (.cells #[.int .i64 k, .string s, .int .i64 n, .slice ao len cap] 41 (0, 0)) := by rw [hW]; exact heap_alloc_new w _
  have hwW : w.heap.size < W.heap.size := by rw [hW]; simp
  have HCELL : Hid (∀ w', Below W.heap.size W w' → w'.cell? ⟨w.heap.size, 0, none⟩ = some (.int .i64 k) ∧ w'.cell? ⟨w.heap.size, 1, none⟩ = some (.string s) ∧ w'.cell? ⟨w.heap.size, 2, none⟩ = some (.int .i64 n) ∧ w'.cell? ⟨w.heap.size, 3, none⟩ = some (.slice ao len cap)) := fun w' hb => by
    have h := (hb.block _ hwW).trans hblk
    exact ⟨blk_cell (i := 0) h (by simp), blk_cell (i := 1) h (by simp), blk_cell (i := 2) h (by simp), blk_cell (i := 3) h (by simp)⟩
  have HIN : Hid (∀ w', Below W.heap.size W w' → TmIn w' t (.agg #[.int .i64 k, .string s, .int .i64 n, .slice ao len cap])) := fun w' hb => TmIn.keep hb _ _ (TmIn.keep hb0 _ _ h)
  have HC := count_term t W _ 400 (HIN.out W (Below.refl _ _)) (by omega)
  rw [hW] at HC
  clear h hblk hwW
  by_cases hf : t.n ≤ 400
  · rw [show szR t.n 400 = ((400 - t.n : Nat) : Int) from if_pos hf] at HC
    have hz : (0 : Int) ≤ ((400 - t.n : Nat) : Int) := by omega
    generalize ((400 - t.n : Nat) : Int) = z at *
    rw [show t.ok = t.right 1 by unfold Tm.ok; rw [decide_eq_true hf, Bool.true_and]]
    generalize hb : t.right 1 = b
    have HRT : Hid (∀ w', Below W.heap.size W w' → Calls Tryz.prog 65 #[.agg #[.int .i64 k, .string s, .int .i64 n, .slice ao len cap], .int .i64 1] w' fun e w2 => e = .returned (.bool b) ∧ Below w'.heap.size w' w2) := fun w' hbw => by
      have := right_term t w' _ 1 (HIN.out w' hbw) (by omega)
      rw [hb] at this
      exact this
    replace HC : Hid _ := HC
    clear hb
    go_enter Tryz.func58, Tryz.ntmps58
    go_wp2_with (first
      | (go_at_call 64; refine (Calls.mono HC.out ?_); rintro e w1 ⟨rfl, hb⟩; rw [← hW] at hb; have HB1 : Hid (Below W.heap.size W w1) := hb; obtain ⟨c0, c1, c2, c3⟩ := HCELL.out w1 hb; clear hb)
      | (go_at_call 65; refine (Calls.mono (HRT.out _ HB1.out) ?_); rintro e w2 ⟨rfl, hb⟩; have HB2 : Hid (Below W.heap.size W w2) := HB1.out.trans (hb.mono HB1.out.size); clear hb))
    go_ret
    exact ⟨rfl, hb0.trans (HB2.out.mono hb0.size)⟩
  · rw [show szR t.n 400 = -1 from if_neg hf] at HC
    rw [show t.ok = false by unfold Tm.ok; rw [decide_eq_false hf, Bool.false_and]]
    replace HC : Hid _ := HC
    go_enter Tryz.func58, Tryz.ntmps58
    go_wp2_with (go_at_call 64; refine (Calls.mono HC.out ?_); rintro e w1 ⟨rfl, hb⟩; rw [← hW] at hb; have HB1 : Hid (Below W.heap.size W w1) := hb; clear hb)
    go_ret
    exact ⟨rfl, hb0.trans (HB1.out.mono hb0.size)⟩
end Go.Proofs.YtmhmlkdoaojimapGreatDoor

/- spec.l08Clause, spec.DbOk. -/
namespace Go.Proofs.YtmhmlkdoaojimapGreatDoor
open Go.RowKit

set_option maxHeartbeats 4000000 in
theorem s_clauseOk (c : Cla) (w : World) (k1 s1 n1 a1 l1 c1 k2 s2 n2 a2 l2 c2) (i1 : TmIn w c.h (.agg #[.int .i64 k1, .string s1, .int .i64 n1, .slice a1 l1 c1])) (i2 : TmIn w c.b (.agg #[.int .i64 k2, .string s2, .int .i64 n2, .slice a2 l2 c2])) (hwt : c.h.wt ≤ 1048576) :
    Calls Tryz.prog 51 #[.agg #[.int .i64 k1, .string s1, .int .i64 n1, .slice a1 l1 c1, .int .i64 k2, .string s2, .int .i64 n2, .slice a2 l2 c2, .string c.f]] w fun e w' => e = .returned (.bool (okCl c)) ∧ Below w.heap.size w w' := by
  obtain ⟨H, B, f⟩ := c
  simp only at i1 i2 hwt
  obtain ⟨W, hW⟩ : ∃ W, W = w.alloc (.cells #[.int .i64 k1, .string s1, .int .i64 n1, .slice a1 l1 c1, .int .i64 k2, .string s2, .int .i64 n2, .slice a2 l2 c2, .string f] 43) := ⟨_, rfl⟩
  have bW : Below w.heap.size w W := by rw [hW]; exact (Below.refl _ _).alloc (Nat.le_refl _) _
  have kW : W.heap[w.heap.size]? = some (.cells #[.int .i64 k1, .string s1, .int .i64 n1, .slice a1 l1 c1, .int .i64 k2, .string s2, .int .i64 n2, .slice a2 l2 c2, .string f] 43 (0, 0)) := by rw [hW]; exact heap_alloc_new _ _
  have HK : Hid (∀ u, Below W.heap.size W u → u.heap[w.heap.size]? = some (.cells #[.int .i64 k1, .string s1, .int .i64 n1, .slice a1 l1 c1, .int .i64 k2, .string s2, .int .i64 n2, .slice a2 l2 c2, .string f] 43 (0, 0))) := fun u hb => (hb.block _ (Array.getElem?_eq_some_iff.1 kW).1).trans kW
  have HOK : Hid (∀ u t v b, Below W.heap.size W u → TmIn W t v ∧ t.ok = b → Calls Tryz.prog 58 #[v] u fun e w' => e = .returned (.bool b) ∧ Below u.heap.size u w') := fun u t v b hb h => by rw [← h.2]; exact specOk t u _ (TmIn.keep hb _ _ h.1)
  have j1 := TmIn.keep bW _ _ i1
  have j2 := TmIn.keep bW _ _ i2
  have HHD : Hid (∀ u, Below W.heap.size W u → Calls Tryz.prog 59 #[.agg #[.int .i64 k1, .string s1, .int .i64 n1, .slice a1 l1 c1]] u fun e w' => e = .returned (.bool (mayB (predB H))) ∧ Below u.heap.size u w') := fun u hb => s_head H u _ (TmIn.keep hb _ _ (TmIn.keep bW _ _ i1)) hwt
  have HBW : Hid (Below w.heap.size w W) := bW
  have HV : Hid (okCl ⟨H, B, f⟩ = (H.ok && B.ok && mayB (predB H))) := rfl
  obtain ⟨⟨x0, x1, x2, x3, x4, x5, x6, x7, x8⟩, _⟩ := blk9 kW
  clear i1 i2 hwt bW kW
  obtain ⟨p, hp⟩ : ∃ p, H.ok = p := ⟨_, rfl⟩
  obtain ⟨q, hq⟩ : ∃ q, B.ok = q := ⟨_, rfl⟩
  obtain ⟨r, hr⟩ : ∃ r, mayB (predB H) = r := ⟨_, rfl⟩
  have HI1 : Hid (TmIn W H (.agg #[.int .i64 k1, .string s1, .int .i64 n1, .slice a1 l1 c1]) ∧ H.ok = p) := ⟨j1, hp⟩
  have HI2 : Hid (TmIn W B (.agg #[.int .i64 k2, .string s2, .int .i64 n2, .slice a2 l2 c2]) ∧ B.ok = q) := ⟨j2, hq⟩
  rw [hp, hq, hr] at HV
  rw [hr] at HHD
  have HB0 : Hid (Below W.heap.size W W) := Below.refl _ _
  clear j1 j2 hp hq hr
  cases p <;> cases q <;> cases r
  all_goals
    go_enter Tryz.func51, Tryz.ntmps51
    go_upto_region 1 with fail
    rw [← hW]
    clear hW
    go_wp2_with (first
      | (go_at_call 58; first
          | (refine (Calls.mono (HOK.out _ _ _ _ HB0.out HI1.out) ?_); rintro e w1 ⟨rfl, hb⟩; replace HB0 : Hid (Below W.heap.size W w1) := HB0.out.trans (hb.mono HB0.out.size); clear hb; obtain ⟨⟨x0, x1, x2, x3, x4, x5, x6, x7, x8⟩, _⟩ := blk9 (HK.out w1 HB0.out))
          | (refine (Calls.mono (HOK.out _ _ _ _ HB0.out HI2.out) ?_); rintro e w1 ⟨rfl, hb⟩; replace HB0 : Hid (Below W.heap.size W w1) := HB0.out.trans (hb.mono HB0.out.size); clear hb; obtain ⟨⟨x0, x1, x2, x3, x4, x5, x6, x7, x8⟩, _⟩ := blk9 (HK.out w1 HB0.out)))
      | (go_at_call 59; refine (Calls.mono (HHD.out _ HB0.out) ?_); rintro e w1 ⟨rfl, hb⟩; replace HB0 : Hid (Below W.heap.size W w1) := HB0.out.trans (hb.mono HB0.out.size); clear hb))
    go_ret
    exact ⟨by rw [HV.out]; rfl, HBW.out.trans (HB0.out.mono HBW.out.size)⟩

set_option maxHeartbeats 8000000 in
set_option maxRecDepth 20000 in
theorem s_dbOk (cs : List Cla) (xs : List ByteArray) (w : World) (c0 c1 : Value) (h : ClsIn w cs c0) (hx : SsIn w xs c1) (hl : cs.length ≤ 1100000) (hxl : xs.length ≤ 1100000) (hwt : ∀ c ∈ cs, c.h.wt ≤ 1048576) (kb : Bool) (hkb : kb = true ↔ ((∀ c ∈ cs, okCl c = true) ∧ cs.length ≤ 120 ∧ xs.length ≤ 40)) :
    Calls Tryz.prog 36 #[.agg #[c0, c1]] w fun e w' => e = .returned (.bool kb) ∧ Below w.heap.size w w' := by
  have HKB : Hid (kb = true ↔ ((∀ c ∈ cs, okCl c = true) ∧ cs.length ≤ 120 ∧ xs.length ≤ 40)) := hkb
  obtain ⟨W, hW⟩ : ∃ W, W = w.alloc (.cells #[c0, c1] 35) := ⟨_, rfl⟩
  have bW : Below w.heap.size w W := by rw [hW]; exact (Below.refl _ _).alloc (Nat.le_refl _) _
  have k1 : W.heap[w.heap.size]? = some (.cells #[c0, c1] 35 (0, 0)) := by rw [hW]; exact heap_alloc_new _ _
  obtain ⟨ao, cap, news0, rfl, hcap, hmax, hv, hcell⟩ := cls_vals h
  obtain ⟨a2, p2, rfl, -⟩ := hx
  have HV : Hid (ClsVals w cs news0 ∧ (∀ c ∈ cs, c.h.wt ≤ 1048576) ∧ cs.length ≤ 1100000 ∧ xs.length ≤ 1100000) := ⟨hv, hwt, hl, hxl⟩
  have HCELL : Hid (cs ≠ [] → ∃ b off, ao = some ⟨b, off, none⟩ ∧ ∀ j z, news0[j]? = some z → w.cell? ⟨b, off + j, none⟩ = some z) := hcell
  have HBW : Hid (Below w.heap.size w W) := bW
  have HK : Hid (∀ w1, Below W.heap.size W w1 → w1.heap[w.heap.size]? = some (.cells #[.slice ao cs.length cap, .slice a2 xs.length p2] 35 (0, 0))) := fun w1 hb => (hb.block _ (Array.getElem?_eq_some_iff.1 k1).1).trans k1
  clear h hv hwt hl hxl bW k1 hcell hcap hmax hkb
  go_enter Tryz.func36, Tryz.ntmps36
  go_upto_region 2 with fail
  rw [← hW]
  clear hW
  go_loopw [3] (fun v3 wr => ∃ (j : Nat), j ≤ cs.length ∧ v3 = .int .i64 (j : Int) ∧ Hid (Below W.heap.size W wr ∧ ∀ c ∈ cs.take j, okCl c = true)) (fun i _ => cs.length - (intOf i).toNat)
  case atStart => exact ⟨0, by omega, rfl, Below.refl _ _, by simp⟩
  case round =>
    obtain ⟨j, hj, rfl, HB⟩ := hrel
    have x9 := blk_cell (i := 0) (HK.out wr HB.out.1) (by simp)
    by_cases hlt : j < cs.length
    · obtain ⟨b, off, rfl, hc9⟩ := HCELL.out (by intro e; subst e; simp at hlt)
      obtain ⟨k1, t1, n1, a1, l1, m1, k2, t2, n2, a3, l3, m2, hcc, hf, o1, o2⟩ := HV.out.1.2 j hlt
      have hbw : Below w.heap.size w wr := HBW.out.trans (HB.out.1.mono HBW.out.size)
      have hat : ∀ r, r < 9 → ∀ z, [Value.int .i64 k1, .string t1, .int .i64 n1, .slice a1 l1 m1, .int .i64 k2, .string t2, .int .i64 n2, .slice a3 l3 m2, .string cs[j].f][r]? = some z → wr.cell? ⟨b, off + (j * 9 + r), none⟩ = some z := fun r hr z hz => cell_keep (hc9 _ _ ((hcc r hr).trans hz)) hbw
      have x0 := hat 0 (by omega) _ rfl
      have x1 := hat 1 (by omega) _ rfl
      have x2 := hat 2 (by omega) _ rfl
      have x3 := hat 3 (by omega) _ rfl
      have x4 := hat 4 (by omega) _ rfl
      have x5 := hat 5 (by omega) _ rfl
      have x6 := hat 6 (by omega) _ rfl
      have x7 := hat 7 (by omega) _ rfl
      have x8 := hat 8 (by omega) _ rfl
      rw [← Nat.add_assoc] at x1 x2 x3 x4 x5 x6 x7 x8
      rw [Nat.add_zero] at x0
      have HC0 := s_clauseOk cs[j] wr k1 t1 n1 a1 l1 m1 k2 t2 n2 a3 l3 m2 (TmIn.keep hbw _ _ o1) (TmIn.keep hbw _ _ o2) (HV.out.2.1 _ (List.getElem_mem hlt))
      have HTK : Hid (cs.take (j + 1) = cs.take j ++ [cs[j]]) := List.take_succ_eq_append_getElem hlt
      have HM : Hid (cs[j] ∈ cs) := List.getElem_mem hlt
      have hnl : cs.length ≤ 1100000 := HV.out.2.2.1
      obtain ⟨ob, hob⟩ : ∃ ob, okCl cs[j] = ob := ⟨_, rfl⟩
      rw [hob] at HC0
      have HC : Hid _ := HC0
      have HOB : Hid (okCl cs[j] = ob) := hob
      clear hc9 hcc hf o1 o2 hat HC0 hob
      generalize cs[j] = kj at *
      cases ob
      · go_wp2_with (go_at_call 51; refine (Calls.mono HC.out ?_); rintro e w1 ⟨rfl, hb⟩; have HB1 : Hid (Below wr.heap.size wr w1) := hb; clear hb)
        go_ret
        have hk : kb = false := by
          cases hk : kb with
          | false => rfl
          | true => exact absurd (((HKB.out.1 hk).1 kj HM.out).symm.trans HOB.out) (by simp)
        have b1 := HB.out.1.trans (HB1.out.mono HB.out.1.size)
        exact ⟨by rw [hk]; rfl, HBW.out.trans (b1.mono HBW.out.size)⟩
      · go_wp2_with (go_at_call 51; refine (Calls.mono HC.out ?_); rintro e w1 ⟨rfl, hb⟩; have HB1 : Hid (Below wr.heap.size wr w1) := hb; clear hb)
        go_roundw
        case rel =>
          refine ⟨j + 1, by omega, by go_num, HB.out.1.trans (HB1.out.mono HB.out.1.size), ?_⟩
          rw [HTK.out]
          intro c hc
          rcases List.mem_append.1 hc with h | h
          · exact HB.out.2 c h
          · obtain rfl : c = kj := by simpa using h
            exact HOB.out
        case measure => simp [intOf]; omega
    · obtain rfl : j = cs.length := by omega
      have y9 := blk_cell (i := 1) (HK.out wr HB.out.1) (by simp)
      have HALL : Hid (∀ c ∈ cs, okCl c = true) := by
        have := HB.out.2
        rw [List.take_of_length_le (Nat.le_refl _)] at this
        exact this
      have hnl : (cs.length : Int) ≤ 1100000 := by have := HV.out.2.2.1; omega
      have hkd : kb = (decide ((cs.length : Int) ≤ 120) && decide ((xs.length : Int) ≤ 40)) := by
        rw [Bool.eq_iff_iff, HKB.out, Bool.and_eq_true, decide_eq_true_iff, decide_eq_true_iff]
        constructor
        · rintro ⟨_, h1, h2⟩
          exact ⟨by omega, by omega⟩
        · rintro ⟨h1, h2⟩
          exact ⟨HALL.out, by omega, by omega⟩
      have HKD : Hid (kb = (decide ((cs.length : Int) ≤ 120) && decide ((xs.length : Int) ≤ 40))) := hkd
      clear hkd hnl
      by_cases h1 : (cs.length : Int) ≤ 120
      · by_cases h2 : (xs.length : Int) ≤ 40
        · go_wp2
          go_ret
          exact ⟨by rw [HKD.out]; simp [h1, h2], HBW.out.trans (HB.out.1.mono HBW.out.size)⟩
        · go_wp2
          go_ret
          exact ⟨by rw [HKD.out]; simp; intro _; omega, HBW.out.trans (HB.out.1.mono HBW.out.size)⟩
      · go_wp2
        go_ret
        exact ⟨by rw [HKD.out]; simp; intro _; omega, HBW.out.trans (HB.out.1.mono HBW.out.size)⟩
end Go.Proofs.YtmhmlkdoaojimapGreatDoor

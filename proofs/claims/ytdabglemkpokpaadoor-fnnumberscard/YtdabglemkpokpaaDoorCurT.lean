/- A text and a row of places drawn off a code. -/
import Derived.Test.YtdabglemkpokpaaDoorCurB
import Derived.ProofKit
namespace Go.Proofs.YtdabglemkpokpaaDoor
open Go.RowKit

theorem cinfo5 : (Tryd.prog.info? 5).map (fun i => (i.zero, i.size, i.bytes)) = some (some (.int .u8 0), 1, 1) := by kernel_rfl
theorem cinfo3 : (Tryd.prog.info? 3).map (fun i => (i.zero, i.size, i.bytes)) = some (some (.int .i64 0), 1, 8) := by kernel_rfl

set_option maxRecDepth 20000 in
theorem text_any (B : Nat) (w : World) (g n m : Nat) (hm : m ≤ 5000) (hc : Cur B w g n) :
    Calls Tryd.prog 28 #[.pointer (some ⟨g, 0, none⟩), .int .i64 (m : Int)] w fun e w' => (∃ s : ByteArray, s.size = m ∧ e = .returned (.string s)) ∧ Cur B w' g n ∧ But g w w' := by
  obtain ⟨i0, hi, hz0, hz1, hz2⟩ := info_parts cinfo5
  have hg := hc.lt
  have HC : Hid _ := hc
  clear hc
  go_enter Tryd.func28, Tryd.ntmps28
  go_wp2
  go_loopw [5, 6] (fun v i wr => ∃ (p : List UInt8), p.length ≤ m ∧ i = .int .i64 (p.length : Int) ∧ wr.ownsRow w.heap.size 5 1 v p.length (bytesV p) ∧ Hid (Cur B wr g n) ∧ Hid (But g w wr)) (fun _ i _ => m - (intOf i).toNat)
  case atStart =>
    exact ⟨[], by simp, rfl, World.ownsRow_made w #[] 0 (Nat.le_refl _) (by decide) rfl, Cur.keep HC.out ((Below.refl _ _).alloc (Nat.le_refl _) _) hg, But.of_below ((Below.refl _ _).alloc (Nat.le_refl _) _)⟩
  case round =>
    obtain ⟨p, hp, rfl, hown, HC, HB⟩ := hrel
    by_cases hlt : p.length < m
    · go_wp2_with (first | (go_at_call 31; refine (byte_any B _ g n HC.out).mono ?_; rintro e w1 ⟨⟨x, hx, rfl⟩, hc1, hb1⟩; replace hown := owns_but hown hb1 hg; replace HB : Hid (But g w w1) := HB.out.trans hb1; replace HC : Hid (Cur B w1 g n) := hc1; clear hc1 hb1; have hsz := HB.out.size) | (at_builtin; refine wpList_append_own _ rfl _ _ 22 rfl w.heap.size 5 i0 (.int .u8 0) 1 1 Tryd.underlying22 hi hz0 hz1 hz2 rfl (by decide) _ _ _ rfl (hown.alloc _) ⟨_, 0, none⟩ 1 1 [.int .u8 (x : Int)] rfl rfl ?c1 ?c2 ?c3 ?c4 ?c5 ?_))
      case c1 => exact cell_one_new _ _ _
      case c2 => intro u hu; simp at hu; subst hu; rfl
      case c3 => unfold maxLen; omega
      case c4 => omega
      case c5 => simp; omega
      · intro v' w2 hown' hgrow _
        have R := own_push (UInt8.ofNat x) (by simp; omega) (Below.refl _ _) hsz hown hown' hgrow
        clear hown hown' hgrow
        go_wp2
        go_roundw
        case rel => exact ⟨_, by simp; omega, by simp, R.1, Cur.keep HC.out R.2 hg, But.then_below HB.out R.2⟩
        case measure => simp [intOf]; omega
    · obtain rfl : p.length = m := by omega
      by_cases h0 : p = []
      · subst h0
        have HCV := own_string_nil (P := Tryd.prog) 22 9 5 Tryd.underlying22 Tryd.underlying5 Tryd.underlying9 hown
        go_wp2
        go_ret
        exact ⟨⟨⟨#[]⟩, rfl, rfl⟩, HC.out, HB.out⟩
      · have HCV := own_string (P := Tryd.prog) 22 9 5 Tryd.underlying22 Tryd.underlying5 Tryd.underlying9 hown h0
        clear h0
        go_wp2
        go_ret
        exact ⟨⟨⟨p.toArray⟩, size_mk _, rfl⟩, HC.out, HB.out⟩

theorem drawSum_any (B : Nat) (w : World) (v : Value) (n : Nat) (hcode : CodeIn B w v n) (hB : B ≤ w.heap.size) :
    Calls Tryd.prog 16 #[v] w fun e w' => (∃ s : ByteArray, s.size < 40 ∧ e = .returned (.string s)) ∧ Below w.heap.size w w' := by
  have HK : Hid _ := hcode
  clear hcode
  go_enter Tryd.func16, Tryd.ntmps16
  go_wp2_with (first
    | (go_at_call 23; refine (new_any B _ _ n HK.out hB).mono ?_; rintro e w1 ⟨rfl, hc, hb⟩; have HC : Hid _ := hc; have HB : Hid _ := hb; clear hc hb)
    | (go_at_call 27; refine (below_any B _ _ n 40 (by omega) (by omega) HC.out).mono ?_; rintro e w2 ⟨⟨x, hx, rfl⟩, hc, hb⟩; have HC2 : Hid _ := hc; have HB2 : Hid _ := hb; clear hc hb)
    | (go_at_call 28; refine (text_any B _ _ n x (by omega) HC2.out).mono ?_; rintro e w3 ⟨⟨s, hs, rfl⟩, hc, hb⟩; have HB3 : Hid _ := hb; clear hc hb))
  go_ret
  refine ⟨⟨s, by omega, rfl⟩, ?_⟩
  have h1 := HB.out
  have h2 := HB2.out.trans HB3.out
  exact h1.trans (But.below h2 (Nat.le_refl _) h1.size)

def intsV (l : List Nat) : List Value := l.map fun (b : Nat) => Value.int .i64 (b : Int)
theorem intsV_append (l m : List Nat) : intsV (l ++ m) = intsV l ++ intsV m := by simp [intsV]

set_option maxRecDepth 20000 in
theorem drawPlaces_any (B : Nat) (w : World) (v : Value) (n : Nat) (hcode : CodeIn B w v n) (hB : B ≤ w.heap.size) :
    Calls Tryd.prog 17 #[v] w fun e w' => (∃ (u : Value) (p : List Nat), p.length = 12 ∧ (∀ x ∈ p, x < 10000) ∧ w'.ownsRow w.heap.size 3 1 u 12 (intsV p) ∧ e = .returned u) ∧ Below w.heap.size w w' := by
  obtain ⟨i0, hi, hz0, hz1, hz2⟩ := info_parts cinfo3
  have HK : Hid _ := hcode
  clear hcode
  go_enter Tryd.func17, Tryd.ntmps17
  go_wp2_with (first
    | (go_at_call 23; refine (new_any B _ _ n HK.out hB).mono ?_; rintro e w1 ⟨rfl, hc, hb⟩; have HC : Hid _ := hc; have HB : Hid _ := hb; clear hc hb)
    | (go_at_call 31; refine (byte_any B _ _ n HC.out).mono ?_; rintro e w2 ⟨⟨x, hx, rfl⟩, hc, hb⟩; have HC2 : Hid _ := hc; have HB2 : Hid _ := hb; clear hc hb))
  have hg1 := Cur.lt HC.out
  have hg2 := Cur.lt HC2.out
  generalize hgg : w.heap.size = g at *
  clear HC
  go_loopw [4, 5] (fun v i wr => ∃ (p : List Nat), p.length ≤ 12 ∧ (∀ x ∈ p, x < 10000) ∧ i = .int .i64 (p.length : Int) ∧ wr.ownsRow w2.heap.size 3 1 v p.length (intsV p) ∧ Hid (Cur B wr g n) ∧ Hid (But g w2 wr)) (fun _ i _ => 12 - (intOf i).toNat)
  case atStart =>
    exact ⟨[], by simp, by simp, rfl, World.ownsRow_made w2 #[] 0 (Nat.le_refl _) (by decide) rfl, Cur.keep HC2.out ((Below.refl _ _).alloc (Nat.le_refl _) _) hg2, But.of_below ((Below.refl _ _).alloc (Nat.le_refl _) _)⟩
  case round =>
    obtain ⟨p, hp, hall, rfl, hown, HC, HB3⟩ := hrel
    have HA : Hid _ := hall
    clear hall HC2
    by_cases hlt : p.length < 12
    · go_wp2_with (first | (go_at_call 27; refine (below_any B _ g n 10000 (by omega) (by omega) HC.out).mono ?_; rintro e w4 ⟨⟨y, hy, rfl⟩, hc1, hb1⟩; replace hown := owns_but hown hb1 hg2; replace HB3 : Hid (But g w2 w4) := HB3.out.trans hb1; replace HC : Hid (Cur B w4 g n) := hc1; clear hc1 hb1; have hsz := HB3.out.size) | (at_builtin; refine wpList_append_own _ rfl _ _ 36 rfl w2.heap.size 3 i0 (.int .i64 0) 1 8 Tryd.underlying36 hi hz0 hz1 hz2 rfl (by decide) _ _ _ rfl (hown.alloc _) ⟨_, 0, none⟩ 1 1 [.int .i64 (y : Int)] rfl rfl ?c1 ?c2 ?c3 ?c4 ?c5 ?_))
      case c1 => exact cell_one_new _ _ _
      case c2 => intro u hu; simp at hu; subst hu; rfl
      case c3 => unfold maxLen; omega
      case c4 => omega
      case c5 => simp; omega
      · intro v' w5 hown' hgrow _
        have R : w5.ownsRow w2.heap.size 3 1 v' (p ++ [y]).length (intsV (p ++ [y])) ∧ Below w2.heap.size w4 w5 := by
          refine ⟨by rw [intsV_append, List.length_append]; exact hown', ((Below.refl _ _).alloc hsz _).grown hgrow (by simp; omega) ?_⟩
          intro k hk
          rcases hown.2 with ⟨rfl, _⟩ | ⟨g', cap, cur, rfl, hge, _⟩
          · cases hk
          · cases hk; exact hge
        clear hown hown' hgrow
        go_wp2
        go_roundw
        case rel => exact ⟨_, by simp; omega, by
          intro x hx
          rcases List.mem_append.1 hx with hx | hx
          · exact HA.out x hx
          · simp at hx; omega, by simp, R.1, Cur.keep HC.out R.2 hg2, But.then_below HB3.out R.2⟩
        case measure => simp [intOf]; omega
    · have hp12 : p.length = 12 := by omega
      go_wp2
      go_ret
      subst hgg
      have h1 := HB.out
      have h2 := HB2.out.trans HB3.out
      refine ⟨⟨_, p, hp12, HA.out, ?_, rfl⟩, h1.trans (But.below h2 (Nat.le_refl _) h1.size)⟩
      have := hown
      rw [hp12] at this
      refine ⟨this.1, ?_⟩
      rcases this.2 with h | ⟨k, cap, cur, h1', h2', h3⟩
      · exact Or.inl h
      · exact Or.inr ⟨k, cap, cur, h1', by omega, h3⟩
end Go.Proofs.YtdabglemkpokpaaDoor

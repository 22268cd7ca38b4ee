/- The numbers and texts that FnNumbers draws. -/
import Derived.Test.YtdabglemkpokpaaDoorCurN
namespace Go.Proofs.YtdabglemkpokpaaDoor
open Go.RowKit

theorem drawVar_any (B : Nat) (w : World) (v : Value) (n : Nat) (hcode : CodeIn B w v n) (hB : B ≤ w.heap.size) :
    Calls Tryd.prog 6 #[v] w fun e w' => (∃ x : Int, -9223372036854775808 ≤ x ∧ x ≤ 9223372036854775807 ∧ e = .returned (.int .i64 x)) ∧ Below w.heap.size w w' := by
  have HK : Hid (CodeIn B w v n) := hcode
  clear hcode
  go_enter Tryd.func6, Tryd.ntmps6
  go_wp2_with (first
    | (go_at_call 23; refine (new_any B _ _ n HK.out hB).mono ?_; rintro e w1 ⟨rfl, hc, hb⟩; have HC : Hid (Cur B w1 w.heap.size n) := hc; have HB : Hid (Below w.heap.size w w1) := hb; clear hc hb)
    | (go_at_call 22; refine (number_any B _ _ n HC.out).mono ?_; rintro e w2 ⟨⟨x, h0, h1, rfl⟩, hc, hb⟩; have HB2 : Hid (But w.heap.size w1 w2) := hb; clear hc hb))
  go_ret
  exact ⟨⟨x, h0, h1, rfl⟩, HB.out.trans (But.below HB2.out (Nat.le_refl _) HB.out.size)⟩

theorem drawHex_any (B : Nat) (w : World) (v : Value) (n : Nat) (hcode : CodeIn B w v n) (hB : B ≤ w.heap.size) :
    Calls Tryd.prog 11 #[v] w fun e w' => (∃ s : ByteArray, s.size ≤ 20001 ∧ e = .returned (.string s)) ∧ Below w.heap.size w w' := by
  have HK : Hid (CodeIn B w v n) := hcode
  clear hcode
  go_enter Tryd.func11, Tryd.ntmps11
  go_wp2_with (go_at_call 23; refine (new_any B _ _ n HK.out hB).mono ?_; rintro e w1 ⟨rfl, hc, hb⟩; have HC : Hid (Cur B w1 w.heap.size n) := hc; have HB : Hid (Below w.heap.size w w1) := hb; clear hc hb)
  go_at_call 25
  refine (once_any B _ _ n 60 (by omega) (by omega) HC.out).mono ?_
  rintro e w2 ⟨⟨b, rfl⟩, hc, hb⟩
  have HC2 : Hid (Cur B w2 w.heap.size n) := hc
  have HB2 : Hid (Below w.heap.size w w2) := HB.out.trans (But.below hb (Nat.le_refl _) HB.out.size)
  clear hc hb HC HB
  cases b with
  | true =>
    go_wp2_with (first
      | (go_at_call 27; refine (below_any B _ _ n 2 (by omega) (by omega) HC2.out).mono ?_; rintro e w3 ⟨⟨x, hx, rfl⟩, hc, hb⟩; have HB3 : Hid (Below w.heap.size w w3) := HB2.out.trans (But.below hb (Nat.le_refl _) HB2.out.size); clear hc hb)
      | (go_at_call 26; refine (long_any' _ (20000 + x) (by omega) (by omega) 200 _).mono ?_; rintro e w4 ⟨⟨s, hs, rfl⟩, hb⟩; have HB4 : Hid (Below w.heap.size w w4) := HB3.out.trans (hb.mono HB3.out.size); clear hb))
    go_ret
    exact ⟨⟨s, by omega, rfl⟩, HB4.out⟩
  | false =>
    go_wp2_with (first
      | (go_at_call 27; refine (below_any B _ _ n 30 (by omega) (by omega) HC2.out).mono ?_; rintro e w3 ⟨⟨x, hx, rfl⟩, hc, hb⟩; have HC3 : Hid (Cur B w3 w.heap.size n) := hc; have HB3 : Hid (Below w.heap.size w w3) := HB2.out.trans (But.below hb (Nat.le_refl _) HB2.out.size); clear hc hb)
      | (go_at_call 28; refine (text_any B _ _ n x (by omega) HC3.out).mono ?_; rintro e w4 ⟨⟨s, hs, rfl⟩, hc, hb⟩; have HB4 : Hid (Below w.heap.size w w4) := HB3.out.trans (But.below hb (Nat.le_refl _) HB3.out.size); clear hc hb))
    go_ret
    exact ⟨⟨s, by omega, rfl⟩, HB4.out⟩
end Go.Proofs.YtdabglemkpokpaaDoor

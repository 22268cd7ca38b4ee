/- spec.l01Pick, DrawSignsOf, DrawSymbolByte: what is drawn, whatever the code. -/
import Derived.Test.YtcmnjpoapcoghabDoorSgCurL
import Derived.Laws.Concat
import Derived.Deep.DeepCutAuto
namespace Go.Proofs.YtcmnjpoapcoghabDoor
open Go.RowKit

theorem pick_str (B : Nat) (w : World) (g n b m cap : Nat) (z : Nat → ByteArray) (hm0 : 0 < m) (hm1 : m ≤ 1000) (hbg : b ≠ g) (hz : ∀ j, j < m → w.cell? ⟨b, j, none⟩ = some (.string (z j))) (hc : Cur B w g n) :
    Calls Tryd.prog 13 #[.pointer (some ⟨g, 0, none⟩), .slice (some ⟨b, 0, none⟩) m cap] w fun e w' => (∃ j, j < m ∧ e = .returned (.string (z j))) ∧ Cur B w' g n ∧ But g w w' := by
  have HC : Hid (Cur B w g n) := hc
  have HZ : Hid (∀ w', But g w w' → ∀ j, j < m → w'.cell? ⟨b, j, none⟩ = some (.string (z j))) := fun w' hb j hj => by
    have h := hz j hj
    have hlt : b < w.heap.size := by
      unfold World.cell? at h
      cases hh : w.heap[b]? with
      | none => simp [hh] at h
      | some o => exact (Array.getElem?_eq_some_iff.1 hh).1
    rw [World.cell?_of_block (hb.block b hlt (by intro e; cases e; exact hbg rfl))]
    exact h
  clear hc hz
  go_enter Tryd.func13, Tryd.ntmps13
  go_wp2_with (go_at_call 12; refine (below_any B _ g n m hm0 (by omega) HC.out).mono ?_; rintro e w1 ⟨⟨x, hx, rfl⟩, hc, hb⟩; have HC1 : Hid (Cur B w1 g n) := hc; have HB1 : Hid (But g w w1) := hb; have cz := HZ.out w1 hb x hx; clear hc hb)
  go_ret
  exact ⟨⟨x, hx, rfl⟩, HC1.out, HB1.out⟩

theorem draw_byte (B : Nat) (w : World) (v : Value) (n : Nat) (hcode : CodeIn B w v n) (hB : B ≤ w.heap.size) :
    Calls Tryd.prog 8 #[v] w fun e w' => (∃ c : UInt8, e = .returned (.int .u8 (c.toNat : Int))) ∧ Below w.heap.size w w' := by
  have HK : Hid _ := hcode
  clear hcode
  go_enter Tryd.func8, Tryd.ntmps8
  go_wp2_with (first
    | (go_at_call 11; refine (new_any B _ _ n HK.out hB).mono ?_; rintro e w1 ⟨rfl, hc, hb⟩; have HC : Hid _ := hc; have HB : Hid (Below w.heap.size w w1) := hb; clear hc hb)
    | (go_at_call 19; refine (byte_any B _ _ n HC.out).mono ?_; rintro e w2 ⟨⟨x, hx, rfl⟩, hc, hb⟩; have HB2 : Hid (But w.heap.size w1 w2) := hb; clear hc hb))
  go_ret
  refine ⟨⟨⟨⟨x, hx⟩⟩, ?_⟩, HB.out.trans (But.below HB2.out (Nat.le_refl _) HB.out.size)⟩
  rfl

def drawL : List ByteArray := [⟨#[97]⟩, ⟨#[66, 99]⟩, ⟨#[95]⟩, ⟨#[49, 50]⟩, ⟨#[39, 120, 45, 121, 39]⟩, ⟨#[58, 45]⟩, ⟨#[61, 46, 46]⟩, ⟨#[46]⟩, ⟨#[46, 32]⟩, ⟨#[40]⟩, ⟨#[41]⟩, ⟨#[91]⟩, ⟨#[93]⟩, ⟨#[44]⟩, ⟨#[124]⟩, ⟨#[33]⟩, ⟨#[59]⟩, ⟨#[32]⟩, ⟨#[10]⟩, ⟨#[37, 32, 115, 97, 105, 100, 10]⟩, ⟨#[7]⟩, ⟨#[39, 97]⟩, ⟨#[49, 48, 48, 48, 48, 48, 48, 48, 48, 48]⟩, ⟨#[102, 40]⟩]
def drawZ (j : Nat) : ByteArray := drawL.getD j ⟨#[]⟩
theorem drawZ_size : ∀ j, j < 24 → (drawZ j).size ≤ 20 := by decide

set_option maxHeartbeats 4000000 in
set_option maxRecDepth 20000 in
theorem draw_signs (B : Nat) (w : World) (v : Value) (n : Nat) (hcode : CodeIn B w v n) (hB : B ≤ w.heap.size) :
    Calls Tryd.prog 5 #[v] w fun e w' => (∃ t : ByteArray, t.size ≤ 4000 ∧ e = .returned (.string t)) ∧ Below w.heap.size w w' := by
  have HK : Hid _ := hcode
  clear hcode
  go_enter Tryd.func5, Tryd.ntmps5
  go_upto_region 3 with (first
    | (go_at_call 11; refine (new_any B _ _ n HK.out hB).mono ?_; rintro e w1 ⟨rfl, hc, hb⟩; have HC : Hid (Cur B w1 w.heap.size n) := hc; have HB : Hid (Below w.heap.size w w1) := hb; clear hc hb)
    | (go_at_call 12; refine (below_any B _ _ n 6 (by omega) (by omega) HC.out).mono ?_; rintro e w2 ⟨⟨k, hk, rfl⟩, hc, hb⟩; have HC2 : Hid (Cur B w2 w.heap.size n) := hc; have HB2 : Hid (Below w.heap.size w w2) := HB.out.trans (But.below hb (Nat.le_refl _) HB.out.size); clear hc hb))
  go_wp2
  go_loopw [5, 6] (fun vs vi wr => ∃ (s : ByteArray) (j : Nat), vs = .string s ∧ vi = .int .i64 (j : Int) ∧ j ≤ 10 ∧ s.size ≤ 20 * j ∧ Hid (Cur B wr w.heap.size n) ∧ Hid (Below w.heap.size w wr)) (fun _ vi _ => 10 - (intOf vi).toNat)
  case atStart => exact ⟨⟨#[]⟩, 0, rfl, rfl, by omega, Nat.zero_le _, HC2, HB2⟩
  case round =>
    obtain ⟨s, j, rfl, rfl, hj, hsj, HCJ, HBJ⟩ := hrel
    go_wp2_with (fail)
    refine (below_any B _ _ n 10 (by omega) (by omega) HCJ.out).mono ?_
    rintro e w3 ⟨⟨x, hx, rfl⟩, hc, hb⟩
    have HC3 : Hid (Cur B w3 w.heap.size n) := hc
    have HB3 : Hid (Below w.heap.size w w3) := HBJ.out.trans (But.below hb (Nat.le_refl _) HBJ.out.size)
    have hg3 := hc.lt
    clear hc hb HCJ HBJ HC2 HB2 HC HB
    by_cases hlt : j < x
    · go_wp2_with (fail)
      go_at_call 13
      refine (pick_str B _ _ n w3.heap.size 24 24 drawZ (by omega) (by omega) (by omega) ?_ (Cur.keep HC3.out ((Below.refl _ _).alloc (Nat.le_refl _) _) hg3)).mono ?_
      · intro q hq
        have : q = 0 ∨ q = 1 ∨ q = 2 ∨ q = 3 ∨ q = 4 ∨ q = 5 ∨ q = 6 ∨ q = 7 ∨ q = 8 ∨ q = 9 ∨ q = 10 ∨ q = 11 ∨ q = 12 ∨ q = 13 ∨ q = 14 ∨ q = 15 ∨ q = 16 ∨ q = 17 ∨ q = 18 ∨ q = 19 ∨ q = 20 ∨ q = 21 ∨ q = 22 ∨ q = 23 := by omega
        rcases this with rfl | rfl | rfl | rfl | rfl | rfl | rfl | rfl | rfl | rfl | rfl | rfl | rfl | rfl | rfl | rfl | rfl | rfl | rfl | rfl | rfl | rfl | rfl | rfl <;> simp [drawZ, drawL]
      · rintro e w4 ⟨⟨q, hq, rfl⟩, hc, hb⟩
        have HC4 : Hid (Cur B w4 w.heap.size n) := hc
        have HB4 : Hid (Below w.heap.size w w4) := by
          have h1 := HB3.out.alloc (Nat.le_trans (Nat.le_refl _) HB3.out.size) (.cells #[.string ⟨#[97]⟩, .string ⟨#[66, 99]⟩, .string ⟨#[95]⟩, .string ⟨#[49, 50]⟩, .string ⟨#[39, 120, 45, 121, 39]⟩, .string ⟨#[58, 45]⟩, .string ⟨#[61, 46, 46]⟩, .string ⟨#[46]⟩, .string ⟨#[46, 32]⟩, .string ⟨#[40]⟩, .string ⟨#[41]⟩, .string ⟨#[91]⟩, .string ⟨#[93]⟩, .string ⟨#[44]⟩, .string ⟨#[124]⟩, .string ⟨#[33]⟩, .string ⟨#[59]⟩, .string ⟨#[32]⟩, .string ⟨#[10]⟩, .string ⟨#[37, 32, 115, 97, 105, 100, 10]⟩, .string ⟨#[7]⟩, .string ⟨#[39, 97]⟩, .string ⟨#[49, 48, 48, 48, 48, 48, 48, 48, 48, 48]⟩, .string ⟨#[102, 40]⟩] 9)
          exact h1.trans (But.below hb (Nat.le_refl _) h1.size)
        have hqs := drawZ_size q hq
        generalize drawZ q = dz at *
        have hcat := fun u => run_string_add (P := Tryd.prog) (w := u) s dz (by omega) (by omega)
        have hsz : (s ++ dz).size = s.size + dz.size := ByteArray.size_append
        have HSZ : Hid _ := hsz
        clear hc hb HC3 HB3 hsz
        go_wp2
        go_roundw
        case rel => exact ⟨s ++ dz, j + 1, rfl, by go_num, by omega, by rw [HSZ.out]; omega, HC4, HB4⟩
        case measure => simp [intOf]; omega
    · have hcat := fun u y (hy : y.size = 21) => run_string_add (P := Tryd.prog) (w := u) s y (by omega) (by omega)
      have HCAT : Hid _ := hcat
      clear hcat
      have hk6 : k = 0 ∨ k = 1 ∨ k = 2 ∨ (k ≠ 0 ∧ k ≠ 1 ∧ k ≠ 2) := by omega
      rcases hk6 with rfl | rfl | rfl | ⟨h0, h1, h2⟩
      · go_wp2_with (go_at_call 14; refine (long_any' 21 21 rfl (by omega) 97 _).mono ?_; rintro e w5 ⟨⟨y, hy, rfl⟩, hb⟩; have HB5 : Hid (Below w.heap.size w w5) := HB3.out.trans (hb.mono HB3.out.size); have hcc := HCAT.out w5 y hy; clear hb)
        go_ret
        exact ⟨⟨s ++ y, by rw [ByteArray.size_append]; omega, rfl⟩, HB5.out⟩
      · go_wp2_with (go_at_call 14; refine (long_any' 21 21 rfl (by omega) 43 _).mono ?_; rintro e w5 ⟨⟨y, hy, rfl⟩, hb⟩; have HB5 : Hid (Below w.heap.size w w5) := HB3.out.trans (hb.mono HB3.out.size); have hcc := HCAT.out w5 y hy; clear hb)
        go_ret
        exact ⟨⟨s ++ y, by rw [ByteArray.size_append]; omega, rfl⟩, HB5.out⟩
      · go_wp2_with (first
          | (go_at_call 12; refine (below_any B _ _ n 2 (by omega) (by omega) HC3.out).mono ?_; rintro e w4 ⟨⟨q, hq, rfl⟩, hc, hb⟩; have HB4 : Hid (Below w.heap.size w w4) := HB3.out.trans (But.below hb (Nat.le_refl _) HB3.out.size); clear hc hb)
          | (go_at_call 14; refine (long_any' _ (3000 + q) (by omega) (by omega) 32 _).mono ?_; rintro e w5 ⟨⟨y, hy, rfl⟩, hb⟩; have HB5 : Hid (Below w.heap.size w w5) := HB4.out.trans (hb.mono HB4.out.size); clear hb))
        go_ret
        exact ⟨⟨y, by omega, rfl⟩, HB5.out⟩
      · have e0 : ((k : Int) == 0) = false := beq_eq_false_iff_ne.2 (by omega)
        have e1 : ((k : Int) == 1) = false := beq_eq_false_iff_ne.2 (by omega)
        have e2 : ((k : Int) == 2) = false := beq_eq_false_iff_ne.2 (by omega)
        go_wp2
        go_ret
        exact ⟨⟨s, by omega, rfl⟩, HB3.out⟩
end Go.Proofs.YtcmnjpoapcoghabDoor

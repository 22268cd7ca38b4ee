/- Drawn numbers, and long texts. -/
import Derived.Test.YtdabglemkpokpaaDoorCurT
namespace Go.Proofs.YtdabglemkpokpaaDoor
open Go.RowKit

theorem once_any (B : Nat) (w : World) (g n m : Nat) (hm0 : 0 < m) (hm1 : m ≤ 4294967296) (hc : Cur B w g n) :
    Calls Tryd.prog 25 #[.pointer (some ⟨g, 0, none⟩), .int .i64 (m : Int)] w fun e w' => (∃ b : Bool, e = .returned (.bool b)) ∧ Cur B w' g n ∧ But g w w' := by
  have HC : Hid (Cur B w g n) := hc
  clear hc
  go_enter Tryd.func25, Tryd.ntmps25
  go_wp2_with (go_at_call 27; refine (below_any B _ g n m hm0 hm1 HC.out).mono ?_; rintro e w1 ⟨⟨x, hx, rfl⟩, hc, hb⟩; have HC1 : Hid (Cur B w1 g n) := hc; have HB1 : Hid (But g w w1) := hb; clear hc hb)
  go_ret
  exact ⟨⟨_, rfl⟩, HC1.out, HB1.out⟩

theorem pick_any (B : Nat) (w : World) (g n b m cap : Nat) (z : Nat → Int) (hm0 : 0 < m) (hm1 : m ≤ 4294967296) (hbg : b ≠ g) (hz : ∀ j, j < m → w.cell? ⟨b, j, none⟩ = some (.int .i64 (z j))) (hc : Cur B w g n) :
    Calls Tryd.prog 34 #[.pointer (some ⟨g, 0, none⟩), .slice (some ⟨b, 0, none⟩) m cap] w fun e w' => (∃ j, j < m ∧ e = .returned (.int .i64 (z j))) ∧ Cur B w' g n ∧ But g w w' := by
  have HC : Hid (Cur B w g n) := hc
  have HZ : Hid (∀ w', But g w w' → ∀ j, j < m → w'.cell? ⟨b, j, none⟩ = some (.int .i64 (z j))) := fun w' hb j hj => by
    have h := hz j hj
    have hlt : b < w.heap.size := by
      unfold World.cell? at h
      cases hh : w.heap[b]? with
      | none => simp [hh] at h
      | some o => exact (Array.getElem?_eq_some_iff.1 hh).1
    rw [World.cell?_of_block (hb.block b hlt (by intro e; cases e; exact hbg rfl))]
    exact h
  clear hc hz
  go_enter Tryd.func34, Tryd.ntmps34
  go_wp2_with (go_at_call 27; refine (below_any B _ g n m hm0 hm1 HC.out).mono ?_; rintro e w1 ⟨⟨x, hx, rfl⟩, hc, hb⟩; have HC1 : Hid (Cur B w1 g n) := hc; have HB1 : Hid (But g w w1) := hb; have cz := HZ.out w1 hb x hx; clear hc hb)
  go_ret
  exact ⟨⟨x, hx, rfl⟩, HC1.out, HB1.out⟩

def numZ (j : Nat) : Int := ([-1, 0, 127, 128, 16383, 16384, 1000000000, 1000000001, 9223372036854775807, -9223372036854775808] : List Int).getD j 0
theorem numZ_in : ∀ j, j < 10 → -9223372036854775808 ≤ numZ j ∧ numZ j ≤ 9223372036854775807 := by decide

theorem number_any (B : Nat) (w : World) (g n : Nat) (hc : Cur B w g n) :
    Calls Tryd.prog 22 #[.pointer (some ⟨g, 0, none⟩)] w fun e w' => (∃ x : Int, -9223372036854775808 ≤ x ∧ x ≤ 9223372036854775807 ∧ e = .returned (.int .i64 x)) ∧ Cur B w' g n ∧ But g w w' := by
  have hg := hc.lt
  have HC : Hid (Cur B w g n) := hc
  clear hc
  go_enter Tryd.func22, Tryd.ntmps22
  go_wp2_with (fail)
  go_at_call 27
  refine (below_any B _ g n 4 (by omega) (by omega) HC.out).mono ?_
  rintro e w1 ⟨⟨x, hx, rfl⟩, hc, hb⟩
  have HC1 : Hid (Cur B w1 g n) := hc
  have HB1 : Hid (But g w w1) := hb
  have hg1 := hc.lt
  clear hc hb HC
  by_cases h0 : x = 0
  · subst h0
    go_wp2_with (fail)
    go_at_call 34
    refine (pick_any B _ g n w1.heap.size 10 10 numZ (by omega) (by omega) (by omega) ?_ (Cur.keep HC1.out ((Below.refl _ _).alloc (Nat.le_refl _) _) hg1)).mono ?_
    · intro j hj
      have : j = 0 ∨ j = 1 ∨ j = 2 ∨ j = 3 ∨ j = 4 ∨ j = 5 ∨ j = 6 ∨ j = 7 ∨ j = 8 ∨ j = 9 := by omega
      rcases this with rfl | rfl | rfl | rfl | rfl | rfl | rfl | rfl | rfl | rfl <;> simp [numZ]
    · rintro e w2 ⟨⟨j, hj, rfl⟩, hc, hb⟩
      have HC2 : Hid (Cur B w2 g n) := hc
      have HB2 : Hid (But g w w2) := HB1.out.trans ((But.of_below ((Below.refl _ _).alloc (Nat.le_refl _) _)).trans hb)
      clear hc hb HB1 HC1
      go_wp2
      go_ret
      exact ⟨⟨numZ j, (numZ_in j hj).1, (numZ_in j hj).2, rfl⟩, HC2.out, HB2.out⟩
  · by_cases h1 : x = 1
    · subst h1
      go_wp2_with (go_at_call 27; refine (below_any B _ g n 1000000000 (by omega) (by omega) HC1.out).mono ?_; rintro e w2 ⟨⟨y, hy, rfl⟩, hc, hb⟩; have HC2 : Hid (Cur B w2 g n) := hc; have HB2 : Hid (But g w w2) := HB1.out.trans hb; clear hc hb)
      go_ret
      exact ⟨⟨y, by omega, by omega, rfl⟩, HC2.out, HB2.out⟩
    · go_wp2_with (go_at_call 27; refine (below_any B _ g n 400 (by omega) (by omega) HC1.out).mono ?_; rintro e w2 ⟨⟨y, hy, rfl⟩, hc, hb⟩; have HC2 : Hid (Cur B w2 g n) := hc; have HB2 : Hid (But g w w2) := HB1.out.trans hb; clear hc hb)
      go_ret
      exact ⟨⟨y, by omega, by omega, rfl⟩, HC2.out, HB2.out⟩

theorem make_full (n : Nat) (h1 : n ≤ 1048576) : ∃ M : Array Value, M.size = n ∧
    (∀ W : World, (Instr.makeSlice 22 (.int .i64 (n : Int)) (.int .i64 (n : Int))).run Tryd.prog W = .ok (.slice (some ⟨W.heap.size, 0, none⟩) n n) (W.alloc (.cells M 5))) := by
  obtain ⟨i0, hi, hz0, hz1, hz2⟩ := info_parts cinfo5
  refine ⟨madeCells (Value.int .u8 0).cells (n * i0.size), ?_, ?_⟩
  · rw [size_madeCells, hz1]; simp
  · intro W
    have h := run_make (P := Tryd.prog) W 22 5 i0 (.int .u8 0) Tryd.underlying22 hi hz0 .i64 .i64 n n (by omega) (by omega) (by rw [hz2]; omega) (by omega)
    simpa using h

theorem long_any (n : Nat) (hn : n ≤ 100000) (x : UInt8) (w : World) :
    Calls Tryd.prog 26 #[.int .i64 (n : Int), .int .u8 (x.toNat : Int)] w fun e w' => (∃ s : ByteArray, s.size = n ∧ e = .returned (.string s)) ∧ Below w.heap.size w w' := by
  obtain ⟨M, hM, hmk⟩ := make_full n (by omega)
  go_enter Tryd.func26, Tryd.ntmps26
  go_wp2
  clear hmk
  go_loopw [6] (fun i wr => Hid (Below w.heap.size w wr) ∧ ∃ k : Nat, k ≤ n ∧ i = .int .i64 (k : Int) ∧ (∀ j, wr.frozen? ⟨w.heap.size, j, none⟩ = false) ∧ (∀ j, j < n → (wr.cell? ⟨w.heap.size, j, none⟩).isSome = true) ∧ Hid (∀ j, j < k → wr.cell? ⟨w.heap.size, j, none⟩ = some (.int .u8 (x.toNat : Int)))) (fun i _ => n - (intOf i).toNat)
  case atStart =>
    refine ⟨(Below.refl _ _).alloc (Nat.le_refl _) _, 0, by omega, rfl, fun j => ?_, fun j hj => ?_, fun j hj => by omega⟩
    · unfold World.frozen?; rw [heap_alloc_new]; simp
    · unfold World.cell?; rw [heap_alloc_new]; simp [hM, hj]
  case round =>
    obtain ⟨HB, k, hk, rfl, hfz, hsome, HX⟩ := hrel
    by_cases hlt : k < n
    · have fz := hfz k
      obtain ⟨y, cy⟩ := Option.isSome_iff_exists.1 (hsome k hlt)
      have HF : Hid _ := hfz
      have HS : Hid _ := hsome
      clear hfz hsome
      go_wp2
      go_roundw
      case rel =>
        refine ⟨HB.out.trans (But.below (But.set w.heap.size k wr _) (Nat.le_refl _) HB.out.size), k + 1, by omega, by go_num, fun j => by rw [World.frozen?_setCell]; exact HF.out j, fun j hj => ?_, fun j hj => ?_⟩
        · by_cases e : j = k
          · subst e; rw [World.cell?_setCell_same _ _ _ cy]; rfl
          · rw [World.cell?_setCell_other _ _ _ _ (by intro h; cases h; exact e rfl)]; exact HS.out j hj
        · by_cases e : j = k
          · subst e; rw [World.cell?_setCell_same _ _ _ cy]
          · rw [World.cell?_setCell_other _ _ _ _ (by intro h; cases h; exact e rfl)]; exact HX.out j (by omega)
      case measure => simp [intOf]; omega
    · obtain rfl : k = n := by omega
      have HCV := run_convert_bytes_back (P := Tryd.prog) wr 22 9 5 ⟨w.heap.size, 0, none⟩ k (List.replicate k x) Tryd.underlying22 Tryd.underlying5 Tryd.underlying9 (fun j hj => by
        rw [Addr.add_lit, Nat.zero_add, List.getElem_replicate]; exact HX.out j (by simpa using hj))
      rw [List.length_replicate] at HCV
      clear hfz hsome
      go_wp2
      go_ret
      exact ⟨⟨_, by rw [size_mk]; simp, rfl⟩, HB.out⟩

theorem long_any' (z : Int) (n : Nat) (hz : z = (n : Int)) (hn : n ≤ 100000) (x : UInt8) (w : World) :
    Calls Tryd.prog 26 #[.int .i64 z, .int .u8 (x.toNat : Int)] w fun e w' => (∃ s : ByteArray, s.size = n ∧ e = .returned (.string s)) ∧ Below w.heap.size w w' := by
  rw [hz]; exact long_any n hn x w
end Go.Proofs.YtdabglemkpokpaaDoor

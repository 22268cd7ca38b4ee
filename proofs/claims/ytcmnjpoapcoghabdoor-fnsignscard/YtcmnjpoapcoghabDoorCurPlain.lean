/- The drawn inputs' cursor as a block of memory: what it holds, and what stays when one of its fields is written. Of no program. -/
import Derived.WalkKit
import Derived.WalkSpells
import Derived.Laws.AppendOwn
import Derived.Maps.AppendAt
import Derived.Laws.BitsAllLaws
import Derived.Test.YtcmnjpoapcoghabDoorRegLater
namespace Go.Proofs.YtcmnjpoapcoghabDoor
open Go.RowKit

theorem and255 (x : Int) : ∃ k : Nat, k < 256 ∧ bits .and .i64 x 255 = (k : Int) := by
  have hle : (BitVec.ofInt 64 x &&& BitVec.ofInt 64 255).toNat ≤ 255 := by
    rw [BitVec.toNat_and]; exact Nat.and_le_right
  refine ⟨(BitVec.ofInt 64 x &&& BitVec.ofInt 64 255).toNat, by omega, ?_⟩
  show IntKind.i64.wrap ((BitVec.ofInt 64 x &&& BitVec.ofInt 64 255).toNat : Int) = _
  generalize (BitVec.ofInt 64 x &&& BitVec.ofInt 64 255).toNat = m at *
  have e : IntKind.i64.wrap (m : Int) = if 9223372036854775808 ≤ (m : Int) % 18446744073709551616 then (m : Int) % 18446744073709551616 - 18446744073709551616 else (m : Int) % 18446744073709551616 := by simp [IntKind.wrap, IntKind.bits, IntKind.signed]
  rw [e, if_neg (by omega)]
  omega

/-- the code's value: n bytes, each of them there, in a block below B -/
def CodeIn (B : Nat) (w : World) (v : Value) (n : Nat) : Prop :=
  ∃ (ao : Option Addr) (cap : Nat), v = .slice ao n cap ∧ n ≤ 1048576 ∧ (0 < n → ∃ (b off : Nat) (z : Nat → UInt8), ao = some ⟨b, off, none⟩ ∧ b < B ∧ b < w.heap.size ∧ ∀ j, j < n → w.cell? ⟨b, off + j, none⟩ = some (.int .u8 ((z j).toNat : Int)))

/-- nothing that was there has turned, but block g -/
abbrev But (g : Nat) (w w' : World) : Prop := w.grownBy w' (some g)

theorem But.refl (g : Nat) (w : World) : But g w w := ⟨rfl, rfl, rfl, Nat.le_refl _, fun _ _ _ => rfl⟩
theorem But.of_below {g : Nat} {w w' : World} (h : Below w.heap.size w w') : But g w w' := ⟨h.os, h.tape, h.output, h.size, fun k hk _ => h.block k hk⟩
theorem But.set (g k : Nat) (w : World) (v : Value) : But g w (w.setCell ⟨g, k, none⟩ v) :=
  ⟨rfl, rfl, rfl, by simp [World.setCell], fun j _ hne => by
    have : g ≠ j := fun h => hne (by rw [h])
    simp [World.setCell, Array.getElem?_modify, this]⟩
theorem But.below {g B : Nat} {w w' : World} (h : But g w w') (hB : B ≤ g) (hw : B ≤ w.heap.size) : Below B w w' :=
  ⟨h.os, h.tape, h.output, h.size, fun k hk => h.block k (by omega) (by intro e; cases e; omega)⟩

theorem CodeIn.but {B g n : Nat} {w w' : World} {v : Value} (h : CodeIn B w v n) (hB : B ≤ g) (hb : But g w w') : CodeIn B w' v n := by
  obtain ⟨ao, cap, rfl, hn, hc⟩ := h
  refine ⟨ao, cap, rfl, hn, fun h0 => ?_⟩
  obtain ⟨b, off, z, rfl, hbB, hbw, hz⟩ := hc h0
  refine ⟨b, off, z, rfl, hbB, Nat.lt_of_lt_of_le hbw hb.size, fun j hj => ?_⟩
  rw [World.cell?_of_block (hb.block b hbw (by intro e; cases e; omega))]
  exact hz j hj
theorem CodeIn.below {B B' n : Nat} {w w' : World} {v : Value} (h : CodeIn B w v n) (hb : Below B w w') (hB : B ≤ B') : CodeIn B' w' v n := by
  obtain ⟨ao, cap, rfl, hn, hc⟩ := h
  refine ⟨ao, cap, rfl, hn, fun h0 => ?_⟩
  obtain ⟨b, off, z, rfl, hbB, hbw, hz⟩ := hc h0
  refine ⟨b, off, z, rfl, by omega, Nat.lt_of_lt_of_le hbw hb.size, fun j hj => ?_⟩
  rw [World.cell?_of_block (hb.block b hbB)]
  exact hz j hj

/-- the cursor's block: the code, the place, the number -/
structure CurAt (B : Nat) (w : World) (g n : Nat) (v : Value) (i : Nat) (h : Int) : Prop where
  B_le : B ≤ g
  lt : g < w.heap.size
  i_le : i ≤ n
  lo : -9223372036854775808 ≤ h
  hi : h ≤ 9223372036854775807
  code : CodeIn B w v n
  c0 : w.cell? ⟨g, 0, none⟩ = some v
  c1 : w.cell? ⟨g, 1, none⟩ = some (.int .i64 (i : Int))
  c2 : w.cell? ⟨g, 2, none⟩ = some (.int .i64 h)
  fz : ∀ k, w.frozen? ⟨g, k, none⟩ = false

theorem CurAt.setH {B : Nat} {w : World} {g n : Nat} {v : Value} {i : Nat} {h : Int} (c : CurAt B w g n v i h) (h' : Int) (h0 : -9223372036854775808 ≤ h') (h1 : h' ≤ 9223372036854775807) :
    CurAt B (w.setCell ⟨g, 2, none⟩ (.int .i64 h')) g n v i h' :=
  ⟨c.B_le, by simpa [World.setCell] using c.lt, c.i_le, h0, h1, c.code.but c.B_le (But.set _ _ _ _), by rw [World.cell?_setCell_other _ _ _ _ (by simp)]; exact c.c0,
    by rw [World.cell?_setCell_other _ _ _ _ (by simp)]; exact c.c1, World.cell?_setCell_same _ _ _ c.c2, fun k => by rw [World.frozen?_setCell]; exact c.fz k⟩
theorem CurAt.setI {B : Nat} {w : World} {g n : Nat} {v : Value} {i : Nat} {h : Int} (c : CurAt B w g n v i h) (i' : Nat) (hi : i' ≤ n) :
    CurAt B (w.setCell ⟨g, 1, none⟩ (.int .i64 (i' : Int))) g n v i' h :=
  ⟨c.B_le, by simpa [World.setCell] using c.lt, hi, c.lo, c.hi, c.code.but c.B_le (But.set _ _ _ _), by rw [World.cell?_setCell_other _ _ _ _ (by simp)]; exact c.c0,
    World.cell?_setCell_same _ _ _ c.c1, by rw [World.cell?_setCell_other _ _ _ _ (by simp)]; exact c.c2, fun k => by rw [World.frozen?_setCell]; exact c.fz k⟩
theorem CurAt.keep {B B' : Nat} {w w' : World} {g n : Nat} {v : Value} {i : Nat} {h : Int} (c : CurAt B w g n v i h) (hb : Below B' w w') (hB : g < B') : CurAt B w' g n v i h :=
  ⟨c.B_le, Nat.lt_of_lt_of_le c.lt hb.size, c.i_le, c.lo, c.hi, c.code.below ⟨hb.os, hb.tape, hb.output, hb.size, fun k hk => hb.block k (by have := c.B_le; omega)⟩ (Nat.le_refl _), by rw [World.cell?_of_block (hb.block g hB)]; exact c.c0,
    by rw [World.cell?_of_block (hb.block g hB)]; exact c.c1, by rw [World.cell?_of_block (hb.block g hB)]; exact c.c2, fun k => by rw [World.frozen?_of_block (hb.block g hB)]; exact c.fz k⟩
theorem CurAt.later {B : Nat} {w : World} {g n : Nat} {v : Value} {i : Nat} {h : Int} (c : CurAt B w g n v i h) (u : World) : CurAt B (later w u) g n v i h :=
  c.keep (later_below w u) c.lt

/-- the cursor, whatever it stands at -/
def Cur (B : Nat) (w : World) (g n : Nat) : Prop := ∃ v i h, CurAt B w g n v i h
theorem Cur.keep {B B' : Nat} {w w' : World} {g n : Nat} (c : Cur B w g n) (hb : Below B' w w') (hB : g < B') : Cur B w' g n := by
  obtain ⟨v, i, h, c⟩ := c; exact ⟨v, i, h, c.keep hb hB⟩
theorem Cur.lt {B : Nat} {w : World} {g n : Nat} (c : Cur B w g n) : g < w.heap.size := by obtain ⟨v, i, h, c⟩ := c; exact c.lt
theorem Cur.B_le {B : Nat} {w : World} {g n : Nat} (c : Cur B w g n) : B ≤ g := by obtain ⟨v, i, h, c⟩ := c; exact c.B_le

theorem But.then_below {g : Nat} {w w1 w2 : World} (h : But g w w1) (hb : Below w.heap.size w1 w2) : But g w w2 :=
  ⟨hb.os.trans h.os, hb.tape.trans h.tape, hb.output.trans h.output, Nat.le_trans h.size hb.size, fun k hk hne => (hb.block k hk).trans (h.block k hk hne)⟩
theorem owns_but {w w' : World} {B e size n g : Nat} {v : Value} {xs : List Value} (h : w.ownsRow B e size v n xs) (hb : But g w w') (hg : g < B) : w'.ownsRow B e size v n xs := by
  refine ⟨h.1, ?_⟩
  rcases h.2 with h | ⟨k, cap, cur, h1, h2, h3, h4⟩
  · exact Or.inl h
  · exact Or.inr ⟨k, cap, cur, h1, h2, (hb.block k (Array.getElem?_eq_some_iff.1 h3).1 (by intro e; cases e; omega)).trans h3, h4⟩
theorem cur_new {B n : Nat} {w : World} {v : Value} (hcode : CodeIn B w v n) (hB : B ≤ w.heap.size) (h : Nat) (hh : h < 2147483648) (T : TypeId) :
    Cur B (w.alloc (.cells #[v, .int .i64 0, .int .i64 (h : Int)] T)) w.heap.size n :=
  ⟨v, 0, h, hB, by simp, Nat.zero_le _, by omega, by omega, hcode.below ((Below.refl _ _).alloc hB _) (Nat.le_refl _), by simp, by simp, by simp, fun k => by unfold World.frozen?; rw [heap_alloc_new]; simp⟩

theorem wrap64_bounds (n : Int) : -9223372036854775808 ≤ wrap64 n ∧ wrap64 n ≤ 9223372036854775807 := by unfold wrap64; omega
end Go.Proofs.YtcmnjpoapcoghabDoor

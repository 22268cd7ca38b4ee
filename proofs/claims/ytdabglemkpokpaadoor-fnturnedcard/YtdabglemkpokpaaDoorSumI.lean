/- The code's sums: the table's half step is four steps of the document, a byte eight, a text all of its bytes. -/
import Derived.Test.YtdabglemkpokpaaDoorRows
import Derived.Test.YtdabglemkpokpaaDoorSumPlain
import Derived.Test.YtdabglemkpokpaaDoorVarPlain
import Derived.WalkKit
import Derived.WalkSpells
import Derived.Lib.LaidTab
import Derived.Laws.BitsAllLaws
namespace Go.Proofs.YtdabglemkpokpaaDoor
open Go.RowKit

def halfTab : List Int := [0, 1166650509, 2333301018, 3466261911, 3189058079, 4221339282, 889615109, 1888477064, 3558460437, 2442158232, 1594529039, 444807554, 1779230218, 797264519, 3776954128, 2761298845]
theorem halfTab_at : ∀ r : Nat, r < 16 → halfTab[r]? = some ((h4 r : Nat) : Int) := by decide
theorem gHalf : Tryd.prog.globalNamed "loop.example/g00469/impl.halfSteps" = some 0 := by kernel_rfl

/-- the table is as the program's text lays it -/
def Tab (w : World) : Prop := Lib.TabIs Tryd.prog w "loop.example/g00469/impl.halfSteps" .u32 halfTab

theorem Tab.cell {w : World} (h : Tab w) (r : Nat) (hr : r < 16) : w.cell? ⟨0, r, none⟩ = some (.int .u32 ((h4 r : Nat) : Int)) := by
  have := World.var?_cell gHalf h r
  rw [this]
  simp [List.getElem?_toArray, halfTab_at r hr]

theorem ret_nat {k : IntKind} {a b : Int} (h : a = b) : Ending.returned (.int k a) = .returned (.int k b) := by rw [h]

theorem half_step (x : Nat) (hx : x < 4294967296) (w : World) (ht : Tab w) :
    Calls Tryd.prog 37 #[.int .u32 (x : Int)] w fun e w' => e = .returned (.int .u32 ((h4 x : Nat) : Int)) ∧ w' = w := by
  have hc := ht.cell (x % 16) (by omega)
  have hr := h4_lt (x := x % 16) (by omega)
  have HT : Hid _ := ht
  clear ht
  go_enter Tryd.func37, Tryd.ntmps37
  go_wp2
  go_ret
  exact ⟨ret_nat (by rw [h4_split x, show ((x : Int) / 16) = ((x / 16 : Nat) : Int) by omega, u32_xor_nat _ _ (by omega) hr]), rfl⟩

theorem with_byte (s : Nat) (hs : s < 4294967296) (b : UInt8) (w : World) (ht : Tab w) :
    Calls Tryd.prog 33 #[.int .u32 (s : Int), .int .u8 (b.toNat : Int)] w fun e w' => e = .returned (.int .u32 ((sumB s b : Nat) : Int)) ∧ w' = w := by
  have hx := xor_byte_lt b hs
  have h4x := h4_lt hx
  have hb := b.toNat_lt
  have e1 : bits .xor .u32 (s : Int) (b.toNat : Int) = ((s ^^^ b.toNat : Nat) : Int) := u32_xor_nat _ _ hs (by omega)
  have HT : Hid _ := ht
  clear ht
  unfold sumB
  go_enter Tryd.func33, Tryd.ntmps33
  go_wp2_with (go_at_call 37; refine (half_step _ (by assumption) _ HT.out).mono ?_; rintro e w' ⟨rfl, rfl⟩)
  go_ret
  exact ⟨rfl, rfl⟩

theorem drop_at (s : ByteArray) (k : Nat) (h : k < s.size) : s.data.toList.drop k = s[k] :: s.data.toList.drop (k + 1) := by
  rw [List.drop_eq_getElem_cons (by simpa using h)]; rfl

theorem implMore (n : Nat) (hn : n < 4294967296) (s : ByteArray) (hs : s.size ≤ 1099511627776) (w : World) (ht : Tab w) :
    Calls Tryd.prog 20 #[.int .u32 (n : Int), .string s] w fun e w' => e = .returned (.int .u32 ((sumL n s.data.toList : Nat) : Int)) ∧ w' = w := by
  have HT : Hid _ := ht
  clear ht
  go_enter Tryd.func20, Tryd.ntmps20
  go_wp2
  go_loopw [5, 6] (fun v i wr => wr = w ∧ ∃ (c k : Nat), c < 4294967296 ∧ k ≤ s.size ∧ v = .int .u32 (c : Int) ∧ i = .int .i64 (k : Int) ∧ Hid (sumL n s.data.toList = sumL c (s.data.toList.drop k))) (fun _ i _ => s.size - (intOf i).toNat)
  case atStart => exact ⟨rfl, n, 0, hn, Nat.zero_le _, rfl, rfl, by show _ = _; simp⟩
  case round =>
    obtain ⟨rfl, c, k, hc, hk, rfl, rfl, hp⟩ := hrel
    by_cases hlt : k < s.size
    · have hp' : Hid (sumL n s.data.toList = sumL (sumB c s[k]) (s.data.toList.drop (k + 1))) := by show _ = _; rw [hp.out, drop_at s k hlt]; rfl
      clear hp
      go_wp2_with (go_at_call 33; refine (with_byte _ hc _ _ HT.out).mono ?_; rintro e w' ⟨rfl, rfl⟩)
      go_roundw
      case rel => exact ⟨trivial, _, k + 1, sumB_lt _ hc, by omega, rfl, by go_num, hp'⟩
      case measure => simp [intOf]; omega
    · have hf : sumL n s.data.toList = c := by rw [hp.out, List.drop_eq_nil_of_le (by simpa using Nat.le_of_not_lt hlt)]; rfl
      have HF : Hid _ := hf
      clear hp hf
      go_wp2
      go_ret
      exact ⟨by rw [HF.out]; rfl, rfl⟩

theorem implSum (s : ByteArray) (hs : s.size ≤ 1099511627776) (w : World) (ht : Tab w) :
    Calls Tryd.prog 21 #[.string s] w fun e w' => e = .returned (.int .u32 ((sumL 4294967295 s.data.toList : Nat) : Int)) ∧ w' = w := by
  have HT : Hid _ := ht
  clear ht
  go_enter Tryd.func21, Tryd.ntmps21
  go_wp2_with (go_at_call 20; refine (implMore 4294967295 (by omega) _ hs _ HT.out).mono ?_; rintro e w' ⟨rfl, rfl⟩)
  go_ret
  exact ⟨rfl, rfl⟩
end Go.Proofs.YtdabglemkpokpaaDoor

/- The drawn inputs' cursor: what a byte, a number below another and a text drawn off it are, whatever the code. -/
import Derived.Test.YtcmnjpoapcoghabDoorRows
import Derived.Test.YtcmnjpoapcoghabDoorVarPlain
import Derived.Test.YtcmnjpoapcoghabDoorCurPlain
import Derived.WalkKit
import Derived.WalkSpells
import Derived.BigQuiet
namespace Go.Proofs.YtcmnjpoapcoghabDoor
open Go.RowKit

theorem byte_any (B : Nat) (w : World) (g n : Nat) (hc : Cur B w g n) :
    Calls Tryd.prog 19 #[.pointer (some ⟨g, 0, none⟩)] w fun e w' => (∃ x : Nat, x < 256 ∧ e = .returned (.int .i64 (x : Int))) ∧ Cur B w' g n ∧ But g w w' := by
  obtain ⟨v, i, h, C⟩ := hc
  have c2 := C.c2
  have f2 := C.fz 2
  have HC : Hid _ := C
  clear C
  go_enter Tryd.func19, Tryd.ntmps19
  go_wp2
  generalize hh : wrap64 (wrap64 (h * 6364136223846793005) + 1442695040888963407) = h'
  have hb := wrap64_bounds (wrap64 (h * 6364136223846793005) + 1442695040888963407)
  rw [hh] at hb
  obtain ⟨C1⟩ : Nonempty (PLift (CurAt B (w.setCell ⟨g, 2, none⟩ (.int .i64 h')) g n v i h')) := ⟨⟨HC.out.setH h' hb.1 hb.2⟩⟩
  have b1 := But.set g 2 w (.int .i64 h')
  generalize w.setCell ⟨g, 2, none⟩ (.int .i64 h') = w1 at *
  have C1 := C1.down
  have c2 : ∀ u, (later w1 u).cell? ⟨g, 2, none⟩ = some (.int .i64 h') := fun u => (C1.later u).c2
  obtain ⟨x, hx, ex⟩ := and255 (bits .xor .i64 (h' / 8589934592) (h' / 35184372088832))
  have HC1 : Hid _ := C1
  have HB1 : Hid _ := b1
  clear C1 b1 hh HC
  refine wp_region_later (by kernel_rfl) (by kernel_rfl) ?_
  repeat (go_big_quiet_step (skip))
  refine wpQuiet_nil ?_
  rintro _ ⟨u, rfl⟩
  have C2 := HC1.out.later u
  have b2 : But g w (later w1 u) := HB1.out.trans (But.of_below (later_below w1 u))
  generalize later w1 u = w2 at *
  clear c2 HC1 HB1 ex
  obtain ⟨ao, cap, rfl, hn, hcells⟩ := C2.code
  have hin := C2.i_le
  have c0 : ∀ u, (later w2 u).cell? ⟨g, 0, none⟩ = some (.slice ao n cap) := fun u => (C2.later u).c0
  have c1 : ∀ u, (later w2 u).cell? ⟨g, 1, none⟩ = some (.int .i64 (i : Int)) := fun u => (C2.later u).c1
  have HC2 : Hid _ := C2
  have HB2 : Hid _ := b2
  have HCode : Hid _ := hcells
  clear C2 b2 hcells
  go_wp2
  refine wp_region_later (by kernel_rfl) (by kernel_rfl) ?_
  repeat (go_big_quiet_step (skip))
  refine wpQuiet_nil ?_
  rintro _ ⟨u, rfl⟩
  have C3 := HC2.out.later u
  have b3 : But g w (later w2 u) := HB2.out.trans (But.of_below (later_below w2 u))
  generalize later w2 u = w3 at *
  clear c0 c1 HC2 HB2 HCode
  by_cases hlt : i < n
  · obtain ⟨ao', cap', hao, _, hcells⟩ := C3.code
    obtain ⟨rfl, rfl⟩ : ao = ao' ∧ cap = cap' := by cases hao; exact ⟨rfl, rfl⟩
    obtain ⟨b, off, z, rfl, hbB, hbw, hz⟩ := hcells (by omega)
    have c0 : ∀ u, (later w3 u).cell? ⟨g, 0, none⟩ = some (.slice (some ⟨b, off, none⟩) n cap) := fun u => (C3.later u).c0
    have c1 : ∀ u, (later w3 u).cell? ⟨g, 1, none⟩ = some (.int .i64 (i : Int)) := fun u => (C3.later u).c1
    have cz : ∀ u, (later w3 u).cell? ⟨b, off + i, none⟩ = some (.int .u8 ((z i).toNat : Int)) := fun u => by
      rw [World.cell?_of_block ((later_below w3 u).block b hbw)]; exact hz i hlt
    have hzl := (z i).toNat_lt
    obtain ⟨y, hy, ey⟩ := and255 ((x : Int) + ((z i).toNat : Int))
    have HC3 : Hid _ := C3
    have HB3 : Hid _ := b3
    clear C3 b3 hao hz
    go_wp2
    refine wp_region_later (by kernel_rfl) (by kernel_rfl) ?_
    repeat (go_big_quiet_step (skip))
    refine wpQuiet_nil ?_
    rintro _ ⟨u, rfl⟩
    have C4 := HC3.out.later u
    have b4 : But g w (later w3 u) := HB3.out.trans (But.of_below (later_below w3 u))
    generalize later w3 u = w4 at *
    have c1' := C4.c1
    have f1 := C4.fz 1
    have HC4 : Hid _ := C4
    have HB4 : Hid _ := b4
    clear C4 b4 c0 c1 cz HC3 HB3 ey
    go_wp2
    go_ret
    refine ⟨⟨y, hy, rfl⟩, ⟨_, _, _, HC4.out.setI (i + 1) (by omega)⟩, HB4.out.trans (But.set _ _ _ _)⟩
  · have HC3 : Hid _ := C3
    have HB3 : Hid _ := b3
    clear C3 b3
    go_wp2
    go_ret
    exact ⟨⟨x, hx, rfl⟩, ⟨_, _, _, HC3.out⟩, HB3.out⟩
end Go.Proofs.YtcmnjpoapcoghabDoor

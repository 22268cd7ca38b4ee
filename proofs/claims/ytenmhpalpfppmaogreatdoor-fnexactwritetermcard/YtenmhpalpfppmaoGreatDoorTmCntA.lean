/- How many terms a term has: the specification's count, down from a room, and SizeOf. -/
import Derived.Test.YtenmhpalpfppmaoGreatDoorSzR
import Derived.Test.YtenmhpalpfppmaoGreatDoorRows
import Derived.Test.YtenmhpalpfppmaoGreatDoorMrg3
import Derived.ProofKit
namespace Go.Proofs.YtenmhpalpfppmaoGreatDoor
open Go.RowKit

def CntOk (t : Tm) : Prop := ∀ (w : World) (v : Value) (room : Nat), TmIn w t v → room ≤ 1048576 →
  Calls Tryz.prog 16 #[v, .int .i64 (room : Int)] w fun e w' => e = .returned (.int .i64 (szR t.n room)) ∧ Below w.heap.size w w'

theorem count_term (t : Tm) : CntOk t := by
  refine tm_ind (p := CntOk) ?_ t
  clear t
  intro k s n ks hks w v room hin hroom
  unfold TmIn at hin
  obtain ⟨ao, cap, rfl, hk, hn, hs, hlen, hcap, hrow⟩ := hin
  unfold maxLen at hcap
  rw [n_mk]
  have hb0 : Below w.heap.size w (w.alloc (.cells #[.int .i64 k, .string s, .int .i64 n, .slice ao ks.length cap] 29)) := (Below.refl _ _).alloc (Nat.le_refl _) _
  have HC3 : Hid (∀ wr, Below (w.alloc (.cells #[.int .i64 k, .string s, .int .i64 n, .slice ao ks.length cap] 29)).heap.size (w.alloc (.cells #[.int .i64 k, .string s, .int .i64 n, .slice ao ks.length cap] 29)) wr → wr.cell? ⟨w.heap.size, 3, none⟩ = some (.slice ao ks.length cap)) := fun wr hb =>
    cell_keep (w := w.alloc _) (by simp) hb
  have HR : Hid (∀ wr, Below (w.alloc (.cells #[.int .i64 k, .string s, .int .i64 n, .slice ao ks.length cap] 29)).heap.size (w.alloc (.cells #[.int .i64 k, .string s, .int .i64 n, .slice ao ks.length cap] 29)) wr → ks ≠ [] → ∃ b off, ao = some ⟨b, off, none⟩ ∧ TmsIn wr ks b off) := fun wr hb h0 => by
    obtain ⟨b, off, e, hr⟩ := hrow h0
    exact ⟨b, off, e, TmsIn.keep hb ks b off (TmsIn.keep hb0 ks b off hr)⟩
  have HKS : Hid _ := hks
  replace hb0 : Hid _ := hb0
  clear hrow hks
  go_enter Tryz.func16, Tryz.ntmps16
  go_wp2
  generalize hW : w.alloc (.cells #[.int .i64 k, .string s, .int .i64 n, .slice ao ks.length cap] 29) = W at *
  go_loopw [1, 5] (fun vl vi wr => Hid (Below W.heap.size W wr) ∧ ∃ j : Nat, j ≤ ks.length ∧ vi = .int .i64 (j : Int) ∧ ((∃ l : Nat, vl = .int .i64 (l : Int) ∧ l ≤ 1048576 ∧ Hid (l + 1 + ns (ks.take j) = room)) ∨ (vl = .int .i64 (-1) ∧ Hid (szR (1 + ns ks) room = -1)))) (fun _ i _ => ks.length - (intOf i).toNat)
  case atStart =>
    refine ⟨Below.refl _ _, 0, by omega, rfl, ?_⟩
    by_cases h0 : room = 0
    · subst h0
      exact Or.inr ⟨rfl, by show _ = _; unfold szR; rw [if_neg (by omega)]⟩
    · exact Or.inl ⟨room - 1, by simp; omega, by omega, by show _ = _; simp [ns, Tm.n.ns]; omega⟩
  case round =>
    obtain ⟨HB, j, hj, rfl, hl⟩ := hrel
    have c3 := HC3.out wr HB.out
    rcases hl with ⟨l, rfl, hll, HL⟩ | ⟨rfl, HL⟩
    · by_cases hlt : j < ks.length
      · obtain ⟨b, off, rfl, hin⟩ := HR.out wr HB.out (by intro e; subst e; simp at hlt)
        obtain ⟨c0, c1, c2, c3', h0, h1, h2, h3, ht⟩ := hin.at j hlt
        have HC := HKS.out ks[j] (List.getElem_mem hlt) wr _ l ht hll
        have hw : ns (ks.take (j + 1)) = ns (ks.take j) + ks[j].n := by
          rw [List.take_succ_eq_append_getElem hlt, ns_append]; simp [ns, Tm.n.ns]
        have HW : Hid _ := hw
        clear hin ht hw HR HC3 HKS
        by_cases hfit : ks[j].n ≤ l
        · rw [show szR ks[j].n l = ((l - ks[j].n : Nat) : Int) from if_pos hfit] at HC
          replace HC : Hid _ := HC
          go_wp2_with (go_at_call 16; refine (Calls.mono HC.out ?_); rintro e w1 ⟨rfl, hb⟩; have HB1 : Hid (Below W.heap.size W w1) := HB.out.trans (hb.mono HB.out.size); clear hb)
          go_roundw
          case rel => exact ⟨HB1.out, j + 1, by omega, by go_num, Or.inl ⟨l - ks[j].n, rfl, by omega, by show _ = _; have := HL.out; have := HW.out; omega⟩⟩
          case measure => simp [intOf]; omega
        · rw [show szR ks[j].n l = -1 from if_neg hfit] at HC
          replace HC : Hid _ := HC
          have hr : szR (1 + ns ks) room = -1 := by
            have h1 := HL.out
            have h2 := HW.out
            have h3 : ns (ks.take (j + 1)) + ns (ks.drop (j + 1)) = ns ks := by rw [← ns_append, List.take_append_drop]
            unfold szR
            rw [if_neg (by omega)]
          have HRR : Hid _ := hr
          clear hr
          go_wp2_with (go_at_call 16; refine (Calls.mono HC.out ?_); rintro e w1 ⟨rfl, hb⟩; have HB1 : Hid (Below W.heap.size W w1) := HB.out.trans (hb.mono HB.out.size); clear hb)
          go_roundw
          case rel => exact ⟨HB1.out, j + 1, by omega, by go_num, Or.inr ⟨rfl, HRR.out⟩⟩
          case measure => simp [intOf]; omega
      · have hr : szR (1 + ns ks) room = (l : Int) := by
          have h1 := HL.out
          rw [List.take_of_length_le (by omega)] at h1
          unfold szR
          rw [if_pos (by omega)]
          omega
        have HRR : Hid _ := hr
        clear hr HR HC3 HKS
        go_wp2
        go_ret
        exact ⟨by rw [HRR.out]; rfl, hb0.out.trans (HB.out.mono hb0.out.size)⟩
    · clear HR HC3 HKS
      by_cases hlt : j < ks.length
      · go_wp2
        go_ret
        exact ⟨by rw [HL.out]; rfl, hb0.out.trans (HB.out.mono hb0.out.size)⟩
      · go_wp2
        go_ret
        exact ⟨by rw [HL.out]; rfl, hb0.out.trans (HB.out.mono hb0.out.size)⟩

end Go.Proofs.YtenmhpalpfppmaoGreatDoor

/- Four texts in one. -/
import Derived.WalkKit
import Derived.Test.YtmhmlkdoaojimapDoorRows
import Derived.Test.YtmhmlkdoaojimapDoorMrg2
import Derived.Test.YtmhmlkdoaojimapDoorMrg3
import Derived.ProofKit
import Derived.WalkSpells
import Derived.Below
/- What is left of a number of letters. Plain. -/
namespace Go.Proofs.YtmhmlkdoaojimapDoor
def szR (n : Nat) (left : Nat) : Int := if n ≤ left then ((left - n : Nat) : Int) else -1
end Go.Proofs.YtmhmlkdoaojimapDoor

/- How many terms a term has: the specification's count, down from a room, and SizeOf. -/
namespace Go.Proofs.YtmhmlkdoaojimapDoor
open Go.RowKit

def CntOk (t : Tm) : Prop := ∀ (w : World) (v : Value) (room : Nat), TmIn w t v → room ≤ 1048576 →
  Calls Tryd.prog 84 #[v, .int .i64 (room : Int)] w fun e w' => e = .returned (.int .i64 (szR t.n room)) ∧ Below w.heap.size w w'

theorem count_term (t : Tm) : CntOk t := by
  refine tm_ind (p := CntOk) ?_ t
  clear t
  intro k s n ks hks w v room hin hroom
  unfold TmIn at hin
  obtain ⟨ao, cap, rfl, hk, hn, hs, hlen, hcap, hrow⟩ := hin
  unfold maxLen at hcap
  rw [n_mk]
  have hb0 : Below w.heap.size w (w.alloc (.cells #[.int .i64 k, .string s, .int .i64 n, .slice ao ks.length cap] 46)) := (Below.refl _ _).alloc (Nat.le_refl _) _
  have HC3 : Hid (∀ wr, Below (w.alloc (.cells #[.int .i64 k, .string s, .int .i64 n, .slice ao ks.length cap] 46)).heap.size (w.alloc (.cells #[.int .i64 k, .string s, .int .i64 n, .slice ao ks.length cap] 46)) wr → wr.cell? ⟨w.heap.size, 3, none⟩ = some (.slice ao ks.length cap)) := fun wr hb =>
    cell_keep (w := w.alloc _) (by simp) hb
  have HR : Hid (∀ wr, Below (w.alloc (.cells #[.int .i64 k, .string s, .int .i64 n, .slice ao ks.length cap] 46)).heap.size (w.alloc (.cells #[.int .i64 k, .string s, .int .i64 n, .slice ao ks.length cap] 46)) wr → ks ≠ [] → ∃ b off, ao = some ⟨b, off, none⟩ ∧ TmsIn wr ks b off) := fun wr hb h0 => by
    obtain ⟨b, off, e, hr⟩ := hrow h0
    exact ⟨b, off, e, TmsIn.keep hb ks b off (TmsIn.keep hb0 ks b off hr)⟩
  have HKS : Hid _ := hks
  replace hb0 : Hid _ := hb0
  clear hrow hks
  go_enter Tryd.func84, Tryd.ntmps84
  go_wp2
  generalize hW : w.alloc (.cells #[.int .i64 k, .string s, .int .i64 n, .slice ao ks.length cap] 46) = W at *
  go_loopw [1, 5] (fun vl vi wr => Hid (Below W.heap.size W wr) ∧ ∃ j : Nat, j ≤ ks.length ∧ vi = .int .i64 (j : Int) ∧ ((∃ l : Nat, vl = .int .i64 (l : Int) ∧ l ≤ 1048576 ∧ Hid (l + 1 + ns (ks.take j) = room)) ∨ (vl = .int .i64 (-1) ∧ Hid (szR (1 + ns ks) room = -1)))) (fun _ i _ => ks.length - (intOf i).toNat)
  case atStart =>
    refine ⟨Below.refl _ _, 0, by omega, rfl, ?_⟩
    by_cases h0 : room = 0
    · subst h0
      exact Or.inr ⟨rfl, by show _ = _; unfold szR; rw [if_neg (by omega)]⟩
    · exact Or.inl ⟨room - 1, by simp; omega, by omega, by show _ = _; simp [ns, Tm.n.ns]; omega⟩
  case round =>
    obtain ⟨HB, j, hj, rfl, hl⟩ := hrel
    have c3 := HC3.out wr HB.out
    rcases hl with ⟨l, rfl, hll, HL⟩ | ⟨rfl, HL⟩
    · by_cases hlt : j < ks.length
      · obtain ⟨b, off, rfl, hin⟩ := HR.out wr HB.out (by intro e; subst e; simp at hlt)
        obtain ⟨c0, c1, c2, c3', h0, h1, h2, h3, ht⟩ := hin.at j hlt
        have HC := HKS.out ks[j] (List.getElem_mem hlt) wr _ l ht hll
        have hw : ns (ks.take (j + 1)) = ns (ks.take j) + ks[j].n := by
          rw [List.take_succ_eq_append_getElem hlt, ns_append]; simp [ns, Tm.n.ns]
        have HW : Hid _ := hw
        clear hin ht hw HR HC3 HKS
        by_cases hfit : ks[j].n ≤ l
        · rw [show szR ks[j].n l = ((l - ks[j].n : Nat) : Int) from if_pos hfit] at HC
          replace HC : Hid _ := HC
          go_wp2_with (go_at_call 84; refine (Calls.mono HC.out ?_); rintro e w1 ⟨rfl, hb⟩; have HB1 : Hid (Below W.heap.size W w1) := HB.out.trans (hb.mono HB.out.size); clear hb)
          go_roundw
          case rel => exact ⟨HB1.out, j + 1, by omega, by go_num, Or.inl ⟨l - ks[j].n, rfl, by omega, by show _ = _; have := HL.out; have := HW.out; omega⟩⟩
          case measure => simp [intOf]; omega
        · rw [show szR ks[j].n l = -1 from if_neg hfit] at HC
          replace HC : Hid _ := HC
          have hr : szR (1 + ns ks) room = -1 := by
            have h1 := HL.out
            have h2 := HW.out
            have h3 : ns (ks.take (j + 1)) + ns (ks.drop (j + 1)) = ns ks := by rw [← ns_append, List.take_append_drop]
            unfold szR
            rw [if_neg (by omega)]
          have HRR : Hid _ := hr
          clear hr
          go_wp2_with (go_at_call 84; refine (Calls.mono HC.out ?_); rintro e w1 ⟨rfl, hb⟩; have HB1 : Hid (Below W.heap.size W w1) := HB.out.trans (hb.mono HB.out.size); clear hb)
          go_roundw
          case rel => exact ⟨HB1.out, j + 1, by omega, by go_num, Or.inr ⟨rfl, HRR.out⟩⟩
          case measure => simp [intOf]; omega
      · have hr : szR (1 + ns ks) room = (l : Int) := by
          have h1 := HL.out
          rw [List.take_of_length_le (by omega)] at h1
          unfold szR
          rw [if_pos (by omega)]
          omega
        have HRR : Hid _ := hr
        clear hr HR HC3 HKS
        go_wp2
        go_ret
        exact ⟨by rw [HRR.out]; rfl, hb0.out.trans (HB.out.mono hb0.out.size)⟩
    · clear HR HC3 HKS
      by_cases hlt : j < ks.length
      · go_wp2
        go_ret
        exact ⟨by rw [HL.out]; rfl, hb0.out.trans (HB.out.mono hb0.out.size)⟩
      · go_wp2
        go_ret
        exact ⟨by rw [HL.out]; rfl, hb0.out.trans (HB.out.mono hb0.out.size)⟩

end Go.Proofs.YtmhmlkdoaojimapDoor

/- spec.l01In. -/
namespace Go.Proofs.YtmhmlkdoaojimapDoor
open Go.RowKit

theorem in_any (x a b : Int) (w : World) :
    Calls Tryd.prog 111 #[.int .i64 x, .int .i64 a, .int .i64 b] w fun e w' => e = .returned (.bool (decide (a ≤ x ∧ x ≤ b))) ∧ w' = w := by
  by_cases h0 : a ≤ x
  · by_cases h1 : x ≤ b
    · rw [decide_eq_true (show a ≤ x ∧ x ≤ b from ⟨h0, h1⟩)]
      go_enter Tryd.func111, Tryd.ntmps111
      go_wp2
      go_ret
      exact ⟨by simp, rfl⟩
    · rw [decide_eq_false (show ¬ (a ≤ x ∧ x ≤ b) from fun h => h1 h.2)]
      go_enter Tryd.func111, Tryd.ntmps111
      go_wp2
      go_ret
      exact ⟨by simp, rfl⟩
  · rw [decide_eq_false (show ¬ (a ≤ x ∧ x ≤ b) from fun h => h0 h.1)]
    go_enter Tryd.func111, Tryd.ntmps111
    go_wp2
    go_ret
    exact ⟨by simp, rfl⟩

end Go.Proofs.YtmhmlkdoaojimapDoor

/- spec.l03Name. -/
namespace Go.Proofs.YtmhmlkdoaojimapDoor
open Go.RowKit

theorem specName (s : ByteArray) (hs : s.size ≤ maxLen) (w : World) :
    Calls Tryd.prog 112 #[.string s] w fun e w' => e = .returned (.bool (nameOk s)) ∧ w' = w := by
  unfold maxLen at hs
  go_enter Tryd.func112, Tryd.ntmps112
  go_wp2
  go_loopw [3] (fun i wr => wr = w ∧ ∃ k : Nat, k ≤ s.size ∧ i = .int .i64 (k : Int) ∧ Hid ((s.data.toList.take k).all charOk = true)) (fun i _ => s.size - (intOf i).toNat)
  case atStart => exact ⟨rfl, 0, by omega, rfl, by show _ = _; simp⟩
  case round =>
    obtain ⟨rfl, k, hk, rfl, hp⟩ := hrel
    by_cases hlt : k < s.size
    · have hc := s[k].toNat_lt
      by_cases hb : charOk s[k] = true
      · have hp' : Hid ((s.data.toList.take (k + 1)).all charOk = true) := by show _ = _; rw [take_at s k hlt, List.all_append, hp.out]; simp [hb]
        have h4 : 33 ≤ s[k].toNat ∧ s[k].toNat ≤ 126 ∧ s[k].toNat ≠ 39 ∧ s[k].toNat ≠ 34 := by
          unfold charOk at hb; simp at hb; omega
        obtain ⟨b1, b2, b3, b4⟩ := h4
        have e3 : ((s[k].toNat : Int) == 39) = false := beq_eq_false_iff_ne.2 (by omega)
        have e4 : ((s[k].toNat : Int) == 34) = false := beq_eq_false_iff_ne.2 (by omega)
        clear hp hb
        go_wp2
        go_roundw
        case rel => exact ⟨trivial, k + 1, by omega, by go_num, hp'⟩
        case measure => simp [intOf]; omega
      · have hf : nameOk s = false := by
          unfold nameOk
          rw [Bool.and_eq_false_iff]; left
          rw [List.all_eq_false]
          exact ⟨s[k], mem_s s k hlt, hb⟩
        have HF : Hid _ := hf
        have h4 : s[k].toNat < 33 ∨ (33 ≤ s[k].toNat ∧ 126 < s[k].toNat) ∨ s[k].toNat = 39 ∨ s[k].toNat = 34 := by
          unfold charOk at hb; simp at hb; omega
        clear hp hb hf
        rcases h4 with h4 | ⟨h4, h5⟩ | h4 | h4
        · go_wp2
          go_ret
          exact ⟨by rw [HF.out]; rfl, rfl⟩
        · go_wp2
          go_ret
          exact ⟨by rw [HF.out]; rfl, rfl⟩
        · go_wp2
          go_ret
          exact ⟨by rw [HF.out]; rfl, rfl⟩
        · go_wp2
          go_ret
          exact ⟨by rw [HF.out]; rfl, rfl⟩
    · have hf : nameOk s = decide ((1 : Int) ≤ (s.size : Int) ∧ (s.size : Int) ≤ 20) := by
        have := hp.out
        rw [List.take_of_length_le (by simp; omega)] at this
        unfold nameOk
        rw [this, Bool.true_and]
        congr 1
        apply propext
        omega
      have HF : Hid _ := hf
      clear hp hf
      go_wp2_with (go_at_call 111; refine (in_any _ _ _ _).mono ?_; rintro e w1 ⟨rfl, rfl⟩)
      go_ret
      exact ⟨by rw [HF.out, Bool.decide_and]; rfl, rfl⟩

end Go.Proofs.YtmhmlkdoaojimapDoor

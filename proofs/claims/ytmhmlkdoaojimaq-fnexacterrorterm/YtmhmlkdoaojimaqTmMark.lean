/- laws.markTerm: what is marked is owned as before, and nothing else has turned. -/
import Derived.Test.YtmhmlkdoaojimaqTmMarkS
import Derived.ProofKit
namespace Go.Proofs.Ytmhmlkdoaojimaq
open Go.RowKit

/-- a term whose kids are marked -/
def Tm.markK : Tm → Nat → Tm
  | .mk k s n ks, c => .mk k s n (markL ks c)

set_option maxRecDepth 20000 in
theorem mark_term (t : Tm) (w : World) (v : Value) (F : List Nat) (c : Nat) (h : Own 24 w t v F) (hnd : F.Nodup) (hc : 0 < c) (hb : c + 3 * ns t.kids ≤ 2305843009213693952) :
    Calls Try.prog 8 #[v, .int .i64 (c : Int)] w fun e w' => e = .returned (.int .i64 ((c + 3 * ns t.kids : Nat) : Int)) ∧ Own 24 w' (t.markK c) v F ∧ Out F w w' := by
  obtain ⟨k, s, n, ks⟩ := t
  have hlt := Own.lt _ _ _ h
  have hbd : (-9223372036854775808 ≤ k ∧ k ≤ 9223372036854775807) ∧ (-9223372036854775808 ≤ n ∧ n ≤ 9223372036854775807) ∧ s.size ≤ maxLen := by
    unfold Own at h
    obtain ⟨_, _, h1, h2, h3, _⟩ := h
    exact ⟨h1, h2, h3⟩
  obtain ⟨sl, rfl, ho⟩ := own_open h
  obtain ⟨ao1, len1, cap1, rfl⟩ : ∃ ao1 len1 cap1, sl = .slice ao1 len1 cap1 := by
    rcases ho with ⟨rfl, _⟩ | ⟨g1, cp1, _, _, rfl, _⟩
    · exact ⟨_, _, _, rfl⟩
    · exact ⟨_, _, _, rfl⟩
  obtain ⟨W, hW⟩ : ∃ W, W = w.alloc (.cells #[.int .i64 k, .string s, .int .i64 n, .slice ao1 len1 cap1] 24) := ⟨_, rfl⟩
  have hbW : Below w.heap.size w W := by rw [hW]; exact (Below.refl _ _).alloc (Nat.le_refl _) _
  have HC := mark_all ks W (.slice ao1 len1 cap1) F c (ho.keep fun f hf => hbW.block f (hlt f hf)) hnd hc hb
  rw [hW] at HC
  replace HC : Hid _ := HC
  have HBD : Hid _ := hbd
  have HBW : Hid _ := hbW
  clear h ho hlt hbd hnd hbW
  go_enter Try.func8, Try.ntmps8
  go_wp2_with (go_at_call 27; refine (Calls.mono HC.out ?_); rintro e w1 ⟨rfl, ho, hou⟩; rw [← hW] at hou; have HO : Hid _ := ho; have HU : Hid _ := hou; clear ho hou)
  go_ret
  exact ⟨rfl, own_mk HO.out HBD.out.1 HBD.out.2.1 HBD.out.2.2, (Out.of_below HBW.out).trans HU.out⟩
end Go.Proofs.Ytmhmlkdoaojimaq

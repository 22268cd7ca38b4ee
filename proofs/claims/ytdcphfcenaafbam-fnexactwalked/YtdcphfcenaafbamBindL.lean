/- The laws' side of Binds: a list of terms behind a struct. -/
import Derived.Test.YtdcphfcenaafbamRows
import Derived.Test.YtdcphfcenaafbamTmMark
import Derived.Test.YtdcphfcenaafbamTmEq
import Derived.Test.YtdcphfcenaafbamTmTo
import Derived.ProofKit
namespace Go.Proofs.Ytdcphfcenaafbam
open Go.RowKit

/-- a slice of terms, wherever it lies -/
def SlIn (w : World) (ks : List Tm) (sl : Value) : Prop :=
  ∃ ao cap, sl = .slice ao ks.length cap ∧ ks.length ≤ cap ∧ cap ≤ maxLen ∧ (ks ≠ [] → ∃ b off, ao = some ⟨b, off, none⟩ ∧ TmsIn w ks b off)

theorem SlIn.keep {w w' : World} {ks : List Tm} {sl : Value} (h : SlIn w ks sl) (hb : Below w.heap.size w w') : SlIn w' ks sl := by
  obtain ⟨ao, cap, rfl, h1, h2, h3⟩ := h
  refine ⟨ao, cap, rfl, h1, h2, fun h0 => ?_⟩
  obtain ⟨b, off, e, h4⟩ := h3 h0
  exact ⟨b, off, e, TmsIn.keep hb _ _ _ h4⟩

theorem OwnS.toIn {e : TypeId} {w : World} {ks : List Tm} {sl : Value} {F : List Nat} (h : OwnS e w ks sl F) : SlIn w ks sl := by
  have h1 : Own e w (.mk 0 ⟨#[]⟩ 0 ks) (.agg #[.int .i64 0, .string ⟨#[]⟩, .int .i64 0, sl]) F := own_mk h (by omega) (by omega) (Nat.zero_le _)
  have h2 := Own.toIn _ _ _ h1
  unfold TmIn at h2
  obtain ⟨ao, cap, he, _, _, _, h3, h4, h5⟩ := h2
  obtain rfl : sl = .slice ao ks.length cap := by simpa using he
  exact ⟨ao, cap, rfl, h3, h4, h5⟩

theorem OwnS.lt {e : TypeId} {w : World} {ks : List Tm} {sl : Value} {F : List Nat} (h : OwnS e w ks sl F) : ∀ f ∈ F, f < w.heap.size :=
  Own.lt _ _ _ (own_mk (k := 0) (n := 0) (s := ⟨#[]⟩) h (by omega) (by omega) (Nat.zero_le _))

theorem ownS_shape {e : TypeId} {w : World} {ks : List Tm} {sl : Value} {F : List Nat} (h : OwnS e w ks sl F) : ∃ ao len cap, sl = .slice ao len cap := by
  rcases h with ⟨rfl, _⟩ | ⟨g, cap, cs, F', rfl, _⟩
  · exact ⟨_, _, _, rfl⟩
  · exact ⟨_, _, _, rfl⟩

set_option maxRecDepth 20000 in
theorem eq_binds (ks : List Tm) (w : World) (sa sb : Value) (ha : SlIn w ks sa) (hb : SlIn w ks sb) :
    Calls Try.prog 17 #[.agg #[sa], .agg #[sb]] w fun e w' => e = .returned (.bool true) ∧ Below w.heap.size w w' := by
  have hb1 : Below w.heap.size w ((w.alloc (.cells #[sa] 35)).alloc (.cells #[sb] 35)) :=
    ((Below.refl _ _).alloc (Nat.le_refl _) _).alloc (by simp) _
  obtain ⟨ao, ca, rfl, ha1, ha2, ha3⟩ := ha.keep hb1
  obtain ⟨bo, cb, rfl, hb4, hb2, hb3⟩ := hb.keep hb1
  have HC : Hid _ := eq_terms ks (fun t _ => eq_term t) _ ao bo ca cb (by omega) ha3 hb3
  replace hb1 : Hid _ := hb1
  clear ha3 hb3 ha hb
  go_enter Try.func17, Try.ntmps17
  go_wp2_with (go_at_call 37; refine (Calls.mono HC.out ?_); rintro e w1 ⟨rfl, hb⟩; have HB1 : Hid (Below w.heap.size w w1) := hb1.out.trans (hb.mono hb1.out.size); clear hb)
  go_ret
  exact ⟨rfl, HB1.out⟩

set_option maxRecDepth 20000 in
theorem mark_binds (ks : List Tm) (w : World) (sl : Value) (F : List Nat) (c : Nat) (h : OwnS 28 w ks sl F) (hnd : F.Nodup) (hc : 0 < c) (hb : c + 3 * ns ks ≤ 2305843009213693952) :
    Calls Try.prog 18 #[.agg #[sl], .int .i64 (c : Int)] w fun e w' => e = .returned (.int .i64 ((c + 3 * ns ks : Nat) : Int)) ∧ OwnS 28 w' (markL ks c) sl F ∧ Out F w w' := by
  have hlt := h.lt
  obtain ⟨ao1, len1, cap1, rfl⟩ := ownS_shape h
  obtain ⟨W, hW⟩ : ∃ W, W = w.alloc (.cells #[.slice ao1 len1 cap1] 35) := ⟨_, rfl⟩
  have hbW : Below w.heap.size w W := by rw [hW]; exact (Below.refl _ _).alloc (Nat.le_refl _) _
  have HC := mark_all ks W (.slice ao1 len1 cap1) F c (h.keep fun f hf => hbW.block f (hlt f hf)) hnd hc hb
  rw [hW] at HC
  replace HC : Hid _ := HC
  have HBW : Hid _ := hbW
  clear h hlt hnd hbW
  go_enter Try.func18, Try.ntmps18
  go_wp2_with (go_at_call 38; refine (Calls.mono HC.out ?_); rintro e w1 ⟨rfl, ho, hou⟩; rw [← hW] at hou; have HO : Hid _ := ho; have HU : Hid _ := hou; clear ho hou)
  go_ret
  exact ⟨rfl, HO.out, (Out.of_below HBW.out).trans HU.out⟩

end Go.Proofs.Ytdcphfcenaafbam

/- spec.VarsOf. -/
import Derived.Test.YtdcphfcenaafbalVarsS
namespace Go.Proofs.Ytdcphfcenaafbal
open Go.RowKit

set_option maxRecDepth 20000 in
theorem spec_vars (t : Tm) (w : World) (v : Value) (h : TmIn w t v) (hn : t.n ≤ 4194304) :
    Calls Try.prog 20 #[v] w fun e w' => ∃ vo, e = .returned vo ∧ NumRow w' w.heap.size (t.vars []) vo ∧ Below w.heap.size w w' := by
  obtain ⟨k, s, n, ao, len, cap, rfl⟩ := tm_shape h
  obtain ⟨W, hW⟩ : ∃ W, W = (w.alloc (.cells #[.int .i64 k, .string s, .int .i64 n, .slice ao len cap] 29)).alloc (.cells #[] 3) := ⟨_, rfl⟩
  have bW : Below w.heap.size w W := by rw [hW]; exact ((Below.refl _ _).alloc (Nat.le_refl _) _).alloc (by simp) _
  have hrow : NumRow W w.heap.size [] (.slice (some ⟨w.heap.size + 1, 0, none⟩) 0 0) := by
    refine ⟨⟨rfl, Or.inr ⟨w.heap.size + 1, 0, #[], rfl, by omega, ?_, Nat.le_refl _, Nat.zero_le _, rfl, rfl⟩⟩, by simp⟩
    rw [hW]; exact alloc_at _ _ (by simp)
  have HC := vars_spec t w W w.heap.size _ _ [] h bW (Nat.le_refl _) bW.size hrow (by simpa using hn)
  have HE : Hid (∀ w', Out (Value.ownBlock (.slice (some ⟨w.heap.size + 1, 0, none⟩) 0 0)).toList W w' → Below w.heap.size w w') := fun w' ho => bW.trans (out_below hrow ho bW.size)
  rw [hW] at HC
  replace HC : Hid _ := HC
  clear hrow bW h
  go_enter Try.func20, Try.ntmps20
  go_wp2_with (go_at_call 38; refine (Calls.mono HC.out ?_); rintro e w2 ⟨vo, rfl, hr, ho, _⟩; rw [← hW] at ho; have HR : Hid (NumRow w2 w.heap.size (t.vars []) vo) := hr; have HB : Hid (Below w.heap.size w w2) := HE.out w2 ho; clear hr ho)
  go_ret
  exact ⟨vo, rfl, HR.out, HB.out⟩
end Go.Proofs.Ytdcphfcenaafbal

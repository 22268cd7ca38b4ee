/- impl.allRight. -/
import Derived.Test.YtmhmlkdoaojimapDoorMrg4
import Derived.Test.YtmhmlkdoaojimapDoorMrg1
import Derived.Test.YtmhmlkdoaojimapDoorMrg17
import Derived.Test.YtmhmlkdoaojimapDoorMrg8
import Derived.Deep.DeepCutAuto
namespace Go.Proofs.YtmhmlkdoaojimapDoor
open Go.RowKit

set_option maxHeartbeats 8000000 in
set_option maxRecDepth 20000 in
theorem i_allRight (ks : List Cla) (w : World) (v : Value) (h : ClsIn w ks v) :
    Calls Tryd.prog 34 #[v] w fun e w' => e = .returned (.bool (ks.all okPair)) ∧ Below w.heap.size w w' := by
  obtain ⟨ao, cap, rfl, hcap, hmax, h⟩ := h
  have hlen : ks.length ≤ maxLen := by omega
  unfold maxLen at hlen
  clear hcap hmax
  obtain ⟨kb, hkb⟩ : ∃ kb, ks.all okPair = kb := ⟨_, rfl⟩
  rw [hkb]
  have HKB : Hid (kb = true ↔ ∀ c ∈ ks, okPair c = true) := by show _ ↔ _; rw [← hkb, List.all_eq_true]
  clear hkb
  go_enter Tryd.func34, Tryd.ntmps34
  go_wp2
  go_loopw [7] (fun v7 wr => ∃ (j : Nat), j ≤ ks.length ∧ v7 = .int .i64 (j : Int) ∧ Hid (Below w.heap.size w wr ∧ ∀ c ∈ ks.take j, okPair c = true)) (fun i _ => ks.length - (intOf i).toNat)
  case atStart => exact ⟨0, by omega, rfl, Below.refl _ _, by simp⟩
  case round =>
    obtain ⟨j, hj, rfl, HB⟩ := hrel
    by_cases hlt : j < ks.length
    · obtain ⟨b, off, rfl, hin⟩ := h (by intro e; subst e; simp at hlt)
      obtain ⟨k1, s1, n1, a1, l1, m1, k2, s2, n2, a2, l2, m2, h0, h1, h2, h3, h4, h5, h6, h7, h8, hf, i1, i2⟩ := (hin j hlt).keep HB.out.1
      have HTK : Hid (ks.take (j + 1) = ks.take j ++ [ks[j]]) := List.take_succ_eq_append_getElem hlt
      have HM : Hid (ks[j] ∈ ks) := List.getElem_mem hlt
      obtain ⟨U, hU⟩ : ∃ U, U = wr.alloc (.cells #[.int .i64 k1, .string s1, .int .i64 n1, .slice a1 l1 m1, .int .i64 k2, .string s2, .int .i64 n2, .slice a2 l2 m2, .string ks[j].f] 57) := ⟨_, rfl⟩
      have bU : Below wr.heap.size wr U := by rw [hU]; exact (Below.refl _ _).alloc (Nat.le_refl _) _
      have kU : U.heap[wr.heap.size]? = some (.cells #[.int .i64 k1, .string s1, .int .i64 n1, .slice a1 l1 m1, .int .i64 k2, .string s2, .int .i64 n2, .slice a2 l2 m2, .string ks[j].f] 57 (0, 0)) := by rw [hU]; exact heap_alloc_new _ _
      have HK : Hid (∀ u, Below U.heap.size U u → u.heap[wr.heap.size]? = some (.cells #[.int .i64 k1, .string s1, .int .i64 n1, .slice a1 l1 m1, .int .i64 k2, .string s2, .int .i64 n2, .slice a2 l2 m2, .string ks[j].f] 57 (0, 0))) := fun u hb => (hb.block _ (Array.getElem?_eq_some_iff.1 kU).1).trans kU
      have HOK : Hid (∀ u t v b, Below U.heap.size U u → TmIn U t v ∧ t.ok = b → Calls Tryd.prog 50 #[v] u fun e w' => e = .returned (.bool b) ∧ Below u.heap.size u w') := fun u t v b hb h => by rw [← h.2]; exact implOk t u _ (TmIn.keep hb _ _ h.1)
      have HP : Hid (okPair ks[j] = (ks[j].h.ok && ks[j].b.ok)) := rfl
      obtain ⟨p, hp⟩ : ∃ p, ks[j].h.ok = p := ⟨_, rfl⟩
      obtain ⟨q, hq⟩ : ∃ q, ks[j].b.ok = q := ⟨_, rfl⟩
      have HI1 : Hid (TmIn U ks[j].h (.agg #[.int .i64 k1, .string s1, .int .i64 n1, .slice a1 l1 m1]) ∧ ks[j].h.ok = p) := ⟨TmIn.keep bU _ _ i1, hp⟩
      have HI2 : Hid (TmIn U ks[j].b (.agg #[.int .i64 k2, .string s2, .int .i64 n2, .slice a2 l2 m2]) ∧ ks[j].b.ok = q) := ⟨TmIn.keep bU _ _ i2, hq⟩
      rw [hp, hq] at HP
      have HBU : Hid (Below w.heap.size w U) := HB.out.1.trans (bU.mono HB.out.1.size)
      have HB0 : Hid (Below U.heap.size U U) := Below.refl _ _
      clear hin i1 i2 h hf hp hq bU kU
      generalize ks[j] = kj at *
      cases p <;> cases q
      all_goals
        go_upto_region 4 with fail
        rw [← hU]
        clear hU h0 h1 h2 h3 h4 h5 h6 h7 h8
        obtain ⟨⟨x0, x1, x2, x3, x4, x5, x6, x7, x8⟩, _⟩ := blk9 (HK.out U HB0.out)
        go_wp2_with (go_at_call 50; first
          | (refine (Calls.mono (HOK.out _ _ _ _ HB0.out HI1.out) ?_); rintro e w1 ⟨rfl, hb⟩; replace HB0 : Hid (Below U.heap.size U w1) := HB0.out.trans (hb.mono HB0.out.size); clear hb; obtain ⟨⟨x0, x1, x2, x3, x4, x5, x6, x7, x8⟩, _⟩ := blk9 (HK.out w1 HB0.out))
          | (refine (Calls.mono (HOK.out _ _ _ _ HB0.out HI2.out) ?_); rintro e w1 ⟨rfl, hb⟩; replace HB0 : Hid (Below U.heap.size U w1) := HB0.out.trans (hb.mono HB0.out.size); clear hb))
        first
          | (go_ret
             have hk : kb = false := by
               cases hk : kb with
               | false => rfl
               | true => exact absurd ((HKB.out.1 hk kj HM.out).symm.trans HP.out) (by simp)
             exact ⟨by rw [hk]; rfl, HBU.out.trans (HB0.out.mono HBU.out.size)⟩)
          | skip
      go_roundw
      case rel =>
        refine ⟨j + 1, by omega, by go_num, HBU.out.trans (HB0.out.mono HBU.out.size), ?_⟩
        rw [HTK.out]
        intro c hc
        rcases List.mem_append.1 hc with h | h
        · exact HB.out.2 c h
        · obtain rfl : c = kj := by simpa using h
          exact HP.out
      case measure => simp [intOf]; omega
    · obtain rfl : j = ks.length := by omega
      go_wp2
      go_ret
      have h9 := HB.out.2
      rw [List.take_of_length_le (Nat.le_refl _)] at h9
      exact ⟨by rw [HKB.out.2 h9]; rfl, HB.out.1⟩
end Go.Proofs.YtmhmlkdoaojimapDoor

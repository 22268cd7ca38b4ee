/- impl.Known. -/
import Derived.Test.YtmhmlkdoaojimapDoorShlI
import Derived.Test.YtmhmlkdoaojimapDoorHasI
namespace Go.Proofs.YtmhmlkdoaojimapDoor
open Go.RowKit

theorem sh_told {w0 w : World} {B m : Nat} {ks : List Cla} {D : Nat → Prop} (h : ShAt 57 46 w0 w B m ks D) (q : ByteArray) :
    ∃ (v : Value) (ok : Bool), (Instr.lookup 61 (.map (some m)) (.string q) true).run Tryd.prog w = .ok (.tuple #[v, .bool ok]) w ∧ (ok = true ↔ ofPred q ks ≠ []) := by
  obtain ⟨ms, h1, h2, h3, h4, h5⟩ := h
  refine ⟨_, _, vmap_look w m ms h1 q, ?_⟩
  cases hg : vget q ms with
  | none => simp [h4 q hg]
  | some v => simpa using (h5 _ (vget_mem hg)).2.2

set_option maxHeartbeats 8000000 in
set_option maxRecDepth 20000 in
theorem i_known (cs : List Cla) (xs : List ByteArray) (q : ByteArray) (w : World) (c0 c1 : Value) (F : List Nat) (h : OwnClS 57 46 w cs c0 F) (hnd : F.Nodup) (hx : SsIn w xs c1) (hl : cs.length ≤ 1100000) (hwt : ∀ c ∈ cs, c.h.wt ≤ 1048576) (htab : Lib.TabIs Tryd.prog w "internal/strconv.uint64pow10" .u64 Lib.pow10Tab) (kb : Bool) (hkb : kb = true ↔ (q ∈ xs ∨ ofPred q cs ≠ [])) :
    Calls Tryd.prog 19 #[.agg #[c0, c1], .string q] w fun e w' => e = .returned (.bool kb) ∧ Below w.heap.size w w' := by
  have HKB : Hid (kb = true ↔ (q ∈ xs ∨ ofPred q cs ≠ [])) := hkb
  obtain ⟨W, hW⟩ : ∃ W, W = w.alloc (.cells #[c0, c1] 30) := ⟨_, rfl⟩
  have bW : Below w.heap.size w W := by rw [hW]; exact (Below.refl _ _).alloc (Nat.le_refl _) _
  have k1 : W.heap[w.heap.size]? = some (.cells #[c0, c1] 30 (0, 0)) := by rw [hW]; exact heap_alloc_new _ _
  have HC : Hid _ := shelves_of cs W c0 F hl hwt (OwnClS.keep h fun f hf => bW.block f (h.lt f hf)) hnd (pow_keep htab bW)
  have HCT : Hid (∀ u, Below W.heap.size W u → Calls Tryd.prog 45 #[c1, .string q] u fun e w' => ∃ b : Bool, e = .returned (.bool b) ∧ (b = true ↔ q ∈ xs) ∧ w' = u) := fun u hb => contains_strs xs u c1 q ((hx.keep bW).keep hb)
  obtain ⟨a2, p2, rfl, -⟩ := hx
  obtain ⟨a1, p1, rfl⟩ := ownClS_shape h
  have HBW : Hid (Below w.heap.size w W) := bW
  have HK : Hid (∀ u, Below W.heap.size W u → u.heap[w.heap.size]? = some (.cells #[.slice a1 cs.length p1, .slice a2 xs.length p2] 30 (0, 0))) := fun u hb => (hb.block _ (Array.getElem?_eq_some_iff.1 k1).1).trans k1
  have y0 := blk_cell (i := 0) k1 (by simp)
  clear h hnd hl hwt htab bW k1 hkb
  go_enter Tryd.func19, Tryd.ntmps19
  go_upto_region 1 with fail
  rw [← hW]
  clear hW
  go_upto_region 2 with (go_at_call 32; refine (Calls.mono HC.out ?_); rintro e w1 ⟨m, rfl, o1, o2, o3⟩; have HO : Hid (Below W.heap.size W w1) := o3; obtain ⟨v, ok, HLK, hok⟩ := sh_told o2 q; have HOK : Hid (ok = true ↔ ofPred q cs ≠ []) := hok; clear o1 o2 o3 hok)
  clear y0 HLK
  have y1 := blk_cell (i := 1) (HK.out w1 HO.out) (by simp)
  have HC2 : Hid _ := HCT.out w1 HO.out
  cases ok
  · go_wp2_with (go_at_call 45; refine (Calls.mono HC2.out ?_); rintro e w2 ⟨b, rfl, hb, rfl⟩; have HB : Hid (b = true ↔ q ∈ xs) := hb; clear hb)
    go_ret
    refine ⟨?_, HBW.out.trans (HO.out.mono HBW.out.size)⟩
    have hk : kb = b := by
      rw [Bool.eq_iff_iff, HKB.out, HB.out]
      constructor
      · rintro (h | h)
        · exact h
        · exact absurd (HOK.out.2 h) (by simp)
      · exact Or.inl
    rw [hk]
    first | rfl | simp
  · go_wp2
    go_ret
    refine ⟨?_, HBW.out.trans (HO.out.mono HBW.out.size)⟩
    rw [HKB.out.2 (Or.inr (HOK.out.1 (by first | rfl | trivial)))]
    first | rfl | simp
end Go.Proofs.YtmhmlkdoaojimapDoor

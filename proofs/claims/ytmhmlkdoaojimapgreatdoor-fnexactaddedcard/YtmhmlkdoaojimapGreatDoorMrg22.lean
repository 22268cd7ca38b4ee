/- Four texts in one. -/
import Derived.WalkKit
import Derived.Test.YtmhmlkdoaojimapGreatDoorMrg6
import Derived.Test.YtmhmlkdoaojimapGreatDoorMrg17
import Derived.Test.YtmhmlkdoaojimapGreatDoorMrg21
import Derived.Test.YtmhmlkdoaojimapGreatDoorMrg15
import Derived.Deep.RegionWith
import Derived.Test.YtmhmlkdoaojimapGreatDoorMrg16
import Derived.ArgAppend
import Derived.Laws.OwnMore
import Derived.Deep.DeepCutAuto
/- A result of a row of cells and one value beside it. Of no program. -/
namespace Go.Proofs.YtmhmlkdoaojimapGreatDoor
open Go.RowKit
theorem results_ctx {P : Program} {fn : Func} {p u : Tmp} {ty : TypeId} (h : fn.results = #[.cell p ty, .tmp u]) (tmps : Array Value) (w : World) (g : Nat) (t : TypeId) (cs : Array Value) (fr : Nat × Nat) (d : TypeDesc)
    (hp : tmps.getD p undef = .pointer (some ⟨g, 0, none⟩)) (hg : w.heap[g]? = some (.cells cs t fr))
    (hu : P.underlying ty = some d) (hd : (match d with | .struct _ | .array _ _ => true | _ => false) = true) (hi : (P.info? ty).map (·.size) = some cs.size) :
    (results fn tmps).run P w = .ok (.tuple #[.agg cs, tmps.getD u undef]) w := by
  have hp' : tmps[p]?.getD undef = .pointer (some ⟨g, 0, none⟩) := by simpa using hp
  simp [results, h, hp', asAddr, run_loadVar_row w g t ty cs fr d hg hu hd hi]
end Go.Proofs.YtmhmlkdoaojimapGreatDoor

/- impl.Added. -/
namespace Go.Proofs.YtmhmlkdoaojimapGreatDoor
open Go.RowKit

theorem owns_down {w : World} {B B' e size n : Nat} {v : Value} {xs : List Value} (h : w.ownsRow B e size v n xs) (hB : B' ≤ B) : w.ownsRow B' e size v n xs := by
  rcases h.2 with ⟨rfl, hl⟩ | ⟨g, cap, cur, rfl, h1, hh⟩
  · exact ⟨h.1, Or.inl ⟨rfl, hl⟩⟩
  · exact ⟨h.1, Or.inr ⟨g, cap, cur, rfl, by omega, hh⟩⟩

/-- a row of clauses and one more -/
theorem own_more {w : World} {B : Nat} {cs : List Cla} {c : Cla} {v : Value} {F F' Fc : List Nat} {news cc : List Value} (o1 : OwnCs 41 w cs news F') (n1 : F'.Nodup) (s1 : ∀ f ∈ F', f ∈ F) (hc : OwnC 41 w c cc Fc) (hcn : Fc.Nodup) (hd : ∀ f ∈ Fc, f ∉ F) (hrow : w.ownsRow B 43 9 v (cs.length + 1) (news ++ cc)) (hB : ∀ f, f ∈ F ∨ f ∈ Fc → f < B) :
    ∃ F2, OwnClS 43 41 w (cs ++ [c]) v F2 ∧ F2.Nodup := by
  have o2 := OwnCs.snoc hc _ _ _ o1
  rcases hrow.2 with ⟨_, hl⟩ | ⟨g, cap, cur, rfl, hb, hh⟩
  · omega
  · have hl : (cs ++ [c]).length = cs.length + 1 := by simp
    have hrow' : w.ownsRow 0 43 9 (.slice (some ⟨g, 0, none⟩) (cs.length + 1) cap) (cs ++ [c]).length (news ++ cc) := by
      rw [hl]
      exact ⟨hrow.1, Or.inr ⟨g, cap, cur, rfl, Nat.zero_le _, hh⟩⟩
    refine ⟨g :: (F' ++ Fc), Or.inr ⟨g, cap, news ++ cc, F' ++ Fc, by rw [hl], hrow', rfl, o2⟩, List.nodup_cons.2 ⟨fun hg => ?_, List.nodup_append.2 ⟨n1, hcn, fun a ha b hb e => hd b hb (by rw [← e]; exact s1 a ha)⟩⟩⟩
    rcases List.mem_append.1 hg with h9 | h9
    · have := hB g (Or.inl (s1 g h9)); omega
    · have := hB g (Or.inr h9); omega

theorem OwnCs.one {e : TypeId} {w : World} : ∀ {ks : List Cla} {cs : List Value} {F : List Nat}, OwnCs e w ks cs F → ∀ z ∈ cs, z.oneCell' = true
  | [], _, _, h, z, hz => by obtain ⟨rfl, _⟩ := h; cases hz
  | c :: ks, cs, F, h, z, hz => by
    obtain ⟨c1, c2, F1, F2, rfl, rfl, h1, h2⟩ := h
    rcases List.mem_append.1 hz with hz | hz
    · obtain ⟨k1, s1, n1, a1, l1, m1, k2, s2, n2, a2, l2, m2, G1, G2, rfl, _⟩ := h1
      simp at hz
      rcases hz with rfl | rfl | rfl | rfl | rfl | rfl | rfl | rfl | rfl <;> rfl
    · exact OwnCs.one h2 z hz
/-- the cells of a row of clauses of its own -/
theorem own_news {w : World} {cs : List Cla} {ao : Option Addr} {n cap : Nat} {F : List Nat} (h : OwnClS 43 41 w cs (.slice ao n cap) F) (hnd : F.Nodup) (hn : n = cs.length) :
    ∃ news F', news.length = n * 9 ∧ OwnCs 41 w cs news F' ∧ F'.Nodup ∧ (∀ f ∈ F', f ∈ F) ∧ (n ≠ 0 → ∃ b off, ao = some ⟨b, off, none⟩ ∧ ∀ j z, news[j]? = some z → w.cell? ⟨b, off + j, none⟩ = some z) ∧ (∀ z ∈ news, z.oneCell' = true) := by
  rcases h with ⟨e, rfl, rfl⟩ | ⟨g, c, xs, F', e, h5, rfl, h6⟩
  · subst hn
    exact ⟨[], [], rfl, ⟨rfl, rfl⟩, by simp, by simp, fun h => absurd rfl h, by simp⟩
  · cases e
    refine ⟨xs, F', OwnCs.len _ _ _ h6, h6, (List.nodup_cons.1 hnd).2, fun f hf => List.mem_cons_of_mem _ hf, fun _ => ⟨g, 0, rfl, fun j z hj => ?_⟩, OwnCs.one h6⟩
    rcases h5.2 with ⟨e, _⟩ | ⟨g', c', cur, e, _, hh, h1, h2, h3, h4⟩
    · cases e
    · cases e
      rw [Nat.zero_add]
      refine cell_of_row hh ?_
      rw [← h4, List.getElem?_take] at hj
      split at hj
      · simpa using hj
      · cases hj

/-- the clauses and names that come back with whether it could be -/
def DbOutB (w : World) (cs : List Cla) (xs : List ByteArray) (kb : Bool) (e : Ending) (w' : World) : Prop :=
  ∃ sl F k g, e = .returned (.tuple #[.agg #[sl, .slice (some ⟨g, 0, none⟩) xs.length k], .bool kb]) ∧ OwnClS 43 41 w' cs sl F ∧ w'.ownsRow 0 9 1 (.slice (some ⟨g, 0, none⟩) xs.length k) xs.length (xs.map Value.string) ∧
      (∀ f ∈ F, w.heap.size ≤ f) ∧ F.Nodup ∧ w.heap.size ≤ g ∧ g ∉ F ∧ Below w.heap.size w w'

set_option maxHeartbeats 8000000 in
set_option maxRecDepth 20000 in
theorem i_added (cs : List Cla) (xs : List ByteArray) (c : Cla) (w : World) (c0 c1 : Value) (F Fc : List Nat) (k1 t1 n1 a1 l1 m1 k2 t2 n2 a2 l2 m2) (h : OwnClS 43 41 w cs c0 F) (hnd : F.Nodup) (hx : SsIn w xs c1)
    (hc : OwnC 41 w c [.int .i64 k1, .string t1, .int .i64 n1, .slice a1 l1 m1, .int .i64 k2, .string t2, .int .i64 n2, .slice a2 l2 m2, .string c.f] Fc) (hcn : Fc.Nodup) (hd : ∀ f ∈ Fc, f ∉ F) (hw : cs.length + claWts cs + c.wt ≤ 1048576) (hxw : xs.length + strWts xs ≤ 1048576) (htab : Lib.TabIs Tryz.prog w "internal/strconv.uint64pow10" .u64 Lib.pow10Tab)
    (kb : Bool) (hkb : kb = true ↔ ((∀ x ∈ cs ++ [c], okCl x = true) ∧ (cs ++ [c]).length ≤ 120 ∧ xs.length ≤ 40)) :
    Calls Tryz.prog 9 #[.agg #[c0, c1], .agg #[.int .i64 k1, .string t1, .int .i64 n1, .slice a1 l1 m1, .int .i64 k2, .string t2, .int .i64 n2, .slice a2 l2 m2, .string c.f]] w (DbOutB w (if kb then cs ++ [c] else cs) xs kb) := by
  obtain ⟨W, hW⟩ : ∃ W, W = ((w.alloc (.cells #[c0, c1] 35)).alloc (.cells #[.int .i64 k1, .string t1, .int .i64 n1, .slice a1 l1 m1, .int .i64 k2, .string t2, .int .i64 n2, .slice a2 l2 m2, .string c.f] 43)).alloc (.cells #[.slice none 0 0, .slice none 0 0] 35) := ⟨_, rfl⟩
  have bW : Below w.heap.size w W := by rw [hW]; exact (((Below.refl _ _).alloc (Nat.le_refl _) _).alloc (by simp) _).alloc (by simp; omega) _
  have lW : W.heap.size = w.heap.size + 3 := by rw [hW]; simp
  have q1 : W.heap[w.heap.size]? = some (.cells #[c0, c1] 35 (0, 0)) := by rw [hW]; exact (alloc_old _ _ (by simp; omega)).trans ((alloc_old _ _ (by simp)).trans (alloc_at _ _ rfl))
  have q2 : W.heap[w.heap.size + 1]? = some (.cells #[.int .i64 k1, .string t1, .int .i64 n1, .slice a1 l1 m1, .int .i64 k2, .string t2, .int .i64 n2, .slice a2 l2 m2, .string c.f] 43 (0, 0)) := by rw [hW]; exact (alloc_old _ _ (by simp)).trans (alloc_at _ _ (by simp))
  have q3 : W.heap[w.heap.size + 2]? = some (.cells #[.slice none 0 0, .slice none 0 0] 35 (0, 0)) := by rw [hW]; exact alloc_at _ _ (by simp)
  have hxs := hx
  obtain ⟨d2, e2, rfl, -⟩ := hx
  obtain ⟨d1, e1, rfl⟩ := ownClS_shape h
  obtain ⟨news, F', v1, v2, v3, v4, v5, v6⟩ := own_news h hnd rfl
  obtain ⟨cc, hcc⟩ : ∃ cc, cc = [Value.int .i64 k1, .string t1, .int .i64 n1, .slice a1 l1 m1, .int .i64 k2, .string t2, .int .i64 n2, .slice a2 l2 m2, .string c.f] := ⟨_, rfl⟩
  rw [← hcc] at hc
  have HSRC : Hid (OwnClS 43 41 w cs (.slice d1 cs.length e1) F ∧ F.Nodup ∧ SsIn w xs (.slice d2 xs.length e2) ∧ OwnC 41 w c cc Fc ∧ Fc.Nodup ∧ (∀ f ∈ Fc, f ∉ F) ∧ (∀ f, f ∈ F ∨ f ∈ Fc → f < w.heap.size)) := ⟨h, hnd, hxs, hc, hcn, hd, fun f hf => hf.elim (h.lt f) (hc.lt f)⟩
  have HNW : Hid (news.length = cs.length * 9 ∧ OwnCs 41 w cs news F' ∧ F'.Nodup ∧ (∀ f ∈ F', f ∈ F) ∧ (cs.length ≠ 0 → ∃ b off, d1 = some ⟨b, off, none⟩ ∧ ∀ j z, news[j]? = some z → w.cell? ⟨b, off + j, none⟩ = some z) ∧ (∀ z ∈ news, z.oneCell' = true)) := ⟨v1, v2, v3, v4, v5, v6⟩
  have HWT : Hid (cs.length + claWts cs + c.wt ≤ 1048576 ∧ xs.length + strWts xs ≤ 1048576) := ⟨hw, hxw⟩
  have HTB : Hid (∀ u, Below w.heap.size w u → Lib.TabIs Tryz.prog u "internal/strconv.uint64pow10" .u64 Lib.pow10Tab) := fun u hb => pow_keep htab hb
  have HKB : Hid (kb = true ↔ ((∀ x ∈ cs ++ [c], okCl x = true) ∧ (cs ++ [c]).length ≤ 120 ∧ xs.length ≤ 40)) := hkb
  have HBW : Hid (Below w.heap.size w W) := bW
  obtain ⟨p, hp⟩ : ∃ p, p = w.heap.size := ⟨_, rfl⟩
  rw [← hp] at q1 q2 q3 lW
  have HQ : Hid (W.heap[p]? = _ ∧ W.heap[p + 1]? = _ ∧ W.heap[p + 2]? = _) := ⟨q1, q2, q3⟩
  have HPP : Hid (p = w.heap.size ∧ W.heap.size = p + 3) := ⟨hp, lW⟩
  have HCC : Hid (cc = _) := hcc
  clear h hnd hxs hc hcn hd hw hxw htab hkb bW q1 q2 q3 lW v1 v2 v3 v4 v5 v6 hcc
  go_enter Tryz.func9, Tryz.ntmps9
  go_upto_region 1 with fail
  rw [← hW, ← hp]
  clear hW hp
  refine wp_region_facts 10 (fun i v _ u => match i with
    | 0 => v = .pointer (some ⟨p, 0, none⟩)
    | 1 => v = .slice d1 cs.length e1
    | 2 => v = .agg #[.int .i64 k1, .string t1, .int .i64 n1, .slice a1 l1 m1, .int .i64 k2, .string t2, .int .i64 n2, .slice a2 l2 m2, .string c.f]
    | 3 => ∃ b, v = .slice (some ⟨b, 0, none⟩) 1 1 ∧ u.heap[b]? = some (.cells cc.toArray 43 (0, 0))
    | 4 => ∃ gl b, v = .slice (some ⟨gl, 0, none⟩) 2 2 ∧ u.heap[gl]? = some (.cells #[.slice d1 cs.length e1, .slice (some ⟨b, 0, none⟩) 1 1] 33 (0, 0)) ∧ u.heap[b]? = some (.cells cc.toArray 43 (0, 0))
    | 5 => u.ownsRow p 43 9 v (cs.length + 1) (news ++ cc)
    | 6 => v = .pointer (some ⟨p, 1, none⟩)
    | 7 => v = .slice d2 xs.length e2
    | 8 => ∃ g5 cp5, v = .agg #[.slice (some ⟨g5, 0, none⟩) (cs.length + 1) cp5, .slice d2 xs.length e2] ∧ u.ownsRow p 43 9 (.slice (some ⟨g5, 0, none⟩) (cs.length + 1) cp5) (cs.length + 1) (news ++ cc)
    | _ => ∃ q, v = .pointer (some ⟨q, 0, none⟩) ∧ u.heap[q]? = some (.cells #[.slice none 0 0, .slice none 0 0] 35 (0, 0)) ∧ p + 3 ≤ q) (by kernel_rfl) (by kernel_rfl) 23 rfl (by kernel_rfl) ?_ ?_ ?_
  · intro i v S u u' hi h hb
    match i, hi, h with
    | 0, _, h => exact h
    | 1, _, h => exact h
    | 2, _, h => exact h
    | 3, _, ⟨b, h1, h2⟩ => exact ⟨b, h1, (hb.block b (Array.getElem?_eq_some_iff.1 h2).1).trans h2⟩
    | 4, _, ⟨gl, b, h1, h2, h3⟩ => exact ⟨gl, b, h1, (hb.block gl (Array.getElem?_eq_some_iff.1 h2).1).trans h2, (hb.block b (Array.getElem?_eq_some_iff.1 h3).1).trans h3⟩
    | 5, _, h => exact row_keepB h (fun b e => hb.block b (h.lt b e).2)
    | 6, _, h => exact h
    | 7, _, h => exact h
    | 8, _, ⟨g5, cp5, h1, h2⟩ => exact ⟨g5, cp5, h1, row_keepB h2 (fun b e => hb.block b (h2.lt b e).2)⟩
    | 9, _, ⟨q, h1, h2, h3⟩ => exact ⟨q, h1, (hb.block q (Array.getElem?_eq_some_iff.1 h2).1).trans h2, h3⟩
  · intro i o hi ho a u hb hfr hdep
    have u2 : a.tmps.getD 2 undef = .pointer (some ⟨p, 0, none⟩) := hfr 2 (by decide)
    have u3 : a.tmps.getD 3 undef = .pointer (some ⟨p + 1, 0, none⟩) := hfr 3 (by decide)
    have hq := HQ.out
    have hqu := (hb.block p (Array.getElem?_eq_some_iff.1 hq.1).1).trans hq.1
    have hqc := (hb.block (p + 1) (Array.getElem?_eq_some_iff.1 hq.2.1).1).trans hq.2.1
    have hbw : Below w.heap.size w u := HBW.out.trans (hb.mono HBW.out.size)
    match i, hi with
    | 0, _ =>
      obtain rfl : _ = o := by simpa using ho
      refine fact_value (w' := u) (v := .pointer (some ⟨p, 0, none⟩)) ?_ (Below.refl _ _) ⟨[], rfl, by simp⟩
      simp only [execOp, Act.eval, u2]
      go_simp
    | 1, _ =>
      obtain rfl : _ = o := by simpa using ho
      obtain ⟨_, h1⟩ : ∃ _ : List Nat, a.tmps.getD 7 undef = .pointer (some ⟨p, 0, none⟩) := hdep 0 (by kernel_rfl)
      have x0 := blk_cell (i := 0) hqu (by simp)
      refine fact_value (w' := u) (v := .slice d1 cs.length e1) ?_ (Below.refl _ _) ⟨[], rfl, by simp⟩
      clear hqu hqc hq
      simp only [execOp, Act.eval, h1]
      go_simp
    | 2, _ =>
      obtain rfl : _ = o := by simpa using ho
      obtain ⟨⟨x0, x1, x2, x3, x4, x5, x6, x7, x8⟩, _⟩ := blk9 hqc
      refine fact_value (w' := u) (v := .agg #[.int .i64 k1, .string t1, .int .i64 n1, .slice a1 l1 m1, .int .i64 k2, .string t2, .int .i64 n2, .slice a2 l2 m2, .string c.f]) ?_ (Below.refl _ _) ⟨[], rfl, by simp⟩
      clear hqu hqc hq
      simp only [execOp, Act.eval, u3]
      go_simp
    | 3, _ =>
      obtain rfl : _ = o := by simpa using ho
      obtain ⟨_, h2⟩ : ∃ _ : List Nat, a.tmps.getD 9 undef = .agg #[.int .i64 k1, .string t1, .int .i64 n1, .slice a1 l1 m1, .int .i64 k2, .string t2, .int .i64 n2, .slice a2 l2 m2, .string c.f] := hdep 2 (by kernel_rfl)
      have e9 : (#[((0 : Nat), Operand.tmp 9)].map fun x => (x.1, a.eval x.2)) = #[(0, .agg #[.int .i64 k1, .string t1, .int .i64 n1, .slice a1 l1 m1, .int .i64 k2, .string t2, .int .i64 n2, .slice a2 l2 m2, .string c.f])] := by
        simp [Act.eval]
        simpa using h2
      refine fact_value (w' := u.alloc (.cells cc.toArray 43)) (v := .slice (some ⟨u.heap.size, 0, none⟩) 1 1) ?_ ((Below.refl _ _).alloc (Nat.le_refl _) _) ⟨[], ⟨u.heap.size, rfl, heap_alloc_new _ _⟩, by simp⟩
      clear hqu hqc hq
      rw [HCC.out]
      simp only [execOp, e9]
      go_simp
    | 4, _ =>
      obtain rfl : _ = o := by simpa using ho
      obtain ⟨_, h1⟩ : ∃ _ : List Nat, a.tmps.getD 8 undef = .slice d1 cs.length e1 := hdep 1 (by kernel_rfl)
      obtain ⟨_, b, h3, kb3⟩ : ∃ _ : List Nat, ∃ b, a.tmps.getD 10 undef = .slice (some ⟨b, 0, none⟩) 1 1 ∧ u.heap[b]? = some (.cells cc.toArray 43 (0, 0)) := hdep 3 (by kernel_rfl)
      have e9 : (#[((0 : Nat), Operand.tmp 8), (1, Operand.tmp 10)].map fun x => (x.1, a.eval x.2)) = #[(0, .slice d1 cs.length e1), (1, .slice (some ⟨b, 0, none⟩) 1 1)] := by
        simp [Act.eval]
        exact ⟨by simpa using h1, by simpa using h3⟩
      have bA : Below u.heap.size u (u.alloc (.cells #[.slice d1 cs.length e1, .slice (some ⟨b, 0, none⟩) 1 1] 33)) := (Below.refl _ _).alloc (Nat.le_refl _) _
      refine fact_value (w' := u.alloc (.cells #[.slice d1 cs.length e1, .slice (some ⟨b, 0, none⟩) 1 1] 33)) (v := .slice (some ⟨u.heap.size, 0, none⟩) 2 2) ?_ bA ⟨[], ⟨u.heap.size, b, rfl, heap_alloc_new _ _, (bA.block b (Array.getElem?_eq_some_iff.1 kb3).1).trans kb3⟩, by simp⟩
      clear hqu hqc hq kb3 bA
      simp only [execOp, e9]
      go_simp
    | 5, _ =>
      obtain rfl : _ = o := by simpa using ho
      obtain ⟨_, gl, b, h4, kgl, kb3⟩ : ∃ _ : List Nat, ∃ gl b, a.tmps.getD 11 undef = .slice (some ⟨gl, 0, none⟩) 2 2 ∧ u.heap[gl]? = some (.cells #[.slice d1 cs.length e1, .slice (some ⟨b, 0, none⟩) 1 1] 33 (0, 0)) ∧ u.heap[b]? = some (.cells cc.toArray 43 (0, 0)) := hdep 4 (by kernel_rfl)
      obtain ⟨v1, v2, v3, v4, v5, v6⟩ := HNW.out
      have hcn := HCC.out
      refine fact_call rfl Tryz.func23 (by kernel_rfl) (by kernel_rfl) (args := #[.slice (some ⟨gl, 0, none⟩) 2 2]) (by simp [Act.eval]; simpa using h4) ?_
      refine Calls.mono (i_concat cs.length (by have := HWT.out.1; omega) u d1 e1 news v1 (fun hne => by
        obtain ⟨b, off, e, hc9⟩ := v5 hne
        exact ⟨b, off, e, fun j z hj => cell_keep (hc9 j z hj) hbw⟩) v6 b cc (by rw [hcn]; rfl) (fun j z hj => by
        rw [Nat.zero_add]
        exact cell_of_row kb3 (by simpa using hj)) (fun z hz => by
        rw [hcn] at hz
        simp at hz
        rcases hz with rfl | rfl | rfl | rfl | rfl | rfl | rfl | rfl | rfl <;> rfl) gl kgl) ?_
      rintro e w4 ⟨v, rfl, o1, hb4⟩
      exact ⟨_, rfl, hb4, [], owns_down o1 (by have := HPP.out; have := hb.size; omega), by simp⟩
    | 6, _ =>
      obtain rfl : _ = o := by simpa using ho
      refine fact_value (w' := u) (v := .pointer (some ⟨p, 1, none⟩)) ?_ (Below.refl _ _) ⟨[], rfl, by simp⟩
      simp only [execOp, Act.eval, u2]
      go_simp
    | 7, _ =>
      obtain rfl : _ = o := by simpa using ho
      obtain ⟨_, h1⟩ : ∃ _ : List Nat, a.tmps.getD 13 undef = .pointer (some ⟨p, 1, none⟩) := hdep 6 (by kernel_rfl)
      have x1 := blk_cell (i := 1) hqu (by simp)
      refine fact_value (w' := u) (v := .slice d2 xs.length e2) ?_ (Below.refl _ _) ⟨[], rfl, by simp⟩
      clear hqu hqc hq
      simp only [execOp, Act.eval, h1]
      go_simp
    | 8, _ =>
      obtain rfl : _ = o := by simpa using ho
      obtain ⟨_, h5⟩ : ∃ _ : List Nat, u.ownsRow p 43 9 (a.tmps.getD 12 undef) (cs.length + 1) (news ++ cc) := hdep 5 (by kernel_rfl)
      obtain ⟨_, h7⟩ : ∃ _ : List Nat, a.tmps.getD 14 undef = .slice d2 xs.length e2 := hdep 7 (by kernel_rfl)
      obtain ⟨g5, cp5, e5⟩ : ∃ g5 cp5, a.tmps.getD 12 undef = .slice (some ⟨g5, 0, none⟩) (cs.length + 1) cp5 := by
        rcases h5.2 with ⟨_, h⟩ | ⟨g, cap, cur, e, h9, _⟩
        · omega
        · exact ⟨g, cap, e⟩
      rw [e5] at h5
      have e9 : (#[((0 : Nat), Operand.tmp 12), (1, Operand.tmp 14)].map fun x => (x.1, a.eval x.2)) = #[(0, .slice (some ⟨g5, 0, none⟩) (cs.length + 1) cp5), (1, .slice d2 xs.length e2)] := by
        simp [Act.eval]
        exact ⟨by simpa using e5, by simpa using h7⟩
      refine fact_value (w' := u) (v := .agg #[.slice (some ⟨g5, 0, none⟩) (cs.length + 1) cp5, .slice d2 xs.length e2]) ?_ (Below.refl _ _) ⟨[], ⟨g5, cp5, rfl, h5⟩, by simp⟩
      clear hqu hqc hq h5
      simp only [execOp, e9]
      go_simp
    | 9, _ =>
      obtain rfl : _ = o := by simpa using ho
      refine fact_value (w' := u.alloc (.cells #[.slice none 0 0, .slice none 0 0] 35)) (v := .pointer (some ⟨u.heap.size, 0, none⟩)) ?_ ((Below.refl _ _).alloc (Nat.le_refl _) _) ⟨[], ⟨u.heap.size, rfl, heap_alloc_new _ _, by have := HPP.out; have := hb.size; omega⟩, by simp⟩
      clear hqu hqc hq
      simp only [execOp]
      go_simp
  intro vals S u hb hf _
  obtain ⟨g5, cp5, e8, r5⟩ := (hf 8 (by omega)).1
  obtain ⟨q, e9, kq, hq3⟩ := (hf 9 (by omega)).1
  simp only [putN, List.getElem?_toArray, List.getElem?_cons_zero, List.getElem?_cons_succ, Option.bind_some, List.drop_succ_cons, List.drop_zero, e8, e9]
  generalize vals 0 = m0
  generalize vals 1 = m1'
  generalize vals 2 = m2'
  generalize vals 3 = m3
  generalize vals 4 = m4
  generalize vals 5 = m5
  generalize vals 6 = m6
  generalize vals 7 = m7
  simp only [Act.put, List.setIfInBounds_toArray, List.set_cons_succ, List.set_cons_zero]
  obtain ⟨V, hV⟩ : ∃ V, V = (u.setCell ⟨q, 0, none⟩ (.slice (some ⟨g5, 0, none⟩) (cs.length + 1) cp5)).setCell ⟨q, 1, none⟩ (.slice d2 xs.length e2) := ⟨_, rfl⟩
  have hpp := HPP.out
  have hgq : g5 ≠ q := fun e => by
    rcases r5.2 with ⟨h, _⟩ | ⟨g9, cap9, cur9, e9', _, hh, _⟩
    · cases h
    · cases e9'
      rw [e, kq] at hh
      cases hh
  have hbV : Below (p + 3) u V := by rw [hV]; exact below_set (below_set (Below.refl _ _) hq3 _) hq3 _
  have HBV : Hid (Below (p + 3) W V) := (hb.mono (by omega)).trans (hbV.mono (by omega))
  have hkV : V.heap[q]? = some (.cells #[.slice (some ⟨g5, 0, none⟩) (cs.length + 1) cp5, .slice d2 xs.length e2] 35 (0, 0)) := by rw [hV]; exact db_two kq
  have hrV : V.ownsRow p 43 9 (.slice (some ⟨g5, 0, none⟩) (cs.length + 1) cp5) (cs.length + 1) (news ++ cc) := row_keepB r5 fun b e => by
    obtain rfl : g5 = b := by simpa [Value.ownBlock] using e
    rw [hV, blk_other _ hgq, blk_other _ hgq]
  have hbw : Below w.heap.size w V := HBW.out.trans (HBV.out.mono (by omega))
  obtain ⟨s1, s2, s3, s4, s5, s6, s7⟩ := HSRC.out
  obtain ⟨v1, v2, v3, v4, v5, v6⟩ := HNW.out
  obtain ⟨F2, ow2, nd2⟩ := own_more (w := V) (F := F) (OwnCs.keep _ _ _ v2 fun f hf => hbw.block f (s7 f (Or.inl (v4 f hf)))) v3 v4 (OwnC.keep s4 fun f hf => hbw.block f (s7 f (Or.inr hf))) s5 s6 hrV (fun f hf => by have := s7 f hf; omega)
  have HOW : Hid (OwnClS 43 41 V (cs ++ [c]) (.slice (some ⟨g5, 0, none⟩) (cs.length + 1) cp5) F2 ∧ F2.Nodup ∧ SsIn V xs (.slice d2 xs.length e2) ∧ OwnClS 43 41 V cs (.slice d1 cs.length e1) F) := ⟨ow2, nd2, s3.keep hbw, s1.keep fun f hf => hbw.block f (s7 f (Or.inl hf))⟩
  have hwc : ∀ x ∈ cs ++ [c], x.h.wt ≤ 1048576 ∧ x.wt ≤ 1048576 := fun x hx => by
    have hw9 := HWT.out.1
    have e : x.wt = x.h.wt + x.b.wt + x.f.size := rfl
    rcases List.mem_append.1 hx with h | h
    · have := claWt_le h
      exact ⟨by omega, by omega⟩
    · obtain rfl : x = c := by simpa using h
      exact ⟨by omega, by omega⟩
  have HDB : Hid _ := i_dbOk (cs ++ [c]) xs V _ _ F2 ow2 nd2 (s3.keep hbw) (by have := HWT.out.1; simp; omega) (fun x hx => (hwc x hx).1) (HTB.out V hbw) kb HKB.out
  have HWC : Hid (∀ x ∈ cs ++ [c], x.wt ≤ 1048576) := fun x hx => (hwc x hx).2
  have HKV : Hid (V.heap[q]? = _) := hkV
  have y0 := blk_cell (i := 0) hkV (by simp)
  have y1 := blk_cell (i := 1) hkV (by simp)
  have x0 := blk_cell (i := 0) kq (by simp)
  have x1 := blk_cell (i := 1) kq (by simp)
  have f0 := blk_frozen kq 0
  have f1 := blk_frozen kq 1
  have HBVW : Hid (Below w.heap.size w V) := hbw
  clear hf e8 e9 r5 kq hpp hgq hbV hkV hrV hbw s1 s2 s3 s4 s5 s6 s7 v1 v2 v3 v4 v5 v6 ow2 nd2 hwc hb
  go_upto_region 2 with fail
  rw [← hV]
  clear hV x0 x1 f0 f1
  have HP2 : Hid (∀ w', Below (p + 3) W w' → w'.heap[p]? = some (.cells #[.slice d1 cs.length e1, .slice d2 xs.length e2] 35 (0, 0)) ∧ w'.heap[p + 2]? = some (.cells #[.slice none 0 0, .slice none 0 0] 35 (0, 0))) := fun w' hb9 => by
    have hq := HQ.out
    exact ⟨(hb9.block p (by omega)).trans hq.1, (hb9.block (p + 2) (by omega)).trans hq.2.2⟩
  have HWV : Hid (Below V.heap.size V V ∧ p + 3 ≤ V.heap.size ∧ W.heap.size = p + 3) := ⟨Below.refl _ _, by have := HBV.out.size; have := HPP.out; omega, HPP.out.2⟩
  -- what is written into the result's block
  have HFIN : Hid (∀ (R : List Cla) (nR : Nat) (w5 w6 : World) (e : Ending), R.length = nR → Below V.heap.size V w5 → DbOut w5 R xs e w6 → ∃ a k g m l, e = .returned (.agg #[.slice a nR k, .slice (some ⟨g, 0, none⟩) l m]) ∧ w6.heap[p + 2]? = some (.cells #[.slice none 0 0, .slice none 0 0] 35 (0, 0)) ∧ ∀ X, X = (w6.setCell ⟨p + 2, 0, none⟩ (.slice a nR k)).setCell ⟨p + 2, 1, none⟩ (.slice (some ⟨g, 0, none⟩) l m) → X.heap[p + 2]? = some (.cells #[.slice a nR k, .slice (some ⟨g, 0, none⟩) l m] 35 (0, 0)) ∧ DbOutB w R xs kb (.returned (.tuple #[.agg #[.slice a nR k, .slice (some ⟨g, 0, none⟩) l m], .bool kb])) X) := by
    rintro R nR w5 w6 e hnR hb5 ⟨sl, F, k, g, rfl, o1, o2, o3, o4, o5, o6, o7⟩
    subst hnR
    obtain ⟨a, k', rfl⟩ := ownClS_shape o1
    obtain ⟨_, hv3, hw3⟩ := HWV.out
    have hpp := HPP.out.1
    have hbw6 : Below (p + 3) W w6 := (HBV.out.trans (hb5.mono hv3)).trans (o7.mono (by have := hb5.size; omega))
    have hk2 := (HP2.out w6 hbw6).2
    have h5s := hb5.size
    refine ⟨a, k', g, k, xs.length, rfl, hk2, ?_⟩
    rintro X rfl
    have hbX : Below w.heap.size w ((w6.setCell ⟨p + 2, 0, none⟩ (.slice a R.length k')).setCell ⟨p + 2, 1, none⟩ (.slice (some ⟨g, 0, none⟩) xs.length k)) := below_set (below_set (HBW.out.trans (hbw6.mono (by omega))) (by omega) _) (by omega) _
    refine ⟨db_two hk2, _, F, k, g, rfl, OwnClS.keep o1 fun f hf => ?_, row_keep o2 ?_, fun f hf => by have := o3 f hf; omega, o4, by omega, o6, hbX⟩
    · have := o3 f hf
      rw [blk_other _ (by omega), blk_other _ (by omega)]
    · rw [blk_other _ (by omega), blk_other _ (by omega)]
  cases kb
  · go_upto_region 3 with (go_at_call 24; refine (Calls.mono HDB.out ?_); rintro e w5 ⟨rfl, hb⟩; have HB5 : Hid (Below V.heap.size V w5) := hb; clear hb)
    clear y0 y1
    have hp5 := (HP2.out w5 (HBV.out.trans (HB5.out.mono HWV.out.2.1))).1
    have y0 := blk_cell (i := 0) hp5 (by simp)
    have y1 := blk_cell (i := 1) hp5 (by simp)
    have HC : Hid _ := copied_dbG cs xs w5 _ _ F (OwnClS.keep HOW.out.2.2.2 fun f hf => HB5.out.block f (HOW.out.2.2.2.lt f hf)) HSRC.out.2.1 (HOW.out.2.2.1.keep HB5.out) (by have := HWT.out.1; exact ⟨by omega, by omega, fun x hx => HWC.out x (List.mem_append_left _ hx)⟩) HWT.out.2
    clear hp5
    go_wp2_with (go_at_call 25; refine (Calls.mono HC.out ?_); intro e w6 hdb; obtain ⟨a, k, g, m, l, rfl, hk2, hfin⟩ := HFIN.out cs cs.length w5 w6 _ rfl HB5.out hdb; have HFF : Hid _ := hfin; clear hfin hdb; have z0 := blk_cell (i := 0) hk2 (by simp); have z1 := blk_cell (i := 1) hk2 (by simp); have f0 := blk_frozen hk2 0; have f1 := blk_frozen hk2 1; clear hk2)
    obtain ⟨r1, r2⟩ := HFF.out _ rfl
    refine bodyPost_ret_by (results_ctx rfl _ _ (p + 2) 35 _ (0, 0) _ rfl r1 Tryz.underlying35 rfl (by kernel_rfl)) rfl ?_
    exact r2
  · go_upto_region 4 with (go_at_call 24; refine (Calls.mono HDB.out ?_); rintro e w5 ⟨rfl, hb⟩; have HB5 : Hid (Below V.heap.size V w5) := hb; clear hb)
    clear y0 y1
    have hq5 := (HB5.out.block q (Array.getElem?_eq_some_iff.1 HKV.out).1).trans HKV.out
    have y0 := blk_cell (i := 0) hq5 (by simp)
    have y1 := blk_cell (i := 1) hq5 (by simp)
    have hk9 := HKB.out.1 (by first | rfl | trivial)
    have hcw : claWts (cs ++ [c]) = claWts cs + c.wt := by rw [claWts_append]; simp [claWts]
    have HC : Hid _ := copied_dbG (cs ++ [c]) xs w5 _ _ F2 (OwnClS.keep HOW.out.1 fun f hf => HB5.out.block f (HOW.out.1.lt f hf)) HOW.out.2.1 (HOW.out.2.2.1.keep HB5.out) (by have := HWT.out.1; exact ⟨by omega, by omega, HWC.out⟩) HWT.out.2
    clear hq5 hk9 hcw
    go_wp2_with (go_at_call 25; refine (Calls.mono HC.out ?_); intro e w6 hdb; obtain ⟨a, k, g, m, l, rfl, hk2, hfin⟩ := HFIN.out (cs ++ [c]) (cs.length + 1) w5 w6 _ (by simp) HB5.out hdb; have HFF : Hid _ := hfin; clear hfin hdb; have z0 := blk_cell (i := 0) hk2 (by simp); have z1 := blk_cell (i := 1) hk2 (by simp); have f0 := blk_frozen hk2 0; have f1 := blk_frozen hk2 1; clear hk2)
    obtain ⟨r1, r2⟩ := HFF.out _ rfl
    refine bodyPost_ret_by (results_ctx rfl _ _ (p + 2) 35 _ (0, 0) _ rfl r1 Tryz.underlying35 rfl (by kernel_rfl)) rfl ?_
    exact r2
end Go.Proofs.YtmhmlkdoaojimapGreatDoor

/- spec.l34Strings: a row of strings again. -/
namespace Go.Proofs.YtmhmlkdoaojimapGreatDoor
open Go.RowKit

/-- all strings behind a new row with no room -/
theorem app_strs (xs : List ByteArray) (u : World) (sl : Value) (g1 : Nat) (B : Nat) (h : SsIn u xs sl) (hl : xs.length ≤ 1048576) (hg1 : u.heap[g1]? = some (.cells #[] 9 (0, 0))) (hB : B ≤ g1) :
    ∃ v' u', (Builtin.append_ #[23, 23] 23 #[.slice (some ⟨g1, 0, none⟩) 0 0, sl]).run Tryz.prog u = .ok v' u' ∧ u'.ownsRow B 9 1 v' xs.length (xs.map Value.string) ∧ Below u.heap.size u u' ∧ ∃ g c, v' = .slice (some ⟨g, 0, none⟩) xs.length c := by
  obtain ⟨i0, hi, hz0, hz1, hz2⟩ := info_parts infoSt
  have hgl : g1 < u.heap.size := (Array.getElem?_eq_some_iff.1 hg1).1
  obtain ⟨ao, cap, rfl, h1, h2, h3⟩ := h
  by_cases h0 : xs = []
  · subst h0
    have hr0 : u.ownsRow B 9 1 (.slice (some ⟨g1, 0, none⟩) 0 0) 0 [] := ⟨rfl, Or.inr ⟨g1, 0, #[], rfl, by omega, hg1, Nat.le_refl _, Nat.zero_le _, rfl, rfl⟩⟩
    cases ao with
    | none =>
      refine ⟨.slice (some ⟨g1, 0, none⟩) 0 0, u, ?_, hr0, Below.refl _ _, g1, 0, rfl⟩
      simp [Builtin.append_, run_underlying Tryz.underlying23, sizeOf, typeInfo, hi, Builtin.lenOf, Builtin.firstCells, storeCells]
    | some a =>
      have hq := run_append_room_cells (P := Tryz.prog) u 23 23 9 i0 Tryz.underlying23 hi g1 0 0 0 a 0 cap [] (by simp) (by simp) (by simp) (Nat.le_refl _) (by simp) (by simp)
      exact ⟨_, _, hq, hr0, Below.refl _ _, g1, 0, rfl⟩
  · have hpos : 0 < xs.length := List.length_pos_iff.2 h0
    obtain ⟨b, off, rfl, hc⟩ := h3 h0
    obtain ⟨v', u', hr, hown, hgr⟩ := run_append_arg_grows (P := Tryz.prog) u 23 23 9 i0 (.string ⟨#[]⟩) 1 16 Tryz.underlying23 hi hz0 hz1 hz2 rfl (by decide) ⟨g1, 0, none⟩ 0 0 [] rfl (by simp) ⟨b, off, none⟩ xs.length cap (xs.map Value.string) (by simp) (fun j z hj => by
      have hj2 : j < xs.length := by
        have := (List.getElem?_eq_some_iff.1 hj).1
        simpa using this
      simp only [List.getElem?_map, List.getElem?_eq_getElem hj2, Option.map_some, Option.some.injEq] at hj
      subst hj
      rw [Addr.add_lit]; exact (hc j hj2).1) (by omega) (by unfold maxLen; omega) (by omega)
    have hown2 : u'.ownsRow u.heap.size 9 1 v' xs.length (xs.map Value.string) := ⟨by simp, by simpa using hown.2⟩
    refine ⟨v', u', hr, ⟨hown2.1, ?_⟩, ⟨hgr.os, hgr.tape, hgr.output, hgr.size, fun k hk => hgr.block k hk (by simp)⟩, ?_⟩
    · rcases hown2.2 with h | ⟨g, c, cur, e, hg, hh⟩
      · exact Or.inl h
      · exact Or.inr ⟨g, c, cur, e, by omega, hh⟩
    · rcases hown2.2 with ⟨_, h⟩ | ⟨g, c, cur, e, hg, hh⟩
      · omega
      · exact ⟨g, c, e⟩

set_option maxRecDepth 20000 in
theorem l34_strs (xs : List ByteArray) (w : World) (sl : Value) (h : SsIn w xs sl) (hl : xs.length ≤ 1048576) :
    Calls Tryz.prog 38 #[sl] w fun e w' => ∃ v', e = .returned v' ∧ w'.ownsRow w.heap.size 9 1 v' xs.length (xs.map Value.string) ∧ Below w.heap.size w w' ∧ ∃ g c, v' = .slice (some ⟨g, 0, none⟩) xs.length c := by
  have bW : Below w.heap.size w (w.alloc (.cells #[] 9)) := (Below.refl _ _).alloc (Nat.le_refl _) _
  obtain ⟨v', u', hr, ho, hb, hs⟩ := app_strs xs (w.alloc (.cells #[] 9)) sl w.heap.size w.heap.size (h.keep bW) hl (heap_alloc_new w _) (Nat.le_refl _)
  obtain ⟨ao, cap, rfl, -⟩ := h
  have HO : Hid _ := ho
  have HB : Hid (Below w.heap.size w u') := bW.trans (hb.mono bW.size)
  have HS : Hid _ := hs
  clear ho hb hs hl bW
  go_enter Tryz.func38, Tryz.ntmps38
  obtain ⟨g2, c2, rfl⟩ := HS.out
  go_wp2_with (at_builtin; go_loud (refine wpList_append_run rfl _ _ 23 rfl _ _ _ _ rfl rfl hr ?_))
  go_wp2
  go_ret
  exact ⟨_, rfl, HO.out, HB.out, HS.out⟩
end Go.Proofs.YtmhmlkdoaojimapGreatDoor

/- spec.l08Copy: the cells of the clauses, and the names, in rows of their own. -/
namespace Go.Proofs.YtmhmlkdoaojimapGreatDoor
open Go.RowKit

set_option maxHeartbeats 4000000 in
set_option maxRecDepth 20000 in
theorem l08_copy (cs : List Cla) (xs : List ByteArray) (w : World) (ao : Option Addr) (cap : Nat) (news : List Value) (c1 : Value) (hcap : cs.length ≤ cap) (hn : news.length = cs.length * 9) (hcell : cs ≠ [] → ∃ b off, ao = some ⟨b, off, none⟩ ∧ ∀ j z, news[j]? = some z → w.cell? ⟨b, off + j, none⟩ = some z) (hx : SsIn w xs c1) (hl1 : cs.length ≤ 1048576) (hl2 : xs.length ≤ 1048576) :
    Calls Tryz.prog 35 #[.agg #[.slice ao cs.length cap, c1]] w fun e w' => ∃ g k g' k', e = .returned (.agg #[.slice (some ⟨g, 0, none⟩) cs.length k, .slice (some ⟨g', 0, none⟩) xs.length k']) ∧
      w'.ownsRow w.heap.size 43 9 (.slice (some ⟨g, 0, none⟩) cs.length k) cs.length news ∧ w'.ownsRow w.heap.size 9 1 (.slice (some ⟨g', 0, none⟩) xs.length k') xs.length (xs.map Value.string) ∧ Below w.heap.size w w' := by
  obtain ⟨W, hW⟩ : ∃ W, W = (w.alloc (.cells #[.slice ao cs.length cap, c1] 35)).alloc (.cells #[.slice none 0 0, .slice none 0 0] 35) := ⟨_, rfl⟩
  have bW : Below w.heap.size w W := by rw [hW]; exact ((Below.refl _ _).alloc (Nat.le_refl _) _).alloc (by simp) _
  have lW : W.heap.size = w.heap.size + 2 := by rw [hW]; simp
  have q1 : W.heap[w.heap.size]? = some (.cells #[.slice ao cs.length cap, c1] 35 (0, 0)) := by rw [hW]; exact (alloc_old _ _ (by simp)).trans (alloc_at _ _ rfl)
  have q2 : W.heap[w.heap.size + 1]? = some (.cells #[.slice none 0 0, .slice none 0 0] 35 (0, 0)) := by rw [hW]; exact alloc_at _ _ (by simp)
  have HX : Hid (SsIn w xs c1) := hx
  obtain ⟨a2, p2, rfl, -⟩ := hx
  have HV : Hid (news.length = cs.length * 9 ∧ cs.length ≤ cap ∧ (cs ≠ [] → ∃ b off, ao = some ⟨b, off, none⟩ ∧ ∀ j z, news[j]? = some z → w.cell? ⟨b, off + j, none⟩ = some z) ∧ cs.length ≤ 1048576 ∧ xs.length ≤ 1048576) := ⟨hn, hcap, hcell, hl1, hl2⟩
  have HBW : Hid (Below w.heap.size w W) := bW
  obtain ⟨p, hp⟩ : ∃ p, p = w.heap.size := ⟨_, rfl⟩
  rw [← hp] at q1 q2 lW
  have HQ : Hid (W.heap[p]? = _ ∧ W.heap[p + 1]? = _) := ⟨q1, q2⟩
  have HPP : Hid (p = w.heap.size ∧ W.heap.size = p + 2) := ⟨hp, lW⟩
  clear hl1 hl2 bW lW q1 q2 hn hcell hcap
  go_enter Tryz.func35, Tryz.ntmps35
  go_upto_region 1 with fail
  rw [← hW, ← hp]
  clear hW hp
  refine wp_region_facts 8 (fun i v _ u => match i with
    | 0 => ∃ g, v = .slice (some ⟨g, 0, none⟩) 0 0 ∧ u.heap[g]? = some (.cells #[] 43 (0, 0)) ∧ p ≤ g
    | 1 => v = .pointer (some ⟨p, 0, none⟩)
    | 2 => v = .slice ao cs.length cap
    | 3 => ∃ g k, v = .slice (some ⟨g, 0, none⟩) cs.length k ∧ u.ownsRow p 43 9 v cs.length news
    | 4 => ∃ g, v = .slice (some ⟨g, 0, none⟩) 0 0 ∧ u.heap[g]? = some (.cells #[] 9 (0, 0)) ∧ p ≤ g
    | 5 => v = .pointer (some ⟨p, 1, none⟩)
    | 6 => v = .slice a2 xs.length p2
    | _ => ∃ g k, v = .slice (some ⟨g, 0, none⟩) xs.length k ∧ u.ownsRow p 9 1 v xs.length (xs.map Value.string)) (by kernel_rfl) (by kernel_rfl) 12 rfl (by kernel_rfl) ?_ ?_ ?_
  · intro i v S u u' hi h hb
    match i, hi, h with
    | 0, _, ⟨g, h1, h2, h3⟩ => exact ⟨g, h1, (hb.block g (Array.getElem?_eq_some_iff.1 h2).1).trans h2, h3⟩
    | 1, _, h => exact h
    | 2, _, h => exact h
    | 3, _, ⟨g, k, h1, h2⟩ => exact ⟨g, k, h1, row_keepB h2 (fun b e => hb.block b (h2.lt b e).2)⟩
    | 4, _, ⟨g, h1, h2, h3⟩ => exact ⟨g, h1, (hb.block g (Array.getElem?_eq_some_iff.1 h2).1).trans h2, h3⟩
    | 5, _, h => exact h
    | 6, _, h => exact h
    | 7, _, ⟨g, k, h1, h2⟩ => exact ⟨g, k, h1, row_keepB h2 (fun b e => hb.block b (h2.lt b e).2)⟩
  · intro i o hi ho a u hb hfr hdep
    have u1 : a.tmps.getD 1 undef = .pointer (some ⟨p, 0, none⟩) := hfr 1 (by decide)
    have hq := HQ.out
    have hqu := (hb.block p (Array.getElem?_eq_some_iff.1 hq.1).1).trans hq.1
    have x0 := blk_cell (i := 0) hqu (by simp)
    have x1 := blk_cell (i := 1) hqu (by simp)
    clear hqu hq
    have hbw : Below w.heap.size w u := HBW.out.trans (hb.mono HBW.out.size)
    have hpu : p ≤ u.heap.size := by have := HPP.out; have := hb.size; omega
    match i, hi with
    | 0, _ =>
      obtain rfl : _ = o := by simpa using ho
      refine fact_value (w' := u.alloc (.cells #[] 43)) (v := .slice (some ⟨u.heap.size, 0, none⟩) 0 0) ?_ ((Below.refl _ _).alloc (Nat.le_refl _) _) ⟨[], ⟨u.heap.size, rfl, heap_alloc_new _ _, hpu⟩, by simp⟩
      simp only [execOp]
      go_simp
    | 1, _ =>
      obtain rfl : _ = o := by simpa using ho
      refine fact_value (w' := u) (v := .pointer (some ⟨p, 0, none⟩)) ?_ (Below.refl _ _) ⟨[], rfl, by simp⟩
      simp only [execOp, Act.eval, u1]
      go_simp
    | 2, _ =>
      obtain rfl : _ = o := by simpa using ho
      obtain ⟨_, h1⟩ : ∃ _ : List Nat, a.tmps.getD 4 undef = .pointer (some ⟨p, 0, none⟩) := hdep 1 (by kernel_rfl)
      refine fact_value (w' := u) (v := .slice ao cs.length cap) ?_ (Below.refl _ _) ⟨[], rfl, by simp⟩
      simp only [execOp, Act.eval, h1]
      go_simp
    | 3, _ =>
      obtain rfl : _ = o := by simpa using ho
      obtain ⟨_, g1, h0, k0, hpg⟩ : ∃ _ : List Nat, ∃ g, a.tmps.getD 3 undef = .slice (some ⟨g, 0, none⟩) 0 0 ∧ u.heap[g]? = some (.cells #[] 43 (0, 0)) ∧ p ≤ g := hdep 0 (by kernel_rfl)
      obtain ⟨_, h2⟩ : ∃ _ : List Nat, a.tmps.getD 5 undef = .slice ao cs.length cap := hdep 2 (by kernel_rfl)
      obtain ⟨v1, v2, v3, v4, v5⟩ := HV.out
      obtain ⟨v', u', hr, r1, r2, g, k, r3⟩ := app_clauses cs u _ news ao cap g1 p rfl v2 v1 (fun hne => by
        obtain ⟨b, off, e, hc⟩ := v3 hne
        exact ⟨b, off, e, fun j z hj => cell_keep (hc j z hj) hbw⟩) v4 k0 hpg
      refine fact_value (w' := u') (v := v') ?_ r2 ⟨[], ⟨g, k, r3, r1⟩, by simp⟩
      have z1 : a.eval (.tmp 3) = .slice (some ⟨g1, 0, none⟩) 0 0 := h0
      have z4 : a.eval (.tmp 5) = .slice ao cs.length cap := h2
      simp only [execOp, resolve, invoke, builtin, Sem.run_bind, Sem.run_pure, Result.andThen_ok, List.map_toArray, List.map_cons, List.map_nil, z1, z4, hr]
    | 4, _ =>
      obtain rfl : _ = o := by simpa using ho
      refine fact_value (w' := u.alloc (.cells #[] 9)) (v := .slice (some ⟨u.heap.size, 0, none⟩) 0 0) ?_ ((Below.refl _ _).alloc (Nat.le_refl _) _) ⟨[], ⟨u.heap.size, rfl, heap_alloc_new _ _, hpu⟩, by simp⟩
      simp only [execOp]
      go_simp
    | 5, _ =>
      obtain rfl : _ = o := by simpa using ho
      refine fact_value (w' := u) (v := .pointer (some ⟨p, 1, none⟩)) ?_ (Below.refl _ _) ⟨[], rfl, by simp⟩
      simp only [execOp, Act.eval, u1]
      go_simp
    | 6, _ =>
      obtain rfl : _ = o := by simpa using ho
      obtain ⟨_, h1⟩ : ∃ _ : List Nat, a.tmps.getD 8 undef = .pointer (some ⟨p, 1, none⟩) := hdep 5 (by kernel_rfl)
      refine fact_value (w' := u) (v := .slice a2 xs.length p2) ?_ (Below.refl _ _) ⟨[], rfl, by simp⟩
      simp only [execOp, Act.eval, h1]
      go_simp
    | 7, _ =>
      obtain rfl : _ = o := by simpa using ho
      obtain ⟨_, g1, h0, k0, hpg⟩ : ∃ _ : List Nat, ∃ g, a.tmps.getD 7 undef = .slice (some ⟨g, 0, none⟩) 0 0 ∧ u.heap[g]? = some (.cells #[] 9 (0, 0)) ∧ p ≤ g := hdep 4 (by kernel_rfl)
      obtain ⟨_, h2⟩ : ∃ _ : List Nat, a.tmps.getD 9 undef = .slice a2 xs.length p2 := hdep 6 (by kernel_rfl)
      obtain ⟨v', u', hr, r1, r2, g, k, r3⟩ := app_strs xs u _ g1 p (HX.out.keep hbw) HV.out.2.2.2.2 k0 hpg
      refine fact_value (w' := u') (v := v') ?_ r2 ⟨[], ⟨g, k, r3, r1⟩, by simp⟩
      have z1 : a.eval (.tmp 7) = .slice (some ⟨g1, 0, none⟩) 0 0 := h0
      have z4 : a.eval (.tmp 9) = .slice a2 xs.length p2 := h2
      simp only [execOp, resolve, invoke, builtin, Sem.run_bind, Sem.run_pure, Result.andThen_ok, List.map_toArray, List.map_cons, List.map_nil, z1, z4, hr]
  intro vals S u hb hf _
  obtain ⟨g, k, e3, r3⟩ := (hf 3 (by omega)).1
  obtain ⟨g', k', e7, r7⟩ := (hf 7 (by omega)).1
  rw [e3] at r3
  rw [e7] at r7
  simp only [putN, List.getElem?_toArray, List.getElem?_cons_zero, List.getElem?_cons_succ, Option.bind_some, List.drop_succ_cons, List.drop_zero, e3, e7]
  generalize vals 0 = m0
  generalize vals 1 = m1
  generalize vals 2 = m2
  generalize vals 4 = m4
  generalize vals 5 = m5
  generalize vals 6 = m6
  simp only [Act.put, List.setIfInBounds_toArray, List.set_cons_succ, List.set_cons_zero]
  have hq := HQ.out
  have hk2 := (hb.block (p + 1) (Array.getElem?_eq_some_iff.1 hq.2).1).trans hq.2
  have HFIN : Hid (∀ V, V = (u.setCell ⟨p + 1, 0, none⟩ (.slice (some ⟨g, 0, none⟩) cs.length k)).setCell ⟨p + 1, 1, none⟩ (.slice (some ⟨g', 0, none⟩) xs.length k') → V.heap[p + 1]? = some (.cells #[.slice (some ⟨g, 0, none⟩) cs.length k, .slice (some ⟨g', 0, none⟩) xs.length k'] 35 (0, 0)) ∧
      V.ownsRow p 43 9 (.slice (some ⟨g, 0, none⟩) cs.length k) cs.length news ∧ V.ownsRow p 9 1 (.slice (some ⟨g', 0, none⟩) xs.length k') xs.length (xs.map Value.string) ∧ Below p w V) := by
    rintro V rfl
    have hpp := HPP.out
    have hbw : Below w.heap.size w u := HBW.out.trans (hb.mono HBW.out.size)
    have hbV := below_set (i := 1) (below_set (i := 0) hbw (g := p + 1) (by omega) (.slice (some ⟨g, 0, none⟩) cs.length k)) (g := p + 1) (by omega) (.slice (some ⟨g', 0, none⟩) xs.length k')
    -- the result's block is neither row
    have hg : g ≠ p + 1 := fun e => by
      rcases r3.2 with ⟨h, _⟩ | ⟨g9, cap9, cur9, e9, _, hh, _⟩
      · cases h
      · cases e9
        rw [e, hk2] at hh
        cases hh
    have hg' : g' ≠ p + 1 := fun e => by
      rcases r7.2 with ⟨h, _⟩ | ⟨g9, cap9, cur9, e9, _, hh, _⟩
      · cases h
      · cases e9
        rw [e, hk2] at hh
        cases hh
    refine ⟨by simpa using blk_set (i := 1) (blk_set (i := 0) hk2 (.slice (some ⟨g, 0, none⟩) cs.length k)) (.slice (some ⟨g', 0, none⟩) xs.length k'), ?_, ?_, by rw [hpp.1]; rw [hpp.1] at hbV; exact hbV⟩
    · refine row_keepB r3 fun b e => ?_
      obtain rfl : g = b := by simpa [Value.ownBlock] using e
      rw [blk_other _ hg, blk_other _ hg]
    · refine row_keepB r7 fun b e => ?_
      obtain rfl : g' = b := by simpa [Value.ownBlock] using e
      rw [blk_other _ hg', blk_other _ hg']
  have y0 := blk_cell (i := 0) hk2 (by simp)
  have y1 := blk_cell (i := 1) hk2 (by simp)
  have f0 := blk_frozen hk2 0
  have f1 := blk_frozen hk2 1
  clear hf hk2 hq r3 r7 e3 e7 hb
  go_wp2
  obtain ⟨r1, r2⟩ := HFIN.out _ rfl
  refine bodyPost_ret_by (results_cell_row rfl _ _ (p + 1) 35 _ (0, 0) _ rfl r1 Tryz.underlying35 rfl (by kernel_rfl)) rfl ?_
  exact ⟨g, k, g', k', rfl, by simpa only [HPP.out.1] using r2⟩
end Go.Proofs.YtmhmlkdoaojimapGreatDoor

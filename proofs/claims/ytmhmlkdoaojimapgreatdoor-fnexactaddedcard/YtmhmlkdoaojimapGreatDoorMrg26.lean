/- Four texts in one. -/
import Derived.Test.YtmhmlkdoaojimapGreatDoorMrg22
import Derived.Test.YtmhmlkdoaojimapGreatDoorMrg25
import Derived.Test.YtmhmlkdoaojimapGreatDoorMrg17
import Derived.Maps.AppendAt
import Derived.Test.YtmhmlkdoaojimapGreatDoorMrg1
import Derived.Test.YtmhmlkdoaojimapGreatDoorRows
import Derived.Laws.AppendOwn
import Derived.ProofKit
import Derived.Test.YtmhmlkdoaojimapGreatDoorMrg2
import Derived.Deep.DeepCutAuto
/- spec.l08AddedRaw. -/
namespace Go.Proofs.YtmhmlkdoaojimapGreatDoor
open Go.RowKit

theorem vals_snoc {w : World} {cs : List Cla} {news : List Value} {c : Cla} {k1 s1 n1 a1 l1 m1 k2 s2 n2 a2 l2 m2} (h : ClsVals w cs news) (hf : c.f.size ≤ maxLen) (i1 : TmIn w c.h (.agg #[.int .i64 k1, .string s1, .int .i64 n1, .slice a1 l1 m1])) (i2 : TmIn w c.b (.agg #[.int .i64 k2, .string s2, .int .i64 n2, .slice a2 l2 m2])) :
    ClsVals w (cs ++ [c]) (news ++ [.int .i64 k1, .string s1, .int .i64 n1, .slice a1 l1 m1, .int .i64 k2, .string s2, .int .i64 n2, .slice a2 l2 m2, .string c.f]) := by
  refine ⟨by simp [h.1]; omega, fun j hj => ?_⟩
  by_cases hlt : j < cs.length
  · obtain ⟨q1, q2, q3, q4, q5, q6, q7, q8, q9, q10, q11, q12, h1, h2, h3, h4⟩ := h.2 j hlt
    have e : (cs ++ [c])[j] = cs[j] := List.getElem_append_left hlt
    rw [e]
    refine ⟨q1, q2, q3, q4, q5, q6, q7, q8, q9, q10, q11, q12, fun r hr => ?_, h2, h3, h4⟩
    rw [List.getElem?_append_left (by rw [h.1]; omega)]
    exact h1 r hr
  · obtain rfl : j = cs.length := by simp at hj; omega
    have e : (cs ++ [c])[cs.length] = c := by simp
    rw [e]
    refine ⟨k1, s1, n1, a1, l1, m1, k2, s2, n2, a2, l2, m2, fun r hr => ?_, hf, i1, i2⟩
    rw [List.getElem?_append_right (by rw [h.1]; omega), h.1, show cs.length * 9 + r - cs.length * 9 = r by omega]

theorem owns_downS {w : World} {B B' e size n : Nat} {v : Value} {xs : List Value} (h : w.ownsRow B e size v n xs) (hB : B' ≤ B) : w.ownsRow B' e size v n xs := by
  rcases h.2 with ⟨rfl, hl⟩ | ⟨g, cap, cur, rfl, h1, hh⟩
  · exact ⟨h.1, Or.inl ⟨rfl, hl⟩⟩
  · exact ⟨h.1, Or.inr ⟨g, cap, cur, rfl, by omega, hh⟩⟩

/-- what comes back, wherever it lies, with whether it could be -/
def DbInB (w : World) (cs : List Cla) (xs : List ByteArray) (kb : Bool) (e : Ending) (w' : World) : Prop :=
  ∃ sl ss, e = .returned (.tuple #[.agg #[sl, ss], .bool kb]) ∧ ClsIn w' cs sl ∧ SsIn w' xs ss ∧ Below w.heap.size w w'

set_option maxHeartbeats 8000000 in
set_option maxRecDepth 20000 in
theorem s_addedRaw (cs : List Cla) (xs : List ByteArray) (c : Cla) (w : World) (c0 c1 : Value) (k1 t1 n1 a1 l1 m1 k2 t2 n2 a2 l2 m2) (h : ClsIn w cs c0) (hx : SsIn w xs c1) (hf : c.f.size ≤ maxLen) (i1 : TmIn w c.h (.agg #[.int .i64 k1, .string t1, .int .i64 n1, .slice a1 l1 m1])) (i2 : TmIn w c.b (.agg #[.int .i64 k2, .string t2, .int .i64 n2, .slice a2 l2 m2]))
    (hl1 : cs.length + claWts cs + c.wt ≤ 1048576) (hl2 : xs.length + strWts xs ≤ 1048576) (kb : Bool) (hkb : kb = true ↔ ((∀ x ∈ cs ++ [c], okCl x = true) ∧ (cs ++ [c]).length ≤ 120 ∧ xs.length ≤ 40)) (R : List Cla) (hR : R = if kb then cs ++ [c] else cs) :
    Calls Tryz.prog 18 #[.agg #[c0, c1], .agg #[.int .i64 k1, .string t1, .int .i64 n1, .slice a1 l1 m1, .int .i64 k2, .string t2, .int .i64 n2, .slice a2 l2 m2, .string c.f]] w (DbInB w R xs kb) := by
  have HR : Hid (R = if kb then cs ++ [c] else cs) := hR
  obtain ⟨W, hW⟩ : ∃ W, W = ((w.alloc (.cells #[c0, c1] 35)).alloc (.cells #[.int .i64 k1, .string t1, .int .i64 n1, .slice a1 l1 m1, .int .i64 k2, .string t2, .int .i64 n2, .slice a2 l2 m2, .string c.f] 43)).alloc (.cells #[.slice none 0 0, .slice none 0 0] 35) := ⟨_, rfl⟩
  have bW : Below w.heap.size w W := by rw [hW]; exact (((Below.refl _ _).alloc (Nat.le_refl _) _).alloc (by simp) _).alloc (by simp; omega) _
  have lW : W.heap.size = w.heap.size + 3 := by rw [hW]; simp
  have q1 : W.heap[w.heap.size]? = some (.cells #[c0, c1] 35 (0, 0)) := by rw [hW]; exact (alloc_old _ _ (by simp; omega)).trans ((alloc_old _ _ (by simp)).trans (alloc_at _ _ rfl))
  have q2 : W.heap[w.heap.size + 1]? = some (.cells #[.int .i64 k1, .string t1, .int .i64 n1, .slice a1 l1 m1, .int .i64 k2, .string t2, .int .i64 n2, .slice a2 l2 m2, .string c.f] 43 (0, 0)) := by rw [hW]; exact (alloc_old _ _ (by simp)).trans (alloc_at _ _ (by simp))
  have q3 : W.heap[w.heap.size + 2]? = some (.cells #[.slice none 0 0, .slice none 0 0] 35 (0, 0)) := by rw [hW]; exact alloc_at _ _ (by simp)
  have HLN : Hid (cs.length + claWts cs + c.wt ≤ 1048576 ∧ xs.length + strWts xs ≤ 1048576) := ⟨hl1, hl2⟩
  have HKB : Hid (kb = true ↔ ((∀ x ∈ cs ++ [c], okCl x = true) ∧ (cs ++ [c]).length ≤ 120 ∧ xs.length ≤ 40)) := hkb
  have HIN : Hid (ClsIn w cs c0 ∧ SsIn w xs c1) := ⟨h, hx⟩
  obtain ⟨d1, p1, news, rfl, hcap, hmax, hv, hcell⟩ := cls_vals h
  have HC0 : Hid (∀ u, Below w.heap.size w u → Calls Tryz.prog 35 #[.agg #[.slice d1 cs.length p1, c1]] u fun e w' => ∃ g k g' k', e = .returned (.agg #[.slice (some ⟨g, 0, none⟩) cs.length k, .slice (some ⟨g', 0, none⟩) xs.length k']) ∧
      w'.ownsRow u.heap.size 43 9 (.slice (some ⟨g, 0, none⟩) cs.length k) cs.length news ∧ w'.ownsRow u.heap.size 9 1 (.slice (some ⟨g', 0, none⟩) xs.length k') xs.length (xs.map Value.string) ∧ Below u.heap.size u w') := fun u hb =>
    l08_copy cs xs u d1 p1 news c1 hcap hv.1 (fun hne => by
      obtain ⟨b, off, e, hc⟩ := hcell hne
      exact ⟨b, off, e, fun j z hj => cell_keep (hc j z hj) hb⟩) (hx.keep hb) (by omega) (by omega)
  have HC : Hid _ := HC0.out W bW
  have HV : Hid (ClsVals w cs news ∧ ClsVals w (cs ++ [c]) (news ++ [.int .i64 k1, .string t1, .int .i64 n1, .slice a1 l1 m1, .int .i64 k2, .string t2, .int .i64 n2, .slice a2 l2 m2, .string c.f])) := ⟨hv, vals_snoc hv hf i1 i2⟩
  have HSZ : Hid (∀ x ∈ xs, x.size ≤ maxLen) := fun x hx9 => by have := strWt_le hx9; unfold maxLen; omega
  obtain ⟨d2, p2, rfl, -⟩ := hx
  have HBW : Hid (Below w.heap.size w W) := bW
  obtain ⟨p, hp⟩ : ∃ p, p = w.heap.size := ⟨_, rfl⟩
  rw [← hp] at q1 q2 q3 lW
  have HK : Hid (W.heap[p]? = _ ∧ W.heap[p + 1]? = _ ∧ W.heap[p + 2]? = _) := ⟨q1, q2, q3⟩
  have HPP : Hid (p = w.heap.size ∧ W.heap.size = p + 3) := ⟨hp, lW⟩
  have hcl : cs.length ≤ 1048576 := by omega
  have y0 := blk_cell (i := 0) q1 (by simp)
  have y1 := blk_cell (i := 1) q1 (by simp)
  clear h hv hcell hcap hmax hl1 hl2 hkb hR hf i1 i2 bW lW q1 q2 q3
  go_enter Tryz.func18, Tryz.ntmps18
  go_upto_region 1 with fail
  rw [← hW, ← hp]
  clear hW hp
  go_upto_region 2 with (go_at_call 35; refine (Calls.mono HC.out ?_); rintro e w1 ⟨g, k, g', k', rfl, o2, o3, o4⟩; have HO : Hid (w1.ownsRow W.heap.size 43 9 (.slice (some ⟨g, 0, none⟩) cs.length k) cs.length news ∧ w1.ownsRow W.heap.size 9 1 (.slice (some ⟨g', 0, none⟩) xs.length k') xs.length (xs.map Value.string) ∧ Below W.heap.size W w1) := ⟨o2, o3, o4⟩; clear o2 o3 o4)
  clear y0 y1
  obtain ⟨W1, hW1⟩ : ∃ W1, W1 = w1.alloc (.cells #[.slice (some ⟨g, 0, none⟩) cs.length k, .slice (some ⟨g', 0, none⟩) xs.length k'] 35) := ⟨_, rfl⟩
  obtain ⟨q, hq⟩ : ∃ q, q = w1.heap.size := ⟨_, rfl⟩
  rw [← hW1, ← hq]
  have b1 : Below w1.heap.size w1 W1 := by rw [hW1]; exact (Below.refl _ _).alloc (Nat.le_refl _) _
  have kq : W1.heap[q]? = some (.cells #[.slice (some ⟨g, 0, none⟩) cs.length k, .slice (some ⟨g', 0, none⟩) xs.length k'] 35 (0, 0)) := by rw [hW1, hq]; exact heap_alloc_new _ _
  have HQ : Hid (W1.heap[q]? = _) := kq
  have HO1 : Hid (W1.ownsRow (p + 3) 43 9 (.slice (some ⟨g, 0, none⟩) cs.length k) cs.length news ∧ W1.ownsRow (p + 3) 9 1 (.slice (some ⟨g', 0, none⟩) xs.length k') xs.length (xs.map Value.string) ∧ Below (p + 3) W W1 ∧ p + 3 ≤ q ∧ g < q ∧ g' < q ∧ p + 3 ≤ g ∧ p + 3 ≤ g' ∧ g ≠ g' ∧ q < W1.heap.size) := by
    obtain ⟨o2, o3, o4⟩ := HO.out
    have hl := HPP.out.2
    have hs1 := o4.size
    have hg := o2.lt g rfl
    have hg' := o3.lt g' rfl
    rw [hl] at o2 o3
    refine ⟨row_keepB o2 fun b e => b1.block b (o2.lt b e).2, row_keepB o3 fun b e => b1.block b (o3.lt b e).2, (o4.mono (by omega)).trans (b1.mono (by omega)), by omega, by omega, by omega, by omega, by omega, ?_, by rw [hW1]; simp; omega⟩
    rintro rfl
    rcases o2.2 with ⟨h, _⟩ | ⟨g9, cap9, cur9, e9, _, hh, _⟩
    · cases h
    · cases e9
      rcases o3.2 with ⟨h, _⟩ | ⟨g8, cap8, cur8, e8, _, hh8, _⟩
      · cases h
      · cases e8
        rw [hh] at hh8
        cases hh8
  have kc := (HO1.out.2.2.1.block (p + 1) (by omega)).trans HK.out.2.1
  have z0 := blk_cell (i := 0) kq (by simp)
  have z1 := blk_cell (i := 1) kq (by simp)
  obtain ⟨⟨x0, x1, x2, x3, x4, x5, x6, x7, x8⟩, _⟩ := blk9 kc
  clear kc kq b1 hW1 hq HO
  obtain ⟨i0, hi9, hz0, hz1, hz2⟩ := info_parts infoC
  go_wp2_with (at_builtin; go_loud (refine wpList_append_own_at _ rfl _ _ 33 rfl (p + 3) 43 i0 (.agg #[.int .i64 0, .string ⟨#[]⟩, .int .i64 0, .slice none 0 0, .int .i64 0, .string ⟨#[]⟩, .int .i64 0, .slice none 0 0, .string ⟨#[]⟩]) 9 128 Tryz.underlying33 hi9 hz0 hz1 hz2 rfl (by decide) _ _ _ rfl (HO1.out.1.alloc _) ⟨W1.heap.size, 0, none⟩ 1 1 [.int .i64 k1, .string t1, .int .i64 n1, .slice a1 l1 m1, .int .i64 k2, .string t2, .int .i64 n2, .slice a2 l2 m2, .string c.f] rfl rfl ?c1 ?c2 ?c3 ?c4 ?c5 ?_))
  case c1 =>
    intro j z hj
    match j, hj with
    | 0, hj => simp at hj; subst hj; simp [Addr.add]
    | 1, hj => simp at hj; subst hj; simp [Addr.add]
    | 2, hj => simp at hj; subst hj; simp [Addr.add]
    | 3, hj => simp at hj; subst hj; simp [Addr.add]
    | 4, hj => simp at hj; subst hj; simp [Addr.add]
    | 5, hj => simp at hj; subst hj; simp [Addr.add]
    | 6, hj => simp at hj; subst hj; simp [Addr.add]
    | 7, hj => simp at hj; subst hj; simp [Addr.add]
    | 8, hj => simp at hj; subst hj; simp [Addr.add]
  case c2 => intro z hz; simp at hz; rcases hz with rfl | rfl | rfl | rfl | rfl | rfl | rfl | rfl | rfl <;> rfl
  case c3 => unfold maxLen; omega
  case c4 => omega
  case c5 => have := HO1.out; simp; omega
  intro v' w2 hown' hgrow _ hat
  obtain ⟨o2, o3, o4, o5, o6, o7, o8, o9, o10, o11⟩ := HO1.out
  have hpp := HPP.out
  obtain ⟨U, hU⟩ : ∃ U, U = W1.alloc (.cells #[.int .i64 k1, .string t1, .int .i64 n1, .slice a1 l1 m1, .int .i64 k2, .string t2, .int .i64 n2, .slice a2 l2 m2, .string c.f] 43) := ⟨_, rfl⟩
  have bU : Below W1.heap.size W1 U := by rw [hU]; exact (Below.refl _ _).alloc (Nat.le_refl _) _
  rw [← hU] at hgrow
  rw [show W1.heap.size + 1 = U.heap.size by rw [hU]; simp] at hat
  have hkp : ∀ k, k < W1.heap.size → k ≠ g → w2.heap[k]? = W1.heap[k]? := fun k hk hne => (hgrow.block k (Nat.lt_of_lt_of_le hk bU.size) (by simp [Value.ownBlock]; exact hne)).trans (bU.block k hk)
  have hsz : W1.heap.size ≤ w2.heap.size := Nat.le_trans bU.size hgrow.size
  obtain ⟨g9, k9, rfl, hg9⟩ : ∃ g9 k9, v' = .slice (some ⟨g9, 0, none⟩) (cs.length + 1) k9 ∧ (g9 = g ∨ W1.heap.size ≤ g9) := by
    rcases hown'.2 with ⟨_, h⟩ | ⟨g9, c9, cur9, e, _, _⟩
    · omega
    · refine ⟨g9, c9, e, ?_⟩
      rw [e] at hat
      rcases hat with h | h
      · exact Or.inl (by simpa [Value.ownBlock] using h)
      · obtain rfl : g9 = U.heap.size := by simpa [Value.ownBlock] using h
        exact Or.inr bU.size
  have hgq : g9 ≠ q := by
    rcases hg9 with rfl | h
    · omega
    · omega
  have kq2 := (hkp q o11 (by omega)).trans HQ.out
  have hb2 : Below (p + 3) W w2 := ⟨hgrow.os.trans (bU.os.trans o4.os), hgrow.tape.trans (bU.tape.trans o4.tape), hgrow.output.trans (bU.output.trans o4.output), Nat.le_trans o4.size hsz, fun k hk => (hkp k (by have := o4.size; omega) (by omega)).trans (o4.block k hk)⟩
  obtain ⟨V, hV⟩ : ∃ V, V = w2.setCell ⟨q, 0, none⟩ (.slice (some ⟨g9, 0, none⟩) (cs.length + 1) k9) := ⟨_, rfl⟩
  have kq7 : V.heap[q]? = some (.cells #[.slice (some ⟨g9, 0, none⟩) (cs.length + 1) k9, .slice (some ⟨g', 0, none⟩) xs.length k'] 35 (0, 0)) := by rw [hV]; simpa using blk_set (i := 0) kq2 (.slice (some ⟨g9, 0, none⟩) (cs.length + 1) k9)
  have hbV : Below (p + 3) W V := by rw [hV]; exact below_set hb2 (by omega) _
  have hbw : Below w.heap.size w V := HBW.out.trans (hbV.mono (by omega))
  have hle : (cs ++ [c]).length = cs.length + 1 := by simp
  have in1 : ClsIn V (cs ++ [c]) (.slice (some ⟨g9, 0, none⟩) (cs.length + 1) k9) := by
    refine vals_in (B := p + 3) (news := news ++ [.int .i64 k1, .string t1, .int .i64 n1, .slice a1 l1 m1, .int .i64 k2, .string t2, .int .i64 n2, .slice a2 l2 m2, .string c.f]) ?_ (HV.out.2.keep hbw)
    rw [hle]
    refine row_keepB hown' fun b e => ?_
    obtain rfl : g9 = b := by simpa [Value.ownBlock] using e
    rw [hV, blk_other _ (by omega)]
  have in2 : SsIn V xs (.slice (some ⟨g', 0, none⟩) xs.length k') := by
    refine owns_ss (ownsRow_zero (B := p + 3) (row_keepB o3 fun b e => ?_)) HSZ.out
    obtain rfl : g' = b := by simpa [Value.ownBlock] using e
    rw [hV, blk_other _ (by omega)]
    exact hkp g' (by omega) (fun e => o10 e.symm)
  have HRW : Hid (V.ownsRow (p + 3) 43 9 (.slice (some ⟨g9, 0, none⟩) (cs.length + 1) k9) (cs ++ [c]).length (news ++ [.int .i64 k1, .string t1, .int .i64 n1, .slice a1 l1 m1, .int .i64 k2, .string t2, .int .i64 n2, .slice a2 l2 m2, .string c.f]) ∧ V.ownsRow (p + 3) 9 1 (.slice (some ⟨g', 0, none⟩) xs.length k') xs.length (xs.map Value.string)) := by
    refine ⟨?_, row_keepB o3 fun b e => ?_⟩
    · rw [hle]
      refine row_keepB hown' fun b e => ?_
      obtain rfl : g9 = b := by simpa [Value.ownBlock] using e
      rw [hV, blk_other _ (by omega)]
    · obtain rfl : g' = b := by simpa [Value.ownBlock] using e
      rw [hV, blk_other _ (by omega)]
      exact hkp g' (by omega) (fun e => o10 e.symm)
  have HVV : Hid (ClsIn V (cs ++ [c]) (.slice (some ⟨g9, 0, none⟩) (cs.length + 1) k9) ∧ SsIn V xs (.slice (some ⟨g', 0, none⟩) xs.length k') ∧ Below (p + 3) W V ∧ V.heap[q]? = some (.cells #[.slice (some ⟨g9, 0, none⟩) (cs.length + 1) k9, .slice (some ⟨g', 0, none⟩) xs.length k'] 35 (0, 0)) ∧ p + 3 ≤ V.heap.size) := ⟨in1, in2, hbV, kq7, by have := hbV.size; omega⟩
  have HDB : Hid _ := s_dbOk (cs ++ [c]) xs V _ _ in1 in2 (by omega) (by have := HLN.out.2; omega) (fun x hx9 => by
    have hw9 := HLN.out.1
    have e9 : ∀ y : Cla, y.wt = y.h.wt + y.b.wt + y.f.size := fun _ => rfl
    rcases List.mem_append.1 hx9 with h9 | h9
    · have := claWt_le h9
      have := e9 x
      omega
    · obtain rfl : x = c := by simpa using h9
      have := e9 x
      omega) kb HKB.out
  have HP2 : Hid (∀ w', Below (p + 3) W w' → w'.heap[p]? = some (.cells #[.slice d1 cs.length p1, .slice d2 xs.length p2] 35 (0, 0)) ∧ w'.heap[p + 2]? = some (.cells #[.slice none 0 0, .slice none 0 0] 35 (0, 0))) := fun w' hb9 => by
    have hq := HK.out
    exact ⟨(hb9.block p (by omega)).trans hq.1, (hb9.block (p + 2) (by omega)).trans hq.2.2⟩
  have g1 := blk_frozen kq2 0
  clear z0 z1 x0 x1 x2 x3 x4 x5 x6 x7 x8
  have z0 := blk_cell (i := 0) kq2 (by simp)
  have y0 := blk_cell (i := 0) kq7 (by simp)
  have y1 := blk_cell (i := 1) kq7 (by simp)
  clear o2 o3 o4 o5 o6 o7 o8 o9 o10 o11 hown' hgrow hat hkp hsz hg9 hgq kq2 hb2 kq7 bU hU hpp hbV hbw hle in1 in2
  go_upto_region 3 with fail
  rw [← hV]
  clear hV z0 g1
  -- what is written into the result's block
  have HFIN : Hid (∀ (ga nR kR gb l m : Nat) (nws : List Value) (w6 : World), w6.ownsRow (p + 3) 43 9 (.slice (some ⟨ga, 0, none⟩) nR kR) R.length nws → ClsVals w R nws → w6.ownsRow (p + 3) 9 1 (.slice (some ⟨gb, 0, none⟩) l m) xs.length (xs.map Value.string) → Below (p + 3) W w6 → w6.heap[p + 2]? = some (.cells #[.slice none 0 0, .slice none 0 0] 35 (0, 0)) ∧ ∀ X, X = (w6.setCell ⟨p + 2, 0, none⟩ (.slice (some ⟨ga, 0, none⟩) nR kR)).setCell ⟨p + 2, 1, none⟩ (.slice (some ⟨gb, 0, none⟩) l m) → X.heap[p + 2]? = some (.cells #[.slice (some ⟨ga, 0, none⟩) nR kR, .slice (some ⟨gb, 0, none⟩) l m] 35 (0, 0)) ∧ DbInB w R xs kb (.returned (.tuple #[.agg #[.slice (some ⟨ga, 0, none⟩) nR kR, .slice (some ⟨gb, 0, none⟩) l m], .bool kb])) X) := by
    intro ga nR kR gb l m nws w6 o1 ov o2 hb6
    have hpp := HPP.out.1
    have hk2 := (HP2.out w6 hb6).2
    refine ⟨hk2, ?_⟩
    rintro X rfl
    have hga := (o1.lt ga rfl).1
    have hgb := (o2.lt gb rfl).1
    have hbX : Below w.heap.size w ((w6.setCell ⟨p + 2, 0, none⟩ (.slice (some ⟨ga, 0, none⟩) nR kR)).setCell ⟨p + 2, 1, none⟩ (.slice (some ⟨gb, 0, none⟩) l m)) := below_set (below_set (HBW.out.trans (hb6.mono (by omega))) (by omega) _) (by omega) _
    refine ⟨db_two hk2, _, _, rfl, vals_in (B := p + 3) (news := nws) (row_keepB o1 fun b e => ?_) (ov.keep hbX), owns_ss (ownsRow_zero (B := p + 3) (row_keepB o2 fun b e => ?_)) HSZ.out, hbX⟩
    · obtain rfl : ga = b := by simpa [Value.ownBlock] using e
      rw [blk_other _ (by omega), blk_other _ (by omega)]
    · obtain rfl : gb = b := by simpa [Value.ownBlock] using e
      rw [blk_other _ (by omega), blk_other _ (by omega)]
  cases kb
  · obtain rfl : R = cs := by simpa using HR.out
    go_upto_region 4 with (go_at_call 36; refine (Calls.mono HDB.out ?_); rintro e w5 ⟨rfl, hb⟩; have HB5 : Hid (Below V.heap.size V w5) := hb; clear hb)
    clear y0 y1
    have hvv := HVV.out.2.2.1
    have hb5 : Below (p + 3) W w5 := hvv.trans (HB5.out.mono HVV.out.2.2.2.2)
    have HB5W : Hid (Below (p + 3) W w5 ∧ p + 3 ≤ w5.heap.size) := ⟨hb5, by have := hb5.size; have := HPP.out.2; omega⟩
    have hp5 := (HP2.out w5 hb5).1
    have y0 := blk_cell (i := 0) hp5 (by simp)
    have y1 := blk_cell (i := 1) hp5 (by simp)
    have HC2 : Hid _ := HC0.out w5 (HBW.out.trans (hb5.mono (by have := HPP.out.1; omega)))
    clear hp5 hb5 hvv
    go_wp2_with (go_at_call 35; refine (Calls.mono HC2.out ?_); rintro e w6 ⟨ga, ka, gb, kb', rfl, o2, o3, o4⟩; obtain ⟨hk2, hfin⟩ := HFIN.out ga R.length ka gb xs.length kb' news w6 (owns_downS o2 HB5W.out.2) HV.out.1 (owns_downS o3 HB5W.out.2) (HB5W.out.1.trans (o4.mono HB5W.out.2)); have HFF : Hid _ := hfin; clear hfin o2 o3 o4; have z0 := blk_cell (i := 0) hk2 (by simp); have z1 := blk_cell (i := 1) hk2 (by simp); have f0 := blk_frozen hk2 0; have f1 := blk_frozen hk2 1; clear hk2)
    obtain ⟨r1, r2⟩ := HFF.out _ rfl
    refine bodyPost_ret_by (results_ctx rfl _ _ (p + 2) 35 _ (0, 0) _ rfl r1 Tryz.underlying35 rfl (by kernel_rfl)) rfl ?_
    exact r2
  · obtain rfl : R = cs ++ [c] := by simpa using HR.out
    go_upto_region 5 with (go_at_call 36; refine (Calls.mono HDB.out ?_); rintro e w5 ⟨rfl, hb⟩; have HB5 : Hid (Below V.heap.size V w5) := hb; clear hb)
    clear y0 y1
    have hvv := HVV.out.2.2.1
    have hb5 : Below (p + 3) W w5 := hvv.trans (HB5.out.mono HVV.out.2.2.2.2)
    have hkq := HVV.out.2.2.2.1
    have hq5 := (HB5.out.block q (Array.getElem?_eq_some_iff.1 hkq).1).trans hkq
    have y0 := blk_cell (i := 0) hq5 (by simp)
    have y1 := blk_cell (i := 1) hq5 (by simp)
    obtain ⟨hk2, hfin⟩ := HFIN.out g9 (cs.length + 1) k9 g' xs.length k' _ w5 (row_keepB HRW.out.1 fun b e => HB5.out.block b (HRW.out.1.lt b e).2) HV.out.2 (row_keepB HRW.out.2 fun b e => HB5.out.block b (HRW.out.2.lt b e).2) hb5
    have HFF : Hid _ := hfin
    have z0 := blk_cell (i := 0) hk2 (by simp)
    have z1 := blk_cell (i := 1) hk2 (by simp)
    have f0 := blk_frozen hk2 0
    have f1 := blk_frozen hk2 1
    clear hk2 hfin hq5 hkq hb5 hvv
    go_wp2
    obtain ⟨r1, r2⟩ := HFF.out _ rfl
    refine bodyPost_ret_by (results_ctx rfl _ _ (p + 2) 35 _ (0, 0) _ rfl r1 Tryz.underlying35 rfl (by kernel_rfl)) rfl ?_
    exact r2
end Go.Proofs.YtmhmlkdoaojimapGreatDoor

/- A row of terms that grows by appends. Of no program. -/
namespace Go.Proofs.YtmhmlkdoaojimapGreatDoor
open Go.RowKit

/-- what was put together so far: a row of its own, and the terms in it in blocks of their own -/
def OutS (e : TypeId) (w : World) (B : Nat) (ks : List Tm) (v : Value) (F : List Nat) : Prop :=
  ∃ cs g, w.ownsRow B e 4 v ks.length cs ∧ v.ownBlock = some g ∧ OwnRow e w ks cs F ∧ (∀ f ∈ F, B ≤ f) ∧ B ≤ g ∧ (g :: F).Nodup

theorem OutS.own {e : TypeId} {w : World} {B : Nat} {ks : List Tm} {v : Value} {F : List Nat} (h : OutS e w B ks v F) : ∃ F', OwnS e w ks v F' ∧ (∀ f ∈ F', B ≤ f) ∧ F'.Nodup := by
  obtain ⟨cs, g, h1, h2, h3, h4, h5, h6⟩ := h
  refine ⟨g :: F, ?_, ?_, h6⟩
  · rcases h1.2 with ⟨rfl, _⟩ | ⟨g', cap, cur, rfl, hb, hh, hr⟩
    · cases h2
    · obtain rfl : g' = g := by simpa [Value.ownBlock] using h2
      exact Or.inr ⟨g', cap, cs, F, rfl, ⟨h1.1, Or.inr ⟨g', cap, cur, rfl, Nat.zero_le _, hh, hr⟩⟩, rfl, h3⟩
  · intro f hf
    rcases List.mem_cons.1 hf with rfl | hf
    · exact h5
    · exact h4 f hf

theorem OutS.lt {e : TypeId} {w : World} {B : Nat} {ks : List Tm} {v : Value} {F : List Nat} (h : OutS e w B ks v F) : (∀ f ∈ F, f < w.heap.size) ∧ ∀ g, v.ownBlock = some g → g < w.heap.size := by
  obtain ⟨cs, g, h1, h2, h3, h4, h5, h6⟩ := h
  exact ⟨OwnRow.lt _ _ _ h3, fun g hg => (h1.lt g hg).2⟩

theorem OutS.shape {e : TypeId} {w : World} {B : Nat} {ks : List Tm} {v : Value} {F : List Nat} (h : OutS e w B ks v F) : ∃ g cap, v = .slice (some ⟨g, 0, none⟩) ks.length cap ∧ B ≤ g ∧ g < w.heap.size ∧ ks.length ≤ cap ∧ cap ≤ maxLen := by
  obtain ⟨cs, g, h1, h2, h3, h4, h5, h6⟩ := h
  rcases h1.2 with ⟨rfl, _⟩ | ⟨g', cap, cur, rfl, hb, hh, hr, hm, _⟩
  · cases h2
  · exact ⟨g', cap, rfl, hb, (Array.getElem?_eq_some_iff.1 hh).1, hr, hm⟩

theorem OutS.keep {e : TypeId} {w w' : World} {B : Nat} {ks : List Tm} {v : Value} {F : List Nat} (h : OutS e w B ks v F) (hb : ∀ k, B ≤ k → k < w.heap.size → w'.heap[k]? = w.heap[k]?) : OutS e w' B ks v F := by
  have hlt := h.lt
  obtain ⟨cs, g, h1, h2, h3, h4, h5, h6⟩ := h
  refine ⟨cs, g, ?_, h2, OwnRow.keep _ _ _ h3 fun f hf => hb f (h4 f hf) (hlt.1 f hf), h4, h5, h6⟩
  rcases h1.2 with ⟨rfl, _⟩ | ⟨g', cap, cur, rfl, hb', hh, hr⟩
  · cases h2
  · exact ⟨h1.1, Or.inr ⟨g', cap, cur, rfl, hb', (hb g' hb' (Array.getElem?_eq_some_iff.1 hh).1).trans hh, hr⟩⟩

theorem outS_new {e : TypeId} {w : World} {B : Nat} (hB : B ≤ w.heap.size) (cap : Nat) (hc : cap ≤ maxLen) (M : Array Value) (hM : M.size = cap * 4) : OutS e (w.alloc (.cells M e)) B [] (.slice (some ⟨w.heap.size, 0, none⟩) 0 cap) [] := by
  refine ⟨[], w.heap.size, ⟨by simp, Or.inr ⟨w.heap.size, cap, M, rfl, hB, heap_alloc_new w _, Nat.zero_le _, hc, hM, by simp⟩⟩, rfl, by simp [OwnRow], by simp, hB, by simp⟩

/-- one more term behind it -/
theorem OutS.push {e : TypeId} {w1 w2 : World} {B : Nat} {ks : List Tm} {v v' : Value} {F F2 : List Nat} {t : Tm} {c0 c1 c2 c3 : Value} {cs : List Value} {g : Nat}
    (h1 : w1.ownsRow B e 4 v ks.length cs) (hg : v.ownBlock = some g) (hr : OwnRow e w1 ks cs F) (hF : ∀ f ∈ F, B ≤ f) (hBg : B ≤ g) (hnd : (g :: F).Nodup)
    (ht : Own e w1 t (.agg #[c0, c1, c2, c3]) F2) (hF2 : ∀ f ∈ F2, B ≤ f) (hnd2 : F2.Nodup) (hdis : ∀ f ∈ F2, f ∉ g :: F)
    (hown : w2.ownsRow B e 4 v' (ks.length + 1) (cs ++ [c0, c1, c2, c3])) (hgrow : w1.grownBy w2 v.ownBlock) (hat : v'.ownBlock = v.ownBlock ∨ v'.ownBlock = some w1.heap.size) :
    OutS e w2 B (ks ++ [t]) v' (F ++ F2) := by
  have hlt := OwnRow.lt _ _ _ hr
  have hlt2 := Own.lt _ _ _ ht
  have hglt := (h1.lt g hg).2
  rw [List.nodup_cons] at hnd
  have hk : ∀ f, f < w1.heap.size → f ≠ g → w2.heap[f]? = w1.heap[f]? := fun f hf hne => hgrow.block f hf (by rw [hg]; intro e; exact hne (by simpa using e))
  obtain ⟨g', hg', hgg⟩ : ∃ g', v'.ownBlock = some g' ∧ (g' = g ∨ g' = w1.heap.size) := by
    rcases hat with hat | hat
    · exact ⟨g, hat.trans hg, Or.inl rfl⟩
    · exact ⟨_, hat, Or.inr rfl⟩
  have hne : ∀ f ∈ F, f ≠ g := fun f hf e => hnd.1 (e ▸ hf)
  have hne2 : ∀ f ∈ F2, f ≠ g := fun f hf e => hdis f hf (by simp [e])
  refine ⟨cs ++ [c0, c1, c2, c3], g', by simpa using hown, hg', ?_, ?_, ?_, ?_⟩
  · exact OwnRow.snoc (Own.keep _ _ _ ht fun f hf => hk f (hlt2 f hf) (hne2 f hf)) _ _ _ (OwnRow.keep _ _ _ hr fun f hf => hk f (hlt f hf) (hne f hf))
  · intro f hf
    rcases List.mem_append.1 hf with hf | hf
    · exact hF f hf
    · exact hF2 f hf
  · rcases hgg with rfl | rfl
    · exact hBg
    · omega
  · refine List.nodup_cons.2 ⟨fun hf => ?_, List.nodup_append.2 ⟨hnd.2, hnd2, fun a ha b hb e => hdis b hb (by rw [← e]; simp [ha])⟩⟩
    rcases List.mem_append.1 hf with hf | hf
    · rcases hgg with rfl | rfl
      · exact hnd.1 hf
      · have := hlt _ hf; omega
    · rcases hgg with rfl | rfl
      · exact hne2 _ hf rfl
      · have := hlt2 _ hf; omega
end Go.Proofs.YtmhmlkdoaojimapGreatDoor

/- spec.l34Term, spec.l34Terms: a copy in memory of its own, of a term that is a little greater. -/
namespace Go.Proofs.YtmhmlkdoaojimapGreatDoor
open Go.RowKit

def L34OkB (t : Tm) : Prop := ∀ (w : World) (v : Value), TmIn w t v → t.wt ≤ 1100000 →
  Calls Tryz.prog 60 #[v] w fun e w' => ∃ v' F, e = .returned v' ∧ Own 41 w' t v' F ∧ (∀ f ∈ F, w.heap.size ≤ f) ∧ F.Nodup ∧ Below w.heap.size w w'

set_option maxRecDepth 20000 in
theorem l34_termsB (ks : List Tm) (hks : ∀ t ∈ ks, L34OkB t) (w : World) (ao : Option Addr) (cap : Nat) (hlen : ks.length + wts ks ≤ 1100000) (h : ks ≠ [] → ∃ b off, ao = some ⟨b, off, none⟩ ∧ TmsIn w ks b off) :
    Calls Tryz.prog 68 #[.slice ao ks.length cap] w fun e w' => ∃ sl F, e = .returned sl ∧ OwnS 41 w' ks sl F ∧ (∀ f ∈ F, w.heap.size ≤ f) ∧ F.Nodup ∧ Below w.heap.size w w' := by
  obtain ⟨i0, hi, hz0, hz1, hz2⟩ := info_parts infoT
  go_enter Tryz.func68, Tryz.ntmps68
  go_wp2
  go_loopw [3, 4] (fun vo vi wr => ∃ (j : Nat) (F : List Nat) (v : Value), j ≤ ks.length ∧ vi = .int .i64 (j : Int) ∧ v = vo ∧ Hid (Below w.heap.size w wr) ∧ Hid (OutS 41 wr w.heap.size (ks.take j) v F)) (fun _ i _ => ks.length - (intOf i).toNat)
  case atStart =>
    exact ⟨0, [], _, by omega, rfl, rfl, (Below.refl _ _).alloc (Nat.le_refl _) _, outS_new (Nat.le_refl _) 0 (Nat.zero_le _) _ rfl⟩
  case round =>
    obtain ⟨j, F, vo, hj, rfl, rfl, HB, HO⟩ := hrel
    by_cases hlt : j < ks.length
    · obtain ⟨b, off, rfl, hin⟩ := h (by intro e; subst e; simp at hlt)
      obtain ⟨c0, c1, c2, c3, h0, h1, h2, h3, ht⟩ := (TmsIn.keep HB.out ks b off hin).at j hlt
      have hwj := wt_le (List.getElem_mem hlt)
      have HC : Hid _ := hks ks[j] (List.getElem_mem hlt) wr _ ht (by omega)
      obtain ⟨g, cp, rfl, hBg, hgl, _, _⟩ := HO.out.shape
      have hl : (ks.take j).length = j := by rw [List.length_take]; omega
      rw [hl]
      have HK : Hid (∀ w1, Below wr.heap.size wr w1 → ∃ cs, w1.ownsRow w.heap.size 41 4 (.slice (some ⟨g, 0, none⟩) j cp) j cs ∧ OwnRow 41 w1 (ks.take j) cs F ∧ (∀ f ∈ F, w.heap.size ≤ f) ∧ (g :: F).Nodup ∧ (∀ f ∈ g :: F, f < wr.heap.size)) := fun w1 hb => by
        have hlt' := HO.out.lt
        obtain ⟨cs, g', q1, q2, q3, q4, q5, q6⟩ := HO.out.keep fun k _ hk => hb.block k hk
        obtain rfl : g = g' := by simpa [Value.ownBlock] using q2
        rw [hl] at q1
        refine ⟨cs, q1, q3, q4, q6, fun f hf => ?_⟩
        rcases List.mem_cons.1 hf with rfl | hf
        · exact hlt'.2 _ rfl
        · exact hlt'.1 f hf
      have hszw := HB.out.size
      clear hin ht h hks hl
      go_wp2_with (first
        | (go_at_call 60; refine (Calls.mono HC.out ?_); rintro e w1 ⟨v', F2, rfl, hown, hfr, hnd, hb⟩; obtain ⟨k', s', n', ao', len', cap', rfl⟩ := own_shape hown; have HOWN : Hid (Own 41 w1 ks[j] (.agg #[.int .i64 k', .string s', .int .i64 n', .slice ao' len' cap']) F2) := hown; have HFR : Hid (∀ f ∈ F2, wr.heap.size ≤ f) := hfr; have HND : Hid (F2.Nodup) := hnd; have HBB : Hid (Below wr.heap.size wr w1) := hb; have hsz1 := hb.size; obtain ⟨cs, q1, q3, q4, q6, q7⟩ := HK.out w1 hb; have Q1 : Hid (w1.ownsRow w.heap.size 41 4 (.slice (some ⟨g, 0, none⟩) j cp) j cs) := q1; have Q3 : Hid (OwnRow 41 w1 (ks.take j) cs F) := q3; have Q4 : Hid (∀ f ∈ F, w.heap.size ≤ f) := q4; have Q6 : Hid ((g :: F).Nodup) := q6; have Q7 : Hid (∀ f ∈ g :: F, f < wr.heap.size) := q7; clear q1 q3 q4 q6 q7 hown hfr hb hnd)
        | (at_builtin; go_loud (refine wpList_append_own_at _ rfl _ _ 39 rfl w.heap.size 41 i0 (.agg #[.int .i64 0, .string ⟨#[]⟩, .int .i64 0, .slice none 0 0]) 4 56 Tryz.underlying39 hi hz0 hz1 hz2 rfl (by decide) _ _ _ rfl (Q1.out.alloc _) ⟨w1.heap.size, 0, none⟩ 1 1 [.int .i64 k', .string s', .int .i64 n', .slice ao' len' cap'] rfl rfl ?c1 ?c2 ?c3 ?c4 ?c5 ?_)))
      case c1 =>
        intro j z hj
        match j, hj with
        | 0, hj => simp at hj; subst hj; simp [Addr.add]
        | 1, hj => simp at hj; subst hj; simp [Addr.add]
        | 2, hj => simp at hj; subst hj; simp [Addr.add]
        | 3, hj => simp at hj; subst hj; simp [Addr.add]
      case c2 => intro z hz; simp at hz; rcases hz with rfl | rfl | rfl | rfl <;> rfl
      case c3 => unfold maxLen; omega
      case c4 => omega
      case c5 => simp; omega
      · intro v' w2 hown' hgrow _ hat
        obtain ⟨W, hW⟩ : ∃ W, W = w1.alloc (.cells #[.int .i64 k', .string s', .int .i64 n', .slice ao' len' cap'] 41) := ⟨_, rfl⟩
        rw [← hW] at hgrow
        rw [show w1.heap.size + 1 = W.heap.size by rw [hW]; simp] at hat
        have bW : Below w1.heap.size w1 W := by rw [hW]; exact (Below.refl _ _).alloc (Nat.le_refl _) _
        have HFIN : Hid (OutS 41 w2 w.heap.size (ks.take j ++ [ks[j]]) v' (F ++ F2)) := by
          have q7 := Q7.out
          refine OutS.push (w1 := W) (g := g) (cs := cs) ?_ rfl (OwnRow.keep _ _ _ Q3.out fun f hf => bW.block f (OwnRow.lt _ _ _ Q3.out f hf)) Q4.out hBg Q6.out (Own.keep _ _ _ HOWN.out fun f hf => bW.block f (Own.lt _ _ _ HOWN.out f hf)) (fun f hf => by have := HFR.out f hf; omega) HND.out (fun f hf h' => by have := HFR.out f hf; have := q7 f h'; omega) ?_ hgrow hat
          · rw [List.length_take, Nat.min_eq_left hj, hW]; exact World.ownsRow.alloc Q1.out _
          · rw [List.length_take, Nat.min_eq_left hj]; exact hown'
        have HBN : Hid (Below w.heap.size w w2) := by
          have b1 : Below w.heap.size w W := (HB.out.trans (HBB.out.mono hszw)).trans (bW.mono (by omega))
          refine ⟨hgrow.os.trans b1.os, hgrow.tape.trans b1.tape, hgrow.output.trans b1.output, Nat.le_trans b1.size hgrow.size, fun k hk => ?_⟩
          rw [hgrow.block k (Nat.lt_of_lt_of_le hk b1.size) (by intro e; have : k = g := by simpa [Value.ownBlock] using e
                                                                omega)]
          exact b1.block k hk
        clear hown' hgrow hat Q1 Q3 Q4 Q6 Q7 HOWN HFR HND HBB bW hW
        go_wp2
        go_roundw
        case rel => exact ⟨j + 1, _, _, by omega, by go_num, rfl, HBN.out, by rw [List.take_succ_eq_append_getElem hlt]; exact HFIN.out⟩
        case measure => simp [intOf]; omega
    · have HE : Hid (OutS 41 wr w.heap.size ks vo F) := by
        have := HO.out
        rw [List.take_of_length_le (by omega)] at this
        exact this
      obtain ⟨g, cp, rfl, _⟩ := HE.out.shape
      clear HO
      go_wp2
      go_ret
      obtain ⟨F', q1, q2, q3⟩ := HE.out.own
      exact ⟨_, F', rfl, q1, q2, q3, HB.out⟩

set_option maxRecDepth 20000 in
theorem l34_termB (t : Tm) : L34OkB t := by
  refine tm_ind (p := L34OkB) ?_ t
  clear t
  intro k s n ks hks w v hin hwt
  unfold TmIn at hin
  obtain ⟨ao, cap, rfl, hk, hn, hs, hlen, hcap, hrow⟩ := hin
  have ew : (Tm.mk k s n ks).wt = s.size + (ks.length + wts ks) := by simp [Tm.wt, wts]; omega
  rw [ew] at hwt
  obtain ⟨W, hW⟩ : ∃ W, W = (w.alloc (.cells #[.int .i64 k, .string s, .int .i64 n, .slice ao ks.length cap] 41)).alloc (.cells #[.int .i64 0, .string ⟨#[]⟩, .int .i64 0, .slice none 0 0] 41) := ⟨_, rfl⟩
  have bW : Below w.heap.size w W := by rw [hW]; exact ((Below.refl _ _).alloc (Nat.le_refl _) _).alloc (by simp) _
  have HC := l34_termsB ks hks W ao cap (by omega) (fun h0 => by obtain ⟨b, off, e, hr⟩ := hrow h0; exact ⟨b, off, e, TmsIn.keep bW ks b off hr⟩)
  have k1 : W.heap[w.heap.size]? = some (.cells #[.int .i64 k, .string s, .int .i64 n, .slice ao ks.length cap] 41 (0, 0)) := by rw [hW]; exact (alloc_old _ _ (by simp)).trans (alloc_at _ _ rfl)
  have k2 : W.heap[w.heap.size + 1]? = some (.cells #[.int .i64 0, .string ⟨#[]⟩, .int .i64 0, .slice none 0 0] 41 (0, 0)) := by rw [hW]; exact alloc_at _ _ (by simp)
  have lW : W.heap.size = w.heap.size + 2 := by rw [hW]; simp
  rw [hW] at HC
  replace HC : Hid _ := HC
  have HBW : Hid (Below w.heap.size w W) := bW
  have HK : Hid (∀ w1, Below W.heap.size W w1 → w1.heap[w.heap.size]? = some (.cells #[.int .i64 k, .string s, .int .i64 n, .slice ao ks.length cap] 41 (0, 0)) ∧ w1.heap[w.heap.size + 1]? = some (.cells #[.int .i64 0, .string ⟨#[]⟩, .int .i64 0, .slice none 0 0] 41 (0, 0))) := fun w1 hb => ⟨(hb.block _ (by omega)).trans k1, (hb.block _ (by omega)).trans k2⟩
  clear hks hrow ew k1 k2 bW
  go_enter Tryz.func60, Tryz.ntmps60
  go_wp2_with (go_at_call 68; refine (Calls.mono HC.out ?_); rintro e w1 ⟨sl, F, rfl, hown, hfr, hnd, hb⟩; rw [← hW] at hfr hb; obtain ⟨ao2, len2, cap2, rfl⟩ : ∃ ao2 len2 cap2, sl = .slice ao2 len2 cap2 := (by rcases hown with ⟨rfl, _⟩ | ⟨g, cap, cs, F', rfl, _⟩ <;> exact ⟨_, _, _, rfl⟩); obtain ⟨hb2, hb1⟩ := HK.out w1 hb; have HOWN : Hid (OwnS 41 w1 ks (.slice ao2 len2 cap2) F) := hown; have HFR : Hid (∀ f ∈ F, W.heap.size ≤ f) := hfr; have HBB : Hid (Below W.heap.size W w1) := hb; have y0 := blk_cell (i := 0) hb2 (by simp); have y1 := blk_cell (i := 1) hb2 (by simp); have y2 := blk_cell (i := 2) hb2 (by simp); have y3 := blk_cell (i := 3) hb2 (by simp); have z3 := blk_frozen hb2 3; have x0 := blk_cell (i := 0) hb1 (by simp); have x1 := blk_cell (i := 1) hb1 (by simp); have x2 := blk_cell (i := 2) hb1 (by simp); have x3 := blk_cell (i := 3) hb1 (by simp); have u0 := blk_frozen hb1 0; have u1 := blk_frozen hb1 1; have u2 := blk_frozen hb1 2; have u3 := blk_frozen hb1 3; simp only [List.getElem_toArray, List.getElem_cons_zero, List.getElem_cons_succ] at y0 y1 y2 y3 x0 x1 x2 x3; have H1 : Hid (w1.heap[w.heap.size + 1]? = some (.cells #[.int .i64 0, .string ⟨#[]⟩, .int .i64 0, .slice none 0 0] 41 (0, 0))) := hb1; clear hown hfr hb hb2 hb1)
  have hsz := HBB.out.size
  have hR : (((((w1.setCell ⟨w.heap.size, 3, none⟩ (.slice ao2 len2 cap2)).setCell ⟨w.heap.size + 1, 0, none⟩ (.int .i64 k)).setCell ⟨w.heap.size + 1, 1, none⟩ (.string s)).setCell ⟨w.heap.size + 1, 2, none⟩ (.int .i64 n)).setCell ⟨w.heap.size + 1, 3, none⟩ (.slice ao2 len2 cap2)).heap[w.heap.size + 1]? = some (.cells #[.int .i64 k, .string s, .int .i64 n, .slice ao2 len2 cap2] 41 (0, 0)) := by
    have := blk_set (i := 3) (blk_set (i := 2) (blk_set (i := 1) (blk_set (i := 0) ((blk_other (g := w.heap.size) (i := 3) (w := w1) (.slice ao2 len2 cap2) (show w.heap.size + 1 ≠ w.heap.size by omega)).trans H1.out) (.int .i64 k)) (.string s)) (.int .i64 n)) (.slice ao2 len2 cap2)
    simpa using this
  have hbl : Below w.heap.size w w1 := HBW.out.trans (HBB.out.mono HBW.out.size)
  refine bodyPost_ret_by (results_cell_row rfl _ _ (w.heap.size + 1) 41 _ (0, 0) _ rfl hR Tryz.underlying41 rfl (by kernel_rfl)) rfl ?_
  refine ⟨_, F, rfl, own_mk ?_ hk hn hs, ?_, hnd, ?_⟩
  · refine OwnS.keep HOWN.out fun f hf => ?_
    have := HFR.out f hf
    rw [blk_other _ (by omega), blk_other _ (by omega), blk_other _ (by omega), blk_other _ (by omega), blk_other _ (by omega)]
  · intro f hf
    have := HFR.out f hf
    omega
  · exact below_set (below_set (below_set (below_set (below_set hbl (by omega) _) (by omega) _) (by omega) _) (by omega) _) (by omega) _
end Go.Proofs.YtmhmlkdoaojimapGreatDoor

/- spec.l34Clause. -/
namespace Go.Proofs.YtmhmlkdoaojimapGreatDoor
open Go.RowKit

theorem below_hpB {w w' : World} (hb : Below w.heap.size w w') {g : Nat} {x : Obj} (h : w.heap[g]? = some x) : w'.heap[g]? = some x := (hb.block g (Array.getElem?_eq_some_iff.1 h).1).trans h
theorem blk9_set4aB {w : World} {g : Nat} {c0 c1 c2 c3 c4 c5 c6 c7 c8 d0 d1 d2 d3 : Value} {T : TypeId} (h : w.heap[g]? = some (.cells #[c0, c1, c2, c3, c4, c5, c6, c7, c8] T (0, 0))) :
    ((((w.setCell ⟨g, 0, none⟩ d0).setCell ⟨g, 1, none⟩ d1).setCell ⟨g, 2, none⟩ d2).setCell ⟨g, 3, none⟩ d3).heap[g]? = some (.cells #[d0, d1, d2, d3, c4, c5, c6, c7, c8] T (0, 0)) := by
  have := blk_set (i := 3) (blk_set (i := 2) (blk_set (i := 1) (blk_set (i := 0) h d0) d1) d2) d3
  simpa using this
theorem set4b_otherB {w : World} {g f : Nat} {d0 d1 d2 d3 : Value} (h : f ≠ g) :
    ((((w.setCell ⟨g, 4, none⟩ d0).setCell ⟨g, 5, none⟩ d1).setCell ⟨g, 6, none⟩ d2).setCell ⟨g, 7, none⟩ d3).heap[f]? = w.heap[f]? := by
  rw [blk_other _ h, blk_other _ h, blk_other _ h, blk_other _ h]

set_option maxHeartbeats 4000000 in
set_option maxRecDepth 20000 in
theorem l34_clauseB (H B : Tm) (f : ByteArray) (w : World) (k1 s1 n1 a1 l1 c1 k2 s2 n2 a2 l2 c2) (h1 : TmIn w H (.agg #[.int .i64 k1, .string s1, .int .i64 n1, .slice a1 l1 c1])) (h2 : TmIn w B (.agg #[.int .i64 k2, .string s2, .int .i64 n2, .slice a2 l2 c2])) (o1 : H.wt ≤ 1100000) (o2 : B.wt ≤ 1100000) :
    Calls Tryz.prog 52 #[.agg #[.int .i64 k1, .string s1, .int .i64 n1, .slice a1 l1 c1, .int .i64 k2, .string s2, .int .i64 n2, .slice a2 l2 c2, .string f]] w fun e w' => ∃ k s n ao l c k' s' n' ao' l' c' F G, e = .returned (.agg #[.int .i64 k, .string s, .int .i64 n, .slice ao l c, .int .i64 k', .string s', .int .i64 n', .slice ao' l' c', .string f]) ∧ Own 41 w' H (.agg #[.int .i64 k, .string s, .int .i64 n, .slice ao l c]) F ∧ Own 41 w' B (.agg #[.int .i64 k', .string s', .int .i64 n', .slice ao' l' c']) G ∧
      (∀ x ∈ F, w.heap.size ≤ x) ∧ (∀ x ∈ G, w.heap.size ≤ x) ∧ F.Nodup ∧ G.Nodup ∧ (∀ x ∈ G, x ∉ F) ∧ Below w.heap.size w w' := by
  obtain ⟨W, hW⟩ : ∃ W, W = (w.alloc (.cells #[.int .i64 k1, .string s1, .int .i64 n1, .slice a1 l1 c1, .int .i64 k2, .string s2, .int .i64 n2, .slice a2 l2 c2, .string f] 43)).alloc (.cells #[.int .i64 0, .string ⟨#[]⟩, .int .i64 0, .slice none 0 0, .int .i64 0, .string ⟨#[]⟩, .int .i64 0, .slice none 0 0, .string ⟨#[]⟩] 43) := ⟨_, rfl⟩
  have bW : Below w.heap.size w W := by rw [hW]; exact ((Below.refl _ _).alloc (Nat.le_refl _) _).alloc (by simp) _
  have lW : W.heap.size = w.heap.size + 2 := by rw [hW]; simp
  have k1' : W.heap[w.heap.size]? = some (.cells #[.int .i64 k1, .string s1, .int .i64 n1, .slice a1 l1 c1, .int .i64 k2, .string s2, .int .i64 n2, .slice a2 l2 c2, .string f] 43 (0, 0)) := by rw [hW]; exact (alloc_old _ _ (by simp)).trans (alloc_at _ _ rfl)
  have k2' : W.heap[w.heap.size + 1]? = some (.cells #[.int .i64 0, .string ⟨#[]⟩, .int .i64 0, .slice none 0 0, .int .i64 0, .string ⟨#[]⟩, .int .i64 0, .slice none 0 0, .string ⟨#[]⟩] 43 (0, 0)) := by rw [hW]; exact alloc_at _ _ (by simp)
  have HC1 : Hid _ := l34_termB H W _ (TmIn.keep bW _ _ h1) o1
  have HC2 : Hid (∀ w1, Below w.heap.size w w1 → Calls Tryz.prog 60 #[.agg #[.int .i64 k2, .string s2, .int .i64 n2, .slice a2 l2 c2]] w1 fun e w' => ∃ v' F, e = .returned v' ∧ Own 41 w' B v' F ∧ (∀ x ∈ F, w1.heap.size ≤ x) ∧ F.Nodup ∧ Below w1.heap.size w1 w') := fun w1 hb => l34_termB B w1 _ (TmIn.keep hb _ _ h2) o2
  have HBW : Hid (Below w.heap.size w W) := bW
  have HL : Hid (W.heap.size = w.heap.size + 2) := lW
  have HK1 : Hid (W.heap[w.heap.size]? = _) := k1'
  have HK2 : Hid (W.heap[w.heap.size + 1]? = _) := k2'
  clear h1 h2 o1 o2 bW lW k1' k2'
  go_enter Tryz.func52, Tryz.ntmps52
  go_upto_region 1 with fail
  rw [← hW]
  clear hW
  obtain ⟨p, hp⟩ : ∃ p, p = w.heap.size := ⟨_, rfl⟩
  rw [← hp] at HL HK1 HK2 ⊢
  have HPP : Hid (p = w.heap.size) := hp
  clear hp
  obtain ⟨⟨z0, z1, z2, z3, z4, z5, z6, z7, z8⟩, g0, g1, g2, g3, g4, g5, g6, g7, g8⟩ := blk9 HK1.out
  go_upto_region 2 with (go_at_call 60; refine (Calls.mono HC1.out ?_); rintro e w1 ⟨v', F, rfl, o, hf, nd, hb⟩; obtain ⟨k3, s3, n3, a3, l3, c3, rfl⟩ := own_shape o; have HO1 : Hid _ := o; have HF1 : Hid ((∀ x ∈ F, p + 2 ≤ x) ∧ F.Nodup) := ⟨fun x hx => by have := hf x hx; have := HL.out; omega, nd⟩; have HB1 : Hid (Below W.heap.size W w1) := hb; have hk := below_hpB hb HK1.out; have HKP : Hid _ := hk; clear o hf nd hb; clear z0 z1 z2 z3 z4 z5 z6 z7 z8 g0 g1 g2 g3 g4 g5 g6 g7 g8; obtain ⟨⟨z0, z1, z2, z3, z4, z5, z6, z7, z8⟩, g0, g1, g2, g3, g4, g5, g6, g7, g8⟩ := blk9 hk; clear hk)
  clear z0 z1 z2 z3 z4 z5 z6 z7 z8 g0 g1 g2 g3 g4 g5 g6 g7 g8
  obtain ⟨V1, hV1⟩ : ∃ V1, V1 = ((((w1.setCell ⟨p, 0, none⟩ (.int .i64 k3)).setCell ⟨p, 1, none⟩ (.string s3)).setCell ⟨p, 2, none⟩ (.int .i64 n3)).setCell ⟨p, 3, none⟩ (.slice a3 l3 c3)) := ⟨_, rfl⟩
  rw [← hV1]
  have b1 : Below p w V1 := by rw [hV1]; exact blk4_below (by rw [HPP.out]; exact HBW.out.trans (HB1.out.mono HBW.out.size)) (Nat.le_refl _)
  have hk1 : V1.heap[p]? = some (.cells #[.int .i64 k3, .string s3, .int .i64 n3, .slice a3 l3 c3, .int .i64 k2, .string s2, .int .i64 n2, .slice a2 l2 c2, .string f] 43 (0, 0)) := by rw [hV1]; exact blk9_set4aB HKP.out
  have hk2 : V1.heap[p + 1]? = some (.cells #[.int .i64 0, .string ⟨#[]⟩, .int .i64 0, .slice none 0 0, .int .i64 0, .string ⟨#[]⟩, .int .i64 0, .slice none 0 0, .string ⟨#[]⟩] 43 (0, 0)) := by rw [hV1]; exact (blk4_other (by omega)).trans (below_hpB HB1.out HK2.out)
  have hs1 : V1.heap.size = w1.heap.size := by rw [hV1]; simp [World.setCell]
  have HOV : Hid (Own 41 V1 H (.agg #[.int .i64 k3, .string s3, .int .i64 n3, .slice a3 l3 c3]) F) := by rw [hV1]; exact Own.keep _ _ _ HO1.out fun x hx => blk4_other (by have := HF1.out.1 x hx; omega)
  have HS1 : Hid (∀ x ∈ F, x < V1.heap.size) := fun x hx => by rw [hs1]; exact Own.lt _ _ _ HO1.out x hx
  have HB1V : Hid (Below w.heap.size w V1) := by show Below _ _ _; rw [← HPP.out]; exact b1
  have HP1 : Hid (p + 2 ≤ V1.heap.size) := by have := HB1.out.size; have := HL.out; show _ ≤ _; omega
  have HK3 : Hid _ := hk1
  have HK4 : Hid _ := hk2
  have HC3 : Hid _ := HC2.out V1 HB1V.out
  clear hV1 b1 hs1 hk2 HKP HO1 HB1
  obtain ⟨⟨z0, z1, z2, z3, z4, z5, z6, z7, z8⟩, g0, g1, g2, g3, g4, g5, g6, g7, g8⟩ := blk9 hk1
  clear hk1
  go_upto_region 3 with (go_at_call 60; refine (Calls.mono HC3.out ?_); rintro e w2 ⟨v', G, rfl, o, hf, nd, hb⟩; obtain ⟨k4, s4, n4, a4, l4, c4, rfl⟩ := own_shape o; have HO2 : Hid _ := o; have HG : Hid ((∀ x ∈ G, V1.heap.size ≤ x) ∧ G.Nodup) := ⟨hf, nd⟩; have HB2 : Hid (Below V1.heap.size V1 w2) := hb; have hk := below_hpB hb HK3.out; have HKP : Hid _ := hk; clear o hf nd hb; clear z0 z1 z2 z3 z4 z5 z6 z7 z8 g0 g1 g2 g3 g4 g5 g6 g7 g8; obtain ⟨⟨z0, z1, z2, z3, z4, z5, z6, z7, z8⟩, g0, g1, g2, g3, g4, g5, g6, g7, g8⟩ := blk9 hk; clear hk)
  clear z0 z1 z2 z3 z4 z5 z6 z7 z8 g0 g1 g2 g3 g4 g5 g6 g7 g8
  obtain ⟨V2, hV2⟩ : ∃ V2, V2 = ((((w2.setCell ⟨p, 4, none⟩ (.int .i64 k4)).setCell ⟨p, 5, none⟩ (.string s4)).setCell ⟨p, 6, none⟩ (.int .i64 n4)).setCell ⟨p, 7, none⟩ (.slice a4 l4 c4)) := ⟨_, rfl⟩
  rw [← hV2]
  have b2 : Below p w V2 := by rw [hV2]; exact below_set (below_set (below_set (below_set (by have := HB1V.out; rw [← HPP.out] at this; exact this.trans (HB2.out.mono (by have := HP1.out; omega))) (Nat.le_refl _) _) (Nat.le_refl _) _) (Nat.le_refl _) _) (Nat.le_refl _) _
  have hk1 : V2.heap[p]? = some (.cells #[.int .i64 k3, .string s3, .int .i64 n3, .slice a3 l3 c3, .int .i64 k4, .string s4, .int .i64 n4, .slice a4 l4 c4, .string f] 43 (0, 0)) := by rw [hV2]; exact blk9_set4b HKP.out
  have hk2 : V2.heap[p + 1]? = some (.cells #[.int .i64 0, .string ⟨#[]⟩, .int .i64 0, .slice none 0 0, .int .i64 0, .string ⟨#[]⟩, .int .i64 0, .slice none 0 0, .string ⟨#[]⟩] 43 (0, 0)) := by rw [hV2]; exact (set4b_otherB (by omega)).trans (below_hpB HB2.out HK4.out)
  have HO3 : Hid (Own 41 V2 H (.agg #[.int .i64 k3, .string s3, .int .i64 n3, .slice a3 l3 c3]) F) := by rw [hV2]; exact Own.keep _ _ _ HOV.out fun x hx => (set4b_otherB (by have := HF1.out.1 x hx; omega)).trans (HB2.out.block x (HS1.out x hx))
  have HO4 : Hid (Own 41 V2 B (.agg #[.int .i64 k4, .string s4, .int .i64 n4, .slice a4 l4 c4]) G) := by rw [hV2]; exact Own.keep _ _ _ HO2.out fun x hx => set4b_otherB (by have := HG.out.1 x hx; have := HP1.out; omega)
  have HFIN : Hid (∀ d0 d1 d2 d3 d4 d5 d6 d7 d8, Own 41 (set9 V2 (p + 1) d0 d1 d2 d3 d4 d5 d6 d7 d8) H (.agg #[.int .i64 k3, .string s3, .int .i64 n3, .slice a3 l3 c3]) F ∧ Own 41 (set9 V2 (p + 1) d0 d1 d2 d3 d4 d5 d6 d7 d8) B (.agg #[.int .i64 k4, .string s4, .int .i64 n4, .slice a4 l4 c4]) G ∧
      (∀ x ∈ F, p ≤ x) ∧ (∀ x ∈ G, p ≤ x) ∧ F.Nodup ∧ G.Nodup ∧ (∀ x ∈ G, x ∉ F) ∧ Below p w (set9 V2 (p + 1) d0 d1 d2 d3 d4 d5 d6 d7 d8)) := fun d0 d1 d2 d3 d4 d5 d6 d7 d8 =>
    ⟨Own.keep _ _ _ HO3.out fun x hx => blk9_other (by have := HF1.out.1 x hx; omega), Own.keep _ _ _ HO4.out fun x hx => blk9_other (by have := HG.out.1 x hx; have := HP1.out; omega), fun x hx => by have := HF1.out.1 x hx; omega, fun x hx => by have := HG.out.1 x hx; have := HP1.out; omega, HF1.out.2, HG.out.2, fun x hx h => by have := HG.out.1 x hx; have := HS1.out x h; omega, blk9_below b2 (by omega)⟩
  have HZ : Hid _ := hk2
  clear hV2 b2 HKP HO2 HOV
  obtain ⟨⟨z0, z1, z2, z3, z4, z5, z6, z7, z8⟩, _⟩ := blk9 hk1
  obtain ⟨⟨cc0, cc1, cc2, cc3, cc4, cc5, cc6, cc7, cc8⟩, g0, g1, g2, g3, g4, g5, g6, g7, g8⟩ := blk9 hk2
  clear hk1 hk2
  go_wp2
  refine bodyPost_ret_by (results_cell_row rfl _ _ (p + 1) 43 _ (0, 0) _ rfl (blk9_set HZ.out) Tryz.underlying43 rfl (by kernel_rfl)) rfl ?_
  rw [← HPP.out]
  exact ⟨_, _, _, _, _, _, _, _, _, _, _, _, F, G, rfl, HFIN.out _ _ _ _ _ _ _ _ _⟩
end Go.Proofs.YtmhmlkdoaojimapGreatDoor

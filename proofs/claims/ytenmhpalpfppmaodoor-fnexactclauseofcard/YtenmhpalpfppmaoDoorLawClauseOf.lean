/- FnExactClauseOf answers true at every term and every text: the code's ClauseOf answers as the specification's, leaves the term as it was, and its answer owns its memory. No condition but what the row itself lays (the tables of internal/strconv and math/bits). -/
import Derived.Test.YtenmhpalpfppmaoDoorCards
import Derived.Test.YtenmhpalpfppmaoDoorTie
import Derived.Test.YtenmhpalpfppmaoDoorClT
import Derived.Test.YtenmhpalpfppmaoDoorClJ
import Derived.Test.YtenmhpalpfppmaoDoorClEq
import Derived.Test.YtenmhpalpfppmaoDoorClMark
import Derived.Test.YtenmhpalpfppmaoDoorTmSz
import Derived.Test.YtenmhpalpfppmaoDoorMrg10
import Derived.Test.YtenmhpalpfppmaoDoorTmEq
import Derived.Test.YtenmhpalpfppmaoDoorMrg9
import Derived.Carry
import Derived.ChangeOld
import Derived.ChangeMaps
import Derived.ShutString
import Derived.OpenShut
import Derived.Below
import Derived.Deep.DeepHandedRow
import Derived.Lib.LaidTab
import Derived.Stop.LaidErr
namespace Go.Proofs.YtenmhpalpfppmaoDoor.fnExactClauseOf
open Go.ChangeShapes Go.WideShapes Go.ChangeAt Go.RowKit
open Go.ChangeMaps (open_string shut_string)

abbrev PowW (w : World) : Prop := Lib.TabIs Tryd.prog w "internal/strconv.uint64pow10" .u64 Lib.pow10Tab

set_option maxHeartbeats 8000000 in
set_option maxRecDepth 20000 in
theorem walk (t : Tm) (v : Value) (f : ByteArray) (m : f.size ≤ maxLen) (w : World) (hin : TmIn w t v) (hT : PowW w) :
    Calls Tryd.prog 5 #[v, .string f] w fun e w' => e = .returned (.bool true) ∧ Below w.heap.size w w' := by
  obtain ⟨k, s, n, ao, len, cap, rfl⟩ := tm_shape hin
  unfold maxLen at m
  obtain ⟨W, hW⟩ : ∃ W, W = w.alloc (.cells #[.int .i64 k, .string s, .int .i64 n, .slice ao len cap] 26) := ⟨_, rfl⟩
  have bW : Below w.heap.size w W := by rw [hW]; exact (Below.refl _ _).alloc (Nat.le_refl _) _
  have lW : W.heap.size = w.heap.size + 1 := by rw [hW]; simp
  have k1 : W.heap[w.heap.size]? = some (.cells #[.int .i64 k, .string s, .int .i64 n, .slice ao len cap] 26 (0, 0)) := by rw [hW]; exact heap_alloc_new w _
  have HARG : Hid (∀ w', Below W.heap.size W w' → TmIn w' t (.agg #[.int .i64 k, .string s, .int .i64 n, .slice ao len cap]) ∧ w'.cell? ⟨w.heap.size, 0, none⟩ = some (.int .i64 k) ∧ w'.cell? ⟨w.heap.size, 1, none⟩ = some (.string s) ∧ w'.cell? ⟨w.heap.size, 2, none⟩ = some (.int .i64 n) ∧ w'.cell? ⟨w.heap.size, 3, none⟩ = some (.slice ao len cap)) := fun w' hb => by
    obtain ⟨q0, q1, q2, q3, _⟩ := blk4 ((hb.block _ (by omega)).trans k1)
    exact ⟨TmIn.keep hb _ _ (TmIn.keep bW _ _ hin), q0, q1, q2, q3⟩
  have HSZ := sz_term t W _ 1048576 (HARG.out W (Below.refl _ _)).1 (Nat.le_refl _)
  have HBW : Hid (Below w.heap.size w W) := bW
  have HPW : Hid (∀ w', Below W.heap.size W w' → PowW w') := fun w' hb => pow_keep (pow_keep hT bW) hb
  clear hin k1 bW lW hT
  by_cases hf : f.size ≤ 1048576
  case neg =>
    have hlt : 1048576 < f.size := by omega
    clear HSZ HARG HPW hf
    go_enter Tryd.func5, Tryd.ntmps5
    go_wp2
    go_ret
    exact ⟨rfl, by rw [← hW]; exact HBW.out⟩
  by_cases hwt : t.wt ≤ 1048576
  · rw [show szR t.wt 1048576 = ((1048576 - t.wt : Nat) : Int) from if_pos hwt, hW] at HSZ
    replace HSZ : Hid _ := HSZ
    have hl : ¬ ((1048576 - t.wt : Nat) : Int) < 0 := by omega
    have HTW : Hid (t.wt ≤ 1048576) := hwt
    generalize ((1048576 - t.wt : Nat) : Int) = L1 at *
    have HSP0 : ∀ w1 v1, TmIn w1 t v1 → Calls Tryd.prog 13 #[v1, .string f] w1 (ClOut 31 (clH t) (clBd t) (clF t f) (clB t) w1) := fun w1 v1 h => s_clauseOf t f v1 w1 h
    have HIM0 : ∀ w1 v1, TmIn w1 t v1 → PowW w1 → Calls Tryd.prog 14 #[v1, .string f] w1 (ClOut 31 (clH t) (clBd t) (clF t f) (clB t) w1) := fun w1 v1 h1 h2 => i_clauseOf t f v1 w1 h1 hf h2
    have hns := cl_ns t
    have hnt : ns t.kids ≤ 1048576 := by
      have h1 := n_le_wt t
      obtain ⟨k9, s9, n9, ks9⟩ := t
      rw [n_mk] at h1
      show ns ks9 ≤ 1048576
      omega
    obtain ⟨H, hH⟩ : ∃ H, H = clH t := ⟨_, rfl⟩
    obtain ⟨B, hB⟩ : ∃ B, B = clBd t := ⟨_, rfl⟩
    obtain ⟨g, hg⟩ : ∃ g, g = clF t f := ⟨_, rfl⟩
    obtain ⟨b, hb⟩ : ∃ b, b = clB t := ⟨_, rfl⟩
    rw [← hH, ← hB, ← hg, ← hb] at HSP0 HIM0
    rw [← hH, ← hB] at hns
    unfold ClOut at HSP0 HIM0
    have HSP : Hid _ := HSP0
    have HIM : Hid _ := HIM0
    have HNS : Hid (ns t.kids ≤ 1048576 ∧ ns H.kids ≤ 400 ∧ ns B.kids ≤ 400) := ⟨hnt, hns⟩
    have hflen : ¬ 1048576 < f.size := by omega
    have hbb : (b != b) = false := by simp
    clear hwt HSP0 HIM0 hns hnt hH hB hg hb hf
    go_enter Tryd.func5, Tryd.ntmps5
    go_upto_region 7 with (go_at_call 8; refine (Calls.mono HSZ.out ?_); rintro e w1 ⟨rfl, hb⟩; rw [← hW] at hb; have HB : Hid (Below W.heap.size W w1) := hb; clear hb)
    clear hflen m
    -- w0
    obtain ⟨g2, c1, c2, c3, c4⟩ := HARG.out w1 HB.out
    have HC1 : Hid _ := to_term t w1 _ g2 HTW.out
    clear g2 hW HSZ
    go_upto_region 8 with (first
      | (go_at_call 10; refine (Calls.mono HC1.out ?_); rintro e w2 ⟨v1, F1, rfl, o1, _, _, hb⟩; obtain ⟨ka, sa, na, aoa, la, ca, rfl⟩ := own_shape o1; have HB2 : Hid (Below W.heap.size W w2) := HB.out.trans (hb.mono HB.out.size); have HC2 : Hid _ := HSP.out w2 _ (Own.toIn _ _ _ o1); clear o1 hb)
      | (go_at_call 13; refine (Calls.mono HC2.out ?_); rintro e w3 ⟨k3, s3, n3, a3, l3, c3, k4, s4, n4, a4, l4, c4, F3, G3, rfl, o3, o4, _, _, _, _, _, hb⟩; have T3 : Hid (TmIn w3 H (.agg #[.int .i64 k3, .string s3, .int .i64 n3, .slice a3 l3 c3])) := Own.toIn _ _ _ o3; have T4 : Hid (TmIn w3 B (.agg #[.int .i64 k4, .string s4, .int .i64 n4, .slice a4 l4 c4])) := Own.toIn _ _ _ o4; have HB3 : Hid (Below W.heap.size W w3) := HB2.out.trans (hb.mono HB2.out.size); clear o3 o4 hb))
    clear c1 c2 HC1 HC2
    obtain ⟨W3, hW3⟩ : ∃ W3, W3 = w3.alloc (.cells #[.int .i64 k3, .string s3, .int .i64 n3, .slice a3 l3 c3, .int .i64 k4, .string s4, .int .i64 n4, .slice a4 l4 c4, .string g] 36) := ⟨_, rfl⟩
    rw [← hW3]
    have bW3 : Below w3.heap.size w3 W3 := by rw [hW3]; exact (Below.refl _ _).alloc (Nat.le_refl _) _
    have k6 : W3.heap[w3.heap.size]? = some (.cells #[.int .i64 k3, .string s3, .int .i64 n3, .slice a3 l3 c3, .int .i64 k4, .string s4, .int .i64 n4, .slice a4 l4 c4, .string g] 36 (0, 0)) := by rw [hW3]; exact heap_alloc_new _ _
    have sW3 : W3.heap.size = w3.heap.size + 1 := by rw [hW3]; simp
    obtain ⟨p6, hp6⟩ : ∃ p6, p6 = w3.heap.size := ⟨_, rfl⟩
    have HBB : Hid (Below W.heap.size W W3) := HB3.out.trans (bW3.mono HB3.out.size)
    have t6 : TmIn W3 H (.agg #[.int .i64 k3, .string s3, .int .i64 n3, .slice a3 l3 c3]) := TmIn.keep bW3 _ _ T3.out
    have t6b : TmIn W3 B (.agg #[.int .i64 k4, .string s4, .int .i64 n4, .slice a4 l4 c4]) := TmIn.keep bW3 _ _ T4.out
    rw [← hp6] at k6 sW3 ⊢
    have H6 : Hid (∀ w', Below W3.heap.size W3 w' → (w'.cell? ⟨p6, 0, none⟩ = some (.int .i64 k3) ∧ w'.cell? ⟨p6, 1, none⟩ = some (.string s3) ∧ w'.cell? ⟨p6, 2, none⟩ = some (.int .i64 n3) ∧ w'.cell? ⟨p6, 3, none⟩ = some (.slice a3 l3 c3) ∧ w'.cell? ⟨p6, 4, none⟩ = some (.int .i64 k4) ∧ w'.cell? ⟨p6, 5, none⟩ = some (.string s4) ∧ w'.cell? ⟨p6, 6, none⟩ = some (.int .i64 n4) ∧ w'.cell? ⟨p6, 7, none⟩ = some (.slice a4 l4 c4) ∧ w'.cell? ⟨p6, 8, none⟩ = some (.string g)) ∧ TmIn w' H (.agg #[.int .i64 k3, .string s3, .int .i64 n3, .slice a3 l3 c3]) ∧ TmIn w' B (.agg #[.int .i64 k4, .string s4, .int .i64 n4, .slice a4 l4 c4])) := fun w' hb =>
      ⟨(blk9 ((hb.block p6 (by omega)).trans k6)).1, TmIn.keep hb _ _ t6, TmIn.keep hb _ _ t6b⟩
    clear hW3 bW3 k6 sW3 hp6 t6 t6b T3 T4 HB3 HB2 HB
    -- x0
    obtain ⟨g2, d1, d2, d3, d4⟩ := HARG.out W3 HBB.out
    have HC7 : Hid _ := to_term t W3 _ g2 HTW.out
    clear g2
    go_upto_region 9 with (go_at_call 10; refine (Calls.mono HC7.out ?_); rintro e w4 ⟨v7, F7, rfl, o7, f7, n7, b7⟩; obtain ⟨k7, s7, n7, a7, l7, c7, rfl⟩ := own_shape o7; have O7 : Hid (Own 31 w4 t (.agg #[.int .i64 k7, .string s7, .int .i64 n7, .slice a7 l7 c7]) F7) := o7; have N7 : Hid ((∀ f ∈ F7, W3.heap.size ≤ f) ∧ F7.Nodup) := ⟨f7, by assumption⟩; have B7 : Hid (Below W3.heap.size W3 w4) := b7; clear o7 f7 b7)
    obtain ⟨W4, hW4⟩ : ∃ W4, W4 = w4.alloc (.cells #[.int .i64 k7, .string s7, .int .i64 n7, .slice a7 l7 c7] 31) := ⟨_, rfl⟩
    rw [← hW4]
    have bW4 : Below w4.heap.size w4 W4 := by rw [hW4]; exact (Below.refl _ _).alloc (Nat.le_refl _) _
    have k7b : W4.heap[w4.heap.size]? = some (.cells #[.int .i64 k7, .string s7, .int .i64 n7, .slice a7 l7 c7] 31 (0, 0)) := by rw [hW4]; exact heap_alloc_new _ _
    have HB4 : Hid (Below W3.heap.size W3 W4) := B7.out.trans (bW4.mono B7.out.size)
    have O7' : Hid (Own 31 W4 t (.agg #[.int .i64 k7, .string s7, .int .i64 n7, .slice a7 l7 c7]) F7) := Own.keep _ _ _ O7.out fun f hf => bW4.block f (Own.lt _ _ _ O7.out f hf)
    have L7 : Hid (∀ f ∈ F7, f < w4.heap.size) := Own.lt _ _ _ O7.out
    have sW4 : W4.heap.size = w4.heap.size + 1 := by rw [hW4]; simp
    have hs34 : W3.heap.size ≤ w4.heap.size := B7.out.size
    obtain ⟨p7, hp7⟩ : ∃ p7, p7 = w4.heap.size := ⟨_, rfl⟩
    rw [← hp7] at k7b sW4 L7 hs34 ⊢
    have K7 : Hid (W4.heap[p7]? = some (.cells #[.int .i64 k7, .string s7, .int .i64 n7, .slice a7 l7 c7] 31 (0, 0))) := k7b
    clear hW4 bW4 k7b O7 B7 hp7 d1 d2 d3 d4 HC7
    -- g0
    obtain ⟨e0, e1, e2, e3, _⟩ := blk4 K7.out
    have HC9 : Hid _ := HIM.out W4 _ (Own.toIn _ _ _ O7'.out) (HPW.out W4 (HBB.out.trans (HB4.out.mono HBB.out.size)))
    go_upto_region 10 with (go_at_call 14; refine (Calls.mono HC9.out ?_); rintro e w6 ⟨k9, s9, n9, a9, l9, c9, k10, s10, n10, a10, l10, c10, F9, G9, rfl, o9, o10, f9, f10, nd9, nd10, dj, b9⟩; have O9 : Hid (Own 31 w6 H (.agg #[.int .i64 k9, .string s9, .int .i64 n9, .slice a9 l9 c9]) F9 ∧ Own 31 w6 B (.agg #[.int .i64 k10, .string s10, .int .i64 n10, .slice a10 l10 c10]) G9) := ⟨o9, o10⟩; have N9 : Hid ((∀ f ∈ F9, W4.heap.size ≤ f) ∧ (∀ f ∈ G9, W4.heap.size ≤ f) ∧ F9.Nodup ∧ G9.Nodup ∧ (∀ x ∈ G9, x ∉ F9)) := ⟨f9, f10, nd9, nd10, dj⟩; have B9 : Hid (Below W4.heap.size W4 w6) := b9; clear o9 o10 f9 f10 nd9 nd10 dj b9)
    obtain ⟨W6, hW6⟩ : ∃ W6, W6 = w6.alloc (.cells #[.int .i64 k9, .string s9, .int .i64 n9, .slice a9 l9 c9, .int .i64 k10, .string s10, .int .i64 n10, .slice a10 l10 c10, .string g] 36) := ⟨_, rfl⟩
    rw [← hW6]
    have bW6 : Below w6.heap.size w6 W6 := by rw [hW6]; exact (Below.refl _ _).alloc (Nat.le_refl _) _
    have k9b : W6.heap[w6.heap.size]? = some (.cells #[.int .i64 k9, .string s9, .int .i64 n9, .slice a9 l9 c9, .int .i64 k10, .string s10, .int .i64 n10, .slice a10 l10 c10, .string g] 36 (0, 0)) := by rw [hW6]; exact heap_alloc_new _ _
    have HB6 : Hid (Below W4.heap.size W4 W6) := B9.out.trans (bW6.mono B9.out.size)
    have O9' : Hid (Own 31 W6 H (.agg #[.int .i64 k9, .string s9, .int .i64 n9, .slice a9 l9 c9]) F9 ∧ Own 31 W6 B (.agg #[.int .i64 k10, .string s10, .int .i64 n10, .slice a10 l10 c10]) G9) := ⟨Own.keep _ _ _ O9.out.1 fun f hf => bW6.block f (Own.lt _ _ _ O9.out.1 f hf), Own.keep _ _ _ O9.out.2 fun f hf => bW6.block f (Own.lt _ _ _ O9.out.2 f hf)⟩
    have L9 : Hid ((∀ f ∈ F9, f < w6.heap.size) ∧ ∀ f ∈ G9, f < w6.heap.size) := ⟨Own.lt _ _ _ O9.out.1, Own.lt _ _ _ O9.out.2⟩
    have sW6 : W6.heap.size = w6.heap.size + 1 := by rw [hW6]; simp
    have hs46 : W4.heap.size ≤ w6.heap.size := B9.out.size
    obtain ⟨p9, hp9⟩ : ∃ p9, p9 = w6.heap.size := ⟨_, rfl⟩
    rw [← hp9] at k9b sW6 L9 hs46 ⊢
    have K9 : Hid (W6.heap[p9]? = some (.cells #[.int .i64 k9, .string s9, .int .i64 n9, .slice a9 l9 c9, .int .i64 k10, .string s10, .int .i64 n10, .slice a10 l10 c10, .string g] 36 (0, 0))) := k9b
    have O7b : Hid (Own 31 W6 t (.agg #[.int .i64 k7, .string s7, .int .i64 n7, .slice a7 l7 c7]) F7) := Own.keep _ _ _ O7'.out fun f hf => HB6.out.block f (Own.lt _ _ _ O7'.out f hf)
    have K7b : Hid (W6.heap[p7]? = some (.cells #[.int .i64 k7, .string s7, .int .i64 n7, .slice a7 l7 c7] 31 (0, 0))) := (HB6.out.block p7 (by omega)).trans K7.out
    have HB36 : Hid (Below W3.heap.size W3 W6) := HB4.out.trans (HB6.out.mono HB4.out.size)
    clear hW6 bW6 k9b O9 B9 hp9 HC9 e0 e1 e2 e3 O7' K7
    have HALL : Hid (∀ w', Out (F7 ++ (F9 ++ G9)) W6 w' → Below W3.heap.size W3 w' ∧ (w'.cell? ⟨p7, 0, none⟩ = some (.int .i64 k7) ∧ w'.cell? ⟨p7, 1, none⟩ = some (.string s7) ∧ w'.cell? ⟨p7, 2, none⟩ = some (.int .i64 n7) ∧ w'.cell? ⟨p7, 3, none⟩ = some (.slice a7 l7 c7)) ∧ (w'.cell? ⟨p9, 0, none⟩ = some (.int .i64 k9) ∧ w'.cell? ⟨p9, 1, none⟩ = some (.string s9) ∧ w'.cell? ⟨p9, 2, none⟩ = some (.int .i64 n9) ∧ w'.cell? ⟨p9, 3, none⟩ = some (.slice a9 l9 c9) ∧ w'.cell? ⟨p9, 4, none⟩ = some (.int .i64 k10) ∧ w'.cell? ⟨p9, 5, none⟩ = some (.string s10) ∧ w'.cell? ⟨p9, 6, none⟩ = some (.int .i64 n10) ∧ w'.cell? ⟨p9, 7, none⟩ = some (.slice a10 l10 c10) ∧ w'.cell? ⟨p9, 8, none⟩ = some (.string g))) := fun w' hu => by
      have h7 : ∀ f ∈ F7, W3.heap.size ≤ f ∧ f < p7 := fun f hf => ⟨N7.out.1 f hf, L7.out f hf⟩
      have h9 : ∀ f ∈ F9 ++ G9, W4.heap.size ≤ f ∧ f < p9 := fun f hf => by
        rcases List.mem_append.1 hf with hf | hf
        · exact ⟨N9.out.1 f hf, L9.out.1 f hf⟩
        · exact ⟨N9.out.2.1 f hf, L9.out.2 f hf⟩
      have hb : Below W3.heap.size W3 w' := HB36.out.trans (hu.below (fun f hf => by
        rcases List.mem_append.1 hf with hf | hf
        · exact (h7 f hf).1
        · have := (h9 f hf).1; omega) HB36.out.size)
      have hn7 : p7 ∉ F7 ++ (F9 ++ G9) := fun hf => by
        rcases List.mem_append.1 hf with hf | hf
        · have := (h7 _ hf).2; omega
        · have := (h9 _ hf).1; omega
      have hn9 : p9 ∉ F7 ++ (F9 ++ G9) := fun hf => by
        rcases List.mem_append.1 hf with hf | hf
        · have := (h7 _ hf).2; omega
        · have := (h9 _ hf).2; omega
      obtain ⟨a0, a1, a2, a3, _⟩ := blk4 ((hu.block p7 (by omega) hn7).trans K7b.out)
      exact ⟨hb, ⟨a0, a1, a2, a3⟩, (blk9 ((hu.block p9 (by omega) hn9).trans K9.out)).1⟩
    have D79 : Hid (∀ f ∈ F9 ++ G9, f ∉ F7) := fun f hf h => by
      have h2 := L7.out f h
      rcases List.mem_append.1 hf with hf | hf
      · have := N9.out.1 f hf; omega
      · have := N9.out.2.1 f hf; omega
    clear K7b K9 L7 L9 HB36 HB4 HB6 hs46 hs34 sW4 sW6
    -- g0 is w0
    obtain ⟨a1', _, ⟨b0, b1, b2, b3, b4, b5, b6, b7, b8⟩⟩ := HALL.out W6 (Out.refl _ _)
    obtain ⟨⟨x0, x1, x2, x3, x4, x5, x6, x7, x8⟩, x9, x10⟩ := H6.out W6 a1'
    have HE : Hid _ := eq_clause H B g W6 _ _ _ _ _ _ _ _ _ _ _ _ _ _ _ _ _ _ _ _ _ _ _ _ (Own.toIn _ _ _ O9'.out.1) (Own.toIn _ _ _ O9'.out.2) x9 x10
    clear x9 x10 a1'
    go_upto_region 12 with (go_at_call 15; refine (Calls.mono HE.out ?_); rintro e w7 ⟨rfl, b7⟩; have U7 : Hid (Below W6.heap.size W6 w7) := b7; clear b7)
    clear b0 b1 b2 b3 b4 b5 b6 b7 b8 x0 x1 x2 x3 x4 x5 x6 x7 x8 HE
    -- x0 is as it was
    refine wp_region_facts 4 (fun i v _ w' => match i with
      | 0 => v = .agg #[.int .i64 k7, .string s7, .int .i64 n7, .slice a7 l7 c7]
      | 1 => v = .agg #[.int .i64 k, .string s, .int .i64 n, .slice ao len cap]
      | 2 => TmIn w' t v
      | _ => v = .bool true) (by kernel_rfl) (by kernel_rfl) 104 rfl (by kernel_rfl) ?_ ?_ ?_
    · intro i v S w w' hi h hb
      match i, hi, h with
      | 0, _, h => exact h
      | 1, _, h => exact h
      | 2, _, h => exact TmIn.keep hb _ _ h
      | 3, _, h => exact h
    · intro i o hi ho a w' hb hfr hdep
      have hb6 : Below W6.heap.size W6 w' := U7.out.trans (hb.mono U7.out.size)
      obtain ⟨hb3, ⟨f0, f1, f2, f3⟩, _⟩ := HALL.out w' (Out.of_below hb6)
      obtain ⟨g2, c1, c2, c3, c4⟩ := HARG.out w' (HBB.out.trans (hb3.mono HBB.out.size))
      have u2 : a.tmps.getD 2 undef = .pointer (some ⟨w.heap.size, 0, none⟩) := hfr 2 (by decide)
      have u8 : a.tmps.getD 8 undef = .pointer (some ⟨p7, 0, none⟩) := hfr 8 (by decide)
      match i, hi with
      | 0, _ =>
        obtain rfl : _ = o := by simpa using ho
        refine fact_value (w' := w') (v := .agg #[.int .i64 k7, .string s7, .int .i64 n7, .slice a7 l7 c7]) ?_ (Below.refl _ _) ⟨[], rfl, by simp⟩
        simp only [execOp, Act.eval, u8]
        go_simp
      | 1, _ =>
        obtain rfl : _ = o := by simpa using ho
        refine fact_value (w' := w') (v := .agg #[.int .i64 k, .string s, .int .i64 n, .slice ao len cap]) ?_ (Below.refl _ _) ⟨[], rfl, by simp⟩
        simp only [execOp, Act.eval, u2]
        go_simp
      | 2, _ =>
        obtain rfl : _ = o := by simpa using ho
        obtain ⟨_, h0⟩ : ∃ _ : List Nat, a.tmps.getD 49 undef = .agg #[.int .i64 k, .string s, .int .i64 n, .slice ao len cap] := hdep 1 (by kernel_rfl)
        refine fact_call rfl Tryd.func10 (by kernel_rfl) (by kernel_rfl) (args := #[.agg #[.int .i64 k, .string s, .int .i64 n, .slice ao len cap]]) ?_ ?_
        · simp [Act.eval, h0]
        · refine Calls.mono (to_term t w' _ g2 HTW.out) ?_
          rintro e w4 ⟨v4, F4, rfl, o4, _, _, hb4⟩
          exact ⟨_, rfl, hb4, [], Own.toIn _ _ _ o4, by simp⟩
      | 3, _ =>
        obtain rfl : _ = o := by simpa using ho
        obtain ⟨_, h0⟩ : ∃ _ : List Nat, a.tmps.getD 48 undef = .agg #[.int .i64 k7, .string s7, .int .i64 n7, .slice a7 l7 c7] := hdep 0 (by kernel_rfl)
        obtain ⟨_, h2⟩ : ∃ _ : List Nat, TmIn w' t (a.tmps.getD 50 undef) := hdep 2 (by kernel_rfl)
        refine fact_call rfl Tryd.func12 (by kernel_rfl) (by kernel_rfl) (args := #[.agg #[.int .i64 k7, .string s7, .int .i64 n7, .slice a7 l7 c7], a.tmps.getD 50 undef]) ?_ ?_
        · simp [Act.eval, h0]
        · refine Calls.mono (eq_term t w' _ _ (TmIn.keep hb6 _ _ (Own.toIn _ _ _ O7b.out)) h2) ?_
          rintro e w4 ⟨rfl, hb4⟩
          exact ⟨_, rfl, hb4, [], rfl, by simp⟩
    intro vals S w9 hb hf _
    have h3 : vals 3 = .bool true := (hf 3 (by omega)).1
    have U9 : Hid (Below W6.heap.size W6 w9) := U7.out.trans (hb.mono U7.out.size)
    simp only [putN, List.getElem?_toArray, List.getElem?_cons_zero, List.getElem?_cons_succ, Option.bind_some, List.drop_succ_cons, List.drop_zero, h3]
    generalize vals 0 = v31
    generalize vals 1 = v32
    generalize vals 2 = v33
    clear hf h3 hb U7
    go_upto_region 15 with fail
    -- what is written into x0 is not in g0
    obtain ⟨_, ⟨f0, f1, f2, f3⟩, _⟩ := HALL.out w9 (Out.of_below U9.out)
    have HK := mark_term t w9 _ F7 1 (Own.keep _ _ _ O7b.out fun f hf => U9.out.block f (Own.lt _ _ _ O7b.out f hf)) N7.out.2 (by omega) (by have := HNS.out.1; omega)
    have hn1 : ¬ ((1 + 3 * ns t.kids : Nat) : Int) < 0 := by omega
    generalize 1 + 3 * ns t.kids = nx1 at HK hn1
    replace HK : Hid _ := HK
    go_upto_region 16 with (go_at_call 16; refine (Calls.mono HK.out ?_); rintro e w10 ⟨rfl, _, u⟩; have U10 : Hid (Out F7 w9 w10) := u; clear u)
    clear f0 f1 f2 f3 HK
    have V10 : Hid (Out (F7 ++ (F9 ++ G9)) W6 w10) := (Out.of_below U9.out).trans (U10.out.mono fun f hf => List.mem_append_left _ hf)
    have O9d : Hid (Own 31 w10 H (.agg #[.int .i64 k9, .string s9, .int .i64 n9, .slice a9 l9 c9]) F9 ∧ Own 31 w10 B (.agg #[.int .i64 k10, .string s10, .int .i64 n10, .slice a10 l10 c10]) G9) := by
      refine ⟨Own.keep _ _ _ O9'.out.1 fun f hf => ?_, Own.keep _ _ _ O9'.out.2 fun f hf => ?_⟩
      · have hl := Own.lt _ _ _ O9'.out.1 f hf
        exact (U10.out.block f (Nat.lt_of_lt_of_le hl U9.out.size) (D79.out f (List.mem_append_left _ hf))).trans (U9.out.block f hl)
      · have hl := Own.lt _ _ _ O9'.out.2 f hf
        exact (U10.out.block f (Nat.lt_of_lt_of_le hl U9.out.size) (D79.out f (List.mem_append_right _ hf))).trans (U9.out.block f hl)
    obtain ⟨a1', _, ⟨b0, b1, b2, b3, b4, b5, b6, b7, b8⟩⟩ := HALL.out w10 V10.out
    obtain ⟨⟨x0, x1, x2, x3, x4, x5, x6, x7, x8⟩, x9, x10⟩ := H6.out w10 a1'
    have HE : Hid _ := eq_clause H B g w10 _ _ _ _ _ _ _ _ _ _ _ _ _ _ _ _ _ _ _ _ _ _ _ _ (Own.toIn _ _ _ O9d.out.1) (Own.toIn _ _ _ O9d.out.2) x9 x10
    clear x9 x10 a1'
    go_upto_region 19 with (go_at_call 15; refine (Calls.mono HE.out ?_); rintro e w12 ⟨rfl, b12⟩; have U12 : Hid (Below w10.heap.size w10 w12) := b12; clear b12)
    clear b0 b1 b2 b3 b4 b5 b6 b7 b8 x0 x1 x2 x3 x4 x5 x6 x7 x8 HE
    -- g0 owns its memory
    have V12 : Hid (Out (F7 ++ (F9 ++ G9)) W6 w12) := V10.out.trans (Out.of_below U12.out)
    have O9f : Hid (Own 31 w12 H (.agg #[.int .i64 k9, .string s9, .int .i64 n9, .slice a9 l9 c9]) F9 ∧ Own 31 w12 B (.agg #[.int .i64 k10, .string s10, .int .i64 n10, .slice a10 l10 c10]) G9) := ⟨Own.keep _ _ _ O9d.out.1 fun f hf => U12.out.block f (Own.lt _ _ _ O9d.out.1 f hf), Own.keep _ _ _ O9d.out.2 fun f hf => U12.out.block f (Own.lt _ _ _ O9d.out.2 f hf)⟩
    obtain ⟨_, _, ⟨b0, b1, b2, b3, b4, b5, b6, b7, b8⟩⟩ := HALL.out w12 V12.out
    obtain ⟨j, hj⟩ : ∃ j, j = 1 + 3 * ns H.kids := ⟨_, rfl⟩
    have hjb : j + 3 * ns B.kids ≤ 2000000000 := by have := HNS.out.2; omega
    have HK := mark_clause H B g w12 _ _ _ _ _ _ _ _ _ _ _ _ F9 G9 1 j O9f.out.1 O9f.out.2 N9.out.2.2.1 N9.out.2.2.2.1 N9.out.2.2.2.2 (by omega) hj hjb
    have HHD : Hid (∀ w', TmIn w' (H.markK 1) (.agg #[.int .i64 k9, .string s9, .int .i64 n9, .slice a9 l9 c9]) → TmIn w' (B.markK j) (.agg #[.int .i64 k10, .string s10, .int .i64 n10, .slice a10 l10 c10]) → Calls Tryd.prog 18 #[.agg #[.int .i64 k9, .string s9, .int .i64 n9, .slice a9 l9 c9, .int .i64 k10, .string s10, .int .i64 n10, .slice a10 l10 c10, .string g], .int .i64 ((1 : Nat) : Int)] w' fun e w2 => e = .returned (.int .i64 ((j + 3 * ns B.kids : Nat) : Int)) ∧ Below w'.heap.size w' w2) := fun w' h h' => held_clause H B g w' _ _ _ _ _ _ _ _ _ _ _ _ 1 j h h' (by omega) hj hjb
    have hn3 : ¬ ((j + 3 * ns B.kids : Nat) : Int) < 0 := by omega
    generalize j + 3 * ns B.kids = nx3 at HK HHD hn3
    replace HK : Hid _ := HK
    clear hj hjb
    go_upto_region 21 with (go_at_call 17; refine (Calls.mono HK.out ?_); rintro e w13 ⟨rfl, o13, o13b, u⟩; have U13 : Hid (Out (F9 ++ G9) w12 w13) := u; have T13 : Hid (TmIn w13 (H.markK 1) (.agg #[.int .i64 k9, .string s9, .int .i64 n9, .slice a9 l9 c9]) ∧ TmIn w13 (B.markK j) (.agg #[.int .i64 k10, .string s10, .int .i64 n10, .slice a10 l10 c10])) := ⟨Own.toIn _ _ _ o13, Own.toIn _ _ _ o13b⟩; clear u o13 o13b)
    clear b0 b1 b2 b3 b4 b5 b6 b7 b8 HK O9d O9f
    have V13 : Hid (Out (F7 ++ (F9 ++ G9)) W6 w13) := V12.out.trans (U13.out.mono fun f hf => List.mem_append_right _ hf)
    obtain ⟨_, _, ⟨b0, b1, b2, b3, b4, b5, b6, b7, b8⟩⟩ := HALL.out w13 V13.out
    have HK : Hid _ := HHD.out w13 T13.out.1 T13.out.2
    go_upto_region 26 with (go_at_call 18; refine (Calls.mono HK.out ?_); rintro e w14 ⟨rfl, b14⟩; have U14 : Hid (Below w13.heap.size w13 w14) := b14; clear b14)
    clear b0 b1 b2 b3 b4 b5 b6 b7 b8 HK
    have V14 : Hid (Out (F7 ++ (F9 ++ G9)) W6 w14) := V13.out.trans (Out.of_below U14.out)
    have B314 : Hid (Below W3.heap.size W3 w14) := (HALL.out w14 V14.out).1
    -- once more
    have BW14 : Hid (Below W.heap.size W w14) := HBB.out.trans (B314.out.mono HBB.out.size)
    obtain ⟨g2, d1, d2, d3, d4⟩ := HARG.out w14 BW14.out
    have HC1 : Hid _ := to_term t w14 _ g2 HTW.out
    clear g2
    go_upto_region 27 with (first
      | (go_at_call 10; refine (Calls.mono HC1.out ?_); rintro e w15 ⟨v1, F1, rfl, o1, _, n1, hb⟩; obtain ⟨ka, sa, na, aoa, la, ca, rfl⟩ := own_shape o1; have B15 : Hid (Below w14.heap.size w14 w15) := hb; have HC2 : Hid _ := HIM.out w15 _ (Own.toIn _ _ _ o1) (HPW.out w15 (BW14.out.trans (hb.mono BW14.out.size))); clear o1 hb n1)
      | (go_at_call 14; refine (Calls.mono HC2.out ?_); rintro e w16 ⟨k11, s11, n11, a11, l11, c11, k12, s12, n12, a12, l12, c12, F3, G3, rfl, o3, o4, _, _, _, _, _, hb⟩; have T16 : Hid (TmIn w16 H (.agg #[.int .i64 k11, .string s11, .int .i64 n11, .slice a11 l11 c11]) ∧ TmIn w16 B (.agg #[.int .i64 k12, .string s12, .int .i64 n12, .slice a12 l12 c12])) := ⟨Own.toIn _ _ _ o3, Own.toIn _ _ _ o4⟩; have B16 : Hid (Below w14.heap.size w14 w16) := B15.out.trans (hb.mono B15.out.size); clear o3 o4 hb))
    clear d1 d2 d3 d4 HC1 HC2
    obtain ⟨W16, hW16⟩ : ∃ W16, W16 = w16.alloc (.cells #[.int .i64 k11, .string s11, .int .i64 n11, .slice a11 l11 c11, .int .i64 k12, .string s12, .int .i64 n12, .slice a12 l12 c12, .string g] 36) := ⟨_, rfl⟩
    rw [← hW16]
    have bW16 : Below w16.heap.size w16 W16 := by rw [hW16]; exact (Below.refl _ _).alloc (Nat.le_refl _) _
    have k16 : W16.heap[w16.heap.size]? = some (.cells #[.int .i64 k11, .string s11, .int .i64 n11, .slice a11 l11 c11, .int .i64 k12, .string s12, .int .i64 n12, .slice a12 l12 c12, .string g] 36 (0, 0)) := by rw [hW16]; exact heap_alloc_new _ _
    have t16 : TmIn W16 H (.agg #[.int .i64 k11, .string s11, .int .i64 n11, .slice a11 l11 c11]) := TmIn.keep bW16 _ _ T16.out.1
    have t16b : TmIn W16 B (.agg #[.int .i64 k12, .string s12, .int .i64 n12, .slice a12 l12 c12]) := TmIn.keep bW16 _ _ T16.out.2
    have B17 : Hid (Below w14.heap.size w14 W16) := B16.out.trans (bW16.mono B16.out.size)
    have V16 : Hid (Out (F7 ++ (F9 ++ G9)) W6 W16) := V14.out.trans (Out.of_below B17.out)
    have B13 : Hid (Below w13.heap.size w13 W16) := U14.out.trans (B17.out.mono U14.out.size)
    obtain ⟨⟨y0, y1, y2, y3, y4, y5, y6, y7, y8⟩, _⟩ := blk9 k16
    obtain ⟨a1', _⟩ := HALL.out W16 V16.out
    obtain ⟨⟨x0, x1, x2, x3, x4, x5, x6, x7, x8⟩, x9, x10⟩ := H6.out W16 a1'
    have HE : Hid _ := eq_clause H B g W16 _ _ _ _ _ _ _ _ _ _ _ _ _ _ _ _ _ _ _ _ _ _ _ _ t16 t16b x9 x10
    clear x9 x10 a1' t16 t16b hW16 bW16 k16 T16 B15 B16
    go_upto_region 30 with (go_at_call 15; refine (Calls.mono HE.out ?_); rintro e w17 ⟨rfl, b17⟩; have U17 : Hid (Below W16.heap.size W16 w17) := b17; clear b17)
    clear y0 y1 y2 y3 y4 y5 y6 y7 y8 x0 x1 x2 x3 x4 x5 x6 x7 x8 HE
    have V17 : Hid (Out (F7 ++ (F9 ++ G9)) W6 w17) := V16.out.trans (Out.of_below U17.out)
    have B18 : Hid (Below w13.heap.size w13 w17) := B13.out.trans (U17.out.mono B13.out.size)
    obtain ⟨_, _, ⟨b0, b1, b2, b3, b4, b5, b6, b7, b8⟩⟩ := HALL.out w17 V17.out
    have HK : Hid _ := HHD.out w17 (TmIn.keep B18.out _ _ T13.out.1) (TmIn.keep B18.out _ _ T13.out.2)
    go_wp2_with (go_at_call 18; refine (Calls.mono HK.out ?_); rintro e w18 ⟨rfl, b18⟩; have U18 : Hid (Below w17.heap.size w17 w18) := b18; clear b18)
    have V18 : Hid (Out (F7 ++ (F9 ++ G9)) W6 w18) := V17.out.trans (Out.of_below U18.out)
    go_ret
    refine ⟨rfl, ?_⟩
    have h1 := (HALL.out w18 V18.out).1
    have h2 := HBB.out.trans (h1.mono HBB.out.size)
    exact HBW.out.trans (h2.mono HBW.out.size)
  · rw [show szR t.wt 1048576 = -1 from if_neg hwt, hW] at HSZ
    replace HSZ : Hid _ := HSZ
    have hflen : ¬ 1048576 < f.size := by omega
    clear hf hwt
    go_enter Tryd.func5, Tryd.ntmps5
    go_wp2_with (go_at_call 8; refine (Calls.mono HSZ.out ?_); rintro e w1 ⟨rfl, hb⟩; rw [← hW] at hb; have HB : Hid (Below w.heap.size w w1) := HBW.out.trans (hb.mono HBW.out.size); clear hb)
    go_ret
    exact ⟨rfl, HB.out⟩

theorem own : ownKnob Tryd.prog.godebug = none := by kernel_rfl
theorem gTab : Tryd.prog.globalNamed "internal/strconv.uint64pow10" = some 0 := by kernel_rfl
theorem gTabType : (Tryd.prog.globals[0]?).map (·.type) = some 136 := by kernel_rfl
theorem cellsT : Tryd.prog.cellsOf 136 = 20 := by kernel_rfl
theorem cellsE : Tryd.prog.cellsOf 130 = 1 := by kernel_rfl
theorem table {W : World} (h : laidMetH Tryd.prog Rows.fnExactClauseOfRow.laid W) : Lib.TabIs Tryd.prog W "internal/strconv.uint64pow10" .u64 Lib.pow10Tab :=
  Lib.tabIs_of_head (rest := []) gTab gTabType Tryd.underlying136 Tryd.underlying130 cellsE cellsT (laidMet.tail (laidMet.tail h))

/-- the cells that a table lays -/
def litCells : DataW Unit → Array Value
  | .agg parts => (parts.flatMap fun
    | .lit (.int k z) => [Value.int k z]
    | .agg qs => qs.map fun
      | .lit (.int k z) => Value.int k z
      | _ => Value.bool false
    | _ => [Value.bool false]).toArray
  | _ => #[]
def setTab (cs : Array Value) : Obj → Obj
  | .cells _ t frozen => .cells cs t frozen
  | o => o

set_option maxRecDepth 20000 in
theorem contract (H : Type) (enc : TypeId × Value → H) (W : World) (base : Nat) (args : Array Value) (ds gs : List (DataW H)) (before : List MemPlace)
    (hval : ∀ (j : Nat) t v, Tryd.f5.params[j]? = some t → args[j]? = some v → Value.okWide Tryd.prog W .any base t v)
    (hW : DataW.Whole enc Tryd.prog Tryd.f5.params.toList Rows.fnExactClauseOfSpec.vars false W args.toList ds gs before) (hL : laidMetH Tryd.prog Rows.fnExactClauseOfRow.laid W) :
    Calls Tryd.prog 5 args W fun e W' => ∃ v, e = .returned v ∧ Rows.fnExactClauseOfSpec.post enc Tryd.prog Tryd.f5 false true false false W args v W' := by
  have ht : PowW W := table hL
  have hW' := hW
  have hlt := hW.lt
  obtain ⟨p, q, hA0, hV, rfl, hfz, hnd⟩ := hW
  have hA : DataW.TrodAll enc Tryd.prog W 0 (fun _ => true) true Tryd.f5.params.toList args.toList ds p := hA0
  rw [Tryd.params5] at hA hval
  obtain ⟨v0, vs0, d0, ds0, p0, q0, hargs, rfl, rfl, h0, r0⟩ := trodAll_cons hA
  obtain ⟨v1, vs1, d1, ds1, p1, q1, rfl, rfl, rfl, h1, r1⟩ := trodAll_cons r0
  obtain ⟨rfl, rfl, rfl⟩ := trodAll_nil r1
  obtain rfl : args = #[v0, v1] := by cases args; simp_all
  obtain ⟨rfl, rfl⟩ := trodVars_none hV
  simp only [List.append_nil] at hW'
  obtain ⟨t0, hin0⟩ := tm_split (hval 0 26 v0 rfl rfl) h0
  obtain ⟨s1, rfl, rfl, rfl, m1⟩ := open_string Tryd.underlying9 (hval 1 9 v1 rfl rfl) h1
  clear hA0
  refine (walk t0 v0 s1 m1 W hin0 ht).mono fun e W' ⟨he, bel⟩ => ?_
  subst he
  exact ⟨_, rfl, _, _, _, [], _, [], hW', trodAll_mk1 (shut_bool Tryd.underlying4 _), (trodAll_cons_mk (Below.trod laidOutT readsTm rowTm h0 bel (fun x hx => hlt x (by simp [hx]))) (trodAll_cons_mk (shut_string Tryd.underlying9 m1) trodAll_mk0)), rfl, bel.frame _, fun h => by cases h⟩

/-- a world for the witness: the settled one, the tables holding what their initialisers lay -/
noncomputable def laidWorld (os : Os) : World :=
  { World.holding Tryd.prog os ⟨#[], #[], []⟩ with heap := (((World.holding Tryd.prog os ⟨#[], #[], []⟩).heap.modify 4 (setTab (litCells Rows.laid_math_bits_deBruijn32tab))).modify 5 (setTab (litCells Rows.laid_math_bits_deBruijn64tab))).modify 0 (setTab (litCells Rows.laid_internal_strconv_uint64pow10)) }
set_option maxRecDepth 20000 in
theorem laid_met (os : Os) : laidMet Tryd.prog Rows.fnExactClauseOfRow.laid ((laidWorld os).forCall (fun _ _ => 0) ⟨#[], #[.agg #[.int .i64 0, .string .empty, .int .i64 0, .slice none 0 0], .string ⟨#[]⟩], []⟩).memory :=
  laidMet_of_run' 8 (by kernel_rfl) (by kernel_rfl)
set_option maxRecDepth 20000 in
theorem reads (os : Os) {H : Type} (enc : TypeId × Value → H) : ∃ places, DataW.whole enc Tryd.prog ((laidWorld os).forCall (fun _ _ => 0) ⟨#[], #[.agg #[.int .i64 0, .string .empty, .int .i64 0, .slice none 0 0], .string ⟨#[]⟩], []⟩).memory Tryd.f5.params.toList Rows.fnExactClauseOfSpec.vars false (#[Value.agg #[.int .i64 0, .string .empty, .int .i64 0, .slice none 0 0], .string ⟨#[]⟩] : Array Value).toList 8 = some ([.agg [.lit (.int .i64 0), .lit (.string []), .lit (.int .i64 0), .nil], .lit (.string [])], [], places) :=
  ⟨[], by kernel_rfl⟩

set_option maxRecDepth 100000 in
theorem lifted (os : Os) (started : os.Started) (H : Type) (enc : TypeId × Value → H) (F : Stop.Interp) :
    ReturnsInHanded {} Tryd.checked os 5 .any ((OpenSpec.ofChange Rows.fnExactClauseOfSpec).preRow enc Tryd.prog Tryd.f5 Rows.fnExactClauseOfRow.domain false Rows.fnExactClauseOfRow.laid) (((OpenSpec.ofChange Rows.fnExactClauseOfSpec).at F).post enc Tryd.prog Tryd.f5 false true false false) := by
  obtain ⟨places, hx⟩ := reads os enc
  refine returnsInHanded_of_row (C := Tryd.checked) (s := OpenSpec.ofChange Rows.fnExactClauseOfSpec) own started (by kernel_rfl) Tryd.func5
    (witness_row_at (enc := enc) (C := Tryd.checked) false (laidWorld os) #[.agg #[.int .i64 0, .string .empty, .int .i64 0, .slice none 0 0], .string ⟨#[]⟩] rfl (by kernel_rfl) (by kernel_rfl) (by kernel_rfl)
      (OpenSpec.preRow_of_cond 8 hx (by kernel_rfl) (fun k hk => by cases hk) (by kernel_rfl) (laid_met os))) ?_
  intro W base args ds gs before hval hW _ _ _ hL _ _
  exact contract H enc W base args ds gs before hval hW hL

theorem said : Rows.FnExactClauseOfSaid :=
  OpenClaim.holds_of_cond 5 Tryd.f5 rfl rfl rfl rfl rfl rfl rfl ⟨rfl, rfl, rfl, rfl, rfl⟩ rfl rfl rfl rfl rfl (by kernel_rfl) Tryd.func5 (by kernel_rfl)
    (of_decide_eq_true (by kernel_rfl)) (by unfold Func.isWrapper; first | (rw [if_pos (by decide +kernel)]; kernel_rfl) | (rw [if_neg (by decide +kernel)]; exact ⟨rfl, rfl⟩))
    (fun os started H enc _ F => by rw [OpenClaim.pre_eq_preRow]; exact lifted os started H enc F)

theorem plain (f : FuncId) (fn : Func) (hf : Tryd.pinned.checked.prog.funcNamed "loop.example/g00469/laws.FnExactClauseOf" = some f) (hfn : Tryd.pinned.checked.prog.funcs[f]? = some fn) :
    true = Tryd.pinned.checked.prog.looks [] ∧ ∀ (j : Nat) t, fn.params[j]? = some t → Tryd.pinned.checked.prog.wantsStandIn t = false := by
  obtain rfl : f = 5 := Option.some.inj ((show Tryd.prog.funcNamed "loop.example/g00469/laws.FnExactClauseOf" = some 5 by kernel_rfl).symm.trans hf) |>.symm
  obtain rfl : fn = Tryd.f5 := (Option.some.inj (Tryd.func5.symm.trans hfn)).symm
  refine ⟨by kernel_rfl, fun j t ht => ?_⟩
  rw [Tryd.params5] at ht
  have ht2 : t = 26 ∨ t = 9 := by simpa using Array.mem_of_getElem? ht
  rcases ht2 with rfl | rfl
  · exact (show Tryd.prog.wantsStandIn 26 = false by kernel_rfl)
  · exact (show Tryd.prog.wantsStandIn 9 = false by kernel_rfl)

theorem proved : Rows.FnExactClauseOfCardSaid :=
  Claim7.holds_tied_plain_at .later [] _ _ _ _ said (fun _ h => by cases h) (by kernel_rfl) (fun _ h => by cases h) fnExactClauseOf_row_tie rfl ⟨rfl, rfl⟩ (by kernel_rfl) rfl plain (by kernel_rfl)
#print axioms proved
end Go.Proofs.YtenmhpalpfppmaoDoor.fnExactClauseOf

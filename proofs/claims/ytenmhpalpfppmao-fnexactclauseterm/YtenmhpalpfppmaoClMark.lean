/- laws.markClause. -/
import Derived.Test.YtenmhpalpfppmaoMrg2
import Derived.Test.YtenmhpalpfppmaoTmMark
import Derived.Test.YtenmhpalpfppmaoMrg3
import Derived.Deep.DeepCutAuto
namespace Go.Proofs.Ytenmhpalpfppmao
open Go.RowKit

set_option maxHeartbeats 2000000 in
theorem mark_clause (H B : Tm) (f : ByteArray) (w : World) (k s n a l c k' s' n' a' l' c') (F G : List Nat) (i j : Nat) (h1 : Own 31 w H (.agg #[.int .i64 k, .string s, .int .i64 n, .slice a l c]) F) (h2 : Own 31 w B (.agg #[.int .i64 k', .string s', .int .i64 n', .slice a' l' c']) G)
    (hF : F.Nodup) (hG : G.Nodup) (hd : ∀ x ∈ G, x ∉ F) (hi : 0 < i) (hj : j = i + 3 * ns H.kids) (hb : j + 3 * ns B.kids ≤ 2000000000) :
    Calls Try.prog 13 #[.agg #[.int .i64 k, .string s, .int .i64 n, .slice a l c, .int .i64 k', .string s', .int .i64 n', .slice a' l' c', .string f], .int .i64 (i : Int)] w fun e w' => e = .returned (.int .i64 ((j + 3 * ns B.kids : Nat) : Int)) ∧
      Own 31 w' (H.markK i) (.agg #[.int .i64 k, .string s, .int .i64 n, .slice a l c]) F ∧ Own 31 w' (B.markK j) (.agg #[.int .i64 k', .string s', .int .i64 n', .slice a' l' c']) G ∧ Out (F ++ G) w w' := by
  obtain ⟨W, hW⟩ : ∃ W, W = w.alloc (.cells #[.int .i64 k, .string s, .int .i64 n, .slice a l c, .int .i64 k', .string s', .int .i64 n', .slice a' l' c', .string f] 34) := ⟨_, rfl⟩
  have bW : Below w.heap.size w W := by rw [hW]; exact (Below.refl _ _).alloc (Nat.le_refl _) _
  have lW : W.heap.size = w.heap.size + 1 := by rw [hW]; simp
  have k1 : W.heap[w.heap.size]? = some (.cells #[.int .i64 k, .string s, .int .i64 n, .slice a l c, .int .i64 k', .string s', .int .i64 n', .slice a' l' c', .string f] 34 (0, 0)) := by rw [hW]; exact alloc_at _ _ rfl
  have l1 := Own.lt _ _ _ h1
  have l2 := Own.lt _ _ _ h2
  have o1 : Own 31 W H (.agg #[.int .i64 k, .string s, .int .i64 n, .slice a l c]) F := Own.keep _ _ _ h1 fun x hx => bW.block x (l1 x hx)
  have o2 : Own 31 W B (.agg #[.int .i64 k', .string s', .int .i64 n', .slice a' l' c']) G := Own.keep _ _ _ h2 fun x hx => bW.block x (l2 x hx)
  have HM1 := mark_term H W _ F i o1 hF hi (by omega)
  rw [← hj] at HM1
  have HM1' : Hid _ := HM1
  have HM2 : Hid (∀ w1, Out F W w1 → Calls Try.prog 14 #[.agg #[.int .i64 k', .string s', .int .i64 n', .slice a' l' c'], .int .i64 (j : Int)] w1 fun e w' => e = .returned (.int .i64 ((j + 3 * ns B.kids : Nat) : Int)) ∧ Own 31 w' (B.markK j) (.agg #[.int .i64 k', .string s', .int .i64 n', .slice a' l' c']) G ∧ Out G w1 w') := fun w1 ho =>
    mark_term B w1 _ G j (Own.keep _ _ _ o2 fun x hx => ho.block x (by have := l2 x hx; omega) (hd x hx)) hG (by omega) (by omega)
  have HC : Hid (∀ w1, Out F W w1 → w1.heap[w.heap.size]? = some (.cells #[.int .i64 k, .string s, .int .i64 n, .slice a l c, .int .i64 k', .string s', .int .i64 n', .slice a' l' c', .string f] 34 (0, 0))) := fun w1 ho => (ho.block _ (by omega) fun hx => by have := l1 _ hx; omega).trans k1
  have HBW : Hid (Below w.heap.size w W) := bW
  have HX : Hid (∀ w1 w2, Out F W w1 → Own 31 w1 (H.markK i) (.agg #[.int .i64 k, .string s, .int .i64 n, .slice a l c]) F → Out G w1 w2 → Own 31 w2 (H.markK i) (.agg #[.int .i64 k, .string s, .int .i64 n, .slice a l c]) F ∧ Out (F ++ G) w w2) := fun w1 w2 q1 q2 q3 =>
    ⟨Own.keep _ _ _ q2 fun x hx => q3.block x (Own.lt _ _ _ q2 x hx) fun hg => hd x hg hx, (Out.of_below bW).trans ((q1.mono fun x hx => List.mem_append_left _ hx).trans (q3.mono fun x hx => List.mem_append_right _ hx))⟩
  clear h1 h2 hF hG hd hb hi hj o1 o2 l1 l2 k1 bW lW HM1
  generalize j + 3 * ns B.kids = m at *
  go_enter Try.func13, Try.ntmps13
  go_upto_region 1 with fail
  rw [← hW]
  obtain ⟨⟨c0, c1, c2, c3, c4, c5, c6, c7, c8⟩, _⟩ := blk9 (HC.out W (Out.refl _ _))
  clear hW
  go_upto_region 2 with (go_at_call 14; refine (Calls.mono HM1'.out ?_); rintro e w1 ⟨rfl, ho, hu⟩; have HO1 : Hid _ := ho; have HU1 : Hid (Out F W w1) := hu; clear ho hu)
  clear c0 c1 c2 c3 c4 c5 c6 c7 c8
  obtain ⟨⟨c0, c1, c2, c3, c4, c5, c6, c7, c8⟩, _⟩ := blk9 (HC.out w1 HU1.out)
  have HM3 : Hid _ := HM2.out w1 HU1.out
  go_wp2_with (go_at_call 14; refine (Calls.mono HM3.out ?_); rintro e w2 ⟨rfl, ho, hu⟩; have HO2 : Hid _ := ho; have HU2 : Hid (Out G w1 w2) := hu; clear ho hu)
  go_ret
  have := HX.out w1 w2 HU1.out HO1.out HU2.out
  exact ⟨rfl, this.1, HO2.out, this.2⟩

end Go.Proofs.Ytenmhpalpfppmao

/- Four texts in one. -/
import Derived.Test.YtmhmlkdoaojimapMrg10
import Derived.Test.YtmhmlkdoaojimapMrg8
import Derived.Test.YtmhmlkdoaojimapMrg9
/- laws.markDb, laws.heldDb. -/
namespace Go.Proofs.Ytmhmlkdoaojimap
open Go.RowKit

set_option maxRecDepth 20000 in
theorem mark_db (cs : List Cla) (xs : List (List UInt8)) (w : World) (sl ss : Value) (F : List Nat) (c : Nat) (h : OwnClS 56 54 w cs sl F) (hnd : F.Nodup) (hs : w.ownsRow 0 9 1 ss xs.length (strsV xs)) (hd : ∀ f ∈ F, f ∉ ss.ownBlock.toList)
    (hc : 0 < c) (hcm : c + claNs cs ≤ 1000000000) (hl : xs.length ≤ 1100000) :
    Calls Try.prog 9 #[.agg #[sl, ss], .int .i64 (c : Int)] w fun e w' => e = .returned (.int .i64 ((c + claNs cs + xs.length : Nat) : Int)) ∧ OwnClS 56 54 w' (markCs cs c) sl F ∧ w'.ownsRow 0 9 1 ss xs.length (strsV (marksC (c + claNs cs) xs.length)) ∧ Out (F ++ ss.ownBlock.toList) w w' := by
  obtain ⟨W, hW⟩ : ∃ W, W = w.alloc (.cells #[sl, ss] 29) := ⟨_, rfl⟩
  have bW : Below w.heap.size w W := by rw [hW]; exact (Below.refl _ _).alloc (Nat.le_refl _) _
  have lW : W.heap.size = w.heap.size + 1 := by rw [hW]; simp
  have k1 : W.heap[w.heap.size]? = some (.cells #[sl, ss] 29 (0, 0)) := by rw [hW]; exact alloc_at _ _ rfl
  have hlt := OwnClS.lt h
  have ho : ∀ f ∈ ss.ownBlock.toList, f < w.heap.size := fun f hf => by
    rcases hs.2 with ⟨rfl, _⟩ | ⟨g, cap, cur, rfl, _, hh, _⟩
    · simp [Value.ownBlock] at hf
    · simp [Value.ownBlock] at hf
      subst hf
      exact (Array.getElem?_eq_some_iff.1 hh).1
  have HM1 : Hid _ := mark_clauses cs W sl F c (OwnClS.keep h fun f hf => bW.block f (hlt f hf)) hnd hc (by omega)
  have HC : Hid (∀ w1, Out F W w1 → w1.heap[w.heap.size]? = some (.cells #[sl, ss] 29 (0, 0))) := fun w1 o => (o.block _ (by omega) fun hx => by have := hlt _ hx; omega).trans k1
  have HM2 : Hid (∀ w1, Out F W w1 → Calls Try.prog 23 #[ss, .int .i64 ((c + claNs cs : Nat) : Int)] w1 fun e w' => e = .returned (.int .i64 ((c + claNs cs + xs.length : Nat) : Int)) ∧ Out ss.ownBlock.toList w1 w' ∧ w'.ownsRow 0 9 1 ss xs.length (strsV (marksC (c + claNs cs) xs.length))) := fun w1 o => by
    refine markS_from (c + claNs cs) 0 xs ss w1 (by omega) hl ⟨hs.1, ?_⟩
    rcases hs.2 with h2 | ⟨g, cap, cur, rfl, h2, h3, h4⟩
    · exact Or.inl h2
    · have hg : g < w.heap.size := (Array.getElem?_eq_some_iff.1 h3).1
      exact Or.inr ⟨g, cap, cur, rfl, h2, ((o.block g (by omega) fun hx => hd g hx (by simp [Value.ownBlock])).trans (bW.block g hg)).trans h3, h4⟩
  have HX : Hid (∀ w1 w2, Out F W w1 → OwnClS 56 54 w1 (markCs cs c) sl F → Out ss.ownBlock.toList w1 w2 → OwnClS 56 54 w2 (markCs cs c) sl F ∧ Out (F ++ ss.ownBlock.toList) w w2) := fun w1 w2 q1 q2 q3 =>
    ⟨OwnClS.keep q2 fun f hf => q3.block f (OwnClS.lt q2 f hf) (hd f hf), (Out.of_below bW).trans ((q1.mono fun x hx => List.mem_append_left _ hx).trans (q3.mono fun x hx => List.mem_append_right _ hx))⟩
  obtain ⟨a1, p1, rfl⟩ := ownClS_shape h
  obtain ⟨a3, l3, p3, rfl⟩ := owns_shape hs
  clear h hs hd hlt ho k1 bW lW hcm hl hc hnd
  generalize c + claNs cs + xs.length = m2 at *
  generalize c + claNs cs = m1 at *
  go_enter Try.func9, Try.ntmps9
  go_upto_region 1 with fail
  rw [← hW]
  clear hW
  have y0 := blk_cell (i := 0) (HC.out W (Out.refl _ _)) (by simp)
  go_upto_region 2 with (go_at_call 22; refine (Calls.mono HM1.out ?_); rintro e w1 ⟨rfl, ho, hu⟩; have HO1 : Hid (OwnClS _ _ _ _ _ _) := ho; have HU1 : Hid (Out F W w1) := hu; clear ho hu)
  clear y0
  have y1 := blk_cell (i := 1) (HC.out w1 HU1.out) (by simp)
  have HM3 : Hid _ := HM2.out w1 HU1.out
  go_wp2_with (go_at_call 23; refine (Calls.mono HM3.out ?_); rintro e w2 ⟨rfl, hu, ho⟩; have HO2 : Hid _ := ho; have HU2 : Hid (Out _ w1 w2) := hu; clear ho hu)
  go_ret
  have := HX.out w1 w2 HU1.out HO1.out HU2.out
  exact ⟨rfl, this.1, HO2.out, this.2⟩
end Go.Proofs.Ytmhmlkdoaojimap

/- A Db marked, for the laws' frames. -/
namespace Go.Proofs.Ytmhmlkdoaojimap
open Go.RowKit

theorem claNs_le (cs : List Cla) : claNs cs ≤ 4 * (cs.length + claWts cs) + 4 * cs.length := by
  induction cs with
  | nil => simp [claNs]
  | cons c cs ih =>
    have h1 := n_le_wt c.h
    have h2 := n_le_wt c.b
    have e : c.n = 3 * c.h.n + 3 * c.b.n + 1 := by first | rfl | (unfold Cla.n; omega)
    simp only [claNs, claWts, List.length_cons, Cla.wt] at *
    omega
/-- as it is when it is marked -/
def DbMarked (w : World) (cs : List Cla) (n : Nat) (c0 c1 : Value) : Prop := ClsIn w (markCs cs 1) c0 ∧ w.ownsRow 0 9 1 c1 n (strsV (marksC (1 + claNs cs) n))
theorem DbMarked.keep {w w' : World} {cs : List Cla} {n : Nat} {c0 c1 : Value} (h : DbMarked w cs n c0 c1) (hb : Below w.heap.size w w') : DbMarked w' cs n c0 c1 := ⟨h.1.keep hb, owns_below h.2 hb⟩
theorem mark_dbO (cs : List Cla) (xs : List ByteArray) (w : World) (c0 c1 : Value) (F : List Nat) (h : DbOwn w cs xs c0 c1 F) (hcm : 1 + claNs cs ≤ 1000000000) (hl : xs.length ≤ 1100000) :
    Calls Try.prog 9 #[.agg #[c0, c1], .int .i64 1] w fun e w' => e = .returned (.int .i64 ((1 + claNs cs + xs.length : Nat) : Int)) ∧ DbMarked w' cs xs.length c0 c1 ∧ Out F w w' := by
  obtain ⟨a, p, g, k, F0, rfl, rfl, h1, h2, rfl, h3⟩ := h
  have q1 := h2
  rw [← strL_v, ← strL_len xs] at q1
  obtain ⟨n1, _, n3⟩ := List.nodup_append.1 h3
  have := mark_db cs (strL xs) w _ _ F0 1 h1 n1 q1 (fun f hf => by simp [Value.ownBlock]; exact fun e => n3 f hf g (by simp) (by first | exact e | exact e.symm)) (by omega) hcm (by rw [strL_len]; exact hl)
  rw [strL_len] at this
  refine Calls.mono this ?_
  rintro e w' ⟨rfl, m1, m2, m3⟩
  exact ⟨rfl, ⟨m1.toIn, m2⟩, m3.mono (by simp [Value.ownBlock])⟩
end Go.Proofs.Ytmhmlkdoaojimap

/- laws.heldStringS, from any number on. -/
namespace Go.Proofs.Ytmhmlkdoaojimap
open Go.RowKit

set_option maxHeartbeats 1000000 in
theorem heldS_from (c n : Nat) (a : Value) (w : World) (hc : 0 < c ∧ c ≤ 1000000000) (hl : n ≤ 1100000) (ha : w.ownsRow 0 9 1 a n (strsV (marksC c n))) :
    Calls Try.prog 25 #[a, .int .i64 (c : Int)] w fun e w' => e = .returned (.int .i64 ((c + n : Nat) : Int)) ∧ Below w.heap.size w w' := by
  by_cases h0 : n = 0
  · subst h0
    rcases ha.2 with ⟨rfl, _⟩ | ⟨g, cap, cur, rfl, _⟩
    all_goals
      clear ha
      go_enter Try.func25, Try.ntmps25
      go_wp2
      refine wp_loop_rounds 1 ?_
      rw [rounds_succ]
      go_wp2
      go_ret
      exact ⟨rfl, Below.refl _ _⟩
  · have ha' := ha
    rcases ha.2 with ⟨rfl, hz⟩ | ⟨g, cap, cur, rfl, _⟩
    · omega
    clear ha
    go_enter Try.func25, Try.ntmps25
    go_wp2
    go_loopw [1, 5] (fun vk i wr => ∃ (k : Nat), k ≤ n ∧ i = .int .i64 k ∧ vk = .int .i64 ((c + k : Nat) : Int) ∧ Below w.heap.size w wr) (fun _ i _ => n - (intOf i).toNat)
    case atStart => exact ⟨0, Nat.zero_le _, rfl, rfl, Below.refl _ _⟩
    case round =>
      obtain ⟨k, hk, rfl, rfl, hbel⟩ := hrel
      have hsz := hbel.size
      have ra := owns_below ha' hbel
      by_cases hlt : k < n
      · have hc : ∀ u : World, (later wr u).cell? ⟨g, k, none⟩ = some (.string ⟨(mkS (c + k)).toArray⟩) := by
          intro u
          refine ((owns_below ra (later_below wr u)).cellAt k (by omega)).trans ?_
          rw [strsV_get _ _ (by rw [marksC_len]; exact hlt)]
          have := marksC_get c n k hlt
          rw [List.getElem?_eq_getElem (by rw [marksC_len]; exact hlt)] at this
          rw [Option.some.inj this]
        clear ra
        go_wp2
        refine wp_region_later (by kernel_rfl) (by kernel_rfl) ?_
        repeat (go_big_quiet_step ((go_at_call 36; exact Calls.later_of_below (mark_nat (c + k) _ (by omega) (by omega)))))
        refine wpQuiet_nil ?_
        rintro _ ⟨u, rfl⟩
        have hb2 := later_below wr u
        clear hc
        go_wp2
        go_roundw
        case rel => exact ⟨k + 1, by omega, by go_num, by go_num, hbel.trans (hb2.mono hsz)⟩
        case measure => simp [intOf]; omega
      · clear ra
        obtain rfl : k = n := by omega
        go_wp2
        go_ret
        exact ⟨rfl, hbel⟩
end Go.Proofs.Ytmhmlkdoaojimap

/- laws.heldDb. -/
namespace Go.Proofs.Ytmhmlkdoaojimap
open Go.RowKit

set_option maxRecDepth 20000 in
theorem held_db (cs : List Cla) (n : Nat) (w : World) (sl ss : Value) (c : Nat) (h : ClsIn w (markCs cs c) sl) (hs : w.ownsRow 0 9 1 ss n (strsV (marksC (c + claNs cs) n))) (hc : 0 < c) (hcm : c + claNs cs ≤ 1000000000) (hl : n ≤ 1100000) :
    Calls Try.prog 10 #[.agg #[sl, ss], .int .i64 (c : Int)] w fun e w' => e = .returned (.int .i64 ((c + claNs cs + n : Nat) : Int)) ∧ Below w.heap.size w w' := by
  obtain ⟨W, hW⟩ : ∃ W, W = w.alloc (.cells #[sl, ss] 29) := ⟨_, rfl⟩
  have bW : Below w.heap.size w W := by rw [hW]; exact (Below.refl _ _).alloc (Nat.le_refl _) _
  have k1 : W.heap[w.heap.size]? = some (.cells #[sl, ss] 29 (0, 0)) := by rw [hW]; exact alloc_at _ _ rfl
  have HC : Hid (∀ w1, Below W.heap.size W w1 → w1.heap[w.heap.size]? = some (.cells #[sl, ss] 29 (0, 0))) := fun w1 hb => (hb.block _ (Array.getElem?_eq_some_iff.1 k1).1).trans k1
  have HM1 : Hid _ := held_clauses cs W sl c (h.keep bW) hc (by omega)
  have HM2 : Hid (∀ w1, Below W.heap.size W w1 → Calls Try.prog 25 #[ss, .int .i64 ((c + claNs cs : Nat) : Int)] w1 fun e w' => e = .returned (.int .i64 ((c + claNs cs + n : Nat) : Int)) ∧ Below w1.heap.size w1 w') := fun w1 hb =>
    heldS_from (c + claNs cs) n ss w1 (by omega) hl (owns_below (owns_below hs bW) hb)
  have HBW : Hid (Below w.heap.size w W) := bW
  obtain ⟨a1, p1, rfl, -⟩ := h
  obtain ⟨a3, l3, p3, rfl⟩ := owns_shape hs
  have n1 : ¬ ((c + claNs cs + n : Nat) : Int) < 0 := by omega
  have n2 : ¬ ((c + claNs cs : Nat) : Int) < 0 := by omega
  clear hs k1 bW hcm hl hc
  generalize c + claNs cs + n = m2 at *
  generalize c + claNs cs = m1 at *
  go_enter Try.func10, Try.ntmps10
  go_upto_region 1 with fail
  rw [← hW]
  clear hW
  have y0 := blk_cell (i := 0) (HC.out W (Below.refl _ _)) (by simp)
  go_upto_region 4 with (go_at_call 24; refine (Calls.mono HM1.out ?_); rintro e w1 ⟨rfl, hb⟩; have HB1 : Hid (Below W.heap.size W w1) := hb; clear hb)
  clear y0
  have y1 := blk_cell (i := 1) (HC.out w1 HB1.out) (by simp)
  have HM3 : Hid _ := HM2.out w1 HB1.out
  go_wp2_with (go_at_call 25; refine (Calls.mono HM3.out ?_); rintro e w2 ⟨rfl, hb⟩; have HB2 : Hid (Below W.heap.size W w2) := HB1.out.trans (hb.mono HB1.out.size); clear hb)
  go_ret
  exact ⟨rfl, HBW.out.trans (HB2.out.mono HBW.out.size)⟩
end Go.Proofs.Ytmhmlkdoaojimap

/- Four texts in one. -/
import Derived.Test.YtmhmlkdoaojimapDoorMrg8
import Derived.Test.YtmhmlkdoaojimapDoorMrg9
import Derived.Deep.DeepCutAuto
import Derived.Test.YtmhmlkdoaojimapDoorMrg1
import Derived.Test.YtmhmlkdoaojimapDoorMrg4
import Derived.Test.YtmhmlkdoaojimapDoorMrg6
import Derived.BigQuiet
import Derived.Laws.OwnMore
/- laws.eqClause of the same clause. -/
namespace Go.Proofs.YtmhmlkdoaojimapDoor
open Go.RowKit

set_option maxHeartbeats 2000000 in
theorem eq_clause (H B : Tm) (f : ByteArray) (w : World) (k s n a l c k' s' n' a' l' c' p q r b m d p' q' r' b' m' d') (h1 : TmIn w H (.agg #[.int .i64 k, .string s, .int .i64 n, .slice a l c])) (h2 : TmIn w B (.agg #[.int .i64 k', .string s', .int .i64 n', .slice a' l' c']))
    (g1 : TmIn w H (.agg #[.int .i64 p, .string q, .int .i64 r, .slice b m d])) (g2 : TmIn w B (.agg #[.int .i64 p', .string q', .int .i64 r', .slice b' m' d'])) :
    Calls Tryd.prog 40 #[.agg #[.int .i64 k, .string s, .int .i64 n, .slice a l c, .int .i64 k', .string s', .int .i64 n', .slice a' l' c', .string f], .agg #[.int .i64 p, .string q, .int .i64 r, .slice b m d, .int .i64 p', .string q', .int .i64 r', .slice b' m' d', .string f]] w fun e w' => e = .returned (.bool true) ∧ Below w.heap.size w w' := by
  obtain ⟨W, hW⟩ : ∃ W, W = (w.alloc (.cells #[.int .i64 k, .string s, .int .i64 n, .slice a l c, .int .i64 k', .string s', .int .i64 n', .slice a' l' c', .string f] 57)).alloc (.cells #[.int .i64 p, .string q, .int .i64 r, .slice b m d, .int .i64 p', .string q', .int .i64 r', .slice b' m' d', .string f] 57) := ⟨_, rfl⟩
  have bW : Below w.heap.size w W := by rw [hW]; exact ((Below.refl _ _).alloc (Nat.le_refl _) _).alloc (by simp) _
  have lW : W.heap.size = w.heap.size + 2 := by rw [hW]; simp
  have k1 : W.heap[w.heap.size]? = some (.cells #[.int .i64 k, .string s, .int .i64 n, .slice a l c, .int .i64 k', .string s', .int .i64 n', .slice a' l' c', .string f] 57 (0, 0)) := by rw [hW]; exact (alloc_old _ _ (by simp)).trans (alloc_at _ _ rfl)
  have k2 : W.heap[w.heap.size + 1]? = some (.cells #[.int .i64 p, .string q, .int .i64 r, .slice b m d, .int .i64 p', .string q', .int .i64 r', .slice b' m' d', .string f] 57 (0, 0)) := by rw [hW]; exact alloc_at _ _ (by simp)
  have HE1 : Hid _ := eq_term H W _ _ (TmIn.keep bW _ _ h1) (TmIn.keep bW _ _ g1)
  have HE2 : Hid (∀ w1, Below W.heap.size W w1 → Calls Tryd.prog 24 #[.agg #[.int .i64 k', .string s', .int .i64 n', .slice a' l' c'], .agg #[.int .i64 p', .string q', .int .i64 r', .slice b' m' d']] w1 fun e w' => e = .returned (.bool true) ∧ Below w1.heap.size w1 w') := fun w1 hb => eq_term B w1 _ _ (TmIn.keep hb _ _ (TmIn.keep bW _ _ h2)) (TmIn.keep hb _ _ (TmIn.keep bW _ _ g2))
  have HC : Hid (∀ w1, Below W.heap.size W w1 → w1.heap[w.heap.size]? = some (.cells #[.int .i64 k, .string s, .int .i64 n, .slice a l c, .int .i64 k', .string s', .int .i64 n', .slice a' l' c', .string f] 57 (0, 0)) ∧ w1.heap[w.heap.size + 1]? = some (.cells #[.int .i64 p, .string q, .int .i64 r, .slice b m d, .int .i64 p', .string q', .int .i64 r', .slice b' m' d', .string f] 57 (0, 0))) := fun w1 hb => ⟨(hb.block _ (by omega)).trans k1, (hb.block _ (by omega)).trans k2⟩
  have HBW : Hid (Below w.heap.size w W) := bW
  clear h1 h2 g1 g2 k1 k2 bW lW
  go_enter Tryd.func40, Tryd.ntmps40
  go_upto_region 1 with fail
  rw [← hW]
  obtain ⟨⟨c0, c1, c2, c3, c4, c5, c6, c7, c8⟩, _⟩ := blk9 (HC.out W (Below.refl _ _)).1
  obtain ⟨d0, d1, d2, d3, d4, d5, d6, d7, d8⟩ := (blk9 (HC.out W (Below.refl _ _)).2).1
  clear hW
  go_upto_region 3 with (go_at_call 24; refine (Calls.mono HE1.out ?_); rintro e w1 ⟨rfl, hb⟩; have HB : Hid (Below W.heap.size W w1) := hb; clear hb)
  clear c0 c1 c2 c3 c4 c5 c6 c7 c8 d0 d1 d2 d3 d4 d5 d6 d7 d8
  obtain ⟨⟨c0, c1, c2, c3, c4, c5, c6, c7, c8⟩, _⟩ := blk9 (HC.out w1 HB.out).1
  obtain ⟨d0, d1, d2, d3, d4, d5, d6, d7, d8⟩ := (blk9 (HC.out w1 HB.out).2).1
  have HE3 : Hid _ := HE2.out w1 HB.out
  go_upto_region 5 with (go_at_call 24; refine (Calls.mono HE3.out ?_); rintro e w2 ⟨rfl, hb⟩; have HB2 : Hid (Below W.heap.size W w2) := HB.out.trans (hb.mono HB.out.size); clear hb)
  clear c0 c1 c2 c3 c4 c5 c6 c7 c8 d0 d1 d2 d3 d4 d5 d6 d7 d8
  obtain ⟨⟨c0, c1, c2, c3, c4, c5, c6, c7, c8⟩, _⟩ := blk9 (HC.out w2 HB2.out).1
  obtain ⟨d0, d1, d2, d3, d4, d5, d6, d7, d8⟩ := (blk9 (HC.out w2 HB2.out).2).1
  go_wp2
  go_ret
  exact ⟨rfl, HBW.out.trans (HB2.out.mono HBW.out.size)⟩
end Go.Proofs.YtmhmlkdoaojimapDoor

/- laws.eqClauseS, of the same clauses. By gencls9.py. -/
namespace Go.Proofs.YtmhmlkdoaojimapDoor
open Go.RowKit

set_option maxHeartbeats 4000000 in
set_option maxRecDepth 20000 in
theorem eq_clauses (ks : List Cla) (w : World) (sa sb : Value) (ha : ClsIn w ks sa) (hb : ClsIn w ks sb) :
    Calls Tryd.prog 14 #[sa, sb] w fun e w' => e = .returned (.bool true) ∧ Below w.heap.size w w' := by
  obtain ⟨ao, ca, rfl, hc1, hm1, ha⟩ := ha
  obtain ⟨bo, cb, rfl, -, -, hb⟩ := hb
  have hlen : ks.length ≤ maxLen := by omega
  unfold maxLen at hlen
  clear hc1 hm1
  go_enter Tryd.func14, Tryd.ntmps14
  go_wp2
  go_loopw [5] (fun vi wr => Hid (Below w.heap.size w wr) ∧ ∃ j : Nat, j ≤ ks.length ∧ vi = .int .i64 (j : Int)) (fun i _ => ks.length - (intOf i).toNat)
  case atStart => exact ⟨Below.refl _ _, 0, by omega, rfl⟩
  case round =>
    obtain ⟨HB, j, hj, rfl⟩ := hrel
    by_cases hlt : j < ks.length
    · have hne : ks ≠ [] := by intro e; subst e; simp at hlt
      obtain ⟨b, off, rfl, hin⟩ := ha hne
      obtain ⟨b', off', rfl, hin'⟩ := hb hne
      obtain ⟨pk1, ps1, pn1, pa1, pl1, pm1, pk2, ps2, pn2, pa2, pl2, pm2, h0, h1, h2, h3, h4, h5, h6, h7, h8, hf, i1, i2⟩ := (hin j hlt).keep HB.out
      obtain ⟨qk1, qs1, qn1, qa1, ql1, qm1, qk2, qs2, qn2, qa2, ql2, qm2, g0, g1, g2, g3, g4, g5, g6, g7, g8, gf, j1, j2⟩ := (hin' j hlt).keep HB.out
      clear hin hin' ha hb
      generalize ks[j] = kj at *
      obtain ⟨kh, kb, cf⟩ := kj
      simp only at h8 g8 i1 i2 j1 j2
      have HC : Hid (∀ u, Calls Tryd.prog 40 #[.agg #[.int .i64 pk1, .string ps1, .int .i64 pn1, .slice pa1 pl1 pm1, .int .i64 pk2, .string ps2, .int .i64 pn2, .slice pa2 pl2 pm2, .string cf], .agg #[.int .i64 qk1, .string qs1, .int .i64 qn1, .slice qa1 ql1 qm1, .int .i64 qk2, .string qs2, .int .i64 qn2, .slice qa2 ql2 qm2, .string cf]] (later wr u) fun e w' => e = .returned (.bool true) ∧ Below (later wr u).heap.size (later wr u) w') := fun u =>
        eq_clause kh kb cf (later wr u) pk1 ps1 pn1 pa1 pl1 pm1 pk2 ps2 pn2 pa2 pl2 pm2 qk1 qs1 qn1 qa1 ql1 qm1 qk2 qs2 qn2 qa2 ql2 qm2 (TmIn.keep (later_below wr u) _ _ i1) (TmIn.keep (later_below wr u) _ _ i2) (TmIn.keep (later_below wr u) _ _ j1) (TmIn.keep (later_below wr u) _ _ j2)
      have k0 : ∀ u, (later wr u).cell? ⟨b, off + j * 9, none⟩ = some (.int .i64 pk1) := fun u => cell_keep h0 (later_below wr u)
      have k1 : ∀ u, (later wr u).cell? ⟨b, off + j * 9 + 1, none⟩ = some (.string ps1) := fun u => cell_keep h1 (later_below wr u)
      have k2 : ∀ u, (later wr u).cell? ⟨b, off + j * 9 + 2, none⟩ = some (.int .i64 pn1) := fun u => cell_keep h2 (later_below wr u)
      have k3 : ∀ u, (later wr u).cell? ⟨b, off + j * 9 + 3, none⟩ = some (.slice pa1 pl1 pm1) := fun u => cell_keep h3 (later_below wr u)
      have k4 : ∀ u, (later wr u).cell? ⟨b, off + j * 9 + 4, none⟩ = some (.int .i64 pk2) := fun u => cell_keep h4 (later_below wr u)
      have k5 : ∀ u, (later wr u).cell? ⟨b, off + j * 9 + 5, none⟩ = some (.string ps2) := fun u => cell_keep h5 (later_below wr u)
      have k6 : ∀ u, (later wr u).cell? ⟨b, off + j * 9 + 6, none⟩ = some (.int .i64 pn2) := fun u => cell_keep h6 (later_below wr u)
      have k7 : ∀ u, (later wr u).cell? ⟨b, off + j * 9 + 7, none⟩ = some (.slice pa2 pl2 pm2) := fun u => cell_keep h7 (later_below wr u)
      have k8 : ∀ u, (later wr u).cell? ⟨b, off + j * 9 + 8, none⟩ = some (.string cf) := fun u => cell_keep h8 (later_below wr u)
      have l0 : ∀ u, (later wr u).cell? ⟨b', off' + j * 9, none⟩ = some (.int .i64 qk1) := fun u => cell_keep g0 (later_below wr u)
      have l1 : ∀ u, (later wr u).cell? ⟨b', off' + j * 9 + 1, none⟩ = some (.string qs1) := fun u => cell_keep g1 (later_below wr u)
      have l2 : ∀ u, (later wr u).cell? ⟨b', off' + j * 9 + 2, none⟩ = some (.int .i64 qn1) := fun u => cell_keep g2 (later_below wr u)
      have l3 : ∀ u, (later wr u).cell? ⟨b', off' + j * 9 + 3, none⟩ = some (.slice qa1 ql1 qm1) := fun u => cell_keep g3 (later_below wr u)
      have l4 : ∀ u, (later wr u).cell? ⟨b', off' + j * 9 + 4, none⟩ = some (.int .i64 qk2) := fun u => cell_keep g4 (later_below wr u)
      have l5 : ∀ u, (later wr u).cell? ⟨b', off' + j * 9 + 5, none⟩ = some (.string qs2) := fun u => cell_keep g5 (later_below wr u)
      have l6 : ∀ u, (later wr u).cell? ⟨b', off' + j * 9 + 6, none⟩ = some (.int .i64 qn2) := fun u => cell_keep g6 (later_below wr u)
      have l7 : ∀ u, (later wr u).cell? ⟨b', off' + j * 9 + 7, none⟩ = some (.slice qa2 ql2 qm2) := fun u => cell_keep g7 (later_below wr u)
      have l8 : ∀ u, (later wr u).cell? ⟨b', off' + j * 9 + 8, none⟩ = some (.string cf) := fun u => cell_keep g8 (later_below wr u)
      clear i1 i2 j1 j2 hf gf h0 h1 h2 h3 h4 h5 h6 h7 h8 g0 g1 g2 g3 g4 g5 g6 g7 g8
      go_wp2
      refine wp_region_later (by kernel_rfl) (by kernel_rfl) ?_
      repeat (go_big_quiet_step ((go_at_call 40; exact Calls.later_of_below (HC.out _))))
      refine wpQuiet_nil ?_
      rintro _ ⟨u, rfl⟩
      have hb2 := later_below wr u
      clear k0 k1 k2 k3 k4 k5 k6 k7 k8 l0 l1 l2 l3 l4 l5 l6 l7 l8
      go_wp2
      go_roundw
      case rel => exact ⟨HB.out.trans (hb2.mono HB.out.size), j + 1, by omega, by go_num⟩
      case measure => simp [intOf]; omega
    · go_wp2
      go_ret
      exact ⟨rfl, HB.out⟩
end Go.Proofs.YtmhmlkdoaojimapDoor

/- The laws' markText writes a letter and decimal figures. -/
namespace Go.Proofs.YtmhmlkdoaojimapDoor
open Go.RowKit

def mkS (k : Nat) : List UInt8 := 109 :: decR k

set_option maxHeartbeats 1000000 in
theorem mark_any (N : Nat) (w : World) (h0 : 0 < N) (hN : N ≤ 4611686018427387904) :
    Calls Tryd.prog 42 #[.int .i64 (N : Int)] w fun e w' => e = .returned (.string ⟨(mkS N).toArray⟩) ∧ Below w.heap.size w w' := by
  have hfin := add_one 109 (decR N) (by have := decR_len 20 N (by omega); omega)
  unfold mkS
  go_enter Tryd.func42, Tryd.ntmps42
  go_wp2
  go_loopw [0, 3] (fun vn vs wr => ∃ (m : Nat) (q : List UInt8), vn = .int .i64 m ∧ vs = .string ⟨q.toArray⟩ ∧ m ≤ N ∧ q.length ≤ 20 ∧ Hid (decR m ++ q = decR N) ∧ Below w.heap.size w wr)
    (fun vn _ _ => (intOf vn).toNat)
  case atStart => exact ⟨N, [], rfl, rfl, Nat.le_refl _, by simp, by show _ = _; simp, Below.refl _ _⟩
  case round =>
    obtain ⟨m, q, rfl, rfl, hmN, hql, hq, hb⟩ := hrel
    have hsz := hb.size
    by_cases hm : m = 0
    · subst hm
      have hf : q = decR N := by have := hq.out; rwa [decR_zero, List.nil_append] at this
      subst hf
      clear hq
      go_wp2
      go_ret
      exact ⟨rfl, hb⟩
    · have hmp : 0 < m := by omega
      have hadd := add_one (fig (m % 10)) q (by omega)
      have e : ((fig (m % 10)).toNat : Int) = 48 + (m : Int) % 10 := by rw [fig_nat _ (by omega), if_pos (by omega)]; omega
      have hcv : ∀ W : World, (convert 96 9 (.slice (some ⟨W.heap.size, 0, none⟩) 1 1)).run Tryd.prog (W.alloc (.cells #[.int .u8 (48 + (m : Int) % 10)] 5)) = .ok (.string ⟨#[fig (m % 10)]⟩) (W.alloc (.cells #[.int .u8 (48 + (m : Int) % 10)] 5)) := by
        intro W; have := conv_one W (fig (m % 10)); rwa [e] at this
      have hq' : Hid _ := dec_step hmp hq.out
      have hql' := dec_q (by omega) hq'.out
      clear hm hq hfin e
      go_wp2
      go_roundw
      case rel => exact ⟨m / 10, _, by go_num, rfl, by omega, hql', hq', hb.alloc hsz _⟩
      case measure => simp [intOf]; omega

theorem mark_int (n : Int) (w : World) (h0 : 0 < n) (hN : n ≤ 4611686018427387904) :
    Calls Tryd.prog 42 #[.int .i64 n] w fun e w' => e = .returned (.string ⟨(mkS n.toNat).toArray⟩) ∧ Below w.heap.size w w' := by
  have := mark_any n.toNat w (by omega) (by omega)
  rwa [show (n.toNat : Int) = n by omega] at this
end Go.Proofs.YtmhmlkdoaojimapDoor

/- Rows of texts that a call owns, and the laws' three walks over them: held alike, marked, and found marked. -/
namespace Go.Proofs.YtmhmlkdoaojimapDoor
open Go.RowKit Go.BigFrame

def strsV (xs : List (List UInt8)) : List Value := xs.map fun l => Value.string ⟨l.toArray⟩
theorem strsV_len (xs : List (List UInt8)) : (strsV xs).length = xs.length := by simp [strsV]
theorem strsV_get (xs : List (List UInt8)) (j : Nat) (h : j < xs.length) : (strsV xs)[j]? = some (Value.string ⟨xs[j].toArray⟩) := by simp [strsV, h]
theorem strsV_append (xs ys : List (List UInt8)) : strsV (xs ++ ys) = strsV xs ++ strsV ys := by simp [strsV]

theorem owns_base {w : World} {B B' e size n : Nat} {v : Value} {xs : List Value} (h : w.ownsRow B e size v n xs) (hB : B' ≤ B) : w.ownsRow B' e size v n xs := by
  refine ⟨h.1, ?_⟩
  rcases h.2 with h | ⟨g, cap, cur, h1, h2, h3⟩
  · exact Or.inl h
  · exact Or.inr ⟨g, cap, cur, h1, Nat.le_trans hB h2, h3⟩

theorem owns_below {w w' : World} {B e size n : Nat} {v : Value} {xs : List Value} (h : w.ownsRow B e size v n xs) (hb : Below w.heap.size w w') : w'.ownsRow B e size v n xs := by
  refine ⟨h.1, ?_⟩
  rcases h.2 with h | ⟨g, cap, cur, h1, h2, h3, h4⟩
  · exact Or.inl h
  · exact Or.inr ⟨g, cap, cur, h1, h2, (hb.block g (Array.getElem?_eq_some_iff.1 h3).1).trans h3, h4⟩

theorem below_draw (B : Nat) (w : World) (n : Nat) : Below B w (w.drewN n) := ⟨rfl, rfl, rfl, Nat.le_refl _, fun _ _ => rfl⟩

set_option maxHeartbeats 1000000 in
theorem eqS_same (xs : List (List UInt8)) (a b : Value) (w : World) (hl : xs.length ≤ 1100000) (ha : w.ownsRow 0 9 1 a xs.length (strsV xs)) (hb : w.ownsRow 0 9 1 b xs.length (strsV xs)) :
    Calls Tryd.prog 35 #[a, b] w fun e w' => e = .returned (.bool true) ∧ Below w.heap.size w w' := by
  by_cases h0 : xs = []
  · subst h0
    rcases ha.2 with ⟨rfl, _⟩ | ⟨g, cap, cur, rfl, _⟩
    all_goals
      rcases hb.2 with ⟨rfl, _⟩ | ⟨g', cap', cur', rfl, _⟩
      all_goals
        clear ha hb
        go_enter Tryd.func35, Tryd.ntmps35
        go_wp2
        refine wp_loop_rounds 1 ?_
        rw [rounds_succ]
        go_wp2
        go_ret
        exact ⟨rfl, Below.refl _ _⟩
  · have hpos : 0 < xs.length := List.length_pos_iff.2 h0
    have ha' := ha
    have hb' := hb
    rcases ha.2 with ⟨rfl, hz⟩ | ⟨g, cap, cur, rfl, _⟩
    · omega
    rcases hb.2 with ⟨rfl, hz⟩ | ⟨g', cap', cur', rfl, _⟩
    · omega
    clear ha hb h0
    have hne : ((xs.length : Int) != (xs.length : Int)) = false := by simp
    go_enter Tryd.func35, Tryd.ntmps35
    go_wp2
    go_loopw [5] (fun i wr => ∃ k : Nat, k ≤ xs.length ∧ i = .int .i64 k ∧ Below w.heap.size w wr) (fun i _ => xs.length - (intOf i).toNat)
    case atStart => exact ⟨0, Nat.zero_le _, rfl, Below.refl _ _⟩
    case round =>
      obtain ⟨k, hk, rfl, hbel⟩ := hrel
      have ra := owns_below ha' hbel
      have rb := owns_below hb' hbel
      by_cases hlt : k < xs.length
      · have ca : wr.cell? ⟨g, k, none⟩ = some (.string ⟨xs[k].toArray⟩) := (ra.cellAt k (by omega)).trans (strsV_get xs k hlt)
        have cb : wr.cell? ⟨g', k, none⟩ = some (.string ⟨xs[k].toArray⟩) := (rb.cellAt k (by omega)).trans (strsV_get xs k hlt)
        clear ra rb
        go_wp2
        go_quiet (fail)
        go_wp2
        go_roundw
        case rel => exact ⟨k + 1, by omega, by go_num, hbel.trans (below_draw _ _ _)⟩
        case measure => simp [intOf]; omega
      · clear ra rb
        go_wp2
        go_ret
        exact ⟨rfl, hbel⟩

def marks (n : Nat) : List (List UInt8) := (List.range n).map fun j => mkS (j + 1)
theorem marks_len (n : Nat) : (marks n).length = n := by simp [marks]
theorem marks_get (n j : Nat) (h : j < n) : (marks n)[j]? = some (mkS (j + 1)) := by simp [marks, h]
theorem marks_succ (n : Nat) : marks (n + 1) = marks n ++ [mkS (n + 1)] := by simp [marks, List.range_succ]

theorem strsV_set (xs : List (List UInt8)) (j : Nat) (l : List UInt8) : (strsV xs).set j (Value.string ⟨l.toArray⟩) = strsV (xs.set j l) := by
  simp [strsV, List.map_set]

theorem take_set (ys : List (List UInt8)) (i : Nat) (l : List UInt8) (h : i < ys.length) : (ys.set i l).take (i + 1) = ys.take i ++ [l] := by
  rw [List.take_succ_eq_append_getElem (by simpa using h), List.getElem_set_self, List.take_set_of_le (Nat.le_refl _)]

end Go.Proofs.YtmhmlkdoaojimapDoor

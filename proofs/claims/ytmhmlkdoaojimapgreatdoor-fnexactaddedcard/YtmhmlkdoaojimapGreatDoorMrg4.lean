/- Four texts in one. -/
import Derived.Test.YtmhmlkdoaojimapGreatDoorMrg2
import Derived.Test.YtmhmlkdoaojimapGreatDoorMrg3
import Derived.Test.YtmhmlkdoaojimapGreatDoorMrg1
import Derived.Deep.DeepCutAuto
import Derived.WalkKit
import Derived.WalkSpells
import Derived.ProofKit
import Derived.Laws.IdiomStrings
/- laws.eqClause of the same clause. -/
namespace Go.Proofs.YtmhmlkdoaojimapGreatDoor
open Go.RowKit

set_option maxHeartbeats 2000000 in
theorem eq_clause (H B : Tm) (f : ByteArray) (w : World) (k s n a l c k' s' n' a' l' c' p q r b m d p' q' r' b' m' d') (h1 : TmIn w H (.agg #[.int .i64 k, .string s, .int .i64 n, .slice a l c])) (h2 : TmIn w B (.agg #[.int .i64 k', .string s', .int .i64 n', .slice a' l' c']))
    (g1 : TmIn w H (.agg #[.int .i64 p, .string q, .int .i64 r, .slice b m d])) (g2 : TmIn w B (.agg #[.int .i64 p', .string q', .int .i64 r', .slice b' m' d'])) :
    Calls Tryz.prog 11 #[.agg #[.int .i64 k, .string s, .int .i64 n, .slice a l c, .int .i64 k', .string s', .int .i64 n', .slice a' l' c', .string f], .agg #[.int .i64 p, .string q, .int .i64 r, .slice b m d, .int .i64 p', .string q', .int .i64 r', .slice b' m' d', .string f]] w fun e w' => e = .returned (.bool true) ∧ Below w.heap.size w w' := by
  obtain ⟨W, hW⟩ : ∃ W, W = (w.alloc (.cells #[.int .i64 k, .string s, .int .i64 n, .slice a l c, .int .i64 k', .string s', .int .i64 n', .slice a' l' c', .string f] 43)).alloc (.cells #[.int .i64 p, .string q, .int .i64 r, .slice b m d, .int .i64 p', .string q', .int .i64 r', .slice b' m' d', .string f] 43) := ⟨_, rfl⟩
  have bW : Below w.heap.size w W := by rw [hW]; exact ((Below.refl _ _).alloc (Nat.le_refl _) _).alloc (by simp) _
  have lW : W.heap.size = w.heap.size + 2 := by rw [hW]; simp
  have k1 : W.heap[w.heap.size]? = some (.cells #[.int .i64 k, .string s, .int .i64 n, .slice a l c, .int .i64 k', .string s', .int .i64 n', .slice a' l' c', .string f] 43 (0, 0)) := by rw [hW]; exact (alloc_old _ _ (by simp)).trans (alloc_at _ _ rfl)
  have k2 : W.heap[w.heap.size + 1]? = some (.cells #[.int .i64 p, .string q, .int .i64 r, .slice b m d, .int .i64 p', .string q', .int .i64 r', .slice b' m' d', .string f] 43 (0, 0)) := by rw [hW]; exact alloc_at _ _ (by simp)
  have HE1 : Hid _ := eq_term H W _ _ (TmIn.keep bW _ _ h1) (TmIn.keep bW _ _ g1)
  have HE2 : Hid (∀ w1, Below W.heap.size W w1 → Calls Tryz.prog 28 #[.agg #[.int .i64 k', .string s', .int .i64 n', .slice a' l' c'], .agg #[.int .i64 p', .string q', .int .i64 r', .slice b' m' d']] w1 fun e w' => e = .returned (.bool true) ∧ Below w1.heap.size w1 w') := fun w1 hb => eq_term B w1 _ _ (TmIn.keep hb _ _ (TmIn.keep bW _ _ h2)) (TmIn.keep hb _ _ (TmIn.keep bW _ _ g2))
  have HC : Hid (∀ w1, Below W.heap.size W w1 → w1.heap[w.heap.size]? = some (.cells #[.int .i64 k, .string s, .int .i64 n, .slice a l c, .int .i64 k', .string s', .int .i64 n', .slice a' l' c', .string f] 43 (0, 0)) ∧ w1.heap[w.heap.size + 1]? = some (.cells #[.int .i64 p, .string q, .int .i64 r, .slice b m d, .int .i64 p', .string q', .int .i64 r', .slice b' m' d', .string f] 43 (0, 0))) := fun w1 hb => ⟨(hb.block _ (by omega)).trans k1, (hb.block _ (by omega)).trans k2⟩
  have HBW : Hid (Below w.heap.size w W) := bW
  clear h1 h2 g1 g2 k1 k2 bW lW
  go_enter Tryz.func11, Tryz.ntmps11
  go_upto_region 1 with fail
  rw [← hW]
  obtain ⟨⟨c0, c1, c2, c3, c4, c5, c6, c7, c8⟩, _⟩ := blk9 (HC.out W (Below.refl _ _)).1
  obtain ⟨d0, d1, d2, d3, d4, d5, d6, d7, d8⟩ := (blk9 (HC.out W (Below.refl _ _)).2).1
  clear hW
  go_upto_region 3 with (go_at_call 28; refine (Calls.mono HE1.out ?_); rintro e w1 ⟨rfl, hb⟩; have HB : Hid (Below W.heap.size W w1) := hb; clear hb)
  clear c0 c1 c2 c3 c4 c5 c6 c7 c8 d0 d1 d2 d3 d4 d5 d6 d7 d8
  obtain ⟨⟨c0, c1, c2, c3, c4, c5, c6, c7, c8⟩, _⟩ := blk9 (HC.out w1 HB.out).1
  obtain ⟨d0, d1, d2, d3, d4, d5, d6, d7, d8⟩ := (blk9 (HC.out w1 HB.out).2).1
  have HE3 : Hid _ := HE2.out w1 HB.out
  go_upto_region 5 with (go_at_call 28; refine (Calls.mono HE3.out ?_); rintro e w2 ⟨rfl, hb⟩; have HB2 : Hid (Below W.heap.size W w2) := HB.out.trans (hb.mono HB.out.size); clear hb)
  clear c0 c1 c2 c3 c4 c5 c6 c7 c8 d0 d1 d2 d3 d4 d5 d6 d7 d8
  obtain ⟨⟨c0, c1, c2, c3, c4, c5, c6, c7, c8⟩, _⟩ := blk9 (HC.out w2 HB2.out).1
  obtain ⟨d0, d1, d2, d3, d4, d5, d6, d7, d8⟩ := (blk9 (HC.out w2 HB2.out).2).1
  go_wp2
  go_ret
  exact ⟨rfl, HBW.out.trans (HB2.out.mono HBW.out.size)⟩
end Go.Proofs.YtmhmlkdoaojimapGreatDoor

/- laws.eqClauseS, of the same clauses. By gencls9.py. -/
namespace Go.Proofs.YtmhmlkdoaojimapGreatDoor
open Go.RowKit

set_option maxHeartbeats 4000000 in
set_option maxRecDepth 20000 in
theorem eq_clauses (ks : List Cla) (w : World) (sa sb : Value) (ha : ClsIn w ks sa) (hb : ClsIn w ks sb) :
    Calls Tryz.prog 26 #[sa, sb] w fun e w' => e = .returned (.bool true) ∧ Below w.heap.size w w' := by
  obtain ⟨ao, ca, rfl, hc1, hm1, ha⟩ := ha
  obtain ⟨bo, cb, rfl, -, -, hb⟩ := hb
  have hlen : ks.length ≤ maxLen := by omega
  unfold maxLen at hlen
  clear hc1 hm1
  go_enter Tryz.func26, Tryz.ntmps26
  go_wp2
  go_loopw [5] (fun vi wr => Hid (Below w.heap.size w wr) ∧ ∃ j : Nat, j ≤ ks.length ∧ vi = .int .i64 (j : Int)) (fun i _ => ks.length - (intOf i).toNat)
  case atStart => exact ⟨Below.refl _ _, 0, by omega, rfl⟩
  case round =>
    obtain ⟨HB, j, hj, rfl⟩ := hrel
    by_cases hlt : j < ks.length
    · have hne : ks ≠ [] := by intro e; subst e; simp at hlt
      obtain ⟨b, off, rfl, hin⟩ := ha hne
      obtain ⟨b', off', rfl, hin'⟩ := hb hne
      obtain ⟨pk1, ps1, pn1, pa1, pl1, pm1, pk2, ps2, pn2, pa2, pl2, pm2, h0, h1, h2, h3, h4, h5, h6, h7, h8, hf, i1, i2⟩ := (hin j hlt).keep HB.out
      obtain ⟨qk1, qs1, qn1, qa1, ql1, qm1, qk2, qs2, qn2, qa2, ql2, qm2, g0, g1, g2, g3, g4, g5, g6, g7, g8, gf, j1, j2⟩ := (hin' j hlt).keep HB.out
      clear hin hin' ha hb
      generalize ks[j] = kj at *
      obtain ⟨kh, kb, cf⟩ := kj
      simp only at h8 g8 i1 i2 j1 j2
      have HC : Hid (∀ u, Calls Tryz.prog 11 #[.agg #[.int .i64 pk1, .string ps1, .int .i64 pn1, .slice pa1 pl1 pm1, .int .i64 pk2, .string ps2, .int .i64 pn2, .slice pa2 pl2 pm2, .string cf], .agg #[.int .i64 qk1, .string qs1, .int .i64 qn1, .slice qa1 ql1 qm1, .int .i64 qk2, .string qs2, .int .i64 qn2, .slice qa2 ql2 qm2, .string cf]] (later wr u) fun e w' => e = .returned (.bool true) ∧ Below (later wr u).heap.size (later wr u) w') := fun u =>
        eq_clause kh kb cf (later wr u) pk1 ps1 pn1 pa1 pl1 pm1 pk2 ps2 pn2 pa2 pl2 pm2 qk1 qs1 qn1 qa1 ql1 qm1 qk2 qs2 qn2 qa2 ql2 qm2 (TmIn.keep (later_below wr u) _ _ i1) (TmIn.keep (later_below wr u) _ _ i2) (TmIn.keep (later_below wr u) _ _ j1) (TmIn.keep (later_below wr u) _ _ j2)
      have k0 : ∀ u, (later wr u).cell? ⟨b, off + j * 9, none⟩ = some (.int .i64 pk1) := fun u => cell_keep h0 (later_below wr u)
      have k1 : ∀ u, (later wr u).cell? ⟨b, off + j * 9 + 1, none⟩ = some (.string ps1) := fun u => cell_keep h1 (later_below wr u)
      have k2 : ∀ u, (later wr u).cell? ⟨b, off + j * 9 + 2, none⟩ = some (.int .i64 pn1) := fun u => cell_keep h2 (later_below wr u)
      have k3 : ∀ u, (later wr u).cell? ⟨b, off + j * 9 + 3, none⟩ = some (.slice pa1 pl1 pm1) := fun u => cell_keep h3 (later_below wr u)
      have k4 : ∀ u, (later wr u).cell? ⟨b, off + j * 9 + 4, none⟩ = some (.int .i64 pk2) := fun u => cell_keep h4 (later_below wr u)
      have k5 : ∀ u, (later wr u).cell? ⟨b, off + j * 9 + 5, none⟩ = some (.string ps2) := fun u => cell_keep h5 (later_below wr u)
      have k6 : ∀ u, (later wr u).cell? ⟨b, off + j * 9 + 6, none⟩ = some (.int .i64 pn2) := fun u => cell_keep h6 (later_below wr u)
      have k7 : ∀ u, (later wr u).cell? ⟨b, off + j * 9 + 7, none⟩ = some (.slice pa2 pl2 pm2) := fun u => cell_keep h7 (later_below wr u)
      have k8 : ∀ u, (later wr u).cell? ⟨b, off + j * 9 + 8, none⟩ = some (.string cf) := fun u => cell_keep h8 (later_below wr u)
      have l0 : ∀ u, (later wr u).cell? ⟨b', off' + j * 9, none⟩ = some (.int .i64 qk1) := fun u => cell_keep g0 (later_below wr u)
      have l1 : ∀ u, (later wr u).cell? ⟨b', off' + j * 9 + 1, none⟩ = some (.string qs1) := fun u => cell_keep g1 (later_below wr u)
      have l2 : ∀ u, (later wr u).cell? ⟨b', off' + j * 9 + 2, none⟩ = some (.int .i64 qn1) := fun u => cell_keep g2 (later_below wr u)
      have l3 : ∀ u, (later wr u).cell? ⟨b', off' + j * 9 + 3, none⟩ = some (.slice qa1 ql1 qm1) := fun u => cell_keep g3 (later_below wr u)
      have l4 : ∀ u, (later wr u).cell? ⟨b', off' + j * 9 + 4, none⟩ = some (.int .i64 qk2) := fun u => cell_keep g4 (later_below wr u)
      have l5 : ∀ u, (later wr u).cell? ⟨b', off' + j * 9 + 5, none⟩ = some (.string qs2) := fun u => cell_keep g5 (later_below wr u)
      have l6 : ∀ u, (later wr u).cell? ⟨b', off' + j * 9 + 6, none⟩ = some (.int .i64 qn2) := fun u => cell_keep g6 (later_below wr u)
      have l7 : ∀ u, (later wr u).cell? ⟨b', off' + j * 9 + 7, none⟩ = some (.slice qa2 ql2 qm2) := fun u => cell_keep g7 (later_below wr u)
      have l8 : ∀ u, (later wr u).cell? ⟨b', off' + j * 9 + 8, none⟩ = some (.string cf) := fun u => cell_keep g8 (later_below wr u)
      clear i1 i2 j1 j2 hf gf h0 h1 h2 h3 h4 h5 h6 h7 h8 g0 g1 g2 g3 g4 g5 g6 g7 g8
      go_wp2
      refine wp_region_later (by kernel_rfl) (by kernel_rfl) ?_
      repeat (go_big_quiet_step ((go_at_call 11; exact Calls.later_of_below (HC.out _))))
      refine wpQuiet_nil ?_
      rintro _ ⟨u, rfl⟩
      have hb2 := later_below wr u
      clear k0 k1 k2 k3 k4 k5 k6 k7 k8 l0 l1 l2 l3 l4 l5 l6 l7 l8
      go_wp2
      go_roundw
      case rel => exact ⟨HB.out.trans (hb2.mono HB.out.size), j + 1, by omega, by go_num⟩
      case measure => simp [intOf]; omega
    · go_wp2
      go_ret
      exact ⟨rfl, HB.out⟩
end Go.Proofs.YtmhmlkdoaojimapGreatDoor

/- The bytes of a number, seven bits each, as a plain function, and what one round of the loop does to them. -/
namespace Go.Proofs.YtmhmlkdoaojimapGreatDoor
open Go.RowKit

def varB (n : Nat) : List UInt8 := if h : 127 < n then UInt8.ofNat (n % 128 + 128) :: varB (n / 128) else [UInt8.ofNat n]

theorem varB_more {n : Nat} (h : 127 < n) : varB n = UInt8.ofNat (n % 128 + 128) :: varB (n / 128) := by
  rw [varB]; simp [h]
theorem varB_last {n : Nat} (h : ¬ 127 < n) : varB n = [UInt8.ofNat n] := by
  rw [varB]; simp [h]

theorem varB_len (n : Nat) : (varB n).length ≤ n + 1 := by
  induction n using Nat.strongRecOn with
  | ind n ih =>
    by_cases h : 127 < n
    · rw [varB_more h, List.length_cons]
      have := ih (n / 128) (by omega)
      omega
    · rw [varB_last h]; simp

theorem size_mk (l : List UInt8) : (⟨l.toArray⟩ : ByteArray).size = l.length := by simp [ByteArray.size]

def bytesV (l : List UInt8) : List Value := l.map fun b => Value.int .u8 (b.toNat : Int)

theorem bytesV_length (l : List UInt8) : (bytesV l).length = l.length := by simp [bytesV]
theorem bytesV_append (l m : List UInt8) : bytesV (l ++ m) = bytesV l ++ bytesV m := by simp [bytesV]
theorem bytesV_get (l : List UInt8) (j : Nat) (h : j < l.length) : (bytesV l)[j]? = some (Value.int .u8 (l[j].toNat : Int)) := by
  simp [bytesV, h]

/-- what an append of one byte leaves: the row that is owned, and that nothing below has turned -/
theorem own_push {w wr w1 : World} {B e : Nat} {v v' : Value} {p : List UInt8} {o : Obj} {x : Int} (b : UInt8) (hx : x = (b.toNat : Int)) (hb : Below B w wr) (hB : B ≤ wr.heap.size)
    (hown : wr.ownsRow B e 1 v p.length (bytesV p)) (hown' : w1.ownsRow B e 1 v' (p.length + 1) (bytesV p ++ [Value.int .u8 x])) (hg : (wr.alloc o).grownBy w1 v.ownBlock) :
    w1.ownsRow B e 1 v' (p ++ [b]).length (bytesV (p ++ [b])) ∧ Below B w w1 := by
  refine ⟨by rw [bytesV_append, List.length_append]; subst hx; exact hown', (hb.alloc hB o).grown hg (by simp; omega) ?_⟩
  intro k hk
  rcases hown.2 with ⟨rfl, _⟩ | ⟨g, cap, cur, rfl, hge, _⟩
  · cases hk
  · cases hk; exact hge

/-- what is owned, as the bytes of a string -/
theorem own_string {P : Program} {w : World} {B : Nat} {v : Value} {p : List UInt8} (src dst e : TypeId) (hs : P.underlying src = some (.slice e)) (he : P.underlying e = some (.int .u8)) (hd : P.underlying dst = some .string)
    (h : w.ownsRow B e 1 v p.length (bytesV p)) (hp : p ≠ []) : (convert src dst v).run P w = .ok (.string ⟨p.toArray⟩) w := by
  have h' := h
  rcases h.2 with ⟨rfl, h0⟩ | ⟨g, cap, cur, rfl, hg, hh, hnc, hcp, hcs, htake⟩
  · exact absurd (List.length_eq_zero_iff.1 h0) hp
  · refine run_convert_bytes_back w src dst e ⟨g, 0, none⟩ cap p hs he hd fun j hj => ?_
    rw [Addr.add_lit, Nat.zero_add, h'.cellAt j (by omega)]
    simp [bytesV, hj]

/-- .. of nothing -/
theorem own_string_nil {P : Program} {w : World} {B : Nat} {v : Value} (src dst e : TypeId) (hs : P.underlying src = some (.slice e)) (he : P.underlying e = some (.int .u8)) (hd : P.underlying dst = some .string)
    (h : w.ownsRow B e 1 v 0 (bytesV [])) : (convert src dst v).run P w = .ok (.string ⟨#[]⟩) w := by
  rcases h.2 with ⟨rfl, h0⟩ | ⟨g, cap, cur, rfl, hg, hh, hnc, hcp, hcs, htake⟩
  · rw [run_convert_bytes_string w src dst e none 0 0 hs he hd]; rfl
  · exact run_convert_bytes_back w src dst e ⟨g, 0, none⟩ cap [] hs he hd fun j hj => by simp at hj
end Go.Proofs.YtmhmlkdoaojimapGreatDoor

/- The figures of a text, two a byte, as plain functions. -/
namespace Go.Proofs.YtmhmlkdoaojimapGreatDoor

def fig (x : Nat) : UInt8 := if x < 10 then UInt8.ofNat (48 + x) else UInt8.ofNat (87 + x)
def hexL (l : List UInt8) : List UInt8 := l.flatMap fun c => [fig (c.toNat / 16), fig (c.toNat % 16)]

theorem hexL_len (l : List UInt8) : (hexL l).length = 2 * l.length := by
  induction l with
  | nil => rfl
  | cons c r ih =>
    show (fig (c.toNat / 16) :: fig (c.toNat % 16) :: hexL r).length = _
    rw [List.length_cons, List.length_cons, List.length_cons, ih]; omega

theorem hexL_snoc (l : List UInt8) (c : UInt8) : hexL (l ++ [c]) = hexL l ++ [fig (c.toNat / 16), fig (c.toNat % 16)] := by
  simp [hexL]

theorem take_snoc (s : ByteArray) (k : Nat) (h : k < s.size) : s.data.toList.take (k + 1) = s.data.toList.take k ++ [s[k]] := by
  rw [List.take_succ_eq_append_getElem (by simpa using h)]; rfl

theorem take_all (s : ByteArray) (k : Nat) (h : ¬ k < s.size) : s.data.toList.take k = s.data.toList := by
  rw [List.take_of_length_le]
  have hl : s.data.toList.length = s.size := by rw [Array.length_toList]; rfl
  omega

theorem fig_nat (x : Nat) (h : x < 16) : (fig x).toNat = if x < 10 then 48 + x else 87 + x := by
  unfold fig
  split <;> simp <;> omega

theorem wrap_in (n : Int) (h : -9223372036854775808 ≤ n ∧ n ≤ 9223372036854775807) : IntKind.i64.wrap n = n := by
  rw [IntKind.wrap_i64]; omega
theorem wrap_byte (c : UInt8) : IntKind.i64.wrap (c.toNat : Int) = (c.toNat : Int) := wrap_in _ (by have := UInt8.toNat_lt c; omega)
theorem wrap_div (c : UInt8) : IntKind.i64.wrap ((c.toNat : Int) / 16) = (c.toNat : Int) / 16 := wrap_in _ (by have := UInt8.toNat_lt c; omega)
theorem wrap_mod (c : UInt8) : (c.toNat : Int).tmod 16 = (c.toNat : Int) % 16 := Int.tmod_eq_emod_of_nonneg (by omega)

theorem wrap8_div (c : UInt8) : IntKind.u8.wrap ((c.toNat : Int) / 16) = (c.toNat : Int) / 16 := by
  have := UInt8.toNat_lt c
  rw [IntKind.wrap_u8]; omega
theorem hexL_take (s : ByteArray) (k : Nat) : (hexL (s.data.toList.take k)).length ≤ 2 * k := by
  rw [hexL_len]
  have := List.length_take_le k s.data.toList
  omega
theorem hexL_ne (l : List UInt8) (h : l ≠ []) : hexL l ≠ [] := by
  intro e
  have := hexL_len l
  rw [e] at this
  exact h (List.length_eq_zero_iff.1 (by simp at this; omega))

theorem two_new (w : World) (x y : Value) (e : TypeId) : ∀ (j : Nat) (u : Value), [x, y][j]? = some u → ((w.alloc (.cells #[x, y] e)).drew).cell? ((⟨w.heap.size, 0, none⟩ : Addr).add j) = some u
  | 0, u, h => by simp at h; subst h; simp [Addr.add]
  | 1, u, h => by simp at h; subst h; simp [Addr.add]
  | j + 2, u, h => by simp at h

/-- what an append of two bytes leaves -/
theorem own_push2 {w wr wr' w1 : World} {B e : Nat} {v v' : Value} {p : List UInt8} {x y : Int} (b c : UInt8) (hx : x = (b.toNat : Int)) (hy : y = (c.toNat : Int)) (hb : Go.RowKit.Below B w wr') (hB : B ≤ wr'.heap.size)
    (hown : wr.ownsRow B e 1 v p.length (bytesV p)) (hown' : w1.ownsRow B e 1 v' (p.length + 2) (bytesV p ++ [Value.int .u8 x, Value.int .u8 y])) (hg : wr'.grownBy w1 v.ownBlock) :
    w1.ownsRow B e 1 v' (p ++ [b, c]).length (bytesV (p ++ [b, c])) ∧ Go.RowKit.Below B w w1 := by
  refine ⟨by rw [bytesV_append, List.length_append]; subst hx hy; exact hown', hb.grown hg hB ?_⟩
  intro k hk
  rcases hown.2 with ⟨rfl, _⟩ | ⟨g, cap, cur, rfl, hge, _⟩
  · cases hk
  · cases hk; exact hge
end Go.Proofs.YtmhmlkdoaojimapGreatDoor

/- Four texts in one. -/
import Derived.Shelf.Strings.Builder1
import Derived.Shelf.Small.Strs
import Derived.Shelf.Strings.BuilderF
import Derived.Shelf.Strings.BuilderK
import Derived.Shelf.Strconv.Itoa0
import Derived.Shelf.Strconv.Itoa1
import Derived.Shelf.LaysM
import Derived.Shelf.Strconv.Itoa2
import Derived.Shelf.Strconv.Itoa3
import Derived.Shelf.Strconv.Clone
import Derived.Shelf.Strings.Search1
import Derived.Shelf.Unicode.Decode
import Derived.Shelf.Unicode.DecodeSlow
import Derived.Shelf.Unicode.DecodeAny
import Derived.Test.YtceclkcmiaehkaoGreatDoorProg
import Derived.Test.YtceclkcmiaehkaoGreatDoorRows
import Derived.Test.YtceclkcmiaehkaoGreatDoorMrg3
import Derived.WalkSmall
import Derived.WalkKit
import Derived.WalkSpells
import Derived.Test.YtceclkcmiaehkaoGreatDoorMrg5
import Derived.Laws.MakeOwn
import Derived.ProofKit
/- The library contracts that are proved once over any program, at this translation: no walk, one application each. -/
namespace Go.Proofs.YtceclkcmiaehkaoGreatDoor
open Go.Proofs
open Go.Shelf
def sh_laysM171_ren : Go.Shelf.Ren := ⟨fun | 171 => 38 | 243 => 53 | 246 => 64 | 283 => 68 | 284 => 69 | 285 => 70 | 286 => 71 | 129 => 76 | 317 => 75 | 318 => 77 | 319 => 78 | 320 => 79 | 337 => 89 | 338 => 90 | n => n, fun | 3 => 3 | 9 => 9 | 2 => 2 | 4 => 4 | 171 => 93 | 0 => 0 | 53 => 94 | 37 => 61 | 5 => 5 | 173 => 97 | 212 => 106 | 51 => 107 | 20 => 20 | 213 => 108 | 46 => 110 | 232 => 122 | 233 => 123 | n => n, fun | 17 => 0 | 18 => 1 | 19 => 2 | n => n⟩
theorem sh_laysM171 : Go.Proofs.LaysM.n171 Tryz.prog sh_laysM171_ren := {
  mixed := by kernel_rfl
  f129 := Tryz.func76.trans (congrArg some (by kernel_rfl))
  f171 := Tryz.func38.trans (congrArg some (by kernel_rfl))
  f243 := Tryz.func53.trans (congrArg some (by kernel_rfl))
  f246 := Tryz.func64.trans (congrArg some (by kernel_rfl))
  f283 := Tryz.func68.trans (congrArg some (by kernel_rfl))
  f284 := Tryz.func69.trans (congrArg some (by kernel_rfl))
  f285 := Tryz.func70.trans (congrArg some (by kernel_rfl))
  f286 := Tryz.func71.trans (congrArg some (by kernel_rfl))
  f317 := Tryz.func75.trans (congrArg some (by kernel_rfl))
  f318 := Tryz.func77.trans (congrArg some (by kernel_rfl))
  f319 := Tryz.func78.trans (congrArg some (by kernel_rfl))
  f320 := Tryz.func79.trans (congrArg some (by kernel_rfl))
  f337 := Tryz.func89.trans (congrArg some (by kernel_rfl))
  f338 := Tryz.func90.trans (congrArg some (by kernel_rfl))
  t0 := Tryz.underlying0
  a0 := Tryz.isAgg0
  z0 := Tryz.sizeOf0
  v0 := Tryz.zeroValue0
  t2 := Tryz.underlying2
  a2 := Tryz.isAgg2
  z2 := Tryz.sizeOf2
  v2 := Tryz.zeroValue2
  t3 := Tryz.underlying3
  a3 := Tryz.isAgg3
  z3 := Tryz.sizeOf3
  v3 := Tryz.zeroValue3
  t4 := Tryz.underlying4
  a4 := Tryz.isAgg4
  z4 := Tryz.sizeOf4
  v4 := Tryz.zeroValue4
  t5 := Tryz.underlying5
  a5 := Tryz.isAgg5
  z5 := Tryz.sizeOf5
  v5 := Tryz.zeroValue5
  t9 := Tryz.underlying9
  a9 := Tryz.isAgg9
  z9 := Tryz.sizeOf9
  v9 := Tryz.zeroValue9
  t20 := Tryz.underlying20
  a20 := Tryz.isAgg20
  z20 := Tryz.sizeOf20
  v20 := Tryz.zeroValue20
  t37 := Tryz.underlying61
  a37 := Tryz.isAgg61
  z37 := Tryz.sizeOf61
  v37 := Tryz.zeroValue61
  t46 := Tryz.underlying110
  a46 := Tryz.isAgg110
  z46 := Tryz.sizeOf110
  v46 := Tryz.zeroValue110
  t51 := Tryz.underlying107
  a51 := Tryz.isAgg107
  z51 := Tryz.sizeOf107
  v51 := Tryz.zeroValue107
  t53 := Tryz.underlying94
  a53 := Tryz.isAgg94
  z53 := Tryz.sizeOf94
  v53 := Tryz.zeroValue94
  t171 := Tryz.underlying93
  a171 := Tryz.isAgg93
  z171 := Tryz.sizeOf93
  v171 := Tryz.zeroValue93
  t173 := Tryz.underlying97
  a173 := Tryz.isAgg97
  z173 := Tryz.sizeOf97
  v173 := Tryz.zeroValue97
  t212 := Tryz.underlying106
  a212 := Tryz.isAgg106
  z212 := Tryz.sizeOf106
  v212 := Tryz.zeroValue106
  t213 := Tryz.underlying108
  a213 := Tryz.isAgg108
  z213 := Tryz.sizeOf108
  t232 := Tryz.underlying122
  a232 := Tryz.isAgg122
  z232 := Tryz.sizeOf122
  v232 := Tryz.zeroValue122
  t233 := Tryz.underlying123
  a233 := Tryz.isAgg123
  z233 := Tryz.sizeOf123
  v233 := Tryz.zeroValue123
  g17 := by kernel_rfl
  g18 := by kernel_rfl
  g19 := by kernel_rfl
  i0 := by kernel_rfl
  i2 := by kernel_rfl
  i3 := by kernel_rfl
  i4 := by kernel_rfl
  i5 := by kernel_rfl
  i9 := by kernel_rfl
  i20 := by kernel_rfl
  i37 := by kernel_rfl
  i46 := by kernel_rfl
  i51 := by kernel_rfl
  i53 := by kernel_rfl
  i171 := by kernel_rfl
  i173 := by kernel_rfl
  i212 := by kernel_rfl
  i232 := by kernel_rfl
  i233 := by kernel_rfl
  m17 := by kernel_rfl
  m18 := by kernel_rfl
  m19 := by kernel_rfl }
open Go.RowKit Go.Sort Go.Lib in
theorem sh_strconv_Itoa (n : Int) (h0 : -9223372036854775808 ≤ n) (h1 : n ≤ 9223372036854775807) (w : World) (htab : Lib.TabIs Tryz.prog w "internal/strconv.uint64pow10" .u64 Lib.pow10Tab) :
    Calls Tryz.prog 38 #[.int .i64 n] w fun e w' => e = .returned (.string ⟨(Lib.itoa n).toArray⟩) ∧ ∃ k os, w' = grow (w.drewN k) os := Any.strconv_Itoa sh_laysM171 n h0 h1 w htab
end Go.Proofs.YtceclkcmiaehkaoGreatDoor

/- The library's decimal numeral is decI; the code's Decimal. -/
namespace Go.Proofs.YtceclkcmiaehkaoGreatDoor
open Go.RowKit

theorem lib_digits (n : Nat) : Lib.decDigits n = decB n := by
  induction n using Nat.strongRecOn with
  | ind n ih =>
    rw [Lib.decDigits]
    by_cases h : n < 10
    · rw [dif_pos h]
      unfold decB
      by_cases h0 : n = 0
      · subst h0; rfl
      · rw [if_neg h0, decR_pos (by omega), show n / 10 = 0 by omega, decR_zero, show n % 10 = n by omega, fig, if_pos h]
        rfl
    · rw [dif_neg h, ih (n / 10) (by omega), decB, if_neg (by omega), decB, if_neg (by omega), decR_pos (show 0 < n by omega)]
      congr 2
      rw [fig, if_pos (by omega)]

theorem lib_itoa (n : Int) : Lib.itoa n = decI n := by
  unfold Lib.itoa decI
  split
  · rename_i h
    rw [lib_digits, decB, if_neg (by omega)]
  · rw [lib_digits]

theorem below_grow (w : World) (k : Nat) (os : Array Obj) : Below w.heap.size w (Go.Sort.grow (w.drewN k) os) :=
  ⟨rfl, rfl, rfl, by simp [Go.Sort.grow], fun j hj => by
    have hj' : j < w.heap.size := hj
    show (w.heap ++ os)[j]? = w.heap[j]?
    rw [Array.getElem?_append_left hj']⟩

theorem impl_any (n : Int) (w : World) (h0 : -9223372036854775808 ≤ n) (h1 : n ≤ 9223372036854775807) (htab : Lib.TabIs Tryz.prog w "internal/strconv.uint64pow10" .u64 Lib.pow10Tab) :
    Calls Tryz.prog 27 #[.int .i64 n] w fun e w' => e = .returned (.string ⟨(decI n).toArray⟩) ∧ Below w.heap.size w w' := by
  rw [← lib_itoa]
  have HT : Hid _ := htab
  clear htab
  go_enter Tryz.func27, Tryz.ntmps27
  go_wp2_with (go_at_call 38; refine (sh_strconv_Itoa _ h0 h1 _ HT.out).mono ?_; rintro e w' ⟨rfl, k, os, rfl⟩)
  go_ret
  exact ⟨rfl, below_grow _ _ _⟩
end Go.Proofs.YtceclkcmiaehkaoGreatDoor

/- The specification's Decimal, too. -/
namespace Go.Proofs.YtceclkcmiaehkaoGreatDoor
open Go.RowKit

theorem dec_any (n : Int) (w : World) (h0 : -9223372036854775808 ≤ n) (h1 : n ≤ 9223372036854775807) :
    Calls Tryz.prog 18 #[.int .i64 n] w fun e w' => e = .returned (.string ⟨(decI n).toArray⟩) ∧ Below w.heap.size w w' := by
  unfold decI
  by_cases h : n < 0
  · rw [if_pos h]
    have := dec_neg n.natAbs w (by omega) (by omega)
    rwa [show -(n.natAbs : Int) = n by omega] at this
  · rw [if_neg h]
    have := dec_nat n.toNat w (by omega)
    rwa [show (n.toNat : Int) = n by omega] at this

end Go.Proofs.YtceclkcmiaehkaoGreatDoor

/- The laws' copy of a term: each row in a block of its own. -/
namespace Go.Proofs.YtceclkcmiaehkaoGreatDoor
open Go.RowKit

theorem infoT : (Tryz.prog.info? 29).map (fun i => (i.zero, i.size, i.bytes)) = some (some (.agg #[.int .i64 0, .string ⟨#[]⟩, .int .i64 0, .slice none 0 0]), 4, 56) := by kernel_rfl

theorem make_terms (n : Nat) (h1 : n ≤ 1048576) : ∃ M : Array Value, M.size = n * 4 ∧
    (∀ W : World, (Instr.makeSlice 27 (.int .i64 (n : Int)) (.int .i64 (n : Int))).run Tryz.prog W = .ok (.slice (some ⟨W.heap.size, 0, none⟩) n n) (W.alloc (.cells M 29))) := by
  obtain ⟨i0, hi, hz0, hz1, hz2⟩ := info_parts infoT
  refine ⟨madeCells (Value.agg #[.int .i64 0, .string ⟨#[]⟩, .int .i64 0, .slice none 0 0]).cells (n * i0.size), ?_, ?_⟩
  · rw [size_madeCells, hz1]
  · intro W
    have h := run_make (P := Tryz.prog) W 27 29 i0 _ Tryz.underlying27 hi hz0 .i64 .i64 n n (by omega) (by omega) (by rw [hz2]; omega) (by omega)
    simpa using h

def ToOk (t : Tm) : Prop := ∀ (w : World) (v : Value), TmIn w t v → t.wt ≤ 1048576 →
  Calls Tryz.prog 6 #[v] w fun e w' => ∃ v' F, e = .returned v' ∧ Own 29 w' t v' F ∧ (∀ f ∈ F, w.heap.size ≤ f) ∧ F.Nodup ∧ Below w.heap.size w w'

theorem wt_le {ks : List Tm} {t : Tm} (h : t ∈ ks) : t.wt ≤ wts ks := by
  induction ks with
  | nil => cases h
  | cons a r ih =>
    simp only [wts, Tm.wt.wts] at *
    rcases List.mem_cons.1 h with rfl | h
    · omega
    · have := ih h; omega

theorem to_terms (ks : List Tm) (hks : ∀ t ∈ ks, ToOk t) (w : World) (ao : Option Addr) (cap : Nat) (hlen : ks.length + wts ks ≤ 1048576) (h : ks ≠ [] → ∃ b off, ao = some ⟨b, off, none⟩ ∧ TmsIn w ks b off) :
    Calls Tryz.prog 12 #[.slice ao ks.length cap] w fun e w' => ∃ sl F, e = .returned sl ∧ OwnS 29 w' ks sl F ∧ (∀ f ∈ F, w.heap.size ≤ f) ∧ F.Nodup ∧ Below w.heap.size w w' := by
  obtain ⟨M, hM, hmk⟩ := make_terms ks.length (by omega)
  go_enter Tryz.func12, Tryz.ntmps12
  go_wp2
  clear hmk
  go_loopw [4] (fun vi wr => ∃ (j : Nat) (cur : Array Value) (F : List Nat), j ≤ ks.length ∧ vi = .int .i64 (j : Int) ∧ Hid (Below w.heap.size w wr) ∧ wr.heap[w.heap.size]? = some (.cells cur 29 (0, 0)) ∧ cur.size = ks.length * 4 ∧
      Hid (OwnRow 29 wr (ks.take j) (cur.toList.take (j * 4)) F ∧ (∀ f ∈ F, w.heap.size < f) ∧ F.Nodup)) (fun i _ => ks.length - (intOf i).toNat)
  case atStart =>
    refine ⟨0, M, [], by omega, rfl, (Below.refl _ _).alloc (Nat.le_refl _) _, by rw [heap_alloc_new], hM, ?_⟩
    exact ⟨by simp [OwnRow], by simp, by simp⟩
  case round =>
    obtain ⟨j, cur, F, hj, rfl, HB, hblk, hcs, HO⟩ := hrel
    by_cases hlt : j < ks.length
    · obtain ⟨b, off, rfl, hin⟩ := h (by intro e; subst e; simp at hlt)
      obtain ⟨c0, c1, c2, c3, h0, h1, h2, h3, ht⟩ := (TmsIn.keep HB.out ks b off hin).at j hlt
      have hwj := wt_le (List.getElem_mem hlt)
      have HC : Hid _ := hks ks[j] (List.getElem_mem hlt) wr _ ht (by omega)
      have hg : w.heap.size < wr.heap.size := (Array.getElem?_eq_some_iff.1 hblk).1
      have hkeep : ∀ w1 : World, Below wr.heap.size wr w1 → w1.heap[w.heap.size]? = some (.cells cur 29 (0, 0)) := fun w1 hb => (hb.block _ hg).trans hblk
      have HK : Hid _ := hkeep
      clear hin ht h hks hkeep hblk
      go_wp2_with (go_at_call 6; refine (Calls.mono HC.out ?_); rintro e w1 ⟨v', F2, rfl, hown, hfr, hnd, hb⟩; obtain ⟨k', s', n', ao', len', cap', rfl⟩ := own_shape hown; have hg1 := HK.out w1 hb; have x0 := blk_cell (i := j * 4) hg1 (by omega); have x1 := blk_cell (i := j * 4 + 1) hg1 (by omega); have x2 := blk_cell (i := j * 4 + 2) hg1 (by omega); have x3 := blk_cell (i := j * 4 + 3) hg1 (by omega); have z0 := blk_frozen hg1 (j * 4); have z1 := blk_frozen hg1 (j * 4 + 1); have z2 := blk_frozen hg1 (j * 4 + 2); have z3 := blk_frozen hg1 (j * 4 + 3); have HOWN : Hid _ := hown; have HFR : Hid _ := hfr; have HG : Hid _ := hg1; have HBB : Hid _ := hb; clear hown hfr hg1 hb)
      go_roundw
      case rel =>
        have hsz := HB.out.size
        have hb1 := HBB.out
        have hg1 := HG.out
        obtain ⟨o1, o2, o3⟩ := HO.out
        have hlt1 := OwnRow.lt _ _ _ o1
        have hne : ∀ f, w.heap.size < f → f ≠ w.heap.size := fun f hf => by omega
        refine ⟨j + 1, _, F ++ F2, by omega, by go_num, ?_, blk_set (blk_set (blk_set (blk_set hg1 _) _) _) _, by simp; exact hcs, ?_, ?_, ?_⟩
        · exact below_set (below_set (below_set (below_set (HB.out.trans (hb1.mono hsz)) (Nat.le_refl _) _) (Nat.le_refl _) _) (Nat.le_refl _) _) (Nat.le_refl _) _
        · rw [List.take_succ_eq_append_getElem hlt, set4_take (by omega)]
          refine OwnRow.snoc (Own.keep _ _ _ HOWN.out fun f hf => ?_) _ _ _ (OwnRow.keep _ _ _ o1 fun f hf => ?_)
          · have h1 := HFR.out f hf
            rw [blk_other _ (hne f (by omega)), blk_other _ (hne f (by omega)), blk_other _ (hne f (by omega)), blk_other _ (hne f (by omega))]
          · have h1 := o2 f hf
            rw [blk_other _ (hne f h1), blk_other _ (hne f h1), blk_other _ (hne f h1), blk_other _ (hne f h1)]
            exact hb1.block f (hlt1 f hf)
        · intro f hf
          rcases List.mem_append.1 hf with hf | hf
          · exact o2 f hf
          · have := HFR.out f hf; omega
        · refine List.nodup_append.2 ⟨o3, hnd, fun a ha b hb => ?_⟩
          have h1 := hlt1 a ha
          have h2 := HFR.out b hb
          omega
      case measure => simp [intOf]; omega
    · obtain rfl : j = ks.length := by omega
      go_wp2
      go_ret
      obtain ⟨o1, o2, o3⟩ := HO.out
      rw [List.take_of_length_le (Nat.le_refl _)] at o1
      refine ⟨_, w.heap.size :: F, rfl, Or.inr ⟨w.heap.size, ks.length, cur.toList.take (ks.length * 4), F, rfl, ⟨by simp [hcs], Or.inr ⟨w.heap.size, ks.length, cur, rfl, Nat.zero_le _, hblk, Nat.le_refl _, by unfold maxLen; omega, hcs, rfl⟩⟩, rfl, o1⟩, ?_, ?_, HB.out⟩
      · intro f hf
        rcases List.mem_cons.1 hf with rfl | hf
        · exact Nat.le_refl _
        · have := o2 f hf; omega
      · refine List.nodup_cons.2 ⟨fun hf => ?_, o3⟩
        have := o2 _ hf
        omega

theorem alloc_at (w : World) (o : Obj) {i : Nat} (h : i = w.heap.size) : (w.alloc o).heap[i]? = some o := by
  subst h; exact heap_alloc_new w o
theorem alloc_old (w : World) (o : Obj) {i : Nat} (h : i < w.heap.size) : (w.alloc o).heap[i]? = w.heap[i]? :=
  ((Below.refl w.heap.size w).alloc (Nat.le_refl _) o).block i h

theorem to_term (t : Tm) : ToOk t := by
  refine tm_ind (p := ToOk) ?_ t
  clear t
  intro k s n ks hks w v hin hwt
  unfold TmIn at hin
  obtain ⟨ao, cap, rfl, hk, hn, hs, hlen, hcap, hrow⟩ := hin
  have ew : (Tm.mk k s n ks).wt = s.size + (ks.length + wts ks) := by simp [Tm.wt, wts]; omega
  rw [ew] at hwt
  have HS : Hid (∀ w', Below w.heap.size w w' → Calls Tryz.prog 12 #[.slice ao ks.length cap] w' fun e w2 => ∃ sl F, e = .returned sl ∧ OwnS 29 w2 ks sl F ∧ (∀ f ∈ F, w'.heap.size ≤ f) ∧ F.Nodup ∧ Below w'.heap.size w' w2) := fun w' hb =>
    to_terms ks hks w' ao cap (by omega) (fun h0 => by obtain ⟨b, off, e, hr⟩ := hrow h0; exact ⟨b, off, e, TmsIn.keep hb ks b off hr⟩)
  clear hks hrow ew
  go_enter Tryz.func6, Tryz.ntmps6
  go_wp2_with (fail)
  go_at_call 12
  refine (Calls.mono (HS.out _ ((((Below.refl _ _).alloc (Nat.le_refl _) _).alloc (by simp) _).alloc (by simp; omega) _)) ?_)
  rintro e w1 ⟨sl, F, rfl, hown, hfr, hnd, hb⟩
  obtain ⟨ao2, len2, cap2, rfl⟩ : ∃ ao2 len2 cap2, sl = .slice ao2 len2 cap2 := by
    rcases hown with ⟨rfl, _⟩ | ⟨g, cap, cs, F', rfl, _⟩
    · exact ⟨_, _, _, rfl⟩
    · exact ⟨_, _, _, rfl⟩
  have hb2 : w1.heap[w.heap.size + 1 + 1]? = some (.cells #[.int .i64 k, .string s, .int .i64 n, .slice none 0 0] 29 (0, 0)) := by
    rw [hb.block _ (by simp)]
    exact alloc_at _ _ (by simp)
  have hb1 : w1.heap[w.heap.size + 1]? = some (.cells #[.int .i64 0, .string ⟨#[]⟩, .int .i64 0, .slice none 0 0] 29 (0, 0)) := by
    rw [hb.block _ (by simp), alloc_old _ _ (by simp)]
    exact alloc_at _ _ (by simp)
  have HOWN : Hid _ := hown
  have HFR : Hid _ := hfr
  have HBB : Hid _ := hb
  have y0 := blk_cell (i := 0) hb2 (by simp)
  have y1 := blk_cell (i := 1) hb2 (by simp)
  have y2 := blk_cell (i := 2) hb2 (by simp)
  have y3 := blk_cell (i := 3) hb2 (by simp)
  have z3 := blk_frozen hb2 3
  have x0 := blk_cell (i := 0) hb1 (by simp)
  have x1 := blk_cell (i := 1) hb1 (by simp)
  have x2 := blk_cell (i := 2) hb1 (by simp)
  have x3 := blk_cell (i := 3) hb1 (by simp)
  have u0 := blk_frozen hb1 0
  have u1 := blk_frozen hb1 1
  have u2 := blk_frozen hb1 2
  have u3 := blk_frozen hb1 3
  simp only [List.getElem_toArray, List.getElem_cons_zero, List.getElem_cons_succ] at y0 y1 y2 y3 x0 x1 x2 x3
  have H1 : Hid _ := hb1
  clear hown hfr hb hb2 hb1 HS
  go_wp2
  have hsz := HBB.out.size
  simp at hsz
  have hbl : Below w.heap.size w w1 := ((((Below.refl _ _).alloc (Nat.le_refl _) _).alloc (by simp) _).alloc (by simp; omega) _).trans (HBB.out.mono (by simp; omega))
  have hR : (((((w1.setCell ⟨w.heap.size + 1 + 1, 3, none⟩ (.slice ao2 len2 cap2)).setCell ⟨w.heap.size + 1, 0, none⟩ (.int .i64 k)).setCell ⟨w.heap.size + 1, 1, none⟩ (.string s)).setCell ⟨w.heap.size + 1, 2, none⟩ (.int .i64 n)).setCell ⟨w.heap.size + 1, 3, none⟩ (.slice ao2 len2 cap2)).heap[w.heap.size + 1]? = some (.cells #[.int .i64 k, .string s, .int .i64 n, .slice ao2 len2 cap2] 29 (0, 0)) := by
    have := blk_set (i := 3) (blk_set (i := 2) (blk_set (i := 1) (blk_set (i := 0) ((blk_other (g := w.heap.size + 1 + 1) (i := 3) (w := w1) (.slice ao2 len2 cap2) (show w.heap.size + 1 ≠ w.heap.size + 1 + 1 by omega)).trans H1.out) (.int .i64 k)) (.string s)) (.int .i64 n)) (.slice ao2 len2 cap2)
    simpa using this
  refine bodyPost_ret_by (results_cell_row rfl _ _ (w.heap.size + 1) 29 _ (0, 0) _ rfl hR Tryz.underlying29 rfl (by kernel_rfl)) rfl ?_
  refine ⟨_, F, rfl, own_mk ?_ hk hn hs, ?_, hnd, ?_⟩
  · refine OwnS.keep HOWN.out fun f hf => ?_
    have := HFR.out f hf
    simp at this
    rw [blk_other _ (by omega), blk_other _ (by omega), blk_other _ (by omega), blk_other _ (by omega), blk_other _ (by omega)]
  · intro f hf
    have := HFR.out f hf
    simp at this
    omega
  · exact below_set (below_set (below_set (below_set (below_set hbl (by omega) _) (by omega) _) (by omega) _) (by omega) _) (by omega) _
end Go.Proofs.YtceclkcmiaehkaoGreatDoor

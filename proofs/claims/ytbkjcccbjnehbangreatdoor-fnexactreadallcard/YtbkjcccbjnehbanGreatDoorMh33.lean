import Derived.Test.YtbkjcccbjnehbanGreatDoorMh32
import Derived.Test.YtbkjcccbjnehbanGreatDoorMh5
import Derived.Test.YtbkjcccbjnehbanGreatDoorMh28
import Derived.Test.YtbkjcccbjnehbanGreatDoorMh3
namespace Go.Proofs.YtbkjcccbjnehbanGreatDoor
open Go.RowKit
def markB (s : Sg) (q : ByteArray) : Bool := decide (s.kind = 4) && decide (s.text = q)
theorem toL_ne3 {a b : ByteArray} (h : ¬ a = b) : (a.toList == b.toList) = false := by
 rw [beq_eq_false_iff_ne]
 intro e
 apply h
 rw [ByteArray.toList_eq, ByteArray.toList_eq] at e
 apply ByteArray.ext
 exact Array.toList_inj.1 e
set_option maxHeartbeats 1000000 in
theorem i_isMark (s : Sg) (q : ByteArray) (w : World) :
   Calls Tryz.prog 88 #[sgA s, .string q] w fun e w' => e = .returned (.bool (markB s q)) ∧ Below w.heap.size w w' := by
 obtain ⟨k, x, n, a, b⟩ := s
 have HB : Hid (Below w.heap.size w (w.alloc (.cells #[.int .i64 k, .string x, .int .i64 n, .int .i64 (a : Int), .bool b] 45))) := (Below.refl _ _).alloc (Nat.le_refl _) _
 obtain ⟨r, hr⟩ : ∃ r, r = markB ⟨k, x, n, a, b⟩ q := ⟨_, rfl⟩
 have HV : Hid (r = (decide (k = 4) && decide (x = q))) := hr
 rw [← hr]
 clear hr
 by_cases h1 : k = 4
 · subst h1
   by_cases h2 : x = q
   · subst h2
     go_enter Tryz.func88, Tryz.ntmps88
     go_wp2
     go_ret
     exact ⟨by rw [HV.out]; simp, HB.out⟩
   · have h2' := toL_ne3 h2
     have HF : Hid (decide (x = q) = false) := decide_eq_false h2
     clear h2
     go_enter Tryz.func88, Tryz.ntmps88
     go_wp2
     go_ret
     exact ⟨by rw [HV.out, HF.out, Bool.and_false]; rfl, HB.out⟩
 · have h1' : (k == 4) = false := beq_eq_false_iff_ne.2 h1
   have HF : Hid (decide (k = 4) = false) := decide_eq_false h1
   clear h1
   go_enter Tryz.func88, Tryz.ntmps88
   go_wp2
   go_ret
   exact ⟨by rw [HV.out, HF.out, Bool.false_and]; rfl, HB.out⟩
theorem mark_mk {st : St} {q : ByteArray} : markB (aheadP st 0) q = (mk? q st.rest).isSome := by
 obtain ⟨rest, names⟩ := st
 cases rest with
 | nil => rfl
 | cons x r =>
   show (decide (x.kind = 4) && decide (x.text = q)) = (if x.kind = 4 ∧ x.text = q then some r else none).isSome
   by_cases h : x.kind = 4 ∧ x.text = q
   · rw [if_pos h, decide_eq_true h.1, decide_eq_true h.2]; rfl
   · rw [if_neg h]
     by_cases h1 : x.kind = 4
     · rw [decide_eq_false (fun e => h ⟨h1, e⟩), Bool.and_false]; rfl
     · rw [decide_eq_false h1, Bool.false_and]; rfl
theorem IRd.step {g m : Nat} {L : List Sg} {lv nv : Value} {w : World} {d : Nat} {x : Sg} {r : List Sg} {names : List ByteArray} (h : IRd g m L lv nv w d ⟨x :: r, names⟩) :
   ∃ p : Nat, w.cell? ⟨g, 1, none⟩ = some (.int .i64 (p : Int)) ∧ p < L.length ∧ w.frozen? ⟨g, 1, none⟩ = false ∧ IRd g m L lv nv (w.setCell ⟨g, 1, none⟩ (.int .i64 ((p + 1 : Nat) : Int))) d ⟨r, names⟩ := by
 obtain ⟨p, ms, h1, h2, h3, h4, h5, h6, h7, h8, h9, h10⟩ := h.ex
 obtain ⟨c0, c1, c2, c3, c4, cf⟩ := b5f h1
 have hl := congrArg List.length h9
 rw [List.length_drop, List.length_cons] at hl
 refine ⟨p, c1, by omega, cf 1, ?_⟩
 have hs : (w.setCell ⟨g, 1, none⟩ (.int .i64 ((p + 1 : Nat) : Int))).heap[g]? = some (.cells #[lv, .int .i64 ((p + 1 : Nat) : Int), .int .i64 (d : Int), nv, .map (some m)] 63 (0, 0)) := by
   have := blk_set (i := 1) h1 (.int .i64 ((p + 1 : Nat) : Int))
   simpa using this
 have ho : ∀ k, k ≠ g → (w.setCell ⟨g, 1, none⟩ (.int .i64 ((p + 1 : Nat) : Int))).heap[k]? = w.heap[k]? := fun k hk => blk_other _ hk
 refine ⟨p + 1, ms, hs, h2.turn fun b e => ho b (by have := (h3 b e).1; omega), h3, h4.turn fun b e => ho b (by have := (h4.lt b e).1; omega), h5.turn (ho m h7), h6, h7, by omega, ?_, by show names.length ≤ p + 1; have : names.length ≤ p := h10; omega⟩
 show L.drop (p + 1) = r
 have : L.drop (p + 1) = (L.drop p).drop 1 := by rw [List.drop_drop]
 rw [this, h9]; rfl
def PassR (g m : Nat) (L : List Sg) (lv nv : Value) (d : Nat) (st : St) (q : ByteArray) (w : World) (e : Ending) (w' : World) : Prop :=
 e = .returned (.bool (mk? q st.rest).isSome) ∧ IRd g m L lv nv w' d ⟨(mk? q st.rest).getD st.rest, st.names⟩ ∧ FX (XI g m nv) (XI g m nv) w w'
set_option maxHeartbeats 2000000 in
theorem i_passed (g m : Nat) (L : List Sg) (lv nv : Value) (d : Nat) (st : St) (q : ByteArray) (w : World) (hL : L.length ≤ 3000) (h : IRd g m L lv nv w d st) :
   Calls Tryz.prog 102 #[.pointer (some ⟨g, 0, none⟩), .string q] w (PassR g m L lv nv d st q w) := by
 have HA : Hid _ := i_ahead g m L lv nv d st 0 w (by omega) hL h
 have HM : Hid (∀ w, Calls Tryz.prog 88 #[sgA (aheadP st 0), .string q] w fun e w' => e = .returned (.bool (markB (aheadP st 0) q)) ∧ Below w.heap.size w w') := fun w => i_isMark _ q w
 rw [mark_mk] at HM
 have HI : Hid (∀ w', Below w.heap.size w w' → IRd g m L lv nv w' d st) := fun w' hb => h.keep hb
 have HL3 : Hid (L.length ≤ 3000) := hL
 cases hk : mk? q st.rest with
 | none =>
   rw [hk] at HM
   have HK : Hid (mk? q st.rest = none) := hk
   clear hk h hL
   go_enter Tryz.func102, Tryz.ntmps102
   go_wp2_with (first
     | (go_at_call 86; refine (Calls.mono HA.out ?_); rintro e w1 ⟨rfl, b1⟩; have B1 : Hid (Below w.heap.size w w1) := b1; clear b1)
     | (go_at_call 88; refine (Calls.mono (HM.out _) ?_); rintro e w2 ⟨rfl, b2⟩; have B2 : Hid (Below w.heap.size w w2) := B1.out.trans (b2.mono B1.out.size); clear b2))
   go_ret
   exact ⟨by rw [HK.out]; rfl, by rw [HK.out]; exact HI.out _ B2.out, FX.of_below B2.out⟩
 | some r =>
   rw [hk] at HM
   obtain ⟨x, hx, _⟩ := mk?_cons hk
   have HK : Hid (mk? q st.rest = some r) := hk
   obtain ⟨rest, names⟩ := st
   subst hx
   clear hk h hL
   go_enter Tryz.func102, Tryz.ntmps102
   go_upto_region 3 with (first
     | (go_at_call 86; refine (Calls.mono HA.out ?_); rintro e w1 ⟨rfl, b1⟩; have B1 : Hid (Below w.heap.size w w1) := b1; clear b1)
     | (go_at_call 88; refine (Calls.mono (HM.out _) ?_); rintro e w2 ⟨rfl, b2⟩; have B2 : Hid (Below w.heap.size w w2) := B1.out.trans (b2.mono B1.out.size); clear b2))
   obtain ⟨p, c1, hp, f1, hI⟩ := (HI.out _ B2.out).step
   have HS : Hid _ := hI
   have hwr : IntKind.i64.wrap ((p : Int) + 1) = ((p + 1 : Nat) : Int) := by have := HL3.out; rw [IntKind.wrap_i64]; omega
   clear hI
   go_wp2
   go_ret
   exact ⟨by rw [HK.out]; rfl, by rw [HK.out]; exact HS.out, (FX.of_below B2.out).set (Or.inl (Or.inl rfl)) _⟩
abbrev unreadC : List PanicEntry := [{ v := .iface 86 (.agg #[]), recovered := false }]
set_option maxHeartbeats 2000000 in
theorem i_mustPass (g m : Nat) (L : List Sg) (lv nv : Value) (d : Nat) (st : St) (q : ByteArray) (w : World) (hL : L.length ≤ 3000) (h : IRd g m L lv nv w d st) :
   Calls Tryz.prog 100 #[.pointer (some ⟨g, 0, none⟩), .string q] w fun e w' => FX (XI g m nv) (XI g m nv) w w' ∧ match mk? q st.rest with
     | some r => e = .returned (.tuple #[]) ∧ IRd g m L lv nv w' d ⟨r, st.names⟩
     | none => e = .panicked unreadC := by
 have HP : Hid _ := i_passed g m L lv nv d st q w hL h
 clear h
 cases hk : mk? q st.rest with
 | none =>
   have HK : Hid (mk? q st.rest = none) := hk
   clear hk
   go_enter Tryz.func100, Tryz.ntmps100
   go_upto_region 1 with (go_at_call 102; refine (Calls.mono HP.out ?_); rintro e w1 ⟨rfl, _, hx⟩; rw [HK.out]; have HX : Hid (FX (XI g m nv) (XI g m nv) w w1) := hx; clear hx)
   go_wp2
   exact ⟨rfl, HX.out, rfl⟩
 | some r =>
   have HK : Hid (mk? q st.rest = some r) := hk
   clear hk
   go_enter Tryz.func100, Tryz.ntmps100
   go_wp2_with (go_at_call 102; refine (Calls.mono HP.out ?_); rintro e w1 ⟨rfl, hi, hx⟩; rw [HK.out] at hi ⊢; have HX : Hid (FX (XI g m nv) (XI g m nv) w w1) := hx; have HI : Hid (IRd g m L lv nv w1 d ⟨r, st.names⟩) := hi; clear hx hi)
   refine bodyPost_end (results_none rfl _ _ _) rfl ?_
   exact ⟨HX.out, rfl, HI.out⟩
end Go.Proofs.YtbkjcccbjnehbanGreatDoor

namespace Go.Proofs.YtbkjcccbjnehbanGreatDoor
open Go.RowKit
theorem below_heap {w w' : World} (hb : Below w.heap.size w w') {g : Nat} {x : Obj} (h : w.heap[g]? = some x) : w'.heap[g]? = some x := by
 rw [← h]; exact hb.block g (Array.getElem?_eq_some_iff.1 h).1
set_option maxHeartbeats 1000000 in
theorem new_op (s : ByteArray) (a b c : Int) (w : World) (hs : s.size ≤ 1048576) :
   Calls Tryz.prog 104 #[.string s, .int .i64 a, .int .i64 b, .int .i64 c] w fun e w' => e = .returned (.agg #[.string s, .int .i64 a, .int .i64 b, .int .i64 c]) ∧ Below w.heap.size w w' := by
 go_enter Tryz.func104, Tryz.ntmps104
 go_wp2_with (go_at_call 70; refine (clone_any s _ hs).mono ?_; rintro e w1 ⟨rfl, hb⟩; have hh := below_heap hb (heap_alloc_new _ _); obtain ⟨c0, c1, c2, c3, f0, f1, f2, f3⟩ := blk4 hh; have HB : Hid (Below w.heap.size w w1) := ((Below.refl _ _).alloc (Nat.le_refl _) _).trans (hb.mono (by simp)); clear hb)
 refine bodyPost_ret_by (results_cell_row rfl _ _ w.heap.size 72 _ (0, 0) _ rfl (blk4_set hh) Tryz.underlying72 rfl (by kernel_rfl)) rfl ?_
 exact ⟨rfl, blk4_below HB.out (Nat.le_refl _)⟩
set_option maxHeartbeats 8000000 in
theorem i_prefix (s : ByteArray) (w : World) (hs : s.size ≤ 1048576) :
   Calls Tryz.prog 103 #[.string s] w fun e w' => e = .returned (.tuple #[opV (prefixP s), .bool (prefixP s).isSome]) ∧ Below w.heap.size w w' := by
 by_cases h0 : s = ⟨#[58, 45]⟩
 · subst h0
   have HC : Hid _ := fun w => new_op ⟨#[58, 45]⟩ 1200 0 1199 w hs
   clear hs
   go_enter Tryz.func103, Tryz.ntmps103
   go_wp2_with (go_at_call 104; refine (HC.out _).mono ?_; rintro e w1 ⟨rfl, hb⟩; have hh := below_heap hb (heap_alloc_new _ _); obtain ⟨c0, c1, c2, c3, f0, f1, f2, f3⟩ := blk4 hh; have HB : Hid (Below w.heap.size w w1) := ((Below.refl _ _).alloc (Nat.le_refl _) _).trans (hb.mono (by simp)); clear hb)
   refine bodyPost_ret_by (results_ct2 rfl _ _ w.heap.size 72 _ (0, 0) _ rfl (blk4_set hh) Tryz.underlying72 rfl (by kernel_rfl)) rfl ?_
   exact ⟨rfl, blk4_below HB.out (Nat.le_refl _)⟩
 by_cases h1 : s = ⟨#[92, 43]⟩
 · subst h1
   have HC : Hid _ := fun w => new_op ⟨#[92, 43]⟩ 900 0 900 w hs
   clear hs
   go_enter Tryz.func103, Tryz.ntmps103
   go_wp2_with (go_at_call 104; refine (HC.out _).mono ?_; rintro e w1 ⟨rfl, hb⟩; have hh := below_heap hb (heap_alloc_new _ _); obtain ⟨c0, c1, c2, c3, f0, f1, f2, f3⟩ := blk4 hh; have HB : Hid (Below w.heap.size w w1) := ((Below.refl _ _).alloc (Nat.le_refl _) _).trans (hb.mono (by simp)); clear hb)
   refine bodyPost_ret_by (results_ct2 rfl _ _ w.heap.size 72 _ (0, 0) _ rfl (blk4_set hh) Tryz.underlying72 rfl (by kernel_rfl)) rfl ?_
   exact ⟨rfl, blk4_below HB.out (Nat.le_refl _)⟩
 by_cases h2 : s = ⟨#[45]⟩
 · subst h2
   have HC : Hid _ := fun w => new_op ⟨#[45]⟩ 200 0 200 w hs
   clear hs
   go_enter Tryz.func103, Tryz.ntmps103
   go_wp2_with (go_at_call 104; refine (HC.out _).mono ?_; rintro e w1 ⟨rfl, hb⟩; have hh := below_heap hb (heap_alloc_new _ _); obtain ⟨c0, c1, c2, c3, f0, f1, f2, f3⟩ := blk4 hh; have HB : Hid (Below w.heap.size w w1) := ((Below.refl _ _).alloc (Nat.le_refl _) _).trans (hb.mono (by simp)); clear hb)
   refine bodyPost_ret_by (results_ct2 rfl _ _ w.heap.size 72 _ (0, 0) _ rfl (blk4_set hh) Tryz.underlying72 rfl (by kernel_rfl)) rfl ?_
   exact ⟨rfl, blk4_below HB.out (Nat.le_refl _)⟩
 have HN : Hid (prefixP s = none) := by
   show _ = _
   unfold prefixP
   split <;> first | rfl | skip
   all_goals
     rename_i hh
     exfalso
     have hs : s = ⟨s.data.toList.toArray⟩ := by simp
     rw [hh] at hs
     first | exact h0 hs | exact h1 hs | exact h2 hs
 have e0 : (s.toList == [58, 45]) = false := toL_ne (l := [58, 45]) h0
 have e1 : (s.toList == [92, 43]) = false := toL_ne (l := [92, 43]) h1
 have e2 : (s.toList == [45]) = false := toL_ne (l := [45]) h2
 clear hs h0 h1 h2
 go_enter Tryz.func103, Tryz.ntmps103
 go_wp2
 refine bodyPost_ret_by (results_ct2 rfl _ _ w.heap.size 72 _ (0, 0) _ rfl (heap_alloc_new _ _) Tryz.underlying72 rfl (by kernel_rfl)) rfl ?_
 exact ⟨by rw [HN.out]; rfl, (Below.refl _ _).alloc (Nat.le_refl _) _⟩
set_option maxHeartbeats 8000000 in
theorem i_infix (s : ByteArray) (w : World) (hs : s.size ≤ 1048576) :
   Calls Tryz.prog 95 #[.string s] w fun e w' => e = .returned (.tuple #[opV (infixP s), .bool (infixP s).isSome]) ∧ Below w.heap.size w w' := by
 by_cases h0 : s = ⟨#[58, 45]⟩
 · subst h0
   have HC : Hid _ := fun w => new_op ⟨#[58, 45]⟩ 1200 1199 1199 w hs
   clear hs
   go_enter Tryz.func95, Tryz.ntmps95
   go_wp2_with (go_at_call 104; refine (HC.out _).mono ?_; rintro e w1 ⟨rfl, hb⟩; have hh := below_heap hb (heap_alloc_new _ _); obtain ⟨c0, c1, c2, c3, f0, f1, f2, f3⟩ := blk4 hh; have HB : Hid (Below w.heap.size w w1) := ((Below.refl _ _).alloc (Nat.le_refl _) _).trans (hb.mono (by simp)); clear hb)
   refine bodyPost_ret_by (results_ct2 rfl _ _ w.heap.size 72 _ (0, 0) _ rfl (blk4_set hh) Tryz.underlying72 rfl (by kernel_rfl)) rfl ?_
   exact ⟨rfl, blk4_below HB.out (Nat.le_refl _)⟩
 by_cases h1 : s = ⟨#[45, 45, 62]⟩
 · subst h1
   have HC : Hid _ := fun w => new_op ⟨#[45, 45, 62]⟩ 1200 1199 1199 w hs
   clear hs
   go_enter Tryz.func95, Tryz.ntmps95
   go_wp2_with (go_at_call 104; refine (HC.out _).mono ?_; rintro e w1 ⟨rfl, hb⟩; have hh := below_heap hb (heap_alloc_new _ _); obtain ⟨c0, c1, c2, c3, f0, f1, f2, f3⟩ := blk4 hh; have HB : Hid (Below w.heap.size w w1) := ((Below.refl _ _).alloc (Nat.le_refl _) _).trans (hb.mono (by simp)); clear hb)
   refine bodyPost_ret_by (results_ct2 rfl _ _ w.heap.size 72 _ (0, 0) _ rfl (blk4_set hh) Tryz.underlying72 rfl (by kernel_rfl)) rfl ?_
   exact ⟨rfl, blk4_below HB.out (Nat.le_refl _)⟩
 by_cases h2 : s = ⟨#[59]⟩
 · subst h2
   have HC : Hid _ := fun w => new_op ⟨#[59]⟩ 1100 1099 1100 w hs
   clear hs
   go_enter Tryz.func95, Tryz.ntmps95
   go_wp2_with (go_at_call 104; refine (HC.out _).mono ?_; rintro e w1 ⟨rfl, hb⟩; have hh := below_heap hb (heap_alloc_new _ _); obtain ⟨c0, c1, c2, c3, f0, f1, f2, f3⟩ := blk4 hh; have HB : Hid (Below w.heap.size w w1) := ((Below.refl _ _).alloc (Nat.le_refl _) _).trans (hb.mono (by simp)); clear hb)
   refine bodyPost_ret_by (results_ct2 rfl _ _ w.heap.size 72 _ (0, 0) _ rfl (blk4_set hh) Tryz.underlying72 rfl (by kernel_rfl)) rfl ?_
   exact ⟨rfl, blk4_below HB.out (Nat.le_refl _)⟩
 by_cases h3 : s = ⟨#[45, 62]⟩
 · subst h3
   have HC : Hid _ := fun w => new_op ⟨#[45, 62]⟩ 1050 1049 1050 w hs
   clear hs
   go_enter Tryz.func95, Tryz.ntmps95
   go_wp2_with (go_at_call 104; refine (HC.out _).mono ?_; rintro e w1 ⟨rfl, hb⟩; have hh := below_heap hb (heap_alloc_new _ _); obtain ⟨c0, c1, c2, c3, f0, f1, f2, f3⟩ := blk4 hh; have HB : Hid (Below w.heap.size w w1) := ((Below.refl _ _).alloc (Nat.le_refl _) _).trans (hb.mono (by simp)); clear hb)
   refine bodyPost_ret_by (results_ct2 rfl _ _ w.heap.size 72 _ (0, 0) _ rfl (blk4_set hh) Tryz.underlying72 rfl (by kernel_rfl)) rfl ?_
   exact ⟨rfl, blk4_below HB.out (Nat.le_refl _)⟩
 by_cases h4 : s = ⟨#[44]⟩
 · subst h4
   have HC : Hid _ := fun w => new_op ⟨#[44]⟩ 1000 999 1000 w hs
   clear hs
   go_enter Tryz.func95, Tryz.ntmps95
   go_wp2_with (go_at_call 104; refine (HC.out _).mono ?_; rintro e w1 ⟨rfl, hb⟩; have hh := below_heap hb (heap_alloc_new _ _); obtain ⟨c0, c1, c2, c3, f0, f1, f2, f3⟩ := blk4 hh; have HB : Hid (Below w.heap.size w w1) := ((Below.refl _ _).alloc (Nat.le_refl _) _).trans (hb.mono (by simp)); clear hb)
   refine bodyPost_ret_by (results_ct2 rfl _ _ w.heap.size 72 _ (0, 0) _ rfl (blk4_set hh) Tryz.underlying72 rfl (by kernel_rfl)) rfl ?_
   exact ⟨rfl, blk4_below HB.out (Nat.le_refl _)⟩
 by_cases h5 : s = ⟨#[61]⟩
 · subst h5
   have HC : Hid _ := fun w => new_op ⟨#[61]⟩ 700 699 699 w hs
   clear hs
   go_enter Tryz.func95, Tryz.ntmps95
   go_wp2_with (go_at_call 104; refine (HC.out _).mono ?_; rintro e w1 ⟨rfl, hb⟩; have hh := below_heap hb (heap_alloc_new _ _); obtain ⟨c0, c1, c2, c3, f0, f1, f2, f3⟩ := blk4 hh; have HB : Hid (Below w.heap.size w w1) := ((Below.refl _ _).alloc (Nat.le_refl _) _).trans (hb.mono (by simp)); clear hb)
   refine bodyPost_ret_by (results_ct2 rfl _ _ w.heap.size 72 _ (0, 0) _ rfl (blk4_set hh) Tryz.underlying72 rfl (by kernel_rfl)) rfl ?_
   exact ⟨rfl, blk4_below HB.out (Nat.le_refl _)⟩
 by_cases h6 : s = ⟨#[92, 61]⟩
 · subst h6
   have HC : Hid _ := fun w => new_op ⟨#[92, 61]⟩ 700 699 699 w hs
   clear hs
   go_enter Tryz.func95, Tryz.ntmps95
   go_wp2_with (go_at_call 104; refine (HC.out _).mono ?_; rintro e w1 ⟨rfl, hb⟩; have hh := below_heap hb (heap_alloc_new _ _); obtain ⟨c0, c1, c2, c3, f0, f1, f2, f3⟩ := blk4 hh; have HB : Hid (Below w.heap.size w w1) := ((Below.refl _ _).alloc (Nat.le_refl _) _).trans (hb.mono (by simp)); clear hb)
   refine bodyPost_ret_by (results_ct2 rfl _ _ w.heap.size 72 _ (0, 0) _ rfl (blk4_set hh) Tryz.underlying72 rfl (by kernel_rfl)) rfl ?_
   exact ⟨rfl, blk4_below HB.out (Nat.le_refl _)⟩
 by_cases h7 : s = ⟨#[61, 61]⟩
 · subst h7
   have HC : Hid _ := fun w => new_op ⟨#[61, 61]⟩ 700 699 699 w hs
   clear hs
   go_enter Tryz.func95, Tryz.ntmps95
   go_wp2_with (go_at_call 104; refine (HC.out _).mono ?_; rintro e w1 ⟨rfl, hb⟩; have hh := below_heap hb (heap_alloc_new _ _); obtain ⟨c0, c1, c2, c3, f0, f1, f2, f3⟩ := blk4 hh; have HB : Hid (Below w.heap.size w w1) := ((Below.refl _ _).alloc (Nat.le_refl _) _).trans (hb.mono (by simp)); clear hb)
   refine bodyPost_ret_by (results_ct2 rfl _ _ w.heap.size 72 _ (0, 0) _ rfl (blk4_set hh) Tryz.underlying72 rfl (by kernel_rfl)) rfl ?_
   exact ⟨rfl, blk4_below HB.out (Nat.le_refl _)⟩
 by_cases h8 : s = ⟨#[105, 115]⟩
 · subst h8
   have HC : Hid _ := fun w => new_op ⟨#[105, 115]⟩ 700 699 699 w hs
   clear hs
   go_enter Tryz.func95, Tryz.ntmps95
   go_wp2_with (go_at_call 104; refine (HC.out _).mono ?_; rintro e w1 ⟨rfl, hb⟩; have hh := below_heap hb (heap_alloc_new _ _); obtain ⟨c0, c1, c2, c3, f0, f1, f2, f3⟩ := blk4 hh; have HB : Hid (Below w.heap.size w w1) := ((Below.refl _ _).alloc (Nat.le_refl _) _).trans (hb.mono (by simp)); clear hb)
   refine bodyPost_ret_by (results_ct2 rfl _ _ w.heap.size 72 _ (0, 0) _ rfl (blk4_set hh) Tryz.underlying72 rfl (by kernel_rfl)) rfl ?_
   exact ⟨rfl, blk4_below HB.out (Nat.le_refl _)⟩
 by_cases h9 : s = ⟨#[60]⟩
 · subst h9
   have HC : Hid _ := fun w => new_op ⟨#[60]⟩ 700 699 699 w hs
   clear hs
   go_enter Tryz.func95, Tryz.ntmps95
   go_wp2_with (go_at_call 104; refine (HC.out _).mono ?_; rintro e w1 ⟨rfl, hb⟩; have hh := below_heap hb (heap_alloc_new _ _); obtain ⟨c0, c1, c2, c3, f0, f1, f2, f3⟩ := blk4 hh; have HB : Hid (Below w.heap.size w w1) := ((Below.refl _ _).alloc (Nat.le_refl _) _).trans (hb.mono (by simp)); clear hb)
   refine bodyPost_ret_by (results_ct2 rfl _ _ w.heap.size 72 _ (0, 0) _ rfl (blk4_set hh) Tryz.underlying72 rfl (by kernel_rfl)) rfl ?_
   exact ⟨rfl, blk4_below HB.out (Nat.le_refl _)⟩
 by_cases h10 : s = ⟨#[61, 58, 61]⟩
 · subst h10
   have HC : Hid _ := fun w => new_op ⟨#[61, 58, 61]⟩ 700 699 699 w hs
   clear hs
   go_enter Tryz.func95, Tryz.ntmps95
   go_wp2_with (go_at_call 104; refine (HC.out _).mono ?_; rintro e w1 ⟨rfl, hb⟩; have hh := below_heap hb (heap_alloc_new _ _); obtain ⟨c0, c1, c2, c3, f0, f1, f2, f3⟩ := blk4 hh; have HB : Hid (Below w.heap.size w w1) := ((Below.refl _ _).alloc (Nat.le_refl _) _).trans (hb.mono (by simp)); clear hb)
   refine bodyPost_ret_by (results_ct2 rfl _ _ w.heap.size 72 _ (0, 0) _ rfl (blk4_set hh) Tryz.underlying72 rfl (by kernel_rfl)) rfl ?_
   exact ⟨rfl, blk4_below HB.out (Nat.le_refl _)⟩
 by_cases h11 : s = ⟨#[43]⟩
 · subst h11
   have HC : Hid _ := fun w => new_op ⟨#[43]⟩ 500 500 499 w hs
   clear hs
   go_enter Tryz.func95, Tryz.ntmps95
   go_wp2_with (go_at_call 104; refine (HC.out _).mono ?_; rintro e w1 ⟨rfl, hb⟩; have hh := below_heap hb (heap_alloc_new _ _); obtain ⟨c0, c1, c2, c3, f0, f1, f2, f3⟩ := blk4 hh; have HB : Hid (Below w.heap.size w w1) := ((Below.refl _ _).alloc (Nat.le_refl _) _).trans (hb.mono (by simp)); clear hb)
   refine bodyPost_ret_by (results_ct2 rfl _ _ w.heap.size 72 _ (0, 0) _ rfl (blk4_set hh) Tryz.underlying72 rfl (by kernel_rfl)) rfl ?_
   exact ⟨rfl, blk4_below HB.out (Nat.le_refl _)⟩
 by_cases h12 : s = ⟨#[45]⟩
 · subst h12
   have HC : Hid _ := fun w => new_op ⟨#[45]⟩ 500 500 499 w hs
   clear hs
   go_enter Tryz.func95, Tryz.ntmps95
   go_wp2_with (go_at_call 104; refine (HC.out _).mono ?_; rintro e w1 ⟨rfl, hb⟩; have hh := below_heap hb (heap_alloc_new _ _); obtain ⟨c0, c1, c2, c3, f0, f1, f2, f3⟩ := blk4 hh; have HB : Hid (Below w.heap.size w w1) := ((Below.refl _ _).alloc (Nat.le_refl _) _).trans (hb.mono (by simp)); clear hb)
   refine bodyPost_ret_by (results_ct2 rfl _ _ w.heap.size 72 _ (0, 0) _ rfl (blk4_set hh) Tryz.underlying72 rfl (by kernel_rfl)) rfl ?_
   exact ⟨rfl, blk4_below HB.out (Nat.le_refl _)⟩
 by_cases h13 : s = ⟨#[42]⟩
 · subst h13
   have HC : Hid _ := fun w => new_op ⟨#[42]⟩ 400 400 399 w hs
   clear hs
   go_enter Tryz.func95, Tryz.ntmps95
   go_wp2_with (go_at_call 104; refine (HC.out _).mono ?_; rintro e w1 ⟨rfl, hb⟩; have hh := below_heap hb (heap_alloc_new _ _); obtain ⟨c0, c1, c2, c3, f0, f1, f2, f3⟩ := blk4 hh; have HB : Hid (Below w.heap.size w w1) := ((Below.refl _ _).alloc (Nat.le_refl _) _).trans (hb.mono (by simp)); clear hb)
   refine bodyPost_ret_by (results_ct2 rfl _ _ w.heap.size 72 _ (0, 0) _ rfl (blk4_set hh) Tryz.underlying72 rfl (by kernel_rfl)) rfl ?_
   exact ⟨rfl, blk4_below HB.out (Nat.le_refl _)⟩
 by_cases h14 : s = ⟨#[47, 47]⟩
 · subst h14
   have HC : Hid _ := fun w => new_op ⟨#[47, 47]⟩ 400 400 399 w hs
   clear hs
   go_enter Tryz.func95, Tryz.ntmps95
   go_wp2_with (go_at_call 104; refine (HC.out _).mono ?_; rintro e w1 ⟨rfl, hb⟩; have hh := below_heap hb (heap_alloc_new _ _); obtain ⟨c0, c1, c2, c3, f0, f1, f2, f3⟩ := blk4 hh; have HB : Hid (Below w.heap.size w w1) := ((Below.refl _ _).alloc (Nat.le_refl _) _).trans (hb.mono (by simp)); clear hb)
   refine bodyPost_ret_by (results_ct2 rfl _ _ w.heap.size 72 _ (0, 0) _ rfl (blk4_set hh) Tryz.underlying72 rfl (by kernel_rfl)) rfl ?_
   exact ⟨rfl, blk4_below HB.out (Nat.le_refl _)⟩
 have HN : Hid (infixP s = none) := by
   show _ = _
   unfold infixP
   split <;> first | rfl | skip
   all_goals
     rename_i hh
     exfalso
     have hs : s = ⟨s.data.toList.toArray⟩ := by simp
     rw [hh] at hs
     first | exact h0 hs | exact h1 hs | exact h2 hs | exact h3 hs | exact h4 hs | exact h5 hs | exact h6 hs | exact h7 hs | exact h8 hs | exact h9 hs | exact h10 hs | exact h11 hs | exact h12 hs | exact h13 hs | exact h14 hs
 have e0 : (s.toList == [58, 45]) = false := toL_ne (l := [58, 45]) h0
 have e1 : (s.toList == [45, 45, 62]) = false := toL_ne (l := [45, 45, 62]) h1
 have e2 : (s.toList == [59]) = false := toL_ne (l := [59]) h2
 have e3 : (s.toList == [45, 62]) = false := toL_ne (l := [45, 62]) h3
 have e4 : (s.toList == [44]) = false := toL_ne (l := [44]) h4
 have e5 : (s.toList == [61]) = false := toL_ne (l := [61]) h5
 have e6 : (s.toList == [92, 61]) = false := toL_ne (l := [92, 61]) h6
 have e7 : (s.toList == [61, 61]) = false := toL_ne (l := [61, 61]) h7
 have e8 : (s.toList == [105, 115]) = false := toL_ne (l := [105, 115]) h8
 have e9 : (s.toList == [60]) = false := toL_ne (l := [60]) h9
 have e10 : (s.toList == [61, 58, 61]) = false := toL_ne (l := [61, 58, 61]) h10
 have e11 : (s.toList == [43]) = false := toL_ne (l := [43]) h11
 have e12 : (s.toList == [45]) = false := toL_ne (l := [45]) h12
 have e13 : (s.toList == [42]) = false := toL_ne (l := [42]) h13
 have e14 : (s.toList == [47, 47]) = false := toL_ne (l := [47, 47]) h14
 clear hs h0 h1 h2 h3 h4 h5 h6 h7 h8 h9 h10 h11 h12 h13 h14
 go_enter Tryz.func95, Tryz.ntmps95
 go_wp2
 refine bodyPost_ret_by (results_ct2 rfl _ _ w.heap.size 72 _ (0, 0) _ rfl (heap_alloc_new _ _) Tryz.underlying72 rfl (by kernel_rfl)) rfl ?_
 exact ⟨by rw [HN.out]; rfl, (Below.refl _ _).alloc (Nat.le_refl _) _⟩
end Go.Proofs.YtbkjcccbjnehbanGreatDoor

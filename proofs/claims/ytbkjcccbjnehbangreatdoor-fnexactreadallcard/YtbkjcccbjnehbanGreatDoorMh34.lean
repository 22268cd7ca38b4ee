import Derived.Test.YtbkjcccbjnehbanGreatDoorMh33
import Derived.Deep.RegionWith
import Derived.Test.YtbkjcccbjnehbanGreatDoorMh4
import Derived.Test.YtbkjcccbjnehbanGreatDoorMh3
import Derived.Test.YtbkjcccbjnehbanGreatDoorMh26
namespace Go.Proofs.YtbkjcccbjnehbanGreatDoor
open Go.RowKit
def infOkP (most prio : Int) (o : Option OpP) : Bool := match o with
 | some op => decide (op.prio ≤ most) && decide (op.left ≥ prio)
 | none => false
theorem opV_open (o : Option OpP) : ∃ (a : ByteArray) (b c d : Int), opV o = .agg #[.string a, .int .i64 b, .int .i64 c, .int .i64 d] ∧ (∀ op, o = some op → b = op.prio ∧ c = op.left) := by
 cases o with
 | none => exact ⟨_, _, _, _, rfl, fun op h => by cases h⟩
 | some o => exact ⟨_, _, _, _, rfl, fun op h => by cases h; exact ⟨rfl, rfl⟩⟩
def infSg (s : Sg) : Bool := markB s cComma || (decide (s.kind = 1) && !s.near)
theorem infixO_eq (st : St) : infixO st.rest = if infSg (aheadP st 0) then infixP (aheadP st 0).text else none := by
 obtain ⟨rest, names⟩ := st
 cases rest with
 | nil => rfl
 | cons x r =>
   show infixO (x :: r) = if infSg x then infixP x.text else none
   unfold infixO infSg markB
   by_cases h : x.kind = 4 ∧ x.text = cComma
   · simp only [h.1, h.2]; simp
   · simp only [if_neg h]
     have hm : (decide (x.kind = 4) && decide (x.text = cComma)) = false := by
       by_cases h1 : x.kind = 4
       · rw [decide_eq_false (fun e => h ⟨h1, e⟩), Bool.and_false]
       · rw [decide_eq_false h1, Bool.false_and]
     rw [hm, Bool.false_or]
     by_cases h2 : x.kind = 1
     · cases hn : x.near <;> simp [h2]
     · simp [h2]
set_option maxHeartbeats 4000000 in
set_option maxRecDepth 20000 in
theorem i_infixR (g m : Nat) (L : List Sg) (lv nv : Value) (d : Nat) (st : St) (most prio : Int) (w : World) (hL : L.length ≤ 3000) (hT : (aheadP st 0).text.size ≤ 3000) (h : IRd g m L lv nv w d st) :
   Calls Tryz.prog 74 #[.pointer (some ⟨g, 0, none⟩), .int .i64 most, .int .i64 prio] w fun e w' => ∃ (a : ByteArray) (b c dd : Int), e = .returned (.tuple #[.agg #[.string a, .int .i64 b, .int .i64 c, .int .i64 dd], .bool (infOkP most prio (infixO st.rest))]) ∧ (infOkP most prio (infixO st.rest) = true → opV (infixO st.rest) = .agg #[.string a, .int .i64 b, .int .i64 c, .int .i64 dd]) ∧ Below w.heap.size w w' := by
 obtain ⟨W, hW⟩ : ∃ W, W = w.alloc (.cells #[.string ⟨#[]⟩, .int .i64 0, .int .i64 0, .int .i64 0] 72) := ⟨_, rfl⟩
 have bW : Below w.heap.size w W := by rw [hW]; exact (Below.refl _ _).alloc (Nat.le_refl _) _
 have HK : Hid (W.heap[w.heap.size]? = some (.cells #[.string ⟨#[]⟩, .int .i64 0, .int .i64 0, .int .i64 0] 72 (0, 0))) := by rw [hW]; exact heap_alloc_new _ _
 have HBW : Hid (Below w.heap.size w W) := bW
 have HLW : Hid (w.heap.size < W.heap.size) := by show _ < _; rw [hW]; simp
 have HA : Hid _ := i_ahead g m L lv nv d st 0 W (by omega) hL (h.keep bW)
 have HO := infixO_eq st
 have HM : Hid (∀ w, Calls Tryz.prog 88 #[sgA (aheadP st 0), .string cComma] w fun e w' => e = .returned (.bool (markB (aheadP st 0) cComma)) ∧ Below w.heap.size w w') := fun w => i_isMark _ _ w
 have HII : Hid (∀ w, Calls Tryz.prog 95 #[.string (aheadP st 0).text] w fun e w' => e = .returned (.tuple #[opV (infixP (aheadP st 0).text), .bool (infixP (aheadP st 0).text).isSome]) ∧ Below w.heap.size w w') := fun w => i_infix _ w (by omega)
 unfold infSg at HO
 generalize aheadP st 0 = s at *
 generalize infixO st.rest = O at *
 obtain ⟨k, x, n, a, near⟩ := s
 simp only at HO HII hT
 obtain ⟨bm, hbm⟩ : ∃ bm, bm = markB ⟨k, x, n, a, near⟩ cComma := ⟨_, rfl⟩
 rw [← hbm] at HM HO
 clear hbm h hL bW hT
 rw [show cComma = ⟨#[44]⟩ from rfl] at HM
 obtain ⟨ca, cb, cc, cd, hop, hof⟩ := opV_open O
 by_cases hyes : (bm || (decide (k = 1) && !near)) = true
 · rw [if_pos hyes] at HO
   rw [← HO, hop] at HII
   have hin : infOkP most prio O = (O.isSome && decide (cb ≤ most) && decide (cc ≥ prio)) := by
     cases O with
     | none => rfl
     | some op => obtain ⟨e1, e2⟩ := hof op rfl; rw [e1, e2]; rfl
   have HOP : Hid (opV O = .agg #[.string ca, .int .i64 cb, .int .i64 cc, .int .i64 cd]) := hop
   have HIN : Hid (infOkP most prio O = (O.isSome && decide (cb ≤ most) && decide (cc ≥ prio))) := hin
   clear hin hop hof HO
   have hg : bm = true ∨ (bm = false ∧ k = 1 ∧ near = false) := by
     cases bm
     · right; simp at hyes; exact ⟨rfl, hyes.1, hyes.2⟩
     · left; rfl
   clear hyes
   generalize O.isSome = ok at *
   have h3 : ok = false ∨ (ok = true ∧ decide (cb ≤ most) = false) ∨ (ok = true ∧ decide (cb ≤ most) = true) := by
     cases ok
     · left; rfl
     · right; cases decide (cb ≤ most)
       · left; exact ⟨rfl, rfl⟩
       · right; exact ⟨rfl, rfl⟩
   generalize hgg : decide (cc ≥ prio) = gg at *
   rcases hg with rfl | ⟨rfl, rfl, rfl⟩
   all_goals rcases h3 with rfl | ⟨rfl, hp⟩ | ⟨rfl, hp⟩
   all_goals (
     go_enter Tryz.func74, Tryz.ntmps74
     go_upto_region 1 with (fail)
     rw [← hW]
     clear hW
     go_upto_region 5 with (first
       | (go_at_call 86; refine (Calls.mono HA.out ?_); rintro e w1 ⟨rfl, b1⟩; have hh := below_heap b1 HK.out; have HK1 : Hid _ := hh; have B1 : Hid (Below w.heap.size w w1) := HBW.out.trans (b1.mono HBW.out.size); clear b1 hh)
       | (go_at_call 88; refine (Calls.mono (HM.out _) ?_); rintro e w2 ⟨rfl, b2⟩; have hs := below_heap b2 (heap_alloc_new _ _); obtain ⟨s0, s1, s2, s3, s4, sf⟩ := b5f hs; have hb := ((Below.refl w1.heap.size w1).alloc (Nat.le_refl _) _).trans (b2.mono (by simp)); have hk := below_heap hb HK1.out; have HK2 : Hid _ := hk; have B2 : Hid (Below w.heap.size w w2) := B1.out.trans (hb.mono B1.out.size); clear b2 hs hk hb sf)
       | (go_at_call 95; refine (Calls.mono (HII.out _) ?_); rintro e w3 ⟨rfl, b3⟩; have hk3 := below_heap b3 HK2.out; have HK3 : Hid _ := hk3; have B3 : Hid (Below w.heap.size w w3) := B2.out.trans (b3.mono B2.out.size); clear b3 hk3))
     have HLT : Hid (w.heap.size < w3.heap.size) := (Array.getElem?_eq_some_iff.1 HK3.out).1
     have BV : Below w.heap.size w (w3.alloc (.cells #[.string ca, .int .i64 cb, .int .i64 cc, .int .i64 cd] 72)) := B3.out.alloc B3.out.size _
     have kz : (w3.alloc (.cells #[.string ca, .int .i64 cb, .int .i64 cc, .int .i64 cd] 72)).heap[w3.heap.size]? = some (.cells #[.string ca, .int .i64 cb, .int .i64 cc, .int .i64 cd] 72 (0, 0)) := heap_alloc_new _ _
     have ko : (w3.alloc (.cells #[.string ca, .int .i64 cb, .int .i64 cc, .int .i64 cd] 72)).heap[w.heap.size]? = some (.cells #[.string ⟨#[]⟩, .int .i64 0, .int .i64 0, .int .i64 0] 72 (0, 0)) := (((Below.refl _ _).alloc (Nat.le_refl _) _).block _ HLT.out).trans HK3.out
     generalize w3.alloc (.cells #[.string ca, .int .i64 cb, .int .i64 cc, .int .i64 cd] 72) = V at *
     have HBV : Hid _ := BV
     have HKO : Hid _ := ko
     obtain ⟨o0, o1, o2, o3, p0, p1, p2, p3⟩ := blk4 ko
     obtain ⟨z0, z1, z2, z3, _, _, _, _⟩ := blk4 kz
     have hn1 : ¬ w.heap.size = w3.heap.size := by have := HLT.out; omega
     have hn2 : ¬ w3.heap.size = w.heap.size := by have := HLT.out; omega
     clear ko kz BV
     go_region
     have hd : ∀ u : World, u.drew.heap = u.heap := fun _ => rfl
     have hbd : ∀ u : World, Below w.heap.size u u.drew := fun u => ⟨rfl, rfl, rfl, Nat.le_refl _, fun _ _ => rfl⟩
     go_wp2
     refine bodyPost_ret_by (results_ct2 rfl _ _ w.heap.size 72 #[.string ca, .int .i64 cb, .int .i64 cc, .int .i64 cd] (0, 0) _ rfl (by rw [hd]; exact blk4_set HKO.out) Tryz.underlying72 rfl (by kernel_rfl)) rfl ?_
     refine ⟨ca, cb, cc, cd, ?_, fun _ => HOP.out, (blk4_below HBV.out (Nat.le_refl _)).trans (hbd _)⟩
     rw [HIN.out]
     first | rfl | (rw [hp]; rfl) | (rw [hp]; cases gg <;> rfl))
 · rw [if_neg hyes] at HO
   subst HO
   have hbm : bm = false := by cases bm <;> simp at hyes ⊢
   subst hbm
   have hkn : (k != 1) = true ∨ near = true := by
     cases near
     · left; simp at hyes; simpa using hyes
     · right; rfl
   have hkn2 : (k != 1) = true ∨ ((k != 1) = false ∧ near = true) := by
     cases hb : (k != 1)
     · right; rw [hb] at hkn; exact ⟨rfl, hkn.resolve_left (by simp)⟩
     · left; rfl
   clear HII hyes hof hop hkn
   rcases hkn2 with hk1 | ⟨hk1, rfl⟩
   all_goals (
     have hk2 : decide (k ≠ 1) = (k != 1) := by by_cases hz : k = 1 <;> simp [hz]
     rw [hk1] at hk2
     go_enter Tryz.func74, Tryz.ntmps74
     go_upto_region 1 with (fail)
     rw [← hW]
     clear hW
     go_upto_region 3 with (first
       | (go_at_call 86; refine (Calls.mono HA.out ?_); rintro e w1 ⟨rfl, b1⟩; have hh := below_heap b1 HK.out; have HK1 : Hid _ := hh; have B1 : Hid (Below w.heap.size w w1) := HBW.out.trans (b1.mono HBW.out.size); clear b1 hh)
       | (go_at_call 88; refine (Calls.mono (HM.out _) ?_); rintro e w2 ⟨rfl, b2⟩; have hs := below_heap b2 (heap_alloc_new _ _); obtain ⟨s0, s1, s2, s3, s4, sf⟩ := b5f hs; have hb := ((Below.refl w1.heap.size w1).alloc (Nat.le_refl _) _).trans (b2.mono (by simp)); have hk := below_heap hb HK1.out; have HK2 : Hid _ := hk; have B2 : Hid (Below w.heap.size w w2) := B1.out.trans (hb.mono B1.out.size); clear b2 hs hk hb sf))
     obtain ⟨o0, o1, o2, o3, p0, p1, p2, p3⟩ := blk4 HK2.out
     go_wp2
     refine bodyPost_ret_by (results_ct2 rfl _ _ w.heap.size 72 _ (0, 0) _ rfl (blk4_set HK2.out) Tryz.underlying72 rfl (by kernel_rfl)) rfl ?_
     exact ⟨_, _, _, _, rfl, (fun h => by cases h), blk4_below B2.out (Nat.le_refl _)⟩)
end Go.Proofs.YtbkjcccbjnehbanGreatDoor

namespace Go.Proofs.YtbkjcccbjnehbanGreatDoor
open Go.RowKit
set_option maxHeartbeats 1000000 in
theorem i_atomOf (s : ByteArray) (w : World) (hs : s.size ≤ 1048576) :
   Calls Tryz.prog 89 #[.string s] w fun e w' => e = .returned (.agg #[.int .i64 2, .string s, .int .i64 0, .slice none 0 0]) ∧ Below w.heap.size w w' := by
 go_enter Tryz.func89, Tryz.ntmps89
 go_wp2_with (go_at_call 70; refine (clone_any s _ hs).mono ?_; rintro e w1 ⟨rfl, hb⟩; have hh := below_heap hb (heap_alloc_new _ _); obtain ⟨c0, c1, c2, c3, f0, f1, f2, f3⟩ := blk4 hh; have HB : Hid (Below w.heap.size w w1) := ((Below.refl _ _).alloc (Nat.le_refl _) _).trans (hb.mono (by simp)); clear hb)
 refine bodyPost_ret_by (results_cell_row rfl _ _ w.heap.size 24 _ (0, 0) _ rfl (blk4_set hh) Tryz.underlying24 rfl (by kernel_rfl)) rfl ?_
 exact ⟨rfl, blk4_below HB.out (Nat.le_refl _)⟩
set_option maxHeartbeats 1000000 in
theorem i_structOf (s : ByteArray) (ao : Option Addr) (n cap : Nat) (w : World) (hs : s.size ≤ 1048576) :
   Calls Tryz.prog 75 #[.string s, .slice ao n cap] w fun e w' => e = .returned (.agg #[.int .i64 4, .string s, .int .i64 0, .slice ao n cap]) ∧ Below w.heap.size w w' := by
 go_enter Tryz.func75, Tryz.ntmps75
 go_wp2_with (go_at_call 70; refine (clone_any s _ hs).mono ?_; rintro e w1 ⟨rfl, hb⟩; have hh := below_heap hb (heap_alloc_new _ _); obtain ⟨c0, c1, c2, c3, f0, f1, f2, f3⟩ := blk4 hh; have HB : Hid (Below w.heap.size w w1) := ((Below.refl _ _).alloc (Nat.le_refl _) _).trans (hb.mono (by simp)); clear hb)
 refine bodyPost_ret_by (results_cell_row rfl _ _ w.heap.size 24 _ (0, 0) _ rfl (blk4_set hh) Tryz.underlying24 rfl (by kernel_rfl)) rfl ?_
 exact ⟨rfl, blk4_below HB.out (Nat.le_refl _)⟩
set_option maxHeartbeats 1000000 in
theorem i_justBehind (s n : Sg) (w : World) (hs : s.at_ ≤ 3000) (hn : n.at_ ≤ 3000) :
   Calls Tryz.prog 93 #[sgA s, sgA n] w fun e w' => e = .returned (.bool (decide (n.at_ = s.at_ + 1))) ∧ Below w.heap.size w w' := by
 obtain ⟨k, x, num, a, nr⟩ := s
 obtain ⟨k', x', num', a', nr'⟩ := n
 unfold sgA
 simp only at *
 have HH : Hid (a ≤ 3000 ∧ a' ≤ 3000) := ⟨hs, hn⟩
 clear hs hn
 by_cases h1 : a < a'
 · have hw : IntKind.i64.wrap ((a' : Int) - (a : Int)) = (a' : Int) - a := by have := HH.out; rw [IntKind.wrap_i64]; omega
   have HV : Hid ((((a' : Int) - (a : Int)) == 1) = decide (a' = a + 1)) := by
     show _ = _
     by_cases e : a' = a + 1
     · rw [decide_eq_true e]; simp; omega
     · rw [decide_eq_false e]; simp; omega
   go_enter Tryz.func93, Tryz.ntmps93
   go_wp2
   go_ret
   refine ⟨?_, ((Below.refl _ _).alloc (Nat.le_refl _) _).alloc (by simp) _⟩
   rw [← HV.out]; rfl
 · have HV : Hid (decide (a' = a + 1) = false) := decide_eq_false (by omega)
   go_enter Tryz.func93, Tryz.ntmps93
   go_wp2
   go_ret
   exact ⟨by rw [HV.out]; rfl, ((Below.refl _ _).alloc (Nat.le_refl _) _).alloc (by simp) _⟩
end Go.Proofs.YtbkjcccbjnehbanGreatDoor

namespace Go.Proofs.YtbkjcccbjnehbanGreatDoor
open Go.RowKit
def TmRI (g m : Nat) (L : List Sg) (lv nv : Value) (w : World) (v : Value) (w' : World) (y : Tm × St) (d : Nat) : Prop :=
 ∃ F nv', TOk 24 (XI g m nv') w.heap.size w' y.1 v F ∧ IRd g m L lv nv' w' d y.2 ∧ FX (XI g m nv) (XI g m nv') w w'
theorem varO_known {s : ByteArray} {names : List ByteArray} {i : Nat} (hs : s ≠ cUs) (h : (names.findIdx? fun x => decide (x = s)) = some i) : varO s names = (i, names) := by
 unfold varO; rw [if_neg hs, h]
theorem varO_new {s : ByteArray} {names : List ByteArray} (h : s = cUs ∨ (names.findIdx? fun x => decide (x = s)) = none) : varO s names = (names.length, names ++ [s]) := by
 unfold varO
 by_cases hs : s = cUs
 · rw [if_pos hs]
 · rw [if_neg hs, h.resolve_left hs]
theorem MOk.new {names : List ByteArray} {ms : List (ByteArray × Int)} {s : ByteArray} (h : MOk names ms) (hn : s = cUs ∨ (names.findIdx? fun x => decide (x = s)) = none) : MOk (names ++ [s]) (mput s (names.length : Int) ms) := by
 intro a ha
 rw [mget_put, List.findIdx?_append]
 by_cases e : s = a
 · subst e
   rw [if_pos rfl, hn.resolve_left ha]
   simp
 · rw [if_neg e, h a ha]
   cases names.findIdx? fun x => decide (x = a) with
   | some i => rfl
   | none => simp [e]
theorem IRd.mk' {g m : Nat} {L : List Sg} {lv nv : Value} {w : World} {d p : Nat} {r : List Sg} {names : List ByteArray} {ms : List (ByteArray × Int)}
   (h1 : w.heap[g]? = some (.cells #[lv, .int .i64 (p : Int), .int .i64 (d : Int), nv, .map (some m)] 63 (0, 0))) (h2 : SIn w L lv) (h3 : ∀ b, sliceBlk lv = some b → b < g ∧ b < m) (h4 : NRow w (max g m + 1) names nv) (h5 : NMapAt w m ms) (h6 : MOk names ms) (h7 : m ≠ g) (h8 : p ≤ L.length) (h9 : L.drop p = r) (h10 : names.length ≤ p) :
   IRd g m L lv nv w d ⟨r, names⟩ := ⟨⟨p, ms, h1, h2, h3, h4, h5, h6, h7, h8, h9, h10⟩⟩
set_option maxHeartbeats 8000000 in
set_option maxRecDepth 20000 in
theorem i_var_known (g m : Nat) (L : List Sg) (lv nv : Value) (d p : Nat) (r : List Sg) (names : List ByteArray) (ms : List (ByteArray × Int)) (s : ByteArray) (i : Nat) (w : World) (hL : L.length ≤ 3000)
   (hg : w.heap[g]? = some (.cells #[lv, .int .i64 (p : Int), .int .i64 (d : Int), nv, .map (some m)] 63 (0, 0))) (hI : IRd g m L lv nv w d ⟨r, names⟩) (hM : NMapAt w m ms) (hO : MOk names ms) (hm : names.length ≤ L.length)
   (hs : s ≠ cUs) (hf : (names.findIdx? fun x => decide (x = s)) = some i) :
   Calls Tryz.prog 92 #[.pointer (some ⟨g, 0, none⟩), .string s] w fun e w' => ∃ v, e = .returned v ∧ TmRI g m L lv nv w v w' (varTm (varO s names).1, ⟨r, (varO s names).2⟩) d := by
 have hgw : g < w.heap.size := (Array.getElem?_eq_some_iff.1 hg).1
 have hil : i < names.length := (find_some hf).1
 have hget : mget s ms = some (i : Int) := by rw [hO s hs, hf]; rfl
 obtain ⟨W, hW⟩ : ∃ W, W = w.alloc (.cells #[.int .i64 0, .string ⟨#[]⟩, .int .i64 0, .slice none 0 0] 24) := ⟨_, rfl⟩
 have bW : Below w.heap.size w W := by rw [hW]; exact (Below.refl _ _).alloc (Nat.le_refl _) _
 have kW : W.heap[w.heap.size]? = some (.cells #[.int .i64 0, .string ⟨#[]⟩, .int .i64 0, .slice none 0 0] 24 (0, 0)) := by rw [hW]; exact heap_alloc_new _ _
 have gW := (bW.block g hgw).trans hg
 have MW : NMapAt W m ms := hM.turn (bW.block m hM.lt)
 have HLK := nmap_look W m ms MW s
 rw [hget] at HLK
 have HLK : (Instr.lookup 61 (.map (some m)) (.string s) true).run Tryz.prog W = .ok (.tuple #[.int .i64 (i : Int), .bool true]) W := HLK
 obtain ⟨c0, c1, c2, c3, c4, cf⟩ := b5f gW
 have es : (s.toList == [95]) = false := toL_ne (l := [95]) hs
 have HV : Hid (varO s names = (i, names)) := varO_known hs hf
 have HB : Hid (Below w.heap.size w W) := bW
 have HK : Hid _ := kW
 have HI : Hid (IRd g m L lv nv w d ⟨r, names⟩) := hI
 have HIL : Hid (i ≤ 3000) := by show _ ≤ _; omega
 obtain ⟨k0, k1, k2, k3, q0, q1, q2, q3⟩ := blk4 kW
 clear hg hI hM hO hs hf hm hil hget hL bW kW gW MW hgw cf
 go_enter Tryz.func92, Tryz.ntmps92
 go_upto_region 1 with fail
 rw [← hW]
 clear hW
 go_wp2
 refine bodyPost_ret_by (results_cell_row rfl _ _ w.heap.size 24 _ (0, 0) _ rfl (blk4_set HK.out) Tryz.underlying24 rfl (by kernel_rfl)) rfl ?_
 have hb := blk4_below (g := w.heap.size) (d0 := .int .i64 1) (d1 := .string ⟨#[]⟩) (d2 := .int .i64 (i : Int)) (d3 := .slice none 0 0) HB.out (Nat.le_refl _)
 refine ⟨_, rfl, [], nv, ?_, ?_, FX.of_below hb⟩
 · rw [HV.out]; exact TOk.leaf (by decide) (by have := HIL.out; constructor <;> omega) (by decide)
 · rw [HV.out]; exact HI.out.keep hb
end Go.Proofs.YtbkjcccbjnehbanGreatDoor

namespace Go.Proofs.YtbkjcccbjnehbanGreatDoor
open Go.RowKit
theorem FX.grownI {g m : Nat} {nv v' : Value} {w w' : World} (hg : w.grownBy w' nv.ownBlock) (hat : v'.ownBlock = nv.ownBlock ∨ v'.ownBlock = some w.heap.size) : FX (XI g m nv) (XI g m v') w w' :=
 ⟨hg.os, hg.tape, hg.output, hg.size, fun k hk hx => hg.block k hk (fun e => hx (Or.inr (Or.inr e.symm))), fun k hk => by
   rcases hk with rfl | rfl | hk
   · exact Or.inl (Or.inl rfl)
   · exact Or.inl (Or.inr (Or.inl rfl))
   · rcases hat with h | h
     · exact Or.inl (Or.inr (Or.inr (h ▸ hk)))
     · rw [h] at hk; exact Or.inr (by simp at hk; omega)⟩
theorem FX.put {X : Nat → Prop} {w : World} {m : Nat} (o : Obj) (hx : X m) : FX X X w (putB w m o) :=
 ⟨rfl, rfl, rfl, by simp [putB], fun k _ h => putB_other (fun e => h (e ▸ hx)), fun k h => Or.inl h⟩
set_option maxHeartbeats 8000000 in
set_option maxRecDepth 20000 in
theorem i_var_new (g m : Nat) (L : List Sg) (lv nv : Value) (d p : Nat) (r : List Sg) (names : List ByteArray) (ms : List (ByteArray × Int)) (s : ByteArray) (w : World) (hL : L.length ≤ 3000) (hss : s.size ≤ 3000)
   (hg : w.heap[g]? = some (.cells #[lv, .int .i64 (p : Int), .int .i64 (d : Int), nv, .map (some m)] 63 (0, 0))) (hl : SIn w L lv) (hb3 : ∀ b, sliceBlk lv = some b → b < g ∧ b < m) (hn : NRow w (max g m + 1) names nv) (hM : NMapAt w m ms) (hO : MOk names ms) (hmg : m ≠ g) (hp : p ≤ L.length) (hd : L.drop p = r) (hm : names.length + 1 ≤ p)
   (hnew : s = cUs ∨ (names.findIdx? fun x => decide (x = s)) = none) :
   Calls Tryz.prog 92 #[.pointer (some ⟨g, 0, none⟩), .string s] w fun e w' => ∃ v, e = .returned v ∧ TmRI g m L lv nv w v w' (varTm (varO s names).1, ⟨r, (varO s names).2⟩) d := by
 obtain ⟨i0, hi, hz0, hz1, hz2⟩ := info_partsS infoN
 have hgw : g < w.heap.size := (Array.getElem?_eq_some_iff.1 hg).1
 have hmw : m < w.heap.size := hM.lt
 have nlt := hn.lt
 obtain ⟨ao, cap, rfl, hcp, _⟩ := hn.cells
 obtain ⟨W, hW⟩ : ∃ W, W = w.alloc (.cells #[.int .i64 0, .string ⟨#[]⟩, .int .i64 0, .slice none 0 0] 24) := ⟨_, rfl⟩
 have bW : Below w.heap.size w W := by rw [hW]; exact (Below.refl _ _).alloc (Nat.le_refl _) _
 have sW : W.heap.size = w.heap.size + 1 := by rw [hW]; simp
 have kW : W.heap[w.heap.size]? = some (.cells #[.int .i64 0, .string ⟨#[]⟩, .int .i64 0, .slice none 0 0] 24 (0, 0)) := by rw [hW]; exact heap_alloc_new _ _
 have gW := (bW.block g hgw).trans hg
 have MW : NMapAt W m ms := hM.turn (bW.block m hmw)
 have HLK := nmap_look W m ms MW s
 have hcase : (mget s ms).isSome = false ∨ ((mget s ms).isSome = true ∧ (s.toList == [95]) = true) := by
   by_cases hs : s = cUs
   · subst hs
     cases (mget cUs ms).isSome
     · exact Or.inl rfl
     · exact Or.inr ⟨rfl, by rw [cUs_toL]; rfl⟩
   · left; rw [hO s hs, hnew.resolve_left hs]; rfl
 generalize (mget s ms).getD 0 = n0 at HLK
 generalize (mget s ms).isSome = ok at HLK hcase
 obtain ⟨NN, hNN⟩ : ∃ NN, NN = names.length := ⟨_, rfl⟩
 obtain ⟨o, HPU, MV⟩ := nmap_put W m ms MW s (NN : Int)
 obtain ⟨V, hV⟩ : ∃ V, V = putB W m o := ⟨_, rfl⟩
 rw [← hV] at HPU MV
 have oV : ∀ k, k ≠ m → V.heap[k]? = W.heap[k]? := fun k hk => by rw [hV]; exact putB_other hk
 have sV : V.heap.size = w.heap.size + 1 := by rw [hV, ← sW]; simp [putB]
 have fV : FX (XI g m (.slice ao names.length cap)) (XI g m (.slice ao names.length cap)) w V := by rw [hV]; exact (FX.of_below bW).trans (FX.put o (Or.inr (Or.inl rfl)))
 have HV : Hid (varO s names = (names.length, names ++ [s])) := varO_new hnew
 have HMO : Hid (MOk (names ++ [s]) (mput s (NN : Int) ms)) := by rw [hNN]; exact hO.new hnew
 have HZ : Hid (g < w.heap.size ∧ m < w.heap.size ∧ m ≠ g ∧ V.heap.size = w.heap.size + 1 ∧ NN = names.length ∧ NN ≤ 3000 ∧ ∀ b, (Value.slice ao names.length cap).ownBlock = some b → max g m + 1 ≤ b ∧ b < w.heap.size) := ⟨hgw, hmw, hmg, sV, hNN, by omega, nlt⟩
 have HP : Hid (p ≤ L.length ∧ L.drop p = r ∧ names.length + 1 ≤ p ∧ ∀ b, sliceBlk lv = some b → b < g ∧ b < m) := ⟨hp, hd, hm, hb3⟩
 have vb : ∀ k, k < w.heap.size → k ≠ m → V.heap[k]? = w.heap[k]? := fun k hk hkm => (oV k hkm).trans (bW.block k hk)
 have HFV : Hid (FX (XI g m (.slice ao names.length cap)) (XI g m (.slice ao names.length cap)) w V) := fV
 have HMV : Hid (NMapAt V m (mput s (NN : Int) ms)) := MV
 have HVF : Hid (V.heap[g]? = some (.cells #[lv, .int .i64 (p : Int), .int .i64 (d : Int), .slice ao names.length cap, .map (some m)] 63 (0, 0)) ∧ V.heap[w.heap.size]? = some (.cells #[.int .i64 0, .string ⟨#[]⟩, .int .i64 0, .slice none 0 0] 24 (0, 0)) ∧ NRow V (max g m + 1) names (.slice ao names.length cap) ∧ SIn V L lv) :=
   ⟨(vb g hgw (Ne.symm hmg)).trans hg, (oV _ (by omega)).trans kW, hn.turn fun b e => vb b (nlt b e).2 (by have := (nlt b e).1; omega), hl.turn fun b e => vb b (by have := (hb3 b e).1; omega) (by have := (hb3 b e).2; omega)⟩
 obtain ⟨c0, c1, c2, c3, c4, cf⟩ := b5f gW
 rw [← hNN] at c3
 have HSS : Hid (s.size ≤ 3000) := hss
 have hgs : g < W.heap.size := by omega
 clear hg hl hb3 hn hM hO hmg hp hd hm hnew hss hL hcp nlt bW sW kW gW MW hV oV sV fV vb cf MV hmw hNN
 rcases hcase with rfl | ⟨rfl, es⟩
 all_goals (
   go_enter Tryz.func92, Tryz.ntmps92
   go_upto_region 1 with fail
   rw [← hW]
   clear hW
   go_upto_region 5 with fail
   have HK : Hid (∀ w', Below V.heap.size V w' → w'.heap[g]? = some (.cells #[lv, .int .i64 (p : Int), .int .i64 (d : Int), .slice ao names.length cap, .map (some m)] 63 (0, 0)) ∧ w'.heap[w.heap.size]? = some (.cells #[.int .i64 0, .string ⟨#[]⟩, .int .i64 0, .slice none 0 0] 24 (0, 0)) ∧ NRow w' (max g m + 1) names (.slice ao names.length cap) ∧ SIn w' L lv ∧ NMapAt w' m (mput s (NN : Int) ms)) := fun w' hb => by
     have hz := HZ.out
     have hv := HVF.out
     exact ⟨(hb.block g (by omega)).trans hv.1, (hb.block _ (by omega)).trans hv.2.1, hv.2.2.1.turn fun b e => hb.block b (by have := hz.2.2.2.2.2.2 b e; omega), hv.2.2.2.turn fun b e => hb.block b (by have := (HP.out.2.2.2 b e).1; omega), HMV.out.turn (hb.block m (by omega))⟩
   clear c0 c1 c2 c3 c4 HLK HPU
   refine FP.wp_region_factsP (v1 := .pointer (some ⟨g, 0, none⟩)) 8 (fun q v S w' => match q with
     | 0 => v = .pointer (some ⟨g, 0, none⟩)
     | 1 => v = .pointer (some ⟨g, 0, none⟩)
     | 2 => v = .pointer (some ⟨g, 0, none⟩)
     | 3 => v = .pointer (some ⟨g, 3, none⟩)
     | 4 => v = .slice ao names.length cap
     | 5 => v = .string s
     | 6 => v = .string s
     | _ => ∃ g2, v = .slice (some ⟨g2, 0, none⟩) 1 1 ∧ w'.heap[g2]? = some (.cells #[.string s] 9 (0, 0)) ∧ V.heap.size ≤ g2) (by kernel_rfl) (by kernel_rfl) 46 rfl (by kernel_rfl) (by omega) rfl (by kernel_rfl) (by kernel_rfl) (by kernel_rfl) (fun _ d _ _ _ h => by cases d <;> exact h) ?_ (fun _ _ => rfl) ?_ ?_ ?_
   · refine ⟨rfl, fun w => ?_⟩
     go_simp
   · intro q v S w w' hq h hb
     match q, hq, h with
     | 0, _, h => exact h
     | 1, _, h => exact h
     | 2, _, h => exact h
     | 3, _, h => exact h
     | 4, _, h => exact h
     | 5, _, h => exact h
     | 6, _, h => exact h
     | 7, _, ⟨g2, h1, h2, h3⟩ => exact ⟨g2, h1, (hb.block g2 (Array.getElem?_eq_some_iff.1 h2).1).trans h2, h3⟩
   · intro q o hq ho a w' hb hfr hdep
     obtain ⟨z0, _⟩ := HK.out w' hb
     obtain ⟨x0, x1, x2, x3, x4, _⟩ := b5f z0
     have u0 : a.tmps.getD 0 undef = .pointer (some ⟨g, 0, none⟩) := hfr 0 (by decide)
     have u1 : a.tmps.getD 1 undef = .string s := hfr 1 (by decide)
     match q, hq with
     | 0, _ =>
       obtain rfl : _ = o := by simpa using ho
       refine FP.fact_value (w' := w') (v := .pointer (some ⟨g, 0, none⟩)) ?_ (Below.refl _ _) ⟨[], rfl, by simp⟩
       simp only [execOp, Act.eval, u0]
       go_simp
     | 1, _ =>
       obtain rfl : _ = o := by simpa using ho
       refine FP.fact_value (w' := w') (v := .pointer (some ⟨g, 0, none⟩)) ?_ (Below.refl _ _) ⟨[], rfl, by simp⟩
       simp only [execOp, Act.eval, u0]
       go_simp
     | 2, _ =>
       obtain rfl : _ = o := by simpa using ho
       obtain ⟨_, h0⟩ : ∃ _ : List Nat, a.tmps.getD 34 undef = .pointer (some ⟨g, 0, none⟩) := hdep 1 (by kernel_rfl)
       refine FP.fact_value (w' := w') (v := .pointer (some ⟨g, 0, none⟩)) ?_ (Below.refl _ _) ⟨[], rfl, by simp⟩
       simp only [execOp, Act.eval, h0]
       go_simp
     | 3, _ =>
       obtain rfl : _ = o := by simpa using ho
       obtain ⟨_, h0⟩ : ∃ _ : List Nat, a.tmps.getD 35 undef = .pointer (some ⟨g, 0, none⟩) := hdep 2 (by kernel_rfl)
       refine FP.fact_value (w' := w') (v := .pointer (some ⟨g, 3, none⟩)) ?_ (Below.refl _ _) ⟨[], rfl, by simp⟩
       simp only [execOp, Act.eval, h0]
       go_simp
     | 4, _ =>
       obtain rfl : _ = o := by simpa using ho
       obtain ⟨_, h0⟩ : ∃ _ : List Nat, a.tmps.getD 36 undef = .pointer (some ⟨g, 3, none⟩) := hdep 3 (by kernel_rfl)
       refine FP.fact_value (w' := w') (v := .slice ao names.length cap) ?_ (Below.refl _ _) ⟨[], rfl, by simp⟩
       simp only [execOp, Act.eval, h0]
       go_simp
     | 5, _ =>
       obtain rfl : _ = o := by simpa using ho
       refine FP.fact_value (w' := w') (v := .string s) ?_ (Below.refl _ _) ⟨[], rfl, by simp⟩
       simp only [execOp, Act.eval, u1]
       go_simp
     | 6, _ =>
       obtain rfl : _ = o := by simpa using ho
       obtain ⟨_, h0⟩ : ∃ _ : List Nat, a.tmps.getD 38 undef = .string s := hdep 5 (by kernel_rfl)
       refine FP.fact_call rfl Tryz.func70 (by kernel_rfl) (by kernel_rfl) (args := #[.string s]) ?_ ?_
       · simp [Act.eval]; simpa using h0
       · refine (clone_any s _ (by have := HSS.out; omega)).mono ?_
         rintro e w1 ⟨rfl, h1⟩
         exact ⟨_, rfl, h1, [], rfl, by simp⟩
     | 7, _ =>
       obtain rfl : _ = o := by simpa using ho
       obtain ⟨_, hv⟩ : ∃ _ : List Nat, a.tmps.getD 39 undef = .string s := hdep 6 (by kernel_rfl)
       have e9 : (#[((0 : Nat), Operand.tmp 39)].map fun x => (x.1, a.eval x.2)) = #[(0, .string s)] := by simp [Act.eval]; simpa using hv
       refine FP.fact_value (w' := w'.alloc (.cells #[.string s] 9)) (v := .slice (some ⟨w'.heap.size, 0, none⟩) 1 1) ?_ ((Below.refl _ _).alloc (Nat.le_refl _) _) ⟨[], ⟨w'.heap.size, rfl, heap_alloc_new _ _, hb.size⟩, by simp⟩
       clear hdep hfr ho
       simp only [execOp, e9]
       go_simp
   intro vals S w1 hb hf _
   have v0 : vals 0 = .pointer (some ⟨g, 0, none⟩) := (hf 0 (by omega)).1
   have v4 : vals 4 = .slice ao names.length cap := (hf 4 (by omega)).1
   obtain ⟨g2, v7, hg2, hgl⟩ : ∃ g2, vals 7 = .slice (some ⟨g2, 0, none⟩) 1 1 ∧ w1.heap[g2]? = some (.cells #[.string s] 9 (0, 0)) ∧ V.heap.size ≤ g2 := (hf 7 (by omega)).1
   simp only [FP.putN, List.getElem?_toArray, List.getElem?_cons_zero, List.getElem?_cons_succ, Option.bind_some, List.drop_succ_cons, List.drop_zero, v0, v4, v7]
   generalize vals 1 = m1
   generalize vals 2 = m2
   generalize vals 3 = m3
   generalize vals 5 = m5
   generalize vals 6 = m6
   simp only [Act.put, List.setIfInBounds_toArray, List.set_cons_succ, List.set_cons_zero]
   obtain ⟨Z0, Z1, Z2, Z3, Z4⟩ := HK.out w1 hb
   have HZ1 : Hid (w1.heap[g]? = some (.cells #[lv, .int .i64 (p : Int), .int .i64 (d : Int), .slice ao names.length cap, .map (some m)] 63 (0, 0)) ∧ w1.heap[w.heap.size]? = some (.cells #[.int .i64 0, .string ⟨#[]⟩, .int .i64 0, .slice none 0 0] 24 (0, 0)) ∧ NRow w1 (max g m + 1) names (.slice ao names.length cap) ∧ SIn w1 L lv ∧ NMapAt w1 m (mput s (NN : Int) ms)) := ⟨Z0, Z1, Z2, Z3, Z4⟩
   have HX : Hid (w1.cell? ⟨g2, 0, none⟩ = some (.string s)) := blk_cell (i := 0) hg2 (by simp)
   have HB1 : Hid (FX (XI g m (.slice ao names.length cap)) (XI g m (.slice ao names.length cap)) w w1) := HFV.out.trans (FX.of_below hb)
   have HS1 : Hid (V.heap.size ≤ w1.heap.size) := hb.size
   have hg2x : max g m + 1 ≤ g2 := by have := HZ.out; omega
   clear hf v0 v4 v7 hg2 Z0 Z1 Z2 Z3 Z4 hb HK HFV HMV HVF hgl
   go_wp2_with (at_builtin; go_loud (refine wpList_append_own_at _ rfl _ _ 25 rfl (max g m + 1) 9 i0 (.string ⟨#[]⟩) 1 16 Tryz.underlying25 hi hz0 hz1 hz2 rfl (by decide) _ names.length _ rfl HZ1.out.2.2.1 ⟨g2, 0, none⟩ 1 1 [.string s] rfl rfl ?c1 ?c2 ?c3 ?c4 ?c5 ?_))
   case c1 =>
     intro q z hq
     match q, hq with
     | 0, hq => simp at hq; subst hq; simpa [Addr.add] using HX.out
   case c2 => intro z hz; simp at hz; subst hz; rfl
   case c3 => have := HZ.out; unfold maxLen; omega
   case c4 => have := HZ.out; omega
   case c5 => have := HZ.out; have := HS1.out; omega
   intro v' w2 hown' hgrow _ hat
   have hz := HZ.out
   have hs1 := HS1.out
   have hblk : ∀ k, k < w1.heap.size → (Value.slice ao names.length cap).ownBlock ≠ some k → w2.heap[k]? = w1.heap[k]? := fun k hk hne => hgrow.block k hk (fun e => hne e.symm)
   have hon : ∀ k, k = g ∨ k = m ∨ w.heap.size ≤ k ∨ k < g → (Value.slice ao names.length cap).ownBlock ≠ some k := fun k hk e => by have := hz.2.2.2.2.2.2 k e; omega
   have HA : Hid (FX (XI g m (.slice ao names.length cap)) (XI g m v') w w2) := HB1.out.trans (FX.grownI hgrow hat)
   have HG2 : Hid (w2.heap[g]? = some (.cells #[lv, .int .i64 (p : Int), .int .i64 (d : Int), .slice ao names.length cap, .map (some m)] 63 (0, 0))) := (hblk g (by omega) (hon g (by omega))).trans HZ1.out.1
   have HK2 : Hid (w2.heap[w.heap.size]? = some (.cells #[.int .i64 0, .string ⟨#[]⟩, .int .i64 0, .slice none 0 0] 24 (0, 0))) := (hblk _ (by omega) (hon _ (by omega))).trans HZ1.out.2.1
   have HL2 : Hid (SIn w2 L lv) := HZ1.out.2.2.2.1.turn fun b e => hblk b (by have := HP.out.2.2.2 b e; omega) (hon b (by have := HP.out.2.2.2 b e; omega))
   have HM2 : Hid (NMapAt w2 m (mput s (NN : Int) ms)) := HZ1.out.2.2.2.2.turn (hblk m (by omega) (hon m (by omega)))
   have HN2 : Hid (NRow w2 (max g m + 1) (names ++ [s]) v') := by
     show w2.ownsRow _ _ _ _ _ _
     rw [List.map_append, List.length_append]
     exact hown'
   obtain ⟨a2, cp2, hv2, _, _⟩ := HN2.out.cells
   rw [List.length_append, List.length_singleton] at hv2
   have HNV : Hid (∀ b, v'.ownBlock = some b → b ≠ g ∧ b ≠ m ∧ b ≠ w.heap.size) := fun b e => by
     have h1 := HN2.out.lt b e
     refine ⟨by omega, by omega, ?_⟩
     rcases hat with h | h
     · rw [h] at e; have := hz.2.2.2.2.2.2 b e; omega
     · rw [h] at e; have : w1.heap.size = b := by simpa using e
       omega
   have hs2 : w.heap.size < w2.heap.size := by have := hgrow.size; omega
   obtain ⟨c0, c1, c2, c3, c4, cf2⟩ := b5f HG2.out
   have f3 := cf2 3
   clear hown' hgrow hat hblk hon cf2 c0 c1 c2 c4 HX HB1 HZ1
   subst hv2
   go_upto_region 6 with fail
   obtain ⟨V3, hV3⟩ : ∃ V3, V3 = w2.setCell ⟨g, 3, none⟩ (.slice a2 (names.length + 1) cp2) := ⟨_, rfl⟩
   rw [← hV3]
   have g3 : V3.heap[g]? = some (.cells #[lv, .int .i64 (p : Int), .int .i64 (d : Int), .slice a2 (names.length + 1) cp2, .map (some m)] 63 (0, 0)) := by
     rw [hV3]; have := blk_set (i := 3) HG2.out (.slice a2 (names.length + 1) cp2); simpa using this
   have o3 : ∀ k, k ≠ g → V3.heap[k]? = w2.heap[k]? := fun k hk => by rw [hV3]; exact blk_other _ hk
   have HF3 : Hid (FX (XI g m (.slice ao names.length cap)) (XI g m (.slice a2 (names.length + 1) cp2)) w V3) := by rw [hV3]; exact HA.out.set (Or.inl (Or.inl rfl)) _
   have k3 : V3.heap[w.heap.size]? = some (.cells #[.int .i64 0, .string ⟨#[]⟩, .int .i64 0, .slice none 0 0] 24 (0, 0)) := (o3 _ (by omega)).trans HK2.out
   have H3 : Hid (V3.heap[g]? = some (.cells #[lv, .int .i64 (p : Int), .int .i64 (d : Int), .slice a2 (names.length + 1) cp2, .map (some m)] 63 (0, 0)) ∧ V3.heap[w.heap.size]? = some (.cells #[.int .i64 0, .string ⟨#[]⟩, .int .i64 0, .slice none 0 0] 24 (0, 0)) ∧ NRow V3 (max g m + 1) (names ++ [s]) (.slice a2 (names.length + 1) cp2) ∧ SIn V3 L lv ∧ NMapAt V3 m (mput s (NN : Int) ms)) :=
     ⟨g3, k3, HN2.out.turn fun b e => o3 b (HNV.out b e).1, HL2.out.turn fun b e => o3 b (by have := HP.out.2.2.2 b e; omega), HM2.out.turn (o3 m hz.2.2.1)⟩
   obtain ⟨c0, c1, c2, c4, q0, q1, q2, q3⟩ := blk4 k3
   clear g3 o3 k3 hV3 f3 c3 HA HG2 HK2 HL2 HM2 HN2 hs2 hz hs1
   go_wp2
   refine bodyPost_ret_by (results_cell_row rfl _ _ w.heap.size 24 _ (0, 0) _ rfl (blk4_set H3.out.2.1) Tryz.underlying24 rfl (by kernel_rfl)) rfl ?_
   obtain ⟨h1, h2, h3, h4, h5⟩ := H3.out
   obtain ⟨z1, z2, z3, z4, z5, z6, z7⟩ := HZ.out
   obtain ⟨y1, y2, y3, y4⟩ := HP.out
   have oE : ∀ k, k ≠ w.heap.size → ((((V3.setCell ⟨w.heap.size, 0, none⟩ (.int .i64 1)).setCell ⟨w.heap.size, 1, none⟩ (.string ⟨#[]⟩)).setCell ⟨w.heap.size, 2, none⟩ (.int .i64 (NN : Int))).setCell ⟨w.heap.size, 3, none⟩ (.slice none 0 0)).heap[k]? = V3.heap[k]? := fun k hk => blk4_other hk
   refine ⟨_, rfl, [], .slice a2 (names.length + 1) cp2, ?_, ?_, ?_⟩
   · rw [HV.out, ← z5]; exact TOk.leaf (by decide) (by constructor <;> omega) (by decide)
   · rw [HV.out]
     exact IRd.mk' ((oE g (by omega)).trans h1) (h4.turn fun b e => oE b (by have := y4 b e; omega)) y4 (h3.turn fun b e => oE b (HNV.out b e).2.2) (h5.turn (oE m (by omega))) HMO.out z3 y1 y2 (by rw [List.length_append, List.length_singleton]; exact y3)
   · exact (((HF3.out.set (Or.inr (Nat.le_refl _)) _).set (Or.inr (Nat.le_refl _)) _).set (Or.inr (Nat.le_refl _)) _).set (Or.inr (Nat.le_refl _)) _)
end Go.Proofs.YtbkjcccbjnehbanGreatDoor

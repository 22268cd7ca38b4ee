import Derived.Test.YtbkjcccbjnehbanGreatDoorTmOwn
import Derived.Test.YtbkjcccbjnehbanGreatDoorRsA
import Derived.Maps.AppendAt
import Derived.WalkKit
import Derived.BigQuiet
import Derived.StillTail
import Derived.Deep.QuietTactic
import Derived.Test.YtbkjcccbjnehbanGreatDoorReadS
namespace Go.Proofs.YtbkjcccbjnehbanGreatDoor
open Go.RowKit
theorem blk4 {w : World} {g : Nat} {c0 c1 c2 c3 : Value} {T : TypeId} (h : w.heap[g]? = some (.cells #[c0, c1, c2, c3] T (0, 0))) :
   w.cell? ⟨g, 0, none⟩ = some c0 ∧ w.cell? ⟨g, 1, none⟩ = some c1 ∧ w.cell? ⟨g, 2, none⟩ = some c2 ∧ w.cell? ⟨g, 3, none⟩ = some c3 ∧ w.frozen? ⟨g, 0, none⟩ = false ∧ w.frozen? ⟨g, 1, none⟩ = false ∧ w.frozen? ⟨g, 2, none⟩ = false ∧ w.frozen? ⟨g, 3, none⟩ = false :=
 ⟨blk_cell (i := 0) h (by simp), blk_cell (i := 1) h (by simp), blk_cell (i := 2) h (by simp), blk_cell (i := 3) h (by simp), blk_frozen h 0, blk_frozen h 1, blk_frozen h 2, blk_frozen h 3⟩
theorem blk4_set {w : World} {g : Nat} {c0 c1 c2 c3 d0 d1 d2 d3 : Value} {T : TypeId} (h : w.heap[g]? = some (.cells #[c0, c1, c2, c3] T (0, 0))) :
   ((((w.setCell ⟨g, 0, none⟩ d0).setCell ⟨g, 1, none⟩ d1).setCell ⟨g, 2, none⟩ d2).setCell ⟨g, 3, none⟩ d3).heap[g]? = some (.cells #[d0, d1, d2, d3] T (0, 0)) := by
 have := blk_set (i := 3) (blk_set (i := 2) (blk_set (i := 1) (blk_set (i := 0) h d0) d1) d2) d3
 simpa using this
theorem blk4_other {w : World} {g f : Nat} {d0 d1 d2 d3 : Value} (h : f ≠ g) :
   ((((w.setCell ⟨g, 0, none⟩ d0).setCell ⟨g, 1, none⟩ d1).setCell ⟨g, 2, none⟩ d2).setCell ⟨g, 3, none⟩ d3).heap[f]? = w.heap[f]? := by
 rw [blk_other _ h, blk_other _ h, blk_other _ h, blk_other _ h]
theorem blk4_below {B : Nat} {w w' : World} {g : Nat} {d0 d1 d2 d3 : Value} (hb : Below B w w') (hg : B ≤ g) :
   Below B w ((((w'.setCell ⟨g, 0, none⟩ d0).setCell ⟨g, 1, none⟩ d1).setCell ⟨g, 2, none⟩ d2).setCell ⟨g, 3, none⟩ d3) :=
 below_set (below_set (below_set (below_set hb hg _) hg _) hg _) hg _
end Go.Proofs.YtbkjcccbjnehbanGreatDoor

namespace Go.Proofs.YtbkjcccbjnehbanGreatDoor
open Go.RowKit
theorem wr1 {p : Nat} (h : p ≤ 100000) : wrap64 ((p : Int) + 1) = ((p + 1 : Nat) : Int) := by unfold wrap64; omega
theorem set_at5 {w : World} {g i : Nat} {cur : Array Value} {T : TypeId} {fr : Nat × Nat} (h : w.heap[g]? = some (.cells cur T fr)) (v : Value) : (w.setCell ⟨g, i, none⟩ v).heap[g]? = some (.cells (cur.setIfInBounds i v) T fr) := by
 simp [World.setCell, Array.getElem?_modify, h]
theorem set_oth5 {w : World} {g i f : Nat} (v : Value) (hf : f ≠ g) : (w.setCell ⟨g, i, none⟩ v).heap[f]? = w.heap[f]? := by
 simp [World.setCell, Array.getElem?_modify, Ne.symm hf]
theorem SRd.mk' {g : Nat} {L : List Sg} {lv nv : Value} {w w' : World} {o : Option (Nat × St)} {a' dv' : Int} {bad' : Bool} {nms : List ByteArray}
   (hg' : w'.heap[g]? = some (.cells #[lv, .int .i64 a', .bool bad', .int .i64 dv', nv] 52 (0, 0))) (hl : LIn w g L lv) (hn : NRow w (g + 1) nms nv) (hb : ∀ k, k ≠ g → w'.heap[k]? = w.heap[k]?)
   (ho : match (generalizing := false) o with | none => bad' = true | some (d, st) => bad' = false ∧ dv' = (d : Int) ∧ nms = st.names ∧ ∃ p : Nat, a' = (p : Int) ∧ p ≤ L.length ∧ L.drop p = st.rest ∧ nms.length ≤ p) : SRd g L lv nv w' o :=
 ⟨a', bad', dv', nms, hg', hl.turn fun k hk => hb k (by omega), hn.turn fun b e => hb b (by have := (hn.lt b e).1; omega), ho⟩
theorem FX.set_g {g : Nat} {nv : Value} {w : World} {i : Nat} (v : Value) : FX (XS g nv) (XS g nv) w (w.setCell ⟨g, i, none⟩ v) := (FX.refl _ _).set (Or.inl (Or.inl rfl)) v
theorem SRd.lt {g : Nat} {L : List Sg} {lv nv : Value} {w : World} {o : Option (Nat × St)} (h : SRd g L lv nv w o) : g < w.heap.size := by
 obtain ⟨a, bad, dv, nms, h1, _⟩ := h.ex
 exact (Array.getElem?_eq_some_iff.1 h1).1
theorem SRd.go {g : Nat} {L : List Sg} {lv nv : Value} {w : World} {d : Nat} {names : List ByteArray} {p : Nat} (n : Nat) {z : Int} {r : List Sg}
   (hg : w.heap[g]? = some (.cells #[lv, .int .i64 (p : Int), .bool false, .int .i64 (d : Int), nv] 52 (0, 0))) (hl : LIn w g L lv) (hn : NRow w (g + 1) names nv) (hp : p + n ≤ L.length) (hr : L.drop (p + n) = r) (hm : names.length ≤ p) (hz : z = ((p + n : Nat) : Int)) :
   SRd g L lv nv (w.setCell ⟨g, 1, none⟩ (.int .i64 z)) (some (d, ⟨r, names⟩)) := by
 subst hz
 refine SRd.mk' (w := w) (bad' := false) (a' := ((p + n : Nat) : Int)) (dv' := (d : Int)) (nms := names) ?_ hl hn (fun k hk => set_oth5 _ hk) ⟨rfl, rfl, rfl, p + n, rfl, hp, hr, by omega⟩
 have := set_at5 (i := 1) hg (.int .i64 ((p + n : Nat) : Int))
 simpa using this
theorem SRd.fall {g : Nat} {L : List Sg} {lv nv : Value} {w : World} {o : Option (Nat × St)} (h : SRd g L lv nv w o) : SRd g L lv nv (w.setCell ⟨g, 2, none⟩ (.bool true)) none := by
 obtain ⟨a, bad, dv, nms, h1, h2, h3, h4⟩ := h.ex
 refine SRd.mk' (w := w) (bad' := true) (a' := a) (dv' := dv) (nms := nms) ?_ h2 h3 (fun k hk => set_oth5 _ hk) rfl
 have := set_at5 (i := 2) h1 (.bool true)
 simpa using this
theorem toL_inj {a b : ByteArray} (h : a.toList = b.toList) : a = b := by
 rw [ByteArray.toList_eq, ByteArray.toList_eq] at h
 obtain ⟨⟨a⟩⟩ := a
 obtain ⟨⟨b⟩⟩ := b
 simp at h
 subst h; rfl
theorem isO_mark {d : Nat} {st : St} {l : ByteArray} (hl : l.toList ≠ []) : isO (some (d, st)) 4 l = (mk? l st.rest).isSome := by
 obtain ⟨rest, names⟩ := st
 cases rest with
 | nil => rfl
 | cons x r =>
   simp only [isO, mk?]
   have e : (x.text.toList = l.toList) ↔ x.text = l := ⟨toL_inj, fun h => by rw [h]⟩
   by_cases h1 : x.kind = 4 <;> by_cases h2 : x.text = l <;> simp [h1, h2, e, hl]
def markO (o : Option (Nat × St)) (l : ByteArray) : Option (Nat × St) :=
 match o with
 | none => none
 | some (d, st) => (mk? l st.rest).map fun r => (d, ⟨r, st.names⟩)
set_option maxHeartbeats 2000000 in
theorem s_mark_yes (g : Nat) (L : List Sg) (lv nv : Value) (d : Nat) (st : St) (l : ByteArray) (r : List Sg) (w : World) (hL : L.length ≤ 3000) (hl : l.toList ≠ []) (h : SRd g L lv nv w (some (d, st))) (hr : mk? l st.rest = some r) :
   Calls Tryz.prog 61 #[.pointer (some ⟨g, 0, none⟩), .string l] w fun e w' => e = .returned (.bool true) ∧ SRd g L lv nv w' (some (d, ⟨r, st.names⟩)) ∧ FX (XS g nv) (XS g nv) w w' := by
 have HI := s_is g L lv nv (some (d, st)) 4 l w h
 rw [isO_mark hl, hr] at HI
 have HS : Hid (SRd g L lv nv w (some (d, st))) := h
 have HL : Hid (L.length ≤ 3000) := hL
 have HR : Hid (mk? l st.rest = some r) := hr
 clear h hr hl hL
 go_enter Tryz.func61, Tryz.ntmps61
 go_upto_region 2 with (go_at_call 28; refine HI.mono ?_; rintro e w1 ⟨rfl, hb⟩)
 have H1 := HS.out.keep hb
 obtain ⟨x, hx, _⟩ := mk?_cons HR.out
 obtain ⟨rest, names⟩ := st
 simp only at hx
 subst hx
 obtain ⟨p, lb, cap, rfl, hp, hd, hnm, hg, hln, hnr, _⟩ := H1.sign
 obtain ⟨c0, c1, c2, c3, c4, cf⟩ := b5f hg
 have HG : Hid (∃ L', L' = L ∧ w1.heap[g]? = some (.cells #[.slice (some ⟨lb, 0, none⟩) L'.length cap, .int .i64 (p : Int), .bool false, .int .i64 (d : Int), nv] 52 (0, 0)) ∧ LIn w1 g L' (.slice (some ⟨lb, 0, none⟩) L'.length cap) ∧ NRow w1 (g + 1) names nv ∧ p < L'.length ∧ L'.drop (p + 1) = r ∧ names.length ≤ p) := ⟨L, rfl, hg, hln, hnr, hp, hd, hnm⟩
 have HB : Hid (Below w.heap.size w w1) := hb
 have f1 := cf 1
 clear hb H1 hg hln hnr hp hd hnm c0 c2 c3 c4 cf HI HR HS
 go_wp2
 go_ret
 obtain ⟨L', rfl, hg, hln, hnr, hp, hd, hnm⟩ := HG.out
 have := HL.out
 refine ⟨rfl, ?_, ?_⟩
 · exact SRd.go 1 hg hln hnr (by omega) hd hnm (wr1 (by omega))
 · exact (FX.of_below HB.out).trans (FX.set_g _)
set_option maxHeartbeats 2000000 in
theorem s_mark_no (g : Nat) (L : List Sg) (lv nv : Value) (o : Option (Nat × St)) (l : ByteArray) (w : World) (hl : l.toList ≠ []) (h : SRd g L lv nv w o) (hr : ∀ d st, o = some (d, st) → mk? l st.rest = none) :
   Calls Tryz.prog 61 #[.pointer (some ⟨g, 0, none⟩), .string l] w fun e w' => e = .returned (.bool false) ∧ Below w.heap.size w w' := by
 have HI := s_is g L lv nv o 4 l w h
 have e : isO o 4 l = false := by
   rcases o with _ | ⟨d, st⟩
   · rfl
   · rw [isO_mark hl, hr d st rfl]; rfl
 rw [e] at HI
 clear h hr hl e
 go_enter Tryz.func61, Tryz.ntmps61
 go_wp2_with (go_at_call 28; refine HI.mono ?_; rintro e w1 ⟨rfl, hb⟩)
 go_ret
 exact ⟨rfl, hb⟩
set_option maxHeartbeats 2000000 in
theorem s_wants_yes (g : Nat) (L : List Sg) (lv nv : Value) (d : Nat) (st : St) (l : ByteArray) (r : List Sg) (w : World) (hL : L.length ≤ 3000) (hl : l.toList ≠ []) (h : SRd g L lv nv w (some (d, st))) (hr : mk? l st.rest = some r) :
   Calls Tryz.prog 81 #[.pointer (some ⟨g, 0, none⟩), .string l] w fun e w' => (∃ x, e = .returned x) ∧ SRd g L lv nv w' (some (d, ⟨r, st.names⟩)) ∧ FX (XS g nv) (XS g nv) w w' := by
 have HI := s_mark_yes g L lv nv d st l r w hL hl h hr
 clear h hr hl hL
 go_enter Tryz.func81, Tryz.ntmps81
 go_wp2_with (go_at_call 61; refine HI.mono ?_; rintro e w1 ⟨rfl, hs, hb⟩)
 refine bodyPost_end (results_none rfl _ _ _) rfl ?_
 exact ⟨⟨_, rfl⟩, hs, hb⟩
set_option maxHeartbeats 2000000 in
theorem s_wants_no (g : Nat) (L : List Sg) (lv nv : Value) (o : Option (Nat × St)) (l : ByteArray) (w : World) (hl : l.toList ≠ []) (h : SRd g L lv nv w o) (hr : ∀ d st, o = some (d, st) → mk? l st.rest = none) :
   Calls Tryz.prog 81 #[.pointer (some ⟨g, 0, none⟩), .string l] w fun e w' => (∃ x, e = .returned x) ∧ SRd g L lv nv w' none ∧ FX (XS g nv) (XS g nv) w w' := by
 have HI := s_mark_no g L lv nv o l w hl h hr
 have HS : Hid (SRd g L lv nv w o) := h
 clear h hr hl
 go_enter Tryz.func81, Tryz.ntmps81
 go_upto_region 1 with (go_at_call 61; refine HI.mono ?_; rintro e w1 ⟨rfl, hb⟩)
 have H1 : Hid (SRd g L lv nv w1 o) := HS.out.keep hb
 obtain ⟨a, bad, dv, nms, h1, _⟩ := H1.out.ex
 obtain ⟨c0, c1, c2, c3, c4, cf⟩ := b5f h1
 have f2 := cf 2
 have HB : Hid (Below w.heap.size w w1) := hb
 clear h1 cf c0 c1 c3 c4 hb HI HS
 go_wp2
 refine bodyPost_end (results_none rfl _ _ _) rfl ?_
 exact ⟨⟨_, rfl⟩, H1.out.fall, (FX.of_below HB.out).trans (FX.set_g _)⟩
set_option maxHeartbeats 1000000 in
theorem s_atom (X : Nat → Prop) (s : ByteArray) (w : World) (hs : s.size ≤ maxLen) :
   Calls Tryz.prog 80 #[.string s] w fun e w' => ∃ v, e = .returned v ∧ TOk 24 X w.heap.size w' (atomTm s) v [] ∧ Below w.heap.size w w' := by
 go_enter Tryz.func80, Tryz.ntmps80
 go_wp2
 refine bodyPost_ret_by (results_cell_row rfl _ _ w.heap.size 24 _ (0, 0) _ rfl (heap_alloc_new _ _) Tryz.underlying24 rfl (by kernel_rfl)) rfl ?_
 exact ⟨_, rfl, TOk.leaf (by decide) (by decide) hs, (Below.refl _ _).alloc (Nat.le_refl _) _⟩
set_option maxHeartbeats 1000000 in
theorem s_num (X : Nat → Prop) (n : Int) (w : World) (hn : -9223372036854775808 ≤ n ∧ n ≤ 9223372036854775807) :
   Calls Tryz.prog 64 #[.int .i64 n] w fun e w' => ∃ v, e = .returned v ∧ TOk 24 X w.heap.size w' (intTm n) v [] ∧ Below w.heap.size w w' := by
 have HN : Hid (-9223372036854775808 ≤ n ∧ n ≤ 9223372036854775807) := hn
 clear hn
 go_enter Tryz.func64, Tryz.ntmps64
 go_wp2
 refine bodyPost_ret_by (results_cell_row rfl _ _ w.heap.size 24 _ (0, 0) _ rfl (heap_alloc_new _ _) Tryz.underlying24 rfl (by kernel_rfl)) rfl ?_
 exact ⟨_, rfl, TOk.leaf (by decide) HN.out (by decide), (Below.refl _ _).alloc (Nat.le_refl _) _⟩
set_option maxHeartbeats 1000000 in
theorem s_var (X : Nat → Prop) (n : Nat) (w : World) (hn : n ≤ 100000) :
   Calls Tryz.prog 82 #[.int .i64 (n : Int)] w fun e w' => ∃ v, e = .returned v ∧ TOk 24 X w.heap.size w' (varTm n) v [] ∧ Below w.heap.size w w' := by
 have HN : Hid (n ≤ 100000) := hn
 clear hn
 go_enter Tryz.func82, Tryz.ntmps82
 go_wp2
 refine bodyPost_ret_by (results_cell_row rfl _ _ w.heap.size 24 _ (0, 0) _ rfl (heap_alloc_new _ _) Tryz.underlying24 rfl (by kernel_rfl)) rfl ?_
 exact ⟨_, rfl, TOk.leaf (by decide) (by have := HN.out; omega) (by decide), (Below.refl _ _).alloc (Nat.le_refl _) _⟩
end Go.Proofs.YtbkjcccbjnehbanGreatDoor

namespace Go.Proofs.YtbkjcccbjnehbanGreatDoor
open Go.RowKit
theorem alloc3 {w : World} {A B C : Obj} : (((w.alloc A).alloc B).alloc C).heap[w.heap.size]? = some A ∧ (((w.alloc A).alloc B).alloc C).heap[w.heap.size + 1]? = some B ∧ (((w.alloc A).alloc B).alloc C).heap[w.heap.size + 1 + 1]? = some C ∧
   (((w.alloc A).alloc B).alloc C).heap.size = w.heap.size + 3 ∧ Below w.heap.size w (((w.alloc A).alloc B).alloc C) := by
 refine ⟨?_, ?_, ?_, by simp, (((Below.refl _ _).alloc (Nat.le_refl _) _).alloc (by simp) _).alloc (by simp; omega) _⟩
 · show (((w.heap.push A).push B).push C)[w.heap.size]? = _
   rw [Array.getElem?_push, if_neg (by simp; omega), Array.getElem?_push, if_neg (by simp), Array.getElem?_push, if_pos rfl]
 · show (((w.heap.push A).push B).push C)[w.heap.size + 1]? = _
   rw [Array.getElem?_push, if_neg (by simp), Array.getElem?_push, if_pos (by simp)]
 · show (((w.heap.push A).push B).push C)[w.heap.size + 1 + 1]? = _
   rw [Array.getElem?_push, if_pos (by simp)]
theorem TOk.shape {e : TypeId} {X : Nat → Prop} {lo : Nat} {w : World} {t : Tm} {v : Value} {F : List Nat} (h : TOk e X lo w t v F) : ∃ k s n sl, v = .agg #[.int .i64 k, .string s, .int .i64 n, sl] := by
 obtain ⟨k, s, n, ao, len, cap, e⟩ := own_shape h.own
 exact ⟨k, s, n, _, e⟩
set_option maxHeartbeats 2000000 in
theorem s_two (X : Nat → Prop) (lo : Nat) (s : ByteArray) (t u : Tm) (v1 v2 : Value) (F G : List Nat) (w : World) (h1 : TOk 24 X lo w t v1 F) (h2 : TOk 24 X lo w u v2 G) (hd : ∀ f ∈ F, ∀ g ∈ G, f ≠ g) (hlo : lo ≤ w.heap.size) (hX : ∀ k, w.heap.size ≤ k → ¬ X k) (hs : s.size ≤ maxLen) :
   Calls Tryz.prog 43 #[.string s, v1, v2] w fun e w' => ∃ v F', e = .returned v ∧ TOk 24 X lo w' (structTm s [t, u]) v F' ∧ (∀ f ∈ F', f ∈ F ∨ f ∈ G ∨ w.heap.size ≤ f) ∧ Below w.heap.size w w' := by
 obtain ⟨k1, s1, n1, sl1, rfl⟩ := h1.shape
 obtain ⟨k2, s2, n2, sl2, rfl⟩ := h2.shape
 go_enter Tryz.func43, Tryz.ntmps43
 go_upto_region 1 with fail
 obtain ⟨W, hW⟩ : ∃ W, W = ((w.alloc (.cells #[.int .i64 k1, .string s1, .int .i64 n1, sl1] 24)).alloc (.cells #[.int .i64 k2, .string s2, .int .i64 n2, sl2] 24)).alloc (.cells #[.int .i64 0, .string ⟨#[]⟩, .int .i64 0, .slice none 0 0] 24) := ⟨_, rfl⟩
 rw [← hW]
 have al := @alloc3 w (.cells #[.int .i64 k1, .string s1, .int .i64 n1, sl1] 24) (.cells #[.int .i64 k2, .string s2, .int .i64 n2, sl2] 24) (.cells #[.int .i64 0, .string ⟨#[]⟩, .int .i64 0, .slice none 0 0] 24)
 rw [← hW] at al
 obtain ⟨g0, g1, g2, sW, bW⟩ := al
 obtain ⟨a0, a1, a2, a3, _⟩ := blk4 g0
 obtain ⟨b0, b1, b2, b3, _⟩ := blk4 g1
 obtain ⟨c0, c1, c2, c3, e0, e1, e2, e3⟩ := blk4 g2
 have l0 : w.heap.size + 1 + 1 < W.heap.size := by omega
 have H1 : Hid (TOk 24 X lo W t (.agg #[.int .i64 k1, .string s1, .int .i64 n1, sl1]) F) := h1.step (FX.of_below bW)
 have H2 : Hid (TOk 24 X lo W u (.agg #[.int .i64 k2, .string s2, .int .i64 n2, sl2]) G) := h2.step (FX.of_below bW)
 have HG : Hid (W.heap[w.heap.size + 1 + 1]? = some (.cells #[.int .i64 0, .string ⟨#[]⟩, .int .i64 0, .slice none 0 0] 24 (0, 0))) := g2
 have HB : Hid (Below w.heap.size w W) := bW
 have HW : Hid (W.heap.size = w.heap.size + 3) := sW
 have HLO : Hid (lo ≤ w.heap.size) := hlo
 have HF : Hid (∀ f ∈ F, f < w.heap.size) := h1.lt
 have HGG : Hid (∀ f ∈ G, f < w.heap.size) := h2.lt
 clear g0 g1 g2 hW sW bW h1 h2 hlo
 go_wp2
 have hW := HW.out
 have hl := HLO.out
 obtain ⟨V, hV⟩ : ∃ V, V = (((W.setCell ⟨w.heap.size + 1 + 1, 0, none⟩ (.int .i64 4)).setCell ⟨w.heap.size + 1 + 1, 1, none⟩ (.string s)).setCell ⟨w.heap.size + 1 + 1, 2, none⟩ (.int .i64 0)).setCell ⟨w.heap.size + 1 + 1, 3, none⟩ (.slice (some ⟨W.heap.size, 0, none⟩) 2 2) := ⟨_, rfl⟩
 rw [← hV]
 have sV : V.heap.size = W.heap.size := by rw [hV]; simp [World.setCell]
 have gV : V.heap[w.heap.size + 1 + 1]? = some (.cells #[.int .i64 4, .string s, .int .i64 0, .slice (some ⟨W.heap.size, 0, none⟩) 2 2] 24 (0, 0)) := by rw [hV]; exact blk4_set HG.out
 have oV : ∀ f, f < w.heap.size → V.heap[f]? = W.heap[f]? := fun f hf => by rw [hV]; exact blk4_other (by omega)
 have bV : Below w.heap.size w V := by rw [hV]; exact blk4_below HB.out (by omega)
 have T1 : TOk 24 X lo V t _ F := ⟨Own.keep t _ F H1.out.own fun f hf => oV f (HF.out f hf), H1.out.nd, H1.out.out⟩
 have T2 : TOk 24 X lo V u _ G := ⟨Own.keep u _ G H2.out.own fun f hf => oV f (HGG.out f hf), H2.out.nd, H2.out.out⟩
 have R := ROk.two T1 T2 hd (by omega) (hX _ (by omega))
 rw [sV] at R
 have gA := (Below.heap_alloc V (.cells #[.int .i64 k1, .string s1, .int .i64 n1, sl1, .int .i64 k2, .string s2, .int .i64 n2, sl2] 24) (w.heap.size + 1 + 1) (by omega)).trans gV
 clear hV
 refine bodyPost_ret_by (results_cell_row rfl _ _ (w.heap.size + 1 + 1) 24 _ (0, 0) _ rfl gA Tryz.underlying24 rfl (by kernel_rfl)) rfl ?_
 refine ⟨_, _, rfl, ROk.tm R hs, ?_, bV.alloc (by omega) _⟩
 intro f hf
 rcases List.mem_cons.1 hf with rfl | hf
 · exact Or.inr (Or.inr (by omega))
 · rcases List.mem_append.1 hf with hf | hf
   · exact Or.inl hf
   · exact Or.inr (Or.inl hf)
end Go.Proofs.YtbkjcccbjnehbanGreatDoor

namespace Go.Proofs.YtbkjcccbjnehbanGreatDoor
open Go.RowKit
def TmR (g : Nat) (L : List Sg) (lv nv : Value) (w : World) (v : Value) (w' : World) (R : Option (Tm × St)) (d : Nat) : Prop :=
 ∃ t F nv', TOk 24 (XS g nv') w.heap.size w' t v F ∧ (∀ y, R = some y → t = y.1) ∧ SRd g L lv nv' w' (R.map fun y => (d, y.2)) ∧ FX (XS g nv) (XS g nv') w w'
theorem TOk.form {e : TypeId} {X : Nat → Prop} {lo : Nat} {w : World} {t : Tm} {v : Value} {F : List Nat} (h : TOk e X lo w t v F) : ∃ k s n ao len cap, v = .agg #[.int .i64 k, .string s, .int .i64 n, .slice ao len cap] := own_shape h.own
theorem infoN : (Tryz.prog.info? 9).map (fun i => (i.zero, i.size, i.bytes)) = some (some (.string ⟨#[]⟩), 1, 16) := by kernel_rfl
theorem NRow.cells {w : World} {B : Nat} {ns : List ByteArray} {v : Value} (h : NRow w B ns v) : ∃ ao cap, v = .slice ao ns.length cap ∧ cap ≤ maxLen ∧ ∀ j (hj : j < ns.length), ∃ nb, ao = some ⟨nb, 0, none⟩ ∧ w.cell? ⟨nb, j, none⟩ = some (.string ns[j]) := by
 rcases h.2 with ⟨rfl, h0⟩ | ⟨g, cap, cur, rfl, hb, hh, h1, h2, h3, h4⟩
 · exact ⟨none, 0, by rw [h0], Nat.zero_le _, fun j hj => by omega⟩
 · refine ⟨_, cap, rfl, h2, fun j hj => ⟨g, rfl, ?_⟩⟩
   have := h.cellAt j (by omega)
   rw [this]; simp [hj]
theorem cUs_toL : cUs.toList = [95] := by rw [ByteArray.toList_eq]; rfl
theorem alloc_cell1 (W : World) (x : Value) (T : TypeId) : (W.alloc (.cells #[x] T)).cell? ⟨W.heap.size, 0, none⟩ = some x := blk_cell (i := 0) (heap_alloc_new _ _) (by simp)
theorem find_some {s : ByteArray} {names : List ByteArray} {i : Nat} (h : (names.findIdx? fun x => decide (x = s)) = some i) : i < names.length ∧ names[i]? = some s ∧ ∀ j, j < i → names[j]? ≠ some s := by
 rw [List.findIdx?_eq_some_iff_getElem] at h
 obtain ⟨hi, h1, h2⟩ := h
 refine ⟨hi, by rw [List.getElem?_eq_getElem hi]; simpa using h1, fun j hj e => ?_⟩
 have := h2 j hj
 rw [List.getElem?_eq_getElem (by omega)] at e
 simp at this e
 exact this e
theorem find_none {s : ByteArray} {names : List ByteArray} (h : (names.findIdx? fun x => decide (x = s)) = none) : ∀ j (hj : j < names.length), names[j] ≠ s := by
 intro j hj e
 rw [List.findIdx?_eq_none_iff] at h
 have := h names[j] (List.getElem_mem hj)
 simp [e] at this
theorem FX.grown {g : Nat} {nv v' : Value} {w w' : World} (hg : w.grownBy w' nv.ownBlock) (hat : v'.ownBlock = nv.ownBlock ∨ v'.ownBlock = some w.heap.size) : FX (XS g nv) (XS g v') w w' :=
 ⟨hg.os, hg.tape, hg.output, hg.size, fun k hk hx => hg.block k hk (fun e => hx (Or.inr e.symm)), fun k hk => by
   rcases hk with rfl | hk
   · exact Or.inl (Or.inl rfl)
   · rcases hat with h | h
     · exact Or.inl (Or.inr (h ▸ hk))
     · rw [h] at hk; exact Or.inr (by simp at hk; omega)⟩
set_option maxHeartbeats 8000000 in
set_option maxRecDepth 20000 in
theorem s_variable (g : Nat) (L : List Sg) (lv nv : Value) (d p : Nat) (r : List Sg) (names : List ByteArray) (s : ByteArray) (w : World) (hL : L.length ≤ 3000)
   (hg : w.heap[g]? = some (.cells #[lv, .int .i64 (p : Int), .bool false, .int .i64 (d : Int), nv] 52 (0, 0))) (hl : LIn w g L lv) (hn : NRow w (g + 1) names nv) (hp : p ≤ L.length) (hd : L.drop p = r) (hm : names.length + 1 ≤ p) :
   Calls Tryz.prog 65 #[.pointer (some ⟨g, 0, none⟩), .string s] w fun e w' => ∃ v, e = .returned v ∧ TmR g L lv nv w v w' (some (varTm (varO s names).1, ⟨r, (varO s names).2⟩)) d := by
 obtain ⟨i0, hi, hz0, hz1, hz2⟩ := info_partsS infoN
 have hgw : g < w.heap.size := (Array.getElem?_eq_some_iff.1 hg).1
 obtain ⟨ao, cap, rfl, hcp, hcell⟩ := hn.cells
 obtain ⟨W, hW⟩ : ∃ W, W = w.alloc (.cells #[.int .i64 0, .string ⟨#[]⟩, .int .i64 0, .slice none 0 0] 24) := ⟨_, rfl⟩
 have bW : Below w.heap.size w W := by rw [hW]; exact (Below.refl _ _).alloc (Nat.le_refl _) _
 have sW : W.heap.size = w.heap.size + 1 := by rw [hW]; simp
 have kW : W.heap[w.heap.size]? = some (.cells #[.int .i64 0, .string ⟨#[]⟩, .int .i64 0, .slice none 0 0] 24 (0, 0)) := by rw [hW]; exact heap_alloc_new _ _
 have gW : W.heap[g]? = some (.cells #[lv, .int .i64 (p : Int), .bool false, .int .i64 (d : Int), .slice ao names.length cap] 52 (0, 0)) := (bW.block g hgw).trans hg
 have lW : LIn W g L lv := hl.turn fun k hk => bW.block k (by omega)
 have nW : NRow W (g + 1) names (.slice ao names.length cap) := hn.turn fun b e => bW.block b (hn.lt b e).2
 have cW : ∀ j (hj : j < names.length), ∃ nb, ao = some ⟨nb, 0, none⟩ ∧ W.cell? ⟨nb, j, none⟩ = some (.string names[j]) := fun j hj => by
   obtain ⟨nb, e, h⟩ := hcell j hj; exact ⟨nb, e, cell_keep h bW⟩
 have nlt := hn.lt
 obtain ⟨c0, c1, c2, c3, c4, cf⟩ := b5f gW
 have hnm : names.length ≤ 3000 := by omega
 have HGW : Hid (W.heap[g]? = some (.cells #[lv, .int .i64 (p : Int), .bool false, .int .i64 (d : Int), .slice ao names.length cap] 52 (0, 0)) ∧ LIn W g L lv ∧ NRow W (g + 1) names (.slice ao names.length cap)) := ⟨gW, lW, nW⟩
 have HKW : Hid (W.heap[w.heap.size]? = some (.cells #[.int .i64 0, .string ⟨#[]⟩, .int .i64 0, .slice none 0 0] 24 (0, 0))) := kW
 have HBW : Hid (Below w.heap.size w W) := bW
 have HSW : Hid (W.heap.size = w.heap.size + 1) := sW
 have HP : Hid (p ≤ L.length ∧ L.drop p = r ∧ names.length + 1 ≤ p) := ⟨hp, hd, hm⟩
 have HNL : Hid (∀ b, (Value.slice ao names.length cap).ownBlock = some b → g + 1 ≤ b ∧ b < w.heap.size) := nlt
 obtain ⟨NN, hNN⟩ : ∃ NN, NN = names.length := ⟨_, rfl⟩
 have HNN : Hid (NN = names.length) := hNN
 have hN3 : (NN : Int) ≤ 3000 := by omega
 rw [← hNN] at c4
 have HCW : Hid (∀ j (hj : j < names.length), ∃ nb, ao = some ⟨nb, 0, none⟩ ∧ W.cell? ⟨nb, j, none⟩ = some (.string names[j])) := cW
 have f4 := cf 4
 clear hp hd hm hg hl hn gW lW nW kW bW sW cf hcell nlt hL cW hnm hNN hcp
 by_cases hs : s = cUs
 · subst hs
   have HV : Hid (varO cUs names = (names.length, names ++ [cUs])) := by show _ = _; simp [varO]
   obtain ⟨s, hse⟩ : ∃ s : ByteArray, s = cUs := ⟨_, rfl⟩
   have es : (s.toList == [95]) = true := by rw [hse, cUs_toL]; rfl
   rw [← hse]
   rw [← hse] at HV
   clear hse
   go_enter Tryz.func65, Tryz.ntmps65
   go_upto_region 7 with fail
   rw [← hW]
   clear hW
   have HX : Hid (∀ W', Below W.heap.size W W' → NRow W' (g + 1) names (.slice ao names.length cap)) := fun W' hb => HGW.out.2.2.turn fun b e => hb.block b (by have := HNL.out b e; have := HSW.out; omega)
   clear HCW
   go_wp2_with (at_builtin; go_loud (refine wpList_append_own_at _ rfl _ _ 25 rfl (g + 1) 9 i0 (.string ⟨#[]⟩) 1 16 Tryz.underlying25 hi hz0 hz1 hz2 rfl (by decide) _ names.length _ (by rw [← HNN.out]; rfl) (HX.out _ ((Below.refl _ _).alloc (Nat.le_refl _) _)) ⟨W.heap.size, 0, none⟩ 1 1 [.string s] rfl rfl ?c1 ?c2 ?c3 ?c4 ?c5 ?_))
   case c1 =>
     intro q z hq
     match q, hq with
     | 0, hq => simp at hq; subst hq; exact alloc_cell1 W _ _
   case c2 => intro z hz; simp at hz; subst hz; rfl
   case c3 => have := HNN.out; unfold maxLen; omega
   case c4 => have := HNN.out; omega
   case c5 => have := HSW.out; simp; omega
   intro v' w2 hown' hgrow _ hat
   have hsz := HSW.out
   have hnn := HNN.out
   have HA : Hid (FX (XS g (.slice ao names.length cap)) (XS g v') w w2) := (FX.of_below (HBW.out.trans ((Below.refl _ _).alloc (by omega) _))).trans (FX.grown hgrow (by simpa using hat))
   have hblk : ∀ k, k < w.heap.size + 1 → (Value.slice ao names.length cap).ownBlock ≠ some k → w2.heap[k]? = W.heap[k]? := fun k hk hne => (hgrow.block k (by simp; omega) (fun e => hne e.symm)).trans (Below.heap_alloc _ _ _ (by omega))
   have hgn : (Value.slice ao names.length cap).ownBlock ≠ some g := fun e => by have := HNL.out g e; omega
   have hkn : (Value.slice ao names.length cap).ownBlock ≠ some w.heap.size := fun e => by have := HNL.out _ e; omega
   have HG2 : Hid (w2.heap[g]? = some (.cells #[lv, .int .i64 (p : Int), .bool false, .int .i64 (d : Int), .slice ao names.length cap] 52 (0, 0))) := (hblk g (by omega) hgn).trans HGW.out.1
   have HK2 : Hid (w2.heap[w.heap.size]? = some (.cells #[.int .i64 0, .string ⟨#[]⟩, .int .i64 0, .slice none 0 0] 24 (0, 0))) := (hblk _ (by omega) hkn).trans HKW.out
   have HL2 : Hid (LIn w2 g L lv) := HGW.out.2.1.turn fun k hk => hblk k (by omega) (fun e => by have := HNL.out k e; omega)
   have HN2 : Hid (NRow w2 (g + 1) (names ++ [s]) v') := by
     show w2.ownsRow _ _ _ _ _ _
     rw [List.map_append, List.length_append]
     exact hown'
   obtain ⟨a2, cp2, hv2, _, _⟩ := HN2.out.cells
   rw [List.length_append, List.length_singleton, ← hnn] at hv2
   have hnvg : v'.ownBlock ≠ some g := fun e => by have := HN2.out.lt g e; omega
   have hnvk : v'.ownBlock ≠ some w.heap.size := fun e => by
     rcases hat with h | h
     · exact hkn (h.symm.trans e)
     · rw [h] at e; simp at e; omega
   have HNV : Hid (v'.ownBlock ≠ some g ∧ v'.ownBlock ≠ some w.heap.size) := ⟨hnvg, hnvk⟩
   have hs2 : w.heap.size < w2.heap.size := by have := hgrow.size; simp at this; omega
   obtain ⟨c0, c1, c2, c3, c4, cf2⟩ := b5f HG2.out
   have f4 := cf2 4
   clear hown' hgrow hat hblk cf2 hnvg hnvk hgn hkn HX c0 c1 c2 c3
   subst hv2
   rw [← hnn] at c4
   have H3 : NN ≤ 100000 := by omega
   have esub : ((NN : Int) + 1) - 1 = (NN : Int) := by omega
   have HVV : Hid _ := fun wq => s_var (XS g (.slice a2 (NN + 1) cp2)) NN wq H3
   clear H3 hnn
   go_upto_region 8 with fail
   obtain ⟨V, hV⟩ : ∃ V, V = w2.setCell ⟨g, 4, none⟩ (.slice a2 (NN + 1) cp2) := ⟨_, rfl⟩
   rw [← hV]
   have gV : V.heap[g]? = some (.cells #[lv, .int .i64 (p : Int), .bool false, .int .i64 (d : Int), .slice a2 (NN + 1) cp2] 52 (0, 0)) := by
     rw [hV]; have := set_at5 (i := 4) HG2.out (.slice a2 (NN + 1) cp2); simpa using this
   have oV : ∀ k, k ≠ g → V.heap[k]? = w2.heap[k]? := fun k hk => by rw [hV]; exact set_oth5 _ hk
   have HFV : Hid (FX (XS g (.slice ao names.length cap)) (XS g (.slice a2 (NN + 1) cp2)) w V) := by rw [hV]; exact HA.out.set (Or.inl (Or.inl rfl)) _
   have sV : V.heap.size = w2.heap.size := by rw [hV]; simp [World.setCell]
   obtain ⟨c0, c1, c2, c3, c4, cf⟩ := b5f gV
   have HGV : Hid (V.heap[g]? = some (.cells #[lv, .int .i64 (p : Int), .bool false, .int .i64 (d : Int), .slice a2 (NN + 1) cp2] 52 (0, 0)) ∧ LIn V g L lv ∧ NRow V (g + 1) (names ++ [s]) (.slice a2 (NN + 1) cp2) ∧ V.heap[w.heap.size]? = some (.cells #[.int .i64 0, .string ⟨#[]⟩, .int .i64 0, .slice none 0 0] 24 (0, 0))) :=
     ⟨gV, HL2.out.turn fun k hk => oV k (by omega), HN2.out.turn fun b e => oV b (fun h => HNV.out.1 (by rw [← h]; exact e)), (oV _ (by omega)).trans HK2.out⟩
   have HSV : Hid (w.heap.size < V.heap.size) := Nat.lt_of_lt_of_eq hs2 sV.symm
   clear gV oV hV cf f4 HA HG2 HL2 HN2 HK2 c0 c1 c2 c3 sV hs2 HGW HKW HBW
   go_wp2_with (go_at_call 82; go_loud (refine Calls.mono (HVV.out _) ?_); rintro e w3 ⟨v, rfl, ht, hb⟩; have HT : Hid _ := ht; have HB3 : Hid (Below _ _ w3) := hb; have hk := (hb.block w.heap.size HSV.out).trans HGV.out.2.2.2; obtain ⟨z0, z1, z2, z3, q0, q1, q2, q3⟩ := blk4 hk; obtain ⟨k1, s1, n1, ao1, ln1, cp1, rfl⟩ := ht.form; clear ht hb)
   refine bodyPost_ret_by (results_cell_row rfl _ _ w.heap.size 24 _ (0, 0) _ rfl (blk4_set hk) Tryz.underlying24 rfl (by kernel_rfl)) rfl ?_
   have FV : Below V.heap.size V w3 := HB3.out
   have hnn := HNN.out
   refine ⟨_, rfl, varTm NN, [], .slice a2 (NN + 1) cp2, ?_, ?_, ?_, ?_⟩
   · refine ⟨Own.keep _ _ [] HT.out.own (fun f h => by cases h), List.nodup_nil, fun f h => by cases h⟩
   · intro y hy; cases hy; rw [HV.out, ← hnn]
   · rw [HV.out]
     obtain ⟨gV, lV, nV, _⟩ := HGV.out
     obtain ⟨hp, hd, hm⟩ := HP.out
     have hsv := HSV.out
     refine ⟨_, false, _, names ++ [s], ?_, ?_, ?_, rfl, rfl, rfl, p, rfl, hp, hd, by simp; omega⟩
     · rw [blk4_other (by omega)]; exact (FV.block g (by omega)).trans gV
     · exact lV.turn fun k hk => by rw [blk4_other (by omega)]; exact FV.block k (by omega)
     · exact nV.turn fun b e => by
         rw [blk4_other (fun h => HNV.out.2 (by rw [← h]; exact e))]; exact FV.block b (nV.lt b e).2
   · exact (((((HFV.out.trans (FX.of_below FV)).set (Or.inr (Nat.le_refl _)) _).set (Or.inr (Nat.le_refl _)) _).set (Or.inr (Nat.le_refl _)) _).set (Or.inr (Nat.le_refl _)) _)
 · have es : (s.toList == [95]) = false := by
     rw [beq_eq_false_iff_ne]; intro e; exact hs (toL_inj (e.trans cUs_toL.symm))
   cases hf : names.findIdx? fun x => decide (x = s) with
   | some i1 =>
     have HV : Hid (varO s names = (i1, names)) := by show _ = _; unfold varO; rw [if_neg hs, hf]
     obtain ⟨hi1, he1, hlt1⟩ := find_some hf
     have HE : Hid (names[i1]? = some s ∧ ∀ j, j < i1 → names[j]? ≠ some s) := ⟨he1, hlt1⟩
     have HI : Hid (i1 < names.length) := hi1
     have hi3 : (i1 : Int) < (NN : Int) := by have := HNN.out; omega
     clear hf hs he1 hlt1 hi1
     go_enter Tryz.func65, Tryz.ntmps65
     go_wp2
     rw [← hW]
     clear hW
     go_loopw [5] (fun vi wr => ∃ (j : Nat), j ≤ i1 ∧ vi = .int .i64 (j : Int) ∧ wr = W) (fun i _ => i1 - (intOf i).toNat)
     case atStart => exact ⟨0, Nat.zero_le _, rfl, rfl⟩
     case round =>
       obtain ⟨j, hj, rfl, hwr⟩ := hrel
       replace hwr := hwr.symm
       subst hwr
       obtain ⟨nb, rfl, hc⟩ := HCW.out j (by have := HI.out; omega)
       have hjN : j < NN := by have := HNN.out; have := HI.out; omega
       obtain ⟨x, hx⟩ : ∃ x, x = names[j]'(by have := HI.out; omega) := ⟨_, rfl⟩
       rw [← hx] at hc
       by_cases hji : j = i1
       · subst hji
         obtain rfl : x = s := by
           have := HE.out.1
           rw [List.getElem?_eq_getElem HI.out] at this
           rw [hx]; exact Option.some.inj this
         have e3 : (x.toList == x.toList) = true := by simp
         have H3 : j ≤ 100000 := by omega
         have HVV : Hid _ := fun wq => s_var (XS g (.slice (some ⟨nb, 0, none⟩) names.length cap)) j wq H3
         clear hx H3
         go_wp2_with (go_at_call 82; go_loud (refine Calls.mono (HVV.out _) ?_); rintro e w1 ⟨v, rfl, ht, hb⟩; have HT : Hid _ := ht; have HB1 : Hid (Below _ _ w1) := hb; have hk := (hb.block w.heap.size (by have := HSW.out; omega)).trans HKW.out; obtain ⟨z0, z1, z2, z3, q0, q1, q2, q3⟩ := blk4 hk; obtain ⟨k1, s1, n1, ao1, ln1, cp1, rfl⟩ := ht.form; clear ht hb)
         refine bodyPost_ret_by (results_cell_row rfl _ _ w.heap.size 24 _ (0, 0) _ rfl (blk4_set hk) Tryz.underlying24 rfl (by kernel_rfl)) rfl ?_
         have hsz := HSW.out
         have FB : Below w.heap.size w _ := blk4_below (d0 := .int .i64 k1) (d1 := .string s1) (d2 := .int .i64 n1) (d3 := .slice ao1 ln1 cp1) (HBW.out.trans (HB1.out.mono (by omega))) (Nat.le_refl w.heap.size)
         refine ⟨_, rfl, varTm j, [], .slice (some ⟨nb, 0, none⟩) names.length cap, ?_, ?_, ?_, FX.of_below FB⟩
         · refine ⟨Own.keep _ _ [] HT.out.own (fun f h => by cases h), List.nodup_nil, fun f h => by cases h⟩
         · intro y hy; cases hy; rw [HV.out]
         · rw [HV.out]
           obtain ⟨gW, lW, nW⟩ := HGW.out
           obtain ⟨hp, hd, hm⟩ := HP.out
           refine ⟨_, false, _, names, ?_, ?_, ?_, rfl, rfl, rfl, p, rfl, hp, hd, by omega⟩
           · rw [blk4_other (by omega)]; exact (HB1.out.block g (by omega)).trans gW
           · exact lW.turn fun k hk => by rw [blk4_other (by omega)]; exact HB1.out.block k (by omega)
           · exact nW.turn fun b e => by
               have := HNL.out b e
               rw [blk4_other (by omega)]; exact HB1.out.block b (by omega)
       · have e3 : (x.toList == s.toList) = false := by
           rw [beq_eq_false_iff_ne]; intro e; exact HE.out.2 j (by omega) (by rw [List.getElem?_eq_getElem (by have := HI.out; omega), ← hx, toL_inj e])
         clear hx
         go_wp2
         go_roundw
         case rel => exact ⟨j + 1, by omega, by go_num, by first | rfl | trivial⟩
         case measure => simp [intOf]; omega
   | none =>
     have HV : Hid (varO s names = (names.length, names ++ [s])) := by show _ = _; unfold varO; rw [if_neg hs, hf]
     have HE : Hid (∀ j (hj : j < names.length), names[j] ≠ s) := find_none hf
     clear hf hs
     go_enter Tryz.func65, Tryz.ntmps65
     go_wp2
     rw [← hW]
     clear hW
     go_loopw [5] (fun vi wr => ∃ (j : Nat), j ≤ NN ∧ vi = .int .i64 (j : Int) ∧ wr = W) (fun i _ => NN - (intOf i).toNat)
     case atStart => exact ⟨0, Nat.zero_le _, rfl, rfl⟩
     case round =>
       obtain ⟨j, hj, rfl, hwr⟩ := hrel
       replace hwr := hwr.symm
       subst hwr
       by_cases hjN : j < NN
       · obtain ⟨nb, rfl, hc⟩ := HCW.out j (by have := HNN.out; omega)
         obtain ⟨x, hx⟩ : ∃ x, x = names[j]'(by have := HNN.out; omega) := ⟨_, rfl⟩
         rw [← hx] at hc
         have e3 : (x.toList == s.toList) = false := by
           rw [beq_eq_false_iff_ne]; intro e; exact HE.out j (by have := HNN.out; omega) (by rw [← hx]; exact toL_inj e)
         clear hx
         go_wp2
         go_roundw
         case rel => exact ⟨j + 1, by omega, by go_num, by first | rfl | trivial⟩
         case measure => simp [intOf]; omega
       · obtain rfl : NN = j := by omega
         clear HE
         go_upto_region 7 with fail
         have HX : Hid (∀ W', Below W.heap.size W W' → NRow W' (g + 1) names (.slice ao names.length cap)) := fun W' hb => HGW.out.2.2.turn fun b e => hb.block b (by have := HNL.out b e; have := HSW.out; omega)
         clear HCW
         go_wp2_with (at_builtin; go_loud (refine wpList_append_own_at _ rfl _ _ 25 rfl (g + 1) 9 i0 (.string ⟨#[]⟩) 1 16 Tryz.underlying25 hi hz0 hz1 hz2 rfl (by decide) _ names.length _ (by rw [← HNN.out]; rfl) (HX.out _ ((Below.refl _ _).alloc (Nat.le_refl _) _)) ⟨W.heap.size, 0, none⟩ 1 1 [.string s] rfl rfl ?c1 ?c2 ?c3 ?c4 ?c5 ?_))
         case c1 =>
           intro q z hq
           match q, hq with
           | 0, hq => simp at hq; subst hq; exact alloc_cell1 W _ _
         case c2 => intro z hz; simp at hz; subst hz; rfl
         case c3 => have := HNN.out; unfold maxLen; omega
         case c4 => have := HNN.out; omega
         case c5 => have := HSW.out; simp; omega
         intro v' w2 hown' hgrow _ hat
         have hsz := HSW.out
         have hnn := HNN.out
         have HA : Hid (FX (XS g (.slice ao names.length cap)) (XS g v') w w2) := (FX.of_below (HBW.out.trans ((Below.refl _ _).alloc (by omega) _))).trans (FX.grown hgrow (by simpa using hat))
         have hblk : ∀ k, k < w.heap.size + 1 → (Value.slice ao names.length cap).ownBlock ≠ some k → w2.heap[k]? = W.heap[k]? := fun k hk hne => (hgrow.block k (by simp; omega) (fun e => hne e.symm)).trans (Below.heap_alloc _ _ _ (by omega))
         have hgn : (Value.slice ao names.length cap).ownBlock ≠ some g := fun e => by have := HNL.out g e; omega
         have hkn : (Value.slice ao names.length cap).ownBlock ≠ some w.heap.size := fun e => by have := HNL.out _ e; omega
         have HG2 : Hid (w2.heap[g]? = some (.cells #[lv, .int .i64 (p : Int), .bool false, .int .i64 (d : Int), .slice ao names.length cap] 52 (0, 0))) := (hblk g (by omega) hgn).trans HGW.out.1
         have HK2 : Hid (w2.heap[w.heap.size]? = some (.cells #[.int .i64 0, .string ⟨#[]⟩, .int .i64 0, .slice none 0 0] 24 (0, 0))) := (hblk _ (by omega) hkn).trans HKW.out
         have HL2 : Hid (LIn w2 g L lv) := HGW.out.2.1.turn fun k hk => hblk k (by omega) (fun e => by have := HNL.out k e; omega)
         have HN2 : Hid (NRow w2 (g + 1) (names ++ [s]) v') := by
           show w2.ownsRow _ _ _ _ _ _
           rw [List.map_append, List.length_append]
           exact hown'
         obtain ⟨a2, cp2, hv2, _, _⟩ := HN2.out.cells
         rw [List.length_append, List.length_singleton, ← hnn] at hv2
         have hnvg : v'.ownBlock ≠ some g := fun e => by have := HN2.out.lt g e; omega
         have hnvk : v'.ownBlock ≠ some w.heap.size := fun e => by
           rcases hat with h | h
           · exact hkn (h.symm.trans e)
           · rw [h] at e; simp at e; omega
         have HNV : Hid (v'.ownBlock ≠ some g ∧ v'.ownBlock ≠ some w.heap.size) := ⟨hnvg, hnvk⟩
         have hs2 : w.heap.size < w2.heap.size := by have := hgrow.size; simp at this; omega
         obtain ⟨c0, c1, c2, c3, c4, cf2⟩ := b5f HG2.out
         have f4 := cf2 4
         clear hown' hgrow hat hblk cf2 hnvg hnvk hgn hkn HX c0 c1 c2 c3
         subst hv2
         rw [← hnn] at c4
         have H3 : NN ≤ 100000 := by omega
         have esub : ((NN : Int) + 1) - 1 = (NN : Int) := by omega
         have HVV : Hid _ := fun wq => s_var (XS g (.slice a2 (NN + 1) cp2)) NN wq H3
         clear H3 hnn
         go_upto_region 8 with fail
         obtain ⟨V, hV⟩ : ∃ V, V = w2.setCell ⟨g, 4, none⟩ (.slice a2 (NN + 1) cp2) := ⟨_, rfl⟩
         rw [← hV]
         have gV : V.heap[g]? = some (.cells #[lv, .int .i64 (p : Int), .bool false, .int .i64 (d : Int), .slice a2 (NN + 1) cp2] 52 (0, 0)) := by
           rw [hV]; have := set_at5 (i := 4) HG2.out (.slice a2 (NN + 1) cp2); simpa using this
         have oV : ∀ k, k ≠ g → V.heap[k]? = w2.heap[k]? := fun k hk => by rw [hV]; exact set_oth5 _ hk
         have HFV : Hid (FX (XS g (.slice ao names.length cap)) (XS g (.slice a2 (NN + 1) cp2)) w V) := by rw [hV]; exact HA.out.set (Or.inl (Or.inl rfl)) _
         have sV : V.heap.size = w2.heap.size := by rw [hV]; simp [World.setCell]
         obtain ⟨c0, c1, c2, c3, c4, cf⟩ := b5f gV
         have HGV : Hid (V.heap[g]? = some (.cells #[lv, .int .i64 (p : Int), .bool false, .int .i64 (d : Int), .slice a2 (NN + 1) cp2] 52 (0, 0)) ∧ LIn V g L lv ∧ NRow V (g + 1) (names ++ [s]) (.slice a2 (NN + 1) cp2) ∧ V.heap[w.heap.size]? = some (.cells #[.int .i64 0, .string ⟨#[]⟩, .int .i64 0, .slice none 0 0] 24 (0, 0))) :=
           ⟨gV, HL2.out.turn fun k hk => oV k (by omega), HN2.out.turn fun b e => oV b (fun h => HNV.out.1 (by rw [← h]; exact e)), (oV _ (by omega)).trans HK2.out⟩
         have HSV : Hid (w.heap.size < V.heap.size) := Nat.lt_of_lt_of_eq hs2 sV.symm
         clear gV oV hV cf f4 HA HG2 HL2 HN2 HK2 c0 c1 c2 c3 sV hs2 HGW HKW HBW
         go_wp2_with (go_at_call 82; go_loud (refine Calls.mono (HVV.out _) ?_); rintro e w3 ⟨v, rfl, ht, hb⟩; have HT : Hid _ := ht; have HB3 : Hid (Below _ _ w3) := hb; have hk := (hb.block w.heap.size HSV.out).trans HGV.out.2.2.2; obtain ⟨z0, z1, z2, z3, q0, q1, q2, q3⟩ := blk4 hk; obtain ⟨k1, s1, n1, ao1, ln1, cp1, rfl⟩ := ht.form; clear ht hb)
         refine bodyPost_ret_by (results_cell_row rfl _ _ w.heap.size 24 _ (0, 0) _ rfl (blk4_set hk) Tryz.underlying24 rfl (by kernel_rfl)) rfl ?_
         have FV : Below V.heap.size V w3 := HB3.out
         have hnn := HNN.out
         refine ⟨_, rfl, varTm NN, [], .slice a2 (NN + 1) cp2, ?_, ?_, ?_, ?_⟩
         · refine ⟨Own.keep _ _ [] HT.out.own (fun f h => by cases h), List.nodup_nil, fun f h => by cases h⟩
         · intro y hy; cases hy; rw [HV.out, ← hnn]
         · rw [HV.out]
           obtain ⟨gV, lV, nV, _⟩ := HGV.out
           obtain ⟨hp, hd, hm⟩ := HP.out
           have hsv := HSV.out
           refine ⟨_, false, _, names ++ [s], ?_, ?_, ?_, rfl, rfl, rfl, p, rfl, hp, hd, by simp; omega⟩
           · rw [blk4_other (by omega)]; exact (FV.block g (by omega)).trans gV
           · exact lV.turn fun k hk => by rw [blk4_other (by omega)]; exact FV.block k (by omega)
           · exact nV.turn fun b e => by
               rw [blk4_other (fun h => HNV.out.2 (by rw [← h]; exact e))]; exact FV.block b (nV.lt b e).2
         · exact (((((HFV.out.trans (FX.of_below FV)).set (Or.inr (Nat.le_refl _)) _).set (Or.inr (Nat.le_refl _)) _).set (Or.inr (Nat.le_refl _)) _).set (Or.inr (Nat.le_refl _)) _)
end Go.Proofs.YtbkjcccbjnehbanGreatDoor

namespace Go.Proofs.YtbkjcccbjnehbanGreatDoor
open Go.RowKit
theorem SRd.sign2 {g : Nat} {L : List Sg} {lv nv : Value} {w : World} {d : Nat} {x u : Sg} {r : List Sg} {names : List ByteArray} (h : SRd g L lv nv w (some (d, ⟨x :: u :: r, names⟩))) :
   ∃ (p q lb cap : Nat), q = p + 1 ∧ lv = .slice (some ⟨lb, 0, none⟩) L.length cap ∧ q < L.length ∧ L.drop (q + 1) = r ∧ L.drop q = u :: r ∧ names.length ≤ p ∧ w.heap[g]? = some (.cells #[lv, .int .i64 (p : Int), .bool false, .int .i64 (d : Int), nv] 52 (0, 0)) ∧ LIn w g L lv ∧ NRow w (g + 1) names nv ∧
     w.cell? ⟨lb, p * 5, none⟩ = some (.int .i64 x.kind) ∧ w.cell? ⟨lb, p * 5 + 1, none⟩ = some (.string x.text) ∧ w.cell? ⟨lb, p * 5 + 2, none⟩ = some (.int .i64 x.num) ∧ w.cell? ⟨lb, p * 5 + 3, none⟩ = some (.int .i64 (x.at_ : Int)) ∧ w.cell? ⟨lb, p * 5 + 4, none⟩ = some (.bool x.near) ∧
     w.cell? ⟨lb, q * 5, none⟩ = some (.int .i64 u.kind) ∧ w.cell? ⟨lb, q * 5 + 1, none⟩ = some (.string u.text) ∧ w.cell? ⟨lb, q * 5 + 2, none⟩ = some (.int .i64 u.num) ∧ w.cell? ⟨lb, q * 5 + 3, none⟩ = some (.int .i64 (u.at_ : Int)) ∧ w.cell? ⟨lb, q * 5 + 4, none⟩ = some (.bool u.near) ∧ lb < g := by
 obtain ⟨p, lb, cap, rfl, hp, hd, hn, hg, hl, hnr, k0, k1, k2, k3, k4, hlg⟩ := h.sign
 have hq : p + 1 < L.length := by
   rcases Nat.lt_or_ge (p + 1) L.length with h | h
   · exact h
   · rw [List.drop_eq_nil_of_le h] at hd; cases hd
 have hx : L[p + 1] = u ∧ L.drop (p + 1 + 1) = r := by
   have hd' := hd
   rw [List.drop_eq_getElem_cons hq] at hd'
   exact List.cons.inj hd'
 obtain ⟨lb', cap', e, _, _, _, _, hc⟩ := hl.1.cells (by rintro rfl; simp at hp)
 obtain ⟨e1, _, _⟩ := Value.slice.inj e
 obtain rfl : lb = lb' := by simpa using e1
 obtain ⟨m0, m1, m2, m3, m4⟩ := hc (p + 1) hq
 rw [hx.1] at m0 m1 m2 m3 m4
 exact ⟨p, p + 1, lb, cap, rfl, rfl, hq, hx.2, hd, hn, hg, hl, hnr, k0, k1, k2, k3, k4, m0, m1, m2, m3, m4, hlg⟩
set_option maxHeartbeats 8000000 in
theorem s_near (g : Nat) (L : List Sg) (lv nv : Value) (d : Nat) (x : Sg) (r : List Sg) (names : List ByteArray) (w : World) (hL : L.length ≤ 3000) (hx : x.at_ ≤ 100000) (h : SRd g L lv nv w (some (d, ⟨x :: r, names⟩))) :
   Calls Tryz.prog 78 #[.pointer (some ⟨g, 0, none⟩)] w fun e w' => e = .returned (.bool (nearO x r)) ∧ Below w.heap.size w w' := by
 cases r with
 | nil =>
   obtain ⟨p, lb, cap, rfl, hp, hd, _, hg, _⟩ := h.sign
   obtain ⟨c0, c1, c2, c3, c4, cf⟩ := b5f hg
   obtain ⟨NL, hNL⟩ : ∃ NL, NL = L.length := ⟨_, rfl⟩
   have hpe : p + 1 = L.length := by
     have := congrArg List.length hd
     simp at this; omega
   have hpn : (p : Int) + 1 = (NL : Int) := by omega
   have hp3 : (p : Int) ≤ 3000 := by omega
   rw [← hNL] at c0
   have d1 : decide ((NL : Int) < (NL : Int)) = false := decide_eq_false (by omega)
   clear h hg cf hNL hpe hp hd hL hx
   go_enter Tryz.func78, Tryz.ntmps78
   go_upto_region 1 with fail
   go_quiet (fail)
   go_wp2
   go_ret
   exact ⟨rfl, ⟨rfl, rfl, rfl, Nat.le_refl _, fun _ _ => rfl⟩⟩
 | cons u r =>
   obtain ⟨p, q, lb, cap, hq, rfl, hqL, _, _, _, hg, _, _, k0, k1, k2, k3, k4, m0, m1, m2, m3, m4, _⟩ := h.sign2
   obtain ⟨c0, c1, c2, c3, c4, cf⟩ := b5f hg
   obtain ⟨NL, hNL⟩ : ∃ NL, NL = L.length := ⟨_, rfl⟩
   rw [← hNL] at c0 hqL
   have hsum : (p : Int) + 1 = (q : Int) := by omega
   have hp3 : (p : Int) ≤ 3000 := by omega
   have hpN : p < NL := by omega
   have d1 : decide ((q : Int) < (NL : Int)) = true := decide_eq_true (by omega)
   have d1' : decide (q < NL) = true := decide_eq_true hqL
   obtain ⟨xk, xt, xn, xa, xb⟩ := x
   obtain ⟨uk, ut, un, ua, ub⟩ := u
   simp only at k0 k1 k2 k3 k4 m0 m1 m2 m3 m4 hx
   obtain ⟨xa1, hxa⟩ : ∃ xa1, xa1 = xa + 1 := ⟨_, rfl⟩
   have hxs : (xa : Int) + 1 = (xa1 : Int) := by omega
   have hx3 : (xa : Int) ≤ 100000 := by omega
   have HV : Hid (nearO ⟨xk, xt, xn, xa, xb⟩ (⟨uk, ut, un, ua, ub⟩ :: r) = (decide (uk = 3) && decide (ua = xa1))) := by show _ = _; rw [hxa]; rfl
   clear h hg cf hNL hq hL hx hxa k0 k1 k2 k4 m1 m2 m4 c2 c3 c4
   by_cases h3 : uk = 3
   · subst h3
     by_cases ha : ua = xa1
     · subst ha
       go_enter Tryz.func78, Tryz.ntmps78
       go_upto_region 1 with fail
       go_quiet (fail)
       go_wp2
       go_ret
       exact ⟨by rw [HV.out]; simp, ⟨rfl, rfl, rfl, Nat.le_refl _, fun _ _ => rfl⟩⟩
     · have ha2 : ((ua : Int) == (xa1 : Int)) = false := by rw [beq_eq_false_iff_ne]; intro e; exact ha (by omega)
       have ha3 : (ua == xa1) = false := by simpa using ha
       have HV2 : Hid (nearO ⟨3, xt, xn, xa, xb⟩ [] = false) := rfl
       go_enter Tryz.func78, Tryz.ntmps78
       go_upto_region 1 with fail
       go_quiet (fail)
       go_wp2
       go_ret
       exact ⟨by rw [HV.out, decide_eq_false ha]; rfl, ⟨rfl, rfl, rfl, Nat.le_refl _, fun _ _ => rfl⟩⟩
   · have h32 : (uk == 3) = false := by simpa using h3
     go_enter Tryz.func78, Tryz.ntmps78
     go_upto_region 1 with fail
     go_quiet (fail)
     go_wp2
     go_ret
     exact ⟨by rw [HV.out, decide_eq_false h3]; rfl, ⟨rfl, rfl, rfl, Nat.le_refl _, fun _ _ => rfl⟩⟩
end Go.Proofs.YtbkjcccbjnehbanGreatDoor

namespace Go.Proofs.YtbkjcccbjnehbanGreatDoor
open Go.RowKit
noncomputable def later (W u : World) : World := @ite _ (Below W.heap.size W u) (Classical.propDecidable _) u W
theorem later_below (W u : World) : Below W.heap.size W (later W u) := by
 unfold later
 split
 · assumption
 · exact Below.refl _ _
theorem later_of {W u : World} (h : Below W.heap.size W u) : u = later W u := by
 unfold later
 rw [if_pos h]
theorem wp_region_later {P : Program} {id : Nat} {Q : Exit → Act → World → Prop} {a : Act} {w : World} {l : List Oper} (hm : P.follows .mixedOrders = true) (hB : Region.lexB .any l.toArray = true)
   (h : wpQuiet P l.toArray (fun w' => ∃ u, w' = later w u) (fun a' => ∀ w', (∃ u, w' = later w u) → Q .normal a' w') l a) : (Code.region id l.toArray true).wp P Q a w :=
 wp_region_quiet (C := fun w' => ∃ u, w' = later w u) hm hB ⟨w.drew, later_of (Below.refl w.heap.size w).drew⟩ (by simpa using h)
theorem Calls.later_of_below {P : Program} {f : FuncId} {args : Array Value} {w u : World} {v : Value} (h : Calls P f args (later w u) fun e w' => e = .returned v ∧ Below (later w u).heap.size (later w u) w') :
   Calls P f args (later w u) fun e w' => e = .returned v ∧ ∃ u', w' = later w u' :=
 h.mono fun _ w' ⟨he, hb⟩ => ⟨he, w', later_of ((later_below w u).trans (hb.mono (later_below w u).size))⟩
end Go.Proofs.YtbkjcccbjnehbanGreatDoor

namespace Go.Proofs.YtbkjcccbjnehbanGreatDoor
open Go.RowKit
section
variable {P : Program} {ops : Array Oper} {md : Region.Mode} {C : World → Prop}
def HeadQ (P : Program) (md : Region.Mode) (ops : Array Oper) (C : World → Prop) (n : Nat) (L : Array Bool → Act → Prop) : Nat → Array Bool → Act → Prop
 | 0, listed, a => L listed a
 | f + 1, listed, a => Region.ready md ops listed ≠ [] ∧ ∀ i ∈ Region.ready md ops listed, i < n ∧ qOp P ops C i (HeadQ P md ops C n L f (listed.setIfInBounds i true)) a
theorem headQ_any {n g : Nat} {L : Array Bool → Act → Prop} {Q : Exit → Act → World → Prop} (hL : ∀ listed a, L listed a → ∀ w, C w → wpAny P md ops Q g listed a w) (f : Nat) :
   ∀ (listed : Array Bool) (a : Act), HeadQ P md ops C n L f listed a → ∀ w, C w → wpAny P md ops Q (f + g) listed a w := by
 induction f with
 | zero => intro listed a h w hw; rw [Nat.zero_add]; exact hL _ _ h w hw
 | succ f ih =>
   intro listed a h w hw
   rw [show f + 1 + g = (f + g) + 1 by omega]
   exact ⟨fun h0 => absurd h0 h.1, fun i hi => wpOp_of_qOp hw (fun a' w' hw' h' => ih _ a' h' w' hw') (h.2 i hi).2⟩
theorem headQ_first {n i : Nat} {oi : Oper} {v : Value} {L : Array Bool → Act → Prop} (hi : ops[i]? = some oi) (hsel : ∀ (j : Nat) (o : Oper) cs b, ops[j]? = some o → o.op ≠ .select cs b)
   (hs : Region.sinkB md ops n = true) (hc : Region.chainB md ops n = true) (hn : n < ops.size) (hin : i < n) (hdone : ∀ listed a, L listed a → ∀ j ∈ Region.ready md ops listed, n ≤ j) (f : Nat) :
   ∀ (listed : Array Bool) (a : Act), HeadInv md ops n listed →
     (∀ j oj, ops[j]? = some oj → j ≠ i → listed.getD j true = false → (∀ e ∈ oj.after, Region.binds md e = true → e.on ≠ i) → oi.apart ops oj = true) →
     i ∈ Region.ready md ops listed → YieldsIn P ops C oi v a → HeadQ P md ops C n L f (listed.setIfInBounds i true) (a.put oi.dst v) → HeadQ P md ops C n L (f + 1) listed a := by
 induction f with
 | zero =>
   intro listed a inv _ hr hy H
   have hun := (mem_ready.1 hr).1
   refine ⟨fun h => (by rw [h] at hr; cases hr), fun j hj => ?_⟩
   have hjn : j < n := Nat.lt_of_not_le fun h => tail_waits hs hc hn inv _ i rfl hin hun j h hj
   refine ⟨hjn, ?_⟩
   by_cases hji : j = i
   · subst hji; exact hy.qOp hi H
   · have := hdone _ _ H j (ready_mono hj hji)
     omega
 | succ f ih =>
   intro listed a inv hfree hr hy H
   have hun := (mem_ready.1 hr).1
   refine ⟨fun h => (by rw [h] at hr; cases hr), fun j hj => ?_⟩
   have hjn : j < n := Nat.lt_of_not_le fun h => tail_waits hs hc hn inv _ i rfl hin hun j h hj
   refine ⟨hjn, ?_⟩
   by_cases hji : j = i
   · subst hji; exact hy.qOp hi H
   · obtain ⟨hjun, oj, hoj, hall⟩ := mem_ready.1 hj
     have hnot : ∀ e ∈ oj.after, Region.binds md e = true → e.on ≠ i := fun e he hb heq => by
       have h1 := hall e he hb
       rw [heq, getD_both hun] at h1
       cases h1
     have h2 := qOp_put hoj (hfree j oj hoj hji hjun hnot) (fun cs b => hsel i oi cs b hi) (fun cs b => hsel j oj cs b hoj) hy (H.2 j (ready_mono hj hji)).2
     refine qOp_mono (fun a' h3 => ih _ a' (inv.set hj hjn) (fun k ok hk hki hu hno => hfree k ok hk hki ?_ hno) (ready_mono hr (Ne.symm hji)) h3.1 ?_) h2
     · by_cases hjk : j = k
       · subst hjk; exact hjun
       · rw [getD_set_ne true hjk] at hu; exact hu
     · rw [Array.setIfInBounds_comm _ _ hji]
       exact h3.2
theorem headQ_lex {n g : Nat} {R : Act → Prop} (hsel : Region.noSelect ops = true) (hs : Region.sinkB md ops n = true) (hc : Region.chainB md ops n = true) (hn : n < ops.size) (l : List Oper) :
   ∀ (k : Nat) (listed : Array Bool) (a : Act), (∀ j, j < l.length → l[j]? = ops[k + j]?) → k + l.length = n → HeadInv md ops n listed → Region.lexHead md ops g l.length k listed = true → wpQuiet P ops C R l a →
     HeadQ P md ops C n (fun listed' a' => Region.seqB md ops g n listed' = true ∧ R a') l.length listed a := by
 induction l with
 | nil =>
   intro k listed a _ hk _ hB h
   obtain rfl : k = n := by simpa using hk
   exact ⟨by simpa [Region.lexHead] using hB, h⟩
 | cons o l ih =>
   intro k listed a hl hk inv hB h
   have h0 : ops[k]? = some o := by simpa using (hl 0 (by simp)).symm
   simp only [List.length_cons, Region.lexHead, Bool.and_eq_true] at hB
   obtain ⟨⟨hr, hf⟩, hB'⟩ := hB
   have hkn : k < n := by simp only [List.length_cons] at hk; omega
   have hr' : k ∈ Region.ready md ops listed := by simpa using hr
   have hst : qOp P ops C k (wpQuiet P ops C R l) a := by unfold qOp; simp only [h0]; exact h
   obtain ⟨v, hy, hK⟩ := yieldsIn_of_qOp h0 hst
   exact headQ_first h0 (Region.noSelect_spec hsel) hs hc hn hkn (fun listed' a' hL => seqB_ready hL.1) l.length listed a inv (Region.free_spec h0 hf) hr' hy
     (ih (k + 1) _ _ (fun j hj => by have := hl (j + 1) (by simp; omega); simpa [Nat.add_assoc, Nat.add_comm 1 j] using this) (by simp only [List.length_cons] at hk; omega) (inv.set hr' hkn) hB' hK)
theorem wp_region_tail {id : Nat} {Q : Exit → Act → World → Prop} {a : Act} {w : World} {l : List Oper} (n : Nat) (hm : P.follows .mixedOrders = true) (hB : Region.lexTailB .any l.toArray n = true)
   (h : wpQuiet P l.toArray (fun w' => ∃ u, w' = later w u) (fun a' => ∀ w', (∃ u, w' = later w u) → wpList P l.toArray Q (l.drop n) a' w') (l.take n) a) : (Code.region id l.toArray true).wp P Q a w := by
 simp only [Region.lexTailB, Bool.and_eq_true, decide_eq_true_eq] at hB
 obtain ⟨⟨⟨⟨hsel, hn⟩, hs⟩, hc⟩, hlex⟩ := hB
 have hn' : n < l.length := by simpa using hn
 have htl : (l.take n).length = n := by simp; omega
 have hdl : (l.drop n).length = l.toArray.size - n := by simp
 have inv0 : HeadInv .any l.toArray n (Array.replicate l.toArray.size false) :=
   ⟨by simp, fun j oj _ hl => (by rw [getD_replicate_false] at hl; cases hl), fun t _ ht => getD_in (by simpa using ht) (getD_replicate_false _ _)⟩
 have H := headQ_lex (md := .any) (g := l.toArray.size - n) hsel hs hc hn (l.take n) 0 _ a (fun j hj => by
   have hj' : j < n := by rw [htl] at hj; exact hj
   simp [hj']) (by simpa using htl) inv0 (by rw [htl]; exact hlex) h
 refine wp_region_any hm ?_
 have := headQ_any (Q := Q) (g := l.toArray.size - n) (fun listed a' hL w' hw' => by
   have := wpAny_of_seq (md := .any) (Q' := Q) (l.drop n) n listed a' w' (fun j => by simp [List.getElem?_drop]) (by rw [hdl]; exact hL.1) (hL.2 w' hw')
   rwa [hdl] at this) _ _ _ H _ ⟨w.drew, later_of (Below.refl w.heap.size w).drew⟩
 rw [htl, show n + (l.toArray.size - n) = l.toArray.size by omega] at this
 exact this
end
end Go.Proofs.YtbkjcccbjnehbanGreatDoor

namespace Go.Proofs.YtbkjcccbjnehbanGreatDoor
open Go.RowKit
theorem opV_shape (o : Option OpP) : ∃ (s : ByteArray) (a b c : Int), opV o = .agg #[.string s, .int .i64 a, .int .i64 b, .int .i64 c] := by
 cases o with
 | none => exact ⟨_, _, _, _, rfl⟩
 | some o => exact ⟨_, _, _, _, rfl⟩
theorem isO_any {d : Nat} {x : Sg} {r : List Sg} {names : List ByteArray} {k : Int} : isO (some (d, ⟨x :: r, names⟩)) k ⟨#[]⟩ = decide (x.kind = k) := by
 have : (⟨#[]⟩ : ByteArray).toList = [] := by rw [ByteArray.toList_eq]
 simp [isO, this]
theorem cComma_ne : cComma.toList ≠ [] := by rw [ByteArray.toList_eq]; decide
def atomNext : List Sg → Bool
 | x :: _ => decide (x.kind = 1)
 | [] => false
set_option maxHeartbeats 8000000 in
theorem s_infix (g : Nat) (L : List Sg) (lv nv : Value) (d : Nat) (st : St) (w : World) (h : SRd g L lv nv w (some (d, st))) :
   Calls Tryz.prog 42 #[.pointer (some ⟨g, 0, none⟩)] w fun e w' => e = .returned (.tuple #[opV (infixO st.rest), .bool (infixO st.rest).isSome]) ∧ Below w.heap.size w w' := by
 obtain ⟨rest, names⟩ := st
 obtain ⟨W, hW⟩ : ∃ W, W = w.alloc (.cells #[.string ⟨#[]⟩, .int .i64 0, .int .i64 0, .int .i64 0] 72) := ⟨_, rfl⟩
 have bW : Below w.heap.size w W := by rw [hW]; exact (Below.refl _ _).alloc (Nat.le_refl _) _
 have sW : W.heap.size = w.heap.size + 1 := by rw [hW]; simp
 have kW : W.heap[w.heap.size]? = some (.cells #[.string ⟨#[]⟩, .int .i64 0, .int .i64 0, .int .i64 0] 72 (0, 0)) := by rw [hW]; exact heap_alloc_new _ _
 have HS : Hid (SRd g L lv nv W (some (d, ⟨rest, names⟩))) := h.keep bW
 have HM : Hid (Calls Tryz.prog 28 #[.pointer (some ⟨g, 0, none⟩), .int .i64 4, .string ⟨#[44]⟩] W fun e w' => e = .returned (.bool (mk? cComma rest).isSome) ∧ Below W.heap.size W w') := by
   have := s_is g L lv nv _ 4 cComma W HS.out
   rw [isO_mark cComma_ne] at this
   exact this
 have HI : Hid (∀ W', Below W.heap.size W W' → Calls Tryz.prog 28 #[.pointer (some ⟨g, 0, none⟩), .int .i64 1, .string ⟨#[]⟩] W' fun e w' => e = .returned (.bool (atomNext rest)) ∧ Below W'.heap.size W' w') := by
   intro W' hb
   have := s_is g L lv nv _ 1 ⟨#[]⟩ W' (HS.out.keep hb)
   cases rest with
   | nil => exact this
   | cons x r => rw [isO_any] at this; exact this
 have HK : Hid (∀ W', Below W.heap.size W W' → W'.heap[w.heap.size]? = some (.cells #[.string ⟨#[]⟩, .int .i64 0, .int .i64 0, .int .i64 0] 72 (0, 0))) := fun W' hb => (hb.block _ (by omega)).trans kW
 have HBW : Hid (Below w.heap.size w W) := bW
 have HSW : Hid (W.heap.size = w.heap.size + 1) := sW
 clear h bW sW kW
 by_cases hA : (mk? cComma rest).isSome = true
 · have HV : Hid (infixO rest = infixP cComma) := by
     obtain ⟨r', hr'⟩ := Option.isSome_iff_exists.1 hA
     obtain ⟨x, rfl, hx⟩ := mk?_cons hr'
     show _ = _
     simp only [infixO, if_pos hx]
   rw [hA] at HM
   have HP : Hid _ := fun wq => c_infix ⟨#[44]⟩ wq
   clear hA HI HS
   go_enter Tryz.func42, Tryz.ntmps42
   go_wp2_with (first | (go_at_call 28; rw [← hW]; go_loud (refine Calls.mono HM.out ?_); rintro e w1 ⟨rfl, hb⟩; have HB1 : Hid (Below W.heap.size W w1) := hb; clear hb hW) | (go_at_call 66; go_loud (refine Calls.mono (HP.out _) ?_); rintro e w2 ⟨rfl, hb⟩; have HB2 : Hid (Below w1.heap.size w1 w2) := hb; have hk := HK.out w2 (HB1.out.trans (hb.mono HB1.out.size)); obtain ⟨z0, z1, z2, z3, q0, q1, q2, q3⟩ := blk4 hk; clear hb; simp only [opV, infixP]))
   refine bodyPost_ret_by (results_ct2 rfl _ _ w.heap.size 72 _ (0, 0) _ rfl (blk4_set hk) Tryz.underlying72 rfl (by kernel_rfl)) rfl ?_
   have := HSW.out
   refine ⟨by rw [HV.out]; rfl, blk4_below (HBW.out.trans ((HB1.out.trans (HB2.out.mono HB1.out.size)).mono (by omega))) (Nat.le_refl _)⟩
 · have hA' : (mk? cComma rest).isSome = false := by simpa using hA
   rw [hA'] at HM
   have HA : Hid ((mk? cComma rest).isSome = false) := hA'
   clear hA hA'
   rcases rest with _ | ⟨x, r⟩
   · have en : atomNext [] = false := rfl
     rw [en] at HI
     clear HS en
     go_enter Tryz.func42, Tryz.ntmps42
     go_upto_region 3 with (go_at_call 28; rw [← hW]; go_loud (refine Calls.mono HM.out ?_); rintro e w1 ⟨rfl, hb⟩; have HB1 : Hid (Below W.heap.size W w1) := hb; clear hb hW)
     refine wp_region_later (by kernel_rfl) (by kernel_rfl) ?_
     repeat (go_big_quiet_step ((go_at_call 28; exact Calls.later_of_below (HI.out _ (HB1.out.trans ((later_below w1 _).mono HB1.out.size))))))
     refine wpQuiet_nil ?_
     rintro _ ⟨u, rfl⟩
     have HB2 : Hid (Below W.heap.size W (later w1 u)) := HB1.out.trans ((later_below w1 u).mono HB1.out.size)
     generalize later w1 u = w2 at *
     have hk := HK.out w2 HB2.out
     obtain ⟨z0, z1, z2, z3, q0, q1, q2, q3⟩ := blk4 hk
     go_wp2
     refine bodyPost_ret_by (results_ct2 rfl _ _ w.heap.size 72 _ (0, 0) _ rfl (blk4_set hk) Tryz.underlying72 rfl (by kernel_rfl)) rfl ?_
     have := HSW.out
     exact ⟨rfl, blk4_below (HBW.out.trans (HB2.out.mono (by omega))) (Nat.le_refl _)⟩
   · obtain ⟨p, lb, cap, rfl, hp, hd, hnm, hg, hl, hnr, k0, k1, k2, k3, k4, hlg⟩ := HS.out.sign
     obtain ⟨c0, c1, c2, c3, c4, cf⟩ := b5f hg
     obtain ⟨NL, hNL⟩ : ∃ NL, NL = L.length := ⟨_, rfl⟩
     rw [← hNL] at c0 hp
     obtain ⟨xk, xt, xn, xa, xb⟩ := x
     simp only at k0 k1 k2 k3 k4
     have HC : Hid (∀ W', Below W.heap.size W W' → W'.cell? ⟨g, 0, none⟩ = some (.slice (some ⟨lb, 0, none⟩) NL cap) ∧ W'.cell? ⟨g, 1, none⟩ = some (.int .i64 (p : Int)) ∧ W'.cell? ⟨lb, p * 5 + 1, none⟩ = some (.string xt) ∧ W'.cell? ⟨lb, p * 5 + 4, none⟩ = some (.bool xb)) :=
       fun W' hb => ⟨cell_keep c0 hb, cell_keep c1 hb, cell_keep k1 hb, cell_keep k4 hb⟩
     clear hd hnm hg hl hnr k0 k1 k2 k3 k4 hlg c0 c1 c2 c3 c4 cf hNL HS
     by_cases hk1 : xk = 1
     · subst hk1
       have en : atomNext (⟨1, xt, xn, xa, xb⟩ :: r) = true := rfl
       rw [en] at HI
       clear en
       cases xb
       · have HV : Hid (infixO (⟨1, xt, xn, xa, false⟩ :: r) = infixP xt) := by show _ = _; simp [infixO]
         obtain ⟨oo, hoo⟩ : ∃ oo, oo = infixP xt := ⟨_, rfl⟩
         have HP : Hid _ := fun wq => c_infix xt wq
         rw [← hoo] at HP HV
         obtain ⟨os, o1, o2, o3, eo⟩ := opV_shape oo
         have HO : Hid (opV oo = .agg #[.string os, .int .i64 o1, .int .i64 o2, .int .i64 o3]) := eo
         rw [eo] at HP
         obtain ⟨ob, hob⟩ : ∃ ob, ob = oo.isSome := ⟨_, rfl⟩
         have HOB : Hid (ob = oo.isSome) := hob
         rw [← hob] at HP
         clear hoo eo hob
         go_enter Tryz.func42, Tryz.ntmps42
         go_upto_region 3 with (go_at_call 28; rw [← hW]; go_loud (refine Calls.mono HM.out ?_); rintro e w1 ⟨rfl, hb⟩; have HB1 : Hid (Below W.heap.size W w1) := hb; clear hb hW)
         have HL1 : Hid (∀ u, Below W.heap.size W (later w1 u)) := fun u => HB1.out.trans ((later_below w1 u).mono HB1.out.size)
         have y0 := fun u => (HC.out _ (HL1.out u)).1
         have y1 := fun u => (HC.out _ (HL1.out u)).2.1
         have y3 := fun u => (HC.out _ (HL1.out u)).2.2.2
         refine wp_region_later (by kernel_rfl) (by kernel_rfl) ?_
         repeat (go_big_quiet_step ((go_at_call 28; exact Calls.later_of_below (HI.out _ (HL1.out _)))))
         refine wpQuiet_nil ?_
         rintro _ ⟨u, rfl⟩
         have HB2 : Hid (Below W.heap.size W (later w1 u)) := HL1.out u
         clear y0 y1 y3
         generalize later w1 u = w2 at *
         go_upto_region 4 with fail
         have HL2 : Hid (∀ u, Below W.heap.size W (later w2 u)) := fun u => HB2.out.trans ((later_below w2 u).mono HB2.out.size)
         have y0 := fun u => (HC.out _ (HL2.out u)).1
         have y1 := fun u => (HC.out _ (HL2.out u)).2.1
         have y3 := fun u => (HC.out _ (HL2.out u)).2.2.1
         refine wp_region_tail 14 (by kernel_rfl) (by kernel_rfl) ?_
         simp only [List.take_succ_cons, List.take_zero, List.drop_succ_cons, List.drop_zero]
         repeat (go_big_quiet_step ((go_at_call 66; exact Calls.later_of_below (HP.out _))))
         refine wpQuiet_nil ?_
         rintro _ ⟨u, rfl⟩
         have HB3 : Hid (Below W.heap.size W (later w2 u)) := HL2.out u
         clear y0 y1 y3
         generalize later w2 u = w3 at *
         have hk := HK.out w3 HB3.out
         obtain ⟨z0, z1, z2, z3, q0, q1, q2, q3⟩ := blk4 hk
         go_wp2
         refine bodyPost_ret_by (results_ct2 rfl _ _ w.heap.size 72 _ (0, 0) _ rfl (blk4_set hk) Tryz.underlying72 rfl (by kernel_rfl)) rfl ?_
         have := HSW.out
         exact ⟨by rw [HV.out, HO.out, ← HOB.out]; rfl, blk4_below (HBW.out.trans (HB3.out.mono (by omega))) (Nat.le_refl _)⟩
       · have HV : Hid (infixO (⟨1, xt, xn, xa, true⟩ :: r) = none) := by show _ = _; simp [infixO]
         go_enter Tryz.func42, Tryz.ntmps42
         go_upto_region 3 with (go_at_call 28; rw [← hW]; go_loud (refine Calls.mono HM.out ?_); rintro e w1 ⟨rfl, hb⟩; have HB1 : Hid (Below W.heap.size W w1) := hb; clear hb hW)
         have HL1 : Hid (∀ u, Below W.heap.size W (later w1 u)) := fun u => HB1.out.trans ((later_below w1 u).mono HB1.out.size)
         have y0 := fun u => (HC.out _ (HL1.out u)).1
         have y1 := fun u => (HC.out _ (HL1.out u)).2.1
         have y3 := fun u => (HC.out _ (HL1.out u)).2.2.2
         refine wp_region_later (by kernel_rfl) (by kernel_rfl) ?_
         repeat (go_big_quiet_step ((go_at_call 28; exact Calls.later_of_below (HI.out _ (HL1.out _)))))
         refine wpQuiet_nil ?_
         rintro _ ⟨u, rfl⟩
         have HB2 : Hid (Below W.heap.size W (later w1 u)) := HL1.out u
         clear y0 y1 y3
         generalize later w1 u = w2 at *
         have hk := HK.out w2 HB2.out
         obtain ⟨z0, z1, z2, z3, q0, q1, q2, q3⟩ := blk4 hk
         go_wp2
         refine bodyPost_ret_by (results_ct2 rfl _ _ w.heap.size 72 _ (0, 0) _ rfl (blk4_set hk) Tryz.underlying72 rfl (by kernel_rfl)) rfl ?_
         have := HSW.out
         exact ⟨by rw [HV.out]; rfl, blk4_below (HBW.out.trans (HB2.out.mono (by omega))) (Nat.le_refl _)⟩
     · have HV : Hid (infixO (⟨xk, xt, xn, xa, xb⟩ :: r) = none) := by
         show _ = _
         have := HA.out
         simp only [mk?] at this
         by_cases h4 : xk = 4 ∧ xt = cComma
         · rw [if_pos h4] at this; cases this
         · simp only [infixO]
           rw [if_neg h4, if_neg (fun h => hk1 h.1)]
       have en : atomNext (⟨xk, xt, xn, xa, xb⟩ :: r) = false := decide_eq_false hk1
       rw [en] at HI
       clear en HC hp
       go_enter Tryz.func42, Tryz.ntmps42
       go_upto_region 3 with (go_at_call 28; rw [← hW]; go_loud (refine Calls.mono HM.out ?_); rintro e w1 ⟨rfl, hb⟩; have HB1 : Hid (Below W.heap.size W w1) := hb; clear hb hW)
       refine wp_region_later (by kernel_rfl) (by kernel_rfl) ?_
       repeat (go_big_quiet_step ((go_at_call 28; exact Calls.later_of_below (HI.out _ (HB1.out.trans ((later_below w1 _).mono HB1.out.size))))))
       refine wpQuiet_nil ?_
       rintro _ ⟨u, rfl⟩
       have HB2 : Hid (Below W.heap.size W (later w1 u)) := HB1.out.trans ((later_below w1 u).mono HB1.out.size)
       generalize later w1 u = w2 at *
       have hk := HK.out w2 HB2.out
       obtain ⟨z0, z1, z2, z3, q0, q1, q2, q3⟩ := blk4 hk
       go_wp2
       refine bodyPost_ret_by (results_ct2 rfl _ _ w.heap.size 72 _ (0, 0) _ rfl (blk4_set hk) Tryz.underlying72 rfl (by kernel_rfl)) rfl ?_
       have := HSW.out
       exact ⟨by rw [HV.out]; rfl, blk4_below (HBW.out.trans (HB2.out.mono (by omega))) (Nat.le_refl _)⟩
end Go.Proofs.YtbkjcccbjnehbanGreatDoor

namespace Go.Proofs.YtbkjcccbjnehbanGreatDoor
open Go.RowKit
def TermC (f : Nat) (g : Nat) (L : List Sg) (lv : Value) : Prop := ∀ (dd : Nat) (most : Int) (st : St) (nv : Value) (w : World), dd + f = 130 → SRd g L lv nv w (some (dd, st)) →
 Calls Tryz.prog 27 #[.pointer (some ⟨g, 0, none⟩), .int .i64 most] w fun e w' => ∃ v, e = .returned v ∧ TmR g L lv nv w v w' (termO true f most st) dd
theorem SRd.xnew {g : Nat} {L : List Sg} {lv nv : Value} {w : World} {o : Option (Nat × St)} (h : SRd g L lv nv w o) : ∀ k, w.heap.size ≤ k → ¬ XS g nv k := by
 obtain ⟨a, bad, dv, nms, h1, h2, h3, h4⟩ := h.ex
 have hg : g < w.heap.size := (Array.getElem?_eq_some_iff.1 h1).1
 rintro k hk (rfl | e)
 · omega
 · have := (h3.lt k e).2; omega
theorem SRd.turn {g : Nat} {L : List Sg} {lv nv : Value} {w w' : World} {o : Option (Nat × St)} (h : SRd g L lv nv w o) (hb : ∀ k, (k < g ∨ XS g nv k) → w'.heap[k]? = w.heap[k]?) : SRd g L lv nv w' o := by
 obtain ⟨a, bad, dv, nms, h1, h2, h3, h4⟩ := h.ex
 exact ⟨a, bad, dv, nms, (hb g (Or.inr (Or.inl rfl))).trans h1, h2.turn fun k hk => hb k (Or.inl hk), h3.turn fun b e => hb b (Or.inr (Or.inr e)), h4⟩
theorem TmR.fin {g : Nat} {L : List Sg} {lv nv nv' : Value} {w W wz : World} {t : Tm} {F : List Nat} {R : Option (Tm × St)} {d : Nat} {o : Option (Nat × St)} {c0 c1 c2 c3 : Value}
   (hS : SRd g L lv nv w o) (bW : Below w.heap.size w W) (sW : W.heap.size = w.heap.size + 1) (hF : FX (XS g nv) (XS g nv') W wz) (hT : TOk 24 (XS g nv') W.heap.size wz t (.agg #[c0, c1, c2, c3]) F) (hR : ∀ y, R = some y → t = y.1)
   (hZ : SRd g L lv nv' wz (R.map fun y => (d, y.2))) :
   TmR g L lv nv w (.agg #[c0, c1, c2, c3]) ((((wz.setCell ⟨w.heap.size, 0, none⟩ c0).setCell ⟨w.heap.size, 1, none⟩ c1).setCell ⟨w.heap.size, 2, none⟩ c2).setCell ⟨w.heap.size, 3, none⟩ c3) R d := by
 have hx : ¬ XS g nv' w.heap.size := fun hx => (hF.new _ hx).elim (hS.xnew _ (Nat.le_refl _)) (fun h => by omega)
 have hgl := hS.lt
 refine ⟨t, F, nv', ⟨Own.keep t _ F hT.own fun f hf => blk4_other (by have := (hT.out f hf).1; omega), hT.nd, fun f hf => ⟨by have := (hT.out f hf).1; omega, (hT.out f hf).2⟩⟩, hR, ?_, ?_⟩
 · refine hZ.turn fun k hk => blk4_other ?_
   rintro rfl
   rcases hk with hk | hk
   · omega
   · exact hx hk
 · have h1 : FX (XS g nv) (XS g nv') w wz := (FX.of_below bW).trans hF
   exact (((h1.set (Or.inr (Nat.le_refl _)) _).set (Or.inr (Nat.le_refl _)) _).set (Or.inr (Nat.le_refl _)) _).set (Or.inr (Nat.le_refl _)) _
theorem res_keep {g : Nat} {L : List Sg} {lv nv nv' : Value} {w W wz : World} {o : Option (Nat × St)} {x : Obj} (hS : SRd g L lv nv w o) (sW : W.heap.size = w.heap.size + 1) (hF : FX (XS g nv) (XS g nv') W wz) (hk : W.heap[w.heap.size]? = some x) : wz.heap[w.heap.size]? = some x :=
 (hF.block _ (by omega) (hS.xnew _ (Nat.le_refl _))).trans hk
end Go.Proofs.YtbkjcccbjnehbanGreatDoor

namespace Go.Proofs.YtbkjcccbjnehbanGreatDoor
open Go.RowKit
theorem cRpar_ne : (⟨#[41]⟩ : ByteArray).toList ≠ [] := by rw [ByteArray.toList_eq]; decide
theorem toL41 {s : ByteArray} (h : ¬ s = cRpar) : (s.toList == [41]) = false := toL_ne (l := [41]) h
theorem toL41' {s : ByteArray} (h : s = cRpar) : (s.toList == [41]) = true := by subst h; rw [ByteArray.toList_eq]; rfl
theorem s_wants (g : Nat) (L : List Sg) (lv nv : Value) (o : Option (Nat × St)) (l : ByteArray) (w : World) (hL : L.length ≤ 3000) (hl : l.toList ≠ []) (h : SRd g L lv nv w o) :
   Calls Tryz.prog 81 #[.pointer (some ⟨g, 0, none⟩), .string l] w fun e w' => (∃ x, e = .returned x) ∧ SRd g L lv nv w' (markO o l) ∧ FX (XS g nv) (XS g nv) w w' := by
 rcases o with _ | ⟨d, st⟩
 · exact s_wants_no g L lv nv none l w hl h (fun _ _ e => by cases e)
 · cases hr : mk? l st.rest with
   | none =>
     have := s_wants_no g L lv nv _ l w hl h (fun d' st' e => by cases e; exact hr)
     simp only [markO, hr, Option.map_none]
     exact this
   | some r =>
     have := s_wants_yes g L lv nv d st l r w hL hl h hr
     simp only [markO, hr, Option.map_some]
     exact this
def closeO (R : Option (Tm × St)) : Option (Tm × St) := match R with | none => none | some (t, s) => (mk? cRpar s.rest).map fun r' => (t, ⟨r', s.names⟩)
theorem roundO_no {tm : Int → St → Option (Tm × St)} {r : List Sg} {names : List ByteArray} (h : aloneO r = none) : roundO tm r names = closeO (tm 1200 ⟨r, names⟩) := by
 unfold roundO closeO
 rw [h]
 cases tm 1200 ⟨r, names⟩ with
 | none => rfl
 | some y => obtain ⟨t, s⟩ := y; simp only; cases mk? cRpar s.rest <;> rfl
theorem closeO_mark (R : Option (Tm × St)) (e0 : Nat) : markO (R.map fun y => (e0, y.2)) cRpar = (closeO R).map fun y => (e0, y.2) := by
 cases R with
 | none => rfl
 | some y => obtain ⟨t, s⟩ := y; simp only [markO, closeO, Option.map_some]; cases mk? cRpar s.rest <;> rfl
theorem closeO_fst {R : Option (Tm × St)} {y : Tm × St} (h : closeO R = some y) : ∃ z, R = some z ∧ z.1 = y.1 := by
 cases R with
 | none => cases h
 | some z => obtain ⟨t, s⟩ := z; simp only [closeO] at h; obtain ⟨r', _, rfl⟩ := Option.map_eq_some_iff.1 h; exact ⟨_, rfl, rfl⟩
set_option maxHeartbeats 8000000 in
theorem s_round_no (f g : Nat) (L : List Sg) (lv nv : Value) (e0 : Nat) (r : List Sg) (names : List ByteArray) (w : World) (hf : e0 + f = 130) (hL : L.length ≤ 3000) (HT : TermC f g L lv) (h : SRd g L lv nv w (some (e0, ⟨r, names⟩))) (ha : aloneO r = none) :
   Calls Tryz.prog 62 #[.pointer (some ⟨g, 0, none⟩)] w fun e w' => ∃ v, e = .returned v ∧ TmR g L lv nv w v w' (roundO (termO true f) r names) e0 := by
 obtain ⟨W, hW⟩ : ∃ W, W = w.alloc (.cells #[.int .i64 0, .string ⟨#[]⟩, .int .i64 0, .slice none 0 0] 24) := ⟨_, rfl⟩
 have bW : Below w.heap.size w W := by rw [hW]; exact (Below.refl _ _).alloc (Nat.le_refl _) _
 have sW : W.heap.size = w.heap.size + 1 := by rw [hW]; simp
 have kW : W.heap[w.heap.size]? = some (.cells #[.int .i64 0, .string ⟨#[]⟩, .int .i64 0, .slice none 0 0] 24 (0, 0)) := by rw [hW]; exact heap_alloc_new _ _
 have HS0 : Hid (SRd g L lv nv w (some (e0, ⟨r, names⟩))) := h
 have HS : Hid (SRd g L lv nv W (some (e0, ⟨r, names⟩))) := h.keep bW
 have HI : Hid (∀ W', Below W.heap.size W W' → Calls Tryz.prog 28 #[.pointer (some ⟨g, 0, none⟩), .int .i64 1, .string ⟨#[]⟩] W' fun e w' => e = .returned (.bool (atomNext r)) ∧ Below W'.heap.size W' w') := by
   intro W' hb
   have := s_is g L lv nv _ 1 ⟨#[]⟩ W' (HS.out.keep hb)
   cases r with
   | nil => exact this
   | cons x r => rw [isO_any] at this; exact this
 have HKW : Hid (W.heap[w.heap.size]? = some (.cells #[.int .i64 0, .string ⟨#[]⟩, .int .i64 0, .slice none 0 0] 24 (0, 0))) := kW
 have HBW : Hid (Below w.heap.size w W) := bW
 have HSW : Hid (W.heap.size = w.heap.size + 1) := sW
 have HTT : Hid (∀ W', Below W.heap.size W W' → Calls Tryz.prog 27 #[.pointer (some ⟨g, 0, none⟩), .int .i64 1200] W' fun e w' => ∃ v, e = .returned v ∧ TmR g L lv nv W' v w' (termO true f 1200 ⟨r, names⟩) e0) := fun W' hb => HT e0 1200 _ nv W' hf (HS.out.keep hb)
 obtain ⟨R1, hR1⟩ : ∃ R1, R1 = termO true f 1200 ⟨r, names⟩ := ⟨_, rfl⟩
 rw [← hR1] at HTT
 rw [roundO_no ha, ← hR1]
 have HWW : Hid (∀ nv' W', SRd g L lv nv' W' (R1.map fun y => (e0, y.2)) → Calls Tryz.prog 81 #[.pointer (some ⟨g, 0, none⟩), .string ⟨#[41]⟩] W' fun e w' => (∃ x, e = .returned x) ∧ SRd g L lv nv' w' ((closeO R1).map fun y => (e0, y.2)) ∧ FX (XS g nv') (XS g nv') W' w') :=
   fun nv' W' hs => closeO_mark R1 e0 ▸ s_wants g L lv nv' _ _ W' hL cRpar_ne hs
 have HG : Hid (atomNext r = false ∨ ∃ (p lb cap NL : Nat), lv = .slice (some ⟨lb, 0, none⟩) NL cap ∧ (p : Int) ≤ 3000 ∧ p < NL ∧ (∀ W', Below W.heap.size W W' → W'.cell? ⟨g, 0, none⟩ = some (.slice (some ⟨lb, 0, none⟩) NL cap) ∧ W'.cell? ⟨g, 1, none⟩ = some (.int .i64 (p : Int))) ∧ atomNext r = true ∧
     ((p + 1 = NL) ∨ ∃ (q : Nat) (uk : Int) (ut : ByteArray), p + 1 = q ∧ q < NL ∧ (∀ W', Below W.heap.size W W' → W'.cell? ⟨lb, q * 5, none⟩ = some (.int .i64 uk) ∧ W'.cell? ⟨lb, q * 5 + 1, none⟩ = some (.string ut)) ∧ (uk ≠ 4 ∨ (uk = 4 ∧ (ut.toList == [41]) = false)))) := by
   rcases r with _ | ⟨x, _ | ⟨u, r⟩⟩
   · exact Or.inl rfl
   · by_cases hk : x.kind = 1
     · right
       obtain ⟨p, lb, cap, e, hp, hd, hnm, hg, _⟩ := HS.out.sign
       obtain ⟨c0, c1, _⟩ := b5f hg
       rw [e] at c0
       refine ⟨p, lb, cap, L.length, e, by omega, hp, fun W' hb => ⟨cell_keep c0 hb, cell_keep c1 hb⟩, decide_eq_true hk, Or.inl ?_⟩
       have := congrArg List.length hd
       simp at this; omega
     · exact Or.inl (decide_eq_false hk)
   · by_cases hk : x.kind = 1
     · right
       obtain ⟨p, q, lb, cap, hq, e, hqL, _, _, _, hg, _, _, k0, k1, k2, k3, k4, m0, m1, m2, m3, m4, _⟩ := HS.out.sign2
       obtain ⟨c0, c1, _⟩ := b5f hg
       rw [e] at c0
       refine ⟨p, lb, cap, L.length, e, by omega, by omega, fun W' hb => ⟨cell_keep c0 hb, cell_keep c1 hb⟩, decide_eq_true hk, Or.inr ⟨q, u.kind, u.text, hq.symm, hqL, fun W' hb => ⟨cell_keep m0 hb, cell_keep m1 hb⟩, ?_⟩⟩
       by_cases hu : u.kind = 4
       · refine Or.inr ⟨hu, toL41 fun ht => ?_⟩
         simp [aloneO, hk, hu, ht] at ha
       · exact Or.inl hu
     · exact Or.inl (decide_eq_false hk)
 clear h bW sW kW hR1 ha hL HT HS
 go_enter Tryz.func62, Tryz.ntmps62
 go_upto_region 1 with fail
 rw [← hW]
 clear hW
 have HL0 : Hid (∀ u, Below W.heap.size W (later W u)) := fun u => later_below W u
 rcases HG.out with hat | ⟨p, lb, cap, NL, rfl, hp3, hpN, hc, hat, hpe | ⟨q, uk, ut, hq, hqN, hu, huk | ⟨huk, hut⟩⟩⟩
 · rw [hat] at HI
   clear hat HG
   refine wp_region_later (by kernel_rfl) (by kernel_rfl) ?_
   repeat (go_big_quiet_step ((go_at_call 28; exact Calls.later_of_below (HI.out _ (HL0.out _)))))
   refine wpQuiet_nil ?_
   rintro _ ⟨u2, rfl⟩
   have HB2 : Hid (Below W.heap.size W (later W u2)) := HL0.out u2
   generalize later W u2 = w2 at *
   go_wp2_with (first
     | (go_at_call 27; go_loud (refine Calls.mono (HTT.out _ HB2.out) ?_); rintro e w3 ⟨v, rfl, t, F, nv', ht, hR, hs, hx⟩; have HT3 : Hid (TOk 24 (XS g nv') w2.heap.size w3 t v F) := ht; have HR3 : Hid (∀ y, R1 = some y → t = y.1) := hR; have HS3 : Hid (SRd g _ _ nv' w3 (R1.map fun y => (e0, y.2))) := hs; have HX3 : Hid (FX (XS g nv) (XS g nv') w2 w3) := hx; obtain ⟨k1, s1, n1, ao1, ln1, cp1, rfl⟩ := ht.form; clear ht hR hs hx)
     | (go_at_call 81; go_loud (refine Calls.mono (HWW.out nv' _ (HS3.out.keep ((Below.refl _ _).alloc (Nat.le_refl _) _))) ?_); rintro e w5 ⟨⟨x5, rfl⟩, hs5, hx5⟩; have HS5 : Hid (SRd g _ _ nv' w5 ((closeO R1).map fun y => (e0, y.2))) := hs5; have HX5 : Hid (FX (XS g nv') (XS g nv') (w3.alloc (.cells #[.int .i64 k1, .string s1, .int .i64 n1, .slice ao1 ln1 cp1] 24)) w5) := hx5;
        have HXT : Hid (FX (XS g nv) (XS g nv') W w5) := ((FX.of_below HB2.out).trans (HX3.out.alloc _)).trans hx5;
        have hk3 := (hx5.block w3.heap.size (by simp) (HS3.out.xnew _ (Nat.le_refl _))).trans (heap_alloc_new _ _); obtain ⟨a0, a1, a2, a3, _⟩ := blk4 hk3;
        have hk := res_keep HS0.out HSW.out HXT.out HKW.out; obtain ⟨z0, z1, z2, z3, q0, q1, q2, q3⟩ := blk4 hk; clear hs5 hx5 hk3))
   refine bodyPost_ret_by (results_cell_row rfl _ _ w.heap.size 24 _ (0, 0) _ rfl (blk4_set hk) Tryz.underlying24 rfl (by kernel_rfl)) rfl ?_
   refine ⟨_, rfl, TmR.fin HS0.out HBW.out HSW.out HXT.out (((HT3.out.step (FX.of_below ((Below.refl _ _).alloc (Nat.le_refl _) _))).step HX5.out).lo_le HB2.out.size) ?_ HS5.out⟩
   intro y hy
   obtain ⟨z, hz, e⟩ := closeO_fst hy
   rw [← e]; exact HR3.out z hz
 · rw [hat] at HI
   have hpn : (p : Int) + 1 = (NL : Int) := by omega
   have d1 : decide ((NL : Int) < (NL : Int)) = false := decide_eq_false (by omega)
   have y0 := fun u => (hc _ (HL0.out u)).1
   have y1 := fun u => (hc _ (HL0.out u)).2
   clear hat HG hc hpe
   refine wp_region_later (by kernel_rfl) (by kernel_rfl) ?_
   repeat (go_big_quiet_step ((go_at_call 28; exact Calls.later_of_below (HI.out _ (HL0.out _)))))
   refine wpQuiet_nil ?_
   rintro _ ⟨u2, rfl⟩
   have HB2 : Hid (Below W.heap.size W (later W u2)) := HL0.out u2
   clear y0 y1
   generalize later W u2 = w2 at *
   go_wp2_with (first
     | (go_at_call 27; go_loud (refine Calls.mono (HTT.out _ HB2.out) ?_); rintro e w3 ⟨v, rfl, t, F, nv', ht, hR, hs, hx⟩; have HT3 : Hid (TOk 24 (XS g nv') w2.heap.size w3 t v F) := ht; have HR3 : Hid (∀ y, R1 = some y → t = y.1) := hR; have HS3 : Hid (SRd g _ _ nv' w3 (R1.map fun y => (e0, y.2))) := hs; have HX3 : Hid (FX (XS g nv) (XS g nv') w2 w3) := hx; obtain ⟨k1, s1, n1, ao1, ln1, cp1, rfl⟩ := ht.form; clear ht hR hs hx)
     | (go_at_call 81; go_loud (refine Calls.mono (HWW.out nv' _ (HS3.out.keep ((Below.refl _ _).alloc (Nat.le_refl _) _))) ?_); rintro e w5 ⟨⟨x5, rfl⟩, hs5, hx5⟩; have HS5 : Hid (SRd g _ _ nv' w5 ((closeO R1).map fun y => (e0, y.2))) := hs5; have HX5 : Hid (FX (XS g nv') (XS g nv') (w3.alloc (.cells #[.int .i64 k1, .string s1, .int .i64 n1, .slice ao1 ln1 cp1] 24)) w5) := hx5;
        have HXT : Hid (FX (XS g nv) (XS g nv') W w5) := ((FX.of_below HB2.out).trans (HX3.out.alloc _)).trans hx5;
        have hk3 := (hx5.block w3.heap.size (by simp) (HS3.out.xnew _ (Nat.le_refl _))).trans (heap_alloc_new _ _); obtain ⟨a0, a1, a2, a3, _⟩ := blk4 hk3;
        have hk := res_keep HS0.out HSW.out HXT.out HKW.out; obtain ⟨z0, z1, z2, z3, q0, q1, q2, q3⟩ := blk4 hk; clear hs5 hx5 hk3))
   refine bodyPost_ret_by (results_cell_row rfl _ _ w.heap.size 24 _ (0, 0) _ rfl (blk4_set hk) Tryz.underlying24 rfl (by kernel_rfl)) rfl ?_
   refine ⟨_, rfl, TmR.fin HS0.out HBW.out HSW.out HXT.out (((HT3.out.step (FX.of_below ((Below.refl _ _).alloc (Nat.le_refl _) _))).step HX5.out).lo_le HB2.out.size) ?_ HS5.out⟩
   intro y hy
   obtain ⟨z, hz, e⟩ := closeO_fst hy
   rw [← e]; exact HR3.out z hz
 · rw [hat] at HI
   have hsum : (p : Int) + 1 = (q : Int) := by omega
   have d1 : decide ((q : Int) < (NL : Int)) = true := decide_eq_true (by omega)
   have d1' : decide (q < NL) = true := decide_eq_true hqN
   have huk2 : (uk == 4) = false := by simpa using huk
   have y0 := fun u => (hc _ (HL0.out u)).1
   have y1 := fun u => (hc _ (HL0.out u)).2
   have y2 := fun u => (hu _ (HL0.out u)).1
   have y3 := fun u => (hu _ (HL0.out u)).2
   clear hat HG hc hu hq
   refine wp_region_later (by kernel_rfl) (by kernel_rfl) ?_
   repeat (go_big_quiet_step ((go_at_call 28; exact Calls.later_of_below (HI.out _ (HL0.out _)))))
   refine wpQuiet_nil ?_
   rintro _ ⟨u2, rfl⟩
   have HB2 : Hid (Below W.heap.size W (later W u2)) := HL0.out u2
   clear y0 y1 y2 y3
   generalize later W u2 = w2 at *
   go_wp2_with (first
     | (go_at_call 27; go_loud (refine Calls.mono (HTT.out _ HB2.out) ?_); rintro e w3 ⟨v, rfl, t, F, nv', ht, hR, hs, hx⟩; have HT3 : Hid (TOk 24 (XS g nv') w2.heap.size w3 t v F) := ht; have HR3 : Hid (∀ y, R1 = some y → t = y.1) := hR; have HS3 : Hid (SRd g _ _ nv' w3 (R1.map fun y => (e0, y.2))) := hs; have HX3 : Hid (FX (XS g nv) (XS g nv') w2 w3) := hx; obtain ⟨k1, s1, n1, ao1, ln1, cp1, rfl⟩ := ht.form; clear ht hR hs hx)
     | (go_at_call 81; go_loud (refine Calls.mono (HWW.out nv' _ (HS3.out.keep ((Below.refl _ _).alloc (Nat.le_refl _) _))) ?_); rintro e w5 ⟨⟨x5, rfl⟩, hs5, hx5⟩; have HS5 : Hid (SRd g _ _ nv' w5 ((closeO R1).map fun y => (e0, y.2))) := hs5; have HX5 : Hid (FX (XS g nv') (XS g nv') (w3.alloc (.cells #[.int .i64 k1, .string s1, .int .i64 n1, .slice ao1 ln1 cp1] 24)) w5) := hx5;
        have HXT : Hid (FX (XS g nv) (XS g nv') W w5) := ((FX.of_below HB2.out).trans (HX3.out.alloc _)).trans hx5;
        have hk3 := (hx5.block w3.heap.size (by simp) (HS3.out.xnew _ (Nat.le_refl _))).trans (heap_alloc_new _ _); obtain ⟨a0, a1, a2, a3, _⟩ := blk4 hk3;
        have hk := res_keep HS0.out HSW.out HXT.out HKW.out; obtain ⟨z0, z1, z2, z3, q0, q1, q2, q3⟩ := blk4 hk; clear hs5 hx5 hk3))
   refine bodyPost_ret_by (results_cell_row rfl _ _ w.heap.size 24 _ (0, 0) _ rfl (blk4_set hk) Tryz.underlying24 rfl (by kernel_rfl)) rfl ?_
   refine ⟨_, rfl, TmR.fin HS0.out HBW.out HSW.out HXT.out (((HT3.out.step (FX.of_below ((Below.refl _ _).alloc (Nat.le_refl _) _))).step HX5.out).lo_le HB2.out.size) ?_ HS5.out⟩
   intro y hy
   obtain ⟨z, hz, e⟩ := closeO_fst hy
   rw [← e]; exact HR3.out z hz
 · rw [hat] at HI
   have hsum : (p : Int) + 1 = (q : Int) := by omega
   have d1 : decide ((q : Int) < (NL : Int)) = true := decide_eq_true (by omega)
   have d1' : decide (q < NL) = true := decide_eq_true hqN
   subst huk
   have y0 := fun u => (hc _ (HL0.out u)).1
   have y1 := fun u => (hc _ (HL0.out u)).2
   have y2 := fun u => (hu _ (HL0.out u)).1
   have y3 := fun u => (hu _ (HL0.out u)).2
   clear hat HG hc hu hq
   refine wp_region_later (by kernel_rfl) (by kernel_rfl) ?_
   repeat (go_big_quiet_step ((go_at_call 28; exact Calls.later_of_below (HI.out _ (HL0.out _)))))
   refine wpQuiet_nil ?_
   rintro _ ⟨u2, rfl⟩
   have HB2 : Hid (Below W.heap.size W (later W u2)) := HL0.out u2
   clear y0 y1 y2 y3
   generalize later W u2 = w2 at *
   go_wp2_with (first
     | (go_at_call 27; go_loud (refine Calls.mono (HTT.out _ HB2.out) ?_); rintro e w3 ⟨v, rfl, t, F, nv', ht, hR, hs, hx⟩; have HT3 : Hid (TOk 24 (XS g nv') w2.heap.size w3 t v F) := ht; have HR3 : Hid (∀ y, R1 = some y → t = y.1) := hR; have HS3 : Hid (SRd g _ _ nv' w3 (R1.map fun y => (e0, y.2))) := hs; have HX3 : Hid (FX (XS g nv) (XS g nv') w2 w3) := hx; obtain ⟨k1, s1, n1, ao1, ln1, cp1, rfl⟩ := ht.form; clear ht hR hs hx)
     | (go_at_call 81; go_loud (refine Calls.mono (HWW.out nv' _ (HS3.out.keep ((Below.refl _ _).alloc (Nat.le_refl _) _))) ?_); rintro e w5 ⟨⟨x5, rfl⟩, hs5, hx5⟩; have HS5 : Hid (SRd g _ _ nv' w5 ((closeO R1).map fun y => (e0, y.2))) := hs5; have HX5 : Hid (FX (XS g nv') (XS g nv') (w3.alloc (.cells #[.int .i64 k1, .string s1, .int .i64 n1, .slice ao1 ln1 cp1] 24)) w5) := hx5;
        have HXT : Hid (FX (XS g nv) (XS g nv') W w5) := ((FX.of_below HB2.out).trans (HX3.out.alloc _)).trans hx5;
        have hk3 := (hx5.block w3.heap.size (by simp) (HS3.out.xnew _ (Nat.le_refl _))).trans (heap_alloc_new _ _); obtain ⟨a0, a1, a2, a3, _⟩ := blk4 hk3;
        have hk := res_keep HS0.out HSW.out HXT.out HKW.out; obtain ⟨z0, z1, z2, z3, q0, q1, q2, q3⟩ := blk4 hk; clear hs5 hx5 hk3))
   refine bodyPost_ret_by (results_cell_row rfl _ _ w.heap.size 24 _ (0, 0) _ rfl (blk4_set hk) Tryz.underlying24 rfl (by kernel_rfl)) rfl ?_
   refine ⟨_, rfl, TmR.fin HS0.out HBW.out HSW.out HXT.out (((HT3.out.step (FX.of_below ((Below.refl _ _).alloc (Nat.le_refl _) _))).step HX5.out).lo_le HB2.out.size) ?_ HS5.out⟩
   intro y hy
   obtain ⟨z, hz, e⟩ := closeO_fst hy
   rw [← e]; exact HR3.out z hz
end Go.Proofs.YtbkjcccbjnehbanGreatDoor

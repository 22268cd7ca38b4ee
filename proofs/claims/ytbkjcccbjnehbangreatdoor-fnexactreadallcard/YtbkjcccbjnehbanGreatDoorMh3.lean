import Derived.Test.YtbkjcccbjnehbanGreatDoorMh2
import Derived.Maps.AppendAt
namespace Go.Proofs.YtbkjcccbjnehbanGreatDoor
open Go.RowKit
theorem blk4 {w : World} {g : Nat} {c0 c1 c2 c3 : Value} {T : TypeId} (h : w.heap[g]? = some (.cells #[c0, c1, c2, c3] T (0, 0))) :
   w.cell? ⟨g, 0, none⟩ = some c0 ∧ w.cell? ⟨g, 1, none⟩ = some c1 ∧ w.cell? ⟨g, 2, none⟩ = some c2 ∧ w.cell? ⟨g, 3, none⟩ = some c3 ∧ w.frozen? ⟨g, 0, none⟩ = false ∧ w.frozen? ⟨g, 1, none⟩ = false ∧ w.frozen? ⟨g, 2, none⟩ = false ∧ w.frozen? ⟨g, 3, none⟩ = false :=
 ⟨blk_cell (i := 0) h (by simp), blk_cell (i := 1) h (by simp), blk_cell (i := 2) h (by simp), blk_cell (i := 3) h (by simp), blk_frozen h 0, blk_frozen h 1, blk_frozen h 2, blk_frozen h 3⟩
theorem blk4_set {w : World} {g : Nat} {c0 c1 c2 c3 d0 d1 d2 d3 : Value} {T : TypeId} (h : w.heap[g]? = some (.cells #[c0, c1, c2, c3] T (0, 0))) :
   ((((w.setCell ⟨g, 0, none⟩ d0).setCell ⟨g, 1, none⟩ d1).setCell ⟨g, 2, none⟩ d2).setCell ⟨g, 3, none⟩ d3).heap[g]? = some (.cells #[d0, d1, d2, d3] T (0, 0)) := by
 have := blk_set (i := 3) (blk_set (i := 2) (blk_set (i := 1) (blk_set (i := 0) h d0) d1) d2) d3
 simpa using this
theorem blk4_other {w : World} {g f : Nat} {d0 d1 d2 d3 : Value} (h : f ≠ g) :
   ((((w.setCell ⟨g, 0, none⟩ d0).setCell ⟨g, 1, none⟩ d1).setCell ⟨g, 2, none⟩ d2).setCell ⟨g, 3, none⟩ d3).heap[f]? = w.heap[f]? := by
 rw [blk_other _ h, blk_other _ h, blk_other _ h, blk_other _ h]
theorem blk4_below {B : Nat} {w w' : World} {g : Nat} {d0 d1 d2 d3 : Value} (hb : Below B w w') (hg : B ≤ g) :
   Below B w ((((w'.setCell ⟨g, 0, none⟩ d0).setCell ⟨g, 1, none⟩ d1).setCell ⟨g, 2, none⟩ d2).setCell ⟨g, 3, none⟩ d3) :=
 below_set (below_set (below_set (below_set hb hg _) hg _) hg _) hg _
end Go.Proofs.YtbkjcccbjnehbanGreatDoor

namespace Go.Proofs.YtbkjcccbjnehbanGreatDoor
open Go.RowKit
theorem wr1 {p : Nat} (h : p ≤ 100000) : wrap64 ((p : Int) + 1) = ((p + 1 : Nat) : Int) := by unfold wrap64; omega
theorem set_at5 {w : World} {g i : Nat} {cur : Array Value} {T : TypeId} {fr : Nat × Nat} (h : w.heap[g]? = some (.cells cur T fr)) (v : Value) : (w.setCell ⟨g, i, none⟩ v).heap[g]? = some (.cells (cur.setIfInBounds i v) T fr) := by
 simp [World.setCell, Array.getElem?_modify, h]
theorem set_oth5 {w : World} {g i f : Nat} (v : Value) (hf : f ≠ g) : (w.setCell ⟨g, i, none⟩ v).heap[f]? = w.heap[f]? := by
 simp [World.setCell, Array.getElem?_modify, Ne.symm hf]
theorem SRd.mk' {g : Nat} {L : List Sg} {lv nv : Value} {w w' : World} {o : Option (Nat × St)} {a' dv' : Int} {bad' : Bool} {nms : List ByteArray}
   (hg' : w'.heap[g]? = some (.cells #[lv, .int .i64 a', .bool bad', .int .i64 dv', nv] 52 (0, 0))) (hl : LIn w g L lv) (hn : NRow w (g + 1) nms nv) (hb : ∀ k, k ≠ g → w'.heap[k]? = w.heap[k]?)
   (ho : match (generalizing := false) o with | none => bad' = true | some (d, st) => bad' = false ∧ dv' = (d : Int) ∧ nms = st.names ∧ ∃ p : Nat, a' = (p : Int) ∧ p ≤ L.length ∧ L.drop p = st.rest ∧ nms.length ≤ p) : SRd g L lv nv w' o :=
 ⟨a', bad', dv', nms, hg', hl.turn fun k hk => hb k (by omega), hn.turn fun b e => hb b (by have := (hn.lt b e).1; omega), ho⟩
theorem FX.set_g {g : Nat} {nv : Value} {w : World} {i : Nat} (v : Value) : FX (XS g nv) (XS g nv) w (w.setCell ⟨g, i, none⟩ v) := (FX.refl _ _).set (Or.inl (Or.inl rfl)) v
theorem SRd.lt {g : Nat} {L : List Sg} {lv nv : Value} {w : World} {o : Option (Nat × St)} (h : SRd g L lv nv w o) : g < w.heap.size := by
 obtain ⟨a, bad, dv, nms, h1, _⟩ := h.ex
 exact (Array.getElem?_eq_some_iff.1 h1).1
theorem SRd.go {g : Nat} {L : List Sg} {lv nv : Value} {w : World} {d : Nat} {names : List ByteArray} {p : Nat} (n : Nat) {z : Int} {r : List Sg}
   (hg : w.heap[g]? = some (.cells #[lv, .int .i64 (p : Int), .bool false, .int .i64 (d : Int), nv] 52 (0, 0))) (hl : LIn w g L lv) (hn : NRow w (g + 1) names nv) (hp : p + n ≤ L.length) (hr : L.drop (p + n) = r) (hm : names.length ≤ p) (hz : z = ((p + n : Nat) : Int)) :
   SRd g L lv nv (w.setCell ⟨g, 1, none⟩ (.int .i64 z)) (some (d, ⟨r, names⟩)) := by
 subst hz
 refine SRd.mk' (w := w) (bad' := false) (a' := ((p + n : Nat) : Int)) (dv' := (d : Int)) (nms := names) ?_ hl hn (fun k hk => set_oth5 _ hk) ⟨rfl, rfl, rfl, p + n, rfl, hp, hr, by omega⟩
 have := set_at5 (i := 1) hg (.int .i64 ((p + n : Nat) : Int))
 simpa using this
theorem SRd.fall {g : Nat} {L : List Sg} {lv nv : Value} {w : World} {o : Option (Nat × St)} (h : SRd g L lv nv w o) : SRd g L lv nv (w.setCell ⟨g, 2, none⟩ (.bool true)) none := by
 obtain ⟨a, bad, dv, nms, h1, h2, h3, h4⟩ := h.ex
 refine SRd.mk' (w := w) (bad' := true) (a' := a) (dv' := dv) (nms := nms) ?_ h2 h3 (fun k hk => set_oth5 _ hk) rfl
 have := set_at5 (i := 2) h1 (.bool true)
 simpa using this
theorem toL_inj {a b : ByteArray} (h : a.toList = b.toList) : a = b := by
 rw [ByteArray.toList_eq, ByteArray.toList_eq] at h
 obtain ⟨⟨a⟩⟩ := a
 obtain ⟨⟨b⟩⟩ := b
 simp at h
 subst h; rfl
theorem isO_mark {d : Nat} {st : St} {l : ByteArray} (hl : l.toList ≠ []) : isO (some (d, st)) 4 l = (mk? l st.rest).isSome := by
 obtain ⟨rest, names⟩ := st
 cases rest with
 | nil => rfl
 | cons x r =>
   simp only [isO, mk?]
   have e : (x.text.toList = l.toList) ↔ x.text = l := ⟨toL_inj, fun h => by rw [h]⟩
   by_cases h1 : x.kind = 4 <;> by_cases h2 : x.text = l <;> simp [h1, h2, e, hl]
def markO (o : Option (Nat × St)) (l : ByteArray) : Option (Nat × St) :=
 match o with
 | none => none
 | some (d, st) => (mk? l st.rest).map fun r => (d, ⟨r, st.names⟩)
set_option maxHeartbeats 2000000 in
theorem s_mark_yes (g : Nat) (L : List Sg) (lv nv : Value) (d : Nat) (st : St) (l : ByteArray) (r : List Sg) (w : World) (hL : L.length ≤ 3000) (hl : l.toList ≠ []) (h : SRd g L lv nv w (some (d, st))) (hr : mk? l st.rest = some r) :
   Calls Tryz.prog 61 #[.pointer (some ⟨g, 0, none⟩), .string l] w fun e w' => e = .returned (.bool true) ∧ SRd g L lv nv w' (some (d, ⟨r, st.names⟩)) ∧ FX (XS g nv) (XS g nv) w w' := by
 have HI := s_is g L lv nv (some (d, st)) 4 l w h
 rw [isO_mark hl, hr] at HI
 have HS : Hid (SRd g L lv nv w (some (d, st))) := h
 have HL : Hid (L.length ≤ 3000) := hL
 have HR : Hid (mk? l st.rest = some r) := hr
 clear h hr hl hL
 go_enter Tryz.func61, Tryz.ntmps61
 go_upto_region 2 with (go_at_call 28; refine HI.mono ?_; rintro e w1 ⟨rfl, hb⟩)
 have H1 := HS.out.keep hb
 obtain ⟨x, hx, _⟩ := mk?_cons HR.out
 obtain ⟨rest, names⟩ := st
 simp only at hx
 subst hx
 obtain ⟨p, lb, cap, rfl, hp, hd, hnm, hg, hln, hnr, _⟩ := H1.sign
 obtain ⟨c0, c1, c2, c3, c4, cf⟩ := b5f hg
 have HG : Hid (∃ L', L' = L ∧ w1.heap[g]? = some (.cells #[.slice (some ⟨lb, 0, none⟩) L'.length cap, .int .i64 (p : Int), .bool false, .int .i64 (d : Int), nv] 52 (0, 0)) ∧ LIn w1 g L' (.slice (some ⟨lb, 0, none⟩) L'.length cap) ∧ NRow w1 (g + 1) names nv ∧ p < L'.length ∧ L'.drop (p + 1) = r ∧ names.length ≤ p) := ⟨L, rfl, hg, hln, hnr, hp, hd, hnm⟩
 have HB : Hid (Below w.heap.size w w1) := hb
 have f1 := cf 1
 clear hb H1 hg hln hnr hp hd hnm c0 c2 c3 c4 cf HI HR HS
 go_wp2
 go_ret
 obtain ⟨L', rfl, hg, hln, hnr, hp, hd, hnm⟩ := HG.out
 have := HL.out
 refine ⟨rfl, ?_, ?_⟩
 · exact SRd.go 1 hg hln hnr (by omega) hd hnm (wr1 (by omega))
 · exact (FX.of_below HB.out).trans (FX.set_g _)
set_option maxHeartbeats 2000000 in
theorem s_mark_no (g : Nat) (L : List Sg) (lv nv : Value) (o : Option (Nat × St)) (l : ByteArray) (w : World) (hl : l.toList ≠ []) (h : SRd g L lv nv w o) (hr : ∀ d st, o = some (d, st) → mk? l st.rest = none) :
   Calls Tryz.prog 61 #[.pointer (some ⟨g, 0, none⟩), .string l] w fun e w' => e = .returned (.bool false) ∧ Below w.heap.size w w' := by
 have HI := s_is g L lv nv o 4 l w h
 have e : isO o 4 l = false := by
   rcases o with _ | ⟨d, st⟩
   · rfl
   · rw [isO_mark hl, hr d st rfl]; rfl
 rw [e] at HI
 clear h hr hl e
 go_enter Tryz.func61, Tryz.ntmps61
 go_wp2_with (go_at_call 28; refine HI.mono ?_; rintro e w1 ⟨rfl, hb⟩)
 go_ret
 exact ⟨rfl, hb⟩
set_option maxHeartbeats 2000000 in
theorem s_wants_yes (g : Nat) (L : List Sg) (lv nv : Value) (d : Nat) (st : St) (l : ByteArray) (r : List Sg) (w : World) (hL : L.length ≤ 3000) (hl : l.toList ≠ []) (h : SRd g L lv nv w (some (d, st))) (hr : mk? l st.rest = some r) :
   Calls Tryz.prog 81 #[.pointer (some ⟨g, 0, none⟩), .string l] w fun e w' => (∃ x, e = .returned x) ∧ SRd g L lv nv w' (some (d, ⟨r, st.names⟩)) ∧ FX (XS g nv) (XS g nv) w w' := by
 have HI := s_mark_yes g L lv nv d st l r w hL hl h hr
 clear h hr hl hL
 go_enter Tryz.func81, Tryz.ntmps81
 go_wp2_with (go_at_call 61; refine HI.mono ?_; rintro e w1 ⟨rfl, hs, hb⟩)
 refine bodyPost_end (results_none rfl _ _ _) rfl ?_
 exact ⟨⟨_, rfl⟩, hs, hb⟩
set_option maxHeartbeats 2000000 in
theorem s_wants_no (g : Nat) (L : List Sg) (lv nv : Value) (o : Option (Nat × St)) (l : ByteArray) (w : World) (hl : l.toList ≠ []) (h : SRd g L lv nv w o) (hr : ∀ d st, o = some (d, st) → mk? l st.rest = none) :
   Calls Tryz.prog 81 #[.pointer (some ⟨g, 0, none⟩), .string l] w fun e w' => (∃ x, e = .returned x) ∧ SRd g L lv nv w' none ∧ FX (XS g nv) (XS g nv) w w' := by
 have HI := s_mark_no g L lv nv o l w hl h hr
 have HS : Hid (SRd g L lv nv w o) := h
 clear h hr hl
 go_enter Tryz.func81, Tryz.ntmps81
 go_upto_region 1 with (go_at_call 61; refine HI.mono ?_; rintro e w1 ⟨rfl, hb⟩)
 have H1 : Hid (SRd g L lv nv w1 o) := HS.out.keep hb
 obtain ⟨a, bad, dv, nms, h1, _⟩ := H1.out.ex
 obtain ⟨c0, c1, c2, c3, c4, cf⟩ := b5f h1
 have f2 := cf 2
 have HB : Hid (Below w.heap.size w w1) := hb
 clear h1 cf c0 c1 c3 c4 hb HI HS
 go_wp2
 refine bodyPost_end (results_none rfl _ _ _) rfl ?_
 exact ⟨⟨_, rfl⟩, H1.out.fall, (FX.of_below HB.out).trans (FX.set_g _)⟩
set_option maxHeartbeats 1000000 in
theorem s_atom (X : Nat → Prop) (s : ByteArray) (w : World) (hs : s.size ≤ maxLen) :
   Calls Tryz.prog 80 #[.string s] w fun e w' => ∃ v, e = .returned v ∧ TOk 24 X w.heap.size w' (atomTm s) v [] ∧ Below w.heap.size w w' := by
 go_enter Tryz.func80, Tryz.ntmps80
 go_wp2
 refine bodyPost_ret_by (results_cell_row rfl _ _ w.heap.size 24 _ (0, 0) _ rfl (heap_alloc_new _ _) Tryz.underlying24 rfl (by kernel_rfl)) rfl ?_
 exact ⟨_, rfl, TOk.leaf (by decide) (by decide) hs, (Below.refl _ _).alloc (Nat.le_refl _) _⟩
set_option maxHeartbeats 1000000 in
theorem s_num (X : Nat → Prop) (n : Int) (w : World) (hn : -9223372036854775808 ≤ n ∧ n ≤ 9223372036854775807) :
   Calls Tryz.prog 64 #[.int .i64 n] w fun e w' => ∃ v, e = .returned v ∧ TOk 24 X w.heap.size w' (intTm n) v [] ∧ Below w.heap.size w w' := by
 have HN : Hid (-9223372036854775808 ≤ n ∧ n ≤ 9223372036854775807) := hn
 clear hn
 go_enter Tryz.func64, Tryz.ntmps64
 go_wp2
 refine bodyPost_ret_by (results_cell_row rfl _ _ w.heap.size 24 _ (0, 0) _ rfl (heap_alloc_new _ _) Tryz.underlying24 rfl (by kernel_rfl)) rfl ?_
 exact ⟨_, rfl, TOk.leaf (by decide) HN.out (by decide), (Below.refl _ _).alloc (Nat.le_refl _) _⟩
set_option maxHeartbeats 1000000 in
theorem s_var (X : Nat → Prop) (n : Nat) (w : World) (hn : n ≤ 100000) :
   Calls Tryz.prog 82 #[.int .i64 (n : Int)] w fun e w' => ∃ v, e = .returned v ∧ TOk 24 X w.heap.size w' (varTm n) v [] ∧ Below w.heap.size w w' := by
 have HN : Hid (n ≤ 100000) := hn
 clear hn
 go_enter Tryz.func82, Tryz.ntmps82
 go_wp2
 refine bodyPost_ret_by (results_cell_row rfl _ _ w.heap.size 24 _ (0, 0) _ rfl (heap_alloc_new _ _) Tryz.underlying24 rfl (by kernel_rfl)) rfl ?_
 exact ⟨_, rfl, TOk.leaf (by decide) (by have := HN.out; omega) (by decide), (Below.refl _ _).alloc (Nat.le_refl _) _⟩
end Go.Proofs.YtbkjcccbjnehbanGreatDoor

namespace Go.Proofs.YtbkjcccbjnehbanGreatDoor
open Go.RowKit
theorem alloc3 {w : World} {A B C : Obj} : (((w.alloc A).alloc B).alloc C).heap[w.heap.size]? = some A ∧ (((w.alloc A).alloc B).alloc C).heap[w.heap.size + 1]? = some B ∧ (((w.alloc A).alloc B).alloc C).heap[w.heap.size + 1 + 1]? = some C ∧
   (((w.alloc A).alloc B).alloc C).heap.size = w.heap.size + 3 ∧ Below w.heap.size w (((w.alloc A).alloc B).alloc C) := by
 refine ⟨?_, ?_, ?_, by simp, (((Below.refl _ _).alloc (Nat.le_refl _) _).alloc (by simp) _).alloc (by simp; omega) _⟩
 · show (((w.heap.push A).push B).push C)[w.heap.size]? = _
   rw [Array.getElem?_push, if_neg (by simp; omega), Array.getElem?_push, if_neg (by simp), Array.getElem?_push, if_pos rfl]
 · show (((w.heap.push A).push B).push C)[w.heap.size + 1]? = _
   rw [Array.getElem?_push, if_neg (by simp), Array.getElem?_push, if_pos (by simp)]
 · show (((w.heap.push A).push B).push C)[w.heap.size + 1 + 1]? = _
   rw [Array.getElem?_push, if_pos (by simp)]
theorem TOk.shape {e : TypeId} {X : Nat → Prop} {lo : Nat} {w : World} {t : Tm} {v : Value} {F : List Nat} (h : TOk e X lo w t v F) : ∃ k s n sl, v = .agg #[.int .i64 k, .string s, .int .i64 n, sl] := by
 obtain ⟨k, s, n, ao, len, cap, e⟩ := own_shape h.own
 exact ⟨k, s, n, _, e⟩
set_option maxHeartbeats 2000000 in
theorem s_two (X : Nat → Prop) (lo : Nat) (s : ByteArray) (t u : Tm) (v1 v2 : Value) (F G : List Nat) (w : World) (h1 : TOk 24 X lo w t v1 F) (h2 : TOk 24 X lo w u v2 G) (hd : ∀ f ∈ F, ∀ g ∈ G, f ≠ g) (hlo : lo ≤ w.heap.size) (hX : ∀ k, w.heap.size ≤ k → ¬ X k) (hs : s.size ≤ maxLen) :
   Calls Tryz.prog 43 #[.string s, v1, v2] w fun e w' => ∃ v F', e = .returned v ∧ TOk 24 X lo w' (structTm s [t, u]) v F' ∧ (∀ f ∈ F', f ∈ F ∨ f ∈ G ∨ w.heap.size ≤ f) ∧ Below w.heap.size w w' := by
 obtain ⟨k1, s1, n1, sl1, rfl⟩ := h1.shape
 obtain ⟨k2, s2, n2, sl2, rfl⟩ := h2.shape
 go_enter Tryz.func43, Tryz.ntmps43
 go_upto_region 1 with fail
 obtain ⟨W, hW⟩ : ∃ W, W = ((w.alloc (.cells #[.int .i64 k1, .string s1, .int .i64 n1, sl1] 24)).alloc (.cells #[.int .i64 k2, .string s2, .int .i64 n2, sl2] 24)).alloc (.cells #[.int .i64 0, .string ⟨#[]⟩, .int .i64 0, .slice none 0 0] 24) := ⟨_, rfl⟩
 rw [← hW]
 have al := @alloc3 w (.cells #[.int .i64 k1, .string s1, .int .i64 n1, sl1] 24) (.cells #[.int .i64 k2, .string s2, .int .i64 n2, sl2] 24) (.cells #[.int .i64 0, .string ⟨#[]⟩, .int .i64 0, .slice none 0 0] 24)
 rw [← hW] at al
 obtain ⟨g0, g1, g2, sW, bW⟩ := al
 obtain ⟨a0, a1, a2, a3, _⟩ := blk4 g0
 obtain ⟨b0, b1, b2, b3, _⟩ := blk4 g1
 obtain ⟨c0, c1, c2, c3, e0, e1, e2, e3⟩ := blk4 g2
 have l0 : w.heap.size + 1 + 1 < W.heap.size := by omega
 have H1 : Hid (TOk 24 X lo W t (.agg #[.int .i64 k1, .string s1, .int .i64 n1, sl1]) F) := h1.step (FX.of_below bW)
 have H2 : Hid (TOk 24 X lo W u (.agg #[.int .i64 k2, .string s2, .int .i64 n2, sl2]) G) := h2.step (FX.of_below bW)
 have HG : Hid (W.heap[w.heap.size + 1 + 1]? = some (.cells #[.int .i64 0, .string ⟨#[]⟩, .int .i64 0, .slice none 0 0] 24 (0, 0))) := g2
 have HB : Hid (Below w.heap.size w W) := bW
 have HW : Hid (W.heap.size = w.heap.size + 3) := sW
 have HLO : Hid (lo ≤ w.heap.size) := hlo
 have HF : Hid (∀ f ∈ F, f < w.heap.size) := h1.lt
 have HGG : Hid (∀ f ∈ G, f < w.heap.size) := h2.lt
 clear g0 g1 g2 hW sW bW h1 h2 hlo
 go_wp2
 have hW := HW.out
 have hl := HLO.out
 obtain ⟨V, hV⟩ : ∃ V, V = (((W.setCell ⟨w.heap.size + 1 + 1, 0, none⟩ (.int .i64 4)).setCell ⟨w.heap.size + 1 + 1, 1, none⟩ (.string s)).setCell ⟨w.heap.size + 1 + 1, 2, none⟩ (.int .i64 0)).setCell ⟨w.heap.size + 1 + 1, 3, none⟩ (.slice (some ⟨W.heap.size, 0, none⟩) 2 2) := ⟨_, rfl⟩
 rw [← hV]
 have sV : V.heap.size = W.heap.size := by rw [hV]; simp [World.setCell]
 have gV : V.heap[w.heap.size + 1 + 1]? = some (.cells #[.int .i64 4, .string s, .int .i64 0, .slice (some ⟨W.heap.size, 0, none⟩) 2 2] 24 (0, 0)) := by rw [hV]; exact blk4_set HG.out
 have oV : ∀ f, f < w.heap.size → V.heap[f]? = W.heap[f]? := fun f hf => by rw [hV]; exact blk4_other (by omega)
 have bV : Below w.heap.size w V := by rw [hV]; exact blk4_below HB.out (by omega)
 have T1 : TOk 24 X lo V t _ F := ⟨Own.keep t _ F H1.out.own fun f hf => oV f (HF.out f hf), H1.out.nd, H1.out.out⟩
 have T2 : TOk 24 X lo V u _ G := ⟨Own.keep u _ G H2.out.own fun f hf => oV f (HGG.out f hf), H2.out.nd, H2.out.out⟩
 have R := ROk.two T1 T2 hd (by omega) (hX _ (by omega))
 rw [sV] at R
 have gA := (Below.heap_alloc V (.cells #[.int .i64 k1, .string s1, .int .i64 n1, sl1, .int .i64 k2, .string s2, .int .i64 n2, sl2] 24) (w.heap.size + 1 + 1) (by omega)).trans gV
 clear hV
 refine bodyPost_ret_by (results_cell_row rfl _ _ (w.heap.size + 1 + 1) 24 _ (0, 0) _ rfl gA Tryz.underlying24 rfl (by kernel_rfl)) rfl ?_
 refine ⟨_, _, rfl, ROk.tm R hs, ?_, bV.alloc (by omega) _⟩
 intro f hf
 rcases List.mem_cons.1 hf with rfl | hf
 · exact Or.inr (Or.inr (by omega))
 · rcases List.mem_append.1 hf with hf | hf
   · exact Or.inl hf
   · exact Or.inr (Or.inl hf)
end Go.Proofs.YtbkjcccbjnehbanGreatDoor

namespace Go.Proofs.YtbkjcccbjnehbanGreatDoor
open Go.RowKit
def TmR (g : Nat) (L : List Sg) (lv nv : Value) (w : World) (v : Value) (w' : World) (R : Option (Tm × St)) (d : Nat) : Prop :=
 ∃ t F nv', TOk 24 (XS g nv') w.heap.size w' t v F ∧ (∀ y, R = some y → t = y.1) ∧ SRd g L lv nv' w' (R.map fun y => (d, y.2)) ∧ FX (XS g nv) (XS g nv') w w'
theorem TOk.form {e : TypeId} {X : Nat → Prop} {lo : Nat} {w : World} {t : Tm} {v : Value} {F : List Nat} (h : TOk e X lo w t v F) : ∃ k s n ao len cap, v = .agg #[.int .i64 k, .string s, .int .i64 n, .slice ao len cap] := own_shape h.own
theorem infoN : (Tryz.prog.info? 9).map (fun i => (i.zero, i.size, i.bytes)) = some (some (.string ⟨#[]⟩), 1, 16) := by kernel_rfl
theorem NRow.cells {w : World} {B : Nat} {ns : List ByteArray} {v : Value} (h : NRow w B ns v) : ∃ ao cap, v = .slice ao ns.length cap ∧ cap ≤ maxLen ∧ ∀ j (hj : j < ns.length), ∃ nb, ao = some ⟨nb, 0, none⟩ ∧ w.cell? ⟨nb, j, none⟩ = some (.string ns[j]) := by
 rcases h.2 with ⟨rfl, h0⟩ | ⟨g, cap, cur, rfl, hb, hh, h1, h2, h3, h4⟩
 · exact ⟨none, 0, by rw [h0], Nat.zero_le _, fun j hj => by omega⟩
 · refine ⟨_, cap, rfl, h2, fun j hj => ⟨g, rfl, ?_⟩⟩
   have := h.cellAt j (by omega)
   rw [this]; simp [hj]
theorem cUs_toL : cUs.toList = [95] := by rw [ByteArray.toList_eq]; rfl
theorem alloc_cell1 (W : World) (x : Value) (T : TypeId) : (W.alloc (.cells #[x] T)).cell? ⟨W.heap.size, 0, none⟩ = some x := blk_cell (i := 0) (heap_alloc_new _ _) (by simp)
theorem find_some {s : ByteArray} {names : List ByteArray} {i : Nat} (h : (names.findIdx? fun x => decide (x = s)) = some i) : i < names.length ∧ names[i]? = some s ∧ ∀ j, j < i → names[j]? ≠ some s := by
 rw [List.findIdx?_eq_some_iff_getElem] at h
 obtain ⟨hi, h1, h2⟩ := h
 refine ⟨hi, by rw [List.getElem?_eq_getElem hi]; simpa using h1, fun j hj e => ?_⟩
 have := h2 j hj
 rw [List.getElem?_eq_getElem (by omega)] at e
 simp at this e
 exact this e
theorem find_none {s : ByteArray} {names : List ByteArray} (h : (names.findIdx? fun x => decide (x = s)) = none) : ∀ j (hj : j < names.length), names[j] ≠ s := by
 intro j hj e
 rw [List.findIdx?_eq_none_iff] at h
 have := h names[j] (List.getElem_mem hj)
 simp [e] at this
theorem FX.grown {g : Nat} {nv v' : Value} {w w' : World} (hg : w.grownBy w' nv.ownBlock) (hat : v'.ownBlock = nv.ownBlock ∨ v'.ownBlock = some w.heap.size) : FX (XS g nv) (XS g v') w w' :=
 ⟨hg.os, hg.tape, hg.output, hg.size, fun k hk hx => hg.block k hk (fun e => hx (Or.inr e.symm)), fun k hk => by
   rcases hk with rfl | hk
   · exact Or.inl (Or.inl rfl)
   · rcases hat with h | h
     · exact Or.inl (Or.inr (h ▸ hk))
     · rw [h] at hk; exact Or.inr (by simp at hk; omega)⟩
set_option maxHeartbeats 8000000 in
set_option maxRecDepth 20000 in
theorem s_variable (g : Nat) (L : List Sg) (lv nv : Value) (d p : Nat) (r : List Sg) (names : List ByteArray) (s : ByteArray) (w : World) (hL : L.length ≤ 3000)
   (hg : w.heap[g]? = some (.cells #[lv, .int .i64 (p : Int), .bool false, .int .i64 (d : Int), nv] 52 (0, 0))) (hl : LIn w g L lv) (hn : NRow w (g + 1) names nv) (hp : p ≤ L.length) (hd : L.drop p = r) (hm : names.length + 1 ≤ p) :
   Calls Tryz.prog 65 #[.pointer (some ⟨g, 0, none⟩), .string s] w fun e w' => ∃ v, e = .returned v ∧ TmR g L lv nv w v w' (some (varTm (varO s names).1, ⟨r, (varO s names).2⟩)) d := by
 obtain ⟨i0, hi, hz0, hz1, hz2⟩ := info_partsS infoN
 have hgw : g < w.heap.size := (Array.getElem?_eq_some_iff.1 hg).1
 obtain ⟨ao, cap, rfl, hcp, hcell⟩ := hn.cells
 obtain ⟨W, hW⟩ : ∃ W, W = w.alloc (.cells #[.int .i64 0, .string ⟨#[]⟩, .int .i64 0, .slice none 0 0] 24) := ⟨_, rfl⟩
 have bW : Below w.heap.size w W := by rw [hW]; exact (Below.refl _ _).alloc (Nat.le_refl _) _
 have sW : W.heap.size = w.heap.size + 1 := by rw [hW]; simp
 have kW : W.heap[w.heap.size]? = some (.cells #[.int .i64 0, .string ⟨#[]⟩, .int .i64 0, .slice none 0 0] 24 (0, 0)) := by rw [hW]; exact heap_alloc_new _ _
 have gW : W.heap[g]? = some (.cells #[lv, .int .i64 (p : Int), .bool false, .int .i64 (d : Int), .slice ao names.length cap] 52 (0, 0)) := (bW.block g hgw).trans hg
 have lW : LIn W g L lv := hl.turn fun k hk => bW.block k (by omega)
 have nW : NRow W (g + 1) names (.slice ao names.length cap) := hn.turn fun b e => bW.block b (hn.lt b e).2
 have cW : ∀ j (hj : j < names.length), ∃ nb, ao = some ⟨nb, 0, none⟩ ∧ W.cell? ⟨nb, j, none⟩ = some (.string names[j]) := fun j hj => by
   obtain ⟨nb, e, h⟩ := hcell j hj; exact ⟨nb, e, cell_keep h bW⟩
 have nlt := hn.lt
 obtain ⟨c0, c1, c2, c3, c4, cf⟩ := b5f gW
 have hnm : names.length ≤ 3000 := by omega
 have HGW : Hid (W.heap[g]? = some (.cells #[lv, .int .i64 (p : Int), .bool false, .int .i64 (d : Int), .slice ao names.length cap] 52 (0, 0)) ∧ LIn W g L lv ∧ NRow W (g + 1) names (.slice ao names.length cap)) := ⟨gW, lW, nW⟩
 have HKW : Hid (W.heap[w.heap.size]? = some (.cells #[.int .i64 0, .string ⟨#[]⟩, .int .i64 0, .slice none 0 0] 24 (0, 0))) := kW
 have HBW : Hid (Below w.heap.size w W) := bW
 have HSW : Hid (W.heap.size = w.heap.size + 1) := sW
 have HP : Hid (p ≤ L.length ∧ L.drop p = r ∧ names.length + 1 ≤ p) := ⟨hp, hd, hm⟩
 have HNL : Hid (∀ b, (Value.slice ao names.length cap).ownBlock = some b → g + 1 ≤ b ∧ b < w.heap.size) := nlt
 obtain ⟨NN, hNN⟩ : ∃ NN, NN = names.length := ⟨_, rfl⟩
 have HNN : Hid (NN = names.length) := hNN
 have hN3 : (NN : Int) ≤ 3000 := by omega
 rw [← hNN] at c4
 have HCW : Hid (∀ j (hj : j < names.length), ∃ nb, ao = some ⟨nb, 0, none⟩ ∧ W.cell? ⟨nb, j, none⟩ = some (.string names[j])) := cW
 have f4 := cf 4
 clear hp hd hm hg hl hn gW lW nW kW bW sW cf hcell nlt hL cW hnm hNN hcp
 by_cases hs : s = cUs
 · subst hs
   have HV : Hid (varO cUs names = (names.length, names ++ [cUs])) := by show _ = _; simp [varO]
   obtain ⟨s, hse⟩ : ∃ s : ByteArray, s = cUs := ⟨_, rfl⟩
   have es : (s.toList == [95]) = true := by rw [hse, cUs_toL]; rfl
   rw [← hse]
   rw [← hse] at HV
   clear hse
   go_enter Tryz.func65, Tryz.ntmps65
   go_upto_region 7 with fail
   rw [← hW]
   clear hW
   have HX : Hid (∀ W', Below W.heap.size W W' → NRow W' (g + 1) names (.slice ao names.length cap)) := fun W' hb => HGW.out.2.2.turn fun b e => hb.block b (by have := HNL.out b e; have := HSW.out; omega)
   clear HCW
   go_wp2_with (at_builtin; go_loud (refine wpList_append_own_at _ rfl _ _ 25 rfl (g + 1) 9 i0 (.string ⟨#[]⟩) 1 16 Tryz.underlying25 hi hz0 hz1 hz2 rfl (by decide) _ names.length _ (by rw [← HNN.out]; rfl) (HX.out _ ((Below.refl _ _).alloc (Nat.le_refl _) _)) ⟨W.heap.size, 0, none⟩ 1 1 [.string s] rfl rfl ?c1 ?c2 ?c3 ?c4 ?c5 ?_))
   case c1 =>
     intro q z hq
     match q, hq with
     | 0, hq => simp at hq; subst hq; exact alloc_cell1 W _ _
   case c2 => intro z hz; simp at hz; subst hz; rfl
   case c3 => have := HNN.out; unfold maxLen; omega
   case c4 => have := HNN.out; omega
   case c5 => have := HSW.out; simp; omega
   intro v' w2 hown' hgrow _ hat
   have hsz := HSW.out
   have hnn := HNN.out
   have HA : Hid (FX (XS g (.slice ao names.length cap)) (XS g v') w w2) := (FX.of_below (HBW.out.trans ((Below.refl _ _).alloc (by omega) _))).trans (FX.grown hgrow (by simpa using hat))
   have hblk : ∀ k, k < w.heap.size + 1 → (Value.slice ao names.length cap).ownBlock ≠ some k → w2.heap[k]? = W.heap[k]? := fun k hk hne => (hgrow.block k (by simp; omega) (fun e => hne e.symm)).trans (Below.heap_alloc _ _ _ (by omega))
   have hgn : (Value.slice ao names.length cap).ownBlock ≠ some g := fun e => by have := HNL.out g e; omega
   have hkn : (Value.slice ao names.length cap).ownBlock ≠ some w.heap.size := fun e => by have := HNL.out _ e; omega
   have HG2 : Hid (w2.heap[g]? = some (.cells #[lv, .int .i64 (p : Int), .bool false, .int .i64 (d : Int), .slice ao names.length cap] 52 (0, 0))) := (hblk g (by omega) hgn).trans HGW.out.1
   have HK2 : Hid (w2.heap[w.heap.size]? = some (.cells #[.int .i64 0, .string ⟨#[]⟩, .int .i64 0, .slice none 0 0] 24 (0, 0))) := (hblk _ (by omega) hkn).trans HKW.out
   have HL2 : Hid (LIn w2 g L lv) := HGW.out.2.1.turn fun k hk => hblk k (by omega) (fun e => by have := HNL.out k e; omega)
   have HN2 : Hid (NRow w2 (g + 1) (names ++ [s]) v') := by
     show w2.ownsRow _ _ _ _ _ _
     rw [List.map_append, List.length_append]
     exact hown'
   obtain ⟨a2, cp2, hv2, _, _⟩ := HN2.out.cells
   rw [List.length_append, List.length_singleton, ← hnn] at hv2
   have hnvg : v'.ownBlock ≠ some g := fun e => by have := HN2.out.lt g e; omega
   have hnvk : v'.ownBlock ≠ some w.heap.size := fun e => by
     rcases hat with h | h
     · exact hkn (h.symm.trans e)
     · rw [h] at e; simp at e; omega
   have HNV : Hid (v'.ownBlock ≠ some g ∧ v'.ownBlock ≠ some w.heap.size) := ⟨hnvg, hnvk⟩
   have hs2 : w.heap.size < w2.heap.size := by have := hgrow.size; simp at this; omega
   obtain ⟨c0, c1, c2, c3, c4, cf2⟩ := b5f HG2.out
   have f4 := cf2 4
   clear hown' hgrow hat hblk cf2 hnvg hnvk hgn hkn HX c0 c1 c2 c3
   subst hv2
   rw [← hnn] at c4
   have H3 : NN ≤ 100000 := by omega
   have esub : ((NN : Int) + 1) - 1 = (NN : Int) := by omega
   have HVV : Hid _ := fun wq => s_var (XS g (.slice a2 (NN + 1) cp2)) NN wq H3
   clear H3 hnn
   go_upto_region 8 with fail
   obtain ⟨V, hV⟩ : ∃ V, V = w2.setCell ⟨g, 4, none⟩ (.slice a2 (NN + 1) cp2) := ⟨_, rfl⟩
   rw [← hV]
   have gV : V.heap[g]? = some (.cells #[lv, .int .i64 (p : Int), .bool false, .int .i64 (d : Int), .slice a2 (NN + 1) cp2] 52 (0, 0)) := by
     rw [hV]; have := set_at5 (i := 4) HG2.out (.slice a2 (NN + 1) cp2); simpa using this
   have oV : ∀ k, k ≠ g → V.heap[k]? = w2.heap[k]? := fun k hk => by rw [hV]; exact set_oth5 _ hk
   have HFV : Hid (FX (XS g (.slice ao names.length cap)) (XS g (.slice a2 (NN + 1) cp2)) w V) := by rw [hV]; exact HA.out.set (Or.inl (Or.inl rfl)) _
   have sV : V.heap.size = w2.heap.size := by rw [hV]; simp [World.setCell]
   obtain ⟨c0, c1, c2, c3, c4, cf⟩ := b5f gV
   have HGV : Hid (V.heap[g]? = some (.cells #[lv, .int .i64 (p : Int), .bool false, .int .i64 (d : Int), .slice a2 (NN + 1) cp2] 52 (0, 0)) ∧ LIn V g L lv ∧ NRow V (g + 1) (names ++ [s]) (.slice a2 (NN + 1) cp2) ∧ V.heap[w.heap.size]? = some (.cells #[.int .i64 0, .string ⟨#[]⟩, .int .i64 0, .slice none 0 0] 24 (0, 0))) :=
     ⟨gV, HL2.out.turn fun k hk => oV k (by omega), HN2.out.turn fun b e => oV b (fun h => HNV.out.1 (by rw [← h]; exact e)), (oV _ (by omega)).trans HK2.out⟩
   have HSV : Hid (w.heap.size < V.heap.size) := Nat.lt_of_lt_of_eq hs2 sV.symm
   clear gV oV hV cf f4 HA HG2 HL2 HN2 HK2 c0 c1 c2 c3 sV hs2 HGW HKW HBW
   go_wp2_with (go_at_call 82; go_loud (refine Calls.mono (HVV.out _) ?_); rintro e w3 ⟨v, rfl, ht, hb⟩; have HT : Hid _ := ht; have HB3 : Hid (Below _ _ w3) := hb; have hk := (hb.block w.heap.size HSV.out).trans HGV.out.2.2.2; obtain ⟨z0, z1, z2, z3, q0, q1, q2, q3⟩ := blk4 hk; obtain ⟨k1, s1, n1, ao1, ln1, cp1, rfl⟩ := ht.form; clear ht hb)
   refine bodyPost_ret_by (results_cell_row rfl _ _ w.heap.size 24 _ (0, 0) _ rfl (blk4_set hk) Tryz.underlying24 rfl (by kernel_rfl)) rfl ?_
   have FV : Below V.heap.size V w3 := HB3.out
   have hnn := HNN.out
   refine ⟨_, rfl, varTm NN, [], .slice a2 (NN + 1) cp2, ?_, ?_, ?_, ?_⟩
   · refine ⟨Own.keep _ _ [] HT.out.own (fun f h => by cases h), List.nodup_nil, fun f h => by cases h⟩
   · intro y hy; cases hy; rw [HV.out, ← hnn]
   · rw [HV.out]
     obtain ⟨gV, lV, nV, _⟩ := HGV.out
     obtain ⟨hp, hd, hm⟩ := HP.out
     have hsv := HSV.out
     refine ⟨_, false, _, names ++ [s], ?_, ?_, ?_, rfl, rfl, rfl, p, rfl, hp, hd, by simp; omega⟩
     · rw [blk4_other (by omega)]; exact (FV.block g (by omega)).trans gV
     · exact lV.turn fun k hk => by rw [blk4_other (by omega)]; exact FV.block k (by omega)
     · exact nV.turn fun b e => by
         rw [blk4_other (fun h => HNV.out.2 (by rw [← h]; exact e))]; exact FV.block b (nV.lt b e).2
   · exact (((((HFV.out.trans (FX.of_below FV)).set (Or.inr (Nat.le_refl _)) _).set (Or.inr (Nat.le_refl _)) _).set (Or.inr (Nat.le_refl _)) _).set (Or.inr (Nat.le_refl _)) _)
 · have es : (s.toList == [95]) = false := by
     rw [beq_eq_false_iff_ne]; intro e; exact hs (toL_inj (e.trans cUs_toL.symm))
   cases hf : names.findIdx? fun x => decide (x = s) with
   | some i1 =>
     have HV : Hid (varO s names = (i1, names)) := by show _ = _; unfold varO; rw [if_neg hs, hf]
     obtain ⟨hi1, he1, hlt1⟩ := find_some hf
     have HE : Hid (names[i1]? = some s ∧ ∀ j, j < i1 → names[j]? ≠ some s) := ⟨he1, hlt1⟩
     have HI : Hid (i1 < names.length) := hi1
     have hi3 : (i1 : Int) < (NN : Int) := by have := HNN.out; omega
     clear hf hs he1 hlt1 hi1
     go_enter Tryz.func65, Tryz.ntmps65
     go_wp2
     rw [← hW]
     clear hW
     go_loopw [5] (fun vi wr => ∃ (j : Nat), j ≤ i1 ∧ vi = .int .i64 (j : Int) ∧ wr = W) (fun i _ => i1 - (intOf i).toNat)
     case atStart => exact ⟨0, Nat.zero_le _, rfl, rfl⟩
     case round =>
       obtain ⟨j, hj, rfl, hwr⟩ := hrel
       replace hwr := hwr.symm
       subst hwr
       obtain ⟨nb, rfl, hc⟩ := HCW.out j (by have := HI.out; omega)
       have hjN : j < NN := by have := HNN.out; have := HI.out; omega
       obtain ⟨x, hx⟩ : ∃ x, x = names[j]'(by have := HI.out; omega) := ⟨_, rfl⟩
       rw [← hx] at hc
       by_cases hji : j = i1
       · subst hji
         obtain rfl : x = s := by
           have := HE.out.1
           rw [List.getElem?_eq_getElem HI.out] at this
           rw [hx]; exact Option.some.inj this
         have e3 : (x.toList == x.toList) = true := by simp
         have H3 : j ≤ 100000 := by omega
         have HVV : Hid _ := fun wq => s_var (XS g (.slice (some ⟨nb, 0, none⟩) names.length cap)) j wq H3
         clear hx H3
         go_wp2_with (go_at_call 82; go_loud (refine Calls.mono (HVV.out _) ?_); rintro e w1 ⟨v, rfl, ht, hb⟩; have HT : Hid _ := ht; have HB1 : Hid (Below _ _ w1) := hb; have hk := (hb.block w.heap.size (by have := HSW.out; omega)).trans HKW.out; obtain ⟨z0, z1, z2, z3, q0, q1, q2, q3⟩ := blk4 hk; obtain ⟨k1, s1, n1, ao1, ln1, cp1, rfl⟩ := ht.form; clear ht hb)
         refine bodyPost_ret_by (results_cell_row rfl _ _ w.heap.size 24 _ (0, 0) _ rfl (blk4_set hk) Tryz.underlying24 rfl (by kernel_rfl)) rfl ?_
         have hsz := HSW.out
         have FB : Below w.heap.size w _ := blk4_below (d0 := .int .i64 k1) (d1 := .string s1) (d2 := .int .i64 n1) (d3 := .slice ao1 ln1 cp1) (HBW.out.trans (HB1.out.mono (by omega))) (Nat.le_refl w.heap.size)
         refine ⟨_, rfl, varTm j, [], .slice (some ⟨nb, 0, none⟩) names.length cap, ?_, ?_, ?_, FX.of_below FB⟩
         · refine ⟨Own.keep _ _ [] HT.out.own (fun f h => by cases h), List.nodup_nil, fun f h => by cases h⟩
         · intro y hy; cases hy; rw [HV.out]
         · rw [HV.out]
           obtain ⟨gW, lW, nW⟩ := HGW.out
           obtain ⟨hp, hd, hm⟩ := HP.out
           refine ⟨_, false, _, names, ?_, ?_, ?_, rfl, rfl, rfl, p, rfl, hp, hd, by omega⟩
           · rw [blk4_other (by omega)]; exact (HB1.out.block g (by omega)).trans gW
           · exact lW.turn fun k hk => by rw [blk4_other (by omega)]; exact HB1.out.block k (by omega)
           · exact nW.turn fun b e => by
               have := HNL.out b e
               rw [blk4_other (by omega)]; exact HB1.out.block b (by omega)
       · have e3 : (x.toList == s.toList) = false := by
           rw [beq_eq_false_iff_ne]; intro e; exact HE.out.2 j (by omega) (by rw [List.getElem?_eq_getElem (by have := HI.out; omega), ← hx, toL_inj e])
         clear hx
         go_wp2
         go_roundw
         case rel => exact ⟨j + 1, by omega, by go_num, by first | rfl | trivial⟩
         case measure => simp [intOf]; omega
   | none =>
     have HV : Hid (varO s names = (names.length, names ++ [s])) := by show _ = _; unfold varO; rw [if_neg hs, hf]
     have HE : Hid (∀ j (hj : j < names.length), names[j] ≠ s) := find_none hf
     clear hf hs
     go_enter Tryz.func65, Tryz.ntmps65
     go_wp2
     rw [← hW]
     clear hW
     go_loopw [5] (fun vi wr => ∃ (j : Nat), j ≤ NN ∧ vi = .int .i64 (j : Int) ∧ wr = W) (fun i _ => NN - (intOf i).toNat)
     case atStart => exact ⟨0, Nat.zero_le _, rfl, rfl⟩
     case round =>
       obtain ⟨j, hj, rfl, hwr⟩ := hrel
       replace hwr := hwr.symm
       subst hwr
       by_cases hjN : j < NN
       · obtain ⟨nb, rfl, hc⟩ := HCW.out j (by have := HNN.out; omega)
         obtain ⟨x, hx⟩ : ∃ x, x = names[j]'(by have := HNN.out; omega) := ⟨_, rfl⟩
         rw [← hx] at hc
         have e3 : (x.toList == s.toList) = false := by
           rw [beq_eq_false_iff_ne]; intro e; exact HE.out j (by have := HNN.out; omega) (by rw [← hx]; exact toL_inj e)
         clear hx
         go_wp2
         go_roundw
         case rel => exact ⟨j + 1, by omega, by go_num, by first | rfl | trivial⟩
         case measure => simp [intOf]; omega
       · obtain rfl : NN = j := by omega
         clear HE
         go_upto_region 7 with fail
         have HX : Hid (∀ W', Below W.heap.size W W' → NRow W' (g + 1) names (.slice ao names.length cap)) := fun W' hb => HGW.out.2.2.turn fun b e => hb.block b (by have := HNL.out b e; have := HSW.out; omega)
         clear HCW
         go_wp2_with (at_builtin; go_loud (refine wpList_append_own_at _ rfl _ _ 25 rfl (g + 1) 9 i0 (.string ⟨#[]⟩) 1 16 Tryz.underlying25 hi hz0 hz1 hz2 rfl (by decide) _ names.length _ (by rw [← HNN.out]; rfl) (HX.out _ ((Below.refl _ _).alloc (Nat.le_refl _) _)) ⟨W.heap.size, 0, none⟩ 1 1 [.string s] rfl rfl ?c1 ?c2 ?c3 ?c4 ?c5 ?_))
         case c1 =>
           intro q z hq
           match q, hq with
           | 0, hq => simp at hq; subst hq; exact alloc_cell1 W _ _
         case c2 => intro z hz; simp at hz; subst hz; rfl
         case c3 => have := HNN.out; unfold maxLen; omega
         case c4 => have := HNN.out; omega
         case c5 => have := HSW.out; simp; omega
         intro v' w2 hown' hgrow _ hat
         have hsz := HSW.out
         have hnn := HNN.out
         have HA : Hid (FX (XS g (.slice ao names.length cap)) (XS g v') w w2) := (FX.of_below (HBW.out.trans ((Below.refl _ _).alloc (by omega) _))).trans (FX.grown hgrow (by simpa using hat))
         have hblk : ∀ k, k < w.heap.size + 1 → (Value.slice ao names.length cap).ownBlock ≠ some k → w2.heap[k]? = W.heap[k]? := fun k hk hne => (hgrow.block k (by simp; omega) (fun e => hne e.symm)).trans (Below.heap_alloc _ _ _ (by omega))
         have hgn : (Value.slice ao names.length cap).ownBlock ≠ some g := fun e => by have := HNL.out g e; omega
         have hkn : (Value.slice ao names.length cap).ownBlock ≠ some w.heap.size := fun e => by have := HNL.out _ e; omega
         have HG2 : Hid (w2.heap[g]? = some (.cells #[lv, .int .i64 (p : Int), .bool false, .int .i64 (d : Int), .slice ao names.length cap] 52 (0, 0))) := (hblk g (by omega) hgn).trans HGW.out.1
         have HK2 : Hid (w2.heap[w.heap.size]? = some (.cells #[.int .i64 0, .string ⟨#[]⟩, .int .i64 0, .slice none 0 0] 24 (0, 0))) := (hblk _ (by omega) hkn).trans HKW.out
         have HL2 : Hid (LIn w2 g L lv) := HGW.out.2.1.turn fun k hk => hblk k (by omega) (fun e => by have := HNL.out k e; omega)
         have HN2 : Hid (NRow w2 (g + 1) (names ++ [s]) v') := by
           show w2.ownsRow _ _ _ _ _ _
           rw [List.map_append, List.length_append]
           exact hown'
         obtain ⟨a2, cp2, hv2, _, _⟩ := HN2.out.cells
         rw [List.length_append, List.length_singleton, ← hnn] at hv2
         have hnvg : v'.ownBlock ≠ some g := fun e => by have := HN2.out.lt g e; omega
         have hnvk : v'.ownBlock ≠ some w.heap.size := fun e => by
           rcases hat with h | h
           · exact hkn (h.symm.trans e)
           · rw [h] at e; simp at e; omega
         have HNV : Hid (v'.ownBlock ≠ some g ∧ v'.ownBlock ≠ some w.heap.size) := ⟨hnvg, hnvk⟩
         have hs2 : w.heap.size < w2.heap.size := by have := hgrow.size; simp at this; omega
         obtain ⟨c0, c1, c2, c3, c4, cf2⟩ := b5f HG2.out
         have f4 := cf2 4
         clear hown' hgrow hat hblk cf2 hnvg hnvk hgn hkn HX c0 c1 c2 c3
         subst hv2
         rw [← hnn] at c4
         have H3 : NN ≤ 100000 := by omega
         have esub : ((NN : Int) + 1) - 1 = (NN : Int) := by omega
         have HVV : Hid _ := fun wq => s_var (XS g (.slice a2 (NN + 1) cp2)) NN wq H3
         clear H3 hnn
         go_upto_region 8 with fail
         obtain ⟨V, hV⟩ : ∃ V, V = w2.setCell ⟨g, 4, none⟩ (.slice a2 (NN + 1) cp2) := ⟨_, rfl⟩
         rw [← hV]
         have gV : V.heap[g]? = some (.cells #[lv, .int .i64 (p : Int), .bool false, .int .i64 (d : Int), .slice a2 (NN + 1) cp2] 52 (0, 0)) := by
           rw [hV]; have := set_at5 (i := 4) HG2.out (.slice a2 (NN + 1) cp2); simpa using this
         have oV : ∀ k, k ≠ g → V.heap[k]? = w2.heap[k]? := fun k hk => by rw [hV]; exact set_oth5 _ hk
         have HFV : Hid (FX (XS g (.slice ao names.length cap)) (XS g (.slice a2 (NN + 1) cp2)) w V) := by rw [hV]; exact HA.out.set (Or.inl (Or.inl rfl)) _
         have sV : V.heap.size = w2.heap.size := by rw [hV]; simp [World.setCell]
         obtain ⟨c0, c1, c2, c3, c4, cf⟩ := b5f gV
         have HGV : Hid (V.heap[g]? = some (.cells #[lv, .int .i64 (p : Int), .bool false, .int .i64 (d : Int), .slice a2 (NN + 1) cp2] 52 (0, 0)) ∧ LIn V g L lv ∧ NRow V (g + 1) (names ++ [s]) (.slice a2 (NN + 1) cp2) ∧ V.heap[w.heap.size]? = some (.cells #[.int .i64 0, .string ⟨#[]⟩, .int .i64 0, .slice none 0 0] 24 (0, 0))) :=
           ⟨gV, HL2.out.turn fun k hk => oV k (by omega), HN2.out.turn fun b e => oV b (fun h => HNV.out.1 (by rw [← h]; exact e)), (oV _ (by omega)).trans HK2.out⟩
         have HSV : Hid (w.heap.size < V.heap.size) := Nat.lt_of_lt_of_eq hs2 sV.symm
         clear gV oV hV cf f4 HA HG2 HL2 HN2 HK2 c0 c1 c2 c3 sV hs2 HGW HKW HBW
         go_wp2_with (go_at_call 82; go_loud (refine Calls.mono (HVV.out _) ?_); rintro e w3 ⟨v, rfl, ht, hb⟩; have HT : Hid _ := ht; have HB3 : Hid (Below _ _ w3) := hb; have hk := (hb.block w.heap.size HSV.out).trans HGV.out.2.2.2; obtain ⟨z0, z1, z2, z3, q0, q1, q2, q3⟩ := blk4 hk; obtain ⟨k1, s1, n1, ao1, ln1, cp1, rfl⟩ := ht.form; clear ht hb)
         refine bodyPost_ret_by (results_cell_row rfl _ _ w.heap.size 24 _ (0, 0) _ rfl (blk4_set hk) Tryz.underlying24 rfl (by kernel_rfl)) rfl ?_
         have FV : Below V.heap.size V w3 := HB3.out
         have hnn := HNN.out
         refine ⟨_, rfl, varTm NN, [], .slice a2 (NN + 1) cp2, ?_, ?_, ?_, ?_⟩
         · refine ⟨Own.keep _ _ [] HT.out.own (fun f h => by cases h), List.nodup_nil, fun f h => by cases h⟩
         · intro y hy; cases hy; rw [HV.out, ← hnn]
         · rw [HV.out]
           obtain ⟨gV, lV, nV, _⟩ := HGV.out
           obtain ⟨hp, hd, hm⟩ := HP.out
           have hsv := HSV.out
           refine ⟨_, false, _, names ++ [s], ?_, ?_, ?_, rfl, rfl, rfl, p, rfl, hp, hd, by simp; omega⟩
           · rw [blk4_other (by omega)]; exact (FV.block g (by omega)).trans gV
           · exact lV.turn fun k hk => by rw [blk4_other (by omega)]; exact FV.block k (by omega)
           · exact nV.turn fun b e => by
               rw [blk4_other (fun h => HNV.out.2 (by rw [← h]; exact e))]; exact FV.block b (nV.lt b e).2
         · exact (((((HFV.out.trans (FX.of_below FV)).set (Or.inr (Nat.le_refl _)) _).set (Or.inr (Nat.le_refl _)) _).set (Or.inr (Nat.le_refl _)) _).set (Or.inr (Nat.le_refl _)) _)
end Go.Proofs.YtbkjcccbjnehbanGreatDoor

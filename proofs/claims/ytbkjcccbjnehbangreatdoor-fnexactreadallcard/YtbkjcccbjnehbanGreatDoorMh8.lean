import Derived.Test.YtbkjcccbjnehbanGreatDoorMh7
namespace Go.Proofs.YtbkjcccbjnehbanGreatDoor
open Go.RowKit
def XB (g : Nat) (nv : Value) (B : Nat) : Nat → Prop := fun k => XS g nv k ∨ k = B
theorem FX.lift {g B : Nat} {nv nv' : Value} {w w' : World} (h : FX (XS g nv) (XS g nv') w w') : FX (XB g nv B) (XB g nv' B) w w' :=
 ⟨h.os, h.tape, h.output, h.size, fun k hk hx => h.block k hk (fun hh => hx (Or.inl hh)), fun k hk => by
   rcases hk with hk | hk
   · exact (h.new k hk).elim (fun h => Or.inl (Or.inl h)) Or.inr
   · exact Or.inl (Or.inr hk)⟩
theorem TOk.lift {e : TypeId} {g B : Nat} {nv : Value} {lo : Nat} {w : World} {t : Tm} {v : Value} {F : List Nat} (h : TOk e (XS g nv) lo w t v F) (hB : B < lo) : TOk e (XB g nv B) lo w t v F :=
 ⟨h.own, h.nd, fun f hf => ⟨(h.out f hf).1, fun hx => hx.elim (h.out f hf).2 (fun e => by have := (h.out f hf).1; omega)⟩⟩
theorem TOk.weak {e : TypeId} {g B : Nat} {nv : Value} {lo : Nat} {w : World} {t : Tm} {v : Value} {F : List Nat} (h : TOk e (XB g nv B) lo w t v F) : TOk e (XS g nv) lo w t v F :=
 ⟨h.own, h.nd, fun f hf => ⟨(h.out f hf).1, fun hx => (h.out f hf).2 (Or.inl hx)⟩⟩
theorem SRd.setB {g B i : Nat} {L : List Sg} {lv nv : Value} {w : World} {o : Option (Nat × St)} (h : SRd g L lv nv w o) (hx : ¬ XS g nv B) (hB : g ≤ B) (v : Value) : SRd g L lv nv (w.setCell ⟨B, i, none⟩ v) o :=
 h.turn fun k hk => set_oth5 _ (by
   intro e
   rw [e] at hk
   rcases hk with hk | hk
   · omega
   · exact hx hk)
theorem app_step2 {g B lo : Nat} {L : List Sg} {lv nv nv2 sl v' c0 c1 c2 c3 : Value} {o : Option (Nat × St)} {W w5 w6 : World} {ks : List Tm} {F Fx F0 : List Nat} {t : Tm} {cs : List Value}
   (H5 : ROk 24 (XB g nv2 B) lo w5 ks sl F) (T5 : TOk 24 (XB g nv2 B) lo w5 t (.agg #[c0, c1, c2, c3]) Fx) (hd : ∀ f ∈ F, ∀ g ∈ Fx, f ≠ g)
   (hr : OwnRow 24 w5 ks cs F0) (hnd : F0.Nodup) (h0 : ∀ f ∈ F0, f ∈ F ∧ sl.ownBlock ≠ some f) (hs : ∀ b, sl.ownBlock = some b → b ∈ F) (hown : w6.ownsRow 0 24 4 v' (ks.length + 1) (cs ++ [c0, c1, c2, c3])) (hg : w5.grownBy w6 sl.ownBlock)
   (hat : v'.ownBlock = sl.ownBlock ∨ v'.ownBlock = some w5.heap.size) (S5 : SRd g L lv nv2 w5 o) (X5 : FX (XS g nv) (XS g nv2) W w5) (hlo : lo = W.heap.size) (hgW : g < W.heap.size) (hB : B < w5.heap.size) :
   ∃ F', ROk 24 (XB g nv2 B) lo w6 (ks ++ [t]) v' F' ∧ SRd g L lv nv2 w6 o ∧ FX (XS g nv) (XS g nv2) W w6 ∧ w6.heap[B]? = w5.heap[B]? ∧ (∀ f ∈ F', f ∈ F ∨ f ∈ Fx ∨ w5.heap.size ≤ f) := by
 have hsl : ∀ k, sl.ownBlock = some k → lo ≤ k ∧ ¬ XB g nv2 B k := fun k e => H5.out k (hs k e)
 obtain ⟨F', hF', hsub⟩ := ROk.push H5 T5 hd hr hnd h0 hs hown hg hat (by have := X5.size; omega) (fun hx => hx.elim (S5.xnew _ (Nat.le_refl _)) (fun e => by omega))
 refine ⟨F', hF', ?_, X5.grow hg fun k e => by have := (hsl k e).1; omega, hg.block B hB (fun e => (hsl B e.symm).2 (Or.inr rfl)), hsub⟩
 exact S5.turn fun k hk => hg.block k (by
   rcases hk with hk | hk
   · have := S5.lt; omega
   · rcases Nat.lt_or_ge k w5.heap.size with h | h
     · exact h
     · exact absurd hk (S5.xnew k h)) (fun e => by
   have := hsl k e.symm
   rcases hk with hk | hk
   · omega
   · exact this.2 (Or.inl hk))
theorem OwnRow.unsnoc {e : TypeId} {w : World} {t : Tm} : ∀ (ks : List Tm) (cs : List Value) (F : List Nat), OwnRow e w (ks ++ [t]) cs F → ∃ cs' c0 c1 c2 c3 F1 F2, cs = cs' ++ [c0, c1, c2, c3] ∧ F = F1 ++ F2 ∧ OwnRow e w ks cs' F1 ∧ Own e w t (.agg #[c0, c1, c2, c3]) F2
 | [], cs, F, h => by
   simp only [List.nil_append] at h
   unfold OwnRow at h
   obtain ⟨c0, c1, c2, c3, cs', F1, F2, rfl, rfl, h1, h2⟩ := h
   unfold OwnRow at h2
   obtain ⟨rfl, rfl⟩ := h2
   exact ⟨[], c0, c1, c2, c3, [], F1, rfl, by simp, by unfold OwnRow; exact ⟨rfl, rfl⟩, h1⟩
 | k :: ks, cs, F, h => by
   simp only [List.cons_append] at h
   unfold OwnRow at h
   obtain ⟨d0, d1, d2, d3, cs1, F1, F2, rfl, rfl, h1, h2⟩ := h
   obtain ⟨cs', c0, c1, c2, c3, G1, G2, rfl, rfl, h3, h4⟩ := OwnRow.unsnoc ks cs1 F2 h2
   refine ⟨d0 :: d1 :: d2 :: d3 :: cs', c0, c1, c2, c3, F1 ++ G1, G2, rfl, by simp, ?_, h4⟩
   unfold OwnRow
   exact ⟨d0, d1, d2, d3, cs', F1, G1, rfl, rfl, h1, h3⟩
theorem ROk.fresh {e : TypeId} {X : Nat → Prop} {lo : Nat} {w : World} (hl : lo ≤ w.heap.size) (hx : ¬ X w.heap.size) : ROk e X lo (w.alloc (.cells #[] e)) [] (.slice (some ⟨w.heap.size, 0, none⟩) 0 0) [w.heap.size] := by
 refine ⟨Or.inr ⟨w.heap.size, 0, [], [], rfl, ⟨rfl, Or.inr ⟨w.heap.size, 0, #[], rfl, Nat.zero_le _, heap_alloc_new w _, Nat.le_refl _, by decide, rfl, rfl⟩⟩, rfl, by unfold OwnRow; exact ⟨rfl, rfl⟩⟩, by simp, ?_⟩
 intro f hf
 simp at hf; subst hf; exact ⟨hl, hx⟩
def RowI (f e0 : Nat) (o : Option (Nat × St)) (ks : List Tm) (T : Option (List Tm × Tm × St)) : Prop := (o = none ∧ T = none ∧ ks.length ≤ 3001) ∨ ∃ st, o = some (e0, st) ∧ rowO (termO true f) ks st = T ∧ ks.length + st.rest.length ≤ 3000
def restO (R : Option (Tm × St)) (ks : List Tm) : Option (List Tm × Tm × St) := match R with | none => none | some (y, s2) => (mk? cRbr s2.rest).map fun r2 => (ks, y, ⟨r2, s2.names⟩)
theorem rowO_step {f : Nat} {ks : List Tm} {st : St} : rowO (termO true f) ks st = match termO true f 999 st with
   | none => none
   | some (x, s1) => match mk? cRbr s1.rest with
     | some r => some (ks ++ [x], nilTm, ⟨r, s1.names⟩)
     | none => match mk? cBar s1.rest with
       | some r => restO (termO true f 999 ⟨r, s1.names⟩) (ks ++ [x])
       | none => match mk? cComma s1.rest with
         | some r => rowO (termO true f) (ks ++ [x]) ⟨r, s1.names⟩
         | none => none := by
 rw [rowO]
 cases h : termO true f 999 st with
 | none => rfl
 | some y =>
   obtain ⟨x, s1⟩ := y
   have hs := termO_short true f _ _ _ _ h
   simp only
   rw [dif_pos hs]
   cases mk? cRbr s1.rest with
   | some r => rfl
   | none =>
     simp only
     cases mk? cBar s1.rest with
     | some r =>
       simp only [restO]
       cases termO true f 999 ⟨r, s1.names⟩ with
       | none => rfl
       | some z => obtain ⟨a, b⟩ := z; simp only; cases mk? cRbr b.rest <;> rfl
     | none => simp only; split <;> simp_all
theorem restO_mark (R : Option (Tm × St)) (ks : List Tm) (e0 : Nat) : markO (R.map fun y => (e0, y.2)) cRbr = (restO R ks).map fun y => (e0, y.2.2) := by
 cases R with
 | none => rfl
 | some y => obtain ⟨t, s⟩ := y; simp only [markO, restO, Option.map_some]; cases mk? cRbr s.rest <;> rfl
theorem restO_some {R : Option (Tm × St)} {ks : List Tm} {y : List Tm × Tm × St} (h : restO R ks = some y) : ∃ z, R = some z ∧ y.1 = ks ∧ y.2.1 = z.1 := by
 cases R with
 | none => cases h
 | some z => obtain ⟨t, s⟩ := z; simp only [restO] at h; obtain ⟨r', _, rfl⟩ := Option.map_eq_some_iff.1 h; exact ⟨_, rfl, rfl, rfl⟩
theorem cRbr_ne : (⟨#[93]⟩ : ByteArray).toList ≠ [] := by rw [ByteArray.toList_eq]; decide
theorem cBar_ne : (⟨#[124]⟩ : ByteArray).toList ≠ [] := by rw [ByteArray.toList_eq]; decide
theorem consTm_snoc (ks : List Tm) (x t : Tm) : consTm (ks ++ [x]) t = consTm ks (structTm ⟨#[46]⟩ [x, t]) := by simp [consTm, str]
end Go.Proofs.YtbkjcccbjnehbanGreatDoor

namespace Go.Proofs.YtbkjcccbjnehbanGreatDoor
open Go.RowKit
def RJ (e : TypeId) (w : World) (ks : List Tm) (sl : Value) (j : Nat) (Fj : List Nat) : Prop :=
 ∃ cs, w.ownsRow 0 e 4 sl ks.length cs ∧ OwnRow e w (ks.take j) (cs.take (j * 4)) Fj
theorem RJ.first {e : TypeId} {X : Nat → Prop} {lo : Nat} {w : World} {ks : List Tm} {sl : Value} {F : List Nat} (h : ROk e X lo w ks sl F) : ∃ Fj, RJ e w ks sl ks.length Fj ∧ Fj.Nodup ∧ (∀ f ∈ Fj, f ∈ F) ∧ (∀ b, sl.ownBlock = some b → b ∈ F) := by
 obtain ⟨cs, F0, h1, h2, h3, h4, h5⟩ := h.row
 refine ⟨F0, ⟨cs, h1, ?_⟩, h3, fun f hf => (h4 f hf).1, h5⟩
 rw [List.take_length, List.take_of_length_le (by rw [h1.1]; exact Nat.le_refl _)]
 exact h2
theorem ownsRow_turn {w w' : World} {B e size n : Nat} {sl : Value} {xs : List Value} (h : w.ownsRow B e size sl n xs) (hb : ∀ b, sl.ownBlock = some b → w'.heap[b]? = w.heap[b]?) : w'.ownsRow B e size sl n xs := by
 refine ⟨h.1, ?_⟩
 rcases h.2 with hn | ⟨g, cap, cur, e, h1, h2, h3⟩
 · exact Or.inl hn
 · exact Or.inr ⟨g, cap, cur, e, h1, (hb g (by rw [e]; rfl)).trans h2, h3⟩
theorem RJ.turn {e : TypeId} {w w' : World} {ks : List Tm} {sl : Value} {j : Nat} {Fj : List Nat} (h : RJ e w ks sl j Fj) (hs : ∀ b, sl.ownBlock = some b → w'.heap[b]? = w.heap[b]?) (hF : ∀ f ∈ Fj, w'.heap[f]? = w.heap[f]?) : RJ e w' ks sl j Fj := by
 obtain ⟨cs, h1, h2⟩ := h
 exact ⟨cs, ownsRow_turn h1 hs, OwnRow.keep _ _ _ h2 hF⟩
theorem RJ.item {e : TypeId} {w : World} {ks : List Tm} {ao : Option Addr} {KN cap i : Nat} {Fj : List Nat} (h : RJ e w ks (.slice ao KN cap) (i + 1) Fj) (hi : i < ks.length) :
   ∃ gb k s n a2 l2 p2 F1 F2, ao = some ⟨gb, 0, none⟩ ∧ w.cell? ⟨gb, i * 4, none⟩ = some (.int .i64 k) ∧ w.cell? ⟨gb, i * 4 + 1, none⟩ = some (.string s) ∧ w.cell? ⟨gb, i * 4 + 2, none⟩ = some (.int .i64 n) ∧ w.cell? ⟨gb, i * 4 + 3, none⟩ = some (.slice a2 l2 p2) ∧
     Own e w ks[i] (.agg #[.int .i64 k, .string s, .int .i64 n, .slice a2 l2 p2]) F2 ∧ Fj = F1 ++ F2 ∧ RJ e w ks (.slice ao KN cap) i F1 := by
 obtain ⟨cs, h1, h2⟩ := h
 rw [List.take_succ_eq_append_getElem hi] at h2
 obtain ⟨cs', c0, c1, c2, c3, F1, F2, e1, rfl, h3, h4⟩ := OwnRow.unsnoc _ _ _ h2
 obtain ⟨k, s, n, a2, l2, p2, e2⟩ := own_shape h4
 simp only [Value.agg.injEq, Array.mk.injEq, List.cons.injEq, and_true] at e2
 obtain ⟨rfl, rfl, rfl, rfl⟩ := e2
 have hl := OwnRow.len _ _ _ h3
 have hlen : cs.length = ks.length * 4 := h1.1
 rw [List.length_take] at hl
 have hil : min i ks.length = i := by omega
 rw [hil] at hl
 rcases h1.2 with ⟨_, hz⟩ | ⟨gb, cap', cur, hsl, _⟩
 · omega
 obtain ⟨rfl, _, _⟩ := Value.slice.inj hsl
 have hc : ∀ q, q < 4 → cs[i * 4 + q]? = [.int .i64 k, .string s, .int .i64 n, Value.slice a2 l2 p2][q]? := by
   intro q hq
   have : (cs.take ((i + 1) * 4))[i * 4 + q]? = cs[i * 4 + q]? := by rw [List.getElem?_take, if_pos (by omega)]
   rw [← this, e1, List.getElem?_append_right (by omega), hl, show i * 4 + q - i * 4 = q by omega]
 have hcell : ∀ q, q < 4 → w.cell? ⟨gb, i * 4 + q, none⟩ = [.int .i64 k, .string s, .int .i64 n, Value.slice a2 l2 p2][q]? := by
   intro q hq
   rw [← hc q hq]
   have h1' := h1
   rw [hsl] at h1'
   exact h1'.cellAt _ (by omega)
 refine ⟨gb, k, s, n, a2, l2, p2, F1, F2, rfl, by simpa using hcell 0 (by omega), by simpa using hcell 1 (by omega), by simpa using hcell 2 (by omega), by simpa using hcell 3 (by omega), h4, rfl, cs, h1, ?_⟩
 have : cs.take (i * 4) = cs' := by
   have h5 : (cs.take ((i + 1) * 4)).take (i * 4) = cs.take (i * 4) := by rw [List.take_take]; congr 1; omega
   rw [← h5, e1, List.take_append_of_le_length (by omega), List.take_of_length_le (by omega)]
 rw [this]
 exact h3
end Go.Proofs.YtbkjcccbjnehbanGreatDoor

namespace Go.Proofs.YtbkjcccbjnehbanGreatDoor
open Go.RowKit
set_option maxHeartbeats 4000000 in
theorem s_row_nil (f g : Nat) (L : List Sg) (lv nv : Value) (e0 : Nat) (r r' : List Sg) (names : List ByteArray) (w : World) (hL : L.length ≤ 3000) (h : SRd g L lv nv w (some (e0, ⟨r, names⟩))) (hr : mk? cRbr r = some r') :
   Calls Tryz.prog 63 #[.pointer (some ⟨g, 0, none⟩)] w fun e w' => ∃ v, e = .returned v ∧ TmR g L lv nv w v w' (listO (termO true f) r names) e0 := by
 have eR : listO (termO true f) r names = some (nilTm, ⟨r', names⟩) := by unfold listO; rw [hr]
 rw [eR]
 clear eR
 obtain ⟨W, hW⟩ : ∃ W, W = w.alloc (.cells #[.int .i64 0, .string ⟨#[]⟩, .int .i64 0, .slice none 0 0] 24) := ⟨_, rfl⟩
 have bW : Below w.heap.size w W := by rw [hW]; exact (Below.refl _ _).alloc (Nat.le_refl _) _
 have sW : W.heap.size = w.heap.size + 1 := by rw [hW]; simp
 have kW : W.heap[w.heap.size]? = some (.cells #[.int .i64 0, .string ⟨#[]⟩, .int .i64 0, .slice none 0 0] 24 (0, 0)) := by rw [hW]; exact heap_alloc_new _ _
 have SW := h.keep bW
 have HS0 : Hid (SRd g L lv nv w (some (e0, ⟨r, names⟩))) := h
 have HKW : Hid (W.heap[w.heap.size]? = some (.cells #[.int .i64 0, .string ⟨#[]⟩, .int .i64 0, .slice none 0 0] 24 (0, 0))) := kW
 have HBW : Hid (Below w.heap.size w W) := bW
 have HSW : Hid (W.heap.size = w.heap.size + 1) := sW
 have HGW : Hid (g < w.heap.size) := h.lt
 have HL : Hid (L.length ≤ 3000) := hL
 have HSWW : Hid (SRd g L lv nv W (some (e0, ⟨r, names⟩))) := SW
 have HM : Hid _ := s_mark_yes g L lv nv e0 ⟨r, names⟩ ⟨#[93]⟩ r' W hL cRbr_ne SW hr
 have HA : Hid _ := fun wq => s_atom (XS g nv) ⟨#[91, 93]⟩ wq (by decide)
 clear h bW sW kW SW hL hr HSWW
 go_enter Tryz.func63, Tryz.ntmps63
 go_wp2_with (first
   | (go_at_call 61; rw [← hW]; go_loud (refine Calls.mono HM.out ?_); rintro e w1 ⟨rfl, hs1, hx1⟩; have HS1 : Hid (SRd g L lv nv w1 (some (e0, ⟨r', names⟩))) := hs1; have HX1 : Hid (FX (XS g nv) (XS g nv) W w1) := hx1; clear hs1 hx1 hW)
   | (go_at_call 80; go_loud (refine Calls.mono (HA.out _) ?_); rintro e w4 ⟨v, rfl, ht, hb⟩; have HT4 : Hid (TOk 24 (XS g nv) w1.heap.size w4 (atomTm ⟨#[91, 93]⟩) v []) := ht; have HB4 : Hid (Below w1.heap.size w1 w4) := hb; have HXT : Hid (FX (XS g nv) (XS g nv) W w4) := HX1.out.trans (FX.of_below hb); obtain ⟨k1, s1, n1, ao1, ln1, cp1, rfl⟩ := ht.form; have hk := res_keep HS0.out HSW.out HXT.out HKW.out; obtain ⟨z0, z1, z2, z3, q0, q1, q2, q3⟩ := blk4 hk; clear ht hb))
 refine bodyPost_ret_by (results_cell_row rfl _ _ w.heap.size 24 _ (0, 0) _ rfl (blk4_set hk) Tryz.underlying24 rfl (by kernel_rfl)) rfl ?_
 exact ⟨_, rfl, TmR.fin HS0.out HBW.out HSW.out HXT.out (HT4.out.lo_le HX1.out.size) (fun y hy => by cases hy; rfl) (HS1.out.keep HB4.out)⟩
set_option maxHeartbeats 16000000 in
set_option maxRecDepth 20000 in
theorem s_row_some (f g : Nat) (L : List Sg) (lv nv : Value) (e0 : Nat) (r : List Sg) (names : List ByteArray) (w : World) (hf : e0 + f = 130) (hL : L.length ≤ 3000) (HT : TermC f g L lv) (h : SRd g L lv nv w (some (e0, ⟨r, names⟩))) (hr : mk? cRbr r = none) :
   Calls Tryz.prog 63 #[.pointer (some ⟨g, 0, none⟩)] w fun e w' => ∃ v, e = .returned v ∧ TmR g L lv nv w v w' (listO (termO true f) r names) e0 := by
 obtain ⟨i0, hi, hz0, hz1, hz2⟩ := info_partsS infoT
 obtain ⟨T, hT⟩ : ∃ T, T = rowO (termO true f) [] ⟨r, names⟩ := ⟨_, rfl⟩
 have eR : listO (termO true f) r names = T.map fun y => (consTm y.1 y.2.1, y.2.2) := by
   unfold listO
   rw [hr, ← hT]
   cases T <;> rfl
 rw [eR]
 clear eR
 obtain ⟨W, hW⟩ : ∃ W, W = w.alloc (.cells #[.int .i64 0, .string ⟨#[]⟩, .int .i64 0, .slice none 0 0] 24) := ⟨_, rfl⟩
 have bW : Below w.heap.size w W := by rw [hW]; exact (Below.refl _ _).alloc (Nat.le_refl _) _
 have sW : W.heap.size = w.heap.size + 1 := by rw [hW]; simp
 have kW : W.heap[w.heap.size]? = some (.cells #[.int .i64 0, .string ⟨#[]⟩, .int .i64 0, .slice none 0 0] 24 (0, 0)) := by rw [hW]; exact heap_alloc_new _ _
 have SW := h.keep bW
 have HS0 : Hid (SRd g L lv nv w (some (e0, ⟨r, names⟩))) := h
 have HKW : Hid (W.heap[w.heap.size]? = some (.cells #[.int .i64 0, .string ⟨#[]⟩, .int .i64 0, .slice none 0 0] 24 (0, 0))) := kW
 have HBW : Hid (Below w.heap.size w W) := bW
 have HSW : Hid (W.heap.size = w.heap.size + 1) := sW
 have HGW : Hid (g < w.heap.size) := h.lt
 have HL : Hid (L.length ≤ 3000) := hL
 have HSWW : Hid (SRd g L lv nv W (some (e0, ⟨r, names⟩))) := SW
 have HM : Hid _ := s_mark_no g L lv nv _ ⟨#[93]⟩ W cRbr_ne SW (fun d st e => by cases e; exact hr)
 have HA : Hid _ := fun wq => s_atom (XS g nv) ⟨#[91, 93]⟩ wq (by decide)
 have HTT : Hid (∀ nv' W' st, SRd g L lv nv' W' (some (e0, st)) → Calls Tryz.prog 27 #[.pointer (some ⟨g, 0, none⟩), .int .i64 999] W' fun e w' => ∃ v, e = .returned v ∧ TmR g L lv nv' W' v w' (termO true f 999 st) e0) := fun nv' W' st hs => HT e0 999 st nv' W' hf hs
 have HI0 : Hid (RowI f e0 (some (e0, ⟨r, names⟩)) [] T) := Or.inr ⟨_, rfl, hT.symm, by
   obtain ⟨_, _, _, _, _, _, _, _, _, _, p, _, hp, hd, _⟩ := h.ex
   simp only at hd
   rw [← hd]; simp; omega⟩
 clear h bW sW kW SW hL hr HT hT hf
 go_enter Tryz.func63, Tryz.ntmps63
 go_wp2_with (first
   | (go_at_call 61; rw [← hW]; go_loud (refine Calls.mono HM.out ?_); rintro e w1 ⟨rfl, hb1⟩; have HB1 : Hid (Below W.heap.size W w1) := hb1; clear hb1 hW)
   | (go_at_call 80; go_loud (refine Calls.mono (HA.out _) ?_); rintro e w4 ⟨v, rfl, ht, hb⟩; have HT4 : Hid (TOk 24 (XS g nv) (w1.alloc (.cells #[] 24)).heap.size w4 (atomTm ⟨#[91, 93]⟩) v []) := ht; have HB4 : Hid (Below (w1.alloc (.cells #[] 24)).heap.size (w1.alloc (.cells #[] 24)) w4) := hb; obtain ⟨k1, s1, n1, ao1, ln1, cp1, rfl⟩ := ht.form; clear ht hb))
 obtain ⟨W5, hW5⟩ : ∃ W5, W5 = w4.alloc (.cells #[.int .i64 k1, .string s1, .int .i64 n1, .slice ao1 ln1 cp1] 24) := ⟨_, rfl⟩
 rw [← hW5]
 obtain ⟨B4, hB4⟩ : ∃ B4, B4 = w4.heap.size := ⟨_, rfl⟩
 rw [← hB4]
 have hb1 := HB1.out.size
 have hb4 := HB4.out.size
 simp at hb4
 have b45 : Below w4.heap.size w4 W5 := by rw [hW5]; exact (Below.refl _ _).alloc (Nat.le_refl _) _
 have b15 : Below w1.heap.size w1 W5 := (((Below.refl _ _).alloc (Nat.le_refl _) _).trans (HB4.out.mono (by simp))).trans (b45.mono (by omega))
 have HB5 : Hid (Below W.heap.size W W5) := HB1.out.trans (b15.mono hb1)
 have HK5 : Hid (W5.heap[B4]? = some (.cells #[.int .i64 k1, .string s1, .int .i64 n1, .slice ao1 ln1 cp1] 24 (0, 0))) := by rw [hW5, hB4]; exact heap_alloc_new _ _
 have HB4W : Hid (W.heap.size < B4) := by show _ < _; omega
 have HNX : Hid (¬ XS g nv B4) := HSWW.out.xnew _ (Nat.le_of_lt HB4W.out)
 have HNIL : Hid (∀ X lo w', TOk 24 X lo w' nilTm (.agg #[.int .i64 k1, .string s1, .int .i64 n1, .slice ao1 ln1 cp1]) []) := fun X lo w' => ⟨Own.keep _ _ [] HT4.out.own (fun f hf => by cases hf), List.nodup_nil, fun f hf => by cases hf⟩
 have HR5 : Hid (ROk 24 (XB g nv B4) W.heap.size W5 [] (.slice (some ⟨w1.heap.size, 0, none⟩) 0 0) [w1.heap.size]) := by
   have h0 : ROk 24 (XB g nv B4) W.heap.size (w1.alloc (.cells #[] 24)) [] (.slice (some ⟨w1.heap.size, 0, none⟩) 0 0) [w1.heap.size] := ROk.fresh hb1 (fun hx => hx.elim (HSWW.out.xnew _ hb1) (fun e => by omega))
   exact (h0.step (FX.of_below HB4.out)).step (FX.of_below b45)
 have HS5 : Hid (SRd g L lv nv W5 (some (e0, ⟨r, names⟩))) := HSWW.out.keep HB5.out
 clear hb1 hb4 b45 b15 hW5 hB4 HB4 HT4 HB1 HA HM
 generalize hE : w1.heap.size = bE at *
 clear hE
 go_loopw [3] (fun vi wr => ∃ (nv' : Value) (ks : List Tm) (KN : Nat) (ao : Option Addr) (cap : Nat) (F : List Nat) (o : Option (Nat × St)), vi = .slice ao KN cap ∧ Hid (KN = ks.length) ∧ Hid (ROk 24 (XB g nv' B4) W.heap.size wr ks (.slice ao KN cap) F) ∧ Hid (wr.heap[B4]? = some (.cells #[.int .i64 k1, .string s1, .int .i64 n1, .slice ao1 ln1 cp1] 24 (0, 0))) ∧ Hid (SRd g L lv nv' wr o) ∧ Hid (FX (XS g nv) (XS g nv') W wr) ∧ Hid (¬ XS g nv' B4) ∧ Hid (RowI f e0 o ks T)) (fun _ wr => msr g L.length wr)
 case atStart => exact ⟨nv, [], 0, _, 0, _, _, rfl, rfl, HR5.out, HK5.out, HS5.out, FX.of_below HB5.out, HNX.out, HI0.out⟩
 case round =>
   obtain ⟨nv', ks, KN, ao, cap, F, o, rfl, HKN, HR, HK, HS, HX, HN, HI⟩ := hrel
   rcases HI.out with ⟨rfl, hTn, hk3⟩ | ⟨st, rfl, hTs, hk3⟩
   · obtain ⟨ba, bdv, hbg⟩ := HS.out.bad
     obtain ⟨c0, c1, c2, c3, c4, cf⟩ := b5f hbg
     have HTZ : Hid (∀ y, T = some y → ks = y.1 ∧ nilTm = y.2.1) := by intro y hy; rw [hTn] at hy; cases hy
     have HSZ : Hid (SRd g L lv nv' wr (T.map fun y => (e0, y.2.2))) := by rw [hTn]; exact HS.out
     have hKN3 : (KN : Int) ≤ 3001 := by have := HKN.out; omega
     clear hbg cf hTn hk3 c0 c1 c3 c4
     obtain ⟨FJ, hj1, hj2, hj3, hj4⟩ := RJ.first HR.out
     have HJZ : Hid (RJ 24 wr ks (.slice ao KN cap) KN FJ ∧ FJ.Nodup ∧ (∀ f ∈ FJ, f ∈ F) ∧ (∀ b, (Value.slice ao KN cap).ownBlock = some b → b ∈ F)) := by
       have e := HKN.out
       rw [← e] at hj1
       exact ⟨hj1, hj2, hj3, hj4⟩
     clear hj1 hj2 hj3 hj4
     have HRZ : Hid (ROk 24 (XB g nv' B4) W.heap.size wr ks (.slice ao KN cap) F) := HR.out
     have HKNZ : Hid (KN = ks.length) := HKN.out
     have HKZ : Hid _ := HK.out
     have HTLZ : Hid _ := HNIL.out (XB g nv' B4) W.heap.size wr
     have HDZ : Hid (∀ f ∈ F, ∀ h ∈ ([] : List Nat), f ≠ h) := by intro f _ h hh; cases hh
     have HXZ : Hid _ := HX.out
     have HNZ : Hid (¬ XS g nv' B4) := HN.out
     have HFZ : Hid (∀ f ∈ F, W.heap.size ≤ f ∧ ¬ XB g nv' B4 f) := HRZ.out.out
     have HOZ : Hid (∀ b, (Value.slice ao KN cap).ownBlock = some b → b ∈ F) := HJZ.out.2.2.2
     go_wp2
     go_loopw [5] (fun vi wq => ∃ (j : Nat) (z : Int) (Fj Ft : List Nat) (tt : Tm) (m1 : Int) (m2 : ByteArray) (m3 : Int) (m4 : Option Addr) (m5 m6 : Nat), j ≤ KN ∧ vi = .int .i64 z ∧ Hid (z = (j : Int) - 1) ∧ Hid (RJ 24 wq ks (.slice ao KN cap) j Fj ∧ Fj.Nodup ∧ ∀ f ∈ Fj, f ∈ F) ∧ Hid (wq.heap[B4]? = some (.cells #[.int .i64 m1, .string m2, .int .i64 m3, .slice m4 m5 m6] 24 (0, 0))) ∧ Hid (TOk 24 (XB g nv' B4) W.heap.size wq tt (.agg #[.int .i64 m1, .string m2, .int .i64 m3, .slice m4 m5 m6]) Ft) ∧ Hid (∀ f ∈ Fj, ∀ h ∈ Ft, f ≠ h) ∧ Hid (SRd g L lv nv' wq (T.map fun y => (e0, y.2.2))) ∧ Hid (FX (XS g nv) (XS g nv') W wq) ∧ Hid (consTm (ks.take j) tt = consTm ks nilTm) ∧ Hid (∀ f ∈ F, f < wq.heap.size)) (fun i _ => (intOf i + 1).toNat)
     case atStart => exact ⟨KN, _, FJ, [], nilTm, k1, s1, n1, ao1, ln1, cp1, Nat.le_refl _, rfl, rfl, ⟨HJZ.out.1, HJZ.out.2.1, HJZ.out.2.2.1⟩, HKZ.out, HTLZ.out, (fun f hf h hh => HDZ.out f (HJZ.out.2.2.1 f hf) h hh), HSZ.out, HXZ.out, (by show _ = _; rw [HKNZ.out, List.take_length]), HRZ.out.lt⟩
     case round =>
       obtain ⟨j, z, Fj, Ft, tt, m1, m2, m3, m4, m5, m6, hjK, rfl, HZ, HRJ, HKB, HTT2, HDD, HSS, HXX, HCC, HFF⟩ := hrel
       rcases j with _ | i
       · obtain rfl : z = -1 := by have := HZ.out; simpa using this
         have hk := res_keep HS0.out HSW.out HXX.out HKW.out
         obtain ⟨z0, z1, z2, z3, q0, q1, q2, q3⟩ := blk4 hk
         obtain ⟨g0, g1, g2, g3, _⟩ := blk4 HKB.out
         have HK9 : Hid _ := hk
         clear hk
         go_wp2
         refine bodyPost_ret_by (results_cell_row rfl _ _ w.heap.size 24 _ (0, 0) _ rfl (blk4_set HK9.out) Tryz.underlying24 rfl (by kernel_rfl)) rfl ?_
         refine ⟨_, rfl, TmR.fin HS0.out HBW.out HSW.out HXX.out HTT2.out.weak ?_ ?_⟩
         · intro y hy
           obtain ⟨zz, hzz, rfl⟩ := Option.map_eq_some_iff.1 hy
           have hc := HCC.out
           obtain ⟨e1, e2⟩ := HTZ.out zz hzz
           rw [List.take_zero] at hc
           simp only
           rw [← e1, ← e2]
           exact hc
         · rw [Option.map_map]; exact HSS.out
       · obtain rfl : z = (i : Int) := by have := HZ.out; omega
         have hiK : i < KN := by omega
         have hil : i < ks.length := by have := HKNZ.out; omega
         obtain ⟨gb, x1, x2, x3, x4, x5, x6, F1, F2, hao, t0, t1, t2, t3, hown, hFj, hRJ1⟩ := RJ.item HRJ.out.1 hil
         obtain ⟨g0, g1, g2, g3, _⟩ := blk4 HKB.out
         obtain ⟨kt, hkt⟩ : ∃ kt, kt = ks[i] := ⟨_, rfl⟩
         have hnd := HRJ.out.2.1
         rw [hFj] at hnd
         obtain ⟨hn1, hn2, hn3⟩ := List.nodup_append.1 hnd
         have hF12 : ∀ f, f ∈ F1 ∨ f ∈ F2 → f ∈ F := fun f hf => HRJ.out.2.2 f (by rw [hFj]; exact List.mem_append.2 hf)
         have HIT : Hid (TOk 24 (XB g nv' B4) W.heap.size wr kt (.agg #[.int .i64 x1, .string x2, .int .i64 x3, .slice x4 x5 x6]) F2) := ⟨by rw [hkt]; exact hown, hn2, fun f hf => HFZ.out f (hF12 f (Or.inr hf))⟩
         have HRJ1 : Hid (RJ 24 wr ks (.slice ao KN cap) i F1 ∧ F1.Nodup ∧ ∀ f ∈ F1, f ∈ F) := ⟨hRJ1, hn1, fun f hf => hF12 f (Or.inl hf)⟩
         have HD2 : Hid (∀ f ∈ F2, ∀ h ∈ Ft, f ≠ h) := fun f hf h hh => HDD.out f (by rw [hFj]; exact List.mem_append.2 (Or.inr hf)) h hh
         have HD1 : Hid (∀ f ∈ F1, f ∉ F2 ∧ f ∉ Ft) := fun f hf => ⟨fun h2 => hn3 f hf f h2 rfl, fun h2 => HDD.out f (by rw [hFj]; exact List.mem_append.2 (Or.inl hf)) f h2 rfl⟩
         have HCN : Hid (consTm (ks.take i) (structTm ⟨#[46]⟩ [kt, tt]) = consTm ks nilTm) := by
           have := HCC.out
           rw [List.take_succ_eq_append_getElem hil, consTm_snoc, ← hkt] at this
           exact this
         subst hao
         have y0 := fun u => cell_keep t0 (later_below wr u)
         have y1 := fun u => cell_keep t1 (later_below wr u)
         have y2 := fun u => cell_keep t2 (later_below wr u)
         have y3 := fun u => cell_keep t3 (later_below wr u)
         have y4 := fun u => cell_keep g0 (later_below wr u)
         have y5 := fun u => cell_keep g1 (later_below wr u)
         have y6 := fun u => cell_keep g2 (later_below wr u)
         have y7 := fun u => cell_keep g3 (later_below wr u)
         clear t0 t1 t2 t3 g0 g1 g2 g3 hown hFj hRJ1 hnd hn1 hn2 hn3 hF12 HRJ HDD HCC hkt hil HZ hjK
         go_upto_region 15 with fail
         refine wp_region_tail 5 (by kernel_rfl) (by kernel_rfl) ?_
         simp only [List.take_succ_cons, List.take_zero, List.drop_succ_cons, List.drop_zero]
         repeat (go_big_quiet_step (skip))
         refine wpQuiet_nil ?_
         rintro _ ⟨u3, rfl⟩
         have HB3 : Hid (Below wr.heap.size wr (later wr u3)) := later_below wr u3
         clear y0 y1 y2 y3 y4 y5 y6 y7
         generalize later wr u3 = w3 at *
         have HTW : Hid _ := s_two (XB g nv' B4) W.heap.size ⟨#[46]⟩ kt tt _ _ F2 Ft w3 (HIT.out.step (FX.of_below HB3.out)) (HTT2.out.step (FX.of_below HB3.out)) HD2.out (Nat.le_trans HXX.out.size HB3.out.size) (fun k hk hx => hx.elim ((HSS.out.keep HB3.out).xnew k hk) (fun e => by have := (Array.getElem?_eq_some_iff.1 HKB.out).1; have := HB3.out.size; omega)) (by decide)
         go_wp2_with (go_at_call 43; go_loud (refine Calls.mono HTW.out ?_); rintro e w4 ⟨v, Fn, rfl, ht, hsub, hb⟩; have HTN : Hid (TOk 24 (XB g nv' B4) W.heap.size w4 (structTm ⟨#[46]⟩ [kt, tt]) v Fn) := ht; have HSUB : Hid (∀ f ∈ Fn, f ∈ F2 ∨ f ∈ Ft ∨ w3.heap.size ≤ f) := hsub; have HB4' : Hid (Below wr.heap.size wr w4) := HB3.out.trans (hb.mono HB3.out.size); obtain ⟨h1, h2, h3, h4, h5, h6, rfl⟩ := ht.form; have hkb := (HB4'.out.block B4 (Array.getElem?_eq_some_iff.1 HKB.out).1).trans HKB.out; obtain ⟨g0, g1, g2, g3, fg0, fg1, fg2, fg3⟩ := blk4 hkb; have HKB4 : Hid _ := hkb; clear ht hsub hb hkb)
         go_roundw
         case rel =>
           have hb34 := HB4'.out
           have hBlt : B4 < wr.heap.size := (Array.getElem?_eq_some_iff.1 HKB.out).1
           have hB4W := HB4W.out
           have hgW : g < W.heap.size := by have := HGW.out; have := HSW.out; omega
           have x4 : FX (XS g nv') (XS g nv') wr w4 := FX.of_below hb34
           have hoth : ∀ f ∈ F, (((((w4.setCell ⟨B4, 0, none⟩ (.int .i64 h1)).setCell ⟨B4, 1, none⟩ (.string h2)).setCell ⟨B4, 2, none⟩ (.int .i64 h3)).setCell ⟨B4, 3, none⟩ (.slice h4 h5 h6))).heap[f]? = wr.heap[f]? := fun f hf => (blk4_other (fun e => (HFZ.out f hf).2 (Or.inr e))).trans (hb34.block f (HFF.out f hf))
           refine ⟨i, (i : Int) - 1, F1, Fn, structTm ⟨#[46]⟩ [kt, tt], h1, h2, h3, h4, h5, h6, by omega, by go_num, rfl, ?_, ?_, ?_, ?_, ?_, ?_, HCN.out, ?_⟩
           · exact ⟨HRJ1.out.1.turn (fun b hb => hoth b (HOZ.out b hb)) (fun f hf => hoth f (HRJ1.out.2.2 f hf)), HRJ1.out.2.1, HRJ1.out.2.2⟩
           · exact blk4_set HKB4.out
           · exact HTN.out.turn fun k hk hx => blk4_other (fun e => hx (Or.inr e))
           · intro f hf h hh e
             subst e
             rcases HSUB.out f hh with h' | h' | h'
             · exact (HD1.out f hf).1 h'
             · exact (HD1.out f hf).2 h'
             · have := HFF.out f (HRJ1.out.2.2 f hf); have := HB3.out.size; omega
           · have s4 := HSS.out.keep hb34
             exact (((s4.setB HNZ.out (by omega) _).setB HNZ.out (by omega) _).setB HNZ.out (by omega) _).setB HNZ.out (by omega) _
           · exact ((((HXX.out.trans x4).set (Or.inr (by omega)) _).set (Or.inr (by omega)) _).set (Or.inr (by omega)) _).set (Or.inr (by omega)) _
           · intro f hf
             have := HFF.out f hf
             have := hb34.size
             simp [World.setCell]; omega
         case measure => simp [intOf]
   · have HBL : Hid (B4 < wr.heap.size) := (Array.getElem?_eq_some_iff.1 HK.out).1
     have hKN3 : (KN : Int) ≤ 3000 := by have := HKN.out; omega
     obtain ⟨R1, hR1⟩ : ∃ R1, R1 = termO true f 999 st := ⟨_, rfl⟩
     have HT1 := HTT.out nv' wr st HS.out
     rw [← hR1] at HT1
     have HT1 : Hid _ := HT1
     rw [rowO_step, ← hR1] at hTs
     obtain ⟨ga, gbad, gdv, gnm, hg0, _, _, hgb, _⟩ := HS.out.ex
     subst hgb
     obtain ⟨c0, c1, c2, c3, c4, cf⟩ := b5f hg0
     have HMS : Hid (msr g L.length wr = st.rest.length + 1) := msr_some HS.out
     have HSH : Hid (∀ y, R1 = some y → y.2.rest.length < st.rest.length) := by intro y hy; rw [hR1] at hy; exact termO_short true f _ _ y.1 y.2 hy
     have HK3 : Hid (ks.length + st.rest.length ≤ 3000) := hk3
     clear hR1 hg0 cf c0 c1 c3 c4 hk3
     by_cases hB : ∃ y r, R1 = some y ∧ mk? cRbr y.2.rest = some r
     · obtain ⟨y, r2, hy, hr2⟩ := hB
       have HTN : Hid (T = some (ks ++ [y.1], nilTm, ⟨r2, y.2.names⟩)) := by
         show _ = _
         rw [← hTs, hy]; simp only; rw [hr2]
       have HY0 : Hid (R1 = some y) := hy
       have HMY : Hid (mk? ⟨#[93]⟩ y.2.rest = some r2) := hr2
       clear hTs hy hr2
       go_wp2_with (first | (go_at_call 27; go_loud (refine Calls.mono HT1.out ?_); rintro e w3 ⟨v, rfl, t, F2, nv2, ht, hR, hs, hx⟩; have HT3 : Hid (TOk 24 (XS g nv2) wr.heap.size w3 t v F2) := ht; have HR3 : Hid (∀ y, R1 = some y → t = y.1) := hR; have HS3 : Hid (SRd g L lv nv2 w3 (R1.map fun y => (e0, y.2))) := hs; have HX3 : Hid (FX (XS g nv') (XS g nv2) wr w3) := hx; obtain ⟨x1, x2, x3, x4, x5, x6, rfl⟩ := ht.form; clear ht hR hs hx; have HY : Hid (∃ cs F0, (w3.alloc (.cells #[.int .i64 x1, .string x2, .int .i64 x3, .slice x4 x5 x6] 24)).ownsRow 0 24 4 (.slice ao KN cap) KN cs ∧ OwnRow 24 (w3.alloc (.cells #[.int .i64 x1, .string x2, .int .i64 x3, .slice x4 x5 x6] 24)) ks cs F0 ∧ F0.Nodup ∧ (∀ f ∈ F0, f ∈ F ∧ (Value.slice ao KN cap).ownBlock ≠ some f) ∧ (∀ b, (Value.slice ao KN cap).ownBlock = some b → b ∈ F)) := (by (have hyy := ((HR.out.step HX3.out.lift).step (FX.of_below ((Below.refl _ _).alloc (Nat.le_refl _) (.cells #[.int .i64 x1, .string x2, .int .i64 x3, .slice x4 x5 x6] 24)))).row); rw [← HKN.out] at hyy; exact hyy); obtain ⟨cs, F0, y1, y2, y3, y4, y5⟩ := HY.out; have HY1 : Hid _ := y1; have HY2 : Hid _ := y2; have HY3 : Hid _ := y3; have HY4 : Hid _ := y4; have HY5 : Hid _ := y5; clear HY y1 y2 y3 y4 y5) | (at_builtin; go_loud (refine wpList_append_own_at _ rfl _ _ 22 rfl 0 24 i0 (.agg #[.int .i64 0, .string ⟨#[]⟩, .int .i64 0, .slice none 0 0]) 4 56 Tryz.underlying22 hi hz0 hz1 hz2 rfl (by decide) _ _ _ rfl HY1.out ⟨w3.heap.size, 0, none⟩ 1 1 [.int .i64 x1, .string x2, .int .i64 x3, .slice x4 x5 x6] rfl rfl ?c1 ?c2 ?c3 ?c4 ?c5 ?_)))
       case c1 =>
         have hn := blk4 (heap_alloc_new w3 (.cells #[.int .i64 x1, .string x2, .int .i64 x3, .slice x4 x5 x6] 24))
         intro q z hq
         match q, hq with
         | 0, hq => simp at hq; subst hq; exact hn.1
         | 1, hq => simp at hq; subst hq; exact hn.2.1
         | 2, hq => simp at hq; subst hq; exact hn.2.2.1
         | 3, hq => simp at hq; subst hq; exact hn.2.2.2.1
       case c2 => intro z hz; simp at hz; rcases hz with rfl | rfl | rfl | rfl <;> rfl
       case c3 => unfold maxLen; omega
       case c4 => omega
       case c5 => omega
       intro v' w6 hown' hgrow _ hat
       obtain ⟨w5, hw5⟩ : ∃ w5, w5 = w3.alloc (.cells #[.int .i64 x1, .string x2, .int .i64 x3, .slice x4 x5 x6] 24) := ⟨_, rfl⟩
       have b35 : Below w3.heap.size w3 w5 := by rw [hw5]; exact (Below.refl _ _).alloc (Nat.le_refl _) _
       have hat5 : v'.ownBlock = (Value.slice ao KN cap).ownBlock ∨ v'.ownBlock = some w5.heap.size := by rw [hw5]; simpa using hat
       rw [← hw5] at hgrow HY1 HY2
       clear hat hw5
       have hKN := HKN.out
       have hbl := HBL.out
       have hx3s := HX3.out.size
       have hxs := HX.out.size
       have AS := app_step2 (W := W) ((HR.out.step HX3.out.lift).step (FX.of_below b35)) (((HT3.out.lift hbl).lo_le hxs).step (FX.of_below b35)) (fun f hf g' hg' => by have := HR.out.lt f hf; have := (HT3.out.out g' hg').1; omega) HY2.out HY3.out HY4.out HY5.out (by rw [← hKN]; exact hown') hgrow hat5 (HS3.out.keep b35) ((HX.out.trans HX3.out).trans (FX.of_below b35)) rfl (by have := HGW.out; have := HSW.out; omega) (by have := b35.size; omega)
       obtain ⟨F7, hr6, hs6, hx6, hk6, _⟩ := AS
       obtain ⟨a2', cp2, hv2⟩ : ∃ ao cap, v' = .slice ao (KN + 1) cap := by obtain ⟨ao', cap', e⟩ := hr6.slice; exact ⟨ao', cap', by rw [e, hKN]; simp⟩
       subst hv2
       have HN3 : Hid (¬ XS g nv2 B4) := XS_keep HN.out HX3.out hbl
       have HK6 : Hid (w6.heap[B4]? = some (.cells #[.int .i64 k1, .string s1, .int .i64 n1, .slice ao1 ln1 cp1] 24 (0, 0))) := hk6.trans ((b35.block B4 (by omega)).trans ((HX3.out.block B4 hbl HN.out).trans HK.out))
       have HR6 : Hid (ROk 24 (XB g nv2 B4) W.heap.size w6 (ks ++ [t]) (.slice a2' (KN + 1) cp2) F7) := hr6
       have HS6 : Hid (SRd g L lv nv2 w6 (R1.map fun y => (e0, y.2))) := hs6
       have HX6 : Hid (FX (XS g nv) (XS g nv2) W w6) := hx6
       have HKN6 : Hid (KN + 1 = (ks ++ [t]).length) := by show _ = _; rw [hKN]; simp
       clear hr6 hs6 hx6 hk6 hown' hgrow hat5 b35 HY1 HY2 HY3 HY4 HY5 hKN hbl hx3s hxs
       have S6 : SRd g L lv nv2 w6 (some (e0, y.2)) := by have := HS6.out; rw [HY0.out] at this; exact this
       have HMM : Hid _ := s_mark_yes g L lv nv2 e0 y.2 ⟨#[93]⟩ r2 w6 HL.out cRbr_ne S6 HMY.out
       clear S6
       go_upto_region 12 with (go_at_call 61; go_loud (refine Calls.mono HMM.out ?_); rintro e w8 ⟨rfl, hs8, hx8⟩; have HS8 : Hid (SRd g L lv nv2 w8 (some (e0, ⟨r2, y.2.names⟩))) := hs8; have HX8 : Hid (FX (XS g nv2) (XS g nv2) w6 w8) := hx8; clear hs8 hx8)
       have HRZ : Hid (ROk 24 (XB g nv2 B4) W.heap.size w8 (ks ++ [t]) (.slice a2' (KN + 1) cp2) F7) := HR6.out.step HX8.out.lift
       have HKNZ : Hid (KN + 1 = (ks ++ [t]).length) := HKN6.out
       have HKZ : Hid (w8.heap[B4]? = some (.cells #[.int .i64 k1, .string s1, .int .i64 n1, .slice ao1 ln1 cp1] 24 (0, 0))) := (HX8.out.block B4 (Array.getElem?_eq_some_iff.1 HK6.out).1 HN3.out).trans HK6.out
       have HTLZ : Hid _ := HNIL.out (XB g nv2 B4) W.heap.size w8
       have HDZ : Hid (∀ f ∈ F7, ∀ h ∈ ([] : List Nat), f ≠ h) := by intro f _ h hh; cases hh
       have HXZ : Hid (FX (XS g nv) (XS g nv2) W w8) := HX6.out.trans HX8.out
       have HNZ : Hid (¬ XS g nv2 B4) := HN3.out
       have HTZ : Hid (∀ y, T = some y → ks ++ [t] = y.1 ∧ nilTm = y.2.1) := by intro z hz; rw [HTN.out] at hz; cases hz; exact ⟨by rw [HR3.out y HY0.out], rfl⟩
       have HSZ : Hid (SRd g L lv nv2 w8 (T.map fun y => (e0, y.2.2))) := by rw [HTN.out]; exact HS8.out
       clear HMM HMY
       obtain ⟨FJ, hj1, hj2, hj3, hj4⟩ := RJ.first HRZ.out
       have HJZ : Hid (RJ 24 w8 (ks ++ [t]) (.slice a2' (KN + 1) cp2) (KN + 1) FJ ∧ FJ.Nodup ∧ (∀ f ∈ FJ, f ∈ F7) ∧ (∀ b, (Value.slice a2' (KN + 1) cp2).ownBlock = some b → b ∈ F7)) := by
         have e := HKNZ.out
         rw [← e] at hj1
         exact ⟨hj1, hj2, hj3, hj4⟩
       clear hj1 hj2 hj3 hj4
       have hKN3 : (((KN + 1) : Nat) : Int) ≤ 3001 := by omega
       obtain ⟨ks9, hks9⟩ : ∃ ks9, ks9 = (ks ++ [t]) := ⟨_, rfl⟩
       obtain ⟨KN9, hKN9⟩ : ∃ KN9, KN9 = (KN + 1) := ⟨_, rfl⟩
       rw [← hks9, ← hKN9] at HJZ HRZ
       rw [← hks9] at HTZ
       rw [← hKN9, ← hks9] at HKNZ
       rw [← hKN9] at hKN3
       rw [← hKN9]
       clear hKN9 hks9
       have HFZ : Hid (∀ f ∈ F7, W.heap.size ≤ f ∧ ¬ XB g nv2 B4 f) := HRZ.out.out
       have HOZ : Hid (∀ b, (Value.slice a2' KN9 cp2).ownBlock = some b → b ∈ F7) := HJZ.out.2.2.2
       go_wp2
       go_loopw [5] (fun vi wq => ∃ (j : Nat) (z : Int) (Fj Ft : List Nat) (tt : Tm) (m1 : Int) (m2 : ByteArray) (m3 : Int) (m4 : Option Addr) (m5 m6 : Nat), j ≤ KN9 ∧ vi = .int .i64 z ∧ Hid (z = (j : Int) - 1) ∧ Hid (RJ 24 wq ks9 (.slice a2' KN9 cp2) j Fj ∧ Fj.Nodup ∧ ∀ f ∈ Fj, f ∈ F7) ∧ Hid (wq.heap[B4]? = some (.cells #[.int .i64 m1, .string m2, .int .i64 m3, .slice m4 m5 m6] 24 (0, 0))) ∧ Hid (TOk 24 (XB g nv2 B4) W.heap.size wq tt (.agg #[.int .i64 m1, .string m2, .int .i64 m3, .slice m4 m5 m6]) Ft) ∧ Hid (∀ f ∈ Fj, ∀ h ∈ Ft, f ≠ h) ∧ Hid (SRd g L lv nv2 wq (T.map fun y => (e0, y.2.2))) ∧ Hid (FX (XS g nv) (XS g nv2) W wq) ∧ Hid (consTm (ks9.take j) tt = consTm ks9 nilTm) ∧ Hid (∀ f ∈ F7, f < wq.heap.size)) (fun i _ => (intOf i + 1).toNat)
       case atStart => exact ⟨KN9, _, FJ, [], nilTm, k1, s1, n1, ao1, ln1, cp1, Nat.le_refl _, rfl, rfl, ⟨HJZ.out.1, HJZ.out.2.1, HJZ.out.2.2.1⟩, HKZ.out, HTLZ.out, (fun f hf h hh => HDZ.out f (HJZ.out.2.2.1 f hf) h hh), HSZ.out, HXZ.out, (by show _ = _; rw [HKNZ.out, List.take_length]), HRZ.out.lt⟩
       case round =>
         obtain ⟨j, z, Fj, Ft, tt, m1, m2, m3, m4, m5, m6, hjK, rfl, HZ, HRJ, HKB, HTT2, HDD, HSS, HXX, HCC, HFF⟩ := hrel
         rcases j with _ | i
         · obtain rfl : z = -1 := by have := HZ.out; simpa using this
           have hk := res_keep HS0.out HSW.out HXX.out HKW.out
           obtain ⟨z0, z1, z2, z3, q0, q1, q2, q3⟩ := blk4 hk
           obtain ⟨g0, g1, g2, g3, _⟩ := blk4 HKB.out
           have HK9 : Hid _ := hk
           clear hk
           go_wp2
           refine bodyPost_ret_by (results_cell_row rfl _ _ w.heap.size 24 _ (0, 0) _ rfl (blk4_set HK9.out) Tryz.underlying24 rfl (by kernel_rfl)) rfl ?_
           refine ⟨_, rfl, TmR.fin HS0.out HBW.out HSW.out HXX.out HTT2.out.weak ?_ ?_⟩
           · intro y hy
             obtain ⟨zz, hzz, rfl⟩ := Option.map_eq_some_iff.1 hy
             have hc := HCC.out
             obtain ⟨e1, e2⟩ := HTZ.out zz hzz
             rw [List.take_zero] at hc
             simp only
             rw [← e1, ← e2]
             exact hc
           · rw [Option.map_map]; exact HSS.out
         · obtain rfl : z = (i : Int) := by have := HZ.out; omega
           have hiK : i < KN9 := by omega
           have hil : i < ks9.length := by have := HKNZ.out; omega
           obtain ⟨gb, x1, x2, x3, x4, x5, x6, F1, F2, hao, t0, t1, t2, t3, hown, hFj, hRJ1⟩ := RJ.item HRJ.out.1 hil
           obtain ⟨g0, g1, g2, g3, _⟩ := blk4 HKB.out
           obtain ⟨kt, hkt⟩ : ∃ kt, kt = ks9[i] := ⟨_, rfl⟩
           have hnd := HRJ.out.2.1
           rw [hFj] at hnd
           obtain ⟨hn1, hn2, hn3⟩ := List.nodup_append.1 hnd
           have hF12 : ∀ f, f ∈ F1 ∨ f ∈ F2 → f ∈ F7 := fun f hf => HRJ.out.2.2 f (by rw [hFj]; exact List.mem_append.2 hf)
           have HIT : Hid (TOk 24 (XB g nv2 B4) W.heap.size wr kt (.agg #[.int .i64 x1, .string x2, .int .i64 x3, .slice x4 x5 x6]) F2) := ⟨by rw [hkt]; exact hown, hn2, fun f hf => HFZ.out f (hF12 f (Or.inr hf))⟩
           have HRJ1 : Hid (RJ 24 wr ks9 (.slice a2' KN9 cp2) i F1 ∧ F1.Nodup ∧ ∀ f ∈ F1, f ∈ F7) := ⟨hRJ1, hn1, fun f hf => hF12 f (Or.inl hf)⟩
           have HD2 : Hid (∀ f ∈ F2, ∀ h ∈ Ft, f ≠ h) := fun f hf h hh => HDD.out f (by rw [hFj]; exact List.mem_append.2 (Or.inr hf)) h hh
           have HD1 : Hid (∀ f ∈ F1, f ∉ F2 ∧ f ∉ Ft) := fun f hf => ⟨fun h2 => hn3 f hf f h2 rfl, fun h2 => HDD.out f (by rw [hFj]; exact List.mem_append.2 (Or.inl hf)) f h2 rfl⟩
           have HCN : Hid (consTm (ks9.take i) (structTm ⟨#[46]⟩ [kt, tt]) = consTm ks9 nilTm) := by
             have := HCC.out
             rw [List.take_succ_eq_append_getElem hil, consTm_snoc, ← hkt] at this
             exact this
           subst hao
           have y0 := fun u => cell_keep t0 (later_below wr u)
           have y1 := fun u => cell_keep t1 (later_below wr u)
           have y2 := fun u => cell_keep t2 (later_below wr u)
           have y3 := fun u => cell_keep t3 (later_below wr u)
           have y4 := fun u => cell_keep g0 (later_below wr u)
           have y5 := fun u => cell_keep g1 (later_below wr u)
           have y6 := fun u => cell_keep g2 (later_below wr u)
           have y7 := fun u => cell_keep g3 (later_below wr u)
           clear t0 t1 t2 t3 g0 g1 g2 g3 hown hFj hRJ1 hnd hn1 hn2 hn3 hF12 HRJ HDD HCC hkt hil HZ hjK
           go_upto_region 15 with fail
           refine wp_region_tail 5 (by kernel_rfl) (by kernel_rfl) ?_
           simp only [List.take_succ_cons, List.take_zero, List.drop_succ_cons, List.drop_zero]
           repeat (go_big_quiet_step (skip))
           refine wpQuiet_nil ?_
           rintro _ ⟨u3, rfl⟩
           have HB3 : Hid (Below wr.heap.size wr (later wr u3)) := later_below wr u3
           clear y0 y1 y2 y3 y4 y5 y6 y7
           generalize later wr u3 = w3 at *
           have HTW : Hid _ := s_two (XB g nv2 B4) W.heap.size ⟨#[46]⟩ kt tt _ _ F2 Ft w3 (HIT.out.step (FX.of_below HB3.out)) (HTT2.out.step (FX.of_below HB3.out)) HD2.out (Nat.le_trans HXX.out.size HB3.out.size) (fun k hk hx => hx.elim ((HSS.out.keep HB3.out).xnew k hk) (fun e => by have := (Array.getElem?_eq_some_iff.1 HKB.out).1; have := HB3.out.size; omega)) (by decide)
           go_wp2_with (go_at_call 43; go_loud (refine Calls.mono HTW.out ?_); rintro e w4 ⟨v, Fn, rfl, ht, hsub, hb⟩; have HTN : Hid (TOk 24 (XB g nv2 B4) W.heap.size w4 (structTm ⟨#[46]⟩ [kt, tt]) v Fn) := ht; have HSUB : Hid (∀ f ∈ Fn, f ∈ F2 ∨ f ∈ Ft ∨ w3.heap.size ≤ f) := hsub; have HB4' : Hid (Below wr.heap.size wr w4) := HB3.out.trans (hb.mono HB3.out.size); obtain ⟨h1, h2, h3, h4, h5, h6, rfl⟩ := ht.form; have hkb := (HB4'.out.block B4 (Array.getElem?_eq_some_iff.1 HKB.out).1).trans HKB.out; obtain ⟨g0, g1, g2, g3, fg0, fg1, fg2, fg3⟩ := blk4 hkb; have HKB4 : Hid _ := hkb; clear ht hsub hb hkb)
           go_roundw
           case rel =>
             have hb34 := HB4'.out
             have hBlt : B4 < wr.heap.size := (Array.getElem?_eq_some_iff.1 HKB.out).1
             have hB4W := HB4W.out
             have hgW : g < W.heap.size := by have := HGW.out; have := HSW.out; omega
             have x4 : FX (XS g nv2) (XS g nv2) wr w4 := FX.of_below hb34
             have hoth : ∀ f ∈ F7, (((((w4.setCell ⟨B4, 0, none⟩ (.int .i64 h1)).setCell ⟨B4, 1, none⟩ (.string h2)).setCell ⟨B4, 2, none⟩ (.int .i64 h3)).setCell ⟨B4, 3, none⟩ (.slice h4 h5 h6))).heap[f]? = wr.heap[f]? := fun f hf => (blk4_other (fun e => (HFZ.out f hf).2 (Or.inr e))).trans (hb34.block f (HFF.out f hf))
             refine ⟨i, (i : Int) - 1, F1, Fn, structTm ⟨#[46]⟩ [kt, tt], h1, h2, h3, h4, h5, h6, by omega, by go_num, rfl, ?_, ?_, ?_, ?_, ?_, ?_, HCN.out, ?_⟩
             · exact ⟨HRJ1.out.1.turn (fun b hb => hoth b (HOZ.out b hb)) (fun f hf => hoth f (HRJ1.out.2.2 f hf)), HRJ1.out.2.1, HRJ1.out.2.2⟩
             · exact blk4_set HKB4.out
             · exact HTN.out.turn fun k hk hx => blk4_other (fun e => hx (Or.inr e))
             · intro f hf h hh e
               subst e
               rcases HSUB.out f hh with h' | h' | h'
               · exact (HD1.out f hf).1 h'
               · exact (HD1.out f hf).2 h'
               · have := HFF.out f (HRJ1.out.2.2 f hf); have := HB3.out.size; omega
             · have s4 := HSS.out.keep hb34
               exact (((s4.setB HNZ.out (by omega) _).setB HNZ.out (by omega) _).setB HNZ.out (by omega) _).setB HNZ.out (by omega) _
             · exact ((((HXX.out.trans x4).set (Or.inr (by omega)) _).set (Or.inr (by omega)) _).set (Or.inr (by omega)) _).set (Or.inr (by omega)) _
             · intro f hf
               have := HFF.out f hf
               have := hb34.size
               simp [World.setCell]; omega
           case measure => simp [intOf]
     · have HMN : Hid (∀ d st', (R1.map fun y => (e0, y.2)) = some (d, st') → mk? ⟨#[93]⟩ st'.rest = none) := by
         intro d st' e
         obtain ⟨y, hy, e2⟩ := Option.map_eq_some_iff.1 e
         cases e2
         cases hr : mk? ⟨#[93]⟩ y.2.rest with
         | none => rfl
         | some r => exact absurd ⟨y, r, hy, hr⟩ hB
       by_cases hC : ∃ y r, R1 = some y ∧ mk? cBar y.2.rest = some r
       · obtain ⟨y, r2, hy, hr2⟩ := hC
         obtain ⟨R2, hR2⟩ : ∃ R2, R2 = termO true f 999 ⟨r2, y.2.names⟩ := ⟨_, rfl⟩
         have HTN : Hid (T = restO R2 (ks ++ [y.1])) := by
           show _ = _
           have hr : mk? cRbr y.2.rest = none := HMN.out e0 y.2 (by rw [hy]; rfl)
           rw [← hTs, hy]; simp only; rw [hr]; simp only; rw [hr2]; simp only; rw [← hR2]
         have HY0 : Hid (R1 = some y) := hy
         have HMY : Hid (mk? ⟨#[124]⟩ y.2.rest = some r2) := hr2
         have HT2 : Hid (∀ nv' W', SRd g L lv nv' W' (some (e0, ⟨r2, y.2.names⟩)) → Calls Tryz.prog 27 #[.pointer (some ⟨g, 0, none⟩), .int .i64 999] W' fun e w' => ∃ v, e = .returned v ∧ TmR g L lv nv' W' v w' R2 e0) := by
           intro nv' W' hs
           have := HTT.out nv' W' _ hs
           rw [← hR2] at this
           exact this
         clear hTs hy hr2 hB hR2
         go_wp2_with (first | (go_at_call 27; go_loud (refine Calls.mono HT1.out ?_); rintro e w3 ⟨v, rfl, t, F2, nv2, ht, hR, hs, hx⟩; have HT3 : Hid (TOk 24 (XS g nv2) wr.heap.size w3 t v F2) := ht; have HR3 : Hid (∀ y, R1 = some y → t = y.1) := hR; have HS3 : Hid (SRd g L lv nv2 w3 (R1.map fun y => (e0, y.2))) := hs; have HX3 : Hid (FX (XS g nv') (XS g nv2) wr w3) := hx; obtain ⟨x1, x2, x3, x4, x5, x6, rfl⟩ := ht.form; clear ht hR hs hx; have HY : Hid (∃ cs F0, (w3.alloc (.cells #[.int .i64 x1, .string x2, .int .i64 x3, .slice x4 x5 x6] 24)).ownsRow 0 24 4 (.slice ao KN cap) KN cs ∧ OwnRow 24 (w3.alloc (.cells #[.int .i64 x1, .string x2, .int .i64 x3, .slice x4 x5 x6] 24)) ks cs F0 ∧ F0.Nodup ∧ (∀ f ∈ F0, f ∈ F ∧ (Value.slice ao KN cap).ownBlock ≠ some f) ∧ (∀ b, (Value.slice ao KN cap).ownBlock = some b → b ∈ F)) := (by (have hyy := ((HR.out.step HX3.out.lift).step (FX.of_below ((Below.refl _ _).alloc (Nat.le_refl _) (.cells #[.int .i64 x1, .string x2, .int .i64 x3, .slice x4 x5 x6] 24)))).row); rw [← HKN.out] at hyy; exact hyy); obtain ⟨cs, F0, y1, y2, y3, y4, y5⟩ := HY.out; have HY1 : Hid _ := y1; have HY2 : Hid _ := y2; have HY3 : Hid _ := y3; have HY4 : Hid _ := y4; have HY5 : Hid _ := y5; clear HY y1 y2 y3 y4 y5) | (at_builtin; go_loud (refine wpList_append_own_at _ rfl _ _ 22 rfl 0 24 i0 (.agg #[.int .i64 0, .string ⟨#[]⟩, .int .i64 0, .slice none 0 0]) 4 56 Tryz.underlying22 hi hz0 hz1 hz2 rfl (by decide) _ _ _ rfl HY1.out ⟨w3.heap.size, 0, none⟩ 1 1 [.int .i64 x1, .string x2, .int .i64 x3, .slice x4 x5 x6] rfl rfl ?c1 ?c2 ?c3 ?c4 ?c5 ?_)))
         case c1 =>
           have hn := blk4 (heap_alloc_new w3 (.cells #[.int .i64 x1, .string x2, .int .i64 x3, .slice x4 x5 x6] 24))
           intro q z hq
           match q, hq with
           | 0, hq => simp at hq; subst hq; exact hn.1
           | 1, hq => simp at hq; subst hq; exact hn.2.1
           | 2, hq => simp at hq; subst hq; exact hn.2.2.1
           | 3, hq => simp at hq; subst hq; exact hn.2.2.2.1
         case c2 => intro z hz; simp at hz; rcases hz with rfl | rfl | rfl | rfl <;> rfl
         case c3 => unfold maxLen; omega
         case c4 => omega
         case c5 => omega
         intro v' w6 hown' hgrow _ hat
         obtain ⟨w5, hw5⟩ : ∃ w5, w5 = w3.alloc (.cells #[.int .i64 x1, .string x2, .int .i64 x3, .slice x4 x5 x6] 24) := ⟨_, rfl⟩
         have b35 : Below w3.heap.size w3 w5 := by rw [hw5]; exact (Below.refl _ _).alloc (Nat.le_refl _) _
         have hat5 : v'.ownBlock = (Value.slice ao KN cap).ownBlock ∨ v'.ownBlock = some w5.heap.size := by rw [hw5]; simpa using hat
         rw [← hw5] at hgrow HY1 HY2
         clear hat hw5
         have hKN := HKN.out
         have hbl := HBL.out
         have hx3s := HX3.out.size
         have hxs := HX.out.size
         have AS := app_step2 (W := W) ((HR.out.step HX3.out.lift).step (FX.of_below b35)) (((HT3.out.lift hbl).lo_le hxs).step (FX.of_below b35)) (fun f hf g' hg' => by have := HR.out.lt f hf; have := (HT3.out.out g' hg').1; omega) HY2.out HY3.out HY4.out HY5.out (by rw [← hKN]; exact hown') hgrow hat5 (HS3.out.keep b35) ((HX.out.trans HX3.out).trans (FX.of_below b35)) rfl (by have := HGW.out; have := HSW.out; omega) (by have := b35.size; omega)
         obtain ⟨F7, hr6, hs6, hx6, hk6, _⟩ := AS
         obtain ⟨a2', cp2, hv2⟩ : ∃ ao cap, v' = .slice ao (KN + 1) cap := by obtain ⟨ao', cap', e⟩ := hr6.slice; exact ⟨ao', cap', by rw [e, hKN]; simp⟩
         subst hv2
         have HN3 : Hid (¬ XS g nv2 B4) := XS_keep HN.out HX3.out hbl
         have HK6 : Hid (w6.heap[B4]? = some (.cells #[.int .i64 k1, .string s1, .int .i64 n1, .slice ao1 ln1 cp1] 24 (0, 0))) := hk6.trans ((b35.block B4 (by omega)).trans ((HX3.out.block B4 hbl HN.out).trans HK.out))
         have HR6 : Hid (ROk 24 (XB g nv2 B4) W.heap.size w6 (ks ++ [t]) (.slice a2' (KN + 1) cp2) F7) := hr6
         have HS6 : Hid (SRd g L lv nv2 w6 (R1.map fun y => (e0, y.2))) := hs6
         have HX6 : Hid (FX (XS g nv) (XS g nv2) W w6) := hx6
         have HKN6 : Hid (KN + 1 = (ks ++ [t]).length) := by show _ = _; rw [hKN]; simp
         clear hr6 hs6 hx6 hk6 hown' hgrow hat5 b35 HY1 HY2 HY3 HY4 HY5 hKN hbl hx3s hxs
         have HM1 : Hid _ := s_mark_no g L lv nv2 _ ⟨#[93]⟩ w6 cRbr_ne HS6.out HMN.out
         have S6 : SRd g L lv nv2 w6 (some (e0, y.2)) := by have := HS6.out; rw [HY0.out] at this; exact this
         have HM2 : Hid (∀ w8, Below w6.heap.size w6 w8 → _) := fun w8 hb => s_mark_yes g L lv nv2 e0 y.2 ⟨#[124]⟩ r2 w8 HL.out cBar_ne (S6.keep hb) HMY.out
         clear S6
         go_upto_region 9 with (first
           | (go_at_call 61; go_loud (refine Calls.mono HM1.out ?_); rintro e w8 ⟨rfl, hb8⟩; have HB8 : Hid (Below w6.heap.size w6 w8) := hb8; clear hb8 HM1)
           | (go_at_call 61; go_loud (refine Calls.mono (HM2.out w8 HB8.out) ?_); rintro e w9 ⟨rfl, hs9, hx9⟩; have HS9 : Hid (SRd g L lv nv2 w9 (some (e0, ⟨r2, y.2.names⟩))) := hs9; have HX9 : Hid (FX (XS g nv2) (XS g nv2) w6 w9) := (FX.of_below HB8.out).trans hx9; clear hs9 hx9))
         have hB6 : B4 < w6.heap.size := (Array.getElem?_eq_some_iff.1 HK6.out).1
         have HB9 : Hid (B4 < w9.heap.size) := Nat.lt_of_lt_of_le hB6 HX9.out.size
         have HK9 : Hid (w9.heap[B4]? = some (.cells #[.int .i64 k1, .string s1, .int .i64 n1, .slice ao1 ln1 cp1] 24 (0, 0))) := (HX9.out.block B4 hB6 HN3.out).trans HK6.out
         clear hB6 HM2
         have hgB : g ≤ B4 := by have := HB4W.out; have := HGW.out; have := HSW.out; omega
         go_upto_region 12 with (first
           | (go_at_call 27; go_loud (refine Calls.mono (HT2.out nv2 w9 HS9.out) ?_); rintro e w10 ⟨v, rfl, tR, F10, nv3, ht, hR, hs, hx⟩; have HT10 : Hid (TOk 24 (XS g nv3) w9.heap.size w10 tR v F10) := ht; have HR10 : Hid (∀ y, R2 = some y → tR = y.1) := hR; have HS10 : Hid (SRd g L lv nv3 w10 (R2.map fun y => (e0, y.2))) := hs; have HX10 : Hid (FX (XS g nv2) (XS g nv3) w9 w10) := hx; obtain ⟨u1, u2, u3, u4, u5, u6, rfl⟩ := ht.form; have hk10 := (hx.block B4 HB9.out HN3.out).trans HK9.out; obtain ⟨g0, g1, g2, g3, fg0, fg1, fg2, fg3⟩ := blk4 hk10; have HK10 : Hid (w10.heap[B4]? = some (.cells #[.int .i64 k1, .string s1, .int .i64 n1, .slice ao1 ln1 cp1] 24 (0, 0))) := hk10; have HN10 : Hid (¬ XS g nv3 B4) := XS_keep HN3.out hx HB9.out; clear ht hR hs hx hk10)
           | (go_at_call 81; go_loud (refine Calls.mono (s_wants g L lv nv3 _ ⟨#[93]⟩ _ HL.out cRbr_ne ((((HS10.out.setB HN10.out hgB _).setB HN10.out hgB _).setB HN10.out hgB _).setB HN10.out hgB _)) ?_); rintro e w11 ⟨⟨x11, rfl⟩, hs11, hx11⟩; have HS11 : Hid (SRd g L lv nv3 w11 (markO (R2.map fun y => (e0, y.2)) ⟨#[93]⟩)) := hs11; have HX11 : Hid (FX (XS g nv3) (XS g nv3) ((((w10.setCell ⟨B4, 0, none⟩ (.int .i64 u1)).setCell ⟨B4, 1, none⟩ (.string u2)).setCell ⟨B4, 2, none⟩ (.int .i64 u3)).setCell ⟨B4, 3, none⟩ (.slice u4 u5 u6)) w11) := hx11; clear hs11 hx11))
         obtain ⟨V10, hV10⟩ : ∃ V10, V10 = ((((w10.setCell ⟨B4, 0, none⟩ (.int .i64 u1)).setCell ⟨B4, 1, none⟩ (.string u2)).setCell ⟨B4, 2, none⟩ (.int .i64 u3)).setCell ⟨B4, 3, none⟩ (.slice u4 u5 u6)) := ⟨_, rfl⟩
         rw [← hV10] at HX11
         have sV : V10.heap.size = w10.heap.size := by rw [hV10]; simp [World.setCell]
         have kV : V10.heap[B4]? = some (.cells #[.int .i64 u1, .string u2, .int .i64 u3, .slice u4 u5 u6] 24 (0, 0)) := by rw [hV10]; exact blk4_set HK10.out
         have oV : ∀ k, k ≠ B4 → V10.heap[k]? = w10.heap[k]? := fun k hk => by rw [hV10]; exact blk4_other hk
         have xV : FX (XB g nv3 B4) (XB g nv3 B4) w10 V10 := by rw [hV10]; exact ((((FX.refl _ _).set (Or.inl (Or.inr rfl)) _).set (Or.inl (Or.inr rfl)) _).set (Or.inl (Or.inr rfl)) _).set (Or.inl (Or.inr rfl)) _
         have xW : FX (XS g nv) (XS g nv3) W V10 := by
           have hB4W := HB4W.out
           rw [hV10]; exact (((((HX6.out.trans HX9.out).trans HX10.out).set (Or.inr (by omega)) _).set (Or.inr (by omega)) _).set (Or.inr (by omega)) _).set (Or.inr (by omega)) _
         clear hV10
         have h1010 := HX10.out.size
         have h109 := HX9.out.size
         have HRZ : Hid (ROk 24 (XB g nv3 B4) W.heap.size w11 (ks ++ [t]) (.slice a2' (KN + 1) cp2) F7) := (((HR6.out.step HX9.out.lift).step HX10.out.lift).step xV).step HX11.out.lift
         have HKNZ : Hid (KN + 1 = (ks ++ [t]).length) := HKN6.out
         have HKZ : Hid (w11.heap[B4]? = some (.cells #[.int .i64 u1, .string u2, .int .i64 u3, .slice u4 u5 u6] 24 (0, 0))) := (HX11.out.block B4 (by have := HB9.out; omega) HN10.out).trans kV
         have HTLZ : Hid (TOk 24 (XB g nv3 B4) W.heap.size w11 tR (.agg #[.int .i64 u1, .string u2, .int .i64 u3, .slice u4 u5 u6]) F10) := (((HT10.out.lift HB9.out).step xV).step HX11.out.lift).lo_le (by have := HX6.out.size; omega)
         have HDZ : Hid (∀ f ∈ F7, ∀ h ∈ F10, f ≠ h) := fun f hf h hh => by have := HR6.out.lt f hf; have := (HT10.out.out h hh).1; omega
         have HXZ : Hid (FX (XS g nv) (XS g nv3) W w11) := xW.trans HX11.out
         have HNZ : Hid (¬ XS g nv3 B4) := HN10.out
         have HTT0 : Hid (t = y.1) := HR3.out y HY0.out
         have HTZ : Hid (∀ y, T = some y → ks ++ [t] = y.1 ∧ tR = y.2.1) := by
           intro z hz
           rw [HTN.out] at hz
           obtain ⟨z', hz1, hz2, hz3⟩ := restO_some hz
           exact ⟨by rw [hz2, HTT0.out], by rw [hz3]; exact HR10.out z' hz1⟩
         have HSZ : Hid (SRd g L lv nv3 w11 (T.map fun y => (e0, y.2.2))) := by
           rw [HTN.out, ← restO_mark]
           exact HS11.out
         clear sV kV oV xV xW h1010 h109 g0 g1 g2 g3 fg0 fg1 fg2 fg3 hgB HMY
         obtain ⟨FJ, hj1, hj2, hj3, hj4⟩ := RJ.first HRZ.out
         have HJZ : Hid (RJ 24 w11 (ks ++ [t]) (.slice a2' (KN + 1) cp2) (KN + 1) FJ ∧ FJ.Nodup ∧ (∀ f ∈ FJ, f ∈ F7) ∧ (∀ b, (Value.slice a2' (KN + 1) cp2).ownBlock = some b → b ∈ F7)) := by
           have e := HKNZ.out
           rw [← e] at hj1
           exact ⟨hj1, hj2, hj3, hj4⟩
         clear hj1 hj2 hj3 hj4
         have hKN3 : (((KN + 1) : Nat) : Int) ≤ 3001 := by omega
         obtain ⟨ks9, hks9⟩ : ∃ ks9, ks9 = (ks ++ [t]) := ⟨_, rfl⟩
         obtain ⟨KN9, hKN9⟩ : ∃ KN9, KN9 = (KN + 1) := ⟨_, rfl⟩
         rw [← hks9, ← hKN9] at HJZ HRZ
         rw [← hks9] at HTZ
         rw [← hKN9, ← hks9] at HKNZ
         rw [← hKN9] at hKN3
         rw [← hKN9]
         clear hKN9 hks9
         have HFZ : Hid (∀ f ∈ F7, W.heap.size ≤ f ∧ ¬ XB g nv3 B4 f) := HRZ.out.out
         have HOZ : Hid (∀ b, (Value.slice a2' KN9 cp2).ownBlock = some b → b ∈ F7) := HJZ.out.2.2.2
         go_wp2
         go_loopw [5] (fun vi wq => ∃ (j : Nat) (z : Int) (Fj Ft : List Nat) (tt : Tm) (m1 : Int) (m2 : ByteArray) (m3 : Int) (m4 : Option Addr) (m5 m6 : Nat), j ≤ KN9 ∧ vi = .int .i64 z ∧ Hid (z = (j : Int) - 1) ∧ Hid (RJ 24 wq ks9 (.slice a2' KN9 cp2) j Fj ∧ Fj.Nodup ∧ ∀ f ∈ Fj, f ∈ F7) ∧ Hid (wq.heap[B4]? = some (.cells #[.int .i64 m1, .string m2, .int .i64 m3, .slice m4 m5 m6] 24 (0, 0))) ∧ Hid (TOk 24 (XB g nv3 B4) W.heap.size wq tt (.agg #[.int .i64 m1, .string m2, .int .i64 m3, .slice m4 m5 m6]) Ft) ∧ Hid (∀ f ∈ Fj, ∀ h ∈ Ft, f ≠ h) ∧ Hid (SRd g L lv nv3 wq (T.map fun y => (e0, y.2.2))) ∧ Hid (FX (XS g nv) (XS g nv3) W wq) ∧ Hid (consTm (ks9.take j) tt = consTm ks9 tR) ∧ Hid (∀ f ∈ F7, f < wq.heap.size)) (fun i _ => (intOf i + 1).toNat)
         case atStart => exact ⟨KN9, _, FJ, F10, tR, u1, u2, u3, u4, u5, u6, Nat.le_refl _, rfl, rfl, ⟨HJZ.out.1, HJZ.out.2.1, HJZ.out.2.2.1⟩, HKZ.out, HTLZ.out, (fun f hf h hh => HDZ.out f (HJZ.out.2.2.1 f hf) h hh), HSZ.out, HXZ.out, (by show _ = _; rw [HKNZ.out, List.take_length]), HRZ.out.lt⟩
         case round =>
           obtain ⟨j, z, Fj, Ft, tt, m1, m2, m3, m4, m5, m6, hjK, rfl, HZ, HRJ, HKB, HTT2, HDD, HSS, HXX, HCC, HFF⟩ := hrel
           rcases j with _ | i
           · obtain rfl : z = -1 := by have := HZ.out; simpa using this
             have hk := res_keep HS0.out HSW.out HXX.out HKW.out
             obtain ⟨z0, z1, z2, z3, q0, q1, q2, q3⟩ := blk4 hk
             obtain ⟨g0, g1, g2, g3, _⟩ := blk4 HKB.out
             have HK9 : Hid _ := hk
             clear hk
             go_wp2
             refine bodyPost_ret_by (results_cell_row rfl _ _ w.heap.size 24 _ (0, 0) _ rfl (blk4_set HK9.out) Tryz.underlying24 rfl (by kernel_rfl)) rfl ?_
             refine ⟨_, rfl, TmR.fin HS0.out HBW.out HSW.out HXX.out HTT2.out.weak ?_ ?_⟩
             · intro y hy
               obtain ⟨zz, hzz, rfl⟩ := Option.map_eq_some_iff.1 hy
               have hc := HCC.out
               obtain ⟨e1, e2⟩ := HTZ.out zz hzz
               rw [List.take_zero] at hc
               simp only
               rw [← e1, ← e2]
               exact hc
             · rw [Option.map_map]; exact HSS.out
           · obtain rfl : z = (i : Int) := by have := HZ.out; omega
             have hiK : i < KN9 := by omega
             have hil : i < ks9.length := by have := HKNZ.out; omega
             obtain ⟨gb, x1, x2, x3, x4, x5, x6, F1, F2, hao, t0, t1, t2, t3, hown, hFj, hRJ1⟩ := RJ.item HRJ.out.1 hil
             obtain ⟨g0, g1, g2, g3, _⟩ := blk4 HKB.out
             obtain ⟨kt, hkt⟩ : ∃ kt, kt = ks9[i] := ⟨_, rfl⟩
             have hnd := HRJ.out.2.1
             rw [hFj] at hnd
             obtain ⟨hn1, hn2, hn3⟩ := List.nodup_append.1 hnd
             have hF12 : ∀ f, f ∈ F1 ∨ f ∈ F2 → f ∈ F7 := fun f hf => HRJ.out.2.2 f (by rw [hFj]; exact List.mem_append.2 hf)
             have HIT : Hid (TOk 24 (XB g nv3 B4) W.heap.size wr kt (.agg #[.int .i64 x1, .string x2, .int .i64 x3, .slice x4 x5 x6]) F2) := ⟨by rw [hkt]; exact hown, hn2, fun f hf => HFZ.out f (hF12 f (Or.inr hf))⟩
             have HRJ1 : Hid (RJ 24 wr ks9 (.slice a2' KN9 cp2) i F1 ∧ F1.Nodup ∧ ∀ f ∈ F1, f ∈ F7) := ⟨hRJ1, hn1, fun f hf => hF12 f (Or.inl hf)⟩
             have HD2 : Hid (∀ f ∈ F2, ∀ h ∈ Ft, f ≠ h) := fun f hf h hh => HDD.out f (by rw [hFj]; exact List.mem_append.2 (Or.inr hf)) h hh
             have HD1 : Hid (∀ f ∈ F1, f ∉ F2 ∧ f ∉ Ft) := fun f hf => ⟨fun h2 => hn3 f hf f h2 rfl, fun h2 => HDD.out f (by rw [hFj]; exact List.mem_append.2 (Or.inl hf)) f h2 rfl⟩
             have HCN : Hid (consTm (ks9.take i) (structTm ⟨#[46]⟩ [kt, tt]) = consTm ks9 tR) := by
               have := HCC.out
               rw [List.take_succ_eq_append_getElem hil, consTm_snoc, ← hkt] at this
               exact this
             subst hao
             have y0 := fun u => cell_keep t0 (later_below wr u)
             have y1 := fun u => cell_keep t1 (later_below wr u)
             have y2 := fun u => cell_keep t2 (later_below wr u)
             have y3 := fun u => cell_keep t3 (later_below wr u)
             have y4 := fun u => cell_keep g0 (later_below wr u)
             have y5 := fun u => cell_keep g1 (later_below wr u)
             have y6 := fun u => cell_keep g2 (later_below wr u)
             have y7 := fun u => cell_keep g3 (later_below wr u)
             clear t0 t1 t2 t3 g0 g1 g2 g3 hown hFj hRJ1 hnd hn1 hn2 hn3 hF12 HRJ HDD HCC hkt hil HZ hjK
             go_upto_region 15 with fail
             refine wp_region_tail 5 (by kernel_rfl) (by kernel_rfl) ?_
             simp only [List.take_succ_cons, List.take_zero, List.drop_succ_cons, List.drop_zero]
             repeat (go_big_quiet_step (skip))
             refine wpQuiet_nil ?_
             rintro _ ⟨u3, rfl⟩
             have HB3 : Hid (Below wr.heap.size wr (later wr u3)) := later_below wr u3
             clear y0 y1 y2 y3 y4 y5 y6 y7
             generalize later wr u3 = w3 at *
             have HTW : Hid _ := s_two (XB g nv3 B4) W.heap.size ⟨#[46]⟩ kt tt _ _ F2 Ft w3 (HIT.out.step (FX.of_below HB3.out)) (HTT2.out.step (FX.of_below HB3.out)) HD2.out (Nat.le_trans HXX.out.size HB3.out.size) (fun k hk hx => hx.elim ((HSS.out.keep HB3.out).xnew k hk) (fun e => by have := (Array.getElem?_eq_some_iff.1 HKB.out).1; have := HB3.out.size; omega)) (by decide)
             go_wp2_with (go_at_call 43; go_loud (refine Calls.mono HTW.out ?_); rintro e w4 ⟨v, Fn, rfl, ht, hsub, hb⟩; have HTN : Hid (TOk 24 (XB g nv3 B4) W.heap.size w4 (structTm ⟨#[46]⟩ [kt, tt]) v Fn) := ht; have HSUB : Hid (∀ f ∈ Fn, f ∈ F2 ∨ f ∈ Ft ∨ w3.heap.size ≤ f) := hsub; have HB4' : Hid (Below wr.heap.size wr w4) := HB3.out.trans (hb.mono HB3.out.size); obtain ⟨h1, h2, h3, h4, h5, h6, rfl⟩ := ht.form; have hkb := (HB4'.out.block B4 (Array.getElem?_eq_some_iff.1 HKB.out).1).trans HKB.out; obtain ⟨g0, g1, g2, g3, fg0, fg1, fg2, fg3⟩ := blk4 hkb; have HKB4 : Hid _ := hkb; clear ht hsub hb hkb)
             go_roundw
             case rel =>
               have hb34 := HB4'.out
               have hBlt : B4 < wr.heap.size := (Array.getElem?_eq_some_iff.1 HKB.out).1
               have hB4W := HB4W.out
               have hgW : g < W.heap.size := by have := HGW.out; have := HSW.out; omega
               have x4 : FX (XS g nv3) (XS g nv3) wr w4 := FX.of_below hb34
               have hoth : ∀ f ∈ F7, (((((w4.setCell ⟨B4, 0, none⟩ (.int .i64 h1)).setCell ⟨B4, 1, none⟩ (.string h2)).setCell ⟨B4, 2, none⟩ (.int .i64 h3)).setCell ⟨B4, 3, none⟩ (.slice h4 h5 h6))).heap[f]? = wr.heap[f]? := fun f hf => (blk4_other (fun e => (HFZ.out f hf).2 (Or.inr e))).trans (hb34.block f (HFF.out f hf))
               refine ⟨i, (i : Int) - 1, F1, Fn, structTm ⟨#[46]⟩ [kt, tt], h1, h2, h3, h4, h5, h6, by omega, by go_num, rfl, ?_, ?_, ?_, ?_, ?_, ?_, HCN.out, ?_⟩
               · exact ⟨HRJ1.out.1.turn (fun b hb => hoth b (HOZ.out b hb)) (fun f hf => hoth f (HRJ1.out.2.2 f hf)), HRJ1.out.2.1, HRJ1.out.2.2⟩
               · exact blk4_set HKB4.out
               · exact HTN.out.turn fun k hk hx => blk4_other (fun e => hx (Or.inr e))
               · intro f hf h hh e
                 subst e
                 rcases HSUB.out f hh with h' | h' | h'
                 · exact (HD1.out f hf).1 h'
                 · exact (HD1.out f hf).2 h'
                 · have := HFF.out f (HRJ1.out.2.2 f hf); have := HB3.out.size; omega
               · have s4 := HSS.out.keep hb34
                 exact (((s4.setB HNZ.out (by omega) _).setB HNZ.out (by omega) _).setB HNZ.out (by omega) _).setB HNZ.out (by omega) _
               · exact ((((HXX.out.trans x4).set (Or.inr (by omega)) _).set (Or.inr (by omega)) _).set (Or.inr (by omega)) _).set (Or.inr (by omega)) _
               · intro f hf
                 have := HFF.out f hf
                 have := hb34.size
                 simp [World.setCell]; omega
             case measure => simp [intOf]
       · have HMB : Hid (∀ d st', (R1.map fun y => (e0, y.2)) = some (d, st') → mk? ⟨#[124]⟩ st'.rest = none) := by
           intro d st' e
           obtain ⟨y, hy, e2⟩ := Option.map_eq_some_iff.1 e
           cases e2
           cases hr : mk? ⟨#[124]⟩ y.2.rest with
           | none => rfl
           | some r => exact absurd ⟨y, r, hy, hr⟩ hC
         have HD : Hid (∃ o9, markO (R1.map fun y => (e0, y.2)) ⟨#[44]⟩ = o9 ∧ (∀ t, (∀ y, R1 = some y → t = y.1) → RowI f e0 o9 (ks ++ [t]) T) ∧ (∀ nv w', SRd g L lv nv w' o9 → msr g L.length w' < st.rest.length + 1)) := by
           have hk := HK3.out
           cases hR : R1 with
           | none =>
             rw [hR] at hTs
             exact ⟨none, rfl, fun t _ => Or.inl ⟨rfl, hTs.symm, by simp; omega⟩, fun nv w' h => by rw [msr_none _ h]; omega⟩
           | some y =>
             have hsh := HSH.out y hR
             have hr : mk? cRbr y.2.rest = none := HMN.out e0 y.2 (by rw [hR]; rfl)
             have hb : mk? cBar y.2.rest = none := HMB.out e0 y.2 (by rw [hR]; rfl)
             rw [hR] at hTs
             simp only at hTs
             rw [hr] at hTs
             simp only at hTs
             rw [hb] at hTs
             simp only at hTs
             cases hc : mk? cComma y.2.rest with
             | none =>
               rw [hc] at hTs
               refine ⟨none, ?_, fun t _ => Or.inl ⟨rfl, hTs.symm, by simp; omega⟩, fun nv w' h => by rw [msr_none _ h]; omega⟩
               have : mk? ⟨#[44]⟩ y.2.rest = none := hc
               simp only [markO, Option.map_some, this, Option.map_none]
             | some r2 =>
               rw [hc] at hTs
               simp only at hTs
               have hl := mk?_len hc
               refine ⟨some (e0, ⟨r2, y.2.names⟩), ?_, fun t ht => Or.inr ⟨_, rfl, by rw [ht y rfl]; exact hTs, by simp; omega⟩, fun nv w' h => by rw [msr_some h]; simp only; omega⟩
               have : mk? ⟨#[44]⟩ y.2.rest = some r2 := hc
               simp only [markO, Option.map_some, this]
         clear hTs hC hB
         go_wp2_with (first | (go_at_call 27; go_loud (refine Calls.mono HT1.out ?_); rintro e w3 ⟨v, rfl, t, F2, nv2, ht, hR, hs, hx⟩; have HT3 : Hid (TOk 24 (XS g nv2) wr.heap.size w3 t v F2) := ht; have HR3 : Hid (∀ y, R1 = some y → t = y.1) := hR; have HS3 : Hid (SRd g L lv nv2 w3 (R1.map fun y => (e0, y.2))) := hs; have HX3 : Hid (FX (XS g nv') (XS g nv2) wr w3) := hx; obtain ⟨x1, x2, x3, x4, x5, x6, rfl⟩ := ht.form; clear ht hR hs hx; have HY : Hid (∃ cs F0, (w3.alloc (.cells #[.int .i64 x1, .string x2, .int .i64 x3, .slice x4 x5 x6] 24)).ownsRow 0 24 4 (.slice ao KN cap) KN cs ∧ OwnRow 24 (w3.alloc (.cells #[.int .i64 x1, .string x2, .int .i64 x3, .slice x4 x5 x6] 24)) ks cs F0 ∧ F0.Nodup ∧ (∀ f ∈ F0, f ∈ F ∧ (Value.slice ao KN cap).ownBlock ≠ some f) ∧ (∀ b, (Value.slice ao KN cap).ownBlock = some b → b ∈ F)) := (by (have hyy := ((HR.out.step HX3.out.lift).step (FX.of_below ((Below.refl _ _).alloc (Nat.le_refl _) (.cells #[.int .i64 x1, .string x2, .int .i64 x3, .slice x4 x5 x6] 24)))).row); rw [← HKN.out] at hyy; exact hyy); obtain ⟨cs, F0, y1, y2, y3, y4, y5⟩ := HY.out; have HY1 : Hid _ := y1; have HY2 : Hid _ := y2; have HY3 : Hid _ := y3; have HY4 : Hid _ := y4; have HY5 : Hid _ := y5; clear HY y1 y2 y3 y4 y5) | (at_builtin; go_loud (refine wpList_append_own_at _ rfl _ _ 22 rfl 0 24 i0 (.agg #[.int .i64 0, .string ⟨#[]⟩, .int .i64 0, .slice none 0 0]) 4 56 Tryz.underlying22 hi hz0 hz1 hz2 rfl (by decide) _ _ _ rfl HY1.out ⟨w3.heap.size, 0, none⟩ 1 1 [.int .i64 x1, .string x2, .int .i64 x3, .slice x4 x5 x6] rfl rfl ?c1 ?c2 ?c3 ?c4 ?c5 ?_)))
         case c1 =>
           have hn := blk4 (heap_alloc_new w3 (.cells #[.int .i64 x1, .string x2, .int .i64 x3, .slice x4 x5 x6] 24))
           intro q z hq
           match q, hq with
           | 0, hq => simp at hq; subst hq; exact hn.1
           | 1, hq => simp at hq; subst hq; exact hn.2.1
           | 2, hq => simp at hq; subst hq; exact hn.2.2.1
           | 3, hq => simp at hq; subst hq; exact hn.2.2.2.1
         case c2 => intro z hz; simp at hz; rcases hz with rfl | rfl | rfl | rfl <;> rfl
         case c3 => unfold maxLen; omega
         case c4 => omega
         case c5 => omega
         intro v' w6 hown' hgrow _ hat
         obtain ⟨w5, hw5⟩ : ∃ w5, w5 = w3.alloc (.cells #[.int .i64 x1, .string x2, .int .i64 x3, .slice x4 x5 x6] 24) := ⟨_, rfl⟩
         have b35 : Below w3.heap.size w3 w5 := by rw [hw5]; exact (Below.refl _ _).alloc (Nat.le_refl _) _
         have hat5 : v'.ownBlock = (Value.slice ao KN cap).ownBlock ∨ v'.ownBlock = some w5.heap.size := by rw [hw5]; simpa using hat
         rw [← hw5] at hgrow HY1 HY2
         clear hat hw5
         have hKN := HKN.out
         have hbl := HBL.out
         have hx3s := HX3.out.size
         have hxs := HX.out.size
         have AS := app_step2 (W := W) ((HR.out.step HX3.out.lift).step (FX.of_below b35)) (((HT3.out.lift hbl).lo_le hxs).step (FX.of_below b35)) (fun f hf g' hg' => by have := HR.out.lt f hf; have := (HT3.out.out g' hg').1; omega) HY2.out HY3.out HY4.out HY5.out (by rw [← hKN]; exact hown') hgrow hat5 (HS3.out.keep b35) ((HX.out.trans HX3.out).trans (FX.of_below b35)) rfl (by have := HGW.out; have := HSW.out; omega) (by have := b35.size; omega)
         obtain ⟨F7, hr6, hs6, hx6, hk6, _⟩ := AS
         obtain ⟨a2', cp2, hv2⟩ : ∃ ao cap, v' = .slice ao (KN + 1) cap := by obtain ⟨ao', cap', e⟩ := hr6.slice; exact ⟨ao', cap', by rw [e, hKN]; simp⟩
         subst hv2
         have HN3 : Hid (¬ XS g nv2 B4) := XS_keep HN.out HX3.out hbl
         have HK6 : Hid (w6.heap[B4]? = some (.cells #[.int .i64 k1, .string s1, .int .i64 n1, .slice ao1 ln1 cp1] 24 (0, 0))) := hk6.trans ((b35.block B4 (by omega)).trans ((HX3.out.block B4 hbl HN.out).trans HK.out))
         have HR6 : Hid (ROk 24 (XB g nv2 B4) W.heap.size w6 (ks ++ [t]) (.slice a2' (KN + 1) cp2) F7) := hr6
         have HS6 : Hid (SRd g L lv nv2 w6 (R1.map fun y => (e0, y.2))) := hs6
         have HX6 : Hid (FX (XS g nv) (XS g nv2) W w6) := hx6
         have HKN6 : Hid (KN + 1 = (ks ++ [t]).length) := by show _ = _; rw [hKN]; simp
         clear hr6 hs6 hx6 hk6 hown' hgrow hat5 b35 HY1 HY2 HY3 HY4 HY5 hKN hbl hx3s hxs
         have HM1 : Hid _ := s_mark_no g L lv nv2 _ ⟨#[93]⟩ w6 cRbr_ne HS6.out HMN.out
         go_wp2_with (first
           | (go_at_call 61; go_loud (refine Calls.mono HM1.out ?_); rintro e w8 ⟨rfl, hb8⟩; have HB8 : Hid (Below w6.heap.size w6 w8) := hb8; clear hb8 HM1)
           | (go_at_call 61; go_loud (refine Calls.mono (s_mark_no g L lv nv2 _ ⟨#[124]⟩ w8 cBar_ne (HS6.out.keep HB8.out) HMB.out) ?_); rintro e w9 ⟨rfl, hb9⟩; have HB9 : Hid (Below w6.heap.size w6 w9) := HB8.out.trans (hb9.mono HB8.out.size); clear hb9)
           | (go_at_call 81; go_loud (refine Calls.mono (s_wants g L lv nv2 _ ⟨#[44]⟩ w9 HL.out cComma_ne (HS6.out.keep HB9.out)) ?_); rintro e w10 ⟨⟨x10, rfl⟩, hs10, hx10⟩; have HS10 : Hid _ := hs10; have HX10 : Hid (FX (XS g nv2) (XS g nv2) w6 w10) := (FX.of_below HB9.out).trans hx10; clear hs10 hx10))
         go_roundw
         case rel =>
           obtain ⟨o9, ho9, hi9, _⟩ := HD.out
           have h9 := HS10.out
           rw [ho9] at h9
           have hb6 : B4 < w6.heap.size := (Array.getElem?_eq_some_iff.1 HK6.out).1
           exact ⟨nv2, ks ++ [t], KN + 1, a2', cp2, F7, o9, rfl, HKN6.out, HR6.out.step HX10.out.lift, (HX10.out.block B4 hb6 HN3.out).trans HK6.out, h9, HX6.out.trans HX10.out, HN3.out, hi9 t HR3.out⟩
         case measure =>
           obtain ⟨o9, ho9, _, hm9⟩ := HD.out
           have h9 := HS10.out
           rw [ho9] at h9
           rw [HMS.out]
           exact hm9 _ _ h9
theorem s_row (f g : Nat) (L : List Sg) (lv nv : Value) (e0 : Nat) (r : List Sg) (names : List ByteArray) (w : World) (hf : e0 + f = 130) (hL : L.length ≤ 3000) (HT : TermC f g L lv) (h : SRd g L lv nv w (some (e0, ⟨r, names⟩))) :
   Calls Tryz.prog 63 #[.pointer (some ⟨g, 0, none⟩)] w fun e w' => ∃ v, e = .returned v ∧ TmR g L lv nv w v w' (listO (termO true f) r names) e0 := by
 cases hr : mk? cRbr r with
 | none => exact s_row_some f g L lv nv e0 r names w hf hL HT h hr
 | some r' => exact s_row_nil f g L lv nv e0 r r' names w hL h hr
end Go.Proofs.YtbkjcccbjnehbanGreatDoor

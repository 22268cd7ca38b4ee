import Derived.Test.YtbkjcccbjnehbanGreatDoorMh43
import Derived.Test.YtbkjcccbjnehbanGreatDoorMh45
import Derived.Test.YtbkjcccbjnehbanGreatDoorMh46
import Derived.Tactics
import Derived.Tactics2
import Derived.Defers
import Derived.Recover
import Derived.Laws.Pointers
namespace Go.Proofs.YtbkjcccbjnehbanGreatDoor
open Go.RowKit
def caughtW (B0 B1 : Nat) (w : World) : World := (((((w.alloc (.cells #[] 86)).setCell ⟨B0, 0, none⟩ (.int .i64 0)).setCell ⟨B0, 1, none⟩ (.string ⟨#[]⟩)).setCell ⟨B0, 2, none⟩ (.int .i64 0)).setCell ⟨B0, 3, none⟩ (.slice none 0 0)).setCell ⟨B1, 0, none⟩ (.bool false)
set_option maxHeartbeats 1000000 in
set_option maxRecDepth 4000 in
theorem catch_panicking (B0 B1 : Nat) (c0 c1 c2 c3 c4 : Value) (w : World) (h0 : w.heap[B0]? = some (.cells #[c0, c1, c2, c3] 24 (0, 0))) (h1 : w.heap[B1]? = some (.cells #[c4] 4 (0, 0))) (hne : B0 ≠ B1) :
   CallsD Tryz.prog 55 #[.pointer (some ⟨B0, 0, none⟩), .pointer (some ⟨B1, 0, none⟩)] (.panicking unreadC) w fun e u' w' =>
     e = .returned (.tuple #[]) ∧ u' = .panicking [{ v := .iface 86 (.agg #[]), recovered := true }] ∧ w' = caughtW B0 B1 w := by
 refine callsD_of_wpS Tryz.func55 rfl fun c₀ cs hu => ?_
 have bA : Below w.heap.size w (w.alloc (.cells #[] 86)) := (Below.refl _ _).alloc (Nat.le_refl _) _
 have k0 := (bA.block _ (Array.getElem?_eq_some_iff.1 h0).1).trans h0
 have k1 := (bA.block _ (Array.getElem?_eq_some_iff.1 h1).1).trans h1
 obtain ⟨z0, z1, z2, z3, q0, q1, q2, q3⟩ := blk4 k0
 have y0 : (w.alloc (.cells #[] 86)).cell? ⟨B1, 0, none⟩ = some c4 := blk_cell (i := 0) k1 (by simp)
 have yf : (w.alloc (.cells #[] 86)).frozen? ⟨B1, 0, none⟩ = false := blk_frozen k1 0
 have hn2 : ¬ B0 = B1 := hne
 have hn3 : ¬ B1 = B0 := fun e => hne e.symm
 have hta : ∀ u : World, (Instr.typeAssert (.iface 86 (.agg #[])) 20 86 true).run Tryz.prog u = .ok (.tuple #[.agg #[], .bool true]) u := fun u => by kernel_rfl
 have e11 : (#[Value.pointer (some ⟨B0, 0, none⟩), Value.pointer (some ⟨B1, 0, none⟩)] ++ Array.replicate (Tryz.f55.ntmps - (#[Value.pointer (some ⟨B0, 0, none⟩), Value.pointer (some ⟨B1, 0, none⟩)] : Array Value).size) undef) = #[.pointer (some ⟨B0, 0, none⟩), .pointer (some ⟨B1, 0, none⟩), undef, undef, undef, undef, undef, undef, undef, undef, undef] := rfl
 rw [e11]
 clear e11 h0 h1 k0 k1
 apply wpS_seq
 apply wpS_region
 simp [wpOpsS, go_sem, recoverD, hu, Exit.thenS, hta]
 clear bA
 obtain ⟨W, hW⟩ : ∃ W, W = w.alloc (.cells #[] 86) := ⟨_, rfl⟩
 rw [← hW] at z0 z1 z2 z3 q0 q1 q2 q3 y0 yf
 simp only [caughtW]
 rw [← hW]
 clear hta hW
 refine wpS_of_wp ?_
 generalize (w.heap.size : Nat) = NW
 go_wp2
 simp [bodyPostS, results, Tryz.results55]
set_option maxHeartbeats 1000000 in
set_option maxRecDepth 4000 in
theorem catch_idle (B0 B1 : Nat) (w : World) :
   CallsD Tryz.prog 55 #[.pointer (some ⟨B0, 0, none⟩), .pointer (some ⟨B1, 0, none⟩)] .returning w fun e u' w' =>
     e = .returned (.tuple #[]) ∧ u' = .returning ∧ w' = w.alloc (.cells #[] 86) := by
 refine callsD_of_wpS Tryz.func55 rfl fun c₀ cs hu => ?_
 have hta : ∀ u : World, (Instr.typeAssert .nilIface 20 86 true).run Tryz.prog u = .ok (.tuple #[.agg #[], .bool false]) u := fun u => by kernel_rfl
 have e11 : (#[Value.pointer (some ⟨B0, 0, none⟩), Value.pointer (some ⟨B1, 0, none⟩)] ++ Array.replicate (Tryz.f55.ntmps - (#[Value.pointer (some ⟨B0, 0, none⟩), Value.pointer (some ⟨B1, 0, none⟩)] : Array Value).size) undef) = #[.pointer (some ⟨B0, 0, none⟩), .pointer (some ⟨B1, 0, none⟩), undef, undef, undef, undef, undef, undef, undef, undef, undef] := rfl
 rw [e11]
 clear e11
 apply wpS_seq
 apply wpS_region
 simp [wpOpsS, go_sem, recoverD, hu, Exit.thenS, hta]
 clear hta
 refine wpS_of_wp ?_
 go_wp2
 cases c₀
 simp_all [bodyPostS, results, Tryz.results55]
theorem results_cc {P : Program} {fn : Func} {p q : Tmp} {ty ty2 : TypeId} (h : fn.results = #[.cell p ty, .cell q ty2]) (tmps : Array Value) (w : World) (g : Nat) (t : TypeId) (cs : Array Value) (fr : Nat × Nat) (d : TypeDesc)
   (hp : tmps.getD p undef = .pointer (some ⟨g, 0, none⟩)) (hg : w.heap[g]? = some (.cells cs t fr))
   (hu : P.underlying ty = some d) (hd : (match d with | .struct _ | .array _ _ => true | _ => false) = true) (hi : (P.info? ty).map (·.size) = some cs.size)
   (v2 : Value) (g2 : Nat) (hq : tmps.getD q undef = .pointer (some ⟨g2, 0, none⟩)) (hl : (loadVar ty2 ⟨g2, 0, none⟩).run P w = .ok v2 w) :
   (results fn tmps).run P w = .ok (.tuple #[.agg cs, v2]) w := by
 have hp' : tmps[p]?.getD undef = .pointer (some ⟨g, 0, none⟩) := by simpa using hp
 have hq' : tmps[q]?.getD undef = .pointer (some ⟨g2, 0, none⟩) := by simpa using hq
 simp [results, h, hp', hq', asAddr, run_loadVar_row w g t ty cs fr d hg hu hd hi, hl]
def wholeO (R : Option (Tm × St)) : Option (Tm × St) := match R with
 | some y => if y.2.rest = [] ∧ y.1.ok = true then some y else none
 | none => none
def WholeR (g m : Nat) (L : List Sg) (lv nv : Value) (w : World) (R : Option (Tm × St)) (e : Ending) (w' : World) : Prop :=
 ∃ v nv' F tm st, e = .returned (.tuple #[v, .bool R.isSome]) ∧ TOk 24 (XI g m nv') w.heap.size w' tm v F ∧ FX (XI g m nv) (XI g m nv') w w' ∧ (∀ y, R = some y → tm = y.1 ∧ st = y.2 ∧ IRd g m L lv nv' w' 0 st)
theorem caught_zero {B0 B1 : Nat} {w : World} {c0 c1 c2 c3 : Value} {T : TypeId} (hne : B0 ≠ B1) (h0 : w.heap[B0]? = some (.cells #[c0, c1, c2, c3] T (0, 0))) : (caughtW B0 B1 w).heap[B0]? = some (.cells #[.int .i64 0, .string ⟨#[]⟩, .int .i64 0, .slice none 0 0] T (0, 0)) := by
 unfold caughtW
 rw [blk_other _ hne]
 exact blk4_set ((((Below.refl w.heap.size w).alloc (Nat.le_refl _) _).block B0 (Array.getElem?_eq_some_iff.1 h0).1).trans h0)
theorem caught_one {B0 B1 : Nat} {w : World} {c4 : Value} {T : TypeId} (hne : B0 ≠ B1) (h1 : w.heap[B1]? = some (.cells #[c4] T (0, 0))) : (caughtW B0 B1 w).heap[B1]? = some (.cells #[.bool false] T (0, 0)) := by
 unfold caughtW
 have h2 : (w.alloc (.cells #[] 86)).heap[B1]? = some (.cells #[c4] T (0, 0)) := (((Below.refl w.heap.size w).alloc (Nat.le_refl _) _).block B1 (Array.getElem?_eq_some_iff.1 h1).1).trans h1
 have h3 := (blk4_other (d0 := .int .i64 0) (d1 := .string ⟨#[]⟩) (d2 := .int .i64 0) (d3 := .slice none 0 0) (Ne.symm hne)).trans h2
 have := blk_set (i := 0) h3 (.bool false)
 simpa using this
theorem caught_fx {X X' : Nat → Prop} {w0 w : World} {B0 B1 : Nat} (h : FX X X' w0 w) (h0 : w0.heap.size ≤ B0) (h1 : w0.heap.size ≤ B1) : FX X X' w0 (caughtW B0 B1 w) := by
 unfold caughtW
 exact (((((h.alloc _).set (Or.inr h0) _).set (Or.inr h0) _).set (Or.inr h0) _).set (Or.inr h0) _).set (Or.inr h1) _
structure WBase (R0 R1 : Nat) (w2 : World) (cs : Array Value) (w' : World) : Prop where
 os : w'.os = w2.os
 tape : w'.tape = w2.tape
 output : w'.output = w2.output
 size : w2.heap.size ≤ w'.heap.size
 r0 : w'.heap[R0]? = some (.cells cs 24 (0, 0))
 oth : ∀ k, k < w2.heap.size → k ≠ R0 → k ≠ R1 → w'.heap[k]? = w2.heap[k]?
set_option maxHeartbeats 8000000 in
set_option maxRecDepth 20000 in
theorem i_whole (g m : Nat) (L : List Sg) (lv nv : Value) (st : St) (w : World) (hL : L.length ≤ 3000) (hO : ∀ x ∈ L, SOk x) (h : IRd g m L lv nv w 0 st) :
   Calls Tryz.prog 33 #[.pointer (some ⟨g, 0, none⟩)] w fun e w' => WholeR g m L lv nv w (wholeO (termO false 130 1200 st)) e w' := by
 have hmf : ∀ (fn : Fn) (first cap : Array Value) (w : World), (Instr.makeFunc fn first cap).run Tryz.prog w = .ok (.func fn first cap) w := fun _ _ _ _ => rfl
 have hT : TermCI 130 g m L lv := i_term g m L lv hL hO 130
 obtain ⟨W, hW⟩ : ∃ W, W = (w.alloc (.cells #[.int .i64 0, .string ⟨#[]⟩, .int .i64 0, .slice none 0 0] 24)).alloc (.cells #[.bool false] 4) := ⟨_, rfl⟩
 have bW : Below w.heap.size w W := by rw [hW]; exact ((Below.refl _ _).alloc (Nat.le_refl _) _).alloc (by simp) _
 have sW : W.heap.size = w.heap.size + 2 := by rw [hW]; simp
 have k0 : W.heap[w.heap.size]? = some (.cells #[.int .i64 0, .string ⟨#[]⟩, .int .i64 0, .slice none 0 0] 24 (0, 0)) := by rw [hW]; exact (alloc_old _ _ (by simp)).trans (heap_alloc_new _ _)
 have k1 : W.heap[w.heap.size + 1]? = some (.cells #[.bool false] 4 (0, 0)) := by rw [hW]; exact alloc_at _ _ (by simp)
 have HH : Hid (IRd g m L lv nv w 0 st) := h
 have HT := hT 0 1200 st nv W (by omega) (h.keep bW)
 have hnX : ∀ k, w.heap.size ≤ k → ¬ XI g m nv k := fun k hk hh => by have := h.lt.2.2 _ hh; omega
 have HNX : Hid (∀ k, w.heap.size ≤ k → ¬ XI g m nv k) := hnX
 have HBW : Hid (Below w.heap.size w W ∧ W.heap.size = w.heap.size + 2) := ⟨bW, sW⟩
 have HK0 : Hid (W.heap[w.heap.size]? = some (.cells #[.int .i64 0, .string ⟨#[]⟩, .int .i64 0, .slice none 0 0] 24 (0, 0))) := k0
 have HK1 : Hid (W.heap[w.heap.size + 1]? = some (.cells #[.bool false] 4 (0, 0))) := k1
 have HL : Hid (L.length ≤ 3000) := hL
 obtain ⟨R, hR⟩ : ∃ R, R = termO false 130 1200 st := ⟨_, rfl⟩
 rw [← hR] at HT ⊢
 clear h hT hnX bW sW k0 k1 hL hR
 go_enter_defers Tryz.func33, Tryz.ntmps33
 go_upto_region 2 with fail
 rw [← hW]
 clear hW hmf
 cases R with
 | none =>
   replace HT : Hid _ := HT
   go_wp2_with (go_at_call 56; refine (Calls.mono HT.out ?_); rintro e w1 ⟨rfl, nv1, hx⟩; have HX1 : Hid (FX (XI g m nv) (XI g m nv1) W w1) := hx; clear hx)
   have hx := HX1.out
   have hz := HBW.out.2
   have q0 := (hx.block _ (by omega) (HNX.out _ (Nat.le_refl _))).trans HK0.out
   have q1 := (hx.block _ (by omega) (HNX.out _ (Nat.le_succ _))).trans HK1.out
   refine leaves_cons (f := 55) (args := #[.pointer (some ⟨w.heap.size, 0, none⟩), .pointer (some ⟨w.heap.size + 1, 0, none⟩)]) (by simp) (by simp [go_sem]) ?_
   refine (catch_panicking w.heap.size (w.heap.size + 1) _ _ _ _ _ w1 q0 q1 (by omega)).mono ?_
   rintro e u' w'' ⟨rfl, rfl, rfl⟩
   have r0 := caught_zero (B1 := w.heap.size + 1) (by omega) q0
   have r1 := caught_one (B0 := w.heap.size) (by omega) q1
   refine ⟨_, results_cc rfl _ _ w.heap.size 24 _ (0, 0) _ rfl r0 Tryz.underlying24 rfl (by kernel_rfl) (.bool false) (w.heap.size + 1) rfl ?_, ?_⟩
   · have c1 : (caughtW w.heap.size (w.heap.size + 1) w1).cell? ⟨w.heap.size + 1, 0, none⟩ = some (.bool false) := blk_cell (i := 0) r1 (by simp)
     simp [go_sem, c1]
   · exact ⟨_, nv1, [], .mk 0 ⟨#[]⟩ 0 [], st, rfl, TOk.leaf (by omega) (by omega) (by decide), caught_fx ((FX.of_below HBW.out.1).trans hx) (Nat.le_refl _) (by omega), fun y hy => by cases hy⟩
 | some y =>
   obtain ⟨tm, s1⟩ := y
   replace HT : Hid _ := HT
   have HZ := HBW.out.2
   go_upto_region 3 with (go_at_call 56; refine (Calls.mono HT.out ?_); rintro e w1 ⟨v, rfl, F, nv1, ht, hi, hx⟩; obtain ⟨t1, t2, t3, t4, t5, t6, rfl⟩ := ht.form; have hk0 := (hx.block _ (by have := HBW.out.2; omega) (HNX.out _ (Nat.le_refl _))).trans HK0.out; obtain ⟨z0, z1, z2, z3, q0, q1, q2, q3⟩ := blk4 hk0; have HK01 : Hid _ := hk0; have HX1 : Hid (FX (XI g m nv) (XI g m nv1) W w1) := hx; have HI1 : Hid (IRd g m L lv nv1 w1 0 s1) := hi; have HT1 : Hid (TOk 24 (XI g m nv1) W.heap.size w1 tm (.agg #[.int .i64 t1, .string t2, .int .i64 t3, .slice t4 t5 t6]) F) := ht; clear ht hi hx hk0)
   obtain ⟨w2, hw2⟩ : ∃ w2, w2 = (((w1.setCell ⟨w.heap.size, 0, none⟩ (.int .i64 t1)).setCell ⟨w.heap.size, 1, none⟩ (.string t2)).setCell ⟨w.heap.size, 2, none⟩ (.int .i64 t3)).setCell ⟨w.heap.size, 3, none⟩ (.slice t4 t5 t6) := ⟨_, rfl⟩
   rw [← hw2]
   have oE : ∀ k, k ≠ w.heap.size → w2.heap[k]? = w1.heap[k]? := fun k hk => by rw [hw2]; exact blk4_other hk
   have hn1 : ∀ k, w.heap.size ≤ k → k < W.heap.size → ¬ XI g m nv1 k := fun k h1 h2 hh => (HX1.out.new k hh).elim (HNX.out k h1) (fun h3 => by omega)
   have hgw := HH.out.lt.1
   have I2 : IRd g m L lv nv1 w2 0 s1 := HI1.out.turn fun k hk => oE k (fun e => by
     rcases hk with hk | hk
     · omega
     · rw [e] at hk; exact hn1 _ (Nat.le_refl _) (by omega) hk)
   have HI2 : Hid (IRd g m L lv nv1 w2 0 s1) := I2
   have HT2 : Hid (TOk 24 (XI g m nv1) (w.heap.size + 2) w2 tm (.agg #[.int .i64 t1, .string t2, .int .i64 t3, .slice t4 t5 t6]) F) := (HT1.out.turn fun k hk _ => oE k (by omega)).lo_le (by omega)
   have HK02 : Hid (w2.heap[w.heap.size]? = some (.cells #[.int .i64 t1, .string t2, .int .i64 t3, .slice t4 t5 t6] 24 (0, 0))) := by rw [hw2]; exact blk4_set HK01.out
   have HK12 : Hid (w2.heap[w.heap.size + 1]? = some (.cells #[.bool false] 4 (0, 0))) := (oE _ (by omega)).trans ((HX1.out.block _ (by omega) (HNX.out _ (by omega))).trans HK1.out)
   have HX2 : Hid (FX (XI g m nv) (XI g m nv1) w w2) := by
     rw [hw2]
     exact (((((FX.of_below HBW.out.1).trans HX1.out).set (Or.inr (Nat.le_refl _)) _).set (Or.inr (Nat.le_refl _)) _).set (Or.inr (Nat.le_refl _)) _).set (Or.inr (Nat.le_refl _)) _
   have HN2 : Hid (¬ XI g m nv1 w.heap.size ∧ ¬ XI g m nv1 (w.heap.size + 1) ∧ g < w.heap.size) := ⟨hn1 _ (Nat.le_refl _) (by omega), hn1 _ (by omega) (by omega), hgw⟩
   obtain ⟨p, ms, hg, ⟨ao, cap, hlv, hlc, hcap, _⟩, _, _, _, _, _, hpl, hdr, _⟩ := I2.ex
   obtain ⟨NL, hNL⟩ : ∃ NL, NL = L.length := ⟨_, rfl⟩
   rw [← hNL] at hlv
   have hgc := hg
   rw [hlv] at hgc
   obtain ⟨b0, hb0⟩ : ∃ b0, b0 = ((p : Int) == (NL : Int)) := ⟨_, rfl⟩
   have hrest : b0 = decide (s1.rest = []) := by
     rw [hb0]
     by_cases e : p = NL
     · have : s1.rest = [] := by rw [← hdr, e, hNL, List.drop_length]
       rw [decide_eq_true this]; simp [e]
     · have h2 : ¬ s1.rest = [] := fun h => by
         have := congrArg List.length hdr
         rw [h, List.length_drop] at this
         simp at this
         omega
       rw [decide_eq_false h2]
       exact beq_false_of_ne (fun h => e (by omega))
   have HRB : Hid (b0 = decide (s1.rest = [])) := hrest
   have HB0 : Hid (((p : Int) == (NL : Int)) = b0) := hb0.symm
   have HG2 : Hid (w2.heap[g]? = some (.cells #[.slice ao NL cap, .int .i64 (p : Int), .int .i64 ((0 : Nat) : Int), nv1, .map (some m)] 63 (0, 0)) ∧ g < w2.heap.size) := ⟨hgc, (Array.getElem?_eq_some_iff.1 hg).1⟩
   have HTO : Hid (∀ u, (∀ k, k < w2.heap.size → k ≠ w.heap.size → k ≠ w.heap.size + 1 → u.heap[k]? = w2.heap[k]?) → Calls Tryz.prog 57 #[.agg #[.int .i64 t1, .string t2, .int .i64 t3, .slice t4 t5 t6]] u fun e w' => e = .returned (.bool tm.ok) ∧ Below u.heap.size u w') := fun u hu => implOk tm u _ (Own.toIn _ _ _ (Own.keep _ _ _ HT2.out.own fun f hf => hu f (HT2.out.lt f hf) (by have := (HT2.out.out f hf).1; omega) (by have := (HT2.out.out f hf).1; omega)))
   clear hw2 oE hn1 hgw I2 hg hlv hlc hcap hpl hdr hgc hrest hb0 hNL HT HK0 HK1 HX1 HI1 HT1 HK01 z0 z1 z2 z3 q0 q1 q2 q3 HZ
   obtain ⟨R0, hR0⟩ : ∃ R0, R0 = w.heap.size := ⟨_, rfl⟩
   obtain ⟨R1, hR1⟩ : ∃ R1, R1 = w.heap.size + 1 := ⟨_, rfl⟩
   have HRR : Hid (R0 = w.heap.size ∧ R1 = w.heap.size + 1) := ⟨hR0, hR1⟩
   rw [← hR1] at HK12 HTO HN2
   rw [← hR0] at HK02 HTO HN2
   have hR01 : R0 ≠ R1 := by omega
   have HR01 : Hid (R0 ≠ R1 ∧ R0 < w2.heap.size ∧ R1 < w2.heap.size ∧ g < R0) := ⟨hR01, (Array.getElem?_eq_some_iff.1 HK02.out).1, (Array.getElem?_eq_some_iff.1 HK12.out).1, HN2.out.2.2⟩
   have hR1' : R1 = R0 + 1 := by omega
   simp only [← hR0]
   simp only [← hR1']
   clear hR0 hR1 hR1' hR01
   refine FG.wp_region_factsG 17 (fun i v w' => match i with
     | 0 => v = .agg #[.int .i64 t1, .string t2, .int .i64 t3, .slice t4 t5 t6]
     | 1 => v = .pointer (some ⟨g, 0, none⟩)
     | 2 => v = .pointer (some ⟨g, 0, none⟩)
     | 3 => v = .pointer (some ⟨g, 1, none⟩)
     | 4 => v = .int .i64 (p : Int)
     | 5 => v = .pointer (some ⟨g, 0, none⟩)
     | 6 => v = .pointer (some ⟨g, 0, none⟩)
     | 7 => v = .pointer (some ⟨g, 0, none⟩)
     | 8 => v = .slice ao NL cap
     | 9 => v = .int .i64 (NL : Int)
     | 10 => v = .bool b0
     | 11 => v = .bool b0
     | 12 => b0 = true → v = .agg #[.int .i64 t1, .string t2, .int .i64 t3, .slice t4 t5 t6]
     | 13 => b0 = true → v = .bool tm.ok
     | 14 => v = .bool (b0 && tm.ok)
     | 15 => True
     | _ => WBase R0 R1 w2 #[.int .i64 t1, .string t2, .int .i64 t3, .slice t4 t5 t6] w' ∧ w'.heap[R1]? = some (.cells #[.bool (b0 && tm.ok)] 4 (0, 0)))
     (fun i w' => WBase R0 R1 w2 #[.int .i64 t1, .string t2, .int .i64 t3, .slice t4 t5 t6] w' ∧ (i = 16 → w'.heap[R1]? = some (.cells #[.bool false] 4 (0, 0))))
     (fun j w w' => (j = 15 → Set0 R0 w w' ∧ w'.heap[R0]? = some (.cells #[.int .i64 t1, .string t2, .int .i64 t3, .slice t4 t5 t6] 24 (0, 0))) ∧ (j = 16 → Set0 R1 w w') ∧ (j ≠ 15 → j ≠ 16 → Below w.heap.size w w')) (by kernel_rfl) (by kernel_rfl) 22 rfl (by kernel_rfl) ?_ ?_ ?_ ?_
   · intro i _
     have hd := (Below.refl w2.heap.size w2).drew
     have hz := HR01.out
     exact ⟨⟨hd.os, hd.tape, hd.output, hd.size, (hd.block _ hz.2.1).trans HK02.out, fun k hk _ _ => hd.block k hk⟩, fun _ => (hd.block _ hz.2.2.1).trans HK12.out⟩
   · intro i j u u' hi hj hne hrel
     have hz := HR01.out
     refine ⟨fun _ => fun ⟨p1, p2⟩ => ?_, fun ⟨Lf, hcl, hLi, hLj⟩ v => ?_⟩
     · have hl1 : w2.heap.size ≤ u.heap.size := p1.size
       by_cases e15 : j = 15
       · obtain ⟨hs, hr⟩ := hrel.1 e15
         exact ⟨⟨hs.os.trans p1.os, hs.tape.trans p1.tape, hs.output.trans p1.output, by rw [hs.size]; exact p1.size, hr, fun k hk h0 h1 => (hs.oth k h0).trans (p1.oth k hk h0 h1)⟩, fun e => (hs.oth _ (Ne.symm hz.1)).trans (p2 e)⟩
       · by_cases e16 : j = 16
         · have hs := hrel.2.1 e16
           exact ⟨⟨hs.os.trans p1.os, hs.tape.trans p1.tape, hs.output.trans p1.output, by rw [hs.size]; exact p1.size, (hs.oth _ hz.1).trans p1.r0, fun k hk h0 h1 => (hs.oth k h1).trans (p1.oth k hk h0 h1)⟩, fun e => absurd (e16.trans e.symm) hne⟩
         · have hb := hrel.2.2 e15 e16
           exact ⟨⟨hb.os.trans p1.os, hb.tape.trans p1.tape, hb.output.trans p1.output, Nat.le_trans p1.size hb.size, (hb.block _ (by omega)).trans p1.r0, fun k hk h0 h1 => (hb.block k (by omega)).trans (p1.oth k hk h0 h1)⟩, fun e => (hb.block _ (by omega)).trans (p2 e)⟩
     · match i, hi with
       | 0, _ => exact fun h => h
       | 1, _ => exact fun h => h
       | 2, _ => exact fun h => h
       | 3, _ => exact fun h => h
       | 4, _ => exact fun h => h
       | 5, _ => exact fun h => h
       | 6, _ => exact fun h => h
       | 7, _ => exact fun h => h
       | 8, _ => exact fun h => h
       | 9, _ => exact fun h => h
       | 10, _ => exact fun h => h
       | 11, _ => exact fun h => h
       | 12, _ => exact fun h => h
       | 13, _ => exact fun h => h
       | 14, _ => exact fun h => h
       | 15, _ => exact fun h => h
       | 16, _ =>
         have all : ∀ q, q < 16 → Lf q = true := fun q hq => by
           match q, hq with
           | 0, _ => exact hcl 16 _ rfl hLi 0 (by kernel_rfl)
           | 1, _ => exact hcl 16 _ rfl hLi 1 (by kernel_rfl)
           | 2, _ => exact hcl 16 _ rfl hLi 2 (by kernel_rfl)
           | 3, _ => exact hcl 16 _ rfl hLi 3 (by kernel_rfl)
           | 4, _ => exact hcl 16 _ rfl hLi 4 (by kernel_rfl)
           | 5, _ => exact hcl 16 _ rfl hLi 5 (by kernel_rfl)
           | 6, _ => exact hcl 16 _ rfl hLi 6 (by kernel_rfl)
           | 7, _ => exact hcl 16 _ rfl hLi 7 (by kernel_rfl)
           | 8, _ => exact hcl 16 _ rfl hLi 8 (by kernel_rfl)
           | 9, _ => exact hcl 16 _ rfl hLi 9 (by kernel_rfl)
           | 10, _ => exact hcl 16 _ rfl hLi 10 (by kernel_rfl)
           | 11, _ => exact hcl 16 _ rfl hLi 11 (by kernel_rfl)
           | 12, _ => exact hcl 16 _ rfl hLi 12 (by kernel_rfl)
           | 13, _ => exact hcl 16 _ rfl hLi 13 (by kernel_rfl)
           | 14, _ => exact hcl 16 _ rfl hLi 14 (by kernel_rfl)
           | 15, _ => exact hcl 16 _ rfl hLi 15 (by kernel_rfl)
           | n + 16, h => exact absurd h (by omega)
         exact absurd (all j (by omega)) (by rw [hLj]; simp)
       | n + 17, h => exact absurd h (by omega)
   · intro i o hi ho a u ⟨p1, p2⟩ hfr hdep hdf
     have u0 : a.tmps.getD 0 undef = .pointer (some ⟨g, 0, none⟩) := hfr 0 (by decide)
     have u2 : a.tmps.getD 2 undef = .pointer (some ⟨R0, 0, none⟩) := hfr 2 (by decide)
     have u3 : a.tmps.getD 3 undef = .pointer (some ⟨R1, 0, none⟩) := hfr 3 (by decide)
     have hz := HR01.out
     have kg := (p1.oth g HG2.out.2 (by omega) (by have := HRR.out; omega)).trans HG2.out.1
     obtain ⟨g0, g1, g2, g3, g4, _⟩ := b5f kg
     obtain ⟨x0, x1, x2, x3, f0, f1, f2, f3⟩ := blk4 p1.r0
     have rb : ∀ {j : Nat} {v w' : World}, Below v.heap.size v w' → j ≠ 15 → j ≠ 16 → (j = 15 → Set0 R0 v w' ∧ w'.heap[R0]? = some (.cells #[.int .i64 t1, .string t2, .int .i64 t3, .slice t4 t5 t6] 24 (0, 0))) ∧ (j = 16 → Set0 R1 v w') ∧ (j ≠ 15 → j ≠ 16 → Below v.heap.size v w') := fun hb h1 h2 => ⟨fun e => absurd e h1, fun e => absurd e h2, fun _ _ => hb⟩
     match i, hi with
     | 0, _ =>
       obtain rfl : _ = o := by simpa using ho
       refine FG.plain rfl (FZ.fact_valueZ (w' := u) (v := .agg #[.int .i64 t1, .string t2, .int .i64 t3, .slice t4 t5 t6]) rfl ?_ (rb (Below.refl _ _) (by decide) (by decide)) rfl)
       simp only [execOp, Act.eval, u2]
       go_simp
     | 1, _ =>
       obtain rfl : _ = o := by simpa using ho
       refine FG.plain rfl (FZ.fact_valueZ (w' := u) (v := .pointer (some ⟨g, 0, none⟩)) rfl ?_ (rb (Below.refl _ _) (by decide) (by decide)) rfl)
       simp only [execOp, Act.eval, u0]
       go_simp
     | 2, _ =>
       obtain rfl : _ = o := by simpa using ho
       have h0 : a.tmps.getD 8 undef = .pointer (some ⟨g, 0, none⟩) := hdep 1 (by kernel_rfl)
       refine FG.plain rfl (FZ.fact_valueZ (w' := u) (v := .pointer (some ⟨g, 0, none⟩)) rfl ?_ (rb (Below.refl _ _) (by decide) (by decide)) rfl)
       simp only [execOp, Act.eval, h0]
       go_simp
     | 3, _ =>
       obtain rfl : _ = o := by simpa using ho
       have h0 : a.tmps.getD 9 undef = .pointer (some ⟨g, 0, none⟩) := hdep 2 (by kernel_rfl)
       refine FG.plain rfl (FZ.fact_valueZ (w' := u) (v := .pointer (some ⟨g, 1, none⟩)) rfl ?_ (rb (Below.refl _ _) (by decide) (by decide)) rfl)
       simp only [execOp, Act.eval, h0]
       go_simp
     | 4, _ =>
       obtain rfl : _ = o := by simpa using ho
       have h0 : a.tmps.getD 10 undef = .pointer (some ⟨g, 1, none⟩) := hdep 3 (by kernel_rfl)
       refine FG.plain rfl (FZ.fact_valueZ (w' := u) (v := .int .i64 (p : Int)) rfl ?_ (rb (Below.refl _ _) (by decide) (by decide)) rfl)
       simp only [execOp, Act.eval, h0]
       go_simp
     | 5, _ =>
       obtain rfl : _ = o := by simpa using ho
       refine FG.plain rfl (FZ.fact_valueZ (w' := u) (v := .pointer (some ⟨g, 0, none⟩)) rfl ?_ (rb (Below.refl _ _) (by decide) (by decide)) rfl)
       simp only [execOp, Act.eval, u0]
       go_simp
     | 6, _ =>
       obtain rfl : _ = o := by simpa using ho
       have h0 : a.tmps.getD 12 undef = .pointer (some ⟨g, 0, none⟩) := hdep 5 (by kernel_rfl)
       refine FG.plain rfl (FZ.fact_valueZ (w' := u) (v := .pointer (some ⟨g, 0, none⟩)) rfl ?_ (rb (Below.refl _ _) (by decide) (by decide)) rfl)
       simp only [execOp, Act.eval, h0]
       go_simp
     | 7, _ =>
       obtain rfl : _ = o := by simpa using ho
       have h0 : a.tmps.getD 13 undef = .pointer (some ⟨g, 0, none⟩) := hdep 6 (by kernel_rfl)
       refine FG.plain rfl (FZ.fact_valueZ (w' := u) (v := .pointer (some ⟨g, 0, none⟩)) rfl ?_ (rb (Below.refl _ _) (by decide) (by decide)) rfl)
       simp only [execOp, Act.eval, h0]
       go_simp
     | 8, _ =>
       obtain rfl : _ = o := by simpa using ho
       have h0 : a.tmps.getD 14 undef = .pointer (some ⟨g, 0, none⟩) := hdep 7 (by kernel_rfl)
       refine FG.plain rfl (FZ.fact_valueZ (w' := u) (v := .slice ao NL cap) rfl ?_ (rb (Below.refl _ _) (by decide) (by decide)) rfl)
       simp only [execOp, Act.eval, h0]
       go_simp
     | 9, _ =>
       obtain rfl : _ = o := by simpa using ho
       have h0 : a.tmps.getD 15 undef = .slice ao NL cap := hdep 8 (by kernel_rfl)
       refine FG.plain rfl (FZ.fact_valueZ (w' := u) (v := .int .i64 (NL : Int)) rfl ?_ (rb (Below.refl _ _) (by decide) (by decide)) rfl)
       simp only [execOp]
       go_simp
     | 10, _ =>
       obtain rfl : _ = o := by simpa using ho
       have h0 : a.tmps.getD 11 undef = .int .i64 (p : Int) := hdep 4 (by kernel_rfl)
       have h1 : a.tmps.getD 16 undef = .int .i64 (NL : Int) := hdep 9 (by kernel_rfl)
       refine FG.plain rfl (FZ.fact_valueZ (w' := u) (v := .bool b0) rfl ?_ (rb (Below.refl _ _) (by decide) (by decide)) rfl)
       have hb := HB0.out
       simp only [execOp, Act.eval, h0, h1]
       go_simp
     | 11, _ =>
       obtain rfl : _ = o := by simpa using ho
       have h0 : a.tmps.getD 17 undef = .bool b0 := hdep 10 (by kernel_rfl)
       refine FG.plain rfl (FZ.fact_valueZ (w' := u) (v := .bool b0) rfl ?_ (rb (Below.refl _ _) (by decide) (by decide)) rfl)
       simp only [execOp, Act.eval, h0]
       go_simp
     | 12, _ =>
       obtain rfl : _ = o := by simpa using ho
       have h0 : a.tmps.getD 18 undef = .bool b0 := hdep 11 (by kernel_rfl)
       rw [FG.wanted_some (k := 11) (d := 18) (want := true) rfl rfl h0]
       refine ⟨fun _ => FZ.fact_valueZ (w' := u) (v := .agg #[.int .i64 t1, .string t2, .int .i64 t3, .slice t4 t5 t6]) rfl ?_ (rb (Below.refl _ _) (by decide) (by decide)) (fun _ => rfl), fun e => ⟨rb (Below.refl _ _) (by decide) (by decide), fun e2 => by rw [e2] at e; cases e⟩⟩
       simp only [execOp, Act.eval, u2]
       go_simp
     | 13, _ =>
       obtain rfl : _ = o := by simpa using ho
       have h0 : a.tmps.getD 18 undef = .bool b0 := hdep 11 (by kernel_rfl)
       have h1 : b0 = true → a.tmps.getD 19 undef = .agg #[.int .i64 t1, .string t2, .int .i64 t3, .slice t4 t5 t6] := hdep 12 (by kernel_rfl)
       rw [FG.wanted_some (k := 11) (d := 18) (want := true) rfl rfl h0]
       refine ⟨fun e => ?_, fun e => ⟨rb (Below.refl _ _) (by decide) (by decide), fun e2 => by rw [e2] at e; cases e⟩⟩
       have hbt : b0 = true := by simpa using e
       refine FZ.fact_callZ rfl rfl Tryz.func57 (by kernel_rfl) (by kernel_rfl) (args := #[.agg #[.int .i64 t1, .string t2, .int .i64 t3, .slice t4 t5 t6]]) (by simp [Act.eval, h1 hbt]) ?_
       refine Calls.mono (HTO.out u p1.oth) ?_
       rintro e u' ⟨rfl, hb⟩
       exact Or.inl ⟨_, rfl, rb hb (by decide) (by decide), fun _ => rfl⟩
     | 14, _ =>
       obtain rfl : _ = o := by simpa using ho
       have h0 : a.tmps.getD 18 undef = .bool b0 := hdep 11 (by kernel_rfl)
       have h1 : b0 = true → a.tmps.getD 20 undef = .bool tm.ok := hdep 13 (by kernel_rfl)
       refine FG.plain rfl (FZ.fact_valueZ (w' := u) (v := .bool (b0 && tm.ok)) rfl ?_ (rb (Below.refl _ _) (by decide) (by decide)) rfl)
       cases hb : b0 with
       | false =>
         rw [hb] at h0
         simp only [execOp, Act.eval, h0]
         go_simp
       | true =>
         rw [hb] at h0
         have h2 := h1 hb
         simp only [execOp, Act.eval, h0, h2]
         go_simp
     | 15, _ =>
       obtain rfl : _ = o := by simpa using ho
       have h0 : a.tmps.getD 7 undef = .agg #[.int .i64 t1, .string t2, .int .i64 t3, .slice t4 t5 t6] := hdep 0 (by kernel_rfl)
       have hS := Set0.of4 R0 u (.int .i64 t1) (.string t2) (.int .i64 t3) (.slice t4 t5 t6)
       refine FG.plain rfl (FZ.fact_storeZ (w' := (((u.setCell ⟨R0, 0, none⟩ (.int .i64 t1)).setCell ⟨R0, 1, none⟩ (.string t2)).setCell ⟨R0, 2, none⟩ (.int .i64 t3)).setCell ⟨R0, 3, none⟩ (.slice t4 t5 t6)) rfl ?_ ⟨fun _ => ⟨hS, blk4_set p1.r0⟩, fun e => absurd e (by decide), fun e => absurd rfl e⟩ trivial)
       simp only [execOp, Act.eval, h0, u2]
       go_simp
     | 16, _ =>
       obtain rfl : _ = o := by simpa using ho
       have h0 : a.tmps.getD 21 undef = .bool (b0 && tm.ok) := hdep 14 (by kernel_rfl)
       have k1 := p2 rfl
       have y0 : u.cell? ⟨R1, 0, none⟩ = some (.bool false) := blk_cell (i := 0) k1 (by simp)
       have yf := blk_frozen k1 0
       have hS : Set0 R1 u (u.setCell ⟨R1, 0, none⟩ (.bool (b0 && tm.ok))) := ⟨rfl, rfl, rfl, by simp [World.setCell], fun k hk => blk_other _ hk⟩
       refine FG.plain rfl (FZ.fact_storeZ (w' := u.setCell ⟨R1, 0, none⟩ (.bool (b0 && tm.ok))) rfl ?_ ⟨fun e => absurd e (by decide), fun _ => hS, fun _ e => absurd rfl e⟩ ⟨⟨p1.os, p1.tape, p1.output, by rw [hS.size]; exact p1.size, (hS.oth _ hz.1).trans p1.r0, fun k hk h0 h1 => (hS.oth k h1).trans (p1.oth k hk h0 h1)⟩, by simpa using blk_set (i := 0) k1 (.bool (b0 && tm.ok))⟩)
       simp only [execOp, Act.eval, h0, u3]
       go_simp
     | n + 17, h => exact absurd h (by omega)
   · intro vals w5 hf
     obtain ⟨p1, k1⟩ := hf 16 (by omega)
     have HP1 : Hid (WBase R0 R1 w2 #[.int .i64 t1, .string t2, .int .i64 t3, .slice t4 t5 t6] w5) := p1
     have HK1 : Hid (w5.heap[R1]? = some (.cells #[.bool (b0 && tm.ok)] 4 (0, 0))) := k1
     simp only [FG.putN, List.getElem?_toArray, List.getElem?_cons_zero, List.getElem?_cons_succ, Option.bind_some, List.drop_succ_cons, List.drop_zero]
     clear p1 k1 hf
     generalize vals 0 = mm0
     generalize vals 1 = mm1
     generalize vals 2 = mm2
     generalize vals 3 = mm3
     generalize vals 4 = mm4
     generalize vals 5 = mm5
     generalize vals 6 = mm6
     generalize vals 7 = mm7
     generalize vals 8 = mm8
     generalize vals 9 = mm9
     generalize vals 10 = mm10
     generalize vals 11 = mm11
     generalize vals 12 = mm12
     generalize vals 13 = mm13
     generalize vals 14 = mm14
     simp only [Act.put, List.setIfInBounds_toArray, List.set_cons_succ, List.set_cons_zero]
     have hr0 := HP1.out.r0
     obtain ⟨x0, x1, x2, x3, _⟩ := blk4 hr0
     have y0 : w5.cell? ⟨R1, 0, none⟩ = some (.bool (b0 && tm.ok)) := blk_cell (i := 0) HK1.out (by simp)
     go_wp2
     refine leaves_cons (f := 55) (args := #[.pointer (some ⟨R0, 0, none⟩), .pointer (some ⟨R1, 0, none⟩)]) (by simp) (by simp [go_sem]) ?_
     refine (catch_idle R0 R1 w5).mono ?_
     rintro e u' w'' ⟨rfl, rfl, rfl⟩
     have bA : Below w5.heap.size w5 (w5.alloc (.cells #[] 86)) := (Below.refl _ _).alloc (Nat.le_refl _) _
     have q1 := (bA.block _ (Array.getElem?_eq_some_iff.1 HK1.out).1).trans HK1.out
     have hp := HP1.out
     have hz := HR01.out
     refine ⟨_, results_cc rfl _ _ R0 24 _ (0, 0) _ rfl ((bA.block _ (Array.getElem?_eq_some_iff.1 hr0).1).trans hr0) Tryz.underlying24 rfl (by kernel_rfl) (.bool (b0 && tm.ok)) R1 rfl ?_, ?_⟩
     · have c1 : (w5.alloc (.cells #[] 86)).cell? ⟨R1, 0, none⟩ = some (.bool (b0 && tm.ok)) := blk_cell (i := 0) q1 (by simp)
       simp [go_sem, c1]
     · have hrr := HRR.out
       have hn := HN2.out
       have F5 : FX (XI g m nv) (XI g m nv1) w w5 := by
         have hx := HX2.out
         exact ⟨hp.os.trans hx.os, hp.tape.trans hx.tape, hp.output.trans hx.output, Nat.le_trans hx.size hp.size, fun k hk hxk => (hp.oth k (Nat.lt_of_lt_of_le hk hx.size) (by omega) (by omega)).trans (hx.block k hk hxk), hx.new⟩
       have T5 : TOk 24 (XI g m nv1) w.heap.size w5 tm (.agg #[.int .i64 t1, .string t2, .int .i64 t3, .slice t4 t5 t6]) F :=
         ⟨Own.keep _ _ _ HT2.out.own fun k hk => hp.oth k (HT2.out.lt k hk) (by have := (HT2.out.out k hk).1; omega) (by have := (HT2.out.out k hk).1; omega), HT2.out.nd, fun k hk => ⟨by have := (HT2.out.out k hk).1; omega, (HT2.out.out k hk).2⟩⟩
       have I5 : IRd g m L lv nv1 w5 0 s1 := by
         refine HI2.out.turn fun k hk => ?_
         have hlt : k < w2.heap.size := by
           rcases hk with hk | hk
           · have := HI2.out.lt.1; omega
           · exact HI2.out.lt.2.2 k hk
         refine hp.oth k hlt (fun e => ?_) (fun e => ?_)
         · rcases hk with hk | hk
           · omega
           · rw [e] at hk; exact hn.1 hk
         · rcases hk with hk | hk
           · omega
           · rw [e] at hk; exact hn.2.1 hk
       have hb := HRB.out
       refine ⟨_, nv1, F, tm, s1, ?_, T5.step (FX.of_below bA), F5.trans (FX.of_below bA), fun z hz2 => ?_⟩
       · have e1 : (wholeO (some (tm, s1))).isSome = (b0 && tm.ok) := by
           unfold wholeO
           simp only
           by_cases h1 : s1.rest = [] ∧ tm.ok = true
           · rw [if_pos h1, hb, decide_eq_true h1.1, h1.2]; rfl
           · rw [if_neg h1, hb]
             by_cases h2 : s1.rest = []
             · rw [decide_eq_true h2, Bool.true_and]
               cases h3 : tm.ok with
               | false => rfl
               | true => exact absurd ⟨h2, h3⟩ h1
             · rw [decide_eq_false h2, Bool.false_and]; rfl
         rw [e1]
       · unfold wholeO at hz2
         simp only at hz2
         split at hz2
         · cases hz2
           exact ⟨rfl, rfl, I5.keep bA⟩
         · cases hz2
end Go.Proofs.YtbkjcccbjnehbanGreatDoor

import Derived.Test.YtbkjcccbjnehbanGreatDoorMh43
import Derived.Test.YtbkjcccbjnehbanGreatDoorMh45
import Derived.Test.YtbkjcccbjnehbanGreatDoorMh46
import Derived.Tactics
import Derived.Tactics2
import Derived.Defers
import Derived.Recover
import Derived.Laws.Pointers
import Derived.Test.YtbkjcccbjnehbanGreatDoorMh20
import Derived.Carry
import Derived.Test.YtbkjcccbjnehbanGreatDoorMh32
namespace Go.Proofs.YtbkjcccbjnehbanGreatDoor
open Go.RowKit
def caughtW (B0 B1 : Nat) (w : World) : World := (((((w.alloc (.cells #[] 86)).setCell ⟨B0, 0, none⟩ (.int .i64 0)).setCell ⟨B0, 1, none⟩ (.string ⟨#[]⟩)).setCell ⟨B0, 2, none⟩ (.int .i64 0)).setCell ⟨B0, 3, none⟩ (.slice none 0 0)).setCell ⟨B1, 0, none⟩ (.bool false)
set_option maxHeartbeats 1000000 in
set_option maxRecDepth 4000 in
theorem catch_panicking (B0 B1 : Nat) (c0 c1 c2 c3 c4 : Value) (w : World) (h0 : w.heap[B0]? = some (.cells #[c0, c1, c2, c3] 24 (0, 0))) (h1 : w.heap[B1]? = some (.cells #[c4] 4 (0, 0))) (hne : B0 ≠ B1) :
   CallsD Tryz.prog 55 #[.pointer (some ⟨B0, 0, none⟩), .pointer (some ⟨B1, 0, none⟩)] (.panicking unreadC) w fun e u' w' =>
     e = .returned (.tuple #[]) ∧ u' = .panicking [{ v := .iface 86 (.agg #[]), recovered := true }] ∧ w' = caughtW B0 B1 w := by
 refine callsD_of_wpS Tryz.func55 rfl fun c₀ cs hu => ?_
 have bA : Below w.heap.size w (w.alloc (.cells #[] 86)) := (Below.refl _ _).alloc (Nat.le_refl _) _
 have k0 := (bA.block _ (Array.getElem?_eq_some_iff.1 h0).1).trans h0
 have k1 := (bA.block _ (Array.getElem?_eq_some_iff.1 h1).1).trans h1
 obtain ⟨z0, z1, z2, z3, q0, q1, q2, q3⟩ := blk4 k0
 have y0 : (w.alloc (.cells #[] 86)).cell? ⟨B1, 0, none⟩ = some c4 := blk_cell (i := 0) k1 (by simp)
 have yf : (w.alloc (.cells #[] 86)).frozen? ⟨B1, 0, none⟩ = false := blk_frozen k1 0
 have hn2 : ¬ B0 = B1 := hne
 have hn3 : ¬ B1 = B0 := fun e => hne e.symm
 have hta : ∀ u : World, (Instr.typeAssert (.iface 86 (.agg #[])) 20 86 true).run Tryz.prog u = .ok (.tuple #[.agg #[], .bool true]) u := fun u => by kernel_rfl
 have e11 : (#[Value.pointer (some ⟨B0, 0, none⟩), Value.pointer (some ⟨B1, 0, none⟩)] ++ Array.replicate (Tryz.f55.ntmps - (#[Value.pointer (some ⟨B0, 0, none⟩), Value.pointer (some ⟨B1, 0, none⟩)] : Array Value).size) undef) = #[.pointer (some ⟨B0, 0, none⟩), .pointer (some ⟨B1, 0, none⟩), undef, undef, undef, undef, undef, undef, undef, undef, undef] := rfl
 rw [e11]
 clear e11 h0 h1 k0 k1
 apply wpS_seq
 apply wpS_region
 simp [wpOpsS, go_sem, recoverD, hu, Exit.thenS, hta]
 clear bA
 obtain ⟨W, hW⟩ : ∃ W, W = w.alloc (.cells #[] 86) := ⟨_, rfl⟩
 rw [← hW] at z0 z1 z2 z3 q0 q1 q2 q3 y0 yf
 simp only [caughtW]
 rw [← hW]
 clear hta hW
 refine wpS_of_wp ?_
 generalize (w.heap.size : Nat) = NW
 go_wp2
 simp [bodyPostS, results, Tryz.results55]
set_option maxHeartbeats 1000000 in
set_option maxRecDepth 4000 in
theorem catch_idle (B0 B1 : Nat) (w : World) :
   CallsD Tryz.prog 55 #[.pointer (some ⟨B0, 0, none⟩), .pointer (some ⟨B1, 0, none⟩)] .returning w fun e u' w' =>
     e = .returned (.tuple #[]) ∧ u' = .returning ∧ w' = w.alloc (.cells #[] 86) := by
 refine callsD_of_wpS Tryz.func55 rfl fun c₀ cs hu => ?_
 have hta : ∀ u : World, (Instr.typeAssert .nilIface 20 86 true).run Tryz.prog u = .ok (.tuple #[.agg #[], .bool false]) u := fun u => by kernel_rfl
 have e11 : (#[Value.pointer (some ⟨B0, 0, none⟩), Value.pointer (some ⟨B1, 0, none⟩)] ++ Array.replicate (Tryz.f55.ntmps - (#[Value.pointer (some ⟨B0, 0, none⟩), Value.pointer (some ⟨B1, 0, none⟩)] : Array Value).size) undef) = #[.pointer (some ⟨B0, 0, none⟩), .pointer (some ⟨B1, 0, none⟩), undef, undef, undef, undef, undef, undef, undef, undef, undef] := rfl
 rw [e11]
 clear e11
 apply wpS_seq
 apply wpS_region
 simp [wpOpsS, go_sem, recoverD, hu, Exit.thenS, hta]
 clear hta
 refine wpS_of_wp ?_
 go_wp2
 cases c₀
 simp_all [bodyPostS, results, Tryz.results55]
theorem results_cc {P : Program} {fn : Func} {p q : Tmp} {ty ty2 : TypeId} (h : fn.results = #[.cell p ty, .cell q ty2]) (tmps : Array Value) (w : World) (g : Nat) (t : TypeId) (cs : Array Value) (fr : Nat × Nat) (d : TypeDesc)
   (hp : tmps.getD p undef = .pointer (some ⟨g, 0, none⟩)) (hg : w.heap[g]? = some (.cells cs t fr))
   (hu : P.underlying ty = some d) (hd : (match d with | .struct _ | .array _ _ => true | _ => false) = true) (hi : (P.info? ty).map (·.size) = some cs.size)
   (v2 : Value) (g2 : Nat) (hq : tmps.getD q undef = .pointer (some ⟨g2, 0, none⟩)) (hl : (loadVar ty2 ⟨g2, 0, none⟩).run P w = .ok v2 w) :
   (results fn tmps).run P w = .ok (.tuple #[.agg cs, v2]) w := by
 have hp' : tmps[p]?.getD undef = .pointer (some ⟨g, 0, none⟩) := by simpa using hp
 have hq' : tmps[q]?.getD undef = .pointer (some ⟨g2, 0, none⟩) := by simpa using hq
 simp [results, h, hp', hq', asAddr, run_loadVar_row w g t ty cs fr d hg hu hd hi, hl]
def wholeO (R : Option (Tm × St)) : Option (Tm × St) := match R with
 | some y => if y.2.rest = [] ∧ y.1.ok = true then some y else none
 | none => none
def WholeR (g m : Nat) (L : List Sg) (lv nv : Value) (w : World) (R : Option (Tm × St)) (e : Ending) (w' : World) : Prop :=
 ∃ v nv' F tm st, e = .returned (.tuple #[v, .bool R.isSome]) ∧ TOk 24 (XI g m nv') w.heap.size w' tm v F ∧ FX (XI g m nv) (XI g m nv') w w' ∧ (∀ y, R = some y → tm = y.1 ∧ st = y.2 ∧ IRd g m L lv nv' w' 0 st)
theorem caught_zero {B0 B1 : Nat} {w : World} {c0 c1 c2 c3 : Value} {T : TypeId} (hne : B0 ≠ B1) (h0 : w.heap[B0]? = some (.cells #[c0, c1, c2, c3] T (0, 0))) : (caughtW B0 B1 w).heap[B0]? = some (.cells #[.int .i64 0, .string ⟨#[]⟩, .int .i64 0, .slice none 0 0] T (0, 0)) := by
 unfold caughtW
 rw [blk_other _ hne]
 exact blk4_set ((((Below.refl w.heap.size w).alloc (Nat.le_refl _) _).block B0 (Array.getElem?_eq_some_iff.1 h0).1).trans h0)
theorem caught_one {B0 B1 : Nat} {w : World} {c4 : Value} {T : TypeId} (hne : B0 ≠ B1) (h1 : w.heap[B1]? = some (.cells #[c4] T (0, 0))) : (caughtW B0 B1 w).heap[B1]? = some (.cells #[.bool false] T (0, 0)) := by
 unfold caughtW
 have h2 : (w.alloc (.cells #[] 86)).heap[B1]? = some (.cells #[c4] T (0, 0)) := (((Below.refl w.heap.size w).alloc (Nat.le_refl _) _).block B1 (Array.getElem?_eq_some_iff.1 h1).1).trans h1
 have h3 := (blk4_other (d0 := .int .i64 0) (d1 := .string ⟨#[]⟩) (d2 := .int .i64 0) (d3 := .slice none 0 0) (Ne.symm hne)).trans h2
 have := blk_set (i := 0) h3 (.bool false)
 simpa using this
theorem caught_fx {X X' : Nat → Prop} {w0 w : World} {B0 B1 : Nat} (h : FX X X' w0 w) (h0 : w0.heap.size ≤ B0) (h1 : w0.heap.size ≤ B1) : FX X X' w0 (caughtW B0 B1 w) := by
 unfold caughtW
 exact (((((h.alloc _).set (Or.inr h0) _).set (Or.inr h0) _).set (Or.inr h0) _).set (Or.inr h0) _).set (Or.inr h1) _
structure WBase (R0 R1 : Nat) (w2 : World) (cs : Array Value) (w' : World) : Prop where
 os : w'.os = w2.os
 tape : w'.tape = w2.tape
 output : w'.output = w2.output
 size : w2.heap.size ≤ w'.heap.size
 r0 : w'.heap[R0]? = some (.cells cs 24 (0, 0))
 oth : ∀ k, k < w2.heap.size → k ≠ R0 → k ≠ R1 → w'.heap[k]? = w2.heap[k]?
set_option maxHeartbeats 8000000 in
set_option maxRecDepth 20000 in
theorem i_whole (g m : Nat) (L : List Sg) (lv nv : Value) (st : St) (w : World) (hL : L.length ≤ 3000) (hO : ∀ x ∈ L, SOk x) (h : IRd g m L lv nv w 0 st) :
   Calls Tryz.prog 33 #[.pointer (some ⟨g, 0, none⟩)] w fun e w' => WholeR g m L lv nv w (wholeO (termO false 130 1200 st)) e w' := by
 have hmf : ∀ (fn : Fn) (first cap : Array Value) (w : World), (Instr.makeFunc fn first cap).run Tryz.prog w = .ok (.func fn first cap) w := fun _ _ _ _ => rfl
 have hT : TermCI 130 g m L lv := i_term g m L lv hL hO 130
 obtain ⟨W, hW⟩ : ∃ W, W = (w.alloc (.cells #[.int .i64 0, .string ⟨#[]⟩, .int .i64 0, .slice none 0 0] 24)).alloc (.cells #[.bool false] 4) := ⟨_, rfl⟩
 have bW : Below w.heap.size w W := by rw [hW]; exact ((Below.refl _ _).alloc (Nat.le_refl _) _).alloc (by simp) _
 have sW : W.heap.size = w.heap.size + 2 := by rw [hW]; simp
 have k0 : W.heap[w.heap.size]? = some (.cells #[.int .i64 0, .string ⟨#[]⟩, .int .i64 0, .slice none 0 0] 24 (0, 0)) := by rw [hW]; exact (alloc_old _ _ (by simp)).trans (heap_alloc_new _ _)
 have k1 : W.heap[w.heap.size + 1]? = some (.cells #[.bool false] 4 (0, 0)) := by rw [hW]; exact alloc_at _ _ (by simp)
 have HH : Hid (IRd g m L lv nv w 0 st) := h
 have HT := hT 0 1200 st nv W (by omega) (h.keep bW)
 have hnX : ∀ k, w.heap.size ≤ k → ¬ XI g m nv k := fun k hk hh => by have := h.lt.2.2 _ hh; omega
 have HNX : Hid (∀ k, w.heap.size ≤ k → ¬ XI g m nv k) := hnX
 have HBW : Hid (Below w.heap.size w W ∧ W.heap.size = w.heap.size + 2) := ⟨bW, sW⟩
 have HK0 : Hid (W.heap[w.heap.size]? = some (.cells #[.int .i64 0, .string ⟨#[]⟩, .int .i64 0, .slice none 0 0] 24 (0, 0))) := k0
 have HK1 : Hid (W.heap[w.heap.size + 1]? = some (.cells #[.bool false] 4 (0, 0))) := k1
 have HL : Hid (L.length ≤ 3000) := hL
 obtain ⟨R, hR⟩ : ∃ R, R = termO false 130 1200 st := ⟨_, rfl⟩
 rw [← hR] at HT ⊢
 clear h hT hnX bW sW k0 k1 hL hR
 go_enter_defers Tryz.func33, Tryz.ntmps33
 go_upto_region 2 with fail
 rw [← hW]
 clear hW hmf
 cases R with
 | none =>
   replace HT : Hid _ := HT
   go_wp2_with (go_at_call 56; refine (Calls.mono HT.out ?_); rintro e w1 ⟨rfl, nv1, hx⟩; have HX1 : Hid (FX (XI g m nv) (XI g m nv1) W w1) := hx; clear hx)
   have hx := HX1.out
   have hz := HBW.out.2
   have q0 := (hx.block _ (by omega) (HNX.out _ (Nat.le_refl _))).trans HK0.out
   have q1 := (hx.block _ (by omega) (HNX.out _ (Nat.le_succ _))).trans HK1.out
   refine leaves_cons (f := 55) (args := #[.pointer (some ⟨w.heap.size, 0, none⟩), .pointer (some ⟨w.heap.size + 1, 0, none⟩)]) (by simp) (by simp [go_sem]) ?_
   refine (catch_panicking w.heap.size (w.heap.size + 1) _ _ _ _ _ w1 q0 q1 (by omega)).mono ?_
   rintro e u' w'' ⟨rfl, rfl, rfl⟩
   have r0 := caught_zero (B1 := w.heap.size + 1) (by omega) q0
   have r1 := caught_one (B0 := w.heap.size) (by omega) q1
   refine ⟨_, results_cc rfl _ _ w.heap.size 24 _ (0, 0) _ rfl r0 Tryz.underlying24 rfl (by kernel_rfl) (.bool false) (w.heap.size + 1) rfl ?_, ?_⟩
   · have c1 : (caughtW w.heap.size (w.heap.size + 1) w1).cell? ⟨w.heap.size + 1, 0, none⟩ = some (.bool false) := blk_cell (i := 0) r1 (by simp)
     simp [go_sem, c1]
   · exact ⟨_, nv1, [], .mk 0 ⟨#[]⟩ 0 [], st, rfl, TOk.leaf (by omega) (by omega) (by decide), caught_fx ((FX.of_below HBW.out.1).trans hx) (Nat.le_refl _) (by omega), fun y hy => by cases hy⟩
 | some y =>
   obtain ⟨tm, s1⟩ := y
   replace HT : Hid _ := HT
   have HZ := HBW.out.2
   go_upto_region 3 with (go_at_call 56; refine (Calls.mono HT.out ?_); rintro e w1 ⟨v, rfl, F, nv1, ht, hi, hx⟩; obtain ⟨t1, t2, t3, t4, t5, t6, rfl⟩ := ht.form; have hk0 := (hx.block _ (by have := HBW.out.2; omega) (HNX.out _ (Nat.le_refl _))).trans HK0.out; obtain ⟨z0, z1, z2, z3, q0, q1, q2, q3⟩ := blk4 hk0; have HK01 : Hid _ := hk0; have HX1 : Hid (FX (XI g m nv) (XI g m nv1) W w1) := hx; have HI1 : Hid (IRd g m L lv nv1 w1 0 s1) := hi; have HT1 : Hid (TOk 24 (XI g m nv1) W.heap.size w1 tm (.agg #[.int .i64 t1, .string t2, .int .i64 t3, .slice t4 t5 t6]) F) := ht; clear ht hi hx hk0)
   obtain ⟨w2, hw2⟩ : ∃ w2, w2 = (((w1.setCell ⟨w.heap.size, 0, none⟩ (.int .i64 t1)).setCell ⟨w.heap.size, 1, none⟩ (.string t2)).setCell ⟨w.heap.size, 2, none⟩ (.int .i64 t3)).setCell ⟨w.heap.size, 3, none⟩ (.slice t4 t5 t6) := ⟨_, rfl⟩
   rw [← hw2]
   have oE : ∀ k, k ≠ w.heap.size → w2.heap[k]? = w1.heap[k]? := fun k hk => by rw [hw2]; exact blk4_other hk
   have hn1 : ∀ k, w.heap.size ≤ k → k < W.heap.size → ¬ XI g m nv1 k := fun k h1 h2 hh => (HX1.out.new k hh).elim (HNX.out k h1) (fun h3 => by omega)
   have hgw := HH.out.lt.1
   have I2 : IRd g m L lv nv1 w2 0 s1 := HI1.out.turn fun k hk => oE k (fun e => by
     rcases hk with hk | hk
     · omega
     · rw [e] at hk; exact hn1 _ (Nat.le_refl _) (by omega) hk)
   have HI2 : Hid (IRd g m L lv nv1 w2 0 s1) := I2
   have HT2 : Hid (TOk 24 (XI g m nv1) (w.heap.size + 2) w2 tm (.agg #[.int .i64 t1, .string t2, .int .i64 t3, .slice t4 t5 t6]) F) := (HT1.out.turn fun k hk _ => oE k (by omega)).lo_le (by omega)
   have HK02 : Hid (w2.heap[w.heap.size]? = some (.cells #[.int .i64 t1, .string t2, .int .i64 t3, .slice t4 t5 t6] 24 (0, 0))) := by rw [hw2]; exact blk4_set HK01.out
   have HK12 : Hid (w2.heap[w.heap.size + 1]? = some (.cells #[.bool false] 4 (0, 0))) := (oE _ (by omega)).trans ((HX1.out.block _ (by omega) (HNX.out _ (by omega))).trans HK1.out)
   have HX2 : Hid (FX (XI g m nv) (XI g m nv1) w w2) := by
     rw [hw2]
     exact (((((FX.of_below HBW.out.1).trans HX1.out).set (Or.inr (Nat.le_refl _)) _).set (Or.inr (Nat.le_refl _)) _).set (Or.inr (Nat.le_refl _)) _).set (Or.inr (Nat.le_refl _)) _
   have HN2 : Hid (¬ XI g m nv1 w.heap.size ∧ ¬ XI g m nv1 (w.heap.size + 1) ∧ g < w.heap.size) := ⟨hn1 _ (Nat.le_refl _) (by omega), hn1 _ (by omega) (by omega), hgw⟩
   obtain ⟨p, ms, hg, ⟨ao, cap, hlv, hlc, hcap, _⟩, _, _, _, _, _, hpl, hdr, _⟩ := I2.ex
   obtain ⟨NL, hNL⟩ : ∃ NL, NL = L.length := ⟨_, rfl⟩
   rw [← hNL] at hlv
   have hgc := hg
   rw [hlv] at hgc
   obtain ⟨b0, hb0⟩ : ∃ b0, b0 = ((p : Int) == (NL : Int)) := ⟨_, rfl⟩
   have hrest : b0 = decide (s1.rest = []) := by
     rw [hb0]
     by_cases e : p = NL
     · have : s1.rest = [] := by rw [← hdr, e, hNL, List.drop_length]
       rw [decide_eq_true this]; simp [e]
     · have h2 : ¬ s1.rest = [] := fun h => by
         have := congrArg List.length hdr
         rw [h, List.length_drop] at this
         simp at this
         omega
       rw [decide_eq_false h2]
       exact beq_false_of_ne (fun h => e (by omega))
   have HRB : Hid (b0 = decide (s1.rest = [])) := hrest
   have HB0 : Hid (((p : Int) == (NL : Int)) = b0) := hb0.symm
   have HG2 : Hid (w2.heap[g]? = some (.cells #[.slice ao NL cap, .int .i64 (p : Int), .int .i64 ((0 : Nat) : Int), nv1, .map (some m)] 63 (0, 0)) ∧ g < w2.heap.size) := ⟨hgc, (Array.getElem?_eq_some_iff.1 hg).1⟩
   have HTO : Hid (∀ u, (∀ k, k < w2.heap.size → k ≠ w.heap.size → k ≠ w.heap.size + 1 → u.heap[k]? = w2.heap[k]?) → Calls Tryz.prog 57 #[.agg #[.int .i64 t1, .string t2, .int .i64 t3, .slice t4 t5 t6]] u fun e w' => e = .returned (.bool tm.ok) ∧ Below u.heap.size u w') := fun u hu => implOk tm u _ (Own.toIn _ _ _ (Own.keep _ _ _ HT2.out.own fun f hf => hu f (HT2.out.lt f hf) (by have := (HT2.out.out f hf).1; omega) (by have := (HT2.out.out f hf).1; omega)))
   clear hw2 oE hn1 hgw I2 hg hlv hlc hcap hpl hdr hgc hrest hb0 hNL HT HK0 HK1 HX1 HI1 HT1 HK01 z0 z1 z2 z3 q0 q1 q2 q3 HZ
   obtain ⟨R0, hR0⟩ : ∃ R0, R0 = w.heap.size := ⟨_, rfl⟩
   obtain ⟨R1, hR1⟩ : ∃ R1, R1 = w.heap.size + 1 := ⟨_, rfl⟩
   have HRR : Hid (R0 = w.heap.size ∧ R1 = w.heap.size + 1) := ⟨hR0, hR1⟩
   rw [← hR1] at HK12 HTO HN2
   rw [← hR0] at HK02 HTO HN2
   have hR01 : R0 ≠ R1 := by omega
   have HR01 : Hid (R0 ≠ R1 ∧ R0 < w2.heap.size ∧ R1 < w2.heap.size ∧ g < R0) := ⟨hR01, (Array.getElem?_eq_some_iff.1 HK02.out).1, (Array.getElem?_eq_some_iff.1 HK12.out).1, HN2.out.2.2⟩
   have hR1' : R1 = R0 + 1 := by omega
   simp only [← hR0]
   simp only [← hR1']
   clear hR0 hR1 hR1' hR01
   refine FG.wp_region_factsG 17 (fun i v w' => match i with
     | 0 => v = .agg #[.int .i64 t1, .string t2, .int .i64 t3, .slice t4 t5 t6]
     | 1 => v = .pointer (some ⟨g, 0, none⟩)
     | 2 => v = .pointer (some ⟨g, 0, none⟩)
     | 3 => v = .pointer (some ⟨g, 1, none⟩)
     | 4 => v = .int .i64 (p : Int)
     | 5 => v = .pointer (some ⟨g, 0, none⟩)
     | 6 => v = .pointer (some ⟨g, 0, none⟩)
     | 7 => v = .pointer (some ⟨g, 0, none⟩)
     | 8 => v = .slice ao NL cap
     | 9 => v = .int .i64 (NL : Int)
     | 10 => v = .bool b0
     | 11 => v = .bool b0
     | 12 => b0 = true → v = .agg #[.int .i64 t1, .string t2, .int .i64 t3, .slice t4 t5 t6]
     | 13 => b0 = true → v = .bool tm.ok
     | 14 => v = .bool (b0 && tm.ok)
     | 15 => True
     | _ => WBase R0 R1 w2 #[.int .i64 t1, .string t2, .int .i64 t3, .slice t4 t5 t6] w' ∧ w'.heap[R1]? = some (.cells #[.bool (b0 && tm.ok)] 4 (0, 0)))
     (fun i w' => WBase R0 R1 w2 #[.int .i64 t1, .string t2, .int .i64 t3, .slice t4 t5 t6] w' ∧ (i = 16 → w'.heap[R1]? = some (.cells #[.bool false] 4 (0, 0))))
     (fun j w w' => (j = 15 → Set0 R0 w w' ∧ w'.heap[R0]? = some (.cells #[.int .i64 t1, .string t2, .int .i64 t3, .slice t4 t5 t6] 24 (0, 0))) ∧ (j = 16 → Set0 R1 w w') ∧ (j ≠ 15 → j ≠ 16 → Below w.heap.size w w')) (by kernel_rfl) (by kernel_rfl) 22 rfl (by kernel_rfl) ?_ ?_ ?_ ?_
   · intro i _
     have hd := (Below.refl w2.heap.size w2).drew
     have hz := HR01.out
     exact ⟨⟨hd.os, hd.tape, hd.output, hd.size, (hd.block _ hz.2.1).trans HK02.out, fun k hk _ _ => hd.block k hk⟩, fun _ => (hd.block _ hz.2.2.1).trans HK12.out⟩
   · intro i j u u' hi hj hne hrel
     have hz := HR01.out
     refine ⟨fun _ => fun ⟨p1, p2⟩ => ?_, fun ⟨Lf, hcl, hLi, hLj⟩ v => ?_⟩
     · have hl1 : w2.heap.size ≤ u.heap.size := p1.size
       by_cases e15 : j = 15
       · obtain ⟨hs, hr⟩ := hrel.1 e15
         exact ⟨⟨hs.os.trans p1.os, hs.tape.trans p1.tape, hs.output.trans p1.output, by rw [hs.size]; exact p1.size, hr, fun k hk h0 h1 => (hs.oth k h0).trans (p1.oth k hk h0 h1)⟩, fun e => (hs.oth _ (Ne.symm hz.1)).trans (p2 e)⟩
       · by_cases e16 : j = 16
         · have hs := hrel.2.1 e16
           exact ⟨⟨hs.os.trans p1.os, hs.tape.trans p1.tape, hs.output.trans p1.output, by rw [hs.size]; exact p1.size, (hs.oth _ hz.1).trans p1.r0, fun k hk h0 h1 => (hs.oth k h1).trans (p1.oth k hk h0 h1)⟩, fun e => absurd (e16.trans e.symm) hne⟩
         · have hb := hrel.2.2 e15 e16
           exact ⟨⟨hb.os.trans p1.os, hb.tape.trans p1.tape, hb.output.trans p1.output, Nat.le_trans p1.size hb.size, (hb.block _ (by omega)).trans p1.r0, fun k hk h0 h1 => (hb.block k (by omega)).trans (p1.oth k hk h0 h1)⟩, fun e => (hb.block _ (by omega)).trans (p2 e)⟩
     · match i, hi with
       | 0, _ => exact fun h => h
       | 1, _ => exact fun h => h
       | 2, _ => exact fun h => h
       | 3, _ => exact fun h => h
       | 4, _ => exact fun h => h
       | 5, _ => exact fun h => h
       | 6, _ => exact fun h => h
       | 7, _ => exact fun h => h
       | 8, _ => exact fun h => h
       | 9, _ => exact fun h => h
       | 10, _ => exact fun h => h
       | 11, _ => exact fun h => h
       | 12, _ => exact fun h => h
       | 13, _ => exact fun h => h
       | 14, _ => exact fun h => h
       | 15, _ => exact fun h => h
       | 16, _ =>
         have all : ∀ q, q < 16 → Lf q = true := fun q hq => by
           match q, hq with
           | 0, _ => exact hcl 16 _ rfl hLi 0 (by kernel_rfl)
           | 1, _ => exact hcl 16 _ rfl hLi 1 (by kernel_rfl)
           | 2, _ => exact hcl 16 _ rfl hLi 2 (by kernel_rfl)
           | 3, _ => exact hcl 16 _ rfl hLi 3 (by kernel_rfl)
           | 4, _ => exact hcl 16 _ rfl hLi 4 (by kernel_rfl)
           | 5, _ => exact hcl 16 _ rfl hLi 5 (by kernel_rfl)
           | 6, _ => exact hcl 16 _ rfl hLi 6 (by kernel_rfl)
           | 7, _ => exact hcl 16 _ rfl hLi 7 (by kernel_rfl)
           | 8, _ => exact hcl 16 _ rfl hLi 8 (by kernel_rfl)
           | 9, _ => exact hcl 16 _ rfl hLi 9 (by kernel_rfl)
           | 10, _ => exact hcl 16 _ rfl hLi 10 (by kernel_rfl)
           | 11, _ => exact hcl 16 _ rfl hLi 11 (by kernel_rfl)
           | 12, _ => exact hcl 16 _ rfl hLi 12 (by kernel_rfl)
           | 13, _ => exact hcl 16 _ rfl hLi 13 (by kernel_rfl)
           | 14, _ => exact hcl 16 _ rfl hLi 14 (by kernel_rfl)
           | 15, _ => exact hcl 16 _ rfl hLi 15 (by kernel_rfl)
           | n + 16, h => exact absurd h (by omega)
         exact absurd (all j (by omega)) (by rw [hLj]; simp)
       | n + 17, h => exact absurd h (by omega)
   · intro i o hi ho a u ⟨p1, p2⟩ hfr hdep hdf
     have u0 : a.tmps.getD 0 undef = .pointer (some ⟨g, 0, none⟩) := hfr 0 (by decide)
     have u2 : a.tmps.getD 2 undef = .pointer (some ⟨R0, 0, none⟩) := hfr 2 (by decide)
     have u3 : a.tmps.getD 3 undef = .pointer (some ⟨R1, 0, none⟩) := hfr 3 (by decide)
     have hz := HR01.out
     have kg := (p1.oth g HG2.out.2 (by omega) (by have := HRR.out; omega)).trans HG2.out.1
     obtain ⟨g0, g1, g2, g3, g4, _⟩ := b5f kg
     obtain ⟨x0, x1, x2, x3, f0, f1, f2, f3⟩ := blk4 p1.r0
     have rb : ∀ {j : Nat} {v w' : World}, Below v.heap.size v w' → j ≠ 15 → j ≠ 16 → (j = 15 → Set0 R0 v w' ∧ w'.heap[R0]? = some (.cells #[.int .i64 t1, .string t2, .int .i64 t3, .slice t4 t5 t6] 24 (0, 0))) ∧ (j = 16 → Set0 R1 v w') ∧ (j ≠ 15 → j ≠ 16 → Below v.heap.size v w') := fun hb h1 h2 => ⟨fun e => absurd e h1, fun e => absurd e h2, fun _ _ => hb⟩
     match i, hi with
     | 0, _ =>
       obtain rfl : _ = o := by simpa using ho
       refine FG.plain rfl (FZ.fact_valueZ (w' := u) (v := .agg #[.int .i64 t1, .string t2, .int .i64 t3, .slice t4 t5 t6]) rfl ?_ (rb (Below.refl _ _) (by decide) (by decide)) rfl)
       simp only [execOp, Act.eval, u2]
       go_simp
     | 1, _ =>
       obtain rfl : _ = o := by simpa using ho
       refine FG.plain rfl (FZ.fact_valueZ (w' := u) (v := .pointer (some ⟨g, 0, none⟩)) rfl ?_ (rb (Below.refl _ _) (by decide) (by decide)) rfl)
       simp only [execOp, Act.eval, u0]
       go_simp
     | 2, _ =>
       obtain rfl : _ = o := by simpa using ho
       have h0 : a.tmps.getD 8 undef = .pointer (some ⟨g, 0, none⟩) := hdep 1 (by kernel_rfl)
       refine FG.plain rfl (FZ.fact_valueZ (w' := u) (v := .pointer (some ⟨g, 0, none⟩)) rfl ?_ (rb (Below.refl _ _) (by decide) (by decide)) rfl)
       simp only [execOp, Act.eval, h0]
       go_simp
     | 3, _ =>
       obtain rfl : _ = o := by simpa using ho
       have h0 : a.tmps.getD 9 undef = .pointer (some ⟨g, 0, none⟩) := hdep 2 (by kernel_rfl)
       refine FG.plain rfl (FZ.fact_valueZ (w' := u) (v := .pointer (some ⟨g, 1, none⟩)) rfl ?_ (rb (Below.refl _ _) (by decide) (by decide)) rfl)
       simp only [execOp, Act.eval, h0]
       go_simp
     | 4, _ =>
       obtain rfl : _ = o := by simpa using ho
       have h0 : a.tmps.getD 10 undef = .pointer (some ⟨g, 1, none⟩) := hdep 3 (by kernel_rfl)
       refine FG.plain rfl (FZ.fact_valueZ (w' := u) (v := .int .i64 (p : Int)) rfl ?_ (rb (Below.refl _ _) (by decide) (by decide)) rfl)
       simp only [execOp, Act.eval, h0]
       go_simp
     | 5, _ =>
       obtain rfl : _ = o := by simpa using ho
       refine FG.plain rfl (FZ.fact_valueZ (w' := u) (v := .pointer (some ⟨g, 0, none⟩)) rfl ?_ (rb (Below.refl _ _) (by decide) (by decide)) rfl)
       simp only [execOp, Act.eval, u0]
       go_simp
     | 6, _ =>
       obtain rfl : _ = o := by simpa using ho
       have h0 : a.tmps.getD 12 undef = .pointer (some ⟨g, 0, none⟩) := hdep 5 (by kernel_rfl)
       refine FG.plain rfl (FZ.fact_valueZ (w' := u) (v := .pointer (some ⟨g, 0, none⟩)) rfl ?_ (rb (Below.refl _ _) (by decide) (by decide)) rfl)
       simp only [execOp, Act.eval, h0]
       go_simp
     | 7, _ =>
       obtain rfl : _ = o := by simpa using ho
       have h0 : a.tmps.getD 13 undef = .pointer (some ⟨g, 0, none⟩) := hdep 6 (by kernel_rfl)
       refine FG.plain rfl (FZ.fact_valueZ (w' := u) (v := .pointer (some ⟨g, 0, none⟩)) rfl ?_ (rb (Below.refl _ _) (by decide) (by decide)) rfl)
       simp only [execOp, Act.eval, h0]
       go_simp
     | 8, _ =>
       obtain rfl : _ = o := by simpa using ho
       have h0 : a.tmps.getD 14 undef = .pointer (some ⟨g, 0, none⟩) := hdep 7 (by kernel_rfl)
       refine FG.plain rfl (FZ.fact_valueZ (w' := u) (v := .slice ao NL cap) rfl ?_ (rb (Below.refl _ _) (by decide) (by decide)) rfl)
       simp only [execOp, Act.eval, h0]
       go_simp
     | 9, _ =>
       obtain rfl : _ = o := by simpa using ho
       have h0 : a.tmps.getD 15 undef = .slice ao NL cap := hdep 8 (by kernel_rfl)
       refine FG.plain rfl (FZ.fact_valueZ (w' := u) (v := .int .i64 (NL : Int)) rfl ?_ (rb (Below.refl _ _) (by decide) (by decide)) rfl)
       simp only [execOp]
       go_simp
     | 10, _ =>
       obtain rfl : _ = o := by simpa using ho
       have h0 : a.tmps.getD 11 undef = .int .i64 (p : Int) := hdep 4 (by kernel_rfl)
       have h1 : a.tmps.getD 16 undef = .int .i64 (NL : Int) := hdep 9 (by kernel_rfl)
       refine FG.plain rfl (FZ.fact_valueZ (w' := u) (v := .bool b0) rfl ?_ (rb (Below.refl _ _) (by decide) (by decide)) rfl)
       have hb := HB0.out
       simp only [execOp, Act.eval, h0, h1]
       go_simp
     | 11, _ =>
       obtain rfl : _ = o := by simpa using ho
       have h0 : a.tmps.getD 17 undef = .bool b0 := hdep 10 (by kernel_rfl)
       refine FG.plain rfl (FZ.fact_valueZ (w' := u) (v := .bool b0) rfl ?_ (rb (Below.refl _ _) (by decide) (by decide)) rfl)
       simp only [execOp, Act.eval, h0]
       go_simp
     | 12, _ =>
       obtain rfl : _ = o := by simpa using ho
       have h0 : a.tmps.getD 18 undef = .bool b0 := hdep 11 (by kernel_rfl)
       rw [FG.wanted_some (k := 11) (d := 18) (want := true) rfl rfl h0]
       refine ⟨fun _ => FZ.fact_valueZ (w' := u) (v := .agg #[.int .i64 t1, .string t2, .int .i64 t3, .slice t4 t5 t6]) rfl ?_ (rb (Below.refl _ _) (by decide) (by decide)) (fun _ => rfl), fun e => ⟨rb (Below.refl _ _) (by decide) (by decide), fun e2 => by rw [e2] at e; cases e⟩⟩
       simp only [execOp, Act.eval, u2]
       go_simp
     | 13, _ =>
       obtain rfl : _ = o := by simpa using ho
       have h0 : a.tmps.getD 18 undef = .bool b0 := hdep 11 (by kernel_rfl)
       have h1 : b0 = true → a.tmps.getD 19 undef = .agg #[.int .i64 t1, .string t2, .int .i64 t3, .slice t4 t5 t6] := hdep 12 (by kernel_rfl)
       rw [FG.wanted_some (k := 11) (d := 18) (want := true) rfl rfl h0]
       refine ⟨fun e => ?_, fun e => ⟨rb (Below.refl _ _) (by decide) (by decide), fun e2 => by rw [e2] at e; cases e⟩⟩
       have hbt : b0 = true := by simpa using e
       refine FZ.fact_callZ rfl rfl Tryz.func57 (by kernel_rfl) (by kernel_rfl) (args := #[.agg #[.int .i64 t1, .string t2, .int .i64 t3, .slice t4 t5 t6]]) (by simp [Act.eval, h1 hbt]) ?_
       refine Calls.mono (HTO.out u p1.oth) ?_
       rintro e u' ⟨rfl, hb⟩
       exact Or.inl ⟨_, rfl, rb hb (by decide) (by decide), fun _ => rfl⟩
     | 14, _ =>
       obtain rfl : _ = o := by simpa using ho
       have h0 : a.tmps.getD 18 undef = .bool b0 := hdep 11 (by kernel_rfl)
       have h1 : b0 = true → a.tmps.getD 20 undef = .bool tm.ok := hdep 13 (by kernel_rfl)
       refine FG.plain rfl (FZ.fact_valueZ (w' := u) (v := .bool (b0 && tm.ok)) rfl ?_ (rb (Below.refl _ _) (by decide) (by decide)) rfl)
       cases hb : b0 with
       | false =>
         rw [hb] at h0
         simp only [execOp, Act.eval, h0]
         go_simp
       | true =>
         rw [hb] at h0
         have h2 := h1 hb
         simp only [execOp, Act.eval, h0, h2]
         go_simp
     | 15, _ =>
       obtain rfl : _ = o := by simpa using ho
       have h0 : a.tmps.getD 7 undef = .agg #[.int .i64 t1, .string t2, .int .i64 t3, .slice t4 t5 t6] := hdep 0 (by kernel_rfl)
       have hS := Set0.of4 R0 u (.int .i64 t1) (.string t2) (.int .i64 t3) (.slice t4 t5 t6)
       refine FG.plain rfl (FZ.fact_storeZ (w' := (((u.setCell ⟨R0, 0, none⟩ (.int .i64 t1)).setCell ⟨R0, 1, none⟩ (.string t2)).setCell ⟨R0, 2, none⟩ (.int .i64 t3)).setCell ⟨R0, 3, none⟩ (.slice t4 t5 t6)) rfl ?_ ⟨fun _ => ⟨hS, blk4_set p1.r0⟩, fun e => absurd e (by decide), fun e => absurd rfl e⟩ trivial)
       simp only [execOp, Act.eval, h0, u2]
       go_simp
     | 16, _ =>
       obtain rfl : _ = o := by simpa using ho
       have h0 : a.tmps.getD 21 undef = .bool (b0 && tm.ok) := hdep 14 (by kernel_rfl)
       have k1 := p2 rfl
       have y0 : u.cell? ⟨R1, 0, none⟩ = some (.bool false) := blk_cell (i := 0) k1 (by simp)
       have yf := blk_frozen k1 0
       have hS : Set0 R1 u (u.setCell ⟨R1, 0, none⟩ (.bool (b0 && tm.ok))) := ⟨rfl, rfl, rfl, by simp [World.setCell], fun k hk => blk_other _ hk⟩
       refine FG.plain rfl (FZ.fact_storeZ (w' := u.setCell ⟨R1, 0, none⟩ (.bool (b0 && tm.ok))) rfl ?_ ⟨fun e => absurd e (by decide), fun _ => hS, fun _ e => absurd rfl e⟩ ⟨⟨p1.os, p1.tape, p1.output, by rw [hS.size]; exact p1.size, (hS.oth _ hz.1).trans p1.r0, fun k hk h0 h1 => (hS.oth k h1).trans (p1.oth k hk h0 h1)⟩, by simpa using blk_set (i := 0) k1 (.bool (b0 && tm.ok))⟩)
       simp only [execOp, Act.eval, h0, u3]
       go_simp
     | n + 17, h => exact absurd h (by omega)
   · intro vals w5 hf
     obtain ⟨p1, k1⟩ := hf 16 (by omega)
     have HP1 : Hid (WBase R0 R1 w2 #[.int .i64 t1, .string t2, .int .i64 t3, .slice t4 t5 t6] w5) := p1
     have HK1 : Hid (w5.heap[R1]? = some (.cells #[.bool (b0 && tm.ok)] 4 (0, 0))) := k1
     simp only [FG.putN, List.getElem?_toArray, List.getElem?_cons_zero, List.getElem?_cons_succ, Option.bind_some, List.drop_succ_cons, List.drop_zero]
     clear p1 k1 hf
     generalize vals 0 = mm0
     generalize vals 1 = mm1
     generalize vals 2 = mm2
     generalize vals 3 = mm3
     generalize vals 4 = mm4
     generalize vals 5 = mm5
     generalize vals 6 = mm6
     generalize vals 7 = mm7
     generalize vals 8 = mm8
     generalize vals 9 = mm9
     generalize vals 10 = mm10
     generalize vals 11 = mm11
     generalize vals 12 = mm12
     generalize vals 13 = mm13
     generalize vals 14 = mm14
     simp only [Act.put, List.setIfInBounds_toArray, List.set_cons_succ, List.set_cons_zero]
     have hr0 := HP1.out.r0
     obtain ⟨x0, x1, x2, x3, _⟩ := blk4 hr0
     have y0 : w5.cell? ⟨R1, 0, none⟩ = some (.bool (b0 && tm.ok)) := blk_cell (i := 0) HK1.out (by simp)
     go_wp2
     refine leaves_cons (f := 55) (args := #[.pointer (some ⟨R0, 0, none⟩), .pointer (some ⟨R1, 0, none⟩)]) (by simp) (by simp [go_sem]) ?_
     refine (catch_idle R0 R1 w5).mono ?_
     rintro e u' w'' ⟨rfl, rfl, rfl⟩
     have bA : Below w5.heap.size w5 (w5.alloc (.cells #[] 86)) := (Below.refl _ _).alloc (Nat.le_refl _) _
     have q1 := (bA.block _ (Array.getElem?_eq_some_iff.1 HK1.out).1).trans HK1.out
     have hp := HP1.out
     have hz := HR01.out
     refine ⟨_, results_cc rfl _ _ R0 24 _ (0, 0) _ rfl ((bA.block _ (Array.getElem?_eq_some_iff.1 hr0).1).trans hr0) Tryz.underlying24 rfl (by kernel_rfl) (.bool (b0 && tm.ok)) R1 rfl ?_, ?_⟩
     · have c1 : (w5.alloc (.cells #[] 86)).cell? ⟨R1, 0, none⟩ = some (.bool (b0 && tm.ok)) := blk_cell (i := 0) q1 (by simp)
       simp [go_sem, c1]
     · have hrr := HRR.out
       have hn := HN2.out
       have F5 : FX (XI g m nv) (XI g m nv1) w w5 := by
         have hx := HX2.out
         exact ⟨hp.os.trans hx.os, hp.tape.trans hx.tape, hp.output.trans hx.output, Nat.le_trans hx.size hp.size, fun k hk hxk => (hp.oth k (Nat.lt_of_lt_of_le hk hx.size) (by omega) (by omega)).trans (hx.block k hk hxk), hx.new⟩
       have T5 : TOk 24 (XI g m nv1) w.heap.size w5 tm (.agg #[.int .i64 t1, .string t2, .int .i64 t3, .slice t4 t5 t6]) F :=
         ⟨Own.keep _ _ _ HT2.out.own fun k hk => hp.oth k (HT2.out.lt k hk) (by have := (HT2.out.out k hk).1; omega) (by have := (HT2.out.out k hk).1; omega), HT2.out.nd, fun k hk => ⟨by have := (HT2.out.out k hk).1; omega, (HT2.out.out k hk).2⟩⟩
       have I5 : IRd g m L lv nv1 w5 0 s1 := by
         refine HI2.out.turn fun k hk => ?_
         have hlt : k < w2.heap.size := by
           rcases hk with hk | hk
           · have := HI2.out.lt.1; omega
           · exact HI2.out.lt.2.2 k hk
         refine hp.oth k hlt (fun e => ?_) (fun e => ?_)
         · rcases hk with hk | hk
           · omega
           · rw [e] at hk; exact hn.1 hk
         · rcases hk with hk | hk
           · omega
           · rw [e] at hk; exact hn.2.1 hk
       have hb := HRB.out
       refine ⟨_, nv1, F, tm, s1, ?_, T5.step (FX.of_below bA), F5.trans (FX.of_below bA), fun z hz2 => ?_⟩
       · have e1 : (wholeO (some (tm, s1))).isSome = (b0 && tm.ok) := by
           unfold wholeO
           simp only
           by_cases h1 : s1.rest = [] ∧ tm.ok = true
           · rw [if_pos h1, hb, decide_eq_true h1.1, h1.2]; rfl
           · rw [if_neg h1, hb]
             by_cases h2 : s1.rest = []
             · rw [decide_eq_true h2, Bool.true_and]
               cases h3 : tm.ok with
               | false => rfl
               | true => exact absurd ⟨h2, h3⟩ h1
             · rw [decide_eq_false h2, Bool.false_and]; rfl
         rw [e1]
       · unfold wholeO at hz2
         simp only at hz2
         split at hz2
         · cases hz2
           exact ⟨rfl, rfl, I5.keep bA⟩
         · cases hz2
end Go.Proofs.YtbkjcccbjnehbanGreatDoor

namespace Go.Proofs.YtbkjcccbjnehbanGreatDoor
open Go.RowKit
def RsOutI (L : List Sg) (a : Nat) (w : World) (e : Ending) (w' : World) : Prop :=
 ∃ tv nv F, e = .returned (.tuple #[tv, nv, .int .i64 ((rsR L a).nx : Int), .bool (rsR L a).ok]) ∧ TOk 24 (fun _ => False) w.heap.size w' (rsR L a).t tv F ∧ NRow w' w.heap.size (rsR L a).names nv ∧ (∀ b, nv.ownBlock = some b → b ∉ F) ∧ (rsR L a).names.length ≤ 3000 ∧ Below w.heap.size w w'
theorem readS_noend {r : List Sg} (h : NoEnd r) : readS r = none := by
 unfold readS
 cases e : termO true 130 1200 ⟨r, []⟩ with
 | none => rfl
 | some y =>
   obtain ⟨t, ⟨rest, names⟩⟩ := y
   cases rest with
   | nil => rfl
   | cons x r' =>
     have := h x (term_sub true 130 _ _ _ _ e x (by simp))
     simp only
     rw [if_neg (fun hh => this hh.1)]
def aheadL (L : List Sg) (a : Nat) : List Sg := (L.drop a).take (noEndC (L.drop a))
theorem rsR_of {L : List Sg} {a : Nat} (ha : a ≤ L.length) :
   (a + noEndC (L.drop a) = L.length ∧ rsR L a = ⟨false, noTm, [], L.length⟩) ∨
   (a + noEndC (L.drop a) < L.length ∧ (aheadL L a).length = noEndC (L.drop a) ∧ rsR L a = match readI (aheadL L a) with
     | some y => ⟨true, y.1, y.2, a + noEndC (L.drop a) + 1⟩
     | none => ⟨false, noTm, [], a + noEndC (L.drop a) + 1⟩) := by
 have hd : (L.drop a).length = L.length - a := List.length_drop ..
 rcases noEndC_at (L.drop a) with ⟨h1, h2, h3⟩ | ⟨E, tl, h1, h2, h3, h4⟩
 · left
   refine ⟨by omega, ?_⟩
   rw [rsR_none (fun _ => readS_noend h2), h3]
   congr 1
   omega
 · right
   have hl := congrArg List.length h1
   rw [List.length_append, List.length_cons, List.length_take] at hl
   have hc := noEndC_le (L.drop a)
   refine ⟨by omega, ?_, ?_⟩
   · unfold aheadL; rw [List.length_take]; omega
   · have hs : readS (L.drop a) = (readI (aheadL L a)).map fun y => (y.1, y.2, tl) := by
       conv => lhs; rw [h1]
       exact read_same h2 h3
     unfold rsR
     rw [if_pos (by omega), hs, h4]
     cases readI (aheadL L a) with
     | none => simp only [Option.map_none]; congr 1
     | some y =>
       simp only [Option.map_some]
       congr 1
       omega
theorem wholeO_readI (r : List Sg) : (wholeO (termO false 130 1200 ⟨r, []⟩)).map (fun y => (y.1, y.2.names)) = readI r := by
 unfold wholeO readI
 cases termO false 130 1200 ⟨r, []⟩ with
 | none => rfl
 | some y =>
   obtain ⟨t, ⟨rest, names⟩⟩ := y
   cases rest with
   | nil =>
     simp only
     by_cases h : t.ok = true
     · rw [if_pos ⟨trivial, h⟩, if_pos h]; rfl
     · rw [if_neg (fun hh => h hh.2), if_neg h]; rfl
   | cons x r' =>
     simp only
     rw [if_neg (fun hh => by cases hh.1)]; rfl
set_option maxHeartbeats 8000000 in
set_option maxRecDepth 20000 in
theorem i_readSigns (L : List Sg) (lv : Value) (a : Nat) (w : World) (ha : a ≤ L.length) (hL : L.length ≤ 3000) (hO : ∀ x ∈ L, SOk x) (h : SgRow w 0 L lv) :
   Calls Tryz.prog 21 #[lv, .int .i64 (a : Int)] w (RsOutI L a w) := by
 obtain ⟨ao, cap, rfl, hcap, hlc⟩ := h.shape
 obtain ⟨W, hW⟩ : ∃ W, W = w.alloc (.cells #[.int .i64 0, .string ⟨#[]⟩, .int .i64 0, .slice none 0 0] 24) := ⟨_, rfl⟩
 have bW : Below w.heap.size w W := by rw [hW]; exact (Below.refl _ _).alloc (Nat.le_refl _) _
 have kW : W.heap[w.heap.size]? = some (.cells #[.int .i64 0, .string ⟨#[]⟩, .int .i64 0, .slice none 0 0] 24 (0, 0)) := by rw [hW]; exact heap_alloc_new _ _
 have HNE : Hid _ := i_nextEnd L (.slice ao L.length cap) a W ha hL (h.keep bW)
 have HKW : Hid _ := kW
 have HBW : Hid (Below w.heap.size w W) := bW
 have HRW : Hid (SgRow W 0 L (.slice ao L.length cap)) := h.keep bW
 obtain ⟨NL, hNL⟩ : ∃ NL, NL = L.length := ⟨_, rfl⟩
 obtain ⟨E, hE⟩ : ∃ E, E = a + noEndC (L.drop a) := ⟨_, rfl⟩
 have hma : max (a : Int) 0 = (a : Int) := by omega
 rcases rsR_of ha with ⟨h1, h2⟩ | ⟨h1, h2, h3⟩
 · rw [← hE] at HNE h1
   rw [← hNL] at HNE HRW h1 h2 ⊢
   subst h1
   have HRS : Hid (rsR L a = ⟨false, noTm, [], E⟩) := h2
   clear h hNL hE h2 ha hO
   go_enter Tryz.func21, Tryz.ntmps21
   go_upto_region 1 with fail
   rw [← hW]
   clear hW
   obtain ⟨q0, q1, q2, q3, f0, f1, f2, f3⟩ := blk4 HKW.out
   go_wp2_with (go_at_call 32; refine (Calls.mono HNE.out ?_); rintro e w1 ⟨rfl, rfl⟩)
   refine bodyPost_ret_by (results_c3 rfl _ _ w.heap.size 24 _ (0, 0) _ rfl (blk4_set HKW.out) Tryz.underlying24 rfl (by kernel_rfl)) rfl ?_
   refine ⟨_, _, [], by rw [HRS.out]; rfl, by rw [HRS.out]; exact TOk.leaf (by omega) (by omega) (by decide), by rw [HRS.out]; exact ⟨rfl, Or.inl ⟨rfl, rfl⟩⟩, (fun b hb => by cases hb), by rw [HRS.out]; exact Nat.zero_le _, blk4_below HBW.out (Nat.le_refl _)⟩
 · obtain ⟨gb, cap2, hv, _, hgb, _, _, hcells⟩ := h.cells (fun e => by subst e; simp at h1)
   obtain ⟨rfl, _, rfl⟩ : ao = some ⟨gb, 0, none⟩ ∧ L.length = L.length ∧ cap = cap2 := by simpa using hv
   obtain ⟨n, hn⟩ : ∃ n, n = noEndC (L.drop a) := ⟨_, rfl⟩
   rw [← hn] at hE h1 h2 h3
   obtain ⟨L', hL'⟩ : ∃ L', L' = aheadL L a := ⟨_, rfl⟩
   have hSI : SIn W L' (.slice (some ⟨gb, a * 5, none⟩) n (cap - a)) := by
     refine ⟨some ⟨gb, a * 5, none⟩, cap - a, by rw [hL', h2], by rw [hL', h2]; omega, by omega, fun j hj => ⟨gb, a * 5, rfl, ?_⟩⟩
     rw [hL', h2] at hj
     have hjl : a + j < L.length := by omega
     have e : L'[j]'(by rw [hL', h2]; exact hj) = L[a + j] := by
       subst hL'
       simp [aheadL]
     rw [e, show a * 5 + j * 5 = (a + j) * 5 by omega]
     have hk := hcells (a + j) hjl
     have hb : W.heap[gb]? = w.heap[gb]? := bW.block gb hgb
     exact ⟨by rw [World.cell?_of_block (a := ⟨gb, _, none⟩) hb]; exact hk.1, by rw [World.cell?_of_block (a := ⟨gb, _, none⟩) hb]; exact hk.2.1, by rw [World.cell?_of_block (a := ⟨gb, _, none⟩) hb]; exact hk.2.2.1, by rw [World.cell?_of_block (a := ⟨gb, _, none⟩) hb]; exact hk.2.2.2.1, by rw [World.cell?_of_block (a := ⟨gb, _, none⟩) hb]; exact hk.2.2.2.2⟩
   rw [← hL'] at h2 h3
   rw [← hn, ← hE] at HNE
   rw [← hE] at h1 h3
   rw [← hNL] at HNE HRW h1 hL hlc ⊢
   have hne : ((E : Int) == (NL : Int)) = false := beq_false_of_ne (by omega)
   have hneg : ¬ (a : Int) < 0 := by omega
   have hla : (a : Int) ≤ (E : Int) := by omega
   have hlE : (E : Int) ≤ (cap : Int) := by omega
   have hca : ¬ cap = a := by omega
   have hEa : E - a = n := by omega
   have HEA : Hid (E = a + n ∧ E < NL ∧ NL ≤ 3000 ∧ NL ≤ cap ∧ cap ≤ maxLen) := ⟨hE, h1, hL, hlc, hcap⟩
   have HLL : Hid (L'.length = n) := h2
   have HRS : Hid _ := h3
   have HSI : Hid (SIn W L' (.slice (some ⟨gb, a * 5, none⟩) n (cap - a))) := hSI
   have HGB : Hid (gb < w.heap.size) := hgb
   have HO' : Hid (∀ x ∈ L', SOk x) := fun x hx => hO x (by rw [hL'] at hx; exact List.mem_of_mem_drop (List.mem_of_mem_take hx))
   have hmm := @run_makeMap Tryz.prog
   clear h hNL hE h1 h2 h3 ha hO hn hL' hL hlc hcap hv hcells hSI hgb HRW
   go_enter Tryz.func21, Tryz.ntmps21
   go_upto_region 1 with fail
   rw [← hW]
   clear hW
   go_upto_region 6 with (go_at_call 32; refine (Calls.mono HNE.out ?_); rintro e w1 ⟨rfl, rfl⟩)
   go_upto_region 7 with fail
   obtain ⟨V, hV⟩ : ∃ V, V = (w1.alloc (.map #[] 0)).alloc (.cells #[.slice (some ⟨gb, a * 5, none⟩) n (cap - a), .int .i64 0, .int .i64 0, .slice none 0 0, .map (some w1.heap.size)] 63) := ⟨_, rfl⟩
   rw [← hV]
   have bV : Below w1.heap.size w1 V := by rw [hV]; exact ((Below.refl _ _).alloc (Nat.le_refl _) _).alloc (by simp) _
   have kg : V.heap[w1.heap.size + 1]? = some (.cells #[.slice (some ⟨gb, a * 5, none⟩) n (cap - a), .int .i64 0, .int .i64 0, .slice none 0 0, .map (some w1.heap.size)] 63 (0, 0)) := by rw [hV]; exact alloc_at _ _ (by simp)
   have km : V.heap[w1.heap.size]? = some (.map #[] 0) := by rw [hV]; exact (alloc_old _ _ (by simp)).trans (heap_alloc_new _ _)
   have sV : V.heap.size = w1.heap.size + 2 := by rw [hV]; simp
   obtain ⟨m, hm⟩ : ∃ m, m = w1.heap.size := ⟨_, rfl⟩
   obtain ⟨g, hg⟩ : ∃ g, g = m + 1 := ⟨_, rfl⟩
   rw [← hm] at kg km ⊢
   rw [← hg] at kg ⊢
   have hsW := HBW.out.size
   have hgb := HGB.out
   have I0 : IRd g m L' (.slice (some ⟨gb, a * 5, none⟩) n (cap - a)) (.slice none 0 0) V 0 ⟨L', []⟩ := ⟨0, [], kg, HSI.out.turn fun b hb => by
       have : b = gb := by simpa [sliceBlk] using hb.symm
       subst this
       exact bV.block _ (by omega), fun b hb => by
       have : b = gb := by simpa [sliceBlk] using hb.symm
       subst this
       omega, ⟨rfl, Or.inl ⟨rfl, rfl⟩⟩, ⟨#[], 0, km, rfl⟩, MOk.nil, by omega, Nat.zero_le _, rfl, Nat.zero_le _⟩
   have HWH := i_whole g m L' (.slice (some ⟨gb, a * 5, none⟩) n (cap - a)) (.slice none 0 0) ⟨L', []⟩ V (by have := HLL.out; have := HEA.out; omega) HO'.out I0
   have hnX : ∀ k, k < m → ¬ XI g m (.slice none 0 0) k := fun k hk hh => by
     rcases hh with e | e | e
     · omega
     · omega
     · cases e
   have HNX : Hid (∀ k, k < m → ¬ XI g m (.slice none 0 0) k) := hnX
   have HGM : Hid (m = w1.heap.size ∧ g = m + 1 ∧ w.heap.size < m ∧ V.heap.size = m + 2) := ⟨hm, hg, by
     have := (Array.getElem?_eq_some_iff.1 HKW.out).1; omega, by omega⟩
   have HBV : Hid (Below w1.heap.size w1 V) := bV
   have HKV : Hid (V.heap[w.heap.size]? = some (.cells #[.int .i64 0, .string ⟨#[]⟩, .int .i64 0, .slice none 0 0] 24 (0, 0))) := (bV.block _ (Array.getElem?_eq_some_iff.1 HKW.out).1).trans HKW.out
   have hri := wholeO_readI L'
   obtain ⟨R, hR⟩ : ∃ R, R = wholeO (termO false 130 1200 ⟨L', []⟩) := ⟨_, rfl⟩
   rw [← hR] at HWH hri
   replace HWH : Hid _ := HWH
   have hwE : IntKind.i64.wrap ((E : Int) + 1) = (E : Int) + 1 := by have := HEA.out; rw [IntKind.wrap_i64]; omega
   clear hV bV kg km sV hm hg hsW hgb I0 hnX hR
   cases R with
   | none =>
     have HR0 : Hid (rsR L a = ⟨false, noTm, [], E + 1⟩) := by show _ = _; rw [HRS.out, ← hri]; rfl
     clear hri
     go_upto_region 8 with (go_at_call 33; refine (Calls.mono HWH.out ?_); rintro e w5 ⟨v, nv5, F, tm, st5, rfl, ht, hx, hy⟩; obtain ⟨t1, t2, t3, t4, t5, t6, rfl⟩ := ht.form; have HX5 : Hid (FX (XI g m (.slice none 0 0)) (XI g m nv5) V w5) := hx; have HT5 : Hid (TOk 24 (XI g m nv5) V.heap.size w5 tm (.agg #[.int .i64 t1, .string t2, .int .i64 t3, .slice t4 t5 t6]) F) := ht; have HY5 : Hid _ := hy; clear ht hx hy)
     obtain ⟨w6, hw6⟩ : ∃ w6, w6 = w5.alloc (.cells #[.int .i64 t1, .string t2, .int .i64 t3, .slice t4 t5 t6] 24) := ⟨_, rfl⟩
     rw [← hw6]
     have b6 : Below w5.heap.size w5 w6 := by rw [hw6]; exact (Below.refl _ _).alloc (Nat.le_refl _) _
     have hgm := HGM.out
     have hk : w6.heap[w.heap.size]? = _ := (b6.block _ (by have := HX5.out.size; omega)).trans ((HX5.out.block _ (by omega) (HNX.out _ (by omega))).trans HKV.out)
     have HK6 : Hid _ := hk
     have HB6 : Hid (Below w.heap.size w w6) := by
       have h1 : Below w1.heap.size w1 w5 := HBV.out.trans (HX5.out.below (by omega) (fun k hk' => by
         rcases hk' with e | e | e
         · omega
         · omega
         · cases e))
       exact HBW.out.trans ((h1.trans (b6.mono h1.size)).mono HBW.out.size)
     obtain ⟨q0, q1, q2, q3, f0, f1, f2, f3⟩ := blk4 hk
     clear hw6 b6 hgm hk
     go_wp2
     refine bodyPost_ret_by (results_c3 rfl _ _ w.heap.size 24 _ (0, 0) _ rfl (blk4_set HK6.out) Tryz.underlying24 rfl (by kernel_rfl)) rfl ?_
     refine ⟨_, _, [], by rw [HR0.out]; rfl, by rw [HR0.out]; exact TOk.leaf (by omega) (by omega) (by decide), by rw [HR0.out]; exact ⟨rfl, Or.inl ⟨rfl, rfl⟩⟩, (fun b hb => by cases hb), by rw [HR0.out]; exact Nat.zero_le _, blk4_below HB6.out (Nat.le_refl _)⟩
   | some y =>
     have HR0 : Hid (rsR L a = ⟨true, y.1, y.2.names, E + 1⟩) := by show _ = _; rw [HRS.out, ← hri]; rfl
     clear hri
     go_upto_region 8 with (go_at_call 33; refine (Calls.mono HWH.out ?_); rintro e w5 ⟨v, nv5, F, tm, st5, rfl, ht, hx, hy⟩; obtain ⟨t1, t2, t3, t4, t5, t6, rfl⟩ := ht.form; have HX5 : Hid (FX (XI g m (.slice none 0 0)) (XI g m nv5) V w5) := hx; have HT5 : Hid (TOk 24 (XI g m nv5) V.heap.size w5 tm (.agg #[.int .i64 t1, .string t2, .int .i64 t3, .slice t4 t5 t6]) F) := ht; have HY5 : Hid _ := hy; clear ht hx hy)
     obtain ⟨w6, hw6⟩ : ∃ w6, w6 = w5.alloc (.cells #[.int .i64 t1, .string t2, .int .i64 t3, .slice t4 t5 t6] 24) := ⟨_, rfl⟩
     rw [← hw6]
     have b6 : Below w5.heap.size w5 w6 := by rw [hw6]; exact (Below.refl _ _).alloc (Nat.le_refl _) _
     have hgm := HGM.out
     have hk : w6.heap[w.heap.size]? = _ := (b6.block _ (by have := HX5.out.size; omega)).trans ((HX5.out.block _ (by omega) (HNX.out _ (by omega))).trans HKV.out)
     have HK6 : Hid _ := hk
     have HB6 : Hid (Below w.heap.size w w6) := by
       have h1 : Below w1.heap.size w1 w5 := HBV.out.trans (HX5.out.below (by omega) (fun k hk' => by
         rcases hk' with e | e | e
         · omega
         · omega
         · cases e))
       exact HBW.out.trans ((h1.trans (b6.mono h1.size)).mono HBW.out.size)
     obtain ⟨htm, hst, hI5⟩ := HY5.out y rfl
     have hk10 : w6.heap[w5.heap.size]? = some (.cells #[.int .i64 t1, .string t2, .int .i64 t3, .slice t4 t5 t6] 24 (0, 0)) := by rw [hw6]; exact heap_alloc_new _ _
     obtain ⟨p6, ms6, hg6, _, _, hnr, _, _, _, hp6, _, hn6⟩ := (hI5.keep b6).ex
     have HNL : Hid (y.2.names.length ≤ 3000) := by
       show _ ≤ _
       rw [← hst]
       have h1 : st5.names.length ≤ p6 := hn6
       have := HLL.out; have := HEA.out; omega
     clear hp6 hn6
     have HNR : Hid (NRow w6 (max g m + 1) y.2.names nv5) := by rw [← hst]; exact hnr
     have HK10 : Hid _ := hk10
     have HG6 : Hid _ := hg6
     have HT6 : Hid (TOk 24 (XI g m nv5) V.heap.size w6 y.1 (.agg #[.int .i64 t1, .string t2, .int .i64 t3, .slice t4 t5 t6]) F) := by rw [← htm]; exact HT5.out.step (FX.of_below b6)
     obtain ⟨B10, hB10⟩ : ∃ B10, B10 = w5.heap.size := ⟨_, rfl⟩
     rw [← hB10] at HK10 ⊢
     have hn1 : B10 ≠ w.heap.size := by have := HX5.out.size; omega
     have hn2 : g ≠ w.heap.size := by omega
     have HNN : Hid (B10 ≠ w.heap.size ∧ g ≠ w.heap.size) := ⟨hn1, hn2⟩
     clear hw6 b6 hgm hk hk10 hg6 hnr htm hst hI5 hB10 hn1 hn2
     go_upto_region 10 with fail
     obtain ⟨q0, q1, q2, q3, f0, f1, f2, f3⟩ := blk4 HK6.out
     obtain ⟨z0, z1, z2, z3, _⟩ := blk4 HK10.out
     obtain ⟨g0, g1, g2, g3, g4, _⟩ := b5f HG6.out
     have hn1 := HNN.out.1
     have hn2 := HNN.out.2
     have hn3 : ¬ w.heap.size = B10 := fun e => hn1 e.symm
     have hn4 : ¬ w.heap.size = g := fun e => hn2 e.symm
     go_region
     obtain ⟨w7, hw7⟩ : ∃ w7, w7 = (((w6.setCell ⟨w.heap.size, 0, none⟩ (.int .i64 t1)).setCell ⟨w.heap.size, 1, none⟩ (.string t2)).setCell ⟨w.heap.size, 2, none⟩ (.int .i64 t3)).setCell ⟨w.heap.size, 3, none⟩ (.slice t4 t5 t6) := ⟨_, rfl⟩
     rw [← hw7]
     have k7 : w7.drew.heap[w.heap.size]? = some (.cells #[.int .i64 t1, .string t2, .int .i64 t3, .slice t4 t5 t6] 24 (0, 0)) := by
       rw [(rfl : w7.drew.heap = w7.heap), hw7]
       exact blk4_set HK6.out
     have oE : ∀ k, k ≠ w.heap.size → w7.drew.heap[k]? = w6.heap[k]? := fun k hk => by
       rw [(rfl : w7.drew.heap = w7.heap), hw7]
       exact blk4_other hk
     have b7 : Below w.heap.size w w7.drew := by
       refine Below.drew ?_
       rw [hw7]
       exact blk4_below HB6.out (Nat.le_refl _)
     have hgm := HGM.out
     have hnr := HNR.out
     clear hw7 q0 q1 q2 q3 f0 f1 f2 f3 z0 z1 z2 z3 g0 g1 g2 g3 g4
     generalize w7.drew = w8 at *
     go_wp2
     refine bodyPost_ret_by (results_c3 rfl _ _ w.heap.size 24 _ (0, 0) _ rfl k7 Tryz.underlying24 rfl (by kernel_rfl)) rfl ?_
     have ht6 := HT6.out
     refine ⟨_, nv5, F, by rw [HR0.out]; rfl, ?_, ?_, fun b hb hf => (ht6.out b hf).2 (Or.inr (Or.inr hb)), by rw [HR0.out]; exact HNL.out, b7⟩
     · rw [HR0.out]
       exact ⟨Own.keep _ _ _ ht6.own fun k hk => oE k (by have := (ht6.out k hk).1; omega), ht6.nd, fun k hk => ⟨by have := (ht6.out k hk).1; omega, fun h => h⟩⟩
     · rw [HR0.out]
       exact nrow_base (hnr.turn fun b hb => oE b (by have := (hnr.lt b hb).1; omega)) (by omega)
end Go.Proofs.YtbkjcccbjnehbanGreatDoor

namespace Go.Proofs.YtbkjcccbjnehbanGreatDoor
open Go.RowKit
theorem sgsF_sok {t : ByteArray} (ht : t.size ≤ 3000) : ∀ (n i : Nat), ∀ x ∈ sgsF t n i, SOk x := by
 intro n
 induction n with
 | zero => intro i x hx; simp [sgsF] at hx
 | succ n ih =>
   intro i x hx
   unfold sgsF at hx
   split at hx
   · rename_i hi
     rcases List.mem_append.1 hx with h | h
     · unfold stepAt at h
       split at h
       · simp at h
       · split at h
         · simp at h
         · obtain ⟨k, y, m, e, hs, hy, hm⟩ := MkOk.sign t i
           simp only [hs, Option.toList_some, List.mem_singleton] at h
           subst h
           refine ⟨?_, ?_, hm.1, hm.2⟩
           · show y.size ≤ 3000; omega
           · show i ≤ 3000; omega
     · exact ih _ x h
   · simp at hx
theorem signs_sok (t : ByteArray) : ∀ x ∈ (signsR t).1, SOk x := by
 unfold signsR
 split
 · exact sgsF_sok (by omega) _ _
 · intro x hx; cases hx
theorem rsR_le {L : List Sg} {a : Nat} (ha : a ≤ L.length) : (rsR L a).nx ≤ L.length := by
 by_cases h : a < L.length
 · exact (rsR_nx h).2
 · rw [rsR_none (fun h2 => absurd h2 h)]
   show a + behindC (L.drop a) ≤ L.length
   have := behindC_le (L.drop a)
   rw [List.length_drop] at this
   omega
def RtOutI (o : Option (Tm × List ByteArray)) (w : World) (e : Ending) (w' : World) : Prop :=
 ∃ tv nv F, e = .returned (.tuple #[tv, nv, .bool o.isSome]) ∧ TOk 24 (fun _ => False) w.heap.size w' (rtT o) tv F ∧ NRow w' w.heap.size (rtN o) nv ∧ (∀ b, nv.ownBlock = some b → b ∉ F) ∧ (rtN o).length ≤ 3000 ∧ Below w.heap.size w w'
set_option maxHeartbeats 4000000 in
set_option maxRecDepth 20000 in
theorem i_readTerm (t : ByteArray) (w : World) (hT : Lib.Utf8Tabs 0 1 w) : Calls Tryz.prog 6 #[.string t] w (RtOutI (rtR t) w) := by
 have HSG : Hid (∀ w1, Below w.heap.size w w1 → Calls Tryz.prog 20 #[.string t] w1 fun e w' => ∃ v, e = .returned (.tuple #[v, .bool (signsR t).2]) ∧ SgRow w' w1.heap.size (signsR t).1 v ∧ Below w1.heap.size w1 w') := fun w1 hb => impl_all t w1 (tabs_keep hT hb)
 have HLEN : Hid ((signsR t).1.length ≤ 3000) := signsR_len t
 have HOK : Hid (∀ x ∈ (signsR t).1, SOk x) := signs_sok t
 have HRT : Hid (rtR t = if (rsR (signsR t).1 0).ok = true ∧ (rsR (signsR t).1 0).nx = (signsR t).1.length then some ((rsR (signsR t).1 0).t, (rsR (signsR t).1 0).names) else none) := rfl
 generalize (signsR t).1 = L at *
 generalize (signsR t).2 = bb at *
 generalize rtR t = O at *
 obtain ⟨W, hW⟩ : ∃ W, W = w.alloc (.cells #[.int .i64 0, .string ⟨#[]⟩, .int .i64 0, .slice none 0 0] 24) := ⟨_, rfl⟩
 have bW : Below w.heap.size w W := by rw [hW]; exact (Below.refl _ _).alloc (Nat.le_refl _) _
 have HKW : Hid (W.heap[w.heap.size]? = some (.cells #[.int .i64 0, .string ⟨#[]⟩, .int .i64 0, .slice none 0 0] 24 (0, 0))) := by rw [hW]; exact heap_alloc_new _ _
 have HSW : Hid (W.heap.size = w.heap.size + 1) := by show _ = _; rw [hW]; simp
 have HBW : Hid (Below w.heap.size w W) := bW
 have HW : Hid (W = w.alloc (.cells #[.int .i64 0, .string ⟨#[]⟩, .int .i64 0, .slice none 0 0] 24)) := hW
 clear bW
 go_enter Tryz.func6, Tryz.ntmps6
 go_upto_region 1 with (fail)
 rw [← HW.out]
 clear hW
 go_upto_region 2 with (go_at_call 20; refine (Calls.mono (HSG.out _ HBW.out) ?_); rintro e w1 ⟨v1, rfl, r1, b1⟩; obtain ⟨ao, cap, rfl, hcap, hlc⟩ := r1.shape; have R1 : Hid (SgRow w1 W.heap.size L (.slice ao L.length cap)) := r1; have B1 : Hid (Below W.heap.size W w1) := b1; clear r1 b1)
 have HR0 : Hid (SgRow w1 0 L (.slice ao L.length cap)) := ⟨R1.out.1, by
   rcases R1.out.2 with hn | ⟨g, cap', cur, e, _, h2, h3⟩
   · exact Or.inl hn
   · exact Or.inr ⟨g, cap', cur, e, Nat.zero_le _, h2, h3⟩⟩
 have HRS := i_readSigns L (.slice ao L.length cap) 0 w1 (Nat.zero_le _) HLEN.out HOK.out HR0.out
 have hl3 : (L.length : Int) ≤ 3000 := by have := HLEN.out; omega
 obtain ⟨NL, hNL⟩ : ∃ NL, NL = L.length := ⟨_, rfl⟩
 rw [← hNL] at HRS hl3 HRT ⊢
 unfold RsOutI at HRS
 obtain ⟨RR, hRR⟩ : ∃ RR, RR = rsR L 0 := ⟨_, rfl⟩
 have hnxb : (rsR L 0).nx ≤ NL := by rw [hNL]; exact rsR_le (Nat.zero_le _)
 rw [← hRR] at HRS HRT hnxb
 obtain ⟨ok, t0, names, nx⟩ := RR
 have HNXB : Hid (nx ≤ NL) := hnxb
 clear hnxb
 replace HRS : Hid _ := HRS
 clear hRR hNL hlc R1 HR0 HSG HOK HLEN
 unfold maxLen at hcap
 go_upto_region 3 with (go_at_call 21; refine (Calls.mono HRS.out ?_); rintro e w2 ⟨tv, nv, F, rfl, ht, hnr, hdj, hnl, hb⟩; have HNL9 : Hid (names.length ≤ 3000) := hnl; clear hnl; have HDJ : Hid (∀ b, nv.ownBlock = some b → b ∉ F) := hdj; clear hdj; obtain ⟨tk, ts, tn, ta, tl, tc, rfl⟩ := ht.form; have HT2 : Hid (TOk 24 (fun _ => False) w1.heap.size w2 t0 (.agg #[.int .i64 tk, .string ts, .int .i64 tn, .slice ta tl tc]) F) := ht; have HN2 : Hid (NRow w2 w1.heap.size names nv) := hnr; have B2 : Hid (Below w1.heap.size w1 w2) := hb; clear ht hnr hb)
 have HBW2 : Hid (Below w.heap.size w w2) := by
   have h1 := HBW.out.trans (B1.out.mono HBW.out.size)
   exact h1.trans (B2.out.mono h1.size)
 obtain ⟨V, hV⟩ : ∃ V, V = w2.alloc (.cells #[.int .i64 tk, .string ts, .int .i64 tn, .slice ta tl tc] 24) := ⟨_, rfl⟩
 have bV : Below w2.heap.size w2 V := by rw [hV]; exact (Below.refl _ _).alloc (Nat.le_refl _) _
 have HK7 : Hid (V.heap[w2.heap.size]? = some (.cells #[.int .i64 tk, .string ts, .int .i64 tn, .slice ta tl tc] 24 (0, 0))) := by rw [hV]; exact heap_alloc_new _ _
 have HBV : Hid (Below w.heap.size w V) := HBW2.out.trans (bV.mono HBW2.out.size)
 have HLT : Hid (w.heap.size < w2.heap.size ∧ w.heap.size < w1.heap.size) := by have h0 := HSW.out; have h1 := B1.out.size; have h2 := B2.out.size; exact ⟨by omega, by omega⟩
 have HKV : Hid (V.heap[w.heap.size]? = some (.cells #[.int .i64 0, .string ⟨#[]⟩, .int .i64 0, .slice none 0 0] 24 (0, 0))) := by
   have h0 := HSW.out
   have h1 := (B1.out.block w.heap.size (by omega)).trans HKW.out
   have h2 := (B2.out.block w.heap.size HLT.out.2).trans h1
   exact (bV.block w.heap.size HLT.out.1).trans h2
 have HTV : Hid (TOk 24 (fun _ => False) w1.heap.size V t0 (.agg #[.int .i64 tk, .string ts, .int .i64 tn, .slice ta tl tc]) F) := HT2.out.step (FX.of_below bV)
 have HNV : Hid (NRow V w1.heap.size names nv) := nrow_keep HN2.out bV
 have hltV : w.heap.size < V.heap.size := (Array.getElem?_eq_some_iff.1 HKV.out).1
 rw [← hV]
 clear hV bV HT2 HN2 HKW HRS
 cases ok with
 | false =>
   have HON : Hid (O = none) := by show _ = _; rw [HRT.out, if_neg (by simp)]
   clear HRT
   go_upto_region 4 with (fail)
   obtain ⟨q0, q1, q2, q3, z0, z1, z2, z3⟩ := blk4 HKV.out
   go_wp2
   refine bodyPost_ret_by (results_c2 rfl _ _ w.heap.size 24 _ (0, 0) _ rfl (blk4_set HKV.out) Tryz.underlying24 rfl (by kernel_rfl)) rfl ?_
   exact ⟨_, _, [], by rw [HON.out]; rfl, by rw [HON.out]; exact tok_zero _ _, by rw [HON.out]; exact ⟨rfl, Or.inl ⟨rfl, rfl⟩⟩, (fun b hb => by cases hb), by rw [HON.out]; exact Nat.zero_le _, blk4_below HBV.out (Nat.le_refl _)⟩
 | true =>
   by_cases hnx : nx = NL
   · subst hnx
     have HON : Hid (O = some (t0, names)) := by show _ = _; rw [HRT.out, if_pos ⟨rfl, rfl⟩]
     clear HRT
     go_upto_region 5 with (fail)
     obtain ⟨q0, q1, q2, q3, z0, z1, z2, z3⟩ := blk4 HKV.out
     obtain ⟨y0, y1, y2, y3, _⟩ := blk4 HK7.out
     have hne : ¬ w.heap.size = w2.heap.size := by have := HLT.out.1; omega
     go_wp2
     refine bodyPost_ret_by (results_c2 rfl _ _ w.heap.size 24 _ (0, 0) _ rfl (blk4_set HKV.out) Tryz.underlying24 rfl (by kernel_rfl)) rfl ?_
     have h1 := HLT.out
     refine ⟨_, nv, F, by rw [HON.out]; rfl, ?_, ?_, HDJ.out, by rw [HON.out]; exact HNL9.out, blk4_below HBV.out (Nat.le_refl _)⟩
     · rw [HON.out]
       exact ⟨Own.keep _ _ _ HTV.out.own fun f hf => blk4_other (by have := (HTV.out.out f hf).1; omega), HTV.out.nd, fun f hf => ⟨by have := (HTV.out.out f hf).1; omega, fun h => h⟩⟩
     · rw [HON.out]
       exact nrow_base (B := w1.heap.size) (HNV.out.turn fun b hb => blk4_other (by have := (HNV.out.lt b hb).1; omega)) (by omega)
   · have HON : Hid (O = none) := by show _ = _; rw [HRT.out, if_neg (fun h => hnx h.2)]
     have hnb : (nx : Int) < (NL : Int) := by have h9 := HNXB.out; omega
     clear HRT hnx
     go_upto_region 4 with (fail)
     obtain ⟨q0, q1, q2, q3, z0, z1, z2, z3⟩ := blk4 HKV.out
     go_wp2
     refine bodyPost_ret_by (results_c2 rfl _ _ w.heap.size 24 _ (0, 0) _ rfl (blk4_set HKV.out) Tryz.underlying24 rfl (by kernel_rfl)) rfl ?_
     exact ⟨_, _, [], by rw [HON.out]; rfl, by rw [HON.out]; exact tok_zero _ _, by rw [HON.out]; exact ⟨rfl, Or.inl ⟨rfl, rfl⟩⟩, (fun b hb => by cases hb), by rw [HON.out]; exact Nat.zero_le _, blk4_below HBV.out (Nat.le_refl _)⟩
set_option maxHeartbeats 8000000 in
set_option maxRecDepth 20000 in
theorem i_readAll (t : ByteArray) (w : World) (hT : Lib.Utf8Tabs 0 1 w) : Calls Tryz.prog 14 #[.string t] w (RaOut (raR t) w) := by
 obtain ⟨i0, hi, hz0, hz1, hz2⟩ := info_partsS infoT
 have HSG : Hid (∀ w1, Below w.heap.size w w1 → Calls Tryz.prog 20 #[.string t] w1 fun e w' => ∃ v, e = .returned (.tuple #[v, .bool (signsR t).2]) ∧ SgRow w' w1.heap.size (signsR t).1 v ∧ Below w1.heap.size w1 w') := fun w1 hb => impl_all t w1 (tabs_keep hT hb)
 have HLEN : Hid ((signsR t).1.length ≤ 3000) := signsR_len t
 have HOK : Hid (∀ x ∈ (signsR t).1, SOk x) := signs_sok t
 have HRA : Hid (raL (signsR t).1 0 [] 0 = raR t) := rfl
 generalize (signsR t).1 = L at *
 generalize (signsR t).2 = bb at *
 generalize raR t = O at *
 have HBW : Hid (Below w.heap.size w w) := Below.refl _ _
 have HRW : Hid (ROk 24 (fun _ => False) w.heap.size w [] (.slice none 0 0) []) := ROk.nil
 obtain ⟨NL, hNL⟩ : ∃ NL, NL = L.length := ⟨_, rfl⟩
 have HNL : Hid (L.length = NL) := hNL.symm
 have hl3 : (NL : Int) ≤ 3000 := by have := HLEN.out; omega
 clear hNL
 go_enter Tryz.func14, Tryz.ntmps14
 go_upto_region 3 with (fail)
 go_wp2_with (go_at_call 20; refine (Calls.mono (HSG.out _ HBW.out) ?_); rintro e w1 ⟨v1, rfl, r1, b1⟩; obtain ⟨ao, cap, rfl, hcap, hlc⟩ := r1.shape; have R1 : Hid (SgRow w1 w.heap.size L (.slice ao L.length cap)) := r1; have B1 : Hid (Below w.heap.size w w1) := b1; rw [HNL.out] at R1 hlc ⊢; clear r1 b1)
 have HLV0 : Hid (SgRow w1 0 L (.slice ao NL cap)) := ⟨R1.out.1, by
   rcases R1.out.2 with hn | ⟨g, cap', cur, e, _, h2, h3⟩
   · exact Or.inl hn
   · exact Or.inr ⟨g, cap', cur, e, Nat.zero_le _, h2, h3⟩⟩
 have HLB0 : Hid (∀ b, (Value.slice ao NL cap).ownBlock = some b → w.heap.size ≤ b ∧ b < w1.heap.size) := fun b hb => by
   rcases R1.out.2 with ⟨e, _⟩ | ⟨g, cap', cur, e, h1, h2, _⟩
   · rw [e] at hb; cases hb
   · rw [e] at hb; simp only [Value.ownBlock, Option.some.injEq] at hb; subst hb; exact ⟨h1, (Array.getElem?_eq_some_iff.1 h2).1⟩
 have HR0 : Hid (ROk 24 (fun _ => False) w.heap.size w1 [] (.slice none 0 0) []) := HRW.out.step (FX.of_below B1.out)
 clear HRW R1 hlc
 unfold maxLen at hcap
 go_loopw [4, 5, 8] (fun v4 v5 v8 wr => ∃ (a b KN : Nat) (ks : List Tm) (F : List Nat) (ao4 : Option Addr) (cap4 : Nat), a ≤ NL ∧ v8 = .int .i64 (a : Int) ∧ v5 = .int .i64 (b : Int) ∧ v4 = .slice ao4 KN cap4 ∧ b ≤ a ∧ KN ≤ a ∧ Hid (ks.length = KN) ∧ Hid (raL L a ks b = O) ∧ Hid (ROk 24 (fun _ => False) w.heap.size wr ks (.slice ao4 KN cap4) F) ∧ Hid (∀ f ∈ F, (Value.slice ao NL cap).ownBlock ≠ some f) ∧ Hid (SgRow wr 0 L (.slice ao NL cap)) ∧ Hid (Below w.heap.size w wr)) (fun _ _ v8 _ => NL - (intOf v8).toNat)
 case atStart => exact ⟨0, 0, 0, [], [], _, _, Nat.zero_le _, rfl, rfl, rfl, Nat.le_refl _, Nat.le_refl _, rfl, HRA.out, HR0.out, (fun f hf e => by cases hf), HLV0.out, HBW.out.trans (B1.out.mono HBW.out.size)⟩
 case round =>
   clear HLV0 HR0 HRA HLB0
   obtain ⟨a, b, KN, ks, F, ao4, cap4, ha, rfl, rfl, rfl, hba, hka, HKN, HRL, HRO, HFL, HLV, HB⟩ := hrel
   by_cases hlt : a < NL
   · have hltL : a < L.length := by have := HNL.out; omega
     have HRS := i_readSigns L (.slice ao NL cap) a wr (Nat.le_of_lt hltL) HLEN.out HOK.out HLV.out
     have hnx := rsR_nx hltL
     unfold RsOutI at HRS
     have HOKY : Hid ((rsR L a).ok = true → raL L (rsR L a).nx (ks ++ [(rsR L a).t]) b = O) := fun h => by rw [← HRL.out, raL_ok hltL h]
     have HNOY : Hid ((rsR L a).ok = false → raL L (rsR L a).nx ks (b + 1) = O) := fun h => by rw [← HRL.out, raL_no hltL h]
     rw [HNL.out] at hnx
     generalize rsR L a = RR at *
     obtain ⟨ok, t0, names, nx⟩ := RR
     simp only at hnx
     replace HRS : Hid _ := HRS
     have hlv : ∀ k, (Value.slice ao NL cap).ownBlock = some k → k < wr.heap.size := fun k hk => by
       rcases HLV.out.2 with ⟨e, _⟩ | ⟨g, cap', cur, e, _, hh, _⟩
       · rw [e] at hk; cases hk
       · rw [e] at hk; simp only [Value.ownBlock, Option.some.injEq] at hk; subst hk; exact (Array.getElem?_eq_some_iff.1 hh).1
     have HLVB : Hid _ := hlv
     clear hltL HRL hlv
     go_upto_region 7 with (go_at_call 21; refine (Calls.mono HRS.out ?_); rintro e w2 ⟨tv, nv, F2, rfl, ht, hnr, _, _, hb⟩; obtain ⟨tk, ts, tn, ta, tl, tc, rfl⟩ := ht.form; have HT2 : Hid (TOk 24 (fun _ => False) wr.heap.size w2 t0 (.agg #[.int .i64 tk, .string ts, .int .i64 tn, .slice ta tl tc]) F2) := ht; have B2 : Hid (Below wr.heap.size wr w2) := hb; obtain ⟨aon, capn, rfl, _⟩ := hnr.cells; clear ht hnr hb)
     obtain ⟨V, hV⟩ : ∃ V, V = w2.alloc (.cells #[.int .i64 tk, .string ts, .int .i64 tn, .slice ta tl tc] 24) := ⟨_, rfl⟩
     have bV : Below w2.heap.size w2 V := by rw [hV]; exact (Below.refl _ _).alloc (Nat.le_refl _) _
     have HK7 : Hid (V.heap[w2.heap.size]? = some (.cells #[.int .i64 tk, .string ts, .int .i64 tn, .slice ta tl tc] 24 (0, 0))) := by rw [hV]; exact heap_alloc_new _ _
     have HTV : Hid (TOk 24 (fun _ => False) wr.heap.size V t0 (.agg #[.int .i64 tk, .string ts, .int .i64 tn, .slice ta tl tc]) F2) := HT2.out.step (FX.of_below bV)
     have HBV : Hid (Below wr.heap.size wr V) := B2.out.trans (bV.mono B2.out.size)
     have HWV : Hid (w2.heap.size < V.heap.size) := by show _ < _; rw [hV]; simp
     rw [← hV]
     clear hV bV HT2 HRS B2
     have HROV : Hid (ROk 24 (fun _ => False) w.heap.size V ks (.slice ao4 KN cap4) F) := HRO.out.step (FX.of_below HBV.out)
     have HLVV : Hid (SgRow V 0 L (.slice ao NL cap)) := HLV.out.keep HBV.out
     have HBWV : Hid (Below w.heap.size w V) := HB.out.trans (HBV.out.mono HB.out.size)
     cases ok with
     | false =>
       have HRF : Hid _ := HNOY.out rfl
       clear HNOY HOKY
       go_wp2
       go_roundw
       case rel => exact ⟨nx, b + 1, KN, ks, F, ao4, cap4, hnx.2, rfl, by go_num, rfl, by omega, by omega, HKN.out, HRF.out, HROV.out, HFL.out, HLVV.out, HBWV.out⟩
       case measure => simp [intOf]; omega
     | true =>
       have HRF : Hid _ := HOKY.out rfl
       clear HNOY HOKY
       obtain ⟨y0, y1, y2, y3, _⟩ := blk4 HK7.out
       obtain ⟨w5, hw5⟩ : ∃ w5, w5 = V.alloc (.cells #[.int .i64 tk, .string ts, .int .i64 tn, .slice ta tl tc] 24) := ⟨_, rfl⟩
       have b5 : Below V.heap.size V w5 := by rw [hw5]; exact (Below.refl _ _).alloc (Nat.le_refl _) _
       have HRO5 : Hid (ROk 24 (fun _ => False) w.heap.size w5 ks (.slice ao4 KN cap4) F) := HROV.out.step (FX.of_below b5)
       obtain ⟨cs, F0, p1, p2, p3, p4, p5⟩ := HRO5.out.row
       rw [HKN.out, hw5] at p1
       have HP1 : Hid _ := p1
       have HP2 : Hid _ := p2
       have HP3 : Hid _ := p3
       have HP4 : Hid _ := p4
       have HP5 : Hid _ := p5
       have HW5 : Hid (w5 = V.alloc (.cells #[.int .i64 tk, .string ts, .int .i64 tn, .slice ta tl tc] 24)) := hw5
       have HB5 : Hid _ := b5
       clear p1 p2 p3 p4 p5 hw5 b5
       have hszV := HBWV.out.size
       go_wp2_with (at_builtin; go_loud (refine wpList_append_own_at _ rfl _ _ 22 rfl 0 24 i0 (.agg #[.int .i64 0, .string ⟨#[]⟩, .int .i64 0, .slice none 0 0]) 4 56 Tryz.underlying22 hi hz0 hz1 hz2 rfl (by decide) _ _ _ rfl HP1.out ⟨V.heap.size, 0, none⟩ 1 1 [.int .i64 tk, .string ts, .int .i64 tn, .slice ta tl tc] rfl rfl ?c1 ?c2 ?c3 ?c4 ?c5 ?_))
       case c1 =>
         intro q z hq
         match q, hq with
         | 0, hq => simp at hq; subst hq; simp [Addr.add]
         | 1, hq => simp at hq; subst hq; simp [Addr.add]
         | 2, hq => simp at hq; subst hq; simp [Addr.add]
         | 3, hq => simp at hq; subst hq; simp [Addr.add]
       case c2 => intro z hz; simp at hz; rcases hz with rfl | rfl | rfl | rfl <;> rfl
       case c3 => unfold maxLen; omega
       case c4 => omega
       case c5 => omega
       intro v' w6 hown' hgrow _ hat
       rw [← HW5.out] at hgrow
       have hat5 : v'.ownBlock = (Value.slice ao4 KN cap4).ownBlock ∨ v'.ownBlock = some w5.heap.size := by rw [HW5.out]; simpa using hat
       have hbw := HB.out.size
       obtain ⟨⟨F', hF1, hF2⟩, hbel⟩ := row_push (W := w) HRO5.out ((HTV.out.lo_le hbw).step (FX.of_below HB5.out)) (fun f hf g' hg' => by have := HRO.out.lt f hf; have := (HTV.out.out g' hg').1; omega) HP2.out HP3.out HP4.out HP5.out (by rw [HKN.out]; exact hown') hgrow hat5 (HBWV.out.trans (HB5.out.mono hszV))
       obtain ⟨a6, c6, rfl⟩ : ∃ ao cap, v' = .slice ao (KN + 1) cap := by
         rcases hown'.2 with ⟨e, h0⟩ | ⟨g, cap', cur, e, _⟩
         · omega
         · exact ⟨_, _, e⟩
       have HF1 : Hid (ROk 24 (fun _ => False) w.heap.size w6 (ks ++ [t0]) (.slice a6 (KN + 1) c6) F') := hF1
       have HF2 : Hid (∀ f ∈ F', (Value.slice ao NL cap).ownBlock ≠ some f) := fun f hf e => by
         have h1 := HLVB.out f e
         rcases hF2 f hf with h | h | h
         · exact HFL.out f h e
         · have := (HTV.out.out f h).1; omega
         · have := HB5.out.size; have := HBV.out.size; omega
       have HLV6 : Hid (SgRow w6 0 L (.slice ao NL cap)) := (HLVV.out.keep HB5.out).turn fun b hb => hgrow.block b (by have := HLVB.out b hb; have := HB5.out.size; have := HBV.out.size; omega) (fun e => HFL.out b (HP5.out b e.symm) hb)
       have HB6 : Hid (Below w.heap.size w w6) := hbel
       have HKN6 : Hid ((ks ++ [t0]).length = KN + 1) := by show _ = _; rw [List.length_append, HKN.out]; rfl
       clear hown' hgrow hat hat5 hF1 hF2 hbel HP1 HP2 HP3 HP4 HP5 y0 y1 y2 y3
       go_wp2
       go_roundw
       case rel => exact ⟨nx, b, KN + 1, ks ++ [t0], F', a6, c6, hnx.2, rfl, rfl, by go_num, by omega, by omega, HKN6.out, HRF.out, HF1.out, HF2.out, HLV6.out, HB6.out⟩
       case measure => simp [intOf]; omega
   · obtain rfl : a = NL := by omega
     have HE : Hid (O = (ks, b)) := by show _ = _; rw [← HRL.out, raL_end (by rw [HNL.out]; exact hlt)]
     clear HRL
     go_wp2
     go_ret2
     exact ⟨_, F, by rw [HE.out]; rfl, by rw [HE.out]; exact HRO.out, HB.out⟩
end Go.Proofs.YtbkjcccbjnehbanGreatDoor

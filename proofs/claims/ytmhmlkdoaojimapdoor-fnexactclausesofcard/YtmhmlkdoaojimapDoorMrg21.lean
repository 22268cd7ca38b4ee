/- Four texts in one. -/
import Derived.Test.YtmhmlkdoaojimapDoorMrg8
import Derived.Test.YtmhmlkdoaojimapDoorMrg3
import Derived.Test.YtmhmlkdoaojimapDoorMrg20
import Derived.Test.YtmhmlkdoaojimapDoorRows
import Derived.Test.YtmhmlkdoaojimapDoorMrg1
import Derived.ChangeArms
import Derived.ProofKit
import Derived.OpenShut
import Derived.Carry
/- Weights of the clauses of one predicate. -/
namespace Go.Proofs.YtmhmlkdoaojimapDoor
open Go.RowKit

theorem ofPred_wts8 (q : ByteArray) (cs : List Cla) : (ofPred q cs).length ≤ cs.length ∧ claWts (ofPred q cs) ≤ claWts cs := by
  induction cs with
  | nil => simp [ofPred]
  | cons c cs ih =>
    have e : ofPred q (c :: cs) = if predB c.h = q then c :: ofPred q cs else ofPred q cs := by
      unfold ofPred
      by_cases h : predB c.h = q
      · simp [h]
      · simp [h]
    rw [e]
    split
    · simp only [List.length_cons, claWts]; omega
    · simp only [List.length_cons, claWts]; omega
theorem hWt8 {cs : List Cla} {c : Cla} (h : c ∈ cs) : c.h.wt ≤ claWts cs := by
  have h1 := claWt_le h
  have : c.wt = c.h.wt + c.b.wt + c.f.size := rfl
  omega
end Go.Proofs.YtmhmlkdoaojimapDoor

/- One list of the shelves as a row of its own. -/
namespace Go.Proofs.YtmhmlkdoaojimapDoor
open Go.RowKit

/-- one list of the shelves as a row of its own -/
theorem sh_own {w0 w : World} {B : Nat} {q : ByteArray} {ks : List Cla} {D : Nat → Prop} {v : Value} (h : ShRow 57 46 w0 w B q ks D v) (hD : ∀ f, D f → w.heap[f]? = w0.heap[f]?) (hlt : ∀ f, D f → f < B) :
    ∃ F, OwnClS 57 46 w (ofPred q ks) v F ∧ F.Nodup ∧ (∀ f ∈ F, D f ∨ (∃ cur, w.heap[f]? = some (.cells cur 57 (0, 0)))) := by
  obtain ⟨news, F, h1, h2, h3, h4⟩ := h
  rcases h1.2 with ⟨rfl, hl⟩ | ⟨g, cap, cur, rfl, hb, hh, hr⟩
  · have h0 := List.eq_nil_of_length_eq_zero hl
    exact ⟨[], Or.inl ⟨rfl, h0, rfl⟩, by simp, by simp⟩
  · refine ⟨g :: F, Or.inr ⟨g, cap, news, F, rfl, ⟨h1.1, Or.inr ⟨g, cap, cur, rfl, Nat.zero_le _, hh, hr⟩⟩, rfl, OwnCs.keep _ _ _ h2 fun f hf => hD f (h4 f hf)⟩, List.nodup_cons.2 ⟨fun hg => ?_, h3⟩, fun f hf => ?_⟩
    · have := hlt g (h4 g hg)
      omega
    · rcases List.mem_cons.1 hf with rfl | hf
      · exact Or.inr ⟨cur, hh⟩
      · exact Or.inl (h4 f hf)

end Go.Proofs.YtmhmlkdoaojimapDoor

/- impl.ClausesOf. -/
namespace Go.Proofs.YtmhmlkdoaojimapDoor
open Go.RowKit

set_option maxHeartbeats 8000000 in
set_option maxRecDepth 20000 in
theorem i_clausesOf (cs : List Cla) (q : ByteArray) (w : World) (c0 c1 : Value) (F : List Nat) (h : OwnClS 57 46 w cs c0 F) (hnd : F.Nodup) (hl : cs.length + claWts cs ≤ 1048576) (htab : Lib.TabIs Tryd.prog w "internal/strconv.uint64pow10" .u64 Lib.pow10Tab) (hc1 : ∃ a l k, c1 = .slice a l k) :
    Calls Tryd.prog 13 #[.agg #[c0, c1], .string q] w fun e w' => ∃ sl F, e = .returned sl ∧ OwnClS 57 46 w' (ofPred q cs) sl F ∧ (∀ f ∈ F, w.heap.size ≤ f) ∧ F.Nodup ∧ Below w.heap.size w w' := by
  obtain ⟨W, hW⟩ : ∃ W, W = w.alloc (.cells #[c0, c1] 30) := ⟨_, rfl⟩
  have bW : Below w.heap.size w W := by rw [hW]; exact (Below.refl _ _).alloc (Nat.le_refl _) _
  have k1 : W.heap[w.heap.size]? = some (.cells #[c0, c1] 30 (0, 0)) := by rw [hW]; exact heap_alloc_new _ _
  have how := OwnClS.keep h fun f hf => bW.block f (h.lt f hf)
  have HSRC : Hid (OwnClS 57 46 W cs c0 F ∧ F.Nodup ∧ (∀ f ∈ F, f < W.heap.size) ∧ cs.length + claWts cs ≤ 1048576) := ⟨how, hnd, how.lt, hl⟩
  have HTB : Hid (∀ u, Below W.heap.size W u → Lib.TabIs Tryd.prog u "internal/strconv.uint64pow10" .u64 Lib.pow10Tab) := fun u hb => pow_keep htab (bW.trans (hb.mono bW.size))
  obtain ⟨a2, l2, p2, rfl⟩ := hc1
  obtain ⟨a1, p1, rfl⟩ := ownClS_shape h
  have HBW : Hid (Below w.heap.size w W) := bW
  have HK : Hid (W.heap[w.heap.size]? = _) := k1
  obtain ⟨p, hp⟩ : ∃ p, p = w.heap.size := ⟨_, rfl⟩
  rw [← hp] at HK
  have HPP : Hid (p = w.heap.size) := hp
  clear h hnd hl htab bW k1 how
  go_enter Tryd.func13, Tryd.ntmps13
  go_upto_region 1 with fail
  rw [← hW, ← hp]
  clear hW hp
  refine FI.wp_region_inv 7 (fun L v u =>
    (L 0 = true → ∃ g m, v 0 = .pointer (some ⟨g, 0, none⟩) ∧ W.heap.size ≤ g ∧ W.heap.size ≤ m ∧ (L 6 = false → KSt u g m 0 [] (.slice none 0 0))) ∧ (L 1 = true → v 1 = .pointer (some ⟨p, 0, none⟩)) ∧ (L 2 = true → v 2 = .slice a1 cs.length p1) ∧
    (L 3 = true → L 6 = false → ∃ mm u3, v 3 = .map (some mm) ∧ Below W.heap.size W u3 ∧ Below u3.heap.size u3 u ∧ ShAt 57 46 u3 u u3.heap.size mm cs (fun f => f ∈ F)) ∧ (L 4 = true → v 4 = .string q) ∧
    (L 5 = true → L 6 = false → ∃ F5, OwnClS 57 46 u (ofPred q cs) (v 5) F5 ∧ F5.Nodup ∧ (∀ f ∈ F5, f < W.heap.size ∨ (∃ cur, u.heap[f]? = some (.cells cur 57 (0, 0))))) ∧
    (L 6 = true → ∃ F6, OwnClS 57 46 u (ofPred q cs) (v 6) F6 ∧ (∀ f ∈ F6, W.heap.size ≤ f) ∧ F6.Nodup) ∧ Below W.heap.size W u) (by kernel_rfl) (by kernel_rfl) 12 rfl (by kernel_rfl) ?_ ?_ ?_
  · intro vals
    exact ⟨fun h => Bool.noConfusion h, fun h => Bool.noConfusion h, fun h => Bool.noConfusion h, fun h => Bool.noConfusion h, fun h => Bool.noConfusion h, fun h => Bool.noConfusion h, fun h => Bool.noConfusion h, (Below.refl W.heap.size W).drew⟩
  · intro i o hi ho L a u hI hcl hli hfr hdep
    obtain ⟨h0, h1, h2, h3, h4, h5, h6, hb⟩ := hI
    have u1 : a.tmps.getD 1 undef = .string q := hfr 1 (by decide)
    have u2 : a.tmps.getD 2 undef = .pointer (some ⟨p, 0, none⟩) := hfr 2 (by decide)
    have c60 : L 6 = true → L 0 = true := fun h => hcl 6 _ rfl h 0 (by kernel_rfl)
    have c65 : L 6 = true → L 5 = true := fun h => hcl 6 _ rfl h 5 (by kernel_rfl)
    have c53 : L 5 = true → L 3 = true := fun h => hcl 5 _ rfl h 3 (by kernel_rfl)
    have hpu := (hb.block p (Array.getElem?_eq_some_iff.1 HK.out).1).trans HK.out
    have x0 := blk_cell (i := 0) hpu (by simp)
    match i, hi with
    | 0, _ =>
      obtain rfl : _ = o := by simpa using ho
      have h6f : L 6 = false := by cases h : L 6 with | false => rfl | true => rw [c60 h] at hli; cases hli
      refine FI.fact_call rfl rfl Tryd.func39 (by kernel_rfl) (by kernel_rfl) (args := #[]) (by simp) ?_
      refine Calls.mono (new_copier u) ?_
      rintro e w3 ⟨rfl, kg, km, hs3, hb3⟩
      have hsu := hb.size
      refine ⟨_, rfl, fun _ => ⟨_, _, rfl, by omega, by omega, fun _ => kst_new kg km (by omega)⟩, h1, h2, fun hx hy => ?_, h4, fun hx hy => ?_, fun h => Bool.noConfusion ((show L 6 = true from h).symm.trans h6f), hb.trans (hb3.mono hsu)⟩
      · obtain ⟨mm, u3, e1, e2, e3, e4⟩ := h3 hx hy
        exact ⟨mm, u3, e1, e2, e3.trans (hb3.mono e3.size), e4.below hb3⟩
      · obtain ⟨F5, e1, e2, e3⟩ := h5 hx hy
        refine ⟨F5, OwnClS.keep e1 fun f hf => hb3.block f (e1.lt f hf), e2, fun f hf => (e3 f hf).imp id fun ⟨cur, hc⟩ => ⟨cur, (hb3.block f (e1.lt f hf)).trans hc⟩⟩
    | 1, _ =>
      obtain rfl : _ = o := by simpa using ho
      refine FI.fact_value (w' := u) (v := .pointer (some ⟨p, 0, none⟩)) rfl ?_ ⟨h0, fun _ => rfl, h2, h3, h4, h5, h6, hb⟩
      simp only [execOp, Act.eval, u2]
      go_simp
    | 2, _ =>
      obtain rfl : _ = o := by simpa using ho
      have y1 : a.tmps.getD 6 undef = .pointer (some ⟨p, 0, none⟩) := h1 (hdep 1 (by kernel_rfl))
      refine FI.fact_value (w' := u) (v := .slice a1 cs.length p1) rfl ?_ ⟨h0, h1, fun _ => rfl, h3, h4, h5, h6, hb⟩
      clear h0 h1 h2 h3 h4 h5 h6 hcl hdep hfr ho hpu
      simp only [execOp, Act.eval, y1]
      go_simp
    | 3, _ =>
      obtain rfl : _ = o := by simpa using ho
      have y2 : a.tmps.getD 7 undef = .slice a1 cs.length p1 := h2 (hdep 2 (by kernel_rfl))
      have h5f : L 5 = false := by cases h : L 5 with | false => rfl | true => rw [c53 h] at hli; cases hli
      have h6f : L 6 = false := by cases h : L 6 with | false => rfl | true => rw [c65 h] at h5f; cases h5f
      obtain ⟨s1, s2, s3, s4⟩ := HSRC.out
      refine FI.fact_call rfl rfl Tryd.func32 (by kernel_rfl) (by kernel_rfl) (args := #[.slice a1 cs.length p1]) (by simp [Act.eval]; simpa using y2) ?_
      refine Calls.mono (shelves_of cs u _ F (by omega) (fun c hc => by have := hWt8 hc; omega) (s1.keep fun f hf => hb.block f (s3 f hf)) s2 (HTB.out u hb)) ?_
      rintro e w3 ⟨mm, rfl, o1, o2, o3⟩
      have hsu := hb.size
      refine ⟨_, rfl, fun hx => ?_, h1, h2, fun _ _ => ⟨mm, u, rfl, hb, o3, o2⟩, h4, fun h => Bool.noConfusion ((show L 5 = true from h).symm.trans h5f), fun h => Bool.noConfusion ((show L 6 = true from h).symm.trans h6f), hb.trans (o3.mono hsu)⟩
      obtain ⟨g, m, e1, e2, e3, e4⟩ := h0 hx
      exact ⟨g, m, e1, e2, e3, fun h => (e4 h).keep o3⟩
    | 4, _ =>
      obtain rfl : _ = o := by simpa using ho
      refine FI.fact_value (w' := u) (v := .string q) rfl ?_ ⟨h0, h1, h2, h3, fun _ => rfl, h5, h6, hb⟩
      simp only [execOp, Act.eval, u1]
      go_simp
    | 5, _ =>
      obtain rfl : _ = o := by simpa using ho
      have h6f : L 6 = false := by cases h : L 6 with | false => rfl | true => rw [c65 h] at hli; cases hli
      obtain ⟨mm, u3, v3, e2, e3, e4⟩ := h3 (hdep 3 (by kernel_rfl)) h6f
      have y3 : a.tmps.getD 8 undef = .map (some mm) := v3
      have y4 : a.tmps.getD 9 undef = .string q := h4 (hdep 4 (by kernel_rfl))
      obtain ⟨ms, m1, m2, m3, m4, m5⟩ := e4
      have hlk := vmap_get u mm ms m1 q
      have hrow := ShAt.list m4 m5 q
      have hs3 := e2.size
      obtain ⟨s1, s2, s3, s4⟩ := HSRC.out
      obtain ⟨F5, f1, f2, f3⟩ := sh_own hrow (fun f hf => e3.block f (by have := s3 f hf; omega)) (fun f hf => by have := s3 f hf; omega)
      refine FI.fact_value (w' := u) rfl ?_ ⟨h0, h1, h2, h3, h4, fun _ _ => ⟨F5, f1, f2, fun f hf => (f3 f hf).imp (s3 f) id⟩, h6, hb⟩
      clear h0 h1 h2 h3 h4 h5 h6 hcl hdep hfr ho f1 f3 hrow m4 m5
      have z1 : a.eval (.tmp 8) = .map (some mm) := y3
      have z2 : a.eval (.tmp 9) = .string q := y4
      simp only [execOp, z1, z2, Sem.run_bind, Sem.run_pure, hlk, Result.andThen_ok]
      rfl
    | 6, _ =>
      obtain rfl : _ = o := by simpa using ho
      obtain ⟨g, m, v0, hg, hm, hks⟩ := h0 (hdep 0 (by kernel_rfl))
      have y0 : a.tmps.getD 5 undef = .pointer (some ⟨g, 0, none⟩) := v0
      obtain ⟨F5, f1, f2, f3⟩ := h5 (hdep 5 (by kernel_rfl)) hli
      have hk := hks hli
      obtain ⟨a5, p5, e5⟩ := ownClS_shape f1
      have y5 : a.tmps.getD 10 undef = .slice a5 (ofPred q cs).length p5 := e5
      rw [e5] at f1
      obtain ⟨s1, s2, s3, s4⟩ := HSRC.out
      have hw9 := ofPred_wts8 q cs
      refine FI.fact_call rfl rfl Tryd.func38 (by kernel_rfl) (by kernel_rfl) (args := #[.pointer (some ⟨g, 0, none⟩), .slice a5 (ofPred q cs).length p5]) (by simp [Act.eval]; exact ⟨by simpa using y0, by simpa using y5⟩) ?_
      refine Calls.mono (copied_clauses (ofPred q cs) u _ F5 g m (by omega) f1 f2 hk (fun f hf => ?_)) ?_
      · rcases f3 f hf with h | ⟨cur, hc⟩
        · exact ⟨by omega, by omega⟩
        · constructor
          · rintro rfl
            rw [hk.cop] at hc
            cases hc
          · rintro rfl
            obtain ⟨es, cl, hm', _⟩ := hk.map
            rw [hm'] at hc
            cases hc
      · rintro e w3 ⟨sl, F6, rfl, o1, o2, o3, ho4⟩
        have hsu := hb.size
        exact ⟨_, rfl, fun _ => ⟨g, m, v0, hg, hm, fun h => Bool.noConfusion (show true = false from h)⟩, h1, h2, fun _ h => Bool.noConfusion (show true = false from h), h4, fun _ h => Bool.noConfusion (show true = false from h), fun _ => ⟨F6, o1, fun f hf => by have := o2 f hf; omega, o3⟩, hb.trans (ho4.below (by intro f hf; simp at hf; rcases hf with rfl | rfl <;> omega) hsu)⟩
  intro L vals w6 hall hI
  obtain ⟨_, _, _, _, _, _, h6, hb⟩ := hI
  obtain ⟨F6, o1, o2, o3⟩ := h6 (hall 6 (by omega))
  obtain ⟨a3, p3, e3⟩ := ownClS_shape o1
  rw [e3] at o1
  simp only [FZ.putN, List.getElem?_toArray, List.getElem?_cons_zero, List.getElem?_cons_succ, Option.bind_some, List.drop_succ_cons, List.drop_zero, e3]
  generalize vals 0 = m0
  generalize vals 1 = m1
  generalize vals 2 = m2
  generalize vals 3 = m3
  generalize vals 4 = m4
  generalize vals 5 = m5
  simp only [Act.put, List.setIfInBounds_toArray, List.set_cons_succ, List.set_cons_zero]
  have HALL : Hid (OwnClS 57 46 w6 (ofPred q cs) (.slice a3 (ofPred q cs).length p3) F6 ∧ (∀ f ∈ F6, W.heap.size ≤ f) ∧ F6.Nodup ∧ Below W.heap.size W w6) := ⟨o1, o2, o3, hb⟩
  clear h6 o1 o2 o3 hb e3 hall
  go_wp2
  go_ret
  obtain ⟨o1, o2, o3, hb⟩ := HALL.out
  have hbw := HBW.out
  exact ⟨_, F6, rfl, o1, fun f hf => by have := o2 f hf; have := hbw.size; omega, o3, hbw.trans (hb.mono hbw.size)⟩
end Go.Proofs.YtmhmlkdoaojimapDoor

/- A term that comes in as an argument is one in memory. -/
namespace Go.Proofs.YtmhmlkdoaojimapDoor
open Go.ChangeShapes Go.WideShapes Go.ChangeAt Go.RowKit

theorem cellsTm : Tryd.prog.cellsOf 42 = 4 := by kernel_rfl
theorem cellsI : Tryd.prog.cellsOf 3 = 1 := by kernel_rfl
theorem cellsS : Tryd.prog.cellsOf 9 = 1 := by kernel_rfl
theorem cellsTmS : Tryd.prog.cellsOf 40 = 1 := by kernel_rfl
theorem laidOutT : laidOutB Tryd.prog = true := by kernel_rfl
theorem readsTm : Tryd.prog.readableRec 42 = true := by kernel_rfl
theorem rowTm : 42 < Tryd.prog.types.size := of_decide_eq_true (by kernel_rfl)

/-- terms lie in a row where each of them does -/
theorem tmsIn_of {w : World} {b : Nat} : ∀ (ks : List Tm) (off : Nat), (∀ j (hj : j < ks.length), ∃ c0 c1 c2 c3, w.cell? ⟨b, off + j * 4, none⟩ = some c0 ∧ w.cell? ⟨b, off + j * 4 + 1, none⟩ = some c1 ∧ w.cell? ⟨b, off + j * 4 + 2, none⟩ = some c2 ∧ w.cell? ⟨b, off + j * 4 + 3, none⟩ = some c3 ∧ TmIn w ks[j] (.agg #[c0, c1, c2, c3])) → TmsIn w ks b off
  | [], _, _ => by unfold TmsIn; trivial
  | t :: ts, off, h => by
    unfold TmsIn
    have h0 := h 0 (by simp)
    rw [Nat.zero_mul, Nat.add_zero] at h0
    refine ⟨h0, tmsIn_of ts (off + 4) fun j hj => ?_⟩
    have := h (j + 1) (by simpa using hj)
    rw [show off + (j + 1) * 4 = off + 4 + j * 4 by omega] at this
    exact this

set_option maxRecDepth 20000 in
theorem tm_of_trod {H : Type} {enc : TypeId × Value → H} {W : World} : ∀ (fuel : Nat) (cs : List Value) (x : DataW H × List MemPlace),
    DataW.trod enc Tryd.prog W 0 (fun _ => true) true fuel 42 cs = some x → ∃ t c0 c1 c2 c3, cs = [c0, c1, c2, c3] ∧ TmIn W t (.agg #[c0, c1, c2, c3]) := by
  intro fuel
  induction fuel using Nat.strongRecOn with
  | ind fuel ih =>
    intro cs x h
    obtain ⟨xs, n, hfu, rfl, hl, hxs, hf⟩ := DataW.trod_struct Tryd.underlying42 h
    rw [cellsTm] at hl
    match cs, hl with
    | [c0, c1, c2, c3], _ =>
      match xs, hxs with
      | [y0, y1, y2, y3], _ =>
        have h0 := hf 0 _ rfl
        have h1 := hf 1 _ rfl
        have h2 := hf 2 _ rfl
        have h3 := hf 3 _ rfl
        simp [cellsI, cellsS, cellsTmS] at h0 h1 h2 h3
        obtain ⟨k, hk, _, wk⟩ := DataW.trod_int Tryd.underlying3 h0
        obtain ⟨str, hs, _, ws⟩ := DataW.trod_string Tryd.underlying9 h1
        obtain ⟨num, hn, _, wn⟩ := DataW.trod_int Tryd.underlying3 h2
        simp only [List.cons.injEq, and_true] at hk hs hn
        subst hk hs hn
        have bk := bounds_i64 wk
        have bn := bounds_i64 wn
        rcases DataW.trod_slice Tryd.underlying40 h3 with ⟨hc, _⟩ | ⟨a, len, cap, elems, rest, m, hm, hc, _, _, hlc, hcm, hel, hat, _, _⟩
        · simp only [List.cons.injEq, and_true] at hc
          subst hc
          refine ⟨.mk k str num [], _, _, _, _, rfl, ?_⟩
          unfold TmIn
          exact ⟨none, 0, rfl, bk, bn, ws, Nat.le_refl _, Nat.zero_le _, fun h => absurd rfl h⟩
        · simp only [List.cons.injEq, and_true] at hc
          subst hc
          have each : ∀ i, i < len → ∃ t c0 c1 c2 c3, W.cell? (a.add (i * 4)) = some c0 ∧ W.cell? ((a.add (i * 4)).add 1) = some c1 ∧ W.cell? ((a.add (i * 4)).add 2) = some c2 ∧ W.cell? ((a.add (i * 4)).add 3) = some c3 ∧ TmIn W t (.agg #[c0, c1, c2, c3]) := fun i hi => by
            have hi' := hat i hi
            rw [List.getElem?_eq_getElem (by omega), cellsTm] at hi'
            obtain ⟨cs', hcs', htr⟩ := Option.bind_eq_some_iff.1 hi'
            obtain ⟨t, d0, d1, d2, d3, rfl, hin⟩ := ih m (by omega) cs' _ htr
            obtain ⟨_, _, hcell⟩ := World.cells?_some hcs'
            exact ⟨t, d0, d1, d2, d3, hcell 0 (by omega), hcell 1 (by omega), hcell 2 (by omega), hcell 3 (by omega), hin⟩
          obtain ⟨f, hfall⟩ : ∃ f : Nat → Tm, ∀ i, i < len → ∃ c0 c1 c2 c3, W.cell? (a.add (i * 4)) = some c0 ∧ W.cell? ((a.add (i * 4)).add 1) = some c1 ∧ W.cell? ((a.add (i * 4)).add 2) = some c2 ∧ W.cell? ((a.add (i * 4)).add 3) = some c3 ∧ TmIn W (f i) (.agg #[c0, c1, c2, c3]) := by
            refine ⟨fun i => if h : i < len then Classical.choose (each i h) else .mk 0 ⟨#[]⟩ 0 [], fun i hi => ?_⟩
            have := Classical.choose_spec (each i hi)
            simpa only [hi, dif_pos] using this
          refine ⟨.mk k str num ((List.range len).map f), _, _, _, _, rfl, ?_⟩
          unfold TmIn
          refine ⟨some a, cap, by simp, bk, bn, ws, by simpa using hlc, hcm, fun hne => ?_⟩
          have hpos : 0 < len := by
            rcases Nat.eq_zero_or_pos len with h | h
            · subst h; simp at hne
            · exact h
          obtain ⟨b, off, sp⟩ := a
          have hsp : sp = none := by
            obtain ⟨c0, _, _, _, hc0, _⟩ := hfall 0 hpos
            cases sp with
            | none => rfl
            | some z =>
              unfold World.cell? at hc0
              split at hc0
              · simp [Addr.add] at hc0
              · cases hc0
          subst hsp
          refine ⟨b, off, rfl, tmsIn_of _ off fun j hj => ?_⟩
          rw [List.length_map, List.length_range] at hj
          have := hfall j hj
          simp only [Addr.add_lit] at this
          simpa using this

set_option maxRecDepth 20000 in
/-- the argument itself -/
theorem tm_split {H : Type} {enc : TypeId × Value → H} {W : World} {base : Nat} {v : Value} {d : DataW H} {ps : List MemPlace} (hok : Value.okWide Tryd.prog W .any base 42 v)
    (h : DataW.Trod enc Tryd.prog W 0 (fun _ => true) true 42 v d ps) : ∃ t, TmIn W t v := by
  obtain ⟨cs, rfl, hsz⟩ := okWide_struct Tryd.underlying42 hok
  obtain ⟨fuel, hf⟩ := h
  obtain ⟨t, c0, c1, c2, c3, hc, hin⟩ := tm_of_trod fuel _ _ hf
  have e : cs = #[c0, c1, c2, c3] := by
    have hc' : cs.toList = [c0, c1, c2, c3] := hc
    apply Array.toList_inj.1
    rw [hc']
  exact ⟨t, e ▸ hin⟩
end Go.Proofs.YtmhmlkdoaojimapDoor

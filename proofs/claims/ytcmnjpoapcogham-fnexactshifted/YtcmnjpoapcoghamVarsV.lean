/- impl.VarsOf: what it holds on its way. -/
import Derived.Test.YtcmnjpoapcoghamVarsN
import Derived.Test.YtcmnjpoapcoghamCopP
import Derived.Test.YtcmnjpoapcoghamRowP
import Derived.Test.YtcmnjpoapcoghamMetC
import Derived.Test.YtcmnjpoapcoghamIMap
import Derived.Test.YtcmnjpoapcoghamLeast
namespace Go.Proofs.Ytcmnjpoapcogham
open Go.RowKit

/-- a rest of a list on the way -/
structure Lv where
  r : List Tm
  sl : Value
  R : List Row

structure LvOk (W0 : World) (X : List Nat) (l : Lv) : Prop where
  ok : ∃ ao cap, l.sl = .slice ao l.r.length cap ∧ l.r.length ≤ cap ∧ cap ≤ maxLen ∧ (l.r = [] → l.R = []) ∧ (l.r ≠ [] → ∃ b off cs, ao = some ⟨b, off, none⟩ ∧ SrcRow 28 W0 l.r cs l.R ∧ b ∉ X ∧ b < W0.heap.size ∧ ∀ i, i < cs.length → W0.cell? ⟨b, off + i, none⟩ = cs[i]?)

def flat (L : List Lv) : List Tm := L.reverse.flatMap (·.r)
theorem flat_snoc (L : List Lv) (l : Lv) : flat (L ++ [l]) = l.r ++ flat L := by simp [flat]

structure VI (W0 : World) (X : List Nat) (mT g wb0 : Nat) (FIN : List Int) (wr : World) (vn vw : Value) (mo : Option Nat) (D : List Nat) (out : List Int) (pre : List Tm) (PR : List Row) (L : List Lv) : Prop where
  xs : X = [mT, g, wb0]
  dis : mT ≠ g ∧ mT ≠ wb0 ∧ g ≠ wb0 ∧ mT < W0.heap.size ∧ g < W0.heap.size ∧ wb0 < W0.heap.size
  out' : Out X W0 wr
  row : NumRow wr W0.heap.size out vn
  told : IMapAt wr mT out
  met : MetC wr g mo D
  mos : ∀ m, mo = some m → W0.heap.size ≤ m ∧ vn.ownBlock ≠ some m ∧ vw.ownBlock ≠ some m
  way : wr.ownsRow 0 26 1 vw L.length (L.map Lv.sl)
  wb : ∃ z, vw.ownBlock = some z ∧ (z = wb0 ∨ W0.heap.size ≤ z) ∧ vn.ownBlock ≠ some z
  lv : ∀ l ∈ L, LvOk W0 X l
  nd : (D ++ (PR ++ L.flatMap (·.R)).map (·.1)).Nodup
  rin : ∀ r ∈ PR ++ L.flatMap (·.R), RowIn 28 W0 r ∧ r.1 ∉ X
  din : ∀ d ∈ D, d ∉ X ∧ ∃ cur T, W0.heap[d]? = some (.cells cur T (0, 0))
  sem : varsL (pre ++ flat L) out = FIN
  bnd : out.length + ns (pre ++ flat L) ≤ 2097152

section
variable {W0 : World} {X : List Nat} {mT g wb0 : Nat} {FIN : List Int} {wr w' : World} {vn vw : Value} {mo : Option Nat} {D : List Nat} {out : List Int} {pre : List Tm} {PR : List Row} {L : List Lv}

theorem IMapAt.turn {w w' : World} {m : Nat} {L : List Int} (h : IMapAt w m L) (hb : w'.heap[m]? = w.heap[m]?) : IMapAt w' m L := by
  obtain ⟨es, cl, h1, h2⟩ := h
  exact ⟨es, cl, hb.trans h1, h2⟩
theorem IMapAt.lt {w : World} {m : Nat} {L : List Int} (h : IMapAt w m L) : m < w.heap.size := by
  obtain ⟨es, cl, h1, h2⟩ := h
  exact (Array.getElem?_eq_some_iff.1 h1).1

theorem VI.below (h : VI W0 X mT g wb0 FIN wr vn vw mo D out pre PR L) (hb : Below wr.heap.size wr w') : VI W0 X mT g wb0 FIN w' vn vw mo D out pre PR L :=
  ⟨h.xs, h.dis, h.out'.trans (Out.of_below hb), h.row.keep hb, h.told.turn (hb.block _ h.told.lt), h.met.keep fun k hk => hb.block k (h.met.lt k hk), h.mos, row_turn0 h.way fun b hb' => hb.block b (row_lt0 h.way hb'), h.wb, h.lv, h.nd, h.rin, h.din, h.sem, h.bnd⟩

theorem mem_metC {k g : Nat} {mo : Option Nat} (h : k ∈ metC g mo) : k = g ∨ mo = some k := by
  simp only [metC, List.mem_cons] at h
  rcases h with h | h
  · exact Or.inl h
  · cases mo with
    | none => cases h
    | some m => simp at h; exact Or.inr (by rw [h])

/-- an empty rest is let go -/
theorem VI.pop {ao : Option Addr} {cap : Nat} {l : Lv} (h : VI W0 X mT g wb0 FIN wr vn (.slice ao (L.length + 1) cap) mo D out [] [] (L ++ [l])) (hl : l.r = []) : VI W0 X mT g wb0 FIN wr vn (.slice ao L.length cap) mo D out [] [] L := by
  have hob : Value.ownBlock (.slice ao L.length cap) = Value.ownBlock (.slice ao (L.length + 1) cap) := by cases ao <;> rfl
  have hR : l.R = [] := by
    obtain ⟨_, _, _, _, _, h1, _⟩ := (h.lv l (by simp)).ok
    exact h1 hl
  refine ⟨h.xs, h.dis, h.out', h.row, h.told, h.met, by rw [hob]; exact h.mos, ?_, by rw [hob]; exact h.wb, fun l' hl' => h.lv l' (by simp [hl']), ?_, ?_, h.din, ?_, ?_⟩
  · refine ⟨by simp, ?_⟩
    rcases h.way.2 with ⟨e, h1⟩ | ⟨g', c, cur, e, h1, h2, h3, h4, h5, h6⟩
    · simp at h1
    · obtain ⟨rfl, rfl⟩ : ao = some ⟨g', 0, none⟩ ∧ cap = c := by simpa using e
      simp only [List.length_append, List.length_cons, List.length_nil] at h3 h6
      refine Or.inr ⟨g', cap, cur, rfl, h1, h2, by omega, h4, h5, ?_⟩
      have := congrArg (List.take (L.length * 1)) h6
      rw [List.take_take, List.map_append] at this
      rw [show min (L.length * 1) ((L.length + (0 + 1)) * 1) = L.length * 1 by omega] at this
      rw [this, List.take_left' (by simp)]
  · have := h.nd
    simpa [hR] using this
  · intro r hr
    exact h.rin r (by simp [hR]; simpa using hr)
  · have := h.sem
    rw [flat_snoc, hl] at this
    simpa using this
  · have := h.bnd
    rw [flat_snoc, hl] at this
    simpa using this

/-- a term is taken off a rest -/
theorem VI.take {ao : Option Addr} {cap z : Nat} {t : Tm} {rest : List Tm} {sl sl1 : Value} {R1 R2 : List Row} (h : VI W0 X mT g wb0 FIN wr vn (.slice ao (L.length + 1) cap) mo D out [] [] (L ++ [⟨t :: rest, sl, R1 ++ R2⟩])) (hz : ao = some ⟨z, 0, none⟩) (hl : LvOk W0 X ⟨rest, sl1, R2⟩) :
    VI W0 X mT g wb0 FIN (wr.setCell ⟨z, L.length, none⟩ sl1) vn (.slice ao (L.length + 1) cap) mo D out [t] R1 (L ++ [⟨rest, sl1, R2⟩]) := by
  subst hz
  obtain ⟨z', hz', hzz, hnz⟩ := h.wb
  obtain rfl : z = z' := by simpa [Value.ownBlock] using hz'
  have hok : ∀ f, f ≠ z → (wr.setCell ⟨z, L.length, none⟩ sl1).heap[f]? = wr.heap[f]? := fun f hf => blk_other _ hf
  have hzm : z ≠ mT := by rcases hzz with e | e; rw [e]; exact Ne.symm h.dis.2.1; have := h.dis.2.2.2.1; omega
  have hzg : z ≠ g := by rcases hzz with e | e; rw [e]; exact Ne.symm h.dis.2.2.1; have := h.dis.2.2.2.2.1; omega
  refine ⟨h.xs, h.dis, ?_, h.row.turn fun b hb => hok b fun e => hnz (by rw [hb, e]), h.told.turn (hok _ (Ne.symm hzm)), h.met.keep fun k hk => hok k fun e => ?_, h.mos, ?_, h.wb, fun l hl' => ?_, ?_, ?_, h.din, ?_, ?_⟩
  · refine ⟨h.out'.os, h.out'.tape, h.out'.output, by simpa [World.setCell] using h.out'.size, fun k hk hn => (hok k fun e => ?_).trans (h.out'.block k hk hn)⟩
    rcases hzz with e2 | e2
    · exact hn (by rw [h.xs, e, e2]; simp)
    · omega
  · rcases mem_metC hk with e2 | e2
    · exact hzg (e.symm.trans e2)
    · exact (h.mos k e2).2.2 (by rw [e]; rfl)
  · have := row_set (i := L.length) (v := sl1) (by simpa using h.way)
    have e : ((L ++ [⟨t :: rest, sl, R1 ++ R2⟩] : List Lv).map Lv.sl).set L.length sl1 = (L ++ [⟨rest, sl1, R2⟩] : List Lv).map Lv.sl := by
      rw [List.map_append, List.map_append, List.set_append_right _ _ (by simp)]
      simp
    rw [← e]
    simpa using this
  · rcases List.mem_append.1 hl' with hl' | hl'
    · exact h.lv l (by simp [hl'])
    · rw [List.mem_singleton] at hl'; subst hl'; exact hl
  · have hp : (D ++ (R1 ++ (L ++ [⟨rest, sl1, R2⟩] : List Lv).flatMap (·.R)).map (·.1)).Perm (D ++ (([] : List Row) ++ (L ++ [⟨t :: rest, sl, R1 ++ R2⟩] : List Lv).flatMap (·.R)).map (·.1)) := by
      refine List.Perm.append_left _ (List.Perm.map _ ?_)
      simp only [List.flatMap_append, List.flatMap_cons, List.flatMap_nil, List.append_nil, List.nil_append]
      rw [← List.append_assoc, ← List.append_assoc]
      exact List.Perm.append_right _ List.perm_append_comm
    exact hp.nodup_iff.2 h.nd
  · intro r hr
    refine h.rin r ?_
    simp only [List.flatMap_append, List.flatMap_cons, List.flatMap_nil, List.append_nil, List.nil_append, List.mem_append] at hr ⊢
    rcases hr with hr | hr | hr
    · exact Or.inr (Or.inl hr)
    · exact Or.inl hr
    · exact Or.inr (Or.inr hr)
  · have := h.sem
    rw [flat_snoc] at this ⊢
    simpa using this
  · have := h.bnd
    rw [flat_snoc] at this ⊢
    simpa using this

/-- a number is told -/
theorem VI.tell {o : Obj} (h : VI W0 X mT g wb0 FIN wr vn vw mo D out pre PR L) :
    (∀ b, vn.ownBlock = some b → (setB wr mT o).heap[b]? = wr.heap[b]?) ∧ Out X W0 (setB wr mT o) ∧ MetC (setB wr mT o) g mo D ∧ (setB wr mT o).ownsRow 0 26 1 vw L.length (L.map Lv.sl) := by
  have hok : ∀ f, f ≠ mT → (setB wr mT o).heap[f]? = wr.heap[f]? := fun f hf => setB_other hf
  refine ⟨fun b hb => hok b fun e => ?_, ⟨h.out'.os, h.out'.tape, h.out'.output, by simpa [setB] using h.out'.size, fun k hk hn => (hok k fun e => hn (by rw [h.xs, e]; simp)).trans (h.out'.block k hk hn)⟩, h.met.keep fun k hk => hok k fun e => ?_, row_turn0 h.way fun b hb => hok b fun e => ?_⟩
  · have := (h.row.lt hb).1; have := h.dis.2.2.2.1; omega
  · rcases mem_metC hk with e2 | e2
    · exact h.dis.1 (e.symm.trans e2)
    · have := (h.mos k e2).1; have := h.dis.2.2.2.1; omega
  · obtain ⟨z, hz, hzz, _⟩ := h.wb
    rw [hz] at hb
    injection hb with hb
    rcases hzz with e2 | e2
    · exact h.dis.2.1 (by rw [← e2, hb, e])
    · have := h.dis.2.2.2.1; omega

theorem VI.add {o : Obj} {k : Int} {sn : ByteArray} {n : Int} {ks : List Tm} {w2 w3 : World} {vn' : Value} (h : VI W0 X mT g wb0 FIN wr vn vw mo D out [.mk k sn n ks] PR L) (hk : k = 1) (hnb : -9223372036854775808 ≤ n ∧ n ≤ 9223372036854775807) (hn : n ∉ out) (hm : IMapAt (setB wr mT o) mT (out ++ [n]))
    (hb : Below (setB wr mT o).heap.size (setB wr mT o) w2) (hr : w3.ownsRow W0.heap.size 3 1 vn' (out.length + 1) (ints out ++ [.int .i64 n])) (hgr : w2.grownBy w3 vn.ownBlock) (hat : vn'.ownBlock = vn.ownBlock ∨ vn'.ownBlock = some w2.heap.size) :
    VI W0 X mT g wb0 FIN w3 vn' vw mo D (out ++ [n]) ks PR L := by
  obtain ⟨t1, t2, t3, t4⟩ := h.tell (o := o)
  have hlt3 : ∀ f, f < (setB wr mT o).heap.size → vn.ownBlock ≠ some f → w3.heap[f]? = (setB wr mT o).heap[f]? := fun f hf hne => (hgr.block f (Nat.lt_of_lt_of_le hf hb.size) (Ne.symm hne)).trans (hb.block f hf)
  have hs := t2.size
  have hs2 := hb.size
  have hsr : (setB wr mT o).heap.size = wr.heap.size := by simp [setB]
  have hvn : ∀ z, z < w2.heap.size → vn.ownBlock ≠ some z → vn'.ownBlock ≠ some z := fun z hz hne => by
    rcases hat with e | e <;> rw [e]
    · exact hne
    · intro e2; injection e2 with e2; omega
  refine ⟨h.xs, h.dis, ?_, ⟨?_, fun x hx => ?_⟩, ?_, t3.keep fun k' hk' => hlt3 k' (t3.lt k' hk') ?_, fun m e => ?_, row_turn0 t4 fun b hb' => hlt3 b (row_lt0 t4 hb') ?_, ?_, h.lv, h.nd, h.rin, h.din, ?_, ?_⟩
  · refine ⟨hgr.os.trans (hb.os.trans t2.os), hgr.tape.trans (hb.tape.trans t2.tape), hgr.output.trans (hb.output.trans t2.output), Nat.le_trans hs (Nat.le_trans hs2 hgr.size), fun k' hk' hn' => (hlt3 k' (by omega) fun e => ?_).trans (t2.block k' hk' hn')⟩
    have := (h.row.lt e).1; omega
  · have e9 : ints (out ++ [n]) = ints out ++ [.int .i64 n] := by simp
    rw [List.length_append, e9]
    exact hr
  · rcases List.mem_append.1 hx with hx | hx
    · exact h.row.2 x hx
    · rw [List.mem_singleton] at hx; subst hx; exact hnb
  · refine hm.turn (hlt3 _ hm.lt fun e => ?_)
    have := (h.row.lt e).1; have := h.dis.2.2.2.1; omega
  · intro e
    rcases mem_metC hk' with e2 | e2
    · have := (h.row.lt e).1; have := h.dis.2.2.2.2.1; omega
    · exact (h.mos k' e2).2.1 e
  · obtain ⟨q1, q2, q3⟩ := h.mos m e
    have := h.met.lt m (by simp [metC, e])
    exact ⟨q1, hvn m (by omega) q2, q3⟩
  · obtain ⟨z, hz, _, hz3⟩ := h.wb
    rw [hz] at hb'
    injection hb' with hb'
    rw [← hb']; exact hz3
  · obtain ⟨z, hz, hz2, hz3⟩ := h.wb
    have := row_lt0 h.way hz
    exact ⟨z, hz, hz2, hvn z (by omega) hz3⟩
  · have := h.sem
    rw [List.cons_append, List.nil_append, varsL_cons, vars_mk, if_pos hk, show addN n out = out ++ [n] by unfold addN; rw [if_neg hn]] at this
    rw [varsL_append]; exact this
  · have := h.bnd
    rw [ns_append] at this ⊢
    simp only [ns, Tm.n.ns, n_mk] at this ⊢
    rw [List.length_append]
    simp only [List.length_cons, List.length_nil]
    omega

theorem VI.skip {k : Int} {sn : ByteArray} {n : Int} {ks : List Tm} (h : VI W0 X mT g wb0 FIN wr vn vw mo D out [.mk k sn n ks] PR L) (hn : k = 1 → n ∈ out) : VI W0 X mT g wb0 FIN wr vn vw mo D out ks PR L := by
  refine ⟨h.xs, h.dis, h.out', h.row, h.told, h.met, h.mos, h.way, h.wb, h.lv, h.nd, h.rin, h.din, ?_, ?_⟩
  · have := h.sem
    rw [List.cons_append, List.nil_append, varsL_cons, vars_mk] at this
    rw [varsL_append]
    by_cases hk : k = 1
    · rw [if_pos hk, show addN n out = out by unfold addN; rw [if_pos (hn hk)]] at this
      exact this
    · rw [if_neg hk] at this
      exact this
  · have := h.bnd
    rw [ns_append] at this ⊢
    simp only [ns, Tm.n.ns, n_mk] at this ⊢
    omega

theorem VI.push {ks : List Tm} {b : Nat} {cs : List Value} {R' : List Row} {capk : Nat} {w1 w2 w3 : World} {mo' : Option Nat} {vw' : Value} (h : VI W0 X mT g wb0 FIN wr vn vw mo D out ks ((b, ks.length, cs) :: R') L) (hl : LvOk W0 X ⟨ks, .slice (some ⟨b, 0, none⟩) ks.length capk, R'⟩)
    (ho : Out (metC g mo) wr w1) (hme : MetC w1 g mo' (b :: D)) (hmo : mo' = mo ∨ ∃ m, mo' = some m ∧ wr.heap.size ≤ m) (hb : Below w1.heap.size w1 w2)
    (hr : w3.ownsRow 0 26 1 vw' (L.length + 1) (L.map Lv.sl ++ [.slice (some ⟨b, 0, none⟩) ks.length capk])) (hgr : w2.grownBy w3 vw.ownBlock) (hat : vw'.ownBlock = vw.ownBlock ∨ vw'.ownBlock = some w2.heap.size) :
    VI W0 X mT g wb0 FIN w3 vn vw' mo' (b :: D) out [] [] (L ++ [⟨ks, .slice (some ⟨b, 0, none⟩) ks.length capk, R'⟩]) := by
  obtain ⟨z, hz, hz2, hz3⟩ := h.wb
  have hs1 := ho.size
  have hs2 := hb.size
  have hs0 := h.out'.size
  have hk3 : ∀ f, f < wr.heap.size → f ∉ metC g mo → f ≠ z → w3.heap[f]? = wr.heap[f]? := fun f hf h1 h2 => (hgr.block f (by omega) (by rw [hz]; intro e; injection e with e; exact h2 e)).trans ((hb.block f (by omega)).trans (ho.block f hf h1))
  have hnm : ∀ f, f ≠ g → mo ≠ some f → f ∉ metC g mo := fun f h1 h2 hf => by
    rcases mem_metC hf with e | e
    · exact h1 e
    · exact h2 e
  have hmob : ∀ m, mo = some m → m < wr.heap.size := fun m e => h.met.lt m (by simp [metC, e])
  have hzlt := row_lt0 h.way hz
  have hzm : z ≠ mT := by rcases hz2 with e | e; rw [e]; exact Ne.symm h.dis.2.1; have := h.dis.2.2.2.1; omega
  have hzg : z ≠ g := by rcases hz2 with e | e; rw [e]; exact Ne.symm h.dis.2.2.1; have := h.dis.2.2.2.2.1; omega
  have hmem := h.rin (b, ks.length, cs) (by simp)
  have hblk : ∃ cur T, W0.heap[b]? = some (.cells cur T (0, 0)) := by
    obtain ⟨⟨c, hc⟩, _⟩ := hmem
    rcases hc.2 with ⟨e, _⟩ | ⟨g', c', cur, e, _, hh, _⟩
    · cases e
    · cases e; exact ⟨cur, _, hh⟩
  have hmos' : ∀ m, mo' = some m → W0.heap.size ≤ m ∧ m < w1.heap.size ∧ vn.ownBlock ≠ some m ∧ m ≠ z := fun m e => by
    have hm1 := hme.lt m (by simp [metC, e])
    rcases hmo with e2 | ⟨m2, e2, hm2⟩
    · obtain ⟨q1, q2, q3⟩ := h.mos m (e2 ▸ e)
      exact ⟨q1, hm1, q2, fun e3 => q3 (by rw [hz, e3])⟩
    · rw [e2] at e; injection e with e; subst e
      exact ⟨by omega, hm1, fun e3 => by have := (h.row.lt e3).2; omega, by omega⟩
  refine ⟨h.xs, h.dis, ?_, h.row.turn fun f hf => hk3 f (h.row.lt hf).2 (hnm f (fun e => ?_) fun e => (h.mos f e).2.1 hf) fun e => hz3 (by rw [hf, e]), h.told.turn (hk3 _ h.told.lt (hnm _ h.dis.1 fun e => ?_) (Ne.symm hzm)), ?_, fun m e => ?_, ?_, ?_, fun l hl' => ?_, ?_, ?_, fun d hd => ?_, ?_, ?_⟩
  · refine ⟨hgr.os.trans (hb.os.trans (ho.os.trans h.out'.os)), hgr.tape.trans (hb.tape.trans (ho.tape.trans h.out'.tape)), hgr.output.trans (hb.output.trans (ho.output.trans h.out'.output)), Nat.le_trans hs0 (Nat.le_trans hs1 (Nat.le_trans hs2 hgr.size)), fun f hf hn' => ?_⟩
    have hn2 : f ≠ mT ∧ f ≠ g ∧ f ≠ wb0 := by rw [h.xs] at hn'; simpa using hn'
    rw [hk3 f (by omega) (hnm f hn2.2.1 fun e => by have := (h.mos f e).1; omega) (by rcases hz2 with e | e; rw [e]; exact hn2.2.2; omega)]
    exact h.out'.block f hf hn'
  · have := (h.row.lt hf).1; have := h.dis.2.2.2.2.1; omega
  · have := (h.mos _ e).1; have := h.dis.2.2.2.1; omega
  · refine hme.keep fun f hf => ?_
    have hflt := hme.lt f hf
    refine (hgr.block f (by omega) ?_).trans (hb.block f hflt)
    rw [hz]
    intro e
    injection e with e
    rcases mem_metC hf with e2 | e2
    · exact hzg (e.symm.trans e2)
    · exact (hmos' f e2).2.2.2 e
  · obtain ⟨q1, q2, q3, q4⟩ := hmos' m e
    refine ⟨q1, q3, ?_⟩
    rcases hat with e2 | e2 <;> rw [e2]
    · rw [hz]; intro e3; injection e3 with e3; exact q4 e3.symm
    · intro e3; injection e3 with e3; omega
  · rw [List.length_append, List.map_append]
    exact hr
  · rcases hat with e2 | e2
    · exact ⟨z, e2.trans hz, hz2, hz3⟩
    · exact ⟨_, e2, Or.inr (by omega), fun e3 => by have := (h.row.lt e3).2; omega⟩
  · rcases List.mem_append.1 hl' with hl' | hl'
    · exact h.lv l hl'
    · rw [List.mem_singleton] at hl'; subst hl'; exact hl
  · have hp : (b :: D ++ (([] : List Row) ++ (L ++ [⟨ks, .slice (some ⟨b, 0, none⟩) ks.length capk, R'⟩] : List Lv).flatMap (·.R)).map (·.1)).Perm (D ++ ((((b, ks.length, cs) :: R') ++ L.flatMap (·.R)) : List Row).map (·.1)) := by
      simp only [List.flatMap_append, List.flatMap_cons, List.flatMap_nil, List.append_nil, List.nil_append, List.map_append, List.map_cons, List.cons_append]
      refine List.Perm.trans ?_ List.perm_middle.symm
      refine List.Perm.cons _ (List.Perm.append_left _ List.perm_append_comm)
    exact hp.nodup_iff.2 h.nd
  · intro r hr'
    refine h.rin r ?_
    simp only [List.flatMap_append, List.flatMap_cons, List.flatMap_nil, List.append_nil, List.nil_append, List.mem_append, List.cons_append, List.mem_cons] at hr' ⊢
    rcases hr' with hr' | hr'
    · exact Or.inr (Or.inr hr')
    · exact Or.inr (Or.inl hr')
  · rcases List.mem_cons.1 hd with rfl | hd
    · exact ⟨hmem.2, hblk⟩
    · exact h.din d hd
  · have := h.sem
    rw [flat_snoc]
    simpa using this
  · have := h.bnd
    rw [flat_snoc]
    simpa using this
end
end Go.Proofs.Ytcmnjpoapcogham

/- Four texts in one. -/
import Derived.Test.YtmhmlkdoaojimapGreatDoorMrg1
import Derived.Test.YtmhmlkdoaojimapGreatDoorMrg11
import Derived.Test.YtmhmlkdoaojimapGreatDoorMrg3
import Derived.StillTail
import Derived.Deep.QuietTactic
import Derived.Test.YtmhmlkdoaojimapGreatDoorMrg9
import Derived.Test.YtmhmlkdoaojimapGreatDoorMrg2
import Derived.BigQuiet
import Derived.ProofKit
/- What a TmVar stands for, again and again. Plain. -/
namespace Go.Proofs.YtmhmlkdoaojimapGreatDoor

def Tm.kind : Tm → Int
  | .mk k _ _ _ => k
def Tm.num : Tm → Int
  | .mk _ _ n _ => n

/-- what a term stands for in the list, if it stands for something -/
def nextT (ks : List Tm) (t : Tm) : Option Tm :=
  if t.kind = 1 ∧ 0 ≤ t.num then
    match ks[t.num.toNat]? with
    | none => none
    | some u => if u.kind = 0 then none else some u
  else none

def walkT (ks : List Tm) : Nat → Tm → Tm
  | 0, t => t
  | n + 1, t => match nextT ks t with
    | none => t
    | some u => walkT ks n u

theorem walkT_none {ks : List Tm} {t : Tm} (h : nextT ks t = none) (n : Nat) : walkT ks n t = t := by
  cases n with
  | zero => rfl
  | succ n => unfold walkT; rw [h]
theorem walkT_some {ks : List Tm} {t u : Tm} (h : nextT ks t = some u) (n : Nat) : walkT ks (n + 1) t = walkT ks n u := by
  show (match nextT ks t with | none => t | some u => walkT ks n u) = _
  rw [h]

theorem nextT_kind {ks : List Tm} {t : Tm} (h : t.kind ≠ 1) : nextT ks t = none := by
  unfold nextT; rw [if_neg (by intro e; exact h e.1)]
theorem nextT_out {ks : List Tm} {t : Tm} (h : t.num < 0 ∨ (ks.length : Int) ≤ t.num) : nextT ks t = none := by
  unfold nextT
  by_cases h1 : t.kind = 1 ∧ 0 ≤ t.num
  · rw [if_pos h1, List.getElem?_eq_none (by omega)]
  · rw [if_neg h1]
theorem nextT_at {ks : List Tm} {t : Tm} {j : Nat} (hk : t.kind = 1) (hj : t.num = (j : Int)) (hlt : j < ks.length) : nextT ks t = if ks[j].kind = 0 then none else some ks[j] := by
  unfold nextT
  rw [if_pos ⟨hk, by omega⟩, show t.num.toNat = j by omega, List.getElem?_eq_getElem hlt]

/-- it is a term of the list, or the term itself -/
theorem walkT_mem (ks : List Tm) (n : Nat) (t : Tm) : walkT ks n t = t ∨ walkT ks n t ∈ ks := by
  induction n generalizing t with
  | zero => exact Or.inl rfl
  | succ n ih =>
    cases h : nextT ks t with
    | none => exact Or.inl (walkT_none h _)
    | some u =>
      rw [walkT_some h]
      have hu : u ∈ ks := by
        unfold nextT at h
        split at h
        · split at h
          · cases h
          · rename_i x hx
            split at h
            · cases h
            · cases h; exact List.mem_of_getElem? hx
        · cases h
      rcases ih u with e | e
      · rw [e]; exact Or.inr hu
      · exact Or.inr e
end Go.Proofs.YtmhmlkdoaojimapGreatDoor

/- A term with other numbers of TmVars. Plain. -/
namespace Go.Proofs.YtmhmlkdoaojimapGreatDoor

def Tm.shift (b : Int) : Tm → Tm
  | .mk k s n ks => .mk k s (if k = 1 ∧ s.size = 0 ∧ ks.length = 0 then n + b else n) (shifts b ks)
where shifts (b : Int) : List Tm → List Tm
  | [] => []
  | t :: ts => t.shift b :: shifts b ts
abbrev shifts := Tm.shift.shifts
theorem shift_mk (b k : Int) (s : ByteArray) (n : Int) (ks : List Tm) : (Tm.mk k s n ks).shift b = .mk k s (if k = 1 ∧ s.size = 0 ∧ ks.length = 0 then n + b else n) (shifts b ks) := by simp [Tm.shift, shifts]
theorem shifts_map (b : Int) (ks : List Tm) : shifts b ks = ks.map (Tm.shift b) := by
  induction ks with
  | nil => rfl
  | cons t r ih => simp only [shifts, Tm.shift.shifts, List.map_cons] at *; rw [ih]

/-- what shiftedRight takes: no kids, or one of a Name and kids that it takes -/
def Tm.shp (b : Int) : Tm → Prop
  | .mk k _ n ks => (k = 1 → -9223372036854775808 ≤ n + b ∧ n + b ≤ 9223372036854775807) ∧ (ks = [] ∨ (k = 4 ∧ n = 0)) ∧ shps b ks
where shps (b : Int) : List Tm → Prop
  | [] => True
  | t :: ts => t.shp b ∧ shps b ts
abbrev shps := Tm.shp.shps
theorem shp_mk (b k : Int) (s : ByteArray) (n : Int) (ks : List Tm) : (Tm.mk k s n ks).shp b = ((k = 1 → -9223372036854775808 ≤ n + b ∧ n + b ≤ 9223372036854775807) ∧ (ks = [] ∨ (k = 4 ∧ n = 0)) ∧ shps b ks) := by simp [Tm.shp, shps]
theorem shps_all (b : Int) (ks : List Tm) : shps b ks ↔ ∀ t ∈ ks, t.shp b := by
  induction ks with
  | nil => simp [shps, Tm.shp.shps]
  | cons t r ih => simp only [shps, Tm.shp.shps, List.mem_cons, forall_eq_or_imp] at *; rw [ih]

theorem shift_zero (t : Tm) : t.shift 0 = t := by
  refine tm_ind (p := fun t => t.shift 0 = t) ?_ t
  intro k s n ks h
  rw [shift_mk, shifts_map]
  have e : ks.map (Tm.shift 0) = ks := by
    conv => rhs; rw [← List.map_id ks]
    exact List.map_congr_left fun t ht => h t ht
  rw [e]
  simp
end Go.Proofs.YtmhmlkdoaojimapGreatDoor

/- A region that draws its order: a head whose operations read, or call what makes memory, taken in the order of its text over all later worlds; and behind it a tail that comes in its own order. -/
namespace Go.Proofs.YtmhmlkdoaojimapGreatDoor
open Go.RowKit

section
variable {P : Program} {ops : Array Oper} {md : Region.Mode} {C : World → Prop}

/-- f operations of the head, in any order that may come, each quiet in the class; then L -/
def HeadQ (P : Program) (md : Region.Mode) (ops : Array Oper) (C : World → Prop) (n : Nat) (L : Array Bool → Act → Prop) : Nat → Array Bool → Act → Prop
  | 0, listed, a => L listed a
  | f + 1, listed, a => Region.ready md ops listed ≠ [] ∧ ∀ i ∈ Region.ready md ops listed, i < n ∧ qOp P ops C i (HeadQ P md ops C n L f (listed.setIfInBounds i true)) a

theorem headQ_any {n g : Nat} {L : Array Bool → Act → Prop} {Q : Exit → Act → World → Prop} (hL : ∀ listed a, L listed a → ∀ w, C w → wpAny P md ops Q g listed a w) (f : Nat) :
    ∀ (listed : Array Bool) (a : Act), HeadQ P md ops C n L f listed a → ∀ w, C w → wpAny P md ops Q (f + g) listed a w := by
  induction f with
  | zero => intro listed a h w hw; rw [Nat.zero_add]; exact hL _ _ h w hw
  | succ f ih =>
    intro listed a h w hw
    rw [show f + 1 + g = (f + g) + 1 by omega]
    exact ⟨fun h0 => absurd h0 h.1, fun i hi => wpOp_of_qOp hw (fun a' w' hw' h' => ih _ a' h' w' hw') (h.2 i hi).2⟩

theorem headQ_first {n i : Nat} {oi : Oper} {v : Value} {L : Array Bool → Act → Prop} (hi : ops[i]? = some oi) (hsel : ∀ (j : Nat) (o : Oper) cs b, ops[j]? = some o → o.op ≠ .select cs b)
    (hs : Region.sinkB md ops n = true) (hc : Region.chainB md ops n = true) (hn : n < ops.size) (hin : i < n) (hdone : ∀ listed a, L listed a → ∀ j ∈ Region.ready md ops listed, n ≤ j) (f : Nat) :
    ∀ (listed : Array Bool) (a : Act), HeadInv md ops n listed →
      (∀ j oj, ops[j]? = some oj → j ≠ i → listed.getD j true = false → (∀ e ∈ oj.after, Region.binds md e = true → e.on ≠ i) → oi.apart ops oj = true) →
      i ∈ Region.ready md ops listed → YieldsIn P ops C oi v a → HeadQ P md ops C n L f (listed.setIfInBounds i true) (a.put oi.dst v) → HeadQ P md ops C n L (f + 1) listed a := by
  induction f with
  | zero =>
    intro listed a inv _ hr hy H
    have hun := (mem_ready.1 hr).1
    refine ⟨fun h => (by rw [h] at hr; cases hr), fun j hj => ?_⟩
    have hjn : j < n := Nat.lt_of_not_le fun h => tail_waits hs hc hn inv _ i rfl hin hun j h hj
    refine ⟨hjn, ?_⟩
    by_cases hji : j = i
    · subst hji; exact hy.qOp hi H
    · have := hdone _ _ H j (ready_mono hj hji)
      omega
  | succ f ih =>
    intro listed a inv hfree hr hy H
    have hun := (mem_ready.1 hr).1
    refine ⟨fun h => (by rw [h] at hr; cases hr), fun j hj => ?_⟩
    have hjn : j < n := Nat.lt_of_not_le fun h => tail_waits hs hc hn inv _ i rfl hin hun j h hj
    refine ⟨hjn, ?_⟩
    by_cases hji : j = i
    · subst hji; exact hy.qOp hi H
    · obtain ⟨hjun, oj, hoj, hall⟩ := mem_ready.1 hj
      have hnot : ∀ e ∈ oj.after, Region.binds md e = true → e.on ≠ i := fun e he hb heq => by
        have h1 := hall e he hb
        rw [heq, getD_both hun] at h1
        cases h1
      have h2 := qOp_put hoj (hfree j oj hoj hji hjun hnot) (fun cs b => hsel i oi cs b hi) (fun cs b => hsel j oj cs b hoj) hy (H.2 j (ready_mono hj hji)).2
      refine qOp_mono (fun a' h3 => ih _ a' (inv.set hj hjn) (fun k ok hk hki hu hno => hfree k ok hk hki ?_ hno) (ready_mono hr (Ne.symm hji)) h3.1 ?_) h2
      · by_cases hjk : j = k
        · subst hjk; exact hjun
        · rw [getD_set_ne true hjk] at hu; exact hu
      · rw [Array.setIfInBounds_comm _ _ hji]
        exact h3.2

theorem headQ_lex {n g : Nat} {R : Act → Prop} (hsel : Region.noSelect ops = true) (hs : Region.sinkB md ops n = true) (hc : Region.chainB md ops n = true) (hn : n < ops.size) (l : List Oper) :
    ∀ (k : Nat) (listed : Array Bool) (a : Act), (∀ j, j < l.length → l[j]? = ops[k + j]?) → k + l.length = n → HeadInv md ops n listed → Region.lexHead md ops g l.length k listed = true → wpQuiet P ops C R l a →
      HeadQ P md ops C n (fun listed' a' => Region.seqB md ops g n listed' = true ∧ R a') l.length listed a := by
  induction l with
  | nil =>
    intro k listed a _ hk _ hB h
    obtain rfl : k = n := by simpa using hk
    exact ⟨by simpa [Region.lexHead] using hB, h⟩
  | cons o l ih =>
    intro k listed a hl hk inv hB h
    have h0 : ops[k]? = some o := by simpa using (hl 0 (by simp)).symm
    simp only [List.length_cons, Region.lexHead, Bool.and_eq_true] at hB
    obtain ⟨⟨hr, hf⟩, hB'⟩ := hB
    have hkn : k < n := by simp only [List.length_cons] at hk; omega
    have hr' : k ∈ Region.ready md ops listed := by simpa using hr
    have hst : qOp P ops C k (wpQuiet P ops C R l) a := by unfold qOp; simp only [h0]; exact h
    obtain ⟨v, hy, hK⟩ := yieldsIn_of_qOp h0 hst
    exact headQ_first h0 (Region.noSelect_spec hsel) hs hc hn hkn (fun listed' a' hL => seqB_ready hL.1) l.length listed a inv (Region.free_spec h0 hf) hr' hy
      (ih (k + 1) _ _ (fun j hj => by have := hl (j + 1) (by simp; omega); simpa [Nat.add_assoc, Nat.add_comm 1 j] using this) (by simp only [List.length_cons] at hk; omega) (inv.set hr' hkn) hB' hK)

/-- n operations of a head, over all later worlds, and the rest in its own order -/
theorem wp_region_tail {id : Nat} {Q : Exit → Act → World → Prop} {a : Act} {w : World} {l : List Oper} (n : Nat) (hm : P.follows .mixedOrders = true) (hB : Region.lexTailB .any l.toArray n = true)
    (h : wpQuiet P l.toArray (fun w' => ∃ u, w' = later w u) (fun a' => ∀ w', (∃ u, w' = later w u) → wpList P l.toArray Q (l.drop n) a' w') (l.take n) a) : (Code.region id l.toArray true).wp P Q a w := by
  simp only [Region.lexTailB, Bool.and_eq_true, decide_eq_true_eq] at hB
  obtain ⟨⟨⟨⟨hsel, hn⟩, hs⟩, hc⟩, hlex⟩ := hB
  have hn' : n < l.length := by simpa using hn
  have htl : (l.take n).length = n := by simp; omega
  have hdl : (l.drop n).length = l.toArray.size - n := by simp
  have inv0 : HeadInv .any l.toArray n (Array.replicate l.toArray.size false) :=
    ⟨by simp, fun j oj _ hl => (by rw [getD_replicate_false] at hl; cases hl), fun t _ ht => getD_in (by simpa using ht) (getD_replicate_false _ _)⟩
  have H := headQ_lex (md := .any) (g := l.toArray.size - n) hsel hs hc hn (l.take n) 0 _ a (fun j hj => by
    have hj' : j < n := by rw [htl] at hj; exact hj
    simp [hj']) (by simpa using htl) inv0 (by rw [htl]; exact hlex) h
  refine wp_region_any hm ?_
  have := headQ_any (Q := Q) (g := l.toArray.size - n) (fun listed a' hL w' hw' => by
    have := wpAny_of_seq (md := .any) (Q' := Q) (l.drop n) n listed a' w' (fun j => by simp [List.getElem?_drop]) (by rw [hdl]; exact hL.1) (hL.2 w' hw')
    rwa [hdl] at this) _ _ _ H _ ⟨w.drew, later_of (Below.refl w.heap.size w).drew⟩
  rw [htl, show n + (l.toArray.size - n) = l.toArray.size by omega] at this
  exact this
end
end Go.Proofs.YtmhmlkdoaojimapGreatDoor

/- impl.shiftedRight: a copy with other numbers. -/
namespace Go.Proofs.YtmhmlkdoaojimapGreatDoor
open Go.RowKit

def ShOk (b : Int) (t : Tm) : Prop := ∀ (w : World) (v : Value), TmIn w t v → t.wt ≤ 1048576 → t.shp b →
  Calls Tryz.prog 73 #[v, .int .i64 b] w fun e w' => ∃ v' F, e = .returned v' ∧ Own 41 w' (t.shift b) v' F ∧ (∀ f ∈ F, w.heap.size ≤ f) ∧ F.Nodup ∧ Below w.heap.size w w'

set_option maxHeartbeats 1000000 in
set_option maxRecDepth 20000 in
theorem shifted_right (b : Int) (t : Tm) : ShOk b t := by
  refine tm_ind (p := ShOk b) ?_ t
  clear t
  intro k s n ks hks w v hin hwt hsh
  unfold TmIn at hin
  obtain ⟨ao, cap, rfl, hk, hn, hs, hlen, hcap, hrow⟩ := hin
  have ew : (Tm.mk k s n ks).wt = s.size + (ks.length + wts ks) := by simp [Tm.wt, wts]; omega
  rw [ew] at hwt
  rw [shp_mk] at hsh
  obtain ⟨hb1, hsh, hkids⟩ := hsh
  obtain ⟨W, hW⟩ : ∃ W, W = (w.alloc (.cells #[.int .i64 k, .string s, .int .i64 n, .slice ao ks.length cap] 41)).alloc (.cells #[.int .i64 0, .string ⟨#[]⟩, .int .i64 0, .slice none 0 0] 41) := ⟨_, rfl⟩
  have bW : Below w.heap.size w W := by rw [hW]; exact ((Below.refl _ _).alloc (Nat.le_refl _) _).alloc (by simp) _
  have k1 : W.heap[w.heap.size]? = some (.cells #[.int .i64 k, .string s, .int .i64 n, .slice ao ks.length cap] 41 (0, 0)) := by rw [hW]; exact (alloc_old _ _ (by simp)).trans (alloc_at _ _ rfl)
  have k2 : W.heap[w.heap.size + 1]? = some (.cells #[.int .i64 0, .string ⟨#[]⟩, .int .i64 0, .slice none 0 0] 41 (0, 0)) := by rw [hW]; exact alloc_at _ _ (by simp)
  have lW : W.heap.size = w.heap.size + 2 := by rw [hW]; simp
  have HK : Hid (∀ w1, Below W.heap.size W w1 → w1.heap[w.heap.size]? = some (.cells #[.int .i64 k, .string s, .int .i64 n, .slice ao ks.length cap] 41 (0, 0)) ∧ w1.heap[w.heap.size + 1]? = some (.cells #[.int .i64 0, .string ⟨#[]⟩, .int .i64 0, .slice none 0 0] 41 (0, 0))) := fun w1 hb => ⟨(hb.block _ (by omega)).trans k1, (hb.block _ (by omega)).trans k2⟩
  have HBW : Hid (Below w.heap.size w W) := bW
  have HFM := implForm k s n ao ks.length cap (Nat.le_trans hlen hcap) W
  clear k1 k2
  by_cases hstr : k = 4 ∧ n = 0
  · obtain ⟨rfl, rfl⟩ := hstr
    have hf : formV 4 s 0 ao ks.length cap = .iface 101 (.agg #[.string s, .slice ao ks.length cap]) := by simp [formV]
    rw [hf, hW] at HFM
    replace HFM : Hid _ := HFM
    obtain ⟨M, hM, hmk⟩ := make_terms ks.length (by omega)
    have HKS : Hid (∀ t ∈ ks, ShOk b t) := hks
    have HSP : Hid (∀ t ∈ ks, t.shp b) := (shps_all b ks).1 hkids
    have HROW : Hid (ks ≠ [] → ∃ b off, ao = some ⟨b, off, none⟩ ∧ TmsIn w ks b off) := hrow
    have HCL : Hid (∀ w, Calls Tryz.prog 44 #[.string s] w fun e w' => e = .returned (.string s) ∧ Below w.heap.size w w') := fun w => clone_any s w (by omega)
    have HSH : Hid ((Tm.mk 4 s 0 ks).shift b = .mk 4 s 0 (ks.map (Tm.shift b))) := by
      show _ = _
      rw [shift_mk, shifts_map, if_neg (by omega)]
    have HSS : Hid (s.size ≤ maxLen) := hs
    have HM : Hid (M.size = ks.length * 4) := hM
    have HWT : Hid (∀ t ∈ ks, t.wt ≤ 1048576) := fun t ht => by have := wt_le ht; omega
    have hl20 : ks.length ≤ 1048576 := by omega
    clear hf hks hrow hkids hsh bW ew hwt hb1 hs hM hk hn
    go_enter Tryz.func73, Tryz.ntmps73
    go_wp2_with (first | (go_at_call 70; refine (Calls.mono HFM.out ?_); rintro e w1 ⟨rfl, hb⟩; rw [← hW] at hb; have HB1 : Hid (Below W.heap.size W w1) := hb; clear hb) | fail)
    clear hmk
    have hszW := HB1.out.size
    obtain ⟨V, hV⟩ : ∃ V, V = (w1.alloc (.cells #[.string s, .slice ao ks.length cap] 101)).alloc (.cells M 41) := ⟨_, rfl⟩
    have bV : Below w1.heap.size w1 V := by rw [hV]; exact ((Below.refl _ _).alloc (Nat.le_refl _) _).alloc (by simp) _
    have v1 : V.heap[w1.heap.size]? = some (.cells #[.string s, .slice ao ks.length cap] 101 (0, 0)) := by rw [hV]; exact (alloc_old _ _ (by simp)).trans (alloc_at _ _ rfl)
    have v2 : V.heap[w1.heap.size + 1]? = some (.cells M 41 (0, 0)) := by rw [hV]; exact alloc_at _ _ (by simp)
    have HBV : Hid (Below W.heap.size W V) := HB1.out.trans (bV.mono HB1.out.size)
    have HV1 : Hid (V.heap[w1.heap.size]? = some (.cells #[.string s, .slice ao ks.length cap] 101 (0, 0))) := v1
    have HV2 : Hid (V.heap[w1.heap.size + 1]? = some (.cells M 41 (0, 0))) := v2
    rw [← hV]
    clear hV bV v1 v2 HFM
    generalize w1.heap.size = g6 at *
    go_loopw [39] (fun vi wr => ∃ (j : Nat) (cur : Array Value) (F : List Nat), j ≤ ks.length ∧ vi = .int .i64 (j : Int) ∧ Hid (Below W.heap.size W wr) ∧ Hid (wr.heap[g6]? = some (.cells #[.string s, .slice ao ks.length cap] 101 (0, 0))) ∧ Hid (wr.heap[(g6 + 1)]? = some (.cells cur 41 (0, 0))) ∧ cur.size = ks.length * 4 ∧
      Hid (OwnRow 41 wr ((ks.map (Tm.shift b)).take j) (cur.toList.take (j * 4)) F ∧ (∀ f ∈ F, (g6 + 1) < f) ∧ F.Nodup)) (fun i _ => ks.length - (intOf i).toNat)
    case atStart => exact ⟨0, M, [], by omega, rfl, HBV.out, HV1.out, HV2.out, HM.out, by simp [OwnRow], by simp, by simp⟩
    case round =>
      obtain ⟨j, cur, F, hj, rfl, HB, HX, HG, hcs, HO⟩ := hrel
      by_cases hlt : j < ks.length
      · obtain ⟨b7, off, rfl, hin⟩ := HROW.out (by intro e; subst e; simp at hlt)
        have hbw : Below w.heap.size w wr := HBW.out.trans (HB.out.mono HBW.out.size)
        obtain ⟨c0, c1, c2, c3, h0, h1, h2, h3, ht⟩ := (TmsIn.keep hbw ks b7 off hin).at j hlt
        obtain ⟨kj, sj, nj, aj, lj, cj, hsj⟩ := tm_shape ht
        obtain ⟨rfl, rfl, rfl, rfl⟩ : c0 = .int .i64 kj ∧ c1 = .string sj ∧ c2 = .int .i64 nj ∧ c3 = .slice aj lj cj := by simpa using hsj
        obtain ⟨U, hU⟩ : ∃ U, U = wr.alloc (.cells #[.int .i64 kj, .string sj, .int .i64 nj, .slice aj lj cj] 41) := ⟨_, rfl⟩
        have bU : Below wr.heap.size wr U := by rw [hU]; exact (Below.refl _ _).alloc (Nat.le_refl _) _
        have HC := HKS.out ks[j] (List.getElem_mem hlt) U _ (TmIn.keep bU _ _ ht) (HWT.out _ (List.getElem_mem hlt)) (HSP.out _ (List.getElem_mem hlt))
        rw [hU] at HC
        replace HC : Hid _ := HC
        have hgl : (g6 + 1) < wr.heap.size := (Array.getElem?_eq_some_iff.1 HG.out).1
        have HAF : Hid (∀ w2, Below U.heap.size U w2 → Below W.heap.size W w2 ∧ w2.heap[g6]? = some (.cells #[.string s, .slice (some ⟨b7, off, none⟩) ks.length cap] 101 (0, 0)) ∧ w2.heap[(g6 + 1)]? = some (.cells cur 41 (0, 0)) ∧ OwnRow 41 w2 ((ks.map (Tm.shift b)).take j) (cur.toList.take (j * 4)) F ∧ (∀ f ∈ F, f < U.heap.size)) := fun w2 hb => by
          have hb2 : Below wr.heap.size wr w2 := bU.trans (hb.mono bU.size)
          refine ⟨HB.out.trans (hb2.mono HB.out.size), (hb2.block _ (by omega)).trans HX.out, (hb2.block _ hgl).trans HG.out, OwnRow.keep _ _ _ HO.out.1 fun f hf => hb2.block f (OwnRow.lt _ _ _ HO.out.1 f hf), fun f hf => ?_⟩
          have := OwnRow.lt _ _ _ HO.out.1 f hf
          have := bU.size
          omega
        have HO2 : Hid ((∀ f ∈ F, (g6 + 1) < f) ∧ F.Nodup) := HO.out.2
        have hUs : wr.heap.size ≤ U.heap.size := bU.size
        clear hin ht hsj bU HO
        go_wp2_with (go_at_call 73; refine (Calls.mono HC.out ?_); rintro e w2 ⟨v', F2, rfl, hown, hfr, hnd, hb⟩; rw [← hU] at hfr hb; obtain ⟨k', s', n', ao', len', cap', rfl⟩ := own_shape hown; obtain ⟨p1, p2, p3, p4, p5⟩ := HAF.out w2 hb; have x0 := blk_cell (i := j * 4) p3 (by omega); have x1 := blk_cell (i := j * 4 + 1) p3 (by omega); have x2 := blk_cell (i := j * 4 + 2) p3 (by omega); have x3 := blk_cell (i := j * 4 + 3) p3 (by omega); have z0 := blk_frozen p3 (j * 4); have z1 := blk_frozen p3 (j * 4 + 1); have z2 := blk_frozen p3 (j * 4 + 2); have z3 := blk_frozen p3 (j * 4 + 3); have HOWN : Hid (Own 41 w2 (ks[j].shift b) (.agg #[.int .i64 k', .string s', .int .i64 n', .slice ao' len' cap']) F2) := hown; have HFR : Hid (∀ f ∈ F2, U.heap.size ≤ f) := hfr; have HND : Hid F2.Nodup := hnd; have P1 : Hid (Below W.heap.size W w2) := p1; have P2 : Hid (w2.heap[g6]? = some (.cells #[.string s, .slice (some ⟨b7, off, none⟩) ks.length cap] 101 (0, 0))) := p2; have P3 : Hid (w2.heap[(g6 + 1)]? = some (.cells cur 41 (0, 0))) := p3; have P4 : Hid (OwnRow 41 w2 ((ks.map (Tm.shift b)).take j) (cur.toList.take (j * 4)) F) := p4; have P5 : Hid (∀ f ∈ F, f < U.heap.size) := p5; clear hown hfr hb hnd p1 p2 p3 p4 p5)
        go_roundw
        case rel =>
          obtain ⟨o2, o3⟩ := HO2.out
          have hne : ∀ f, (g6 + 1) < f → f ≠ (g6 + 1) := fun f hf => by omega
          have hml : j < (ks.map (Tm.shift b)).length := by simpa using hlt
          refine ⟨j + 1, _, F ++ F2, by omega, by go_num, ?_, ?_, blk_set (blk_set (blk_set (blk_set P3.out _) _) _) _, by simp; exact hcs, ?_, ?_, ?_⟩
          · exact below_set (below_set (below_set (below_set P1.out (by omega) _) (by omega) _) (by omega) _) (by omega) _
          · rw [blk_other _ (by omega), blk_other _ (by omega), blk_other _ (by omega), blk_other _ (by omega)]; exact P2.out
          · rw [List.take_succ_eq_append_getElem hml, set4_take (by omega)]
            refine OwnRow.snoc (Own.keep _ _ _ (by rw [List.getElem_map]; exact HOWN.out) fun f hf => ?_) _ _ _ (OwnRow.keep _ _ _ P4.out fun f hf => ?_)
            · have h1 := HFR.out f hf
              rw [blk_other _ (hne f (by omega)), blk_other _ (hne f (by omega)), blk_other _ (hne f (by omega)), blk_other _ (hne f (by omega))]
            · have h1 := o2 f hf
              rw [blk_other _ (hne f h1), blk_other _ (hne f h1), blk_other _ (hne f h1), blk_other _ (hne f h1)]
          · intro f hf
            rcases List.mem_append.1 hf with hf | hf
            · exact o2 f hf
            · have := HFR.out f hf; omega
          · refine List.nodup_append.2 ⟨o3, HND.out, fun a ha b hb => ?_⟩
            have h1 := P5.out a ha
            have h2 := HFR.out b hb
            omega
        case measure => simp [intOf]; omega
      · have x0 : wr.cell? ⟨g6, 0, none⟩ = some (.string s) := blk_cell (i := 0) HX.out (by simp)
        have HE : Hid (OwnS 41 wr (ks.map (Tm.shift b)) (.slice (some ⟨g6 + 1, 0, none⟩) ks.length ks.length) ((g6 + 1) :: F)) := by
          obtain ⟨o1, o2, o3⟩ := HO.out
          obtain rfl : j = ks.length := by omega
          rw [List.take_of_length_le (by simp)] at o1
          refine Or.inr ⟨g6 + 1, ks.length, cur.toList.take (ks.length * 4), F, by simp, ⟨by simp [hcs], Or.inr ⟨g6 + 1, ks.length, cur, by simp, Nat.zero_le _, HG.out, by simp, by unfold maxLen; omega, hcs, by simp⟩⟩, rfl, o1⟩
        have HF : Hid ((∀ f ∈ (g6 + 1) :: F, g6 < f ∧ f < wr.heap.size) ∧ ((g6 + 1) :: F).Nodup) := by
          obtain ⟨o1, o2, o3⟩ := HO.out
          have hgl := (Array.getElem?_eq_some_iff.1 HG.out).1
          refine ⟨fun f hf => ?_, List.nodup_cons.2 ⟨fun hf => ?_, o3⟩⟩
          · rcases List.mem_cons.1 hf with rfl | hf
            · exact ⟨by omega, hgl⟩
            · have := o2 f hf; exact ⟨by omega, OwnRow.lt _ _ _ o1 f hf⟩
          · have := o2 _ hf; omega
        clear HO HG
        go_wp2_with (go_at_call 44; refine (Calls.mono (HCL.out _) ?_); rintro e w2 ⟨rfl, hb⟩; have P1 : Hid (Below W.heap.size W w2) := HB.out.trans (hb.mono HB.out.size); obtain ⟨_, hz⟩ := HK.out w2 P1.out; obtain ⟨y0, y1, y2, y3, z0, z1, z2, z3⟩ := blk4 hz; have HZ : Hid (w2.heap[w.heap.size + 1]? = some (.cells #[.int .i64 0, .string ⟨#[]⟩, .int .i64 0, .slice none 0 0] 41 (0, 0))) := hz; have HE2 : Hid (OwnS 41 w2 (ks.map (Tm.shift b)) (.slice (some ⟨g6 + 1, 0, none⟩) ks.length ks.length) ((g6 + 1) :: F)) := OwnS.keep HE.out (fun f hf => hb.block f (HF.out.1 f hf).2); clear hb hz)
        refine bodyPost_ret_by (results_cell_row rfl _ _ (w.heap.size + 1) 41 _ (0, 0) _ rfl (blk4_set HZ.out) Tryz.underlying41 rfl (by kernel_rfl)) rfl ?_
        have hbl : Below w.heap.size w w2 := HBW.out.trans (P1.out.mono HBW.out.size)
        refine ⟨_, (g6 + 1) :: F, rfl, ?_, fun f hf => ?_, HF.out.2, blk4_below hbl (by omega)⟩
        · rw [HSH.out]
          refine own_mk (OwnS.keep HE2.out fun f hf => blk4_other ?_) (by omega) (by omega) HSS.out
          have := (HF.out.1 f hf).1; omega
        · have := (HF.out.1 f hf).1; omega
  · have hks0 : ks = [] := by rcases hsh with h | h; exact h; exact absurd h hstr
    subst hks0
    by_cases hv : k = 1 ∧ s.size = 0
    · obtain ⟨rfl, hs0⟩ := hv
      obtain rfl := empty_of hs0
      have hf : formV 1 ⟨#[]⟩ n ao ([] : List Tm).length cap = .iface 106 (.agg #[.int .i64 n]) := by unfold formV; rw [if_pos ⟨rfl, rfl, rfl⟩]
      rw [hf, hW] at HFM
      replace HFM : Hid _ := HFM
      obtain ⟨hb2, hb3⟩ := hb1 rfl
      clear hf hks hrow hkids hsh hstr bW hs0 ew
      go_enter Tryz.func73, Tryz.ntmps73
      go_wp2_with (first | (go_at_call 70; refine (Calls.mono HFM.out ?_); rintro e w1 ⟨rfl, hb⟩; rw [← hW] at hb; obtain ⟨hx, hz⟩ := HK.out w1 hb; obtain ⟨y0, y1, y2, y3, z0, z1, z2, z3⟩ := blk4 hz; have HB1 : Hid (Below W.heap.size W w1) := hb; have hsz := hb.size; have hlt1 : w.heap.size + 1 < w1.heap.size := (by omega); have HZ : Hid (w1.heap[w.heap.size + 1]? = some (.cells #[.int .i64 0, .string ⟨#[]⟩, .int .i64 0, .slice none 0 0] 41 (0, 0))) := hz; clear hb hx hz) | fail)
      have hz2 : ((((w1.setCell ⟨w.heap.size + 1, 0, none⟩ (.int .i64 1)).setCell ⟨w.heap.size + 1, 1, none⟩ (.string ⟨#[]⟩)).setCell ⟨w.heap.size + 1, 2, none⟩ (.int .i64 (n + b))).setCell ⟨w.heap.size + 1, 3, none⟩ (.slice none 0 0)).heap[w.heap.size + 1]? = some (.cells #[.int .i64 1, .string ⟨#[]⟩, .int .i64 (n + b), .slice none 0 0] 41 (0, 0)) := blk4_set HZ.out
      refine bodyPost_ret_by (results_cell_row rfl _ _ (w.heap.size + 1) 41 _ (0, 0) _ rfl ((alloc_old _ _ (by simp [World.setCell]; omega)).trans hz2) Tryz.underlying41 rfl (by kernel_rfl)) rfl ?_
      have hbl : Below w.heap.size w w1 := HBW.out.trans (HB1.out.mono HBW.out.size)
      refine ⟨_, [], rfl, ?_, by simp, by simp, (blk4_below hbl (by omega)).alloc (by simp [World.setCell]; omega) _⟩
      rw [shift_mk, if_pos ⟨rfl, rfl, rfl⟩]
      exact own_mk (Or.inl ⟨rfl, rfl, rfl⟩) (by omega) ⟨hb2, hb3⟩ (Nat.zero_le _)
    · obtain ⟨ft, fv, hf, hft⟩ : ∃ ft fv, formV k s n ao ([] : List Tm).length cap = .iface ft fv ∧ (ft = 107 ∨ ft = 109 ∨ ft = 111) := by
        unfold formV
        rw [if_neg (fun h => hv ⟨h.1, h.2.1⟩)]
        split
        · exact ⟨_, _, rfl, Or.inl rfl⟩
        · split
          · exact ⟨_, _, rfl, Or.inr (Or.inl rfl)⟩
          · exact ⟨_, _, rfl, Or.inr (Or.inr rfl)⟩
      rw [hf, hW] at HFM
      replace HFM : Hid _ := HFM
      have HSH : Hid ((Tm.mk k s n []).shift b = .mk k s n []) := by
        show _ = _
        rw [shift_mk, if_neg (fun h => hv ⟨h.1, h.2.1⟩)]
        rfl
      have hsl : s.size ≤ 1048576 := by omega
      have HBD : Hid ((-9223372036854775808 ≤ k ∧ k ≤ 9223372036854775807) ∧ (-9223372036854775808 ≤ n ∧ n ≤ 9223372036854775807) ∧ s.size ≤ maxLen) := ⟨hk, hn, hs⟩
      have HCL : Hid (∀ w, Calls Tryz.prog 44 #[.string s] w fun e w' => e = .returned (.string s) ∧ Below w.heap.size w w') := fun w => clone_any s w hsl
      clear hf hks hrow hkids hsh hstr bW hv ew hwt hb1 hk hn hs hcap hlen hsl
      rcases hft with rfl | rfl | rfl
      all_goals
        go_enter Tryz.func73, Tryz.ntmps73
        go_wp2_with (first | (go_at_call 70; refine (Calls.mono HFM.out ?_); rintro e w1 ⟨rfl, hb⟩; rw [← hW] at hb; have HB1 : Hid (Below W.heap.size W w1) := hb; clear hb) | fail)
        have HL : Hid (∀ u, Below W.heap.size W (later w1 u)) := fun u => HB1.out.trans ((later_below w1 u).mono HB1.out.size)
        have x0 : ∀ u, (later w1 u).cell? ⟨w.heap.size, 0, none⟩ = some (.int .i64 k) := fun u => (blk4 (HK.out _ (HL.out u)).1).1
        have x1 : ∀ u, (later w1 u).cell? ⟨w.heap.size, 1, none⟩ = some (.string s) := fun u => (blk4 (HK.out _ (HL.out u)).1).2.1
        have x2 : ∀ u, (later w1 u).cell? ⟨w.heap.size, 2, none⟩ = some (.int .i64 n) := fun u => (blk4 (HK.out _ (HL.out u)).1).2.2.1
        refine wp_region_tail 7 (by kernel_rfl) (by kernel_rfl) ?_
        simp only [List.take_succ_cons, List.take_zero, List.drop_succ_cons, List.drop_zero]
        repeat (go_big_quiet_step ((go_at_call 44; exact Calls.later_of_below (HCL.out _))))
        refine wpQuiet_nil ?_
        rintro _ ⟨u, rfl⟩
        have D2 : Hid (Below W.heap.size W (later w1 u)) := HL.out u
        generalize later w1 u = w2 at *
        obtain ⟨b0, b1, b2, b3, e0, e1, e2, e3⟩ := blk4 (HK.out w2 D2.out).2
        clear x0 x1 x2
        go_wp2
        refine bodyPost_ret_by (results_cell_row rfl _ _ (w.heap.size + 1) 41 _ (0, 0) _ rfl (blk4_set (HK.out w2 D2.out).2) Tryz.underlying41 rfl (by kernel_rfl)) rfl ?_
        have hbl : Below w.heap.size w w2 := HBW.out.trans (D2.out.mono HBW.out.size)
        refine ⟨_, [], rfl, ?_, by simp, by simp, blk4_below hbl (by omega)⟩
        rw [HSH.out]
        exact own_mk (Or.inl ⟨rfl, rfl, rfl⟩) HBD.out.1 HBD.out.2.1 HBD.out.2.2
end Go.Proofs.YtmhmlkdoaojimapGreatDoor

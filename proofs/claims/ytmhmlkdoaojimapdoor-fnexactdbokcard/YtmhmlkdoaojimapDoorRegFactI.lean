/- A region that draws its order: one thing that stands, told by which operations have come up and what they left, is shown to stand behind each of them; then the rest of the region in its own order. -/
import Derived.Test.YtmhmlkdoaojimapDoorRegFactZ
namespace Go.Proofs.YtmhmlkdoaojimapDoor
open Go.RowKit
namespace FI

def upd {α : Type} (f : Nat → α) (i : Nat) (v : α) : Nat → α := fun k => if k = i then v else f k
def valsOf (ops : Array Oper) (n : Nat) (a : Act) : Nat → Value := fun k => if k < n then FZ.valAt ops a k else undef
section
variable {P : Program} {ops : Array Oper} {Q : Exit → Act → World → Prop} {n : Nat}
theorem putN_vals_le {a0 a : Act} : ∀ k, k ≤ n → FZ.putN ops a0 (valsOf ops n a) k = FZ.putN ops a0 (FZ.valAt ops a) k
  | 0, _ => rfl
  | k + 1, h => by
    show (FZ.putN ops a0 (valsOf ops n a) k).put _ _ = (FZ.putN ops a0 (FZ.valAt ops a) k).put _ _
    rw [putN_vals_le k (by omega)]
    congr 1
    exact if_pos (by omega)
theorem putN_vals {a0 a : Act} : FZ.putN ops a0 (valsOf ops n a) n = FZ.putN ops a0 (FZ.valAt ops a) n := putN_vals_le n (Nat.le_refl _)
/-- what stands when the operations that are listed have come up -/
structure GInv (ops : Array Oper) (n : Nat) (I : (Nat → Bool) → (Nat → Value) → World → Prop) (a0 : Act) (listed : Array Bool) (a : Act) (w : World) : Prop where
  head : HeadInv .any ops n listed
  frame : FZ.FrameAt ops n a0 a
  inv : I (fun k => listed.getD k false) (valsOf ops n a) w

theorem inv_any {I : (Nat → Bool) → (Nat → Value) → World → Prop} {a0 : Act} (hf : FZ.FactsOk ops n) (hsz : ∀ i d, i < n → FZ.dst? ops i = some d → d < a0.tmps.size)
    (hop : ∀ i o, i < n → ops[i]? = some o → ∀ (L : Nat → Bool) a w, I L (valsOf ops n a) w → FZ.Closed ops L → L i = false → FZ.FrameAt ops n a0 a → (∀ e ∈ o.after, Region.binds .any e = true → L e.on = true) → o.wp P a w (fun a' w' => ∃ v, a' = a.put o.dst v ∧ (o.dst = none → v = undef) ∧ I (upd L i true) (upd (valsOf ops n a) i v) w') Q)
    (l : List Oper) (hl : ops = l.toArray)
    (hend : ∀ (L : Nat → Bool) (vals : Nat → Value) w, (∀ i, i < n → L i = true) → I L vals w → wpList P ops Q (l.drop n) (FZ.putN ops a0 vals n) w) :
    ∀ (f : Nat) (listed : Array Bool) (a : Act) (w : World), GInv ops n I a0 listed a w → listed.count true + f = n → wpAny P .any ops Q (f + (ops.size - n)) listed a w
  | 0, listed, a, w, h, hc => by
    have hlen : (l.drop n).length = ops.size - n := by rw [hl]; simp
    have hall : ∀ i, i < n → listed.getD i false = true := by
      intro i hi
      cases hq : listed.getD i false with
      | true => rfl
      | false =>
        exfalso
        have hlt : i < listed.size := by rw [h.head.size]; have := hf.lt; omega
        have h1 := count_set (getD_in hlt hq)
        have h2 : (listed.setIfInBounds i true).count true ≤ n := by
          have h3 : ∀ t, n ≤ t → t < ops.size → (listed.setIfInBounds i true).getD t true = false := fun t ht ht' => by rw [getD_set_ne true (by omega)]; exact h.head.tail t ht ht'
          have hsz2 : (listed.setIfInBounds i true).size = ops.size := by simp [h.head.size]
          generalize listed.setIfInBounds i true = L at *
          have e : L.toList = L.toList.take n ++ L.toList.drop n := (List.take_append_drop n _).symm
          rw [← Array.count_toList, e, List.count_append]
          have z : (L.toList.drop n).count true = 0 := by
            rw [List.count_eq_zero]
            intro hm
            obtain ⟨q, hq1, hq2⟩ := List.getElem_of_mem hm
            rw [List.length_drop, Array.length_toList] at hq1
            rw [List.getElem_drop] at hq2
            have := h3 (n + q) (by omega) (by omega)
            have hlt2 : n + q < L.size := by omega
            simp [hlt2] at this
            simp at hq2
            rw [hq2] at this
            cases this
          have z2 := List.count_le_length (a := true) (l := L.toList.take n)
          rw [List.length_take] at z2
          omega
        omega
    have hlst : listed = firstN ops.size n := by
      apply Array.ext
      · rw [h.head.size]; simp [firstN]
      · intro i h1 h2
        simp only [firstN, Array.getElem_ofFn]
        by_cases hi : i < n
        · have := hall i hi
          simpa [h1, hi] using this
        · have := h.head.tail i (by omega) (by rw [← h.head.size]; exact h1)
          simpa [h1, hi] using this
    have hw : wpList P ops Q (l.drop n) a w := by
      rw [FZ.frame_putN hf hsz h.frame, ← putN_vals]
      exact hend _ _ w (fun i hi => hall i hi) h.inv
    have := wpAny_of_seq (md := .any) (Q' := Q) (l.drop n) n listed a w (fun j => by rw [hl]; simp [List.getElem?_drop]) (by rw [hlen, hlst]; exact hf.seq) hw
    rw [hlen] at this
    rw [Nat.zero_add]
    exact this
  | f + 1, listed, a, w, h, hc => by
    rw [show f + 1 + (ops.size - n) = (f + (ops.size - n)) + 1 by omega]
    -- the first that has not come up
    obtain ⟨i, hin, hiu⟩ : ∃ i, i < n ∧ listed.getD i true = false := by
      refine Classical.byContradiction fun hno => ?_
      have hall : ∀ i, i < n → listed.getD i false = true := fun i hi => by
        cases hq : listed.getD i false with
        | true => rfl
        | false => exact absurd ⟨i, hi, getD_in (by rw [h.head.size]; have := hf.lt; omega) hq⟩ hno
      have : n ≤ listed.count true := by
        have e : listed.toList = listed.toList.take n ++ listed.toList.drop n := (List.take_append_drop n _).symm
        rw [← Array.count_toList, e, List.count_append]
        have z : (listed.toList.take n).count true = (listed.toList.take n).length := by
          rw [List.count_eq_length]
          intro b hb
          obtain ⟨q, hq1, hq2⟩ := List.getElem_of_mem hb
          rw [List.length_take, Array.length_toList] at hq1
          rw [List.getElem_take] at hq2
          have := hall q (by omega)
          have hlt2 : q < listed.size := by omega
          simp [hlt2] at this
          simp at hq2
          rw [← hq2, this]
        rw [z, List.length_take, Array.length_toList, h.head.size]
        have := hf.lt
        omega
      omega
    have hleast : ∃ i, i < n ∧ listed.getD i true = false ∧ ∀ j, j < i → listed.getD j false = true := by
      induction i using Nat.strongRecOn with
      | ind i ih =>
        by_cases hj : ∃ j, j < i ∧ listed.getD j false = false
        · obtain ⟨j, hj1, hj2⟩ := hj
          exact ih j hj1 (by omega) (getD_in (by rw [h.head.size]; have := hf.lt; omega) hj2)
        · refine ⟨i, hin, hiu, fun j hji => ?_⟩
          cases hq : listed.getD j false with
          | true => rfl
          | false => exact absurd ⟨j, hji, hq⟩ hj
    obtain ⟨i0, h01, h02, h03⟩ := hleast
    obtain ⟨o0, ho0, _, _, haf0, _⟩ := hf.ops i0 h01
    have hr0 : i0 ∈ Region.ready .any ops listed := mem_ready.2 ⟨h02, o0, ho0, fun e he hb => h03 e.on (haf0 e he hb)⟩
    refine ⟨fun hn => (by rw [hn] at hr0; cases hr0), fun j hj => ?_⟩
    have hjn : j < n := by
      rcases Nat.lt_or_ge n ops.size with hlt | hge
      · exact Nat.lt_of_not_le fun hh => tail_waits (hf.sink hlt) hf.chain hlt h.head _ i0 rfl h01 h02 j hh hj
      · obtain ⟨_, oj0, hoj0, _⟩ := mem_ready.1 hj
        have := (Array.getElem?_eq_some_iff.1 hoj0).1
        omega
    obtain ⟨hju, oj', hoj', hjall⟩ := mem_ready.1 hj
    obtain ⟨oj, hoj, hg, hdd, haf, hne0⟩ := hf.ops j hjn
    obtain rfl : oj' = oj := Option.some.inj (hoj'.symm.trans hoj)
    have hjf : listed.getD j false = false := by
      cases hq : listed.getD j false with
      | false => rfl
      | true =>
        exfalso
        have hlt : j < listed.size := by rw [h.head.size]; have := hf.lt; omega
        simp [hlt] at hq hju
        rw [hju] at hq; cases hq
    have hstep := hop j oj' hjn hoj (fun k => listed.getD k false) a w h.inv (FZ.closed_of h.head) hjf h.frame (fun e he hb => hjall e he hb)
    unfold wpOp
    rw [hoj]
    simp only [Region.wanted, hg, if_true]
    refine Or.inl (Oper.wp_mono ?_ hstep)
    rintro a' w' ⟨v, rfl, hvn, hφ⟩
    have hdlt : ∀ d, oj'.dst = some d → d < a.tmps.size := fun d hd => by rw [h.frame.size]; exact hsz j d hjn (by rw [hdd]; exact hd)
    have hvj : FZ.valAt ops (a.put oj'.dst v) j = v := by
      unfold FZ.valAt
      rw [hdd]
      cases hd : oj'.dst with
      | none => exact (hvn hd).symm
      | some d => show (a.put (some d) v).tmps.getD d undef = v; rw [FZ.put_get2 (by rw [← hd]; exact hdlt), if_pos rfl]
    have hvk : ∀ k, k < n → j ≠ k → FZ.valAt ops (a.put oj'.dst v) k = FZ.valAt ops a k := fun k hk hjk => by
      unfold FZ.valAt
      cases hdk : FZ.dst? ops k with
      | none => rfl
      | some d =>
        show (a.put oj'.dst v).tmps.getD d undef = a.tmps.getD d undef
        rw [FZ.put_get2 hdlt, if_neg]
        intro e
        rcases Nat.lt_or_gt_of_ne hjk with hlt | hgt
        · obtain ⟨ok, _, _, hdk2, _, hne⟩ := hf.ops k hk
          exact hne j hlt d (by rw [← hdk2]; exact hdk) (by rw [hdd]; exact e)
        · exact hne0 k hgt d e hdk
    have e1 : (fun k => (listed.setIfInBounds j true).getD k false) = upd (fun k => listed.getD k false) j true := by
      funext k
      unfold upd
      by_cases hjk : k = j
      · subst hjk
        have hlt : k < listed.size := by rw [h.head.size]; have := hf.lt; omega
        simp [hlt]
      · rw [if_neg hjk]; exact getD_set_ne false (Ne.symm hjk)
    have e2 : valsOf ops n (a.put oj'.dst v) = upd (valsOf ops n a) j v := by
      funext k
      unfold upd valsOf
      by_cases hk : k < n
      · rw [if_pos hk, if_pos hk]
        by_cases hjk : k = j
        · subst hjk; rw [if_pos rfl]; exact hvj
        · rw [if_neg hjk]; exact hvk k hk (Ne.symm hjk)
      · rw [if_neg hk, if_neg hk, if_neg (by omega)]
    refine inv_any hf hsz hop l hl hend f _ _ _ ⟨h.head.set hj hjn, ⟨by rw [FZ.put_size2]; exact h.frame.size, by rw [FZ.put_defers2]; exact h.frame.defers, fun s hs => ?_⟩, by rw [e1, e2]; exact hφ⟩ (by rw [count_set hju]; omega)
    rw [FZ.put_get2 hdlt, if_neg (fun e => hs j hjn (by rw [hdd]; exact e))]
    exact h.frame.same s hs
end
theorem wp_region_inv {P : Program} {Q : Exit → Act → World → Prop} {id : Nat} {a0 : Act} {w : World} {l : List Oper} (n : Nat) (I : (Nat → Bool) → (Nat → Value) → World → Prop) (hm : P.follows .mixedOrders = true) (hB : FZ.factsB l.toArray n = true)
    (N : Nat) (hN : a0.tmps.size = N) (hD : ((List.range n).all fun i => match FZ.dst? l.toArray i with | some d => decide (d < N) | none => true) = true)
    (start : ∀ vals, I (fun _ => false) vals w.drew)
    (hop : ∀ i o, i < n → l[i]? = some o → ∀ (L : Nat → Bool) a w', I L (valsOf l.toArray n a) w' → FZ.Closed l.toArray L → L i = false → (∀ s, (∀ i, i < n → FZ.dst? l.toArray i ≠ some s) → a.tmps.getD s undef = a0.tmps.getD s undef) → (∀ j, waitsOn o j = true → L j = true) → o.wp P a w' (fun a' w'' => ∃ v, a' = a.put o.dst v ∧ (o.dst = none → v = undef) ∧ I (upd L i true) (upd (valsOf l.toArray n a) i v) w'') Q)
    (hend : ∀ (L : Nat → Bool) (vals : Nat → Value) w', (∀ i, i < n → L i = true) → I L vals w' → wpList P l.toArray Q (l.drop n) (FZ.putN l.toArray a0 vals n) w') : (Code.region id l.toArray true).wp P Q a0 w := by
  have hf := FZ.factsOk_of hB
  have hsz : ∀ i d, i < n → FZ.dst? l.toArray i = some d → d < a0.tmps.size := fun i d hi hd => by
    have := List.all_eq_true.1 hD i (by simpa using hi)
    rw [hd] at this
    rw [hN]; simpa using this
  refine wp_region_any hm ?_
  have inv0 : HeadInv .any l.toArray n (Array.replicate l.toArray.size false) :=
    ⟨by simp, fun j oj _ hl => (by rw [getD_replicate_false] at hl; cases hl), fun t _ ht => getD_in (by simpa using ht) (getD_replicate_false _ _)⟩
  have e0 : (fun k => (Array.replicate l.toArray.size false).getD k false) = fun _ => false := by funext k; exact getD_replicate_false _ _
  have := inv_any (P := P) (Q := Q) (I := I) hf hsz (fun i o hi ho L a w' hp hcl hli hfr hdep => hop i o hi (by simpa using ho) L a w' hp hcl hli hfr.same (fun j hj => by
    unfold waitsOn at hj
    obtain ⟨q, hq, he⟩ := Array.any_eq_true.1 hj
    simp only [Bool.and_eq_true, beq_iff_eq] at he
    rw [← he.2]
    exact hdep _ (Array.getElem_mem hq) he.1)) l rfl hend n (Array.replicate l.toArray.size false) a0 w.drew ⟨inv0, ⟨rfl, rfl, fun _ _ => rfl⟩, by rw [e0]; exact start _⟩ (by simp [Array.count_replicate])
  rw [show n + (l.toArray.size - n) = l.toArray.size by have := hf.lt; omega] at this
  exact this
theorem fact_value {P : Program} {o : Oper} {a : Act} {w w' : World} {φ : Value → World → Prop} {Q : Exit → Act → World → Prop} {v : Value} {d : Nat} (hd : o.dst = some d) (h : (execOp a.eval o).run P w = .ok (.value v) w') (hk : φ v w') :
    o.wp P a w (fun a' w'' => ∃ v, a' = a.put o.dst v ∧ (o.dst = none → v = undef) ∧ φ v w'') Q := by
  unfold Oper.wp
  rw [h]
  exact ⟨v, rfl, fun h => (by rw [hd] at h; cases h), hk⟩
theorem fact_call {P : Program} {o : Oper} {a : Act} {w : World} {φ : Value → World → Prop} {Q : Exit → Act → World → Prop} {f : FuncId} {fn : Func} {xs : Array Operand} {ats : Array TypeId} {args : Array Value} {d : Nat} (hd : o.dst = some d) (hop : o.op = .call { callee := .value (.func f), args := xs, argTypes := ats }) (hf : P.funcs[f]? = some fn) (hname : (fn.name == "runtime.NumGoroutine") = false) (hb : fn.body.isSome = true)
    (hargs : xs.map a.eval = args) (hc : Calls P f args w fun e w' => ∃ v, e = .returned v ∧ φ v w') : o.wp P a w (fun a' w' => ∃ v, a' = a.put o.dst v ∧ (o.dst = none → v = undef) ∧ φ v w') Q := by
  obtain ⟨c, hb⟩ := Option.isSome_iff_exists.1 hb
  have h1 : fn.name ≠ "runtime.NumGoroutine" := by simpa using hname
  have ef : a.eval (.func f) = .func (.func f) #[] #[] := rfl
  have he : (execOp a.eval o).run P w = .ok (.enter f args) w := by
    unfold execOp
    simp [hop, resolve, Deferred.ofValue, invoke, ef, hargs, callFunc, hf, h1, hb]
  unfold Oper.wp
  rw [he]
  simp only [Oper.upon]
  refine hc.mono ?_
  rintro e w' ⟨v, rfl, h2⟩
  exact ⟨v, rfl, fun h => (by rw [hd] at h; cases h), h2⟩
end FI
end Go.Proofs.YtmhmlkdoaojimapDoor

import Derived.Test.YtbkjcccbjnehbanGreatDoorRows
import Derived.Test.YtbkjcccbjnehbanGreatDoorTmOwn
import Derived.Laws.MakeOwn
import Derived.ProofKit
import Derived.Test.YtbkjcccbjnehbanGreatDoorMg3
import Derived.Test.YtbkjcccbjnehbanGreatDoorMg5
import Derived.Test.YtbkjcccbjnehbanGreatDoorMg6
import Derived.Test.YtbkjcccbjnehbanGreatDoorInAny
import Derived.ArgAppend
import Derived.Laws.OwnMore
import Derived.Test.YtbkjcccbjnehbanGreatDoorSgG
import Derived.Test.YtbkjcccbjnehbanGreatDoorSgQ0
import Derived.Test.YtbkjcccbjnehbanGreatDoorMg2
namespace Go.Proofs.YtbkjcccbjnehbanGreatDoor
open Go.RowKit
theorem alloc_at (w : World) (o : Obj) {i : Nat} (h : i = w.heap.size) : (w.alloc o).heap[i]? = some o := by
 subst h; exact heap_alloc_new w o
theorem alloc_old (w : World) (o : Obj) {i : Nat} (h : i < w.heap.size) : (w.alloc o).heap[i]? = w.heap[i]? :=
 ((Below.refl w.heap.size w).alloc (Nat.le_refl _) o).block i h
end Go.Proofs.YtbkjcccbjnehbanGreatDoor

namespace Go.Proofs.YtbkjcccbjnehbanGreatDoor
open Go.RowKit
namespace FS
structure But (b : Nat) (w w' : World) : Prop where
 os : w'.os = w.os
 tape : w'.tape = w.tape
 output : w'.output = w.output
 size : w.heap.size ≤ w'.heap.size
 block : ∀ k, k < w.heap.size → k ≠ b → w'.heap[k]? = w.heap[k]?
 form : ∀ (T : TypeId) (n : Nat), (∃ cs : Array Value, w.heap[b]? = some (.cells cs T (0, 0)) ∧ cs.size = n) → ∃ cs : Array Value, w'.heap[b]? = some (.cells cs T (0, 0)) ∧ cs.size = n
theorem But.refl (b : Nat) (w : World) : But b w w := ⟨rfl, rfl, rfl, Nat.le_refl _, fun _ _ _ => rfl, fun _ _ h => h⟩
theorem But.of_below {b : Nat} {w w' : World} (h : Below w.heap.size w w') : But b w w' := ⟨h.os, h.tape, h.output, h.size, fun k hk _ => h.block k hk, fun _ _ ⟨cs, h1, h2⟩ => ⟨cs, (h.block b (Array.getElem?_eq_some_iff.1 h1).1).trans h1, h2⟩⟩
theorem But.trans {b : Nat} {x y z : World} (h : But b x y) (k : But b y z) : But b x z :=
 ⟨k.os.trans h.os, k.tape.trans h.tape, k.output.trans h.output, Nat.le_trans h.size k.size, fun i hi hb => (k.block i (Nat.lt_of_lt_of_le hi h.size) hb).trans (h.block i hi hb), fun T n h2 => k.form T n (h.form T n h2)⟩
theorem four_of {cs : Array Value} (h : cs.size = 4) : ∃ a b c d, cs = #[a, b, c, d] := by
 obtain ⟨l⟩ := cs
 match l, h with
 | [a, b, c, d], _ => exact ⟨a, b, c, d, rfl⟩
def Leaves (st b i : Nat) (w w' : World) : Prop := (i ≠ st → Below w.heap.size w w') ∧ But b w w'
theorem leaves_below {st b i : Nat} {w w' : World} (h : Below w.heap.size w w') : Leaves st b i w w' := ⟨fun _ => h, But.of_below h⟩
def dst? (ops : Array Oper) (i : Nat) : Option Nat := (ops[i]?).bind (·.dst)
def valAt (ops : Array Oper) (a : Act) (i : Nat) : Value := match dst? ops i with | some d => a.tmps.getD d undef | none => undef
def factsB (ops : Array Oper) (n st : Nat) : Bool :=
 decide (n ≤ ops.size) && (decide (n = ops.size) || Region.sinkB .any ops n) && Region.chainB .any ops n && Region.seqB .any ops (ops.size - n) n (firstN ops.size n) &&
 (List.range n).all (fun i => match ops[i]? with | some o => o.guard.isNone && (o.dst.isSome || decide (i = st)) && o.after.all (fun e => !Region.binds .any e || decide (e.on < i)) && ((List.range i).all fun j => o.dst.isNone || dst? ops j != o.dst) | none => false)
structure FrameAt (ops : Array Oper) (n : Nat) (a0 a : Act) : Prop where
 size : a.tmps.size = a0.tmps.size
 defers : a.defers = a0.defers
 same : ∀ s, (∀ i, i < n → dst? ops i ≠ some s) → a.tmps.getD s undef = a0.tmps.getD s undef
def putN (ops : Array Oper) (a0 : Act) (vals : Nat → Value) : Nat → Act
 | 0 => a0
 | k + 1 => (putN ops a0 vals k).put ((ops[k]?).bind (·.dst)) (vals k)
section
variable {P : Program} {ops : Array Oper} {Q : Exit → Act → World → Prop} {n st b : Nat}
theorem put_get2 {a : Act} {o : Option Nat} {s : Nat} {v : Value} (hd : ∀ d, o = some d → d < a.tmps.size) : (a.put o v).tmps.getD s undef = if o = some s then v else a.tmps.getD s undef := by
 cases o with
 | none => simp [Act.put]
 | some d =>
   rw [put_getD (hd d rfl)]
   by_cases h : d = s
   · subst h; simp
   · rw [if_neg h, if_neg (fun e => h (Option.some.inj e))]
theorem put_size2 {a : Act} {o : Option Nat} {v : Value} : (a.put o v).tmps.size = a.tmps.size := by cases o <;> simp [Act.put]
theorem put_defers2 {a : Act} {o : Option Nat} {v : Value} : (a.put o v).defers = a.defers := by cases o <;> rfl
structure FactsOk (ops : Array Oper) (n st : Nat) : Prop where
 lt : n ≤ ops.size
 sink : n < ops.size → Region.sinkB .any ops n = true
 chain : Region.chainB .any ops n = true
 seq : Region.seqB .any ops (ops.size - n) n (firstN ops.size n) = true
 ops : ∀ i, i < n → ∃ o, ops[i]? = some o ∧ o.guard = none ∧ dst? ops i = o.dst ∧ (o.dst = none → i = st) ∧ (∀ e ∈ o.after, Region.binds .any e = true → e.on < i) ∧ ∀ j, j < i → ∀ d, o.dst = some d → dst? ops j ≠ some d
theorem factsOk_of (h : factsB ops n st = true) : FactsOk ops n st := by
 unfold factsB at h
 simp only [Bool.and_eq_true, decide_eq_true_eq] at h
 obtain ⟨⟨⟨⟨h1, h2⟩, h3⟩, h4⟩, h5⟩ := h
 refine ⟨h1, fun hlt => (by rw [decide_eq_false (by omega), Bool.false_or] at h2; exact h2), h3, h4, fun i hi => ?_⟩
 have h6 := List.all_eq_true.1 h5 i (by simpa using hi)
 cases ho : ops[i]? with
 | none => rw [ho] at h6; cases h6
 | some o =>
   rw [ho] at h6
   simp only [Bool.and_eq_true] at h6
   obtain ⟨⟨⟨h7, h8⟩, h9⟩, h10⟩ := h6
   refine ⟨o, rfl, by simpa using h7, by unfold dst?; rw [ho]; rfl, fun hn => ?_, fun e he hb => ?_, fun j hj d hd => ?_⟩
   · rw [hn] at h8; simpa using h8
   · obtain ⟨q, hq, rfl⟩ := Array.mem_iff_getElem.1 he
     have := Array.all_eq_true.1 h9 q hq
     rw [hb] at this
     simpa using this
   · have := List.all_eq_true.1 h10 j (by simpa using hj)
     rw [hd] at this
     simpa using this
theorem putN_at (hf : FactsOk ops n st) {a0 : Act} (hsz : ∀ i d, i < n → dst? ops i = some d → d < a0.tmps.size) (vals : Nat → Value) : ∀ k, k ≤ n →
   (putN ops a0 vals k).tmps.size = a0.tmps.size ∧ (putN ops a0 vals k).defers = a0.defers ∧ (∀ i d, i < k → dst? ops i = some d → (putN ops a0 vals k).tmps.getD d undef = vals i) ∧ ∀ s, (∀ i, i < k → dst? ops i ≠ some s) → (putN ops a0 vals k).tmps.getD s undef = a0.tmps.getD s undef
 | 0, _ => ⟨rfl, rfl, fun i _ hi => absurd hi (Nat.not_lt_zero _), fun _ _ => rfl⟩
 | k + 1, hk => by
   obtain ⟨h1, h2, h3, h4⟩ := putN_at hf hsz vals k (by omega)
   obtain ⟨o, ho, _, hdd, _, _, hne⟩ := hf.ops k (by omega)
   have e : putN ops a0 vals (k + 1) = (putN ops a0 vals k).put o.dst (vals k) := by
     show (putN ops a0 vals k).put ((ops[k]?).bind (·.dst)) (vals k) = _
     rw [ho]; rfl
   have hb : ∀ d, o.dst = some d → d < (putN ops a0 vals k).tmps.size := fun d hd => by rw [h1]; exact hsz k d (by omega) (by rw [hdd]; exact hd)
   rw [e]
   refine ⟨by rw [put_size2]; exact h1, by rw [put_defers2]; exact h2, fun i d hi hd => ?_, fun s hs => ?_⟩
   · rw [put_get2 hb]
     by_cases hik : i = k
     · subst hik; rw [if_pos (by rw [← hdd]; exact hd)]
     · rw [if_neg (fun e => hne i (by omega) d e hd)]
       exact h3 i d (by omega) hd
   · rw [put_get2 hb, if_neg (fun e => hs k (by omega) (by rw [hdd]; exact e))]
     exact h4 s fun i hi => hs i (by omega)
theorem frame_putN (hf : FactsOk ops n st) {a0 a : Act} (hsz : ∀ i d, i < n → dst? ops i = some d → d < a0.tmps.size) (h : FrameAt ops n a0 a) : a = putN ops a0 (valAt ops a) n := by
 obtain ⟨h1, h2, h3, h4⟩ := putN_at hf hsz (valAt ops a) n (Nat.le_refl _)
 have hv : ∀ i d, dst? ops i = some d → valAt ops a i = a.tmps.getD d undef := fun i d hd => by unfold valAt; rw [hd]
 generalize putN ops a0 (valAt ops a) n = b at *
 have hg : ∀ s, a.tmps.getD s undef = b.tmps.getD s undef := fun s => by
   by_cases hs : ∃ i, i < n ∧ dst? ops i = some s
   · obtain ⟨i, hi, hd⟩ := hs
     rw [h3 i s hi hd, hv i s hd]
   · have hs' : ∀ i, i < n → dst? ops i ≠ some s := fun i hi e => hs ⟨i, hi, e⟩
     rw [h.same s hs', h4 s hs']
 obtain ⟨at', ad⟩ := a
 obtain ⟨bt, bd⟩ := b
 have e2 : ad = bd := h.defers.trans h2.symm
 have e1 : at' = bt := by
   apply Array.ext
   · exact h.size.trans h1.symm
   · intro i hi1 hi2
     have := hg i
     simpa [Array.getD, hi1, hi2] using this
 subst e1 e2
 rfl
structure FInv (ops : Array Oper) (n b : Nat) (φ : Nat → Value → List Nat → World → Prop) (a0 : Act) (w0 : World) (S : Nat → List Nat) (listed : Array Bool) (a : Act) (w : World) : Prop where
 head : HeadInv .any ops n listed
 later : But b w0 w
 frame : FrameAt ops n a0 a
 facts : ∀ i, i < n → listed.getD i false = true → φ i (valAt ops a i) (S i) w ∧ ∀ f ∈ S i, w0.heap.size ≤ f ∧ f < w.heap.size
 apart : ∀ i j, i < n → j < n → listed.getD i false = true → listed.getD j false = true → i ≠ j → ∀ f ∈ S i, f ∉ S j
theorem facts_any {φ : Nat → Value → List Nat → World → Prop} {a0 : Act} {w0 : World} (hf : FactsOk ops n st) (hsz : ∀ i d, i < n → dst? ops i = some d → d < a0.tmps.size)
   (stab : ∀ i j v S w w', i < n → j ≠ i → φ i v S w → Leaves st b j w w' → φ i v S w')
   (hop : ∀ i o, i < n → ops[i]? = some o → ∀ a w, But b w0 w → FrameAt ops n a0 a → (∀ e ∈ o.after, Region.binds .any e = true → ∃ S, φ e.on (valAt ops a e.on) S w) → o.wp P a w (fun a' w' => ∃ v, a' = a.put o.dst v ∧ (o.dst = none → v = undef) ∧ Leaves st b i w w' ∧ ∃ S, φ i v S w' ∧ ∀ f ∈ S, w.heap.size ≤ f ∧ f < w'.heap.size) Q)
   (l : List Oper) (hl : ops = l.toArray)
   (hend : ∀ (vals : Nat → Value) (S : Nat → List Nat) w, But b w0 w → (∀ i, i < n → φ i (vals i) (S i) w ∧ ∀ f ∈ S i, w0.heap.size ≤ f ∧ f < w.heap.size) → (∀ i j, i < n → j < n → i ≠ j → ∀ f ∈ S i, f ∉ S j) → wpList P ops Q (l.drop n) (putN ops a0 vals n) w) :
   ∀ (f : Nat) (S : Nat → List Nat) (listed : Array Bool) (a : Act) (w : World), FInv ops n b φ a0 w0 S listed a w → listed.count true + f = n → wpAny P .any ops Q (f + (ops.size - n)) listed a w
 | 0, S, listed, a, w, h, hc => by
   have hlen : (l.drop n).length = ops.size - n := by rw [hl]; simp
   have hall : ∀ i, i < n → listed.getD i false = true := by
     intro i hi
     cases hq : listed.getD i false with
     | true => rfl
     | false =>
       exfalso
       have hlt : i < listed.size := by rw [h.head.size]; have := hf.lt; omega
       have h1 := count_set (getD_in hlt hq)
       have h2 : (listed.setIfInBounds i true).count true ≤ n := by
         have h3 : ∀ t, n ≤ t → t < ops.size → (listed.setIfInBounds i true).getD t true = false := fun t ht ht' => by rw [getD_set_ne true (by omega)]; exact h.head.tail t ht ht'
         have hsz2 : (listed.setIfInBounds i true).size = ops.size := by simp [h.head.size]
         generalize listed.setIfInBounds i true = L at *
         have e : L.toList = L.toList.take n ++ L.toList.drop n := (List.take_append_drop n _).symm
         rw [← Array.count_toList, e, List.count_append]
         have z : (L.toList.drop n).count true = 0 := by
           rw [List.count_eq_zero]
           intro hm
           obtain ⟨q, hq1, hq2⟩ := List.getElem_of_mem hm
           rw [List.length_drop, Array.length_toList] at hq1
           rw [List.getElem_drop] at hq2
           have := h3 (n + q) (by omega) (by omega)
           have hlt2 : n + q < L.size := by omega
           simp [hlt2] at this
           simp at hq2
           rw [hq2] at this
           cases this
         have z2 := List.count_le_length (a := true) (l := L.toList.take n)
         rw [List.length_take] at z2
         omega
       omega
   have hlst : listed = firstN ops.size n := by
     apply Array.ext
     · rw [h.head.size]; simp [firstN]
     · intro i h1 h2
       simp only [firstN, Array.getElem_ofFn]
       by_cases hi : i < n
       · have := hall i hi
         simpa [h1, hi] using this
       · have := h.head.tail i (by omega) (by rw [← h.head.size]; exact h1)
         simpa [h1, hi] using this
   have hw : wpList P ops Q (l.drop n) a w := by
     rw [frame_putN hf hsz h.frame]
     exact hend _ S w h.later (fun i hi => h.facts i hi (hall i hi)) fun i j hi hj hne => h.apart i j hi hj (hall i hi) (hall j hj) hne
   have := wpAny_of_seq (md := .any) (Q' := Q) (l.drop n) n listed a w (fun j => by rw [hl]; simp [List.getElem?_drop]) (by rw [hlen, hlst]; exact hf.seq) hw
   rw [hlen] at this
   rw [Nat.zero_add]
   exact this
 | f + 1, S, listed, a, w, h, hc => by
   rw [show f + 1 + (ops.size - n) = (f + (ops.size - n)) + 1 by omega]
   obtain ⟨i, hin, hiu⟩ : ∃ i, i < n ∧ listed.getD i true = false := by
     refine Classical.byContradiction fun hno => ?_
     have hall : ∀ i, i < n → listed.getD i false = true := fun i hi => by
       cases hq : listed.getD i false with
       | true => rfl
       | false => exact absurd ⟨i, hi, getD_in (by rw [h.head.size]; have := hf.lt; omega) hq⟩ hno
     have : n ≤ listed.count true := by
       have e : listed.toList = listed.toList.take n ++ listed.toList.drop n := (List.take_append_drop n _).symm
       rw [← Array.count_toList, e, List.count_append]
       have z : (listed.toList.take n).count true = (listed.toList.take n).length := by
         rw [List.count_eq_length]
         intro b hb
         obtain ⟨q, hq1, hq2⟩ := List.getElem_of_mem hb
         rw [List.length_take, Array.length_toList] at hq1
         rw [List.getElem_take] at hq2
         have := hall q (by omega)
         have hlt2 : q < listed.size := by omega
         simp [hlt2] at this
         simp at hq2
         rw [← hq2, this]
       rw [z, List.length_take, Array.length_toList, h.head.size]
       have := hf.lt
       omega
     omega
   have hleast : ∃ i, i < n ∧ listed.getD i true = false ∧ ∀ j, j < i → listed.getD j false = true := by
     induction i using Nat.strongRecOn with
     | ind i ih =>
       by_cases hj : ∃ j, j < i ∧ listed.getD j false = false
       · obtain ⟨j, hj1, hj2⟩ := hj
         exact ih j hj1 (by omega) (getD_in (by rw [h.head.size]; have := hf.lt; omega) hj2)
       · refine ⟨i, hin, hiu, fun j hji => ?_⟩
         cases hq : listed.getD j false with
         | true => rfl
         | false => exact absurd ⟨j, hji, hq⟩ hj
   obtain ⟨i0, h01, h02, h03⟩ := hleast
   obtain ⟨o0, ho0, _, _, _, haf0, _⟩ := hf.ops i0 h01
   have hr0 : i0 ∈ Region.ready .any ops listed := mem_ready.2 ⟨h02, o0, ho0, fun e he hb => h03 e.on (haf0 e he hb)⟩
   refine ⟨fun hn => (by rw [hn] at hr0; cases hr0), fun j hj => ?_⟩
   have hjn : j < n := by
     rcases Nat.lt_or_ge n ops.size with hlt | hge
     · exact Nat.lt_of_not_le fun hh => tail_waits (hf.sink hlt) hf.chain hlt h.head _ i0 rfl h01 h02 j hh hj
     · obtain ⟨_, oj0, hoj0, _⟩ := mem_ready.1 hj
       have := (Array.getElem?_eq_some_iff.1 hoj0).1
       omega
   obtain ⟨hju, oj', hoj', hjall⟩ := mem_ready.1 hj
   obtain ⟨oj, hoj, hg, hdd, hnn, haf, hne0⟩ := hf.ops j hjn
   obtain rfl : oj' = oj := Option.some.inj (hoj'.symm.trans hoj)
   have hstep := hop j oj' hjn hoj a w h.later h.frame (fun e he hb => ⟨_, (h.facts e.on (Nat.lt_trans (haf e he hb) hjn) (hjall e he hb)).1⟩)
   unfold wpOp
   rw [hoj]
   simp only [Region.wanted, hg, if_true]
   refine Or.inl (Oper.wp_mono ?_ hstep)
   rintro a' w' ⟨v, rfl, hvn, hb, Sj, hφ, hSj⟩
   have hdlt : ∀ d, oj'.dst = some d → d < a.tmps.size := fun d hd => by rw [h.frame.size]; exact hsz j d hjn (by rw [hdd]; exact hd)
   have hls : ∀ k, j ≠ k → (listed.setIfInBounds j true).getD k false = true → listed.getD k false = true := fun k hk hl => by rwa [getD_set_ne false hk] at hl
   have hvj : valAt ops (a.put oj'.dst v) j = v := by
     unfold valAt
     rw [hdd]
     cases hd : oj'.dst with
     | none => exact (hvn hd).symm
     | some d => show (a.put (some d) v).tmps.getD d undef = v; rw [put_get2 (by rw [← hd]; exact hdlt), if_pos rfl]
   have hvk : ∀ k, k < n → j ≠ k → valAt ops (a.put oj'.dst v) k = valAt ops a k := fun k hk hjk => by
     unfold valAt
     cases hdk : dst? ops k with
     | none => rfl
     | some d =>
       show (a.put oj'.dst v).tmps.getD d undef = a.tmps.getD d undef
       rw [put_get2 hdlt, if_neg]
       intro e
       rcases Nat.lt_or_gt_of_ne hjk with hlt | hgt
       · obtain ⟨ok, _, _, hdk2, _, _, hne⟩ := hf.ops k hk
         exact hne j hlt d (by rw [← hdk2]; exact hdk) (by rw [hdd]; exact e)
       · exact hne0 k hgt d e hdk
   refine facts_any hf hsz stab hop l hl hend f (fun k => if k = j then Sj else S k) _ _ _ ⟨h.head.set hj hjn, h.later.trans hb.2, ⟨by rw [put_size2]; exact h.frame.size, by rw [put_defers2]; exact h.frame.defers, fun s hs => ?_⟩, fun k hk hkl => ?_, fun k1 k2 h1 h2 hl1 hl2 hne f' hf1 hf2 => ?_⟩ (by rw [count_set hju]; omega)
   · rw [put_get2 hdlt, if_neg (fun e => hs j hjn (by rw [hdd]; exact e))]
     exact h.frame.same s hs
   · by_cases hjk : j = k
     · subst hjk
       rw [hvj, if_pos rfl]
       exact ⟨hφ, fun f' hf' => ⟨Nat.le_trans h.later.size (hSj f' hf').1, (hSj f' hf').2⟩⟩
     · rw [hvk k hk hjk, if_neg (Ne.symm hjk)]
       obtain ⟨q1, q2⟩ := h.facts k hk (hls k hjk hkl)
       exact ⟨stab k j _ _ _ _ hk hjk q1 hb, fun f' hf' => ⟨(q2 f' hf').1, Nat.lt_of_lt_of_le (q2 f' hf').2 hb.2.size⟩⟩
   · by_cases e1 : k1 = j
     · rw [if_pos e1] at hf1
       rw [if_neg (fun e2 => hne (e1.trans e2.symm))] at hf2
       have := ((h.facts k2 h2 (hls k2 (fun e => hne (e1.trans e)) hl2)).2 f' hf2).2
       have := (hSj f' hf1).1
       omega
     · rw [if_neg e1] at hf1
       have hk1 := hls k1 (Ne.symm e1) hl1
       by_cases e2 : k2 = j
       · rw [if_pos e2] at hf2
         have := ((h.facts k1 h1 hk1).2 f' hf1).2
         have := (hSj f' hf2).1
         omega
       · rw [if_neg e2] at hf2
         exact h.apart k1 k2 h1 h2 hk1 (hls k2 (Ne.symm e2) hl2) hne f' hf1 hf2
end
theorem wp_region_factsS {P : Program} {Q : Exit → Act → World → Prop} {id : Nat} {a0 : Act} {w : World} {l : List Oper} (n st b : Nat) (φ : Nat → Value → List Nat → World → Prop) (hm : P.follows .mixedOrders = true) (hB : factsB l.toArray n st = true)
   (N : Nat) (hN : a0.tmps.size = N) (hD : ((List.range n).all fun i => match dst? l.toArray i with | some d => decide (d < N) | none => true) = true)
   (stab : ∀ i j v S w w', i < n → j ≠ i → φ i v S w → Leaves st b j w w' → φ i v S w')
   (hop : ∀ i o, i < n → l[i]? = some o → ∀ a w', But b w w' → (∀ s, (∀ i, i < n → dst? l.toArray i ≠ some s) → a.tmps.getD s undef = a0.tmps.getD s undef) → (∀ j, waitsOn o j = true → ∃ S, φ j (valAt l.toArray a j) S w') → o.wp P a w' (fun a' w'' => ∃ v, a' = a.put o.dst v ∧ (o.dst = none → v = undef) ∧ Leaves st b i w' w'' ∧ ∃ S, φ i v S w'' ∧ ∀ f ∈ S, w'.heap.size ≤ f ∧ f < w''.heap.size) Q)
   (hend : ∀ (vals : Nat → Value) (S : Nat → List Nat) w', But b w w' → (∀ i, i < n → φ i (vals i) (S i) w' ∧ ∀ f ∈ S i, w.heap.size ≤ f ∧ f < w'.heap.size) → (∀ i j, i < n → j < n → i ≠ j → ∀ f ∈ S i, f ∉ S j) → wpList P l.toArray Q (l.drop n) (putN l.toArray a0 vals n) w') : (Code.region id l.toArray true).wp P Q a0 w := by
 have hf := factsOk_of hB
 have hsz : ∀ i d, i < n → dst? l.toArray i = some d → d < a0.tmps.size := fun i d hi hd => by
   have := List.all_eq_true.1 hD i (by simpa using hi)
   rw [hd] at this
   rw [hN]; simpa using this
 have hd : But b w w.drew := But.of_below (Below.refl w.heap.size w).drew
 refine wp_region_any hm ?_
 have inv0 : HeadInv .any l.toArray n (Array.replicate l.toArray.size false) :=
   ⟨by simp, fun j oj _ hl => (by rw [getD_replicate_false] at hl; cases hl), fun t _ ht => getD_in (by simpa using ht) (getD_replicate_false _ _)⟩
 have := facts_any (P := P) (Q := Q) (φ := φ) (w0 := w) (st := st) (b := b) hf hsz stab (fun i o hi ho a w' hb hfr hdep => hop i o hi (by simpa using ho) a w' hb hfr.same fun j hj => by
   unfold waitsOn at hj
   obtain ⟨q, hq, he⟩ := Array.any_eq_true.1 hj
   simp only [Bool.and_eq_true, beq_iff_eq] at he
   rw [← he.2]
   exact hdep _ (Array.getElem_mem hq) he.1) l rfl hend n (fun _ => []) (Array.replicate l.toArray.size false) a0 w.drew ⟨inv0, hd, ⟨rfl, rfl, fun _ _ => rfl⟩, fun i _ hl => (by rw [getD_replicate_false] at hl; cases hl), fun i j _ _ hl => (by rw [getD_replicate_false] at hl; cases hl)⟩ (by simp [Array.count_replicate])
 rw [show n + (l.toArray.size - n) = l.toArray.size by have := hf.lt; omega] at this
 exact this
theorem fact_valueS {P : Program} {o : Oper} {a : Act} {w w' : World} {φ : Value → World → Prop} {Q : Exit → Act → World → Prop} {v : Value} {st b i d : Nat} (hd : o.dst = some d) (h : (execOp a.eval o).run P w = .ok (.value v) w') (hb : Below w.heap.size w w') (hk : φ v w') :
   o.wp P a w (fun a' w'' => ∃ v, a' = a.put o.dst v ∧ (o.dst = none → v = undef) ∧ Leaves st b i w w'' ∧ φ v w'') Q := by
 unfold Oper.wp
 rw [h]
 exact ⟨v, rfl, fun h => (by rw [hd] at h; cases h), leaves_below hb, hk⟩
theorem fact_storeS {P : Program} {o : Oper} {a : Act} {w w' : World} {φ : Value → World → Prop} {Q : Exit → Act → World → Prop} {st b : Nat} (hd : o.dst = none) (h : (execOp a.eval o).run P w = .ok .skip w') (hb : But b w w') (hk : φ undef w') :
   o.wp P a w (fun a' w'' => ∃ v, a' = a.put o.dst v ∧ (o.dst = none → v = undef) ∧ Leaves st b st w w'' ∧ φ v w'') Q := by
 unfold Oper.wp
 rw [h]
 exact ⟨undef, by rw [hd], fun _ => rfl, ⟨fun hh => absurd rfl hh, hb⟩, hk⟩
end FS
end Go.Proofs.YtbkjcccbjnehbanGreatDoor

namespace Go.Proofs.YtbkjcccbjnehbanGreatDoor
open Go.RowKit
theorem results_c3 {P : Program} {fn : Func} {p u x y : Tmp} {ty : TypeId} (h : fn.results = #[.cell p ty, .tmp u, .tmp x, .tmp y]) (tmps : Array Value) (w : World) (g : Nat) (t : TypeId) (cs : Array Value) (fr : Nat × Nat) (d : TypeDesc)
   (hp : tmps.getD p undef = .pointer (some ⟨g, 0, none⟩)) (hg : w.heap[g]? = some (.cells cs t fr))
   (hu : P.underlying ty = some d) (hd : (match d with | .struct _ | .array _ _ => true | _ => false) = true) (hi : (P.info? ty).map (·.size) = some cs.size) :
   (results fn tmps).run P w = .ok (.tuple #[.agg cs, tmps.getD u undef, tmps.getD x undef, tmps.getD y undef]) w := by
 have hp' : tmps[p]?.getD undef = .pointer (some ⟨g, 0, none⟩) := by simpa using hp
 simp [results, h, hp', asAddr, run_loadVar_row w g t ty cs fr d hg hu hd hi]
structure RsRes where
 ok : Bool
 t : Tm
 names : List ByteArray
 nx : Nat
def rsR (L : List Sg) (a : Nat) : RsRes :=
 match (if a < L.length then readS (L.drop a) else none) with
 | some (t, names, r) => ⟨true, t, names, L.length - r.length⟩
 | none => ⟨false, noTm, [], a + behindC (L.drop a)⟩
theorem rsR_none {L : List Sg} {a : Nat} (h : a < L.length → readS (L.drop a) = none) : rsR L a = ⟨false, noTm, [], a + behindC (L.drop a)⟩ := by
 unfold rsR
 by_cases hl : a < L.length
 · rw [if_pos hl, h hl]
 · rw [if_neg hl]
def RsOut (L : List Sg) (a : Nat) (w : World) (e : Ending) (w' : World) : Prop :=
 ∃ tv nv F, e = .returned (.tuple #[tv, nv, .int .i64 ((rsR L a).nx : Int), .bool (rsR L a).ok]) ∧ TOk 24 (fun _ => False) w.heap.size w' (rsR L a).t tv F ∧ NRow w' w.heap.size (rsR L a).names nv ∧ Below w.heap.size w w'
abbrev zeroT : Value := .agg #[.int .i64 0, .string ⟨#[]⟩, .int .i64 0, .slice none 0 0]
theorem tok_zero (w w' : World) : TOk 24 (fun _ => False) w.heap.size w' noTm zeroT [] := TOk.leaf (by decide) (by decide) (by decide)
theorem nrow_new {w w' : World} (h : w.heap.size ≤ w'.heap.size) : NRow (w'.alloc (.cells #[] 9)) w.heap.size [] (.slice (some ⟨w'.heap.size, 0, none⟩) 0 0) :=
 ⟨rfl, Or.inr ⟨w'.heap.size, 0, #[], rfl, h, heap_alloc_new w' _, Nat.le_refl _, Nat.zero_le _, rfl, rfl⟩⟩
theorem nrow_keep {w w' : World} {B : Nat} {ns : List ByteArray} {v : Value} (h : NRow w B ns v) (hb : Below w.heap.size w w') : NRow w' B ns v :=
 h.turn fun b hb2 => hb.block b (h.lt b hb2).2
theorem nrow_base {w : World} {B B' : Nat} {ns : List ByteArray} {v : Value} (h : NRow w B ns v) (hB : B' ≤ B) : NRow w B' ns v := by
 refine ⟨h.1, ?_⟩
 rcases h.2 with hn | ⟨b, cap, cur, e, h1, h2⟩
 · exact Or.inl hn
 · exact Or.inr ⟨b, cap, cur, e, Nat.le_trans hB h1, h2⟩
theorem isO_end {R : Option (Tm × St)} (h : isO (R.map fun y => (0, y.2)) 5 ⟨#[]⟩ = true) : ∃ t x r names, R = some (t, ⟨x :: r, names⟩) ∧ x.kind = 5 := by
 rcases R with _ | ⟨t, ⟨_ | ⟨x, r⟩, names⟩⟩
 · cases h
 · cases h
 · refine ⟨t, x, r, names, rfl, ?_⟩
   simp [isO] at h
   exact h
theorem isO_not {L : List Sg} (h : isO ((termO true 130 1200 ⟨L, []⟩).map fun y => (0, y.2)) 5 ⟨#[]⟩ = false) : readS L = none := by
 unfold readS
 generalize termO true 130 1200 ⟨L, []⟩ = R at *
 rcases R with _ | ⟨t, ⟨_ | ⟨x, r⟩, names⟩⟩
 · rfl
 · rfl
 · have hx : ¬ x.kind = 5 := by
     intro e
     have e2 : ByteArray.toList ⟨#[]⟩ = [] := by rw [ByteArray.toList_eq]
     simp [isO, e, e2] at h
   show (if x.kind = 5 ∧ t.ok = true then _ else none) = _
   rw [if_neg (fun e => hx e.1)]
theorem fin_false {w w3 : World} {c0 c1 c2 c3 : Value} (hb : Below w.heap.size w w3) (hk : w3.heap[w.heap.size]? = some (.cells #[c0, c1, c2, c3] 24 (0, 0))) :
   (((((w3.setCell ⟨w.heap.size, 0, none⟩ (.int .i64 0)).setCell ⟨w.heap.size, 1, none⟩ (.string ⟨#[]⟩)).setCell ⟨w.heap.size, 2, none⟩ (.int .i64 0)).setCell ⟨w.heap.size, 3, none⟩ (.slice none 0 0)).alloc (.cells #[] 9)).heap[w.heap.size]? = some (.cells #[.int .i64 0, .string ⟨#[]⟩, .int .i64 0, .slice none 0 0] 24 (0, 0)) ∧
   NRow (((((w3.setCell ⟨w.heap.size, 0, none⟩ (.int .i64 0)).setCell ⟨w.heap.size, 1, none⟩ (.string ⟨#[]⟩)).setCell ⟨w.heap.size, 2, none⟩ (.int .i64 0)).setCell ⟨w.heap.size, 3, none⟩ (.slice none 0 0)).alloc (.cells #[] 9)) w.heap.size [] (.slice (some ⟨w3.heap.size, 0, none⟩) 0 0) ∧
   Below w.heap.size w (((((w3.setCell ⟨w.heap.size, 0, none⟩ (.int .i64 0)).setCell ⟨w.heap.size, 1, none⟩ (.string ⟨#[]⟩)).setCell ⟨w.heap.size, 2, none⟩ (.int .i64 0)).setCell ⟨w.heap.size, 3, none⟩ (.slice none 0 0)).alloc (.cells #[] 9)) := by
 obtain ⟨X, hX⟩ : ∃ X, X = (((w3.setCell ⟨w.heap.size, 0, none⟩ (.int .i64 0)).setCell ⟨w.heap.size, 1, none⟩ (.string ⟨#[]⟩)).setCell ⟨w.heap.size, 2, none⟩ (.int .i64 0)).setCell ⟨w.heap.size, 3, none⟩ (.slice none 0 0) := ⟨_, rfl⟩
 have bX : Below w.heap.size w X := by rw [hX]; exact blk4_below hb (Nat.le_refl _)
 have kX : X.heap[w.heap.size]? = some (.cells #[.int .i64 0, .string ⟨#[]⟩, .int .i64 0, .slice none 0 0] 24 (0, 0)) := by rw [hX]; exact blk4_set hk
 have sX : w3.heap.size = X.heap.size := by rw [hX]; simp [World.setCell]
 rw [← hX, sX]
 exact ⟨(alloc_old _ _ (Array.getElem?_eq_some_iff.1 kX).1).trans kX, nrow_new bX.size, bX.alloc bX.size _⟩
set_option maxHeartbeats 8000000 in
set_option maxRecDepth 20000 in
theorem s_readSigns (L : List Sg) (lv : Value) (a : Nat) (w : World) (ha : a ≤ L.length) (hL : L.length ≤ 3000) (hO : LOk L) (h : SgRow w 0 L lv) :
   Calls Tryz.prog 19 #[lv, .int .i64 (a : Int)] w (RsOut L a w) := by
 obtain ⟨ao, cap, rfl, hcap, hlc⟩ := h.shape
 obtain ⟨NL, hNL⟩ : ∃ NL, NL = L.length := ⟨_, rfl⟩
 have HNL : Hid (L.length = NL) := hNL.symm
 obtain ⟨W, hW⟩ : ∃ W, W = w.alloc (.cells #[.int .i64 0, .string ⟨#[]⟩, .int .i64 0, .slice none 0 0] 24) := ⟨_, rfl⟩
 have bW : Below w.heap.size w W := by rw [hW]; exact (Below.refl _ _).alloc (Nat.le_refl _) _
 have HKW : Hid (W.heap[w.heap.size]? = some (.cells #[.int .i64 0, .string ⟨#[]⟩, .int .i64 0, .slice none 0 0] 24 (0, 0))) := by rw [hW]; exact heap_alloc_new _ _
 have HSW : Hid (W.heap.size = w.heap.size + 1) := by show _ = _; rw [hW]; simp
 have HRW : Hid (SgRow W 0 L (.slice ao L.length cap)) := h.keep bW
 have HBW : Hid (Below w.heap.size w W) := bW
 have HBH : Hid _ := s_behind L _ a W ha hL HRW.out
 have HW : Hid (W = w.alloc (.cells #[.int .i64 0, .string ⟨#[]⟩, .int .i64 0, .slice none 0 0] 24)) := hW
 have HII : Hid _ := in_any (a : Int) 0 ((L.length : Int) - 1) W
 obtain ⟨Z, hZ⟩ : ∃ Z, Z = a + behindC (L.drop a) := ⟨_, rfl⟩
 have HZ : Hid (a + behindC (L.drop a) = Z) := hZ.symm
 rw [← hZ] at HBH
 have haz : (a : Int) ≤ 3000 := by omega
 have hnl3 : (NL : Int) ≤ 3000 := by omega
 have HA : Hid (a ≤ L.length ∧ L.length ≤ 3000) := ⟨ha, hL⟩
 have HO : Hid (LOk L) := hO
 have HLT : Hid (decide ((a : Int) < NL) = decide (a < L.length)) := by show decide _ = decide _; rw [hNL]; congr 1; exact propext (by omega)
 rw [← hNL] at HBH HII HRW ⊢
 clear bW h hZ hlc ha hL hO hNL
 unfold maxLen at hcap
 by_cases hlt : a < L.length
 · have e1 : decide (0 ≤ (a : Int) ∧ (a : Int) ≤ (NL : Int) - 1) = true := decide_eq_true (by have := HNL.out; omega)
   rw [e1] at HII
   have HT : Hid (TermC 130 W.heap.size L (.slice ao NL cap)) := by show TermC _ _ _ _; rw [← HNL.out]; exact s_term _ L _ HA.out.2 HO.out 130
   obtain ⟨V1, hV1⟩ : ∃ V1, V1 = W.alloc (.cells #[.slice ao NL cap, .int .i64 (a : Int), .bool false, .int .i64 0, .slice none 0 0] 52) := ⟨_, rfl⟩
   have bV1 : Below W.heap.size W V1 := by rw [hV1]; exact (Below.refl _ _).alloc (Nat.le_refl _) _
   have HS1 : Hid (SRd W.heap.size L (.slice ao NL cap) (.slice none 0 0) V1 (some (0, ⟨L.drop a, []⟩))) := by
     refine ⟨(a : Int), false, 0, [], by rw [hV1]; exact heap_alloc_new _ _, ⟨HRW.out.keep bV1, fun b hb => ?_⟩, ⟨rfl, Or.inl ⟨rfl, rfl⟩⟩, rfl, rfl, rfl, a, rfl, HA.out.1, rfl, by simp⟩
     rcases HRW.out.2 with ⟨e, _⟩ | ⟨g, cap', cur, e, _, hh, _⟩
     · rw [e] at hb; cases hb
     · rw [e] at hb; simp only [Value.ownBlock, Option.some.injEq] at hb; subst hb; exact (Array.getElem?_eq_some_iff.1 hh).1
   have HV1 : Hid (V1 = W.alloc (.cells #[.slice ao NL cap, .int .i64 (a : Int), .bool false, .int .i64 0, .slice none 0 0] 52)) := hV1
   have HSV : Hid (V1.heap.size = W.heap.size + 1) := by show _ = _; rw [hV1]; simp
   have HBV : Hid (Below W.heap.size W V1) := bV1
   have HTC : Hid _ := HT.out 0 1200 ⟨L.drop a, []⟩ (.slice none 0 0) V1 rfl HS1.out
   have HRS : Hid (readS (L.drop a) = match termO true 130 1200 ⟨L.drop a, []⟩ with | some (t, ⟨x :: r, names⟩) => if x.kind = 5 ∧ t.ok = true then some (t, names, r) else none | _ => none) := rfl
   have HNO : Hid (isO ((termO true 130 1200 ⟨L.drop a, []⟩).map fun y => (0, y.2)) 5 ⟨#[]⟩ = false → readS (L.drop a) = none) := isO_not
   obtain ⟨R, hR⟩ : ∃ R, R = termO true 130 1200 ⟨L.drop a, []⟩ := ⟨_, rfl⟩
   rw [← hR] at HTC HRS HNO
   have HLTA : Hid (a < L.length) := hlt
   clear hR hV1 bV1 HT hlt e1 HLT
   go_enter Tryz.func19, Tryz.ntmps19
   go_upto_region 1 with (fail)
   rw [← HW.out]
   clear hW
   go_upto_region 5 with (first
     | (go_at_call 25; refine (Calls.mono HBH.out ?_); rintro e w1 ⟨rfl, hw⟩; rw [hw]; clear hw)
     | (go_at_call 26; refine (Calls.mono HII.out ?_); rintro e w1 ⟨rfl, hw⟩; rw [hw]; clear hw))
   rw [← HV1.out]
   go_upto_region 6 with (go_at_call 27; go_loud ((refine (Calls.mono HTC.out ?_); rintro e w2 ⟨v, rfl, t, F, nv2, ht, hrt, hs2, hx2⟩; obtain ⟨tk, ts, tn, ta, tl, tc, rfl⟩ := ht.form; have HT2 : Hid (TOk 24 (XS W.heap.size nv2) V1.heap.size w2 t (.agg #[.int .i64 tk, .string ts, .int .i64 tn, .slice ta tl tc]) F) := ht; have HRT : Hid (∀ y, R = some y → t = y.1) := hrt; have HS2 : Hid (SRd W.heap.size L (.slice ao NL cap) nv2 w2 (R.map fun y => (0, y.2))) := hs2; have HX2 : Hid (FX (XS W.heap.size (.slice none 0 0)) (XS W.heap.size nv2) V1 w2) := hx2; clear ht hrt hs2 hx2)))
   obtain ⟨V2, hV2⟩ : ∃ V2, V2 = w2.alloc (.cells #[.int .i64 tk, .string ts, .int .i64 tn, .slice ta tl tc] 24) := ⟨_, rfl⟩
   have bV2 : Below w2.heap.size w2 V2 := by rw [hV2]; exact (Below.refl _ _).alloc (Nat.le_refl _) _
   have HK2 : Hid (V2.heap[w2.heap.size]? = some (.cells #[.int .i64 tk, .string ts, .int .i64 tn, .slice ta tl tc] 24 (0, 0))) := by rw [hV2]; exact heap_alloc_new _ _
   have HSV2 : Hid (SRd W.heap.size L (.slice ao NL cap) nv2 V2 (R.map fun y => (0, y.2))) := HS2.out.keep bV2
   have HTV2 : Hid (TOk 24 (XS W.heap.size nv2) V1.heap.size V2 t (.agg #[.int .i64 tk, .string ts, .int .i64 tn, .slice ta tl tc]) F) := HT2.out.step (FX.of_below bV2)
   have HXV2 : Hid (FX (XS W.heap.size (.slice none 0 0)) (XS W.heap.size nv2) V1 V2) := HX2.out.trans (FX.of_below bV2)
   have HKB : Hid (V2.heap[w.heap.size]? = some (.cells #[.int .i64 0, .string ⟨#[]⟩, .int .i64 0, .slice none 0 0] 24 (0, 0))) := by
     have hw := HSW.out
     show _ = _
     rw [HXV2.out.block w.heap.size (by rw [HSV.out]; omega) (by rintro (e | e) <;> first | omega | cases e), HBV.out.block w.heap.size (by omega)]
     exact HKW.out
   have HBB : Hid (Below w.heap.size w V2) := by
     have h1 := HBW.out.trans (HBV.out.mono HBW.out.size)
     have hw := HSW.out
     refine ⟨HXV2.out.os.trans h1.os, HXV2.out.tape.trans h1.tape, HXV2.out.output.trans h1.output, Nat.le_trans h1.size HXV2.out.size, fun k hk => ?_⟩
     rw [HXV2.out.block k (Nat.lt_of_lt_of_le hk h1.size) (by rintro (e | e) <;> first | omega | cases e)]
     exact h1.block k hk
   rw [← hV2]
   have HLW2 : Hid (V1.heap.size ≤ w2.heap.size ∧ w2.heap.size < V2.heap.size) := ⟨HX2.out.size, by rw [hV2]; simp⟩
   clear hV2 bV2 HT2 HS2 HX2 HTC HS1 HBV HRW HBH HII HKW
   obtain ⟨bo, hbo⟩ : ∃ bo, bo = isO (R.map fun y => (0, y.2)) 5 ⟨#[]⟩ := ⟨_, rfl⟩
   have HIS : Hid _ := s_is W.heap.size L _ nv2 _ 5 ⟨#[]⟩ V2 HSV2.out
   rw [← hbo] at HIS HNO
   have HEND : Hid (bo = true → ∃ t x r names, R = some (t, ⟨x :: r, names⟩) ∧ x.kind = 5) := fun e => isO_end (hbo.symm.trans e)
   clear hbo
   cases bo with
   | false =>
     have HRN : Hid (rsR L a = ⟨false, noTm, [], Z⟩) := by show _ = _; rw [rsR_none (fun _ => HNO.out rfl), HZ.out]
     obtain ⟨q0, q1, q2, q3, z0, z1, z2, z3⟩ := blk4 HKB.out
     go_upto_region 7 with (go_at_call 28; refine (Calls.mono HIS.out ?_); rintro e w3 ⟨rfl, b3⟩; have B3 : Hid (Below V2.heap.size V2 w3) := b3; clear b3)
     have HK3 : Hid (w3.heap[w.heap.size]? = some (.cells #[.int .i64 0, .string ⟨#[]⟩, .int .i64 0, .slice none 0 0] 24 (0, 0))) := (B3.out.block _ (Array.getElem?_eq_some_iff.1 HKB.out).1).trans HKB.out
     have HB3 : Hid (Below w.heap.size w w3) := HBB.out.trans (B3.out.mono HBB.out.size)
     have hlt3 : w.heap.size < w3.heap.size := (Array.getElem?_eq_some_iff.1 HK3.out).1
     clear q0 q1 q2 q3 z0 z1 z2 z3
     obtain ⟨q0, q1, q2, q3, z0, z1, z2, z3⟩ := blk4 HK3.out
     go_wp2
     have hF := fin_false HB3.out HK3.out
     refine bodyPost_ret_by (results_c3 rfl _ _ w.heap.size 24 _ (0, 0) _ rfl hF.1 Tryz.underlying24 rfl (by kernel_rfl)) rfl ?_
     exact ⟨_, _, [], by rw [HRN.out]; rfl, by rw [HRN.out]; exact tok_zero _ _, by rw [HRN.out]; exact hF.2.1, hF.2.2⟩
   | true =>
     obtain ⟨t', x, r, names, hRe, hx5⟩ := HEND.out rfl
     subst hRe
     obtain rfl : t = t' := HRT.out _ rfl
     have HSA : Hid (SRd W.heap.size L (.slice ao NL cap) nv2 V2 (some (0, ⟨x :: r, names⟩))) := HSV2.out
     have HRS2 : Hid (readS (L.drop a) = if t.ok = true then some (t, names, r) else none) := by
       show _ = _
       rw [HRS.out]
       show (if x.kind = 5 ∧ t.ok = true then _ else _) = _
       by_cases hq : t.ok = true
       · rw [if_pos ⟨hx5, hq⟩, if_pos hq]
       · rw [if_neg (fun e => hq e.2), if_neg hq]
     have HOKC : Hid (∀ V, Below V2.heap.size V2 V → Calls Tryz.prog 29 #[.agg #[.int .i64 tk, .string ts, .int .i64 tn, .slice ta tl tc]] V fun e w' => e = .returned (.bool t.ok) ∧ Below V.heap.size V w') := fun V hb => specOk t V _ (TmIn.keep hb _ _ (Own.toIn _ _ _ HTV2.out.own))
     clear HRT HEND HNO HRS hx5 HSV2
     cases hok : t.ok with
     | false =>
       rw [hok] at HOKC HRS2
       have HRN : Hid (rsR L a = ⟨false, noTm, [], Z⟩) := by show _ = _; rw [rsR_none (fun _ => by rw [HRS2.out]; rfl), HZ.out]
       go_upto_region 7 with (first
         | (go_at_call 28; refine (Calls.mono HIS.out ?_); rintro e w3 ⟨rfl, b3⟩; have B3 : Hid (Below V2.heap.size V2 w3) := b3; obtain ⟨p0, p1, p2, p3, _⟩ := blk4 ((b3.block _ (Array.getElem?_eq_some_iff.1 HK2.out).1).trans HK2.out); clear b3)
         | (go_at_call 29; refine (Calls.mono (HOKC.out _ B3.out) ?_); rintro e w4 ⟨rfl, b4⟩; have B4 : Hid (Below V2.heap.size V2 w4) := B3.out.trans (b4.mono B3.out.size); clear b4))
       have HK3 : Hid (w4.heap[w.heap.size]? = some (.cells #[.int .i64 0, .string ⟨#[]⟩, .int .i64 0, .slice none 0 0] 24 (0, 0))) := (B4.out.block _ (Array.getElem?_eq_some_iff.1 HKB.out).1).trans HKB.out
       have HB3 : Hid (Below w.heap.size w w4) := HBB.out.trans (B4.out.mono HBB.out.size)
       have hlt3 : w.heap.size < w4.heap.size := (Array.getElem?_eq_some_iff.1 HK3.out).1
       clear p0 p1 p2 p3
       obtain ⟨q0, q1, q2, q3, z0, z1, z2, z3⟩ := blk4 HK3.out
       go_wp2
       have hF := fin_false HB3.out HK3.out
       refine bodyPost_ret_by (results_c3 rfl _ _ w.heap.size 24 _ (0, 0) _ rfl hF.1 Tryz.underlying24 rfl (by kernel_rfl)) rfl ?_
       exact ⟨_, _, [], by rw [HRN.out]; rfl, by rw [HRN.out]; exact tok_zero _ _, by rw [HRN.out]; exact hF.2.1, hF.2.2⟩
     | true =>
       rw [hok] at HOKC HRS2
       go_upto_region 8 with (first
         | (go_at_call 28; refine (Calls.mono HIS.out ?_); rintro e w3 ⟨rfl, b3⟩; have B3 : Hid (Below V2.heap.size V2 w3) := b3; obtain ⟨p0, p1, p2, p3, _⟩ := blk4 ((b3.block _ (Array.getElem?_eq_some_iff.1 HK2.out).1).trans HK2.out); clear b3)
         | (go_at_call 29; refine (Calls.mono (HOKC.out _ B3.out) ?_); rintro e w4 ⟨rfl, b4⟩; have B4 : Hid (Below V2.heap.size V2 w4) := B3.out.trans (b4.mono B3.out.size); clear b4))
       have HS4 : Hid (SRd W.heap.size L (.slice ao NL cap) nv2 w4 (some (0, ⟨x :: r, names⟩))) := HSA.out.keep B4.out
       obtain ⟨a', bad, dv, nms, hg4, _, hnr, hbad, hdv, hnm, p, hp, hpl, hdrop, hnp⟩ := HS4.out.ex
       subst hbad hdv hnm hp
       have hpr : (rsR L a) = ⟨true, t, nms, p + 1⟩ := by
         unfold rsR
         rw [if_pos HLTA.out, HRS2.out]
         have := congrArg List.length hdrop
         rw [List.length_drop, List.length_cons] at this
         show RsRes.mk _ _ _ _ = _
         congr 1
         omega
       have hnl3k : nms.length ≤ 3000 := by have := HA.out.2; omega
       have hp3 : (p : Int) ≤ 3000 := by have := HA.out.2; omega
       have HRR : Hid (rsR L a = ⟨true, t, nms, p + 1⟩) := hpr
       have HNR : Hid (NRow w4 (W.heap.size + 1) nms nv2) := hnr
       have HG4 : Hid (w4.heap[W.heap.size]? = some (.cells #[.slice ao NL cap, .int .i64 (p : Int), .bool false, .int .i64 ((0 : Nat) : Int), nv2] 52 (0, 0))) := hg4
       have HK4 : Hid (w4.heap[w2.heap.size]? = some (.cells #[.int .i64 tk, .string ts, .int .i64 tn, .slice ta tl tc] 24 (0, 0))) := (B4.out.block _ (Array.getElem?_eq_some_iff.1 HK2.out).1).trans HK2.out
       have HKB4 : Hid (w4.heap[w.heap.size]? = some (.cells #[.int .i64 0, .string ⟨#[]⟩, .int .i64 0, .slice none 0 0] 24 (0, 0))) := (B4.out.block _ (Array.getElem?_eq_some_iff.1 HKB.out).1).trans HKB.out
       have HSZ : Hid (w.heap.size < W.heap.size ∧ W.heap.size < w2.heap.size ∧ w.heap.size < w4.heap.size) := by
         have h1 := HSW.out; have h2 := HSV.out; have h3 := HLW2.out
         exact ⟨by omega, by omega, (Array.getElem?_eq_some_iff.1 HKB4.out).1⟩
       have HF : Hid (∀ u, FS.But w.heap.size w4 u → u.heap[w2.heap.size]? = some (.cells #[.int .i64 tk, .string ts, .int .i64 tn, .slice ta tl tc] 24 (0, 0)) ∧ u.heap[W.heap.size]? = some (.cells #[.slice ao NL cap, .int .i64 (p : Int), .bool false, .int .i64 ((0 : Nat) : Int), nv2] 52 (0, 0)) ∧ NRow u (W.heap.size + 1) nms nv2) := fun u hu => by
         have hz := HSZ.out
         refine ⟨(hu.block _ (Array.getElem?_eq_some_iff.1 HK4.out).1 (by omega)).trans HK4.out, (hu.block _ (Array.getElem?_eq_some_iff.1 HG4.out).1 (by omega)).trans HG4.out, HNR.out.turn fun b hb => hu.block b (HNR.out.lt b hb).2 (by have := (HNR.out.lt b hb).1; omega)⟩
       obtain ⟨aon, capn, rfl, hcapn, _⟩ := HNR.out.cells
       obtain ⟨i0, hi, hz0, hz1, hz2⟩ := info_partsS infoN
       have HLEN : Hid (nms.length ≤ 3000) := hnl3k
       obtain ⟨NN, hNN⟩ : ∃ NN, NN = nms.length := ⟨_, rfl⟩
       have HNN : Hid (nms.length = NN) := hNN.symm
       clear hg4 hnr hdrop hnp hpl hpr hnl3k HS4 p0 p1 p2 p3 HIS HOKC
       refine FS.wp_region_factsS 16 12 w.heap.size (fun i v _ u => match i with
         | 0 => v = .agg #[.int .i64 tk, .string ts, .int .i64 tn, .slice ta tl tc]
         | 1 => ∃ g1, v = .slice (some ⟨g1, 0, none⟩) 0 0 ∧ u.heap[g1]? = some (.cells #[] 9 (0, 0)) ∧ w4.heap.size ≤ g1
         | 2 => v = .pointer (some ⟨W.heap.size, 0, none⟩)
         | 3 => v = .pointer (some ⟨W.heap.size, 0, none⟩)
         | 4 => v = .pointer (some ⟨W.heap.size, 4, none⟩)
         | 5 => v = .slice aon nms.length capn
         | 6 => NRow u (w.heap.size + 1) nms v
         | 7 => v = .pointer (some ⟨W.heap.size, 0, none⟩)
         | 8 => v = .pointer (some ⟨W.heap.size, 0, none⟩)
         | 9 => v = .pointer (some ⟨W.heap.size, 1, none⟩)
         | 10 => v = .int .i64 (p : Int)
         | 11 => v = .int .i64 ((p : Int) + 1)
         | 12 => u.heap[w.heap.size]? = some (.cells #[.int .i64 tk, .string ts, .int .i64 tn, .slice ta tl tc] 24 (0, 0))
         | 13 => NRow u (w.heap.size + 1) nms v
         | 14 => v = .int .i64 ((p : Int) + 1)
         | _ => v = .bool true) (by kernel_rfl) (by kernel_rfl) 52 rfl (by kernel_rfl) ?_ ?_ ?_
       · intro i j v S u u' hi hne hφ hl
         match i, hi, hφ with
         | 0, _, h => exact h
         | 1, _, ⟨g1, h1, h2, h3⟩ => exact ⟨g1, h1, (hl.2.block g1 (Array.getElem?_eq_some_iff.1 h2).1 (by have := HSZ.out; omega)).trans h2, h3⟩
         | 2, _, h => exact h
         | 3, _, h => exact h
         | 4, _, h => exact h
         | 5, _, h => exact h
         | 6, _, h => exact h.turn fun b hb => hl.2.block b (h.lt b hb).2 (by have := (h.lt b hb).1; omega)
         | 7, _, h => exact h
         | 8, _, h => exact h
         | 9, _, h => exact h
         | 10, _, h => exact h
         | 11, _, h => exact h
         | 12, _, h => exact ((hl.1 hne).block _ (Array.getElem?_eq_some_iff.1 h).1).trans h
         | 13, _, h => exact h.turn fun b hb => hl.2.block b (h.lt b hb).2 (by have := (h.lt b hb).1; omega)
         | 14, _, h => exact h
         | 15, _, h => exact h
         | k + 16, hh, _ => omega
       · intro i o hi2 ho a1 u hu hfr hdep
         obtain ⟨k4, g4, n4⟩ := HF.out u hu
         obtain ⟨x0, x1, x2, x3, _⟩ := blk4 k4
         obtain ⟨y0, y1, y2, y3, y4, _⟩ := b5f g4
         have u4 : a1.tmps.getD 4 undef = .pointer (some ⟨w.heap.size, 0, none⟩) := hfr 4 (by decide)
         have u9 : a1.tmps.getD 9 undef = .pointer (some ⟨W.heap.size, 0, none⟩) := hfr 9 (by decide)
         have u10 : a1.tmps.getD 10 undef = .pointer (some ⟨w2.heap.size, 0, none⟩) := hfr 10 (by decide)
         match i, hi2 with
         | 0, _ =>
           obtain rfl : _ = o := by simpa using ho
           refine FS.fact_valueS (w' := u) (v := .agg #[.int .i64 tk, .string ts, .int .i64 tn, .slice ta tl tc]) rfl ?_ (Below.refl _ _) ⟨[], rfl, by simp⟩
           simp only [execOp, Act.eval, u10]
           go_simp
         | 1, _ =>
           obtain rfl : _ = o := by simpa using ho
           refine FS.fact_valueS (w' := u.alloc (.cells #[] 9)) (v := .slice (some ⟨u.heap.size, 0, none⟩) 0 0) rfl ?_ ((Below.refl _ _).alloc (Nat.le_refl _) _) ⟨[], ⟨u.heap.size, rfl, heap_alloc_new _ _, hu.size⟩, by simp⟩
           simp only [execOp, Act.eval]
           go_simp
         | 2, _ =>
           obtain rfl : _ = o := by simpa using ho
           refine FS.fact_valueS (w' := u) (v := .pointer (some ⟨W.heap.size, 0, none⟩)) rfl ?_ (Below.refl _ _) ⟨[], rfl, by simp⟩
           simp only [execOp, Act.eval, u9]
           go_simp
         | 3, _ =>
           obtain rfl : _ = o := by simpa using ho
           obtain ⟨_, h0⟩ : ∃ _ : List Nat, a1.tmps.getD 42 undef = .pointer (some ⟨W.heap.size, 0, none⟩) := hdep 2 (by kernel_rfl)
           refine FS.fact_valueS (w' := u) (v := .pointer (some ⟨W.heap.size, 0, none⟩)) rfl ?_ (Below.refl _ _) ⟨[], rfl, by simp⟩
           simp only [execOp, Act.eval, h0]
           go_simp
         | 4, _ =>
           obtain rfl : _ = o := by simpa using ho
           obtain ⟨_, h0⟩ : ∃ _ : List Nat, a1.tmps.getD 43 undef = .pointer (some ⟨W.heap.size, 0, none⟩) := hdep 3 (by kernel_rfl)
           refine FS.fact_valueS (w' := u) (v := .pointer (some ⟨W.heap.size, 4, none⟩)) rfl ?_ (Below.refl _ _) ⟨[], rfl, by simp⟩
           simp only [execOp, Act.eval, h0]
           go_simp
         | 5, _ =>
           obtain rfl : _ = o := by simpa using ho
           obtain ⟨_, h0⟩ : ∃ _ : List Nat, a1.tmps.getD 44 undef = .pointer (some ⟨W.heap.size, 4, none⟩) := hdep 4 (by kernel_rfl)
           refine FS.fact_valueS (w' := u) (v := .slice aon nms.length capn) rfl ?_ (Below.refl _ _) ⟨[], rfl, by simp⟩
           simp only [execOp, Act.eval, h0]
           go_simp
         | 6, _ =>
           obtain rfl : _ = o := by simpa using ho
           obtain ⟨_, g1, h1, hg1, hge⟩ : ∃ _ : List Nat, ∃ g1, a1.tmps.getD 41 undef = .slice (some ⟨g1, 0, none⟩) 0 0 ∧ u.heap[g1]? = some (.cells #[] 9 (0, 0)) ∧ w4.heap.size ≤ g1 := hdep 1 (by kernel_rfl)
           obtain ⟨_, h5⟩ : ∃ _ : List Nat, a1.tmps.getD 45 undef = .slice aon nms.length capn := hdep 5 (by kernel_rfl)
           have hrun : ∃ v' u', (Builtin.append_ #[25, 25] 25 #[.slice (some ⟨g1, 0, none⟩) 0 0, .slice aon nms.length capn]).run Tryz.prog u = .ok v' u' ∧ NRow u' (w.heap.size + 1) nms v' ∧ Below u.heap.size u u' := by
             have hz := HSZ.out
             by_cases h0 : nms = []
             · subst h0
               have hr0 : u.ownsRow (w.heap.size + 1) 9 1 (.slice (some ⟨g1, 0, none⟩) 0 0) 0 [] := ⟨rfl, Or.inr ⟨g1, 0, #[], rfl, by omega, hg1, Nat.le_refl _, Nat.zero_le _, rfl, rfl⟩⟩
               rcases n4.2 with ⟨e, _⟩ | ⟨nb, cap', cur, e, hb1, hb2, hb3, hb4, hb5, hb6⟩
               · refine ⟨_, u, by rw [e]; exact run_append_owned_none u _ _ _ 9 i0 1 Tryz.underlying25 hi _ _ _ hr0, hr0, Below.refl _ _⟩
               · rw [e]
                 have hq := run_append_room_cells (P := Tryz.prog) u 25 25 9 i0 Tryz.underlying25 hi g1 0 0 0 ⟨nb, 0, none⟩ 0 cap' [] (by simp) (by simp) (by simp) (Nat.le_refl _) (by simp) (by simp)
                 exact ⟨_, _, hq, hr0, Below.refl _ _⟩
             · have hpos : 0 < nms.length := List.length_pos_iff.2 h0
               obtain ⟨ao', cap', e, _, hc⟩ := n4.cells
               obtain ⟨nb, rfl, _⟩ := hc 0 hpos
               obtain ⟨rfl, _, rfl⟩ := Value.slice.inj e
               obtain ⟨v', u', hr, hown, hgr⟩ := run_append_arg_grows (P := Tryz.prog) u 25 25 9 i0 (.string ⟨#[]⟩) 1 16 Tryz.underlying25 hi hz0 hz1 hz2 rfl (by decide) ⟨g1, 0, none⟩ 0 0 [] rfl (by simp) ⟨nb, 0, none⟩ nms.length capn (nms.map Value.string) (by simp) (fun j z hj => by
                 have hj2 : j < nms.length := by
                   have := (List.getElem?_eq_some_iff.1 hj).1
                   simpa using this
                 obtain ⟨nb2, e2, h2⟩ := hc j hj2
                 cases e2
                 simp only [List.getElem?_map, List.getElem?_eq_getElem hj2, Option.map_some, Option.some.injEq] at hj
                 subst hj
                 have ea : (⟨nb, 0, none⟩ : Addr).add j = ⟨nb, j, none⟩ := by cases j <;> simp [Addr.add]
                 rw [ea]; exact h2) (by omega) (by have := HLEN.out; unfold maxLen; omega) (by have := HLEN.out; omega)
               refine ⟨v', u', hr, nrow_base (B := u.heap.size) ⟨by simp, by simpa using hown.2⟩ (by have := hu.size; omega), ⟨hgr.os, hgr.tape, hgr.output, hgr.size, fun k hk => hgr.block k hk (by simp)⟩⟩
           obtain ⟨v', u', hr, hnv, hbv⟩ := hrun
           refine FS.fact_valueS (w' := u') (v := v') rfl ?_ hbv ⟨[], hnv, by simp⟩
           simp only [execOp, resolve, invoke, builtin, Act.eval, h1, h5, List.map_toArray, List.map_cons, List.map_nil, hr, Sem.run_bind, Sem.run_pure, Result.andThen_ok]
         | 7, _ =>
           obtain rfl : _ = o := by simpa using ho
           refine FS.fact_valueS (w' := u) (v := .pointer (some ⟨W.heap.size, 0, none⟩)) rfl ?_ (Below.refl _ _) ⟨[], rfl, by simp⟩
           simp only [execOp, Act.eval, u9]
           go_simp
         | 8, _ =>
           obtain rfl : _ = o := by simpa using ho
           obtain ⟨_, h0⟩ : ∃ _ : List Nat, a1.tmps.getD 47 undef = .pointer (some ⟨W.heap.size, 0, none⟩) := hdep 7 (by kernel_rfl)
           refine FS.fact_valueS (w' := u) (v := .pointer (some ⟨W.heap.size, 0, none⟩)) rfl ?_ (Below.refl _ _) ⟨[], rfl, by simp⟩
           simp only [execOp, Act.eval, h0]
           go_simp
         | 9, _ =>
           obtain rfl : _ = o := by simpa using ho
           obtain ⟨_, h0⟩ : ∃ _ : List Nat, a1.tmps.getD 48 undef = .pointer (some ⟨W.heap.size, 0, none⟩) := hdep 8 (by kernel_rfl)
           refine FS.fact_valueS (w' := u) (v := .pointer (some ⟨W.heap.size, 1, none⟩)) rfl ?_ (Below.refl _ _) ⟨[], rfl, by simp⟩
           simp only [execOp, Act.eval, h0]
           go_simp
         | 10, _ =>
           obtain rfl : _ = o := by simpa using ho
           obtain ⟨_, h0⟩ : ∃ _ : List Nat, a1.tmps.getD 49 undef = .pointer (some ⟨W.heap.size, 1, none⟩) := hdep 9 (by kernel_rfl)
           refine FS.fact_valueS (w' := u) (v := .int .i64 (p : Int)) rfl ?_ (Below.refl _ _) ⟨[], rfl, by simp⟩
           simp only [execOp, Act.eval, h0]
           go_simp
         | 11, _ =>
           obtain rfl : _ = o := by simpa using ho
           obtain ⟨_, h0⟩ : ∃ _ : List Nat, a1.tmps.getD 50 undef = .int .i64 (p : Int) := hdep 10 (by kernel_rfl)
           refine FS.fact_valueS (w' := u) (v := .int .i64 ((p : Int) + 1)) rfl ?_ (Below.refl _ _) ⟨[], rfl, by simp⟩
           have hwr : IntKind.i64.wrap ((p : Int) + 1) = (p : Int) + 1 := by rw [IntKind.wrap_i64]; omega
           simp only [execOp, Act.eval, h0]
           go_simp
         | 12, _ =>
           obtain rfl : _ = o := by simpa using ho
           obtain ⟨_, h0⟩ : ∃ _ : List Nat, a1.tmps.getD 40 undef = .agg #[.int .i64 tk, .string ts, .int .i64 tn, .slice ta tl tc] := hdep 0 (by kernel_rfl)
           obtain ⟨cs, kb, hcs⟩ := hu.form _ _ ⟨_, HKB4.out, rfl⟩
           obtain ⟨e0, e1, e2, e3, rfl⟩ := FS.four_of hcs
           obtain ⟨m0, m1, m2, m3, f0, f1, f2, f3⟩ := blk4 kb
           refine FS.fact_storeS (w' := (((u.setCell ⟨w.heap.size, 0, none⟩ (.int .i64 tk)).setCell ⟨w.heap.size, 1, none⟩ (.string ts)).setCell ⟨w.heap.size, 2, none⟩ (.int .i64 tn)).setCell ⟨w.heap.size, 3, none⟩ (.slice ta tl tc)) rfl ?_ ?_ ⟨[], blk4_set kb, by simp⟩
           · simp only [execOp, Act.eval, h0, u4]
             go_simp
           · exact ⟨rfl, rfl, rfl, by simp [World.setCell], fun k _ hk => blk4_other hk, fun T n ⟨cs2, h1, h2⟩ => by rw [kb] at h1; cases h1; exact ⟨_, blk4_set kb, h2⟩⟩
         | 13, _ =>
           obtain rfl : _ = o := by simpa using ho
           obtain ⟨_, h0⟩ : ∃ _ : List Nat, NRow u (w.heap.size + 1) nms (a1.tmps.getD 46 undef) := hdep 6 (by kernel_rfl)
           generalize hv : a1.tmps.getD 46 undef = v46 at h0
           refine FS.fact_valueS (w' := u) (v := v46) rfl ?_ (Below.refl _ _) ⟨[], h0, by simp⟩
           simp only [execOp, Act.eval, hv]
           go_simp
         | 14, _ =>
           obtain rfl : _ = o := by simpa using ho
           obtain ⟨_, h0⟩ : ∃ _ : List Nat, a1.tmps.getD 51 undef = .int .i64 ((p : Int) + 1) := hdep 11 (by kernel_rfl)
           refine FS.fact_valueS (w' := u) (v := .int .i64 ((p : Int) + 1)) rfl ?_ (Below.refl _ _) ⟨[], rfl, by simp⟩
           simp only [execOp, Act.eval, h0]
           go_simp
         | 15, _ =>
           obtain rfl : _ = o := by simpa using ho
           refine FS.fact_valueS (w' := u) (v := .bool true) rfl ?_ (Below.refl _ _) ⟨[], rfl, by simp⟩
           simp only [execOp, Act.eval]
           go_simp
       · intro vals S w5 hb5 hf _
         have v13 : NRow w5 (w.heap.size + 1) nms (vals 13) := (hf 13 (by omega)).1
         have v14 : vals 14 = .int .i64 ((p : Int) + 1) := (hf 14 (by omega)).1
         have v15 : vals 15 = .bool true := (hf 15 (by omega)).1
         have v12 : w5.heap[w.heap.size]? = some (.cells #[.int .i64 tk, .string ts, .int .i64 tn, .slice ta tl tc] 24 (0, 0)) := (hf 12 (by omega)).1
         have HN5 : Hid (NRow w5 (w.heap.size + 1) nms (vals 13)) := v13
         have HK5 : Hid (w5.heap[w.heap.size]? = some (.cells #[.int .i64 tk, .string ts, .int .i64 tn, .slice ta tl tc] 24 (0, 0))) := v12
         have HB5 : Hid (FS.But w.heap.size w4 w5) := hb5
         simp only [FS.putN, List.getElem?_toArray, List.getElem?_cons_zero, List.getElem?_cons_succ, Option.bind_some, List.drop_succ_cons, List.drop_zero, v14, v15]
         generalize vals 13 = nvf at *
         clear v13 v14 v15 v12 hb5 hf
         generalize vals 0 = m0
         generalize vals 1 = m1
         generalize vals 2 = m2
         generalize vals 3 = m3
         generalize vals 4 = m4
         generalize vals 5 = m5
         generalize vals 6 = m6
         generalize vals 7 = m7
         generalize vals 8 = m8
         generalize vals 9 = m9
         generalize vals 10 = m10
         generalize vals 11 = m11
         generalize vals 12 = m12
         simp only [Act.put, List.setIfInBounds_toArray, List.set_cons_succ, List.set_cons_zero]
         go_wp2
         refine bodyPost_ret_by (results_c3 rfl _ _ w.heap.size 24 _ (0, 0) _ rfl HK5.out Tryz.underlying24 rfl (by kernel_rfl)) rfl ?_
         have hz := HSZ.out
         have hsv := HSV.out
         refine ⟨_, nvf, F, by rw [HRR.out]; rfl, ?_, by rw [HRR.out]; exact nrow_base HN5.out (by omega), ?_⟩
         · rw [HRR.out]
           refine ⟨Own.keep _ _ _ HTV2.out.own fun f hf => ?_, HTV2.out.nd, fun f hf => ⟨by have := (HTV2.out.out f hf).1; omega, fun h => h⟩⟩
           have h1 := HTV2.out.lt f hf
           have h2 := (HTV2.out.out f hf).1
           rw [HB5.out.block f (Nat.lt_of_lt_of_le h1 B4.out.size) (by omega), B4.out.block f h1]
         · have h1 := HBB.out.trans (B4.out.mono HBB.out.size)
           exact ⟨HB5.out.os.trans h1.os, HB5.out.tape.trans h1.tape, HB5.out.output.trans h1.output, Nat.le_trans h1.size HB5.out.size, fun k hk => (HB5.out.block k (Nat.lt_of_lt_of_le hk h1.size) (by omega)).trans (h1.block k hk)⟩
 · have e1 : decide (0 ≤ (a : Int) ∧ (a : Int) ≤ (NL : Int) - 1) = false := decide_eq_false (by have := HNL.out; omega)
   rw [e1] at HII
   have HRN : Hid (rsR L a = ⟨false, noTm, [], Z⟩) := by show _ = _; rw [rsR_none (fun hh => absurd hh hlt), HZ.out]
   have hltw : w.heap.size < W.heap.size := by have := HSW.out; omega
   clear hlt e1 HLT
   go_enter Tryz.func19, Tryz.ntmps19
   go_upto_region 1 with (fail)
   rw [← HW.out]
   clear hW
   go_upto_region 3 with (first
     | (go_at_call 25; refine (Calls.mono HBH.out ?_); rintro e w1 ⟨rfl, hw⟩; rw [hw]; clear hw)
     | (go_at_call 26; refine (Calls.mono HII.out ?_); rintro e w1 ⟨rfl, hw⟩; rw [hw]; clear hw))
   obtain ⟨q0, q1, q2, q3, z0, z1, z2, z3⟩ := blk4 HKW.out
   go_wp2
   have hF := fin_false HBW.out HKW.out
   refine bodyPost_ret_by (results_c3 rfl _ _ w.heap.size 24 _ (0, 0) _ rfl hF.1 Tryz.underlying24 rfl (by kernel_rfl)) rfl ?_
   exact ⟨_, _, [], by rw [HRN.out]; rfl, by rw [HRN.out]; exact tok_zero _ _, by rw [HRN.out]; exact hF.2.1, hF.2.2⟩
end Go.Proofs.YtbkjcccbjnehbanGreatDoor

namespace Go.Proofs.YtbkjcccbjnehbanGreatDoor
open Go.RowKit
theorem sgNum_rng : ∀ (l : List UInt8) (a v : Int) (k : Nat), sgNum l a = some (v, k) → 0 ≤ a → a ≤ 999999999 → 0 ≤ v ∧ v ≤ 999999999 := by
 intro l
 induction l with
 | nil => intro a v k h h0 h1; simp [sgNum] at h; omega
 | cons c l ih =>
   intro a v k h h0 h1
   unfold sgNum at h
   split at h
   · rename_i hc
     have hc2 : 48 ≤ c.toNat := by unfold isFig at hc; simp at hc; omega
     split at h
     · cases h
     · rename_i hb
       rw [Option.map_eq_some_iff] at h
       obtain ⟨⟨v', k'⟩, e1, e2⟩ := h
       simp at e2
       have := ih _ _ _ e1 (by omega) (by omega)
       omega
   · simp at h; omega
theorem rdl_ext_size (t : ByteArray) (a b : Nat) : (t.extract a b).size ≤ t.size := by
 have : (t.extract a b).size = (t.extract a b).data.toList.length := rfl
 rw [this, ext_data, List.length_take, List.length_drop]
 have e : t.data.toList.length = t.size := rfl
 omega
def MkOk (t : ByteArray) (i : Nat) (s : Sg × Nat) : Prop := ∃ k x n e, s = mkSg t k x n i e ∧ x.size ≤ t.size ∧ (0 ≤ n ∧ n ≤ 999999999)
theorem MkOk.bad (t : ByteArray) (i : Nat) : MkOk t i (badSg t i) := ⟨_, _, _, _, rfl, rdl_ext_size _ _ _, by omega⟩
theorem MkOk.one (t : ByteArray) (k : Int) (i : Nat) : MkOk t i (oneSg t k i) := ⟨_, _, _, _, rfl, rdl_ext_size _ _ _, by omega⟩
theorem MkOk.name (t : ByteArray) (k : Int) (p : UInt8 → Bool) (i : Nat) : MkOk t i (nameSg t k p i) := by
 unfold nameSg
 split
 · exact ⟨_, _, _, _, rfl, rdl_ext_size _ _ _, by omega⟩
 · exact MkOk.bad t i
theorem MkOk.sign (t : ByteArray) (i : Nat) : MkOk t i (signAt t i) := by
 unfold signAt
 split
 · exact MkOk.name _ _ _ _
 split
 · exact MkOk.name _ _ _ _
 split
 · unfold numSg
   split
   · rename_i v k hk
     have := sgNum_rng _ _ _ _ hk (by omega) (by omega)
     exact ⟨_, _, _, _, rfl, Nat.zero_le _, this⟩
   · exact MkOk.bad t i
 split
 · unfold quotSg
   split
   · exact ⟨_, _, _, _, rfl, rdl_ext_size _ _ _, by omega⟩
   · exact MkOk.bad t i
 split
 · exact MkOk.one _ _ _
 split
 · exact MkOk.one _ _ _
 split
 · exact MkOk.one _ _ _
 split
 · exact MkOk.name _ _ _ _
 · exact MkOk.bad t i
theorem lpar_step {t : ByteArray} {e : Nat} (he : e < t.size) (h40 : (at8 t e).toNat = 40) : stepAt t e = (some (oneSg t 4 e).1, e + 1) ∧ (oneSg t 4 e).1.kind = 4 ∧ (oneSg t 4 e).1.text = cLpar := by
 have hb : at8 t e = 40 := UInt8.toNat_inj.1 (by rw [h40]; rfl)
 refine ⟨?_, rfl, ?_⟩
 · unfold stepAt signAt
   rw [hb]
   simp only [show isBlank 40 = false from rfl, show ¬ (40 : UInt8).toNat = 37 from by decide, show isSmall 40 = false from rfl, show isGreat 40 = false from rfl, show isFig 40 = false from rfl, show ¬ (40 : UInt8).toNat = 39 from by decide, show isLone 40 = false from rfl, show isMark 40 = true from rfl, if_true, if_false, Bool.false_eq_true]
   rfl
 · show t.extract e (e + 1) = cLpar
   have h1 : (t.extract e (e + 1)).data.toList = [40] := by
     rw [ext_data, drop_at t e he, show e + 1 - e = 1 by omega]
     simp only [List.take_succ_cons, List.take_zero]
     rw [← at8_eq t e he, hb]
   have h2 : t.extract e (e + 1) = ⟨⟨(t.extract e (e + 1)).data.toList⟩⟩ := rfl
   rw [h2, h1]; rfl
theorem sgsF_ok {t : ByteArray} (ht : t.size ≤ 3000) : ∀ (n i : Nat), t.size - i ≤ n → LOk (sgsF t n i) := by
 intro n
 induction n with
 | zero => intro i _; exact trivial
 | succ n ih =>
   intro i hn
   unfold sgsF
   split
   · rename_i hi
     unfold stepAt
     split
     · exact ih _ (by omega)
     split
     · rename_i h37
       have hr : 0 < run t not10 i := by
         have hp : not10 t[i] = true := by rw [at8_eq t i hi] at h37; unfold not10; simp; omega
         rw [run_yes hi hp]; omega
       exact ih _ (by show t.size - (i + run t not10 i) ≤ n; omega)
     · obtain ⟨k, x, m, e, hs, hx, hm⟩ := MkOk.sign t i
       have hend := signAt_end hi
       rw [hs] at hend
       have e2 : (mkSg t k x m i e).2 = e := rfl
       rw [e2] at hend
       simp only [Option.toList_some, List.singleton_append, hs, e2]
       refine ⟨⟨?_, ?_, ?_, ?_⟩, ih e (by omega)⟩
       · show x.size ≤ maxLen
         unfold maxLen; omega
       · show _ ≤ m ∧ m ≤ _
         omega
       · show i ≤ 100000
         omega
       · intro _ hnear
         have hnear2 : (decide (e < t.size) && decide ((at8 t e).toNat = 40)) = true := hnear
         simp only [Bool.and_eq_true, decide_eq_true_eq] at hnear2
         obtain ⟨h1, h2⟩ := hnear2
         obtain ⟨q1, q2, q3⟩ := lpar_step h1 h2
         obtain ⟨m', rfl⟩ : ∃ m', n = m' + 1 := ⟨n - 1, by omega⟩
         refine ⟨sgsF t m' (e + 1), ?_⟩
         have q0 : sgsF t (m' + 1) e = (oneSg t 4 e).1 :: sgsF t m' (e + 1) := by
           show (if e < t.size then (stepAt t e).1.toList ++ sgsF t m' (stepAt t e).2 else []) = _
           rw [if_pos h1, q1]; rfl
         rw [q0]
         simp only [mk?]
         have q4 : (oneSg t 4 e).1.kind = 4 ∧ (oneSg t 4 e).1.text = cLpar := ⟨q2, q3⟩
         exact if_pos q4
   · exact trivial
theorem sgs_ok {t : ByteArray} (ht : t.size ≤ 3000) : LOk (sgs t 0) := sgsF_ok ht _ 0 (by omega)
end Go.Proofs.YtbkjcccbjnehbanGreatDoor

namespace Go.Proofs.YtbkjcccbjnehbanGreatDoor
open Go.RowKit
theorem results_c2 {P : Program} {fn : Func} {p u x : Tmp} {ty : TypeId} (h : fn.results = #[.cell p ty, .tmp u, .tmp x]) (tmps : Array Value) (w : World) (g : Nat) (t : TypeId) (cs : Array Value) (fr : Nat × Nat) (d : TypeDesc)
   (hp : tmps.getD p undef = .pointer (some ⟨g, 0, none⟩)) (hg : w.heap[g]? = some (.cells cs t fr))
   (hu : P.underlying ty = some d) (hd : (match d with | .struct _ | .array _ _ => true | _ => false) = true) (hi : (P.info? ty).map (·.size) = some cs.size) :
   (results fn tmps).run P w = .ok (.tuple #[.agg cs, tmps.getD u undef, tmps.getD x undef]) w := by
 have hp' : tmps[p]?.getD undef = .pointer (some ⟨g, 0, none⟩) := by simpa using hp
 simp [results, h, hp', asAddr, run_loadVar_row w g t ty cs fr d hg hu hd hi]
theorem signs_ok (t : ByteArray) : LOk (signsR t).1 := by
 unfold signsR
 split
 · exact sgs_ok (by omega)
 · trivial
def rtR (t : ByteArray) : Option (Tm × List ByteArray) :=
 if (rsR (signsR t).1 0).ok = true ∧ (rsR (signsR t).1 0).nx = (signsR t).1.length then some ((rsR (signsR t).1 0).t, (rsR (signsR t).1 0).names) else none
def rtT (o : Option (Tm × List ByteArray)) : Tm := match o with | some x => x.1 | none => noTm
def rtN (o : Option (Tm × List ByteArray)) : List ByteArray := match o with | some x => x.2 | none => []
def RtOut (o : Option (Tm × List ByteArray)) (w : World) (e : Ending) (w' : World) : Prop :=
 ∃ tv nv F, e = .returned (.tuple #[tv, nv, .bool o.isSome]) ∧ TOk 24 (fun _ => False) w.heap.size w' (rtT o) tv F ∧ NRow w' w.heap.size (rtN o) nv ∧ Below w.heap.size w w'
set_option maxHeartbeats 4000000 in
set_option maxRecDepth 20000 in
theorem s_readTerm (t : ByteArray) (w : World) : Calls Tryz.prog 5 #[.string t] w (RtOut (rtR t) w) := by
 have HSG : Hid (∀ w, Calls Tryz.prog 18 #[.string t] w fun e w' => ∃ v, e = .returned (.tuple #[v, .bool (signsR t).2]) ∧ SgRow w' w.heap.size (signsR t).1 v ∧ Below w.heap.size w w') := spec_all t
 have HLEN : Hid ((signsR t).1.length ≤ 3000) := signsR_len t
 have HOK : Hid (LOk (signsR t).1) := signs_ok t
 have HRT : Hid (rtR t = if (rsR (signsR t).1 0).ok = true ∧ (rsR (signsR t).1 0).nx = (signsR t).1.length then some ((rsR (signsR t).1 0).t, (rsR (signsR t).1 0).names) else none) := rfl
 generalize (signsR t).1 = L at *
 generalize (signsR t).2 = bb at *
 generalize rtR t = O at *
 obtain ⟨W, hW⟩ : ∃ W, W = w.alloc (.cells #[.int .i64 0, .string ⟨#[]⟩, .int .i64 0, .slice none 0 0] 24) := ⟨_, rfl⟩
 have bW : Below w.heap.size w W := by rw [hW]; exact (Below.refl _ _).alloc (Nat.le_refl _) _
 have HKW : Hid (W.heap[w.heap.size]? = some (.cells #[.int .i64 0, .string ⟨#[]⟩, .int .i64 0, .slice none 0 0] 24 (0, 0))) := by rw [hW]; exact heap_alloc_new _ _
 have HSW : Hid (W.heap.size = w.heap.size + 1) := by show _ = _; rw [hW]; simp
 have HBW : Hid (Below w.heap.size w W) := bW
 have HW : Hid (W = w.alloc (.cells #[.int .i64 0, .string ⟨#[]⟩, .int .i64 0, .slice none 0 0] 24)) := hW
 clear bW
 go_enter Tryz.func5, Tryz.ntmps5
 go_upto_region 1 with (fail)
 rw [← HW.out]
 clear hW
 go_upto_region 2 with (go_at_call 18; refine (Calls.mono (HSG.out _) ?_); rintro e w1 ⟨v1, rfl, r1, b1⟩; obtain ⟨ao, cap, rfl, hcap, hlc⟩ := r1.shape; have R1 : Hid (SgRow w1 W.heap.size L (.slice ao L.length cap)) := r1; have B1 : Hid (Below W.heap.size W w1) := b1; clear r1 b1)
 have HR0 : Hid (SgRow w1 0 L (.slice ao L.length cap)) := ⟨R1.out.1, by
   rcases R1.out.2 with hn | ⟨g, cap', cur, e, _, h2, h3⟩
   · exact Or.inl hn
   · exact Or.inr ⟨g, cap', cur, e, Nat.zero_le _, h2, h3⟩⟩
 have HRS := s_readSigns L (.slice ao L.length cap) 0 w1 (Nat.zero_le _) HLEN.out HOK.out HR0.out
 have hl3 : (L.length : Int) ≤ 3000 := by have := HLEN.out; omega
 obtain ⟨NL, hNL⟩ : ∃ NL, NL = L.length := ⟨_, rfl⟩
 rw [← hNL] at HRS hl3 HRT ⊢
 unfold RsOut at HRS
 obtain ⟨RR, hRR⟩ : ∃ RR, RR = rsR L 0 := ⟨_, rfl⟩
 rw [← hRR] at HRS HRT
 obtain ⟨ok, t0, names, nx⟩ := RR
 replace HRS : Hid _ := HRS
 clear hRR hNL hlc R1 HR0 HSG HOK HLEN
 unfold maxLen at hcap
 go_upto_region 3 with (go_at_call 19; refine (Calls.mono HRS.out ?_); rintro e w2 ⟨tv, nv, F, rfl, ht, hnr, hb⟩; obtain ⟨tk, ts, tn, ta, tl, tc, rfl⟩ := ht.form; have HT2 : Hid (TOk 24 (fun _ => False) w1.heap.size w2 t0 (.agg #[.int .i64 tk, .string ts, .int .i64 tn, .slice ta tl tc]) F) := ht; have HN2 : Hid (NRow w2 w1.heap.size names nv) := hnr; have B2 : Hid (Below w1.heap.size w1 w2) := hb; clear ht hnr hb)
 have HBW2 : Hid (Below w.heap.size w w2) := by
   have h1 := HBW.out.trans (B1.out.mono HBW.out.size)
   exact h1.trans (B2.out.mono h1.size)
 obtain ⟨V, hV⟩ : ∃ V, V = w2.alloc (.cells #[.int .i64 tk, .string ts, .int .i64 tn, .slice ta tl tc] 24) := ⟨_, rfl⟩
 have bV : Below w2.heap.size w2 V := by rw [hV]; exact (Below.refl _ _).alloc (Nat.le_refl _) _
 have HK7 : Hid (V.heap[w2.heap.size]? = some (.cells #[.int .i64 tk, .string ts, .int .i64 tn, .slice ta tl tc] 24 (0, 0))) := by rw [hV]; exact heap_alloc_new _ _
 have HBV : Hid (Below w.heap.size w V) := HBW2.out.trans (bV.mono HBW2.out.size)
 have HLT : Hid (w.heap.size < w2.heap.size ∧ w.heap.size < w1.heap.size) := by have h0 := HSW.out; have h1 := B1.out.size; have h2 := B2.out.size; exact ⟨by omega, by omega⟩
 have HKV : Hid (V.heap[w.heap.size]? = some (.cells #[.int .i64 0, .string ⟨#[]⟩, .int .i64 0, .slice none 0 0] 24 (0, 0))) := by
   have h0 := HSW.out
   have h1 := (B1.out.block w.heap.size (by omega)).trans HKW.out
   have h2 := (B2.out.block w.heap.size HLT.out.2).trans h1
   exact (bV.block w.heap.size HLT.out.1).trans h2
 have HTV : Hid (TOk 24 (fun _ => False) w1.heap.size V t0 (.agg #[.int .i64 tk, .string ts, .int .i64 tn, .slice ta tl tc]) F) := HT2.out.step (FX.of_below bV)
 have HNV : Hid (NRow V w1.heap.size names nv) := nrow_keep HN2.out bV
 have hltV : w.heap.size < V.heap.size := (Array.getElem?_eq_some_iff.1 HKV.out).1
 rw [← hV]
 clear hV bV HT2 HN2 HKW HRS
 cases ok with
 | false =>
   have HON : Hid (O = none) := by show _ = _; rw [HRT.out, if_neg (by simp)]
   clear HRT
   go_upto_region 4 with (fail)
   obtain ⟨q0, q1, q2, q3, z0, z1, z2, z3⟩ := blk4 HKV.out
   go_wp2
   have hF := fin_false HBV.out HKV.out
   refine bodyPost_ret_by (results_c2 rfl _ _ w.heap.size 24 _ (0, 0) _ rfl hF.1 Tryz.underlying24 rfl (by kernel_rfl)) rfl ?_
   exact ⟨_, _, [], by rw [HON.out]; rfl, by rw [HON.out]; exact tok_zero _ _, by rw [HON.out]; exact hF.2.1, hF.2.2⟩
 | true =>
   by_cases hnx : nx = NL
   · subst hnx
     have HON : Hid (O = some (t0, names)) := by show _ = _; rw [HRT.out, if_pos ⟨rfl, rfl⟩]
     clear HRT
     go_upto_region 5 with (fail)
     obtain ⟨q0, q1, q2, q3, z0, z1, z2, z3⟩ := blk4 HKV.out
     obtain ⟨y0, y1, y2, y3, _⟩ := blk4 HK7.out
     have hne : ¬ w.heap.size = w2.heap.size := by have := HLT.out.1; omega
     go_wp2
     refine bodyPost_ret_by (results_c2 rfl _ _ w.heap.size 24 _ (0, 0) _ rfl (blk4_set HKV.out) Tryz.underlying24 rfl (by kernel_rfl)) rfl ?_
     have h1 := HLT.out
     refine ⟨_, nv, F, by rw [HON.out]; rfl, ?_, ?_, blk4_below HBV.out (Nat.le_refl _)⟩
     · rw [HON.out]
       exact ⟨Own.keep _ _ _ HTV.out.own fun f hf => blk4_other (by have := (HTV.out.out f hf).1; omega), HTV.out.nd, fun f hf => ⟨by have := (HTV.out.out f hf).1; omega, fun h => h⟩⟩
     · rw [HON.out]
       exact nrow_base (B := w1.heap.size) (HNV.out.turn fun b hb => blk4_other (by have := (HNV.out.lt b hb).1; omega)) (by omega)
   · have HON : Hid (O = none) := by show _ = _; rw [HRT.out, if_neg (fun h => hnx h.2)]
     have hnb : ((nx : Int) != (NL : Int)) = true := by simpa using (show ¬ (nx : Int) = (NL : Int) by omega)
     clear HRT hnx
     go_upto_region 4 with (fail)
     obtain ⟨q0, q1, q2, q3, z0, z1, z2, z3⟩ := blk4 HKV.out
     go_wp2
     have hF := fin_false HBV.out HKV.out
     refine bodyPost_ret_by (results_c2 rfl _ _ w.heap.size 24 _ (0, 0) _ rfl hF.1 Tryz.underlying24 rfl (by kernel_rfl)) rfl ?_
     exact ⟨_, _, [], by rw [HON.out]; rfl, by rw [HON.out]; exact tok_zero _ _, by rw [HON.out]; exact hF.2.1, hF.2.2⟩
end Go.Proofs.YtbkjcccbjnehbanGreatDoor

namespace Go.Proofs.YtbkjcccbjnehbanGreatDoor
open Go.RowKit
theorem behindC_pos {r : List Sg} (h : r ≠ []) : 1 ≤ behindC r := by
 cases r with
 | nil => exact absurd rfl h
 | cons x r => simp only [behindC]; split <;> omega
theorem rsR_nx {L : List Sg} {a : Nat} (h : a < L.length) : a < (rsR L a).nx ∧ (rsR L a).nx ≤ L.length := by
 unfold rsR
 rw [if_pos h]
 cases hr : readS (L.drop a) with
 | none =>
   have h1 := behindC_pos (r := L.drop a) (by intro e; have := congrArg List.length e; simp at this; omega)
   have h2 := behindC_le (L.drop a)
   rw [List.length_drop] at h2
   show a < a + behindC (L.drop a) ∧ a + behindC (L.drop a) ≤ L.length
   omega
 | some y =>
   obtain ⟨t, names, r⟩ := y
   show a < L.length - r.length ∧ L.length - r.length ≤ L.length
   unfold readS at hr
   cases hT : termO true 130 1200 ⟨L.drop a, []⟩ with
   | none => rw [hT] at hr; cases hr
   | some q =>
     obtain ⟨t', ⟨_ | ⟨x, r'⟩, nm⟩⟩ := q
     · rw [hT] at hr; cases hr
     · rw [hT] at hr
       have hs := termO_short true 130 _ _ _ _ hT
       simp only [List.length_cons, List.length_drop] at hs
       simp only at hr
       split at hr
       · cases hr
         omega
       · cases hr
def raF (L : List Sg) : Nat → Nat → List Tm → Nat → List Tm × Nat
 | 0, _, ks, b => (ks, b)
 | f + 1, a, ks, b => if a < L.length then (if (rsR L a).ok then raF L f (rsR L a).nx (ks ++ [(rsR L a).t]) b else raF L f (rsR L a).nx ks (b + 1)) else (ks, b)
theorem raF_more (L : List Sg) : ∀ (f g a : Nat) (ks : List Tm) (b : Nat), L.length - a ≤ f → L.length - a ≤ g → raF L f a ks b = raF L g a ks b
 | 0, 0, _, _, _, _, _ => rfl
 | 0, g + 1, a, ks, b, h, _ => by simp only [raF]; rw [if_neg (by omega)]
 | f + 1, 0, a, ks, b, _, h => by simp only [raF]; rw [if_neg (by omega)]
 | f + 1, g + 1, a, ks, b, h1, h2 => by
   simp only [raF]
   by_cases h : a < L.length
   · have := rsR_nx h
     rw [if_pos h, if_pos h, raF_more L f g _ _ _ (by omega) (by omega), raF_more L f g _ _ _ (by omega) (by omega)]
   · rw [if_neg h, if_neg h]
def raL (L : List Sg) (a : Nat) (ks : List Tm) (b : Nat) : List Tm × Nat := raF L (L.length - a) a ks b
theorem raL_end {L : List Sg} {a : Nat} {ks : List Tm} {b : Nat} (h : ¬ a < L.length) : raL L a ks b = (ks, b) := by
 unfold raL
 rw [show L.length - a = 0 by omega]; rfl
theorem raL_ok {L : List Sg} {a : Nat} {ks : List Tm} {b : Nat} (h : a < L.length) (hk : (rsR L a).ok = true) : raL L a ks b = raL L (rsR L a).nx (ks ++ [(rsR L a).t]) b := by
 unfold raL
 have := rsR_nx h
 obtain ⟨f, hf⟩ : ∃ f, L.length - a = f + 1 := ⟨L.length - a - 1, by omega⟩
 rw [hf]
 simp only [raF]
 rw [if_pos h, if_pos hk]
 exact raF_more _ _ _ _ _ _ (by omega) (by omega)
theorem raL_no {L : List Sg} {a : Nat} {ks : List Tm} {b : Nat} (h : a < L.length) (hk : (rsR L a).ok = false) : raL L a ks b = raL L (rsR L a).nx ks (b + 1) := by
 unfold raL
 have := rsR_nx h
 obtain ⟨f, hf⟩ : ∃ f, L.length - a = f + 1 := ⟨L.length - a - 1, by omega⟩
 rw [hf]
 simp only [raF]
 rw [if_pos h, if_neg (by rw [hk]; simp)]
 exact raF_more _ _ _ _ _ _ (by omega) (by omega)
def raR (t : ByteArray) : List Tm × Nat := raL (signsR t).1 0 [] 0
def RaOut (R : List Tm × Nat) (w : World) (e : Ending) (w' : World) : Prop :=
 ∃ v F, e = .returned (.tuple #[v, .int .i64 (R.2 : Int)]) ∧ ROk 24 (fun _ => False) w.heap.size w' R.1 v F ∧ Below w.heap.size w w'
theorem row_push {W w5 w6 : World} {ks : List Tm} {sl v' c0 c1 c2 c3 : Value} {F Fx F0 : List Nat} {t : Tm} {cs : List Value}
   (H5 : ROk 24 (fun _ => False) W.heap.size w5 ks sl F) (T5 : TOk 24 (fun _ => False) W.heap.size w5 t (.agg #[c0, c1, c2, c3]) Fx) (hd : ∀ f ∈ F, ∀ g ∈ Fx, f ≠ g)
   (hr : OwnRow 24 w5 ks cs F0) (hnd : F0.Nodup) (h0 : ∀ f ∈ F0, f ∈ F ∧ sl.ownBlock ≠ some f) (hs : ∀ b, sl.ownBlock = some b → b ∈ F) (hown : w6.ownsRow 0 24 4 v' (ks.length + 1) (cs ++ [c0, c1, c2, c3])) (hg : w5.grownBy w6 sl.ownBlock)
   (hat : v'.ownBlock = sl.ownBlock ∨ v'.ownBlock = some w5.heap.size) (hb : Below W.heap.size W w5) :
   (∃ F', ROk 24 (fun _ => False) W.heap.size w6 (ks ++ [t]) v' F' ∧ ∀ f ∈ F', f ∈ F ∨ f ∈ Fx ∨ w5.heap.size ≤ f) ∧ Below W.heap.size W w6 := by
 obtain ⟨F', h1, h2⟩ := H5.push T5 hd hr hnd h0 hs hown hg hat hb.size (fun h => h)
 refine ⟨⟨F', h1, h2⟩, hg.os.trans hb.os, hg.tape.trans hb.tape, hg.output.trans hb.output, Nat.le_trans hb.size hg.size, fun k hk => ?_⟩
 rw [hg.block k (Nat.lt_of_lt_of_le hk hb.size) (fun e => by have := (H5.out k (hs k e.symm)).1; omega)]
 exact hb.block k hk
set_option maxHeartbeats 8000000 in
set_option maxRecDepth 20000 in
theorem s_readAll (t : ByteArray) (w : World) : Calls Tryz.prog 13 #[.string t] w (RaOut (raR t) w) := by
 obtain ⟨i0, hi, hz0, hz1, hz2⟩ := info_partsS infoT
 have HSG : Hid (∀ w, Calls Tryz.prog 18 #[.string t] w fun e w' => ∃ v, e = .returned (.tuple #[v, .bool (signsR t).2]) ∧ SgRow w' w.heap.size (signsR t).1 v ∧ Below w.heap.size w w') := spec_all t
 have HLEN : Hid ((signsR t).1.length ≤ 3000) := signsR_len t
 have HOK : Hid (LOk (signsR t).1) := signs_ok t
 have HRA : Hid (raL (signsR t).1 0 [] 0 = raR t) := rfl
 generalize (signsR t).1 = L at *
 generalize (signsR t).2 = bb at *
 generalize raR t = O at *
 obtain ⟨W, hW⟩ : ∃ W, W = w.alloc (.cells #[] 24) := ⟨_, rfl⟩
 have HW : Hid (W = w.alloc (.cells #[] 24)) := hW
 have HBW : Hid (Below w.heap.size w W) := by rw [hW]; exact (Below.refl _ _).alloc (Nat.le_refl _) _
 have HRW : Hid (ROk 24 (fun _ => False) w.heap.size W [] (.slice (some ⟨w.heap.size, 0, none⟩) 0 0) [w.heap.size]) := by rw [hW]; exact ROk.fresh (Nat.le_refl _) (fun h => h)
 obtain ⟨NL, hNL⟩ : ∃ NL, NL = L.length := ⟨_, rfl⟩
 have HNL : Hid (L.length = NL) := hNL.symm
 have hl3 : (NL : Int) ≤ 3000 := by have := HLEN.out; omega
 clear hNL
 go_enter Tryz.func13, Tryz.ntmps13
 go_upto_region 3 with (fail)
 rw [← HW.out]
 clear hW
 go_wp2_with (go_at_call 18; refine (Calls.mono (HSG.out _) ?_); rintro e w1 ⟨v1, rfl, r1, b1⟩; obtain ⟨ao, cap, rfl, hcap, hlc⟩ := r1.shape; have R1 : Hid (SgRow w1 W.heap.size L (.slice ao L.length cap)) := r1; have B1 : Hid (Below W.heap.size W w1) := b1; rw [HNL.out] at R1 hlc ⊢; clear r1 b1)
 have HLV0 : Hid (SgRow w1 0 L (.slice ao NL cap)) := ⟨R1.out.1, by
   rcases R1.out.2 with hn | ⟨g, cap', cur, e, _, h2, h3⟩
   · exact Or.inl hn
   · exact Or.inr ⟨g, cap', cur, e, Nat.zero_le _, h2, h3⟩⟩
 have HLB0 : Hid (∀ b, (Value.slice ao NL cap).ownBlock = some b → W.heap.size ≤ b ∧ b < w1.heap.size) := fun b hb => by
   rcases R1.out.2 with ⟨e, _⟩ | ⟨g, cap', cur, e, h1, h2, _⟩
   · rw [e] at hb; cases hb
   · rw [e] at hb; simp only [Value.ownBlock, Option.some.injEq] at hb; subst hb; exact ⟨h1, (Array.getElem?_eq_some_iff.1 h2).1⟩
 have HSW : Hid (W.heap.size = w.heap.size + 1) := by show _ = _; rw [HW.out]; simp
 have HR0 : Hid (ROk 24 (fun _ => False) w.heap.size w1 [] (.slice (some ⟨w.heap.size, 0, none⟩) 0 0) [w.heap.size]) := HRW.out.step (FX.of_below B1.out)
 clear HRW R1 hlc
 unfold maxLen at hcap
 go_loopw [4, 5, 8] (fun v4 v5 v8 wr => ∃ (a b KN : Nat) (ks : List Tm) (F : List Nat) (ao4 : Option Addr) (cap4 : Nat), a ≤ NL ∧ v8 = .int .i64 (a : Int) ∧ v5 = .int .i64 (b : Int) ∧ v4 = .slice ao4 KN cap4 ∧ b ≤ a ∧ KN ≤ a ∧ Hid (ks.length = KN) ∧ Hid (raL L a ks b = O) ∧ Hid (ROk 24 (fun _ => False) w.heap.size wr ks (.slice ao4 KN cap4) F) ∧ Hid (∀ f ∈ F, (Value.slice ao NL cap).ownBlock ≠ some f) ∧ Hid (SgRow wr 0 L (.slice ao NL cap)) ∧ Hid (Below w.heap.size w wr)) (fun _ _ v8 _ => NL - (intOf v8).toNat)
 case atStart => exact ⟨0, 0, 0, [], [w.heap.size], _, _, Nat.zero_le _, rfl, rfl, rfl, Nat.le_refl _, Nat.le_refl _, rfl, HRA.out, HR0.out, fun f hf e => by simp at hf; subst hf; have := (HLB0.out _ e).1; have := HSW.out; omega, HLV0.out, HBW.out.trans (B1.out.mono HBW.out.size)⟩
 case round =>
   clear HLV0 HR0 HRA HLB0
   obtain ⟨a, b, KN, ks, F, ao4, cap4, ha, rfl, rfl, rfl, hba, hka, HKN, HRL, HRO, HFL, HLV, HB⟩ := hrel
   by_cases hlt : a < NL
   · have hltL : a < L.length := by have := HNL.out; omega
     have HRS := s_readSigns L (.slice ao NL cap) a wr (Nat.le_of_lt hltL) HLEN.out HOK.out HLV.out
     have hnx := rsR_nx hltL
     unfold RsOut at HRS
     have HOKY : Hid ((rsR L a).ok = true → raL L (rsR L a).nx (ks ++ [(rsR L a).t]) b = O) := fun h => by rw [← HRL.out, raL_ok hltL h]
     have HNOY : Hid ((rsR L a).ok = false → raL L (rsR L a).nx ks (b + 1) = O) := fun h => by rw [← HRL.out, raL_no hltL h]
     rw [HNL.out] at hnx
     generalize rsR L a = RR at *
     obtain ⟨ok, t0, names, nx⟩ := RR
     simp only at hnx
     replace HRS : Hid _ := HRS
     have hlv : ∀ k, (Value.slice ao NL cap).ownBlock = some k → k < wr.heap.size := fun k hk => by
       rcases HLV.out.2 with ⟨e, _⟩ | ⟨g, cap', cur, e, _, hh, _⟩
       · rw [e] at hk; cases hk
       · rw [e] at hk; simp only [Value.ownBlock, Option.some.injEq] at hk; subst hk; exact (Array.getElem?_eq_some_iff.1 hh).1
     have HLVB : Hid _ := hlv
     clear hltL HRL hlv
     go_upto_region 7 with (go_at_call 19; refine (Calls.mono HRS.out ?_); rintro e w2 ⟨tv, nv, F2, rfl, ht, hnr, hb⟩; obtain ⟨tk, ts, tn, ta, tl, tc, rfl⟩ := ht.form; have HT2 : Hid (TOk 24 (fun _ => False) wr.heap.size w2 t0 (.agg #[.int .i64 tk, .string ts, .int .i64 tn, .slice ta tl tc]) F2) := ht; have B2 : Hid (Below wr.heap.size wr w2) := hb; obtain ⟨aon, capn, rfl, _⟩ := hnr.cells; clear ht hnr hb)
     obtain ⟨V, hV⟩ : ∃ V, V = w2.alloc (.cells #[.int .i64 tk, .string ts, .int .i64 tn, .slice ta tl tc] 24) := ⟨_, rfl⟩
     have bV : Below w2.heap.size w2 V := by rw [hV]; exact (Below.refl _ _).alloc (Nat.le_refl _) _
     have HK7 : Hid (V.heap[w2.heap.size]? = some (.cells #[.int .i64 tk, .string ts, .int .i64 tn, .slice ta tl tc] 24 (0, 0))) := by rw [hV]; exact heap_alloc_new _ _
     have HTV : Hid (TOk 24 (fun _ => False) wr.heap.size V t0 (.agg #[.int .i64 tk, .string ts, .int .i64 tn, .slice ta tl tc]) F2) := HT2.out.step (FX.of_below bV)
     have HBV : Hid (Below wr.heap.size wr V) := B2.out.trans (bV.mono B2.out.size)
     have HWV : Hid (w2.heap.size < V.heap.size) := by show _ < _; rw [hV]; simp
     rw [← hV]
     clear hV bV HT2 HRS B2
     have HROV : Hid (ROk 24 (fun _ => False) w.heap.size V ks (.slice ao4 KN cap4) F) := HRO.out.step (FX.of_below HBV.out)
     have HLVV : Hid (SgRow V 0 L (.slice ao NL cap)) := HLV.out.keep HBV.out
     have HBWV : Hid (Below w.heap.size w V) := HB.out.trans (HBV.out.mono HB.out.size)
     cases ok with
     | false =>
       have HRF : Hid _ := HNOY.out rfl
       clear HNOY HOKY
       go_wp2
       go_roundw
       case rel => exact ⟨nx, b + 1, KN, ks, F, ao4, cap4, hnx.2, rfl, by go_num, rfl, by omega, by omega, HKN.out, HRF.out, HROV.out, HFL.out, HLVV.out, HBWV.out⟩
       case measure => simp [intOf]; omega
     | true =>
       have HRF : Hid _ := HOKY.out rfl
       clear HNOY HOKY
       obtain ⟨y0, y1, y2, y3, _⟩ := blk4 HK7.out
       obtain ⟨w5, hw5⟩ : ∃ w5, w5 = V.alloc (.cells #[.int .i64 tk, .string ts, .int .i64 tn, .slice ta tl tc] 24) := ⟨_, rfl⟩
       have b5 : Below V.heap.size V w5 := by rw [hw5]; exact (Below.refl _ _).alloc (Nat.le_refl _) _
       have HRO5 : Hid (ROk 24 (fun _ => False) w.heap.size w5 ks (.slice ao4 KN cap4) F) := HROV.out.step (FX.of_below b5)
       obtain ⟨cs, F0, p1, p2, p3, p4, p5⟩ := HRO5.out.row
       rw [HKN.out, hw5] at p1
       have HP1 : Hid _ := p1
       have HP2 : Hid _ := p2
       have HP3 : Hid _ := p3
       have HP4 : Hid _ := p4
       have HP5 : Hid _ := p5
       have HW5 : Hid (w5 = V.alloc (.cells #[.int .i64 tk, .string ts, .int .i64 tn, .slice ta tl tc] 24)) := hw5
       have HB5 : Hid _ := b5
       clear p1 p2 p3 p4 p5 hw5 b5
       have hszV := HBWV.out.size
       go_wp2_with (at_builtin; go_loud (refine wpList_append_own_at _ rfl _ _ 22 rfl 0 24 i0 (.agg #[.int .i64 0, .string ⟨#[]⟩, .int .i64 0, .slice none 0 0]) 4 56 Tryz.underlying22 hi hz0 hz1 hz2 rfl (by decide) _ _ _ rfl HP1.out ⟨V.heap.size, 0, none⟩ 1 1 [.int .i64 tk, .string ts, .int .i64 tn, .slice ta tl tc] rfl rfl ?c1 ?c2 ?c3 ?c4 ?c5 ?_))
       case c1 =>
         intro q z hq
         match q, hq with
         | 0, hq => simp at hq; subst hq; simp [Addr.add]
         | 1, hq => simp at hq; subst hq; simp [Addr.add]
         | 2, hq => simp at hq; subst hq; simp [Addr.add]
         | 3, hq => simp at hq; subst hq; simp [Addr.add]
       case c2 => intro z hz; simp at hz; rcases hz with rfl | rfl | rfl | rfl <;> rfl
       case c3 => unfold maxLen; omega
       case c4 => omega
       case c5 => omega
       intro v' w6 hown' hgrow _ hat
       rw [← HW5.out] at hgrow
       have hat5 : v'.ownBlock = (Value.slice ao4 KN cap4).ownBlock ∨ v'.ownBlock = some w5.heap.size := by rw [HW5.out]; simpa using hat
       have hbw := HB.out.size
       obtain ⟨⟨F', hF1, hF2⟩, hbel⟩ := row_push (W := w) HRO5.out ((HTV.out.lo_le hbw).step (FX.of_below HB5.out)) (fun f hf g' hg' => by have := HRO.out.lt f hf; have := (HTV.out.out g' hg').1; omega) HP2.out HP3.out HP4.out HP5.out (by rw [HKN.out]; exact hown') hgrow hat5 (HBWV.out.trans (HB5.out.mono hszV))
       obtain ⟨a6, c6, rfl⟩ : ∃ ao cap, v' = .slice ao (KN + 1) cap := by
         rcases hown'.2 with ⟨e, h0⟩ | ⟨g, cap', cur, e, _⟩
         · omega
         · exact ⟨_, _, e⟩
       have HF1 : Hid (ROk 24 (fun _ => False) w.heap.size w6 (ks ++ [t0]) (.slice a6 (KN + 1) c6) F') := hF1
       have HF2 : Hid (∀ f ∈ F', (Value.slice ao NL cap).ownBlock ≠ some f) := fun f hf e => by
         have h1 := HLVB.out f e
         rcases hF2 f hf with h | h | h
         · exact HFL.out f h e
         · have := (HTV.out.out f h).1; omega
         · have := HB5.out.size; have := HBV.out.size; omega
       have HLV6 : Hid (SgRow w6 0 L (.slice ao NL cap)) := (HLVV.out.keep HB5.out).turn fun b hb => hgrow.block b (by have := HLVB.out b hb; have := HB5.out.size; have := HBV.out.size; omega) (fun e => HFL.out b (HP5.out b e.symm) hb)
       have HB6 : Hid (Below w.heap.size w w6) := hbel
       have HKN6 : Hid ((ks ++ [t0]).length = KN + 1) := by show _ = _; rw [List.length_append, HKN.out]; rfl
       clear hown' hgrow hat hat5 hF1 hF2 hbel HP1 HP2 HP3 HP4 HP5 y0 y1 y2 y3
       go_wp2
       go_roundw
       case rel => exact ⟨nx, b, KN + 1, ks ++ [t0], F', a6, c6, hnx.2, rfl, rfl, by go_num, by omega, by omega, HKN6.out, HRF.out, HF1.out, HF2.out, HLV6.out, HB6.out⟩
       case measure => simp [intOf]; omega
   · obtain rfl : a = NL := by omega
     have HE : Hid (O = (ks, b)) := by show _ = _; rw [← HRL.out, raL_end (by rw [HNL.out]; exact hlt)]
     clear HRL
     go_wp2
     go_ret2
     exact ⟨_, F, by rw [HE.out]; rfl, by rw [HE.out]; exact HRO.out, HB.out⟩
end Go.Proofs.YtbkjcccbjnehbanGreatDoor

/- Four texts in one. -/
import Derived.Test.YtmhmlkdoaojimapGreatDoorRows
import Derived.Test.YtmhmlkdoaojimapGreatDoorMrg1
import Derived.MapKept
import Derived.ProofKit
import Derived.Test.YtmhmlkdoaojimapGreatDoorMrg2
import Derived.Test.YtmhmlkdoaojimapGreatDoorMrg14
import Derived.Test.YtmhmlkdoaojimapGreatDoorMrg3
import Derived.Test.YtmhmlkdoaojimapGreatDoorMrg7
import Derived.Maps.RangeRun
import Derived.Tactics
/- A map from texts to rows: what it has. -/
namespace Go.Proofs.YtmhmlkdoaojimapGreatDoor
open Go.RowKit

/-- block m is another object -/
def putB (w : World) (m : Nat) (o : Obj) : World := { w with heap := w.heap.setIfInBounds m o }
theorem putB_at {w : World} {m : Nat} {o o' : Obj} (h : w.heap[m]? = some o') : (putB w m o).heap[m]? = some o := by
  have := (Array.getElem?_eq_some_iff.1 h).1
  simp [putB, this]
theorem putB_other {w : World} {m k : Nat} {o : Obj} (h : k ≠ m) : (putB w m o).heap[k]? = w.heap[k]? := by
  simp [putB, Ne.symm h]

def vget (s : ByteArray) : List (ByteArray × Value) → Option Value
  | [] => none
  | x :: r => if x.1 = s then some x.2 else vget s r
def vput (s : ByteArray) (n : Value) : List (ByteArray × Value) → List (ByteArray × Value)
  | [] => [(s, n)]
  | x :: r => if x.1 = s then (s, n) :: r else x :: vput s n r
theorem vget_put {s : ByteArray} {n : Value} (a : ByteArray) : ∀ ms, vget a (vput s n ms) = if s = a then some n else vget a ms
  | [] => by simp [vput, vget]
  | x :: r => by
    unfold vput
    by_cases h : x.1 = s
    · rw [if_pos h]
      simp only [vget]
      by_cases h2 : s = a
      · rw [if_pos h2, if_pos h2]
      · rw [if_neg h2, if_neg h2, if_neg (by rw [h]; exact h2)]
    · rw [if_neg h]
      simp only [vget]
      rw [vget_put a r]
      by_cases h2 : x.1 = a
      · rw [if_pos h2]
        by_cases h3 : s = a
        · exact absurd (h2.trans h3.symm) h
        · rw [if_neg h3, if_pos h2]
      · rw [if_neg h2, if_neg h2]

def mkW (x : ByteArray × Value) : Value × Value := (.string x.1, x.2)
/-- block m is the map ms -/
def BornOk (es : Array MapEntry) (clock : Nat) : Prop := (es.toList.map (·.born)).Nodup ∧ ∀ x ∈ es.toList, x.born < clock
theorem BornOk.push {es : Array MapEntry} {clock : Nat} (h : BornOk es clock) (k v : Value) : BornOk (es.push { key := k, val := v, born := clock }) (clock + 1) := by
  unfold BornOk
  rw [Array.toList_push, List.map_append]
  refine ⟨List.nodup_append.2 ⟨h.1, by simp, fun a ha b hb e => ?_⟩, fun x hx => ?_⟩
  · obtain ⟨x, hx, rfl⟩ := List.mem_map.1 ha
    have := h.2 x hx
    simp at hb
    omega
  · rcases List.mem_append.1 hx with hx | hx
    · have := h.2 x hx; omega
    · obtain rfl : x = _ := by simpa using hx
      exact Nat.lt_succ_self _
theorem BornOk.set {es : Array MapEntry} {clock : Nat} (h : BornOk es clock) {j : Nat} (hj : j < es.size) {l : List MapEntry} {e' : MapEntry} (hl : l = es.toList.set j e') (he : e'.born = es[j].born) : (l.map (·.born)).Nodup ∧ ∀ x ∈ l, x.born < clock := by
  have hm : l.map (·.born) = es.toList.map (·.born) := by
    rw [hl, List.map_set, he]
    apply List.ext_getElem?
    intro i
    rw [List.getElem?_set]
    by_cases h9 : j = i
    · subst h9; simp [hj]
    · simp [h9]
  refine ⟨hm ▸ h.1, fun x hx => ?_⟩
  have h1 : x.born ∈ l.map (·.born) := List.mem_map_of_mem hx
  rw [hm] at h1
  obtain ⟨y, hy, e⟩ := List.mem_map.1 h1
  rw [← e]
  exact h.2 y hy
def VMapAt (w : World) (m : Nat) (ms : List (ByteArray × Value)) : Prop := ∃ es clock, w.heap[m]? = some (.map es clock) ∧ es.toList.map (fun e => (e.key, e.val)) = ms.map mkW ∧ BornOk es clock
theorem VMapAt.turn {w w' : World} {m : Nat} {ms : List (ByteArray × Value)} (h : VMapAt w m ms) (hb : w'.heap[m]? = w.heap[m]?) : VMapAt w' m ms := by
  obtain ⟨es, c, h1, h2⟩ := h
  exact ⟨es, c, hb.trans h1, h2⟩

theorem beq_bytes (a b : ByteArray) : (a == b) = decide (a = b) := by
  obtain ⟨x⟩ := a
  obtain ⟨y⟩ := b
  by_cases h : x = y
  · subst h
    rw [decide_eq_true rfl]
    show (x == x) = true
    simp
  · rw [decide_eq_false (fun e => h (ByteArray.mk.inj e))]
    show (x == y) = false
    simpa using h
theorem vnow (s : ByteArray) : ∀ (ms : List (ByteArray × Value)) (es : List MapEntry) (i : Nat), es.map (fun e => (e.key, e.val)) = ms.map mkW →
    (vget s ms = none → Instr.findNow .string (.string s) es i = some none) ∧ (∀ n, vget s ms = some n → ∃ j, Instr.findNow .string (.string s) es i = some (some (i + j, n)) ∧ j < es.length ∧ ((es[j]?).map (·.key)) = some (.string s) ∧
      ∀ (v : Value) (e' : MapEntry), e'.key = .string s → e'.val = v → (es.set j e').map (fun e => (e.key, e.val)) = (vput s v ms).map mkW)
  | [], [], i, _ => ⟨fun _ => rfl, fun n h => by cases h⟩
  | [], e :: es, i, h => by simp at h
  | x :: ms, [], i, h => by simp at h
  | x :: ms, e :: es, i, h => by
    simp only [List.map_cons, List.cons.injEq, mkW, Prod.mk.injEq] at h
    obtain ⟨⟨hk, hv⟩, hr⟩ := h
    obtain ⟨h1, h2⟩ := vnow s ms es (i + 1) hr
    have hs : Instr.sameNow .string (.string s) e.key = some (s == x.1) := by rw [hk]; rfl
    by_cases hx : x.1 = s
    · have hb : (s == x.1) = true := by rw [beq_bytes, hx]; exact decide_eq_true rfl
      rw [hb] at hs
      refine ⟨fun hn => by simp [vget, hx] at hn, fun n hn => ⟨0, ?_, by simp, by simp [hk, hx], fun v e' h3 h4 => ?_⟩⟩
      · simp only [vget, if_pos hx, Option.some.injEq] at hn
        simp [Instr.findNow, hs, hv, hn]
      · simp only [List.set_cons_zero, List.map_cons, vput, if_pos hx, h3, h4, hr]
        rfl
    · have hb : (s == x.1) = false := by
        rw [beq_bytes]; exact decide_eq_false fun e => hx e.symm
      rw [hb] at hs
      refine ⟨fun hn => ?_, fun n hn => ?_⟩
      · simp only [vget, if_neg hx] at hn
        simp [Instr.findNow, hs, h1 hn]
      · simp only [vget, if_neg hx] at hn
        obtain ⟨j, hj, hjl, hjk, hjs⟩ := h2 n hn
        refine ⟨j + 1, ?_, by simpa using hjl, by simpa using hjk, fun v e' h3 h4 => ?_⟩
        · simp only [Instr.findNow, hs, hj]
          rw [show i + 1 + j = i + (j + 1) by omega]
        · simp only [List.set_cons_succ, List.map_cons, vput, if_neg hx, hjs v e' h3 h4, hk, hv]
          rfl

theorem vchk (d : Nat) (em : Bool) (w : World) (s : ByteArray) : (Instr.checkKey em (d + 1) 9 (.string s)).run Tryz.prog w = .ok () w := by simp [Instr.checkKey, run_underlying Tryz.underlying9]

theorem vmap_look (w : World) (m : Nat) (ms : List (ByteArray × Value)) (h : VMapAt w m ms) (s : ByteArray) :
    (Instr.lookup 70 (.map (some m)) (.string s) true).run Tryz.prog w = .ok (.tuple #[(vget s ms).getD (.slice none 0 0), .bool (vget s ms).isSome]) w := by
  obtain ⟨es, clock, h1, h2, h3⟩ := h
  obtain ⟨q1, q2⟩ := vnow s ms es.toList 0 h2
  have hc := vchk 9999 es.isEmpty w s
  cases hg : vget s ms with
  | some n =>
    obtain ⟨j, hj, _⟩ := q2 n hg
    simp [Instr.lookup, run_underlying Tryz.underlying70, run_underlying Tryz.underlying9, MapKept.run_getObj_map h1, hc, Instr.findKey, hj]
  | none =>
    have hj := q1 hg
    simp [Instr.lookup, run_underlying Tryz.underlying70, run_underlying Tryz.underlying9, MapKept.run_getObj_map h1, hc, Instr.findKey, hj]

theorem vmap_put (w : World) (m : Nat) (ms : List (ByteArray × Value)) (h : VMapAt w m ms) (s : ByteArray) (n : Value) :
    ∃ o, (Instr.mapUpdate 70 (.map (some m)) (.string s) (n)).run Tryz.prog w = .ok () (putB w m o) ∧ VMapAt (putB w m o) m (vput s n ms) := by
  obtain ⟨es, clock, h1, h2, h3⟩ := h
  obtain ⟨q1, q2⟩ := vnow s ms es.toList 0 h2
  have hc := vchk 9999 false w s
  cases hg : vget s ms with
  | none =>
    have hj := q1 hg
    refine ⟨.map (es.push { key := .string s, val := n, born := clock }) (clock + 1), ?_, _, _, putB_at h1, ?_, h3.push _ _⟩
    · simp [Instr.mapUpdate, run_underlying Tryz.underlying70, run_underlying Tryz.underlying9, MapKept.run_getObj_map h1, hc, Instr.findKey, hj, MapKept.run_setObj_map _ h1, putB]
    · rw [Array.toList_push, List.map_append, h2]
      have : vput s n ms = ms ++ [(s, n)] := by
        clear h2 q1 q2 hj
        induction ms with
        | nil => rfl
        | cons x r ih =>
          simp only [vget] at hg
          split at hg
          · cases hg
          · rename_i hx
            simp only [vput, if_neg hx, ih hg, List.cons_append]
      rw [this, List.map_append]
      rfl
  | some z =>
    obtain ⟨j, hj, hjl, hjk, hjs⟩ := q2 z hg
    rw [Nat.zero_add] at hj
    have hjl' : j < es.size := by simpa using hjl
    have hkey : ((es[j]?).map (·.key)).getD (.string s) = .string s := by
      have : es.toList[j]? = es[j]? := by simp
      rw [← this, hjk]; rfl
    have hst : (Instr.keyThatStays (.string s) (.string s)).run Tryz.prog w = .ok (.string s) w := by
      have hb : (s == s) = true := by rw [beq_bytes]; exact decide_eq_true rfl
      simp [Instr.keyThatStays, Instr.sameBits, hb]
    refine ⟨.map (es.modify j fun e => { e with key := .string s, val := n }) clock, ?_, _, _, putB_at h1, ?_, ?_⟩
    · simp [Instr.mapUpdate, run_underlying Tryz.underlying70, run_underlying Tryz.underlying9, MapKept.run_getObj_map h1, hc, Instr.findKey, hj, hkey, hst, MapKept.run_setObj_map _ h1, putB]
    · have e1 : (es.modify j fun e => { e with key := .string s, val := n }).toList = es.toList.set j { es[j] with key := .string s, val := n } := by
        apply List.ext_getElem?
        intro i
        rw [List.getElem?_set, Array.getElem?_toList, Array.getElem?_modify, Array.length_toList]
        by_cases h : j = i
        · subst h; simp [hjl']
        · simp [h]
      rw [e1]
      exact hjs n _ rfl rfl
    · have e1 : (es.modify j fun e => { e with key := .string s, val := n }).toList = es.toList.set j { es[j] with key := .string s, val := n } := by
        apply List.ext_getElem?
        intro i
        rw [List.getElem?_set, Array.getElem?_toList, Array.getElem?_modify, Array.length_toList]
        by_cases h : j = i
        · subst h; simp [hjl']
        · simp [h]
      exact BornOk.set h3 hjl' e1 rfl
end Go.Proofs.YtmhmlkdoaojimapGreatDoor

/- The clauses of one predicate. -/
namespace Go.Proofs.YtmhmlkdoaojimapGreatDoor
open Go.RowKit

/-- those of one predicate -/
def ofPred (q : ByteArray) (cs : List Cla) : List Cla := cs.filter fun c => decide (predB c.h = q)
theorem ofPred_snoc (q : ByteArray) (cs : List Cla) (c : Cla) : ofPred q (cs ++ [c]) = if predB c.h = q then ofPred q cs ++ [c] else ofPred q cs := by
  unfold ofPred
  rw [List.filter_append]
  by_cases h : predB c.h = q
  · simp [h]
  · simp [h]

end Go.Proofs.YtmhmlkdoaojimapGreatDoor

/- Shelves: the clauses of each predicate, in order, each list in a row of its own. -/
namespace Go.Proofs.YtmhmlkdoaojimapGreatDoor
open Go.RowKit

theorem vget_mem {q : ByteArray} {v : Value} : ∀ {ms : List (ByteArray × Value)}, vget q ms = some v → (q, v) ∈ ms
  | [], h => by cases h
  | x :: r, h => by
    simp only [vget] at h
    split at h
    · rename_i hx
      obtain rfl := Option.some.inj h
      rw [← hx]; simp
    · exact List.mem_cons_of_mem _ (vget_mem h)
theorem vget_none {q : ByteArray} : ∀ {ms : List (ByteArray × Value)}, vget q ms = none → ∀ x ∈ ms, x.1 ≠ q
  | [], _, x, hx => by cases hx
  | y :: r, h, x, hx => by
    simp only [vget] at h
    split at h
    · cases h
    · rename_i hy
      rcases List.mem_cons.1 hx with rfl | hx
      · exact hy
      · exact vget_none h x hx
theorem vput_mem {q : ByteArray} {v : Value} : ∀ {ms : List (ByteArray × Value)}, (ms.map (·.1)).Nodup → ∀ x ∈ vput q v ms, x = (q, v) ∨ (x ∈ ms ∧ x.1 ≠ q)
  | [], _, x, hx => Or.inl (by simpa [vput] using hx)
  | y :: r, hn, x, hx => by
    rw [List.map_cons, List.nodup_cons] at hn
    unfold vput at hx
    split at hx
    · rename_i hy
      rcases List.mem_cons.1 hx with rfl | hx
      · exact Or.inl rfl
      · refine Or.inr ⟨List.mem_cons_of_mem _ hx, fun e => hn.1 ?_⟩
        rw [hy, ← e]
        exact List.mem_map_of_mem hx
    · rename_i hy
      rcases List.mem_cons.1 hx with rfl | hx
      · exact Or.inr ⟨by simp, hy⟩
      · rcases vput_mem hn.2 x hx with h | ⟨h, h'⟩
        · exact Or.inl h
        · exact Or.inr ⟨List.mem_cons_of_mem _ h, h'⟩
theorem vput_nodup {α : Type} (f : Value → α) {q : ByteArray} {v : Value} : ∀ {ms : List (ByteArray × Value)}, (ms.map (·.1)).Nodup → (ms.map fun x => f x.2).Nodup → (∀ x ∈ ms, x.1 ≠ q → f x.2 ≠ f v) →
    ((vput q v ms).map (·.1)).Nodup ∧ ((vput q v ms).map fun x => f x.2).Nodup
  | [], _, _, _ => by simp [vput]
  | y :: r, hn, hb, hnew => by
    rw [List.map_cons, List.nodup_cons] at hn hb
    have ih := vput_nodup f (q := q) (v := v) hn.2 hb.2 fun x hx => hnew x (List.mem_cons_of_mem _ hx)
    unfold vput
    split
    · rename_i hy
      refine ⟨?_, ?_⟩
      · rw [List.map_cons, List.nodup_cons]
        exact ⟨by rw [← hy]; exact hn.1, hn.2⟩
      · rw [List.map_cons, List.nodup_cons]
        refine ⟨fun h => ?_, hb.2⟩
        obtain ⟨x, hx, he⟩ := List.mem_map.1 h
        refine hnew x (List.mem_cons_of_mem _ hx) (fun e => hn.1 ?_) he
        rw [hy, ← e]
        exact List.mem_map_of_mem hx
    · rename_i hy
      refine ⟨?_, ?_⟩
      · rw [List.map_cons, List.nodup_cons]
        refine ⟨fun h => ?_, ih.1⟩
        obtain ⟨x, hx, he⟩ := List.mem_map.1 h
        rcases vput_mem hn.2 x hx with rfl | ⟨h1, _⟩
        · exact hy he.symm
        · exact hn.1 (by rw [← he]; exact List.mem_map_of_mem h1)
      · rw [List.map_cons, List.nodup_cons]
        refine ⟨fun h => ?_, ih.2⟩
        obtain ⟨x, hx, he⟩ := List.mem_map.1 h
        rcases vput_mem hn.2 x hx with rfl | ⟨h1, _⟩
        · exact hnew y (by simp) hy he.symm
        · exact hb.1 (by rw [← he]; exact List.mem_map_of_mem h1)

/-- one list: its own row, and what stands in it -/
def ShRow (ec e : TypeId) (w0 w : World) (B : Nat) (q : ByteArray) (ks : List Cla) (D : Nat → Prop) (v : Value) : Prop :=
  ∃ news F, w.ownsRow B ec 9 v (ofPred q ks).length news ∧ OwnCs e w0 (ofPred q ks) news F ∧ F.Nodup ∧ (∀ f ∈ F, D f)
/-- all of them -/
def ShAt (ec e : TypeId) (w0 w : World) (B m : Nat) (ks : List Cla) (D : Nat → Prop) : Prop :=
  ∃ ms : List (ByteArray × Value), VMapAt w m ms ∧ (ms.map (·.1)).Nodup ∧ (ms.map fun x => x.2.ownBlock).Nodup ∧ (∀ q, vget q ms = none → ofPred q ks = []) ∧ (∀ x ∈ ms, ShRow ec e w0 w B x.1 ks D x.2 ∧ x.2.ownBlock ≠ none ∧ ofPred x.1 ks ≠ [])

theorem ShAt.below {ec e : TypeId} {w0 w w' : World} {B m : Nat} {ks : List Cla} {D : Nat → Prop} (h : ShAt ec e w0 w B m ks D) (hb : Below w.heap.size w w') : ShAt ec e w0 w' B m ks D := by
  obtain ⟨ms, h1, h2, h3, h4, h5⟩ := h
  refine ⟨ms, ?_, h2, h3, h4, fun x hx => ?_⟩
  · obtain ⟨es, cl, q1, q2⟩ := h1
    exact ⟨es, cl, (hb.block _ (Array.getElem?_eq_some_iff.1 q1).1).trans q1, q2⟩
  · obtain ⟨⟨news, F, r1, r2⟩, h6⟩ := h5 x hx
    refine ⟨⟨news, F, ?_, r2⟩, h6⟩
    rcases r1.2 with h | ⟨g, cap, cur, e, h7, hh, h8⟩
    · exact ⟨r1.1, Or.inl h⟩
    · exact ⟨r1.1, Or.inr ⟨g, cap, cur, e, h7, (hb.block _ (Array.getElem?_eq_some_iff.1 hh).1).trans hh, h8⟩⟩

/-- the list to which one more is put: none there is an empty one -/
theorem ShAt.list {ec e : TypeId} {w0 w : World} {B : Nat} {ks : List Cla} {D : Nat → Prop} {ms : List (ByteArray × Value)} (h4 : ∀ q, vget q ms = none → ofPred q ks = []) (h5 : ∀ x ∈ ms, ShRow ec e w0 w B x.1 ks D x.2 ∧ x.2.ownBlock ≠ none ∧ ofPred x.1 ks ≠ []) (q : ByteArray) :
    ShRow ec e w0 w B q ks D ((vget q ms).getD (.slice none 0 0)) := by
  cases hg : vget q ms with
  | none =>
    have h0 := h4 q hg
    refine ⟨[], [], ?_, ?_, by simp, by simp⟩
    · rw [h0]; exact ⟨rfl, Or.inl ⟨rfl, rfl⟩⟩
    · rw [h0]; exact ⟨rfl, rfl⟩
  | some v => exact (h5 _ (vget_mem hg)).1

/-- one clause more -/
theorem ShAt.put {ec e : TypeId} {w0 w w2 : World} {B m : Nat} {ks : List Cla} {D D' : Nat → Prop} {c : Cla} {cc : List Value} {Fc : List Nat} {ms : List (ByteArray × Value)} {v v' : Value} {news : List Value} {F : List Nat} {o : Obj}
    (h2 : (ms.map (·.1)).Nodup) (h3 : (ms.map fun x => x.2.ownBlock).Nodup) (h4 : ∀ q, vget q ms = none → ofPred q ks = []) (h5 : ∀ x ∈ ms, ShRow ec e w0 w B x.1 ks D x.2 ∧ x.2.ownBlock ≠ none ∧ ofPred x.1 ks ≠ [])
    (hv : v = (vget (predB c.h) ms).getD (.slice none 0 0)) (hc : OwnC e w0 c cc Fc) (hcn : Fc.Nodup) (hcd : ∀ f ∈ Fc, D' f ∧ ¬ D f) (hD : ∀ f, D f → D' f)
    (r2 : OwnCs e w0 (ofPred (predB c.h) ks) news F) (r3 : F.Nodup) (r4 : ∀ f ∈ F, D f)
    (hown : w2.ownsRow B ec 9 v' ((ofPred (predB c.h) ks).length + 1) (news ++ cc)) (hgrow : w.grownBy w2 v.ownBlock) (hnil : v' ≠ .slice none 0 0) (hat : v'.ownBlock = v.ownBlock ∨ v'.ownBlock = some w.heap.size)
    (hm : ∃ es cl, w2.heap[m]? = some (.map es cl)) (hmap : VMapAt (putB w2 m o) m (vput (predB c.h) v' ms)) :
    ShAt ec e w0 (putB w2 m o) B m (ks ++ [c]) D' := by
  obtain ⟨es0, cl0, hm⟩ := hm
  have hrk : ∀ {x : Value} {n : Nat} {xs : List Value} {u : World}, u.ownsRow B ec 9 x n xs → (∀ b, x.ownBlock = some b → (putB w2 m o).heap[b]? = u.heap[b]?) → (putB w2 m o).ownsRow B ec 9 x n xs := fun {x n xs u} h hb => by
    rcases h.2 with ⟨rfl, hl⟩ | ⟨g, cap, cur, rfl, h1, hh, h2⟩
    · exact ⟨h.1, Or.inl ⟨rfl, hl⟩⟩
    · exact ⟨h.1, Or.inr ⟨g, cap, cur, rfl, h1, (hb g rfl).trans hh, h2⟩⟩
  have hnew : ∀ x ∈ ms, x.1 ≠ predB c.h → x.2.ownBlock ≠ v'.ownBlock ∧ x.2.ownBlock ≠ v.ownBlock := fun x hx hne => by
    have hx5 := (h5 x hx).2.1
    have hxl : ∀ b, x.2.ownBlock = some b → b < w.heap.size := fun b hb => by
      obtain ⟨news, F, r, _⟩ := (h5 x hx).1
      exact (r.lt b hb).2
    have hvx : x.2.ownBlock ≠ v.ownBlock := by
      rw [hv]
      cases hg : vget (predB c.h) ms with
      | none => exact hx5
      | some z =>
        intro e
        have hz := vget_mem hg
        obtain ⟨i, hi, ei⟩ := List.getElem_of_mem hx
        obtain ⟨j, hj, ej⟩ := List.getElem_of_mem hz
        have hij : i = j := (List.getElem?_inj (by simpa using hi : i < (ms.map fun x => x.2.ownBlock).length) h3).1 (by simp only [List.getElem?_map, List.getElem?_eq_getElem hi, List.getElem?_eq_getElem hj, Option.map_some, ei, ej]; rw [e]; rfl)
        subst hij
        rw [ei] at ej
        exact hne (by rw [ej])
    refine ⟨fun e => ?_, hvx⟩
    rcases hat with h | h
    · exact hvx (e.trans h)
    · obtain ⟨b, hb⟩ : ∃ b, x.2.ownBlock = some b := Option.ne_none_iff_exists'.1 hx5
      have := hxl b hb
      rw [hb, h] at e
      have := Option.some.inj e
      omega
  obtain ⟨n1, n2⟩ := vput_nodup (fun x : Value => x.ownBlock) (v := v') h2 h3 fun x hx hne => (hnew x hx hne).1
  refine ⟨vput (predB c.h) v' ms, hmap, n1, n2, fun q hq => ?_, fun x hx => ?_⟩
  · rw [vget_put] at hq
    split at hq
    · cases hq
    · rename_i hne
      rw [ofPred_snoc, if_neg hne]
      exact h4 q hq
  · rcases vput_mem h2 x hx with rfl | ⟨hx, hne⟩
    · refine ⟨⟨news ++ cc, F ++ Fc, ?_, ?_, ?_, fun f hf => ?_⟩, fun e9 => hnil ?_, ?_⟩
      · show (putB w2 m o).ownsRow B ec 9 v' (ofPred (predB c.h) (ks ++ [c])).length (news ++ cc)
        rw [ofPred_snoc, if_pos rfl]
        have hl : (ofPred (predB c.h) ks ++ [c]).length = (ofPred (predB c.h) ks).length + 1 := by simp
        rw [hl]
        refine hrk hown fun b hb => ?_
        refine putB_other fun e9 => ?_
        rcases hown.2 with ⟨h, _⟩ | ⟨g, cap, cur, e8, _, hh, _⟩
        · rw [h] at hb; cases hb
        · rw [e8] at hb
          obtain rfl : g = b := by simpa [Value.ownBlock] using hb
          rw [e9, hm] at hh
          cases hh
      · show OwnCs e w0 (ofPred (predB c.h) (ks ++ [c])) _ _
        rw [ofPred_snoc, if_pos rfl]
        exact OwnCs.snoc hc _ _ _ r2
      · exact List.nodup_append.2 ⟨r3, hcn, fun a ha b hb e => (hcd b hb).2 (e ▸ r4 a ha)⟩
      · rcases List.mem_append.1 hf with hf | hf
        · exact hD f (r4 f hf)
        · exact (hcd f hf).1
      · rcases hown.2 with ⟨h, _⟩ | ⟨g, cap, cur, e8, _, hh, _⟩
        · exact h
        · rw [show v' = _ from e8] at e9
          cases e9
      · show ofPred (predB c.h) (ks ++ [c]) ≠ []
        rw [ofPred_snoc, if_pos rfl]
        simp
    · obtain ⟨⟨news', F', q1, q2, q3, q4⟩, h6, h7⟩ := h5 x hx
      have hne' : ¬ predB c.h = x.1 := fun e => hne e.symm
      refine ⟨⟨news', F', ?_, ?_, q3, fun f hf => hD f (q4 f hf)⟩, h6, ?_⟩
      · rw [ofPred_snoc, if_neg hne']
        refine hrk q1 fun b hb => ?_
        have hbl := (q1.lt b hb).2
        have h8 := (hnew x hx hne).2
        rw [hb] at h8
        refine (putB_other fun e9 => ?_).trans (hgrow.block b hbl h8)
        rcases q1.2 with ⟨h, _⟩ | ⟨g, cap, cur, e8, _, hh, _⟩
        · rw [h] at hb; cases hb
        · rw [e8] at hb
          obtain rfl : g = b := by simpa [Value.ownBlock] using hb
          have := hgrow.block g hbl h8
          rw [hh, e9, hm] at this
          cases this
      · rw [ofPred_snoc, if_neg hne']; exact q2
      · rw [ofPred_snoc, if_neg hne']; exact h7
end Go.Proofs.YtmhmlkdoaojimapGreatDoor

/- A range over a map of texts whose rounds delete the round's own key. -/
namespace Go.Proofs.YtmhmlkdoaojimapGreatDoor
open Go.RowKit
open Go.ChangeMaps (setBlock)

def strOf : Value → ByteArray
  | .string q => q
  | _ => ⟨#[]⟩

/-- the entries that there were when the range began -/
structure Es0 (es0 : List MapEntry) (clock : Nat) : Prop where
  born : (es0.map (·.born)).Nodup
  old : ∀ x ∈ es0, x.born < clock
  keys : (es0.map (·.key)).Nodup
  str : ∀ x ∈ es0, ∃ q, x.key = .string q

/-- the range under way: what has gone might go, what was met and stays might not -/
structure RgAt (w : World) (m r clock : Nat) (es0 : List MapEntry) (gd : Value → Bool) (es : Array MapEntry) (seen : Array Nat) : Prop where
  it : ∃ c0, w.heap[r]? = some (.mapIter (some m) clock seen c0) ∧ clock ≤ c0
  map : w.heap[m]? = some (.map es clock)
  sub : es.toList.Sublist es0
  stay : ∀ x ∈ es0, x ∈ es.toList ∨ gd x.key = true
  done : ∀ x ∈ es.toList, seen.contains x.born = true → gd x.key = false

theorem wpList_next_rg {P : Program} {w : World} {ops : Array Oper} {rest : List Oper} {o : Oper} {a : Act} {Q : Exit → Act → World → Prop} (hg : o.guard = none) (it : Operand) (hop : o.op = Op.next it false) (m r clock c0 : Nat) (es : Array MapEntry) (seen : Array Nat)
    (hit : a.eval it = .pointer (some ⟨r, 0, none⟩)) (hr : w.heap[r]? = some (.mapIter (some m) clock seen c0)) (hb : w.heap[m]? = some (.map es clock)) (hold : ∀ x ∈ es.toList, x.born < clock) (hsc : clock ≤ c0)
    (hDone : (leftOf es seen).size = 0 → wpList P ops Q rest (a.put o.dst (.tuple #[.bool false])) w)
    (hMore : ∀ e w1, e ∈ (leftOf es seen).toList → (w1 = w ∨ w1 = w.drew) → wpList P ops Q rest (a.put o.dst (.tuple #[.bool true, e.key, e.val])) (setBlock w1 r (.mapIter (some m) clock (seen.push e.born) clock))) :
    wpList P ops Q (o :: rest) a w := by
  refine wpList_plain hg fun K' hK' => ?_
  unfold Oper.wp
  rcases run_next_at (P := P) w o.type r m clock c0 seen es clock hr hb hold hsc with ⟨h0, hrun⟩ | ⟨e, he, w1, hw1, hrun⟩
  · simp [execOp, hop, hit, hrun, Result.andThen]
    exact hK' _ _ (hDone h0)
  · simp [execOp, hop, hit, hrun, Result.andThen]
    exact hK' _ _ (hMore e w1 he hw1)

theorem wpList_delete_run {P : Program} {w : World} {ops : Array Oper} {rest : List Oper} {o : Oper} {a : Act} {Q : Exit → Act → World → Prop} (hg : o.guard = none) (s x : Operand) (t k : TypeId)
    (hop : o.op = Op.call { callee := Callee.builtin Builtin.delete, args := #[s, x], argTypes := #[t, k] }) (v xv : Value) (w' : World) (hs : a.eval s = v) (hx : a.eval x = xv)
    (hrun : ∀ ty, (Builtin.delete_ #[t, k] ty #[v, xv]).run P w = .ok (.tuple #[]) w') (h : wpList P ops Q rest (a.put o.dst (.tuple #[])) w') : wpList P ops Q (o :: rest) a w := by
  refine wpList_plain hg fun K hK => ?_
  unfold Oper.wp
  simp [execOp, hop, resolve, invoke, builtin, hs, hx, hrun o.type, Result.andThen]
  exact hK _ _ h

theorem setBlock_at {w : World} {b : Nat} {o o' : Obj} (h : w.heap[b]? = some o') : (setBlock w b o).heap[b]? = some o := by
  have := (Array.getElem?_eq_some_iff.1 h).1
  simp [setBlock, this]
theorem setBlock_ne {w : World} {b k : Nat} {o : Obj} (h : k ≠ b) : (setBlock w b o).heap[k]? = w.heap[k]? := by
  simp [setBlock, Ne.symm h]
theorem setBlock_size (w : World) (b : Nat) (o : Obj) : (setBlock w b o).heap.size = w.heap.size := by simp [setBlock]

/-- the key of an entry is found where it stands -/
theorem find_str {es : List MapEntry} (hstr : ∀ x ∈ es, ∃ q, x.key = .string q) {e : MapEntry} {s : ByteArray} (he : e ∈ es) (hk : e.key = .string s) :
    ∃ j v, Instr.findNow .string (.string s) es 0 = some (some (j, v)) ∧ j < es.length ∧ (es[j]?).map (·.key) = some (.string s) := by
  have hmap : es.map (fun e => (e.key, e.val)) = (es.map fun e => (strOf e.key, e.val)).map mkW := by
    rw [List.map_map]
    apply List.map_congr_left
    intro x hx
    obtain ⟨q, hq⟩ := hstr x hx
    simp [mkW, hq, strOf]
  obtain ⟨_, q2⟩ := vnow s _ es 0 hmap
  cases hg : vget s (es.map fun e => (strOf e.key, e.val)) with
  | none =>
    have := vget_none hg (strOf e.key, e.val) (List.mem_map_of_mem (f := fun e : MapEntry => (strOf e.key, e.val)) he)
    exact absurd (by rw [hk]; rfl) this
  | some n =>
    obtain ⟨j, h1, h2, h3, _⟩ := q2 n hg
    rw [Nat.zero_add] at h1
    exact ⟨j, n, h1, h2, h3⟩

/-- an entry has come and stays -/
theorem RgAt.kept {w u : World} {m r clock : Nat} {es0 : List MapEntry} {gd : Value → Bool} {es : Array MapEntry} {seen : Array Nat} {e : MapEntry} (h0 : Es0 es0 clock) (h : RgAt w m r clock es0 gd es seen) (he : e ∈ (leftOf es seen).toList) (hr : u.heap[r]? = some (.mapIter (some m) clock (seen.push e.born) clock)) (hm : u.heap[m]? = some (.map es clock)) (hgd : gd e.key = false) :
    RgAt u m r clock es0 gd es (seen.push e.born) ∧ (leftOf es (seen.push e.born)).size < (leftOf es seen).size := by
  obtain ⟨hmem, _⟩ := mem_left he
  refine ⟨⟨⟨clock, hr, Nat.le_refl _⟩, hm, h.sub, h.stay, fun x hx hc => ?_⟩, left_shrinks es seen e he⟩
  rw [contains_push, Bool.or_eq_true] at hc
  rcases hc with hc | hc
  · exact h.done x hx hc
  · have hb : x.born = e.born := by simpa using hc
    rw [born_inj h0.born (h.sub.subset hx) (h.sub.subset hmem) hb]
    exact hgd

/-- an entry has come and goes -/
theorem RgAt.gone {w u : World} {m r clock : Nat} {es0 : List MapEntry} {gd : Value → Bool} {es : Array MapEntry} {seen : Array Nat} {e : MapEntry} {s : ByteArray} (h0 : Es0 es0 clock) (h : RgAt w m r clock es0 gd es seen) (he : e ∈ (leftOf es seen).toList) (hr : u.heap[r]? = some (.mapIter (some m) clock (seen.push e.born) clock)) (hm : u.heap[m]? = some (.map es clock)) (hks : e.key = .string s) (hgd : gd e.key = true) :
    ∃ es', (∀ ty, (Builtin.delete_ #[70, 9] ty #[.map (some m), .string s]).run Tryz.prog u = .ok (.tuple #[]) (setBlock u m (.map es' clock))) ∧ RgAt (setBlock u m (.map es' clock)) m r clock es0 gd es' (seen.push e.born) ∧ (leftOf es' (seen.push e.born)).size < (leftOf es seen).size := by
  obtain ⟨hmem, _⟩ := mem_left he
  have hstr : ∀ x ∈ es.toList, ∃ q, x.key = .string q := fun x hx => h0.str x (h.sub.subset hx)
  obtain ⟨j, v, hj, hjl, hjk⟩ := find_str hstr hmem hks
  have hne : m ≠ r := fun e9 => by rw [e9, hr] at hm; cases hm
  have hc := vchk 9999 es.isEmpty u s
  have hjs : j < es.size := by simpa using hjl
  have hlist : (es.eraseIdxIfInBounds j).toList = es.toList.eraseIdx j := by
    unfold Array.eraseIdxIfInBounds
    rw [dif_pos hjs, Array.toList_eraseIdx]
  have hsub : (es.eraseIdxIfInBounds j).toList.Sublist es.toList := by rw [hlist]; exact List.eraseIdx_sublist _ _
  have hkn : (es.toList.map (·.key)).Nodup := (h.sub.map (·.key)).nodup h0.keys
  -- what goes is the entry itself
  have hje : es.toList[j]? = some e := by
    rw [List.getElem?_eq_getElem hjl] at hjk ⊢
    have hk2 : es.toList[j].key = e.key := by rw [hks]; simpa using hjk
    obtain ⟨i, hi, ei⟩ := List.getElem_of_mem hmem
    have : i = j := (List.getElem?_inj (by simpa using hi : i < (es.toList.map (·.key)).length) hkn).1 (by
      rw [List.getElem?_map, List.getElem?_map, List.getElem?_eq_getElem hi, List.getElem?_eq_getElem hjl, ei]
      simp only [Option.map_some, Option.some.injEq]
      exact hk2.symm)
    subst this
    rw [ei]
  refine ⟨es.eraseIdxIfInBounds j, fun ty => ?_, ⟨⟨clock, (setBlock_ne (Ne.symm hne)).trans hr, Nat.le_refl _⟩, setBlock_at hm, hsub.trans h.sub, fun x hx => ?_, fun x hx hcx => ?_⟩, ?_⟩
  · simp [Builtin.delete_, run_underlying Tryz.underlying70, run_underlying Tryz.underlying9, MapKept.run_getObj_map hm, hc, Instr.findKey, hj, MapKept.run_setObj_map _ hm, setBlock]
  · rcases h.stay x hx with hx1 | hx1
    · obtain ⟨i, hi, ei⟩ := List.getElem_of_mem hx1
      by_cases hij : i = j
      · subst hij
        rw [List.getElem?_eq_getElem hi, ei] at hje
        right
        rw [Option.some.inj hje]
        exact hgd
      · left
        rw [hlist, List.mem_eraseIdx_iff_getElem]
        exact ⟨i, hi, hij, ei⟩
    · exact Or.inr hx1
  · rw [contains_push, Bool.or_eq_true] at hcx
    have hx1 := hsub.subset hx
    rcases hcx with hcx | hcx
    · exact h.done x hx1 hcx
    · exfalso
      have hb : x.born = e.born := by simpa using hcx
      have hxe := born_inj h0.born (h.sub.subset hx1) (h.sub.subset hmem) hb
      subst hxe
      rw [hlist, List.mem_eraseIdx_iff_getElem] at hx
      obtain ⟨i, hi, hij, ei⟩ := hx
      exact hij ((List.getElem?_inj (by simpa using hi : i < (es.toList.map (·.key)).length) hkn).1 (by
        rw [List.getElem?_map, List.getElem?_map, List.getElem?_eq_getElem hi, hje, ei]))
  · have h1 := left_shrinks es seen e he
    have e1 : ∀ a : Array MapEntry, (leftOf a (seen.push e.born)).size = (a.toList.filter fun x => !(seen.push e.born).contains x.born).length := fun a => by
      unfold leftOf
      rw [← Array.toList_filter, Array.length_toList]
    rw [e1] at h1 ⊢
    exact Nat.lt_of_le_of_lt (hsub.filter _).length_le h1
end Go.Proofs.YtmhmlkdoaojimapGreatDoor

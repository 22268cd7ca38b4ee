/- Four texts in one. -/
import Derived.Test.YtmhmlkdoaojimapDoorMrg2
import Derived.Test.YtmhmlkdoaojimapDoorMrg11
import Derived.Test.YtmhmlkdoaojimapDoorMrg9
import Derived.Maps.RangeRun
import Derived.Tactics
import Derived.Test.YtmhmlkdoaojimapDoorRows
import Derived.Test.YtmhmlkdoaojimapDoorMrg5
import Derived.Lib.LaidTab
import Derived.Stop.LaidErr
/- Rows in blocks of their own: a cell set, a block kept. Of no program. -/
namespace Go.Proofs.YtmhmlkdoaojimapDoor
open Go.RowKit

theorem row_set {w : World} {e size n g cap i : Nat} {cs : List Value} {v : Value} (h : w.ownsRow 0 e size (.slice (some ⟨g, 0, none⟩) n cap) n cs) : (w.setCell ⟨g, i, none⟩ v).ownsRow 0 e size (.slice (some ⟨g, 0, none⟩) n cap) n (cs.set i v) := by
  refine ⟨by rw [List.length_set]; exact h.1, ?_⟩
  rcases h.2 with ⟨h, _⟩ | ⟨g', cap', cur, h1, h2, h3, h4, h5, h6, h7⟩
  · cases h
  · cases h1
    refine Or.inr ⟨g, cap, cur.setIfInBounds i v, rfl, h2, blk_set h3 v, h4, h5, by simpa using h6, ?_⟩
    rw [Array.toList_setIfInBounds, List.take_set, h7]
theorem row_set_same {w : World} {e size n g cap i : Nat} {cs : List Value} {v : Value} (h : w.ownsRow 0 e size (.slice (some ⟨g, 0, none⟩) n cap) n cs) (hi : cs[i]? = some v) : (w.setCell ⟨g, i, none⟩ v).ownsRow 0 e size (.slice (some ⟨g, 0, none⟩) n cap) n cs := by
  have := row_set (i := i) (v := v) h
  obtain ⟨h1, rfl⟩ := List.getElem?_eq_some_iff.1 hi
  rwa [List.set_getElem_self h1] at this
theorem row_lt0 {w : World} {e size n : Nat} {v : Value} {xs : List Value} (h : w.ownsRow 0 e size v n xs) {b : Nat} (hb : v.ownBlock = some b) : b < w.heap.size := by
  rcases h.2 with ⟨rfl, _⟩ | ⟨b', cap, cur, rfl, h1, h2, h3⟩
  · cases hb
  · cases hb; exact (Array.getElem?_eq_some_iff.1 h2).1
theorem row_frozen {w : World} {e size n g cap : Nat} {cs : List Value} (h : w.ownsRow 0 e size (.slice (some ⟨g, 0, none⟩) n cap) n cs) (i : Nat) : w.frozen? ⟨g, i, none⟩ = false := by
  rcases h.2 with ⟨h, _⟩ | ⟨g', cap', cur, h1, h2, h3, _⟩
  · cases h
  · cases h1; exact blk_frozen h3 i

theorem row_turn0 {w w' : World} {e size n : Nat} {v : Value} {xs : List Value} (h : w.ownsRow 0 e size v n xs) (hb : ∀ b, v.ownBlock = some b → w'.heap[b]? = w.heap[b]?) : w'.ownsRow 0 e size v n xs := by
  refine ⟨h.1, ?_⟩
  rcases h.2 with hn | ⟨b, cap, cur, e, h1, h2, h3⟩
  · exact Or.inl hn
  · exact Or.inr ⟨b, cap, cur, e, h1, (hb b (by rw [e]; rfl)).trans h2, h3⟩
end Go.Proofs.YtmhmlkdoaojimapDoor

/- Shelves: the clauses of each predicate, in order, each list in a row of its own. -/
namespace Go.Proofs.YtmhmlkdoaojimapDoor
open Go.RowKit

theorem vget_mem {q : ByteArray} {v : Value} : ∀ {ms : List (ByteArray × Value)}, vget q ms = some v → (q, v) ∈ ms
  | [], h => by cases h
  | x :: r, h => by
    simp only [vget] at h
    split at h
    · rename_i hx
      obtain rfl := Option.some.inj h
      rw [← hx]; simp
    · exact List.mem_cons_of_mem _ (vget_mem h)
theorem vget_none {q : ByteArray} : ∀ {ms : List (ByteArray × Value)}, vget q ms = none → ∀ x ∈ ms, x.1 ≠ q
  | [], _, x, hx => by cases hx
  | y :: r, h, x, hx => by
    simp only [vget] at h
    split at h
    · cases h
    · rename_i hy
      rcases List.mem_cons.1 hx with rfl | hx
      · exact hy
      · exact vget_none h x hx
theorem vput_mem {q : ByteArray} {v : Value} : ∀ {ms : List (ByteArray × Value)}, (ms.map (·.1)).Nodup → ∀ x ∈ vput q v ms, x = (q, v) ∨ (x ∈ ms ∧ x.1 ≠ q)
  | [], _, x, hx => Or.inl (by simpa [vput] using hx)
  | y :: r, hn, x, hx => by
    rw [List.map_cons, List.nodup_cons] at hn
    unfold vput at hx
    split at hx
    · rename_i hy
      rcases List.mem_cons.1 hx with rfl | hx
      · exact Or.inl rfl
      · refine Or.inr ⟨List.mem_cons_of_mem _ hx, fun e => hn.1 ?_⟩
        rw [hy, ← e]
        exact List.mem_map_of_mem hx
    · rename_i hy
      rcases List.mem_cons.1 hx with rfl | hx
      · exact Or.inr ⟨by simp, hy⟩
      · rcases vput_mem hn.2 x hx with h | ⟨h, h'⟩
        · exact Or.inl h
        · exact Or.inr ⟨List.mem_cons_of_mem _ h, h'⟩
theorem vput_nodup {α : Type} (f : Value → α) {q : ByteArray} {v : Value} : ∀ {ms : List (ByteArray × Value)}, (ms.map (·.1)).Nodup → (ms.map fun x => f x.2).Nodup → (∀ x ∈ ms, x.1 ≠ q → f x.2 ≠ f v) →
    ((vput q v ms).map (·.1)).Nodup ∧ ((vput q v ms).map fun x => f x.2).Nodup
  | [], _, _, _ => by simp [vput]
  | y :: r, hn, hb, hnew => by
    rw [List.map_cons, List.nodup_cons] at hn hb
    have ih := vput_nodup f (q := q) (v := v) hn.2 hb.2 fun x hx => hnew x (List.mem_cons_of_mem _ hx)
    unfold vput
    split
    · rename_i hy
      refine ⟨?_, ?_⟩
      · rw [List.map_cons, List.nodup_cons]
        exact ⟨by rw [← hy]; exact hn.1, hn.2⟩
      · rw [List.map_cons, List.nodup_cons]
        refine ⟨fun h => ?_, hb.2⟩
        obtain ⟨x, hx, he⟩ := List.mem_map.1 h
        refine hnew x (List.mem_cons_of_mem _ hx) (fun e => hn.1 ?_) he
        rw [hy, ← e]
        exact List.mem_map_of_mem hx
    · rename_i hy
      refine ⟨?_, ?_⟩
      · rw [List.map_cons, List.nodup_cons]
        refine ⟨fun h => ?_, ih.1⟩
        obtain ⟨x, hx, he⟩ := List.mem_map.1 h
        rcases vput_mem hn.2 x hx with rfl | ⟨h1, _⟩
        · exact hy he.symm
        · exact hn.1 (by rw [← he]; exact List.mem_map_of_mem h1)
      · rw [List.map_cons, List.nodup_cons]
        refine ⟨fun h => ?_, ih.2⟩
        obtain ⟨x, hx, he⟩ := List.mem_map.1 h
        rcases vput_mem hn.2 x hx with rfl | ⟨h1, _⟩
        · exact hnew y (by simp) hy he.symm
        · exact hb.1 (by rw [← he]; exact List.mem_map_of_mem h1)

/-- one list: its own row, and what stands in it -/
def ShRow (ec e : TypeId) (w0 w : World) (B : Nat) (q : ByteArray) (ks : List Cla) (D : Nat → Prop) (v : Value) : Prop :=
  ∃ news F, w.ownsRow B ec 9 v (ofPred q ks).length news ∧ OwnCs e w0 (ofPred q ks) news F ∧ F.Nodup ∧ (∀ f ∈ F, D f)
/-- all of them -/
def ShAt (ec e : TypeId) (w0 w : World) (B m : Nat) (ks : List Cla) (D : Nat → Prop) : Prop :=
  ∃ ms : List (ByteArray × Value), VMapAt w m ms ∧ (ms.map (·.1)).Nodup ∧ (ms.map fun x => x.2.ownBlock).Nodup ∧ (∀ q, vget q ms = none → ofPred q ks = []) ∧ (∀ x ∈ ms, ShRow ec e w0 w B x.1 ks D x.2 ∧ x.2.ownBlock ≠ none ∧ ofPred x.1 ks ≠ [])

theorem ShAt.below {ec e : TypeId} {w0 w w' : World} {B m : Nat} {ks : List Cla} {D : Nat → Prop} (h : ShAt ec e w0 w B m ks D) (hb : Below w.heap.size w w') : ShAt ec e w0 w' B m ks D := by
  obtain ⟨ms, h1, h2, h3, h4, h5⟩ := h
  refine ⟨ms, ?_, h2, h3, h4, fun x hx => ?_⟩
  · obtain ⟨es, cl, q1, q2⟩ := h1
    exact ⟨es, cl, (hb.block _ (Array.getElem?_eq_some_iff.1 q1).1).trans q1, q2⟩
  · obtain ⟨⟨news, F, r1, r2⟩, h6⟩ := h5 x hx
    refine ⟨⟨news, F, ?_, r2⟩, h6⟩
    rcases r1.2 with h | ⟨g, cap, cur, e, h7, hh, h8⟩
    · exact ⟨r1.1, Or.inl h⟩
    · exact ⟨r1.1, Or.inr ⟨g, cap, cur, e, h7, (hb.block _ (Array.getElem?_eq_some_iff.1 hh).1).trans hh, h8⟩⟩

/-- the list to which one more is put: none there is an empty one -/
theorem ShAt.list {ec e : TypeId} {w0 w : World} {B : Nat} {ks : List Cla} {D : Nat → Prop} {ms : List (ByteArray × Value)} (h4 : ∀ q, vget q ms = none → ofPred q ks = []) (h5 : ∀ x ∈ ms, ShRow ec e w0 w B x.1 ks D x.2 ∧ x.2.ownBlock ≠ none ∧ ofPred x.1 ks ≠ []) (q : ByteArray) :
    ShRow ec e w0 w B q ks D ((vget q ms).getD (.slice none 0 0)) := by
  cases hg : vget q ms with
  | none =>
    have h0 := h4 q hg
    refine ⟨[], [], ?_, ?_, by simp, by simp⟩
    · rw [h0]; exact ⟨rfl, Or.inl ⟨rfl, rfl⟩⟩
    · rw [h0]; exact ⟨rfl, rfl⟩
  | some v => exact (h5 _ (vget_mem hg)).1

/-- one clause more -/
theorem ShAt.put {ec e : TypeId} {w0 w w2 : World} {B m : Nat} {ks : List Cla} {D D' : Nat → Prop} {c : Cla} {cc : List Value} {Fc : List Nat} {ms : List (ByteArray × Value)} {v v' : Value} {news : List Value} {F : List Nat} {o : Obj}
    (h2 : (ms.map (·.1)).Nodup) (h3 : (ms.map fun x => x.2.ownBlock).Nodup) (h4 : ∀ q, vget q ms = none → ofPred q ks = []) (h5 : ∀ x ∈ ms, ShRow ec e w0 w B x.1 ks D x.2 ∧ x.2.ownBlock ≠ none ∧ ofPred x.1 ks ≠ [])
    (hv : v = (vget (predB c.h) ms).getD (.slice none 0 0)) (hc : OwnC e w0 c cc Fc) (hcn : Fc.Nodup) (hcd : ∀ f ∈ Fc, D' f ∧ ¬ D f) (hD : ∀ f, D f → D' f)
    (r2 : OwnCs e w0 (ofPred (predB c.h) ks) news F) (r3 : F.Nodup) (r4 : ∀ f ∈ F, D f)
    (hown : w2.ownsRow B ec 9 v' ((ofPred (predB c.h) ks).length + 1) (news ++ cc)) (hgrow : w.grownBy w2 v.ownBlock) (hnil : v' ≠ .slice none 0 0) (hat : v'.ownBlock = v.ownBlock ∨ v'.ownBlock = some w.heap.size)
    (hm : ∃ es cl, w2.heap[m]? = some (.map es cl)) (hmap : VMapAt (putB w2 m o) m (vput (predB c.h) v' ms)) :
    ShAt ec e w0 (putB w2 m o) B m (ks ++ [c]) D' := by
  obtain ⟨es0, cl0, hm⟩ := hm
  have hrk : ∀ {x : Value} {n : Nat} {xs : List Value} {u : World}, u.ownsRow B ec 9 x n xs → (∀ b, x.ownBlock = some b → (putB w2 m o).heap[b]? = u.heap[b]?) → (putB w2 m o).ownsRow B ec 9 x n xs := fun {x n xs u} h hb => by
    rcases h.2 with ⟨rfl, hl⟩ | ⟨g, cap, cur, rfl, h1, hh, h2⟩
    · exact ⟨h.1, Or.inl ⟨rfl, hl⟩⟩
    · exact ⟨h.1, Or.inr ⟨g, cap, cur, rfl, h1, (hb g rfl).trans hh, h2⟩⟩
  have hnew : ∀ x ∈ ms, x.1 ≠ predB c.h → x.2.ownBlock ≠ v'.ownBlock ∧ x.2.ownBlock ≠ v.ownBlock := fun x hx hne => by
    have hx5 := (h5 x hx).2.1
    have hxl : ∀ b, x.2.ownBlock = some b → b < w.heap.size := fun b hb => by
      obtain ⟨news, F, r, _⟩ := (h5 x hx).1
      exact (r.lt b hb).2
    have hvx : x.2.ownBlock ≠ v.ownBlock := by
      rw [hv]
      cases hg : vget (predB c.h) ms with
      | none => exact hx5
      | some z =>
        intro e
        have hz := vget_mem hg
        obtain ⟨i, hi, ei⟩ := List.getElem_of_mem hx
        obtain ⟨j, hj, ej⟩ := List.getElem_of_mem hz
        have hij : i = j := (List.getElem?_inj (by simpa using hi : i < (ms.map fun x => x.2.ownBlock).length) h3).1 (by simp only [List.getElem?_map, List.getElem?_eq_getElem hi, List.getElem?_eq_getElem hj, Option.map_some, ei, ej]; rw [e]; rfl)
        subst hij
        rw [ei] at ej
        exact hne (by rw [ej])
    refine ⟨fun e => ?_, hvx⟩
    rcases hat with h | h
    · exact hvx (e.trans h)
    · obtain ⟨b, hb⟩ : ∃ b, x.2.ownBlock = some b := Option.ne_none_iff_exists'.1 hx5
      have := hxl b hb
      rw [hb, h] at e
      have := Option.some.inj e
      omega
  obtain ⟨n1, n2⟩ := vput_nodup (fun x : Value => x.ownBlock) (v := v') h2 h3 fun x hx hne => (hnew x hx hne).1
  refine ⟨vput (predB c.h) v' ms, hmap, n1, n2, fun q hq => ?_, fun x hx => ?_⟩
  · rw [vget_put] at hq
    split at hq
    · cases hq
    · rename_i hne
      rw [ofPred_snoc, if_neg hne]
      exact h4 q hq
  · rcases vput_mem h2 x hx with rfl | ⟨hx, hne⟩
    · refine ⟨⟨news ++ cc, F ++ Fc, ?_, ?_, ?_, fun f hf => ?_⟩, fun e9 => hnil ?_, ?_⟩
      · show (putB w2 m o).ownsRow B ec 9 v' (ofPred (predB c.h) (ks ++ [c])).length (news ++ cc)
        rw [ofPred_snoc, if_pos rfl]
        have hl : (ofPred (predB c.h) ks ++ [c]).length = (ofPred (predB c.h) ks).length + 1 := by simp
        rw [hl]
        refine hrk hown fun b hb => ?_
        refine putB_other fun e9 => ?_
        rcases hown.2 with ⟨h, _⟩ | ⟨g, cap, cur, e8, _, hh, _⟩
        · rw [h] at hb; cases hb
        · rw [e8] at hb
          obtain rfl : g = b := by simpa [Value.ownBlock] using hb
          rw [e9, hm] at hh
          cases hh
      · show OwnCs e w0 (ofPred (predB c.h) (ks ++ [c])) _ _
        rw [ofPred_snoc, if_pos rfl]
        exact OwnCs.snoc hc _ _ _ r2
      · exact List.nodup_append.2 ⟨r3, hcn, fun a ha b hb e => (hcd b hb).2 (e ▸ r4 a ha)⟩
      · rcases List.mem_append.1 hf with hf | hf
        · exact hD f (r4 f hf)
        · exact (hcd f hf).1
      · rcases hown.2 with ⟨h, _⟩ | ⟨g, cap, cur, e8, _, hh, _⟩
        · exact h
        · rw [show v' = _ from e8] at e9
          cases e9
      · show ofPred (predB c.h) (ks ++ [c]) ≠ []
        rw [ofPred_snoc, if_pos rfl]
        simp
    · obtain ⟨⟨news', F', q1, q2, q3, q4⟩, h6, h7⟩ := h5 x hx
      have hne' : ¬ predB c.h = x.1 := fun e => hne e.symm
      refine ⟨⟨news', F', ?_, ?_, q3, fun f hf => hD f (q4 f hf)⟩, h6, ?_⟩
      · rw [ofPred_snoc, if_neg hne']
        refine hrk q1 fun b hb => ?_
        have hbl := (q1.lt b hb).2
        have h8 := (hnew x hx hne).2
        rw [hb] at h8
        refine (putB_other fun e9 => ?_).trans (hgrow.block b hbl h8)
        rcases q1.2 with ⟨h, _⟩ | ⟨g, cap, cur, e8, _, hh, _⟩
        · rw [h] at hb; cases hb
        · rw [e8] at hb
          obtain rfl : g = b := by simpa [Value.ownBlock] using hb
          have := hgrow.block g hbl h8
          rw [hh, e9, hm] at this
          cases this
      · rw [ofPred_snoc, if_neg hne']; exact q2
      · rw [ofPred_snoc, if_neg hne']; exact h7
end Go.Proofs.YtmhmlkdoaojimapDoor

/- A range over a map of texts whose rounds delete the round's own key. -/
namespace Go.Proofs.YtmhmlkdoaojimapDoor
open Go.RowKit
open Go.ChangeMaps (setBlock)

def strOf : Value → ByteArray
  | .string q => q
  | _ => ⟨#[]⟩

/-- the entries that there were when the range began -/
structure Es0 (es0 : List MapEntry) (clock : Nat) : Prop where
  born : (es0.map (·.born)).Nodup
  old : ∀ x ∈ es0, x.born < clock
  keys : (es0.map (·.key)).Nodup
  str : ∀ x ∈ es0, ∃ q, x.key = .string q

/-- the range under way: what has gone might go, what was met and stays might not -/
structure RgAt (w : World) (m r clock : Nat) (es0 : List MapEntry) (gd : Value → Bool) (es : Array MapEntry) (seen : Array Nat) : Prop where
  it : ∃ c0, w.heap[r]? = some (.mapIter (some m) clock seen c0) ∧ clock ≤ c0
  map : w.heap[m]? = some (.map es clock)
  sub : es.toList.Sublist es0
  stay : ∀ x ∈ es0, x ∈ es.toList ∨ gd x.key = true
  done : ∀ x ∈ es.toList, seen.contains x.born = true → gd x.key = false

theorem wpList_next_rg {P : Program} {w : World} {ops : Array Oper} {rest : List Oper} {o : Oper} {a : Act} {Q : Exit → Act → World → Prop} (hg : o.guard = none) (it : Operand) (hop : o.op = Op.next it false) (m r clock c0 : Nat) (es : Array MapEntry) (seen : Array Nat)
    (hit : a.eval it = .pointer (some ⟨r, 0, none⟩)) (hr : w.heap[r]? = some (.mapIter (some m) clock seen c0)) (hb : w.heap[m]? = some (.map es clock)) (hold : ∀ x ∈ es.toList, x.born < clock) (hsc : clock ≤ c0)
    (hDone : (leftOf es seen).size = 0 → wpList P ops Q rest (a.put o.dst (.tuple #[.bool false])) w)
    (hMore : ∀ e w1, e ∈ (leftOf es seen).toList → (w1 = w ∨ w1 = w.drew) → wpList P ops Q rest (a.put o.dst (.tuple #[.bool true, e.key, e.val])) (setBlock w1 r (.mapIter (some m) clock (seen.push e.born) clock))) :
    wpList P ops Q (o :: rest) a w := by
  refine wpList_plain hg fun K' hK' => ?_
  unfold Oper.wp
  rcases run_next_at (P := P) w o.type r m clock c0 seen es clock hr hb hold hsc with ⟨h0, hrun⟩ | ⟨e, he, w1, hw1, hrun⟩
  · simp [execOp, hop, hit, hrun, Result.andThen]
    exact hK' _ _ (hDone h0)
  · simp [execOp, hop, hit, hrun, Result.andThen]
    exact hK' _ _ (hMore e w1 he hw1)

theorem wpList_delete_run {P : Program} {w : World} {ops : Array Oper} {rest : List Oper} {o : Oper} {a : Act} {Q : Exit → Act → World → Prop} (hg : o.guard = none) (s x : Operand) (t k : TypeId)
    (hop : o.op = Op.call { callee := Callee.builtin Builtin.delete, args := #[s, x], argTypes := #[t, k] }) (v xv : Value) (w' : World) (hs : a.eval s = v) (hx : a.eval x = xv)
    (hrun : ∀ ty, (Builtin.delete_ #[t, k] ty #[v, xv]).run P w = .ok (.tuple #[]) w') (h : wpList P ops Q rest (a.put o.dst (.tuple #[])) w') : wpList P ops Q (o :: rest) a w := by
  refine wpList_plain hg fun K hK => ?_
  unfold Oper.wp
  simp [execOp, hop, resolve, invoke, builtin, hs, hx, hrun o.type, Result.andThen]
  exact hK _ _ h

theorem setBlock_at {w : World} {b : Nat} {o o' : Obj} (h : w.heap[b]? = some o') : (setBlock w b o).heap[b]? = some o := by
  have := (Array.getElem?_eq_some_iff.1 h).1
  simp [setBlock, this]
theorem setBlock_ne {w : World} {b k : Nat} {o : Obj} (h : k ≠ b) : (setBlock w b o).heap[k]? = w.heap[k]? := by
  simp [setBlock, Ne.symm h]
theorem setBlock_size (w : World) (b : Nat) (o : Obj) : (setBlock w b o).heap.size = w.heap.size := by simp [setBlock]

/-- the key of an entry is found where it stands -/
theorem find_str {es : List MapEntry} (hstr : ∀ x ∈ es, ∃ q, x.key = .string q) {e : MapEntry} {s : ByteArray} (he : e ∈ es) (hk : e.key = .string s) :
    ∃ j v, Instr.findNow .string (.string s) es 0 = some (some (j, v)) ∧ j < es.length ∧ (es[j]?).map (·.key) = some (.string s) := by
  have hmap : es.map (fun e => (e.key, e.val)) = (es.map fun e => (strOf e.key, e.val)).map mkW := by
    rw [List.map_map]
    apply List.map_congr_left
    intro x hx
    obtain ⟨q, hq⟩ := hstr x hx
    simp [mkW, hq, strOf]
  obtain ⟨_, q2⟩ := vnow s _ es 0 hmap
  cases hg : vget s (es.map fun e => (strOf e.key, e.val)) with
  | none =>
    have := vget_none hg (strOf e.key, e.val) (List.mem_map_of_mem (f := fun e : MapEntry => (strOf e.key, e.val)) he)
    exact absurd (by rw [hk]; rfl) this
  | some n =>
    obtain ⟨j, h1, h2, h3, _⟩ := q2 n hg
    rw [Nat.zero_add] at h1
    exact ⟨j, n, h1, h2, h3⟩

/-- an entry has come and stays -/
theorem RgAt.kept {w u : World} {m r clock : Nat} {es0 : List MapEntry} {gd : Value → Bool} {es : Array MapEntry} {seen : Array Nat} {e : MapEntry} (h0 : Es0 es0 clock) (h : RgAt w m r clock es0 gd es seen) (he : e ∈ (leftOf es seen).toList) (hr : u.heap[r]? = some (.mapIter (some m) clock (seen.push e.born) clock)) (hm : u.heap[m]? = some (.map es clock)) (hgd : gd e.key = false) :
    RgAt u m r clock es0 gd es (seen.push e.born) ∧ (leftOf es (seen.push e.born)).size < (leftOf es seen).size := by
  obtain ⟨hmem, _⟩ := mem_left he
  refine ⟨⟨⟨clock, hr, Nat.le_refl _⟩, hm, h.sub, h.stay, fun x hx hc => ?_⟩, left_shrinks es seen e he⟩
  rw [contains_push, Bool.or_eq_true] at hc
  rcases hc with hc | hc
  · exact h.done x hx hc
  · have hb : x.born = e.born := by simpa using hc
    rw [born_inj h0.born (h.sub.subset hx) (h.sub.subset hmem) hb]
    exact hgd

/-- an entry has come and goes -/
theorem RgAt.gone {w u : World} {m r clock : Nat} {es0 : List MapEntry} {gd : Value → Bool} {es : Array MapEntry} {seen : Array Nat} {e : MapEntry} {s : ByteArray} (h0 : Es0 es0 clock) (h : RgAt w m r clock es0 gd es seen) (he : e ∈ (leftOf es seen).toList) (hr : u.heap[r]? = some (.mapIter (some m) clock (seen.push e.born) clock)) (hm : u.heap[m]? = some (.map es clock)) (hks : e.key = .string s) (hgd : gd e.key = true) :
    ∃ es', (∀ ty, (Builtin.delete_ #[61, 9] ty #[.map (some m), .string s]).run Tryd.prog u = .ok (.tuple #[]) (setBlock u m (.map es' clock))) ∧ RgAt (setBlock u m (.map es' clock)) m r clock es0 gd es' (seen.push e.born) ∧ (leftOf es' (seen.push e.born)).size < (leftOf es seen).size := by
  obtain ⟨hmem, _⟩ := mem_left he
  have hstr : ∀ x ∈ es.toList, ∃ q, x.key = .string q := fun x hx => h0.str x (h.sub.subset hx)
  obtain ⟨j, v, hj, hjl, hjk⟩ := find_str hstr hmem hks
  have hne : m ≠ r := fun e9 => by rw [e9, hr] at hm; cases hm
  have hc := vchk 9999 es.isEmpty u s
  have hjs : j < es.size := by simpa using hjl
  have hlist : (es.eraseIdxIfInBounds j).toList = es.toList.eraseIdx j := by
    unfold Array.eraseIdxIfInBounds
    rw [dif_pos hjs, Array.toList_eraseIdx]
  have hsub : (es.eraseIdxIfInBounds j).toList.Sublist es.toList := by rw [hlist]; exact List.eraseIdx_sublist _ _
  have hkn : (es.toList.map (·.key)).Nodup := (h.sub.map (·.key)).nodup h0.keys
  -- what goes is the entry itself
  have hje : es.toList[j]? = some e := by
    rw [List.getElem?_eq_getElem hjl] at hjk ⊢
    have hk2 : es.toList[j].key = e.key := by rw [hks]; simpa using hjk
    obtain ⟨i, hi, ei⟩ := List.getElem_of_mem hmem
    have : i = j := (List.getElem?_inj (by simpa using hi : i < (es.toList.map (·.key)).length) hkn).1 (by
      rw [List.getElem?_map, List.getElem?_map, List.getElem?_eq_getElem hi, List.getElem?_eq_getElem hjl, ei]
      simp only [Option.map_some, Option.some.injEq]
      exact hk2.symm)
    subst this
    rw [ei]
  refine ⟨es.eraseIdxIfInBounds j, fun ty => ?_, ⟨⟨clock, (setBlock_ne (Ne.symm hne)).trans hr, Nat.le_refl _⟩, setBlock_at hm, hsub.trans h.sub, fun x hx => ?_, fun x hx hcx => ?_⟩, ?_⟩
  · simp [Builtin.delete_, run_underlying Tryd.underlying61, run_underlying Tryd.underlying9, MapKept.run_getObj_map hm, hc, Instr.findKey, hj, MapKept.run_setObj_map _ hm, setBlock]
  · rcases h.stay x hx with hx1 | hx1
    · obtain ⟨i, hi, ei⟩ := List.getElem_of_mem hx1
      by_cases hij : i = j
      · subst hij
        rw [List.getElem?_eq_getElem hi, ei] at hje
        right
        rw [Option.some.inj hje]
        exact hgd
      · left
        rw [hlist, List.mem_eraseIdx_iff_getElem]
        exact ⟨i, hi, hij, ei⟩
    · exact Or.inr hx1
  · rw [contains_push, Bool.or_eq_true] at hcx
    have hx1 := hsub.subset hx
    rcases hcx with hcx | hcx
    · exact h.done x hx1 hcx
    · exfalso
      have hb : x.born = e.born := by simpa using hcx
      have hxe := born_inj h0.born (h.sub.subset hx1) (h.sub.subset hmem) hb
      subst hxe
      rw [hlist, List.mem_eraseIdx_iff_getElem] at hx
      obtain ⟨i, hi, hij, ei⟩ := hx
      exact hij ((List.getElem?_inj (by simpa using hi : i < (es.toList.map (·.key)).length) hkn).1 (by
        rw [List.getElem?_map, List.getElem?_map, List.getElem?_eq_getElem hi, hje, ei]))
  · have h1 := left_shrinks es seen e he
    have e1 : ∀ a : Array MapEntry, (leftOf a (seen.push e.born)).size = (a.toList.filter fun x => !(seen.push e.born).contains x.born).length := fun a => by
      unfold leftOf
      rw [← Array.toList_filter, Array.length_toList]
    rw [e1] at h1 ⊢
    exact Nat.lt_of_le_of_lt (hsub.filter _).length_le h1
end Go.Proofs.YtmhmlkdoaojimapDoor

/- The table of powers of ten stays. -/
namespace Go.Proofs.YtmhmlkdoaojimapDoor
open Go.RowKit

theorem gPowT : Tryd.prog.globalNamed "internal/strconv.uint64pow10" = some 0 := by kernel_rfl
theorem powT_lt {w : World} (h : Lib.TabIs Tryd.prog w "internal/strconv.uint64pow10" .u64 Lib.pow10Tab) : 0 < w.heap.size := by
  unfold Lib.TabIs World.var? at h
  rw [gPowT, Option.bind_some] at h
  cases hb : w.heap[0]? with
  | none => rw [hb] at h; cases h
  | some o => exact (Array.getElem?_eq_some_iff.1 hb).1
theorem pow_keep {w w' : World} (h : Lib.TabIs Tryd.prog w "internal/strconv.uint64pow10" .u64 Lib.pow10Tab) (hb : Below w.heap.size w w') : Lib.TabIs Tryd.prog w' "internal/strconv.uint64pow10" .u64 Lib.pow10Tab :=
  var?_below hb gPowT (powT_lt h) h
end Go.Proofs.YtmhmlkdoaojimapDoor

/- FnExactAdded answers true at every Db and clause: the code's Added answers as the specification's, leaves both arguments as they were, and its answer owns its memory. No condition but what the row itself lays (the tables of its imports). -/
import Derived.Test.YtmhmlkdoaojimapGreatDoorCards
import Derived.Test.YtmhmlkdoaojimapGreatDoorTie
import Derived.Test.YtmhmlkdoaojimapGreatDoorMrg22
import Derived.Test.YtmhmlkdoaojimapGreatDoorMrg27
import Derived.Test.YtmhmlkdoaojimapGreatDoorMrg28
import Derived.Test.YtmhmlkdoaojimapGreatDoorMrg29
import Derived.Test.YtmhmlkdoaojimapGreatDoorMrg2
import Derived.Test.YtmhmlkdoaojimapGreatDoorMrg4
import Derived.Test.YtmhmlkdoaojimapGreatDoorMrg30
import Derived.Test.YtmhmlkdoaojimapGreatDoorDbFrH
import Derived.Test.YtmhmlkdoaojimapGreatDoorMrg15
import Derived.Deep.RegionWith
import Derived.Deep.DeepCutAuto
import Derived.Carry
import Derived.ChangeOld
import Derived.ChangeMaps
import Derived.OpenShut
import Derived.ShutString
import Derived.Below
import Derived.Deep.DeepHandedRow
import Derived.Lib.LaidTab
import Derived.Stop.LaidErr
namespace Go.Proofs.YtmhmlkdoaojimapGreatDoor.fnExactAdded
open Go.ChangeShapes Go.WideShapes Go.ChangeAt Go.RowKit
open Go.ChangeMaps (open_string shut_string)

abbrev PowW (w : World) : Prop := Lib.TabIs Tryz.prog w "internal/strconv.uint64pow10" .u64 Lib.pow10Tab

/-- a clause whose terms lie in blocks of their own -/
def ClV (w : World) (c : Cla) (v : Value) (F : List Nat) : Prop :=
  ∃ k1 t1 n1 a1 l1 m1 k2 t2 n2 a2 l2 m2, v = .agg #[.int .i64 k1, .string t1, .int .i64 n1, .slice a1 l1 m1, .int .i64 k2, .string t2, .int .i64 n2, .slice a2 l2 m2, .string c.f] ∧ OwnC 41 w c [.int .i64 k1, .string t1, .int .i64 n1, .slice a1 l1 m1, .int .i64 k2, .string t2, .int .i64 n2, .slice a2 l2 m2, .string c.f] F ∧ F.Nodup
theorem ClV.keep {w w' : World} {c : Cla} {v : Value} {F : List Nat} (h : ClV w c v F) (hF : ∀ f ∈ F, w'.heap[f]? = w.heap[f]?) : ClV w' c v F := by
  obtain ⟨k1, t1, n1, a1, l1, m1, k2, t2, n2, a2, l2, m2, rfl, o, n⟩ := h
  exact ⟨k1, t1, n1, a1, l1, m1, k2, t2, n2, a2, l2, m2, rfl, OwnC.keep o hF, n⟩
theorem ClV.lt {w : World} {c : Cla} {v : Value} {F : List Nat} (h : ClV w c v F) : ∀ f ∈ F, f < w.heap.size := by
  obtain ⟨k1, t1, n1, a1, l1, m1, k2, t2, n2, a2, l2, m2, rfl, o, n⟩ := h
  exact OwnC.lt o
theorem ClV.below {w w' : World} {c : Cla} {v : Value} {F : List Nat} (h : ClV w c v F) (hb : Below w.heap.size w w') : ClV w' c v F := h.keep fun f hf => hb.block f (h.lt f hf)
/-- the two terms of such a clause -/
theorem ClV.parts {w : World} {c : Cla} {v : Value} {F : List Nat} (h : ClV w c v F) : ∃ k1 t1 n1 a1 l1 m1 k2 t2 n2 a2 l2 m2 F1 F2, v = .agg #[.int .i64 k1, .string t1, .int .i64 n1, .slice a1 l1 m1, .int .i64 k2, .string t2, .int .i64 n2, .slice a2 l2 m2, .string c.f] ∧ F = F1 ++ F2 ∧ c.f.size ≤ maxLen ∧ Own 41 w c.h (.agg #[.int .i64 k1, .string t1, .int .i64 n1, .slice a1 l1 m1]) F1 ∧ Own 41 w c.b (.agg #[.int .i64 k2, .string t2, .int .i64 n2, .slice a2 l2 m2]) F2 ∧ F1.Nodup ∧ F2.Nodup ∧ (∀ x ∈ F2, x ∉ F1) := by
  obtain ⟨k1, t1, n1, a1, l1, m1, k2, t2, n2, a2, l2, m2, rfl, o, n⟩ := h
  obtain ⟨q1, q2, q3, q4, q5, q6, q7, q8, q9, q10, q11, q12, F1, F2, e, rfl, hf, h1, h2⟩ := o
  cases e
  obtain ⟨n1', n2', hd⟩ := List.nodup_append.1 n
  exact ⟨_, _, _, _, _, _, _, _, _, _, _, _, F1, F2, rfl, rfl, hf, h1, h2, n1', n2', fun x hx hx' => hd x hx' x hx rfl⟩

/-- a Db of its own and whether it could be -/
def DbB (w : World) (R : List Cla) (xs : List ByteArray) (kb : Bool) (v : Value) (F : List Nat) : Prop :=
  ∃ a p b l k, v = .tuple #[.agg #[.slice a R.length p, .slice b l k], .bool kb] ∧ DbOwn w R xs (.slice a R.length p) (.slice b l k) F
theorem DbB.below {w w' : World} {R : List Cla} {xs : List ByteArray} {kb : Bool} {v : Value} {F : List Nat} (h : DbB w R xs kb v F) (hb : Below w.heap.size w w') : DbB w' R xs kb v F := by
  obtain ⟨a, p, b, l, k, rfl, o⟩ := h
  exact ⟨a, p, b, l, k, rfl, o.below hb⟩
theorem dbOutB_own {w w' : World} {R : List Cla} {xs : List ByteArray} {kb : Bool} {e : Ending} (h : DbOutB w R xs kb e w') : ∃ v F, e = .returned v ∧ DbB w' R xs kb v F ∧ (∀ x ∈ F, w.heap.size ≤ x) ∧ Below w.heap.size w w' := by
  obtain ⟨sl, F, k, g, rfl, o1, o2, o3, o4, o5, o6, o7⟩ := h
  obtain ⟨a, p, rfl⟩ := ownClS_shape o1
  refine ⟨_, _, rfl, ⟨a, p, _, _, _, rfl, dbOwn_of o1 o2 o4 o6⟩, fun x hx => ?_, o7⟩
  rcases List.mem_append.1 hx with hx | hx
  · exact o3 x hx
  · obtain rfl : x = g := by simpa using hx
    exact o5
theorem toClV (c : Cla) (w : World) (k1 t1 n1 a1 l1 m1 k2 t2 n2 a2 l2 m2) (h1 : TmIn w c.h (.agg #[.int .i64 k1, .string t1, .int .i64 n1, .slice a1 l1 m1])) (h2 : TmIn w c.b (.agg #[.int .i64 k2, .string t2, .int .i64 n2, .slice a2 l2 m2])) (hw : c.wt ≤ 1048576) (hf : c.f.size ≤ maxLen) :
    Calls Tryz.prog 8 #[.agg #[.int .i64 k1, .string t1, .int .i64 n1, .slice a1 l1 m1, .int .i64 k2, .string t2, .int .i64 n2, .slice a2 l2 m2, .string c.f]] w fun e w' => ∃ v F, e = .returned v ∧ ClV w' c v F ∧ (∀ x ∈ F, w.heap.size ≤ x) ∧ Below w.heap.size w w' := by
  have e : c.wt = c.h.wt + c.b.wt + c.f.size := rfl
  refine Calls.mono (to_clause c.h c.b c.f w k1 t1 n1 a1 l1 m1 k2 t2 n2 a2 l2 m2 h1 h2 (by omega) (by omega)) ?_
  rintro e w' ⟨q1, q2, q3, q4, q5, q6, q7, q8, q9, q10, q11, q12, F, G, rfl, o1, o2, f1, f2, nd1, nd2, dj, hb⟩
  refine ⟨_, F ++ G, rfl, ⟨q1, q2, q3, q4, q5, q6, q7, q8, q9, q10, q11, q12, rfl, ⟨q1, q2, q3, q4, q5, q6, q7, q8, q9, q10, q11, q12, F, G, rfl, rfl, hf, o1, o2⟩, List.nodup_append.2 ⟨nd1, nd2, fun x hx y hy e => dj y hy (e ▸ hx)⟩⟩, fun x hx => ?_, hb⟩
  rcases List.mem_append.1 hx with hx | hx
  · exact f1 x hx
  · exact f2 x hx
theorem eqClV (c : Cla) (w : World) (v v' : Value) (F G : List Nat) (h : ClV w c v F) (h' : ClV w c v' G) :
    Calls Tryz.prog 11 #[v, v'] w fun e w' => e = .returned (.bool true) ∧ Below w.heap.size w w' := by
  obtain ⟨k1, t1, n1, a1, l1, m1, k2, t2, n2, a2, l2, m2, F1, F2, rfl, rfl, hf, o1, o2, _⟩ := h.parts
  obtain ⟨q1, q2, q3, q4, q5, q6, q7, q8, q9, q10, q11, q12, G1, G2, rfl, rfl, _, o3, o4, _⟩ := h'.parts
  exact eq_clause c.h c.b c.f w _ _ _ _ _ _ _ _ _ _ _ _ _ _ _ _ _ _ _ _ _ _ _ _ (Own.toIn _ _ _ o1) (Own.toIn _ _ _ o2) (Own.toIn _ _ _ o3) (Own.toIn _ _ _ o4)
theorem mkClV (c : Cla) (w : World) (v : Value) (F : List Nat) (i : Nat) (h : ClV w c v F) (hi : 0 < i) (hb : i + 3 * ns c.h.kids + 3 * ns c.b.kids ≤ 2000000000) :
    Calls Tryz.prog 13 #[v, .int .i64 (i : Int)] w fun e w' => ∃ n : Nat, e = .returned (.int .i64 (n : Int)) ∧ Out F w w' := by
  obtain ⟨k1, t1, n1, a1, l1, m1, k2, t2, n2, a2, l2, m2, F1, F2, rfl, rfl, hf, o1, o2, n1', n2', dj⟩ := h.parts
  refine Calls.mono (mark_clause c.h c.b c.f w _ _ _ _ _ _ _ _ _ _ _ _ F1 F2 i _ o1 o2 n1' n2' dj hi rfl hb) ?_
  rintro e w' ⟨rfl, _, _, ho⟩
  exact ⟨_, rfl, ho⟩

/-- what the two arguments made anew are, as far as they are made -/
def FG (u : World) (cs : List Cla) (xs : List ByteArray) (c : Cla) (l1 l3 : Bool) (v1 v3 : Value) : Prop :=
  ∃ F G : List Nat, (∀ x ∈ G, x ∉ F) ∧ (l1 = false → F = []) ∧ (l3 = false → G = []) ∧ (∀ x ∈ F, x < u.heap.size) ∧ (∀ x ∈ G, x < u.heap.size) ∧
    (l1 = true → ∃ a p b l k, v1 = .agg #[.slice a cs.length p, .slice b l k] ∧ DbOwn u cs xs (.slice a cs.length p) (.slice b l k) F) ∧ (l3 = true → ClV u c v3 G)
theorem FG.below {u w : World} {cs : List Cla} {xs : List ByteArray} {c : Cla} {l1 l3 : Bool} {v1 v3 : Value} (h : FG u cs xs c l1 l3 v1 v3) (bq : Below u.heap.size u w) : FG w cs xs c l1 l3 v1 v3 := by
  obtain ⟨F, G, hd, hF0, hG0, hFl, hGl, hF1, hG3⟩ := h
  exact ⟨F, G, hd, hF0, hG0, fun x hx => Nat.lt_of_lt_of_le (hFl x hx) bq.size, fun x hx => Nat.lt_of_lt_of_le (hGl x hx) bq.size, fun h => by obtain ⟨a9, p9, b9, l9, k9, e9, o9⟩ := hF1 h; exact ⟨a9, p9, b9, l9, k9, e9, o9.below bq⟩, fun h => (hG3 h).below bq⟩
theorem FG.db {u w : World} {cs : List Cla} {xs : List ByteArray} {c : Cla} {l3 : Bool} {v1 v3 : Value} (h : FG u cs xs c false l3 v1 v3) (bq : Below u.heap.size u w) {F : List Nat} {a b : Option Addr} {p l k : Nat} (o : DbOwn w cs xs (.slice a cs.length p) (.slice b l k) F) (f : ∀ x ∈ F, u.heap.size ≤ x) : FG w cs xs c true l3 (.agg #[.slice a cs.length p, .slice b l k]) v3 := by
  obtain ⟨F0, G, hd, hF0, hG0, hFl, hGl, hF1, hG3⟩ := h
  exact ⟨F, G, fun x hx hx' => by have := hGl x hx; have := f x hx'; omega, fun h => Bool.noConfusion h, hG0, o.lt, fun x hx => Nat.lt_of_lt_of_le (hGl x hx) bq.size, fun _ => ⟨_, _, _, _, _, rfl, o⟩, fun h => (hG3 h).below bq⟩
theorem FG.cl {u w : World} {cs : List Cla} {xs : List ByteArray} {c : Cla} {l1 : Bool} {v1 v3 v : Value} (h : FG u cs xs c l1 false v1 v3) (bq : Below u.heap.size u w) {G : List Nat} (o : ClV w c v G) (f : ∀ x ∈ G, u.heap.size ≤ x) : FG w cs xs c l1 true v1 v := by
  obtain ⟨F, G0, hd, hF0, hG0, hFl, hGl, hF1, hG3⟩ := h
  exact ⟨F, G, fun x hx hx' => by have := hFl x hx'; have := f x hx; omega, hF0, fun h => Bool.noConfusion h, fun x hx => Nat.lt_of_lt_of_le (hFl x hx) bq.size, o.lt, fun h => by obtain ⟨a9, p9, b9, l9, k9, e9, o9⟩ := hF1 h; exact ⟨a9, p9, b9, l9, k9, e9, o9.below bq⟩, fun _ => o⟩

/-- what Added gave and the block that it is put into, as far as they are there -/
def DD (U u : World) (R : List Cla) (xs : List ByteArray) (kb : Bool) (l4 l8 l9 : Bool) (v4 v8 : Value) : Prop :=
  ∃ (F : List Nat) (q : Nat), (l4 = true → DbB u R xs kb v4 F) ∧ (l4 = false → F = []) ∧ (∀ x ∈ F, x < u.heap.size) ∧
    (l8 = true → v8 = .pointer (some ⟨q, 0, none⟩) ∧ q < u.heap.size ∧ U.heap.size ≤ q ∧ q ∉ F ∧ (l9 = false → u.heap[q]? = some (.cells #[.slice none 0 0, .slice none 0 0] 35 (0, 0))) ∧
      (l9 = true → ∃ a p b l k, v4 = .tuple #[.agg #[.slice a R.length p, .slice b l k], .bool kb] ∧ u.heap[q]? = some (.cells #[.slice a R.length p, .slice b l k] 35 (0, 0))))
theorem DD.below {U u w : World} {R : List Cla} {xs : List ByteArray} {kb l4 l8 l9 : Bool} {v4 v8 : Value} (h : DD U u R xs kb l4 l8 l9 v4 v8) (bq : Below u.heap.size u w) : DD U w R xs kb l4 l8 l9 v4 v8 := by
  obtain ⟨F, q, h1, h2, h3, h4⟩ := h
  refine ⟨F, q, fun h => (h1 h).below bq, h2, fun x hx => Nat.lt_of_lt_of_le (h3 x hx) bq.size, fun h => ?_⟩
  obtain ⟨e1, e2, e3, e4, e5, e6⟩ := h4 h
  exact ⟨e1, Nat.lt_of_lt_of_le e2 bq.size, e3, e4, fun h => (bq.block q e2).trans (e5 h), fun h => by obtain ⟨a, p, b, l, k, e7, e8⟩ := e6 h; exact ⟨a, p, b, l, k, e7, (bq.block q e2).trans e8⟩⟩
theorem DD.made {U u w : World} {R : List Cla} {xs : List ByteArray} {kb l8 : Bool} {v4 v8 r : Value} {F : List Nat} (h : DD U u R xs kb false l8 false v4 v8) (bq : Below u.heap.size u w) (o : DbB w R xs kb r F) (f : ∀ x ∈ F, u.heap.size ≤ x) : DD U w R xs kb true l8 false r v8 := by
  obtain ⟨F0, q, h1, h2, h3, h4⟩ := h
  obtain ⟨a, p, b, l, k, rfl, o'⟩ := o
  refine ⟨F, q, fun _ => ⟨a, p, b, l, k, rfl, o'⟩, fun h => Bool.noConfusion h, o'.lt, fun h => ?_⟩
  obtain ⟨e1, e2, e3, e4, e5, e6⟩ := h4 h
  exact ⟨e1, Nat.lt_of_lt_of_le e2 bq.size, e3, fun hx => by have := f q hx; omega, fun h => (bq.block q e2).trans (e5 h), fun h => Bool.noConfusion h⟩
theorem DD.room {U u : World} {R : List Cla} {xs : List ByteArray} {kb l4 : Bool} {v4 v8 : Value} (h : DD U u R xs kb l4 false false v4 v8) (hU : U.heap.size ≤ u.heap.size) : DD U (u.alloc (.cells #[.slice none 0 0, .slice none 0 0] 35)) R xs kb l4 true false v4 (.pointer (some ⟨u.heap.size, 0, none⟩)) := by
  have bq : Below u.heap.size u (u.alloc (.cells #[.slice none 0 0, .slice none 0 0] 35)) := (Below.refl _ _).alloc (Nat.le_refl _) _
  obtain ⟨F, q, h1, h2, h3, h4⟩ := h
  exact ⟨F, u.heap.size, fun h => (h1 h).below bq, h2, fun x hx => Nat.lt_of_lt_of_le (h3 x hx) bq.size, fun _ => ⟨rfl, by simp, hU, fun hx => by have := h3 _ hx; omega, fun _ => heap_alloc_new _ _, fun h => Bool.noConfusion h⟩⟩
theorem DD.put {U u : World} {R : List Cla} {xs : List ByteArray} {kb : Bool} {v4 v8 : Value} (h : DD U u R xs kb true true false v4 v8) : ∃ q a p b l k, v8 = .pointer (some ⟨q, 0, none⟩) ∧ v4 = .tuple #[.agg #[.slice a R.length p, .slice b l k], .bool kb] ∧ U.heap.size ≤ q ∧ u.heap[q]? = some (.cells #[.slice none 0 0, .slice none 0 0] 35 (0, 0)) ∧ DD U ((u.setCell ⟨q, 0, none⟩ (.slice a R.length p)).setCell ⟨q, 1, none⟩ (.slice b l k)) R xs kb true true true v4 v8 := by
  obtain ⟨F, q, h1, h2, h3, h4⟩ := h
  obtain ⟨a, p, b, l, k, rfl, o⟩ := h1 rfl
  obtain ⟨e1, e2, e3, e4, e5, _⟩ := h4 rfl
  have kq := e5 rfl
  have hs : ((u.setCell ⟨q, 0, none⟩ (.slice a R.length p)).setCell ⟨q, 1, none⟩ (.slice b l k)).heap.size = u.heap.size := by simp
  refine ⟨q, a, p, b, l, k, e1, rfl, e3, kq, F, q, fun _ => ⟨a, p, b, l, k, rfl, o.keep fun x hx => ?_⟩, fun h => Bool.noConfusion h, fun x hx => by rw [hs]; exact h3 x hx, fun _ => ⟨e1, by rw [hs]; exact e2, e3, e4, fun h => Bool.noConfusion h, fun _ => ⟨a, p, b, l, k, rfl, db_two kq⟩⟩⟩
  have hne : x ≠ q := fun e => e4 (e ▸ hx)
  rw [blk_other _ hne, blk_other _ hne]
theorem fi_store {P : Program} {o : Oper} {a : Act} {w w' : World} {φ : Value → World → Prop} {Q : Exit → Act → World → Prop} (hd : o.dst = none) (h : (execOp a.eval o).run P w = .ok .skip w') (hk : φ undef w') :
    o.wp P a w (fun a' w'' => ∃ v, a' = a.put o.dst v ∧ (o.dst = none → v = undef) ∧ φ v w'') Q := by
  unfold Oper.wp
  rw [h]
  exact ⟨undef, by rw [hd], fun _ => rfl, hk⟩

theorem okSome (cs : List Cla) (xs : List ByteArray) (c : Cla) : ∃ kb : Bool, kb = true ↔ ((∀ x ∈ cs ++ [c], okCl x = true) ∧ (cs ++ [c]).length ≤ 120 ∧ xs.length ≤ 40) := by
  by_cases h : (∀ x ∈ cs ++ [c], okCl x = true) ∧ (cs ++ [c]).length ≤ 120 ∧ xs.length ≤ 40
  · exact ⟨true, fun _ => h, fun _ => rfl⟩
  · exact ⟨false, fun e => Bool.noConfusion e, fun h' => absurd h' h⟩

set_option maxHeartbeats 8000000 in
set_option maxRecDepth 20000 in
theorem walk (cs : List Cla) (xs : List ByteArray) (c : Cla) (w : World) (e0 e1 : Value) (k1 t1 n1 a1 l1 m1 k2 t2 n2 a2 l2 m2) (i1 : ClsIn w cs e0) (i2 : SsIn w xs e1) (hf : c.f.size ≤ maxLen) (j1 : TmIn w c.h (.agg #[.int .i64 k1, .string t1, .int .i64 n1, .slice a1 l1 m1])) (j2 : TmIn w c.b (.agg #[.int .i64 k2, .string t2, .int .i64 n2, .slice a2 l2 m2])) (hT : PowW w) :
    Calls Tryz.prog 3 #[.agg #[e0, e1], .agg #[.int .i64 k1, .string t1, .int .i64 n1, .slice a1 l1 m1, .int .i64 k2, .string t2, .int .i64 n2, .slice a2 l2 m2, .string c.f]] w fun e w' => e = .returned (.bool true) ∧ Below w.heap.size w w' := by
  obtain ⟨W, hW⟩ : ∃ W, W = (w.alloc (.cells #[e0, e1] 25)).alloc (.cells #[.int .i64 k1, .string t1, .int .i64 n1, .slice a1 l1 m1, .int .i64 k2, .string t2, .int .i64 n2, .slice a2 l2 m2, .string c.f] 30) := ⟨_, rfl⟩
  have bW : Below w.heap.size w W := by rw [hW]; exact ((Below.refl _ _).alloc (Nat.le_refl _) _).alloc (by simp) _
  have q1 : W.heap[w.heap.size]? = some (.cells #[e0, e1] 25 (0, 0)) := by rw [hW]; exact (alloc_old _ _ (by simp)).trans (alloc_at _ _ rfl)
  have q2 : W.heap[w.heap.size + 1]? = some (.cells #[.int .i64 k1, .string t1, .int .i64 n1, .slice a1 l1 m1, .int .i64 k2, .string t2, .int .i64 n2, .slice a2 l2 m2, .string c.f] 30 (0, 0)) := by rw [hW]; exact alloc_at _ _ (by simp)
  have lW : W.heap.size = w.heap.size + 2 := by rw [hW]; simp
  have HBW : Hid (Below w.heap.size w W) := bW
  have HSZ0 := sz_db cs xs W e0 e1 1048576 (i1.keep bW) (i2.keep bW) (Nat.le_refl _)
  obtain ⟨p, hp⟩ : ∃ p, p = w.heap.size := ⟨_, rfl⟩
  rw [← hp] at q1 q2 lW
  have HARG : Hid (∀ w', Below W.heap.size W w' → (ClsIn w' cs e0 ∧ SsIn w' xs e1 ∧ TmIn w' c.h (.agg #[.int .i64 k1, .string t1, .int .i64 n1, .slice a1 l1 m1]) ∧ TmIn w' c.b (.agg #[.int .i64 k2, .string t2, .int .i64 n2, .slice a2 l2 m2])) ∧ (w'.cell? ⟨p, 0, none⟩ = some e0 ∧ w'.cell? ⟨p, 1, none⟩ = some e1) ∧ w'.heap[p + 1]? = some (.cells #[.int .i64 k1, .string t1, .int .i64 n1, .slice a1 l1 m1, .int .i64 k2, .string t2, .int .i64 n2, .slice a2 l2 m2, .string c.f] 30 (0, 0))) := fun w' hb => by
    have hq := (hb.block p (by omega)).trans q1
    exact ⟨⟨(i1.keep bW).keep hb, (i2.keep bW).keep hb, TmIn.keep hb _ _ (TmIn.keep bW _ _ j1), TmIn.keep hb _ _ (TmIn.keep bW _ _ j2)⟩, ⟨blk_cell (i := 0) hq (by simp), blk_cell (i := 1) hq (by simp)⟩, (hb.block (p + 1) (by omega)).trans q2⟩
  have HTB : Hid (∀ V, Below W.heap.size W V → PowW V) := fun V hb => pow_keep hT (bW.trans (hb.mono bW.size))
  have HSC0 : ∀ (L : Nat), L ≤ 1048576 → ∀ w1, Below W.heap.size W w1 → Calls Tryz.prog 5 #[.agg #[.int .i64 k1, .string t1, .int .i64 n1, .slice a1 l1 m1, .int .i64 k2, .string t2, .int .i64 n2, .slice a2 l2 m2, .string c.f], .int .i64 (L : Int)] w1 fun e w' => e = .returned (.int .i64 (szR (c.h.wt + c.b.wt + c.f.size) L)) ∧ Below w1.heap.size w1 w' := fun L hL w1 hb => sz_clause c.h c.b c.f w1 L _ _ _ _ _ _ _ _ _ _ _ _ (HARG.out w1 hb).1.2.2.1 (HARG.out w1 hb).1.2.2.2 hf hL
  obtain ⟨d2, p2, rfl, -⟩ := i2
  obtain ⟨d1, p1, rfl, -⟩ := i1
  have HPP : Hid (p = w.heap.size ∧ W.heap.size = p + 2) := ⟨hp, lW⟩
  obtain ⟨⟨_, _, _, _⟩, ⟨y0, y1⟩, _⟩ := HARG.out W (Below.refl _ _)
  clear bW q1 q2 lW hT j1 j2
  by_cases hwt : dbWt cs xs ≤ 1048576
  · rw [show szR (dbWt cs xs) 1048576 = ((1048576 - dbWt cs xs : Nat) : Int) from if_pos hwt] at HSZ0
    have HSZ : Hid _ := HSZ0
    obtain ⟨L1, hL1⟩ : ∃ L1, L1 = 1048576 - dbWt cs xs := ⟨_, rfl⟩
    have HSC : Hid _ := HSC0 L1 (by omega)
    rw [← hL1] at HSZ
    have hl : ¬ ((L1 : Nat) : Int) < 0 := by omega
    clear HSC0 HSZ0
    by_cases hwc : c.h.wt + c.b.wt + c.f.size ≤ L1
    · rw [show szR (c.h.wt + c.b.wt + c.f.size) L1 = ((L1 - (c.h.wt + c.b.wt + c.f.size) : Nat) : Int) from if_pos hwc] at HSC
      have hl2 : ¬ ((L1 - (c.h.wt + c.b.wt + c.f.size) : Nat) : Int) < 0 := by omega
      have ew : c.wt = c.h.wt + c.b.wt + c.f.size := rfl
      have hw1 : cs.length + claWts cs + c.wt ≤ 1048576 := by unfold dbWt at hwt hL1; omega
      have hw2 : xs.length + strWts xs ≤ 1048576 := by unfold dbWt at hwt; omega
      have hsz : ∀ x ∈ xs, x.size ≤ maxLen := fun x hx => by have := strWt_le hx; unfold maxLen; omega
      generalize ((L1 - (c.h.wt + c.b.wt + c.f.size) : Nat) : Int) = L2 at *
      generalize ((L1 : Nat) : Int) = L1' at *
      obtain ⟨kb, hkb⟩ := okSome cs xs c
      obtain ⟨R, hR⟩ : ∃ R : List Cla, R = if kb then cs ++ [c] else cs := ⟨_, rfl⟩
      have hRl : R.length + claWts R ≤ 1048577 := by
        rw [hR]
        split
        · rw [claWts_append]; simp [claWts]; omega
        · omega
      have HTO : Hid (∀ w1, ClsIn w1 cs (.slice d1 cs.length p1) → SsIn w1 xs (.slice d2 xs.length p2) → Calls Tryz.prog 7 #[.agg #[.slice d1 cs.length p1, .slice d2 xs.length p2]] w1 fun e w' => ∃ a p b l k F, e = .returned (.agg #[.slice a cs.length p, .slice b l k]) ∧ DbOwn w' cs xs (.slice a cs.length p) (.slice b l k) F ∧ (∀ x ∈ F, w1.heap.size ≤ x) ∧ Below w1.heap.size w1 w') := fun w1 h1 h2 => by
        refine Calls.mono (to_dbO cs xs w1 _ _ h1 h2 (by omega) (by omega)) ?_
        rintro e w' ⟨q0, q1, F, rfl, o, f, b⟩
        obtain ⟨a5, p5, b5, l5, k5, rfl, rfl⟩ := o.shape
        exact ⟨_, _, _, _, _, F, rfl, o, f, b⟩
      have HTC : Hid (∀ w1, TmIn w1 c.h (.agg #[.int .i64 k1, .string t1, .int .i64 n1, .slice a1 l1 m1]) → TmIn w1 c.b (.agg #[.int .i64 k2, .string t2, .int .i64 n2, .slice a2 l2 m2]) → Calls Tryz.prog 8 #[.agg #[.int .i64 k1, .string t1, .int .i64 n1, .slice a1 l1 m1, .int .i64 k2, .string t2, .int .i64 n2, .slice a2 l2 m2, .string c.f]] w1 fun e w' => ∃ v F, e = .returned v ∧ ClV w' c v F ∧ (∀ x ∈ F, w1.heap.size ≤ x) ∧ Below w1.heap.size w1 w') := fun w1 h1 h2 => toClV c w1 _ _ _ _ _ _ _ _ _ _ _ _ h1 h2 (by omega) hf
      have HSP : Hid (∀ w1 d0 d1 F v G, Below W.heap.size W w1 → DbOwn w1 cs xs d0 d1 F → ClV w1 c v G → (∀ x ∈ G, x ∉ F) → Calls Tryz.prog 6 #[.agg #[d0, d1], v] w1 fun e w' => ∃ r F', e = .returned r ∧ DbB w' R xs kb r F' ∧ (∀ x ∈ F', w1.heap.size ≤ x) ∧ Below w1.heap.size w1 w') := fun w1 q0 q1 F v G _ h hv _ => by
        obtain ⟨g1, g2, _⟩ := h.args hsz
        obtain ⟨k6, t6, n6, a6, l6, m6, k7, t7, n7, a7, l7, m7, F1, F2, rfl, rfl, hf9, o1, o2, _⟩ := hv.parts
        exact Calls.mono (s_added cs xs c w1 _ _ _ _ _ _ _ _ _ _ _ _ _ _ g1 g2 hf9 (Own.toIn _ _ _ o1) (Own.toIn _ _ _ o2) hw1 hw2 kb hkb R hR) fun e w' h => dbOutB_own h
      have HIM : Hid (∀ w1 d0 d1 F v G, Below W.heap.size W w1 → DbOwn w1 cs xs d0 d1 F → ClV w1 c v G → (∀ x ∈ G, x ∉ F) → Calls Tryz.prog 9 #[.agg #[d0, d1], v] w1 fun e w' => ∃ r F', e = .returned r ∧ DbB w' R xs kb r F' ∧ (∀ x ∈ F', w1.heap.size ≤ x) ∧ Below w1.heap.size w1 w') := fun w1 q0 q1 F v G hb h hv hd => by
        obtain ⟨_, g2, _⟩ := h.args hsz
        obtain ⟨a5, p5, g5, k5, F0, rfl, rfl, h1, h2, rfl, h3⟩ := h
        obtain ⟨k6, t6, n6, a6, l6, m6, k7, t7, n7, a7, l7, m7, rfl, o6, nd6⟩ := hv
        have := i_added cs xs c w1 _ _ F0 G _ _ _ _ _ _ _ _ _ _ _ _ h1 (List.nodup_append.1 h3).1 g2 o6 nd6 (fun x hx hx' => hd x hx (List.mem_append_left _ hx')) hw1 hw2 (HTB.out w1 hb) kb hkb
        rw [← hR] at this
        exact Calls.mono this fun e w' h => dbOutB_own h
      have HEQ : Hid (∀ w1 c0 c1 d0 d1 F G, DbOwn w1 R xs c0 c1 F → DbOwn w1 R xs d0 d1 G → Calls Tryz.prog 10 #[.agg #[c0, c1], .agg #[d0, d1]] w1 fun e w' => e = .returned (.bool true) ∧ Below w1.heap.size w1 w') := fun w1 c0 c1 d0 d1 F G h1 h2 => eq_dbO R xs w1 c0 c1 d0 d1 F G h1 h2 (by omega)
      have HEX : Hid (∀ w1 c0 c1 d0 d1 F G, DbOwn w1 cs xs c0 c1 F → DbOwn w1 cs xs d0 d1 G → Calls Tryz.prog 10 #[.agg #[c0, c1], .agg #[d0, d1]] w1 fun e w' => e = .returned (.bool true) ∧ Below w1.heap.size w1 w') := fun w1 c0 c1 d0 d1 F G h1 h2 => eq_dbO cs xs w1 c0 c1 d0 d1 F G h1 h2 (by omega)
      have hns := claNs_le cs
      have hnr := claNs_le R
      have hnk : ns c.h.kids ≤ 1048576 ∧ ns c.b.kids ≤ 1048576 := by
        have hk : ∀ u : Tm, ns u.kids + 1 = u.n := fun u => by
          obtain ⟨k, s, n, ks⟩ := u
          rw [n_mk]
          show ns ks + 1 = 1 + ns ks
          omega
        have h1 := n_le_wt c.h
        have h2 := n_le_wt c.b
        have h3 := hk c.h
        have h4 := hk c.b
        omega
      have HMX : Hid (∀ w1 c0 c1 F, DbOwn w1 cs xs c0 c1 F → Calls Tryz.prog 12 #[.agg #[c0, c1], .int .i64 1] w1 fun e w' => ∃ n : Nat, e = .returned (.int .i64 (n : Int)) ∧ Out F w1 w' ∧ 0 < n ∧ n ≤ 1000000000) := fun w1 c0 c1 F h => Calls.mono (mark_dbO cs xs w1 c0 c1 F h (by omega) (by omega)) fun e w' h => ⟨_, h.1, h.2.2, by omega, by omega⟩
      have HMC : Hid (∀ w1 v G (n : Nat), 0 < n → n ≤ 1000000000 → ClV w1 c v G → Calls Tryz.prog 13 #[v, .int .i64 (n : Int)] w1 fun e w' => ∃ n' : Nat, e = .returned (.int .i64 (n' : Int)) ∧ Out G w1 w') := fun w1 v G n h1 h2 h => mkClV c w1 v G n h h1 (by omega)
      obtain ⟨N, hN⟩ : ∃ N : Nat, N = 1 + claNs R + xs.length := ⟨_, rfl⟩
      have HMR : Hid (∀ w1 c0 c1 F, DbOwn w1 R xs c0 c1 F → Calls Tryz.prog 12 #[.agg #[c0, c1], .int .i64 1] w1 fun e w' => e = .returned (.int .i64 (N : Int)) ∧ DbMarked w' R xs.length c0 c1 ∧ Out F w1 w') := fun w1 c0 c1 F h => by rw [hN]; exact mark_dbO R xs w1 c0 c1 F h (by omega) (by omega)
      have HHD : Hid (∀ w1 c0 c1, DbMarked w1 R xs.length c0 c1 → Calls Tryz.prog 14 #[.agg #[c0, c1], .int .i64 1] w1 fun e w' => e = .returned (.int .i64 (N : Int)) ∧ Below w1.heap.size w1 w') := fun w1 c0 c1 h => by rw [hN]; exact held_dbO R xs.length w1 c0 c1 h (by omega) (by omega)
      have HEC : Hid (∀ w1 v v' F G, ClV w1 c v F → ClV w1 c v' G → Calls Tryz.prog 11 #[v, v'] w1 fun e w' => e = .returned (.bool true) ∧ Below w1.heap.size w1 w') := fun w1 v v' F G h h' => eqClV c w1 v v' F G h h'
      have hN0 : ¬ ((N : Nat) : Int) < 0 := by omega
      clear hwt hw1 hw2 hsz hR hRl hns hnr hnk hN hkb hwc hL1 ew hf
      go_enter Tryz.func3, Tryz.ntmps3
      go_upto_region 1 with fail
      rw [← hW, ← hp]
      clear hW hp
      go_upto_region 5 with (go_at_call 4; refine (Calls.mono HSZ.out ?_); rintro e w1 ⟨rfl, hb⟩; have HB1 : Hid (Below W.heap.size W w1) := hb; clear hb)
      clear y0 y1
      have HC1 : Hid _ := HSC.out w1 HB1.out
      obtain ⟨_, _, hq9⟩ := HARG.out w1 HB1.out
      obtain ⟨⟨x0, x1, x2, x3, x4, x5, x6, x7, x8⟩, _⟩ := blk9 hq9
      clear hq9
      go_upto_region 8 with (go_at_call 5; refine (Calls.mono HC1.out ?_); rintro e w2 ⟨rfl, hb⟩; have HB2 : Hid (Below W.heap.size W w2) := HB1.out.trans (hb.mono HB1.out.size); clear hb)
      clear x0 x1 x2 x3 x4 x5 x6 x7 x8 HC1 HB1 HSC HSZ hl hl2
      refine FI.wp_region_inv 11 (fun L v u =>
        Below w2.heap.size w2 u ∧ (L 0 = true → v 0 = .agg #[.slice d1 cs.length p1, .slice d2 xs.length p2]) ∧ (L 2 = true → v 2 = .agg #[.int .i64 k1, .string t1, .int .i64 n1, .slice a1 l1 m1, .int .i64 k2, .string t2, .int .i64 n2, .slice a2 l2 m2, .string c.f]) ∧ (L 4 = false → FG u cs xs c (L 1) (L 3) (v 1) (v 3)) ∧ DD w2 u R xs kb (L 4) (L 8) (L 9) (v 4) (v 8) ∧
        (L 5 = true → L 4 = true ∧ v 5 = v 4) ∧ (L 6 = true → L 4 = true ∧ ∃ x y, v 4 = .tuple #[x, y] ∧ v 6 = x) ∧ (L 7 = true → L 4 = true ∧ ∃ x y, v 4 = .tuple #[x, y] ∧ v 7 = y) ∧
        (L 9 = true → L 4 = true ∧ L 8 = true) ∧ (L 10 = true → L 7 = true ∧ v 10 = v 7)) (by kernel_rfl) (by kernel_rfl) 119 rfl (by kernel_rfl) ?_ ?_ ?_
      · intro vals
        exact ⟨(Below.refl _ _).drew, fun h => Bool.noConfusion h, fun h => Bool.noConfusion h, fun _ => ⟨[], [], by simp, fun _ => rfl, fun _ => rfl, by simp, by simp, fun h => Bool.noConfusion h, fun h => Bool.noConfusion h⟩, ⟨[], 0, fun h => Bool.noConfusion h, fun _ => rfl, by simp, fun h => Bool.noConfusion h⟩, fun h => Bool.noConfusion h, fun h => Bool.noConfusion h, fun h => Bool.noConfusion h, fun h => Bool.noConfusion h, fun h => Bool.noConfusion h⟩
      · intro i o hi ho L a u hI hcl hli hfr hdep
        obtain ⟨hb, h0, h2, hFG, hD, h5, h6, h7, h9, h10⟩ := hI
        have u2 : a.tmps.getD 2 undef = .pointer (some ⟨p, 0, none⟩) := hfr 2 (by decide)
        have u3 : a.tmps.getD 3 undef = .pointer (some ⟨p + 1, 0, none⟩) := hfr 3 (by decide)
        have hbw : Below W.heap.size W u := (HB2.out).trans (hb.mono (HB2.out).size)
        obtain ⟨⟨g1, g2, g3, g4⟩, ⟨y0, y1⟩, hq9⟩ := HARG.out u hbw
        match i, hi with
        | 0, _ =>
          obtain rfl : _ = o := by simpa using ho
          refine FI.fact_value (w' := u) (v := .agg #[.slice d1 cs.length p1, .slice d2 xs.length p2]) rfl ?_ ⟨hb, fun _ => rfl, h2, hFG, hD, h5, h6, h7, h9, h10⟩
          clear h0 h2 hFG hD h5 h6 h7 h9 h10 hcl hdep hfr ho g1 g2 g3 g4 hq9
          simp only [execOp, Act.eval, u2]
          go_simp
        | 1, _ =>
          obtain rfl : _ = o := by simpa using ho
          have y : a.tmps.getD 28 undef = .agg #[.slice d1 cs.length p1, .slice d2 xs.length p2] := h0 (hdep 0 (by kernel_rfl))
          refine FI.fact_call rfl rfl Tryz.func7 (by kernel_rfl) (by kernel_rfl) (args := #[.agg #[.slice d1 cs.length p1, .slice d2 xs.length p2]]) (by simp [Act.eval]; simpa using y) ?_
          refine Calls.mono (HTO.out u g1 g2) ?_
          rintro e w4 ⟨a5, p5, b5, l5, k5, F5, rfl, o5, f5, bq⟩
          exact ⟨_, rfl, hb.trans (bq.mono hb.size), h0, h2, fun h => FG.db (by have := hFG h; rw [hli] at this; exact this) bq o5 f5, hD.below bq, h5, h6, h7, h9, h10⟩
        | 2, _ =>
          obtain rfl : _ = o := by simpa using ho
          obtain ⟨⟨x0, x1, x2, x3, x4, x5, x6, x7, x8⟩, _⟩ := blk9 hq9
          refine FI.fact_value (w' := u) (v := .agg #[.int .i64 k1, .string t1, .int .i64 n1, .slice a1 l1 m1, .int .i64 k2, .string t2, .int .i64 n2, .slice a2 l2 m2, .string c.f]) rfl ?_ ⟨hb, h0, fun _ => rfl, hFG, hD, h5, h6, h7, h9, h10⟩
          clear h0 h2 hFG hD h5 h6 h7 h9 h10 hcl hdep hfr ho g1 g2 g3 g4 hq9 y0 y1
          simp only [execOp, Act.eval, u3]
          go_simp
        | 3, _ =>
          obtain rfl : _ = o := by simpa using ho
          have y : a.tmps.getD 30 undef = .agg #[.int .i64 k1, .string t1, .int .i64 n1, .slice a1 l1 m1, .int .i64 k2, .string t2, .int .i64 n2, .slice a2 l2 m2, .string c.f] := h2 (hdep 2 (by kernel_rfl))
          refine FI.fact_call rfl rfl Tryz.func8 (by kernel_rfl) (by kernel_rfl) (args := #[.agg #[.int .i64 k1, .string t1, .int .i64 n1, .slice a1 l1 m1, .int .i64 k2, .string t2, .int .i64 n2, .slice a2 l2 m2, .string c.f]]) (by simp [Act.eval]; simpa using y) ?_
          refine Calls.mono (HTC.out u g3 g4) ?_
          rintro e w4 ⟨v5, G5, rfl, o5, f5, bq⟩
          exact ⟨_, rfl, hb.trans (bq.mono hb.size), h0, h2, fun h => FG.cl (by have := hFG h; rw [hli] at this; exact this) bq o5 f5, hD.below bq, h5, h6, h7, h9, h10⟩
        | 4, _ =>
          obtain rfl : _ = o := by simpa using ho
          obtain ⟨F, G, hd, hF0, hG0, hFl, hGl, hF1, hG3⟩ := hFG hli
          obtain ⟨a5, p5, b5, l5, k5, e5, o5⟩ := hF1 (hdep 1 (by kernel_rfl))
          obtain ⟨k6, t6, n6, a6, l6, m6, k7, t7, n7, a7, l7, m7, e6, o6, nd6⟩ := hG3 (hdep 3 (by kernel_rfl))
          have e5' : a.tmps.getD 29 undef = .agg #[.slice a5 cs.length p5, .slice b5 l5 k5] := e5
          have e6' : a.tmps.getD 31 undef = .agg #[.int .i64 k6, .string t6, .int .i64 n6, .slice a6 l6 m6, .int .i64 k7, .string t7, .int .i64 n7, .slice a7 l7 m7, .string c.f] := e6
          have l9 : L 9 = false := by cases h : L 9 with | false => rfl | true => exact absurd (h9 h).1 (by simp [hli])
          rw [hli, l9] at hD
          refine FI.fact_call rfl rfl Tryz.func6 (by kernel_rfl) (by kernel_rfl) (args := #[.agg #[.slice a5 cs.length p5, .slice b5 l5 k5], .agg #[.int .i64 k6, .string t6, .int .i64 n6, .slice a6 l6 m6, .int .i64 k7, .string t7, .int .i64 n7, .slice a7 l7 m7, .string c.f]]) (by simp [Act.eval]; exact ⟨by simpa using e5', by simpa using e6'⟩) ?_
          refine Calls.mono (HSP.out u _ _ F _ G hbw o5 ⟨_, _, _, _, _, _, _, _, _, _, _, _, rfl, o6, nd6⟩ hd) ?_
          rintro e w4 ⟨r, F4, rfl, o4, f4, bq⟩
          have hD' := hD.made bq o4 f4
          rw [← l9] at hD'
          exact ⟨_, rfl, hb.trans (bq.mono hb.size), h0, h2, fun h => Bool.noConfusion (show true = false from h), hD', fun h => absurd (h5 h).1 (by simp [hli]), fun h => absurd (h6 h).1 (by simp [hli]), fun h => absurd (h7 h).1 (by simp [hli]), fun h => absurd (h9 h).1 (by simp [hli]), h10⟩
        | 5, _ =>
          obtain rfl : _ = o := by simpa using ho
          refine FI.fact_value (w' := u) (v := a.tmps.getD 32 undef) rfl ?_ ⟨hb, h0, h2, hFG, hD, fun _ => ⟨hdep 4 (by kernel_rfl), rfl⟩, h6, h7, h9, h10⟩
          clear h0 h2 hFG hD h5 h6 h7 h9 h10 hcl hdep hfr ho g1 g2 g3 g4 hq9 y0 y1
          simp only [execOp, Act.eval]
          go_simp
        | 6, _ =>
          obtain rfl : _ = o := by simpa using ho
          obtain ⟨e4, e5⟩ := h5 (hdep 5 (by kernel_rfl))
          have hD9 := hD
          rw [e4] at hD9
          obtain ⟨F9, _, q1, _⟩ := hD9
          obtain ⟨a9, p9, b9, l9, k9, e9, o9⟩ := q1 rfl
          have y : a.tmps.getD 27 undef = .tuple #[.agg #[.slice a9 R.length p9, .slice b9 l9 k9], .bool kb] := e5.trans e9
          refine FI.fact_value (w' := u) (v := .agg #[.slice a9 R.length p9, .slice b9 l9 k9]) rfl ?_ ⟨hb, h0, h2, hFG, hD, h5, fun _ => ⟨e4, _, _, e9, rfl⟩, h7, h9, h10⟩
          clear h0 h2 hFG hD h5 h6 h7 h9 h10 hcl hdep hfr ho g1 g2 g3 g4 hq9 y0 y1 e9 o9 e5 q1
          simp only [execOp, Act.eval, y]
          go_simp
        | 7, _ =>
          obtain rfl : _ = o := by simpa using ho
          obtain ⟨e4, e5⟩ := h5 (hdep 5 (by kernel_rfl))
          have hD9 := hD
          rw [e4] at hD9
          obtain ⟨F9, _, q1, _⟩ := hD9
          obtain ⟨a9, p9, b9, l9, k9, e9, o9⟩ := q1 rfl
          have y : a.tmps.getD 27 undef = .tuple #[.agg #[.slice a9 R.length p9, .slice b9 l9 k9], .bool kb] := e5.trans e9
          refine FI.fact_value (w' := u) (v := .bool kb) rfl ?_ ⟨hb, h0, h2, hFG, hD, h5, h6, fun _ => ⟨e4, _, _, e9, rfl⟩, h9, fun h => absurd (h10 h).1 (by simp [hli])⟩
          clear h0 h2 hFG hD h5 h6 h7 h9 h10 hcl hdep hfr ho g1 g2 g3 g4 hq9 y0 y1 e9 o9 e5 q1
          simp only [execOp, Act.eval, y]
          go_simp
        | 8, _ =>
          obtain rfl : _ = o := by simpa using ho
          have bq : Below u.heap.size u (u.alloc (.cells #[.slice none 0 0, .slice none 0 0] 35)) := (Below.refl _ _).alloc (Nat.le_refl _) _
          have l9 : L 9 = false := by cases h : L 9 with | false => rfl | true => exact absurd (h9 h).2 (by simp [hli])
          rw [hli, l9] at hD
          have hD' := hD.room hb.size
          rw [← l9] at hD'
          refine FI.fact_value (w' := u.alloc (.cells #[.slice none 0 0, .slice none 0 0] 35)) (v := .pointer (some ⟨u.heap.size, 0, none⟩)) rfl ?_ ⟨hb.trans (bq.mono hb.size), h0, h2, fun h => (hFG h).below bq, hD', h5, h6, h7, fun h => absurd (h9 h).2 (by simp [hli]), h10⟩
          clear h0 h2 hFG hD h5 h6 h7 h9 h10 hcl hdep hfr ho g1 g2 g3 g4 hq9 y0 y1
          simp only [execOp]
          go_simp
        | 9, _ =>
          obtain rfl : _ = o := by simpa using ho
          have l6 := hdep 6 (by kernel_rfl)
          have l8 := hdep 8 (by kernel_rfl)
          obtain ⟨l4, x9, y9, e9, e10⟩ := h6 l6
          rw [l4, l8, hli] at hD
          obtain ⟨q, a9, p9, b9, l9, k9, e1, e2, e3, kq, hD'⟩ := hD.put
          rw [e2] at e9
          cases e9
          have y6 : a.tmps.getD 33 undef = .agg #[.slice a9 R.length p9, .slice b9 l9 k9] := e10
          have y8 : a.tmps.getD 6 undef = .pointer (some ⟨q, 0, none⟩) := e1
          have z0 := blk_cell (i := 0) kq (by simp)
          have z1 := blk_cell (i := 1) kq (by simp)
          have z2 := blk_frozen kq 0
          have z3 := blk_frozen kq 1
          refine fi_store (w' := (u.setCell ⟨q, 0, none⟩ (.slice a9 R.length p9)).setCell ⟨q, 1, none⟩ (.slice b9 l9 k9)) rfl ?_ ⟨below_set (below_set hb e3 _) e3 _, h0, h2, fun h => Bool.noConfusion (l4.symm.trans h), by show DD _ _ R xs kb (L 4) (L 8) true _ _; rw [l4, l8]; exact hD', h5, h6, h7, fun _ => ⟨l4, l8⟩, h10⟩
          clear h0 h2 hFG hD hD' h5 h6 h7 h9 h10 hcl hdep hfr ho g1 g2 g3 g4 hq9 y0 y1 e1 e2 e10 kq
          simp only [execOp, Act.eval, y6, y8]
          go_simp
        | 10, _ =>
          obtain rfl : _ = o := by simpa using ho
          have l7 := hdep 7 (by kernel_rfl)
          refine FI.fact_value (w' := u) (v := a.tmps.getD 34 undef) rfl ?_ ⟨hb, h0, h2, hFG, hD, h5, h6, h7, h9, fun _ => ⟨l7, rfl⟩⟩
          clear h0 h2 hFG hD h5 h6 h7 h9 h10 hcl hdep hfr ho g1 g2 g3 g4 hq9 y0 y1
          simp only [execOp, Act.eval]
          go_simp
      intro L vals u3 hall hI
      obtain ⟨hb, _, _, _, hD, _, h6, h7, _, h10⟩ := hI
      rw [hall 4 (by omega), hall 8 (by omega), hall 9 (by omega)] at hD
      obtain ⟨F3, q3, hd1, _, _, hd2⟩ := hD
      obtain ⟨e8, _, hq3, _, _, hd3⟩ := hd2 rfl
      obtain ⟨a3, p3, b3, l3, m3, e4, kq⟩ := hd3 rfl
      obtain ⟨a9, p9, b9, l9, m9, e4', o3⟩ := hd1 rfl
      rw [e4] at e4'
      cases e4'
      obtain ⟨_, x10, y10, e7a, e7⟩ := h7 (hall 7 (by omega))
      obtain ⟨_, e10⟩ := h10 (hall 10 (by omega))
      rw [e4] at e7a
      cases e7a
      rw [e7] at e10
      simp only [FZ.putN, List.getElem?_toArray, List.getElem?_cons_zero, List.getElem?_cons_succ, Option.bind_some, List.drop_succ_cons, List.drop_zero, e8, e10]
      generalize vals 0 = r0
      generalize vals 1 = r1
      generalize vals 2 = r2
      generalize vals 3 = r3
      generalize vals 4 = r4
      generalize vals 5 = r5
      generalize vals 6 = r6
      generalize vals 7 = r7
      generalize vals 9 = r9
      simp only [Act.put, List.setIfInBounds_toArray, List.set_cons_succ, List.set_cons_zero]
      clear e4 e7 e8 e10 h6 h7 h10 hall hd1 hd2 hd3

      have HBB : Hid (Below W.heap.size W u3) := HB2.out.trans (hb.mono HB2.out.size)
      have H6 : Hid (∀ w', Below u3.heap.size u3 w' → w'.cell? ⟨q3, 0, none⟩ = some (.slice a3 R.length p3) ∧ w'.cell? ⟨q3, 1, none⟩ = some (.slice b3 l3 m3) ∧ DbOwn w' R xs (.slice a3 R.length p3) (.slice b3 l3 m3) F3) := fun w' hb => by
        have hq := (hb.block q3 (Array.getElem?_eq_some_iff.1 kq).1).trans kq
        exact ⟨blk_cell (i := 0) hq (by simp), blk_cell (i := 1) hq (by simp), o3.below hb⟩
      clear hb hq3 kq o3 HB2
      go_upto_region 9 with fail
      -- x0
      obtain ⟨⟨g1, g2, _, _⟩, ⟨y0, y1⟩, _⟩ := HARG.out u3 HBB.out
      have HC7 : Hid _ := HTO.out u3 g1 g2
      clear g1 g2
      go_upto_region 10 with (go_at_call 7; refine (Calls.mono HC7.out ?_); rintro e w4 ⟨a7, p7, b77, l7, m7, F7, rfl, o7, f7, b7⟩; have O7 : Hid (DbOwn w4 cs xs (.slice a7 cs.length p7) (.slice b77 l7 m7) F7) := o7; have N7 : Hid (∀ x ∈ F7, u3.heap.size ≤ x) := f7; have B7 : Hid (Below u3.heap.size u3 w4) := b7; clear o7 f7 b7)
      clear y0 y1 HC7
      obtain ⟨W4, hW4⟩ : ∃ W4, W4 = w4.alloc (.cells #[.slice a7 cs.length p7, .slice b77 l7 m7] 35) := ⟨_, rfl⟩
      rw [← hW4]
      have bW4 : Below w4.heap.size w4 W4 := by rw [hW4]; exact (Below.refl _ _).alloc (Nat.le_refl _) _
      have k7b : W4.heap[w4.heap.size]? = some (.cells #[.slice a7 cs.length p7, .slice b77 l7 m7] 35 (0, 0)) := by rw [hW4]; exact heap_alloc_new _ _
      have HB4 : Hid (Below u3.heap.size u3 W4) := B7.out.trans (bW4.mono B7.out.size)
      have O7' : Hid (DbOwn W4 cs xs (.slice a7 cs.length p7) (.slice b77 l7 m7) F7) := O7.out.below bW4
      have L7 : Hid (∀ x ∈ F7, x < w4.heap.size) := O7.out.lt
      have sW4 : W4.heap.size = w4.heap.size + 1 := by rw [hW4]; simp
      have hs34 : u3.heap.size ≤ w4.heap.size := B7.out.size
      obtain ⟨q7, hp7⟩ : ∃ q7, q7 = w4.heap.size := ⟨_, rfl⟩
      rw [← hp7] at k7b sW4 L7 hs34 ⊢
      have K7 : Hid (W4.heap[q7]? = some (.cells #[.slice a7 cs.length p7, .slice b77 l7 m7] 35 (0, 0))) := k7b
      clear hW4 bW4 k7b O7 B7 hp7
      -- x1
      obtain ⟨⟨_, _, g3, g4⟩, _, hq9⟩ := HARG.out W4 (HBB.out.trans (HB4.out.mono HBB.out.size))
      obtain ⟨⟨x0, x1, x2, x3, x4, x5, x6, x7, x8⟩, _⟩ := blk9 hq9
      have HC8 : Hid _ := HTC.out W4 g3 g4
      clear g3 g4 hq9
      go_upto_region 11 with (go_at_call 8; refine (Calls.mono HC8.out ?_); rintro e w5 ⟨v8, G8, rfl, o8, f8, b8⟩; obtain ⟨k4, t4, n4, a4, l4, m4, k5, t5, n5, a5, l5, m5, rfl, o8', nd8⟩ := o8; have O8 : Hid (ClV w5 c (.agg #[.int .i64 k4, .string t4, .int .i64 n4, .slice a4 l4 m4, .int .i64 k5, .string t5, .int .i64 n5, .slice a5 l5 m5, .string c.f]) G8) := ⟨_, _, _, _, _, _, _, _, _, _, _, _, rfl, o8', nd8⟩; have N8 : Hid (∀ x ∈ G8, W4.heap.size ≤ x) := f8; have B8 : Hid (Below W4.heap.size W4 w5) := b8; clear o8' f8 b8 nd8)
      clear x0 x1 x2 x3 x4 x5 x6 x7 x8 HC8
      obtain ⟨W5, hW5⟩ : ∃ W5, W5 = w5.alloc (.cells #[.int .i64 k4, .string t4, .int .i64 n4, .slice a4 l4 m4, .int .i64 k5, .string t5, .int .i64 n5, .slice a5 l5 m5, .string c.f] 43) := ⟨_, rfl⟩
      rw [← hW5]
      have bW5 : Below w5.heap.size w5 W5 := by rw [hW5]; exact (Below.refl _ _).alloc (Nat.le_refl _) _
      have k8b : W5.heap[w5.heap.size]? = some (.cells #[.int .i64 k4, .string t4, .int .i64 n4, .slice a4 l4 m4, .int .i64 k5, .string t5, .int .i64 n5, .slice a5 l5 m5, .string c.f] 43 (0, 0)) := by rw [hW5]; exact heap_alloc_new _ _
      have HB5 : Hid (Below W4.heap.size W4 W5) := B8.out.trans (bW5.mono B8.out.size)
      have O8' : Hid (ClV W5 c (.agg #[.int .i64 k4, .string t4, .int .i64 n4, .slice a4 l4 m4, .int .i64 k5, .string t5, .int .i64 n5, .slice a5 l5 m5, .string c.f]) G8) := O8.out.below bW5
      have L8 : Hid (∀ x ∈ G8, x < w5.heap.size) := O8.out.lt
      have sW5 : W5.heap.size = w5.heap.size + 1 := by rw [hW5]; simp
      have hs45 : W4.heap.size ≤ w5.heap.size := B8.out.size
      have O7c : Hid (DbOwn W5 cs xs (.slice a7 cs.length p7) (.slice b77 l7 m7) F7) := O7'.out.below HB5.out
      have K7c : Hid (W5.heap[q7]? = some (.cells #[.slice a7 cs.length p7, .slice b77 l7 m7] 35 (0, 0))) := (HB5.out.block q7 (by omega)).trans K7.out
      have D87 : Hid (∀ x ∈ G8, x ∉ F7) := fun x hx h => by have := N8.out x hx; have := L7.out x h; omega
      have HB35 : Hid (Below u3.heap.size u3 W5) := HB4.out.trans (HB5.out.mono HB4.out.size)
      obtain ⟨q8, hp8⟩ : ∃ q8, q8 = w5.heap.size := ⟨_, rfl⟩
      rw [← hp8] at k8b sW5 L8 hs45 ⊢
      have K8 : Hid (W5.heap[q8]? = some (.cells #[.int .i64 k4, .string t4, .int .i64 n4, .slice a4 l4 m4, .int .i64 k5, .string t5, .int .i64 n5, .slice a5 l5 m5, .string c.f] 43 (0, 0))) := k8b
      clear hW5 bW5 k8b O8 B8 hp8 K7 O7'
      -- g0
      have e0 := blk_cell (i := 0) K7c.out (by simp)
      have e1 := blk_cell (i := 1) K7c.out (by simp)
      obtain ⟨⟨x0, x1, x2, x3, x4, x5, x6, x7, x8⟩, _⟩ := blk9 K8.out
      have HC9 : Hid _ := HIM.out W5 _ _ F7 _ G8 (HBB.out.trans (HB35.out.mono HBB.out.size)) O7c.out O8'.out D87.out
      go_upto_region 12 with (go_at_call 9; refine (Calls.mono HC9.out ?_); rintro e w6 ⟨r9, F9, rfl, o9, f9, b9⟩; obtain ⟨a9, p9, b99, l9, m9, rfl, o9⟩ := o9; have O9 : Hid (DbOwn w6 R xs (.slice a9 R.length p9) (.slice b99 l9 m9) F9) := o9; have N9 : Hid (∀ x ∈ F9, W5.heap.size ≤ x) := f9; have B9 : Hid (Below W5.heap.size W5 w6) := b9; clear o9 f9 b9)
      clear e0 e1 x0 x1 x2 x3 x4 x5 x6 x7 x8 HC9
      obtain ⟨W6, hW6⟩ : ∃ W6, W6 = w6.alloc (.cells #[.slice a9 R.length p9, .slice b99 l9 m9] 35) := ⟨_, rfl⟩
      rw [← hW6]
      have bW6 : Below w6.heap.size w6 W6 := by rw [hW6]; exact (Below.refl _ _).alloc (Nat.le_refl _) _
      have k9b : W6.heap[w6.heap.size]? = some (.cells #[.slice a9 R.length p9, .slice b99 l9 m9] 35 (0, 0)) := by rw [hW6]; exact heap_alloc_new _ _
      have HB6 : Hid (Below W5.heap.size W5 W6) := B9.out.trans (bW6.mono B9.out.size)
      have O9' : Hid (DbOwn W6 R xs (.slice a9 R.length p9) (.slice b99 l9 m9) F9) := O9.out.below bW6
      have L9 : Hid (∀ x ∈ F9, x < w6.heap.size) := O9.out.lt
      have sW6 : W6.heap.size = w6.heap.size + 1 := by rw [hW6]; simp
      have hs56 : W5.heap.size ≤ w6.heap.size := B9.out.size
      obtain ⟨q9, hp9⟩ : ∃ q9, q9 = w6.heap.size := ⟨_, rfl⟩
      rw [← hp9] at k9b sW6 L9 hs56 ⊢
      have K9 : Hid (W6.heap[q9]? = some (.cells #[.slice a9 R.length p9, .slice b99 l9 m9] 35 (0, 0))) := k9b
      have O7b : Hid (DbOwn W6 cs xs (.slice a7 cs.length p7) (.slice b77 l7 m7) F7) := O7c.out.below HB6.out
      have O8b : Hid (ClV W6 c (.agg #[.int .i64 k4, .string t4, .int .i64 n4, .slice a4 l4 m4, .int .i64 k5, .string t5, .int .i64 n5, .slice a5 l5 m5, .string c.f]) G8) := O8'.out.below HB6.out
      have K7b : Hid (W6.heap[q7]? = some (.cells #[.slice a7 cs.length p7, .slice b77 l7 m7] 35 (0, 0))) := (HB6.out.block q7 (by omega)).trans K7c.out
      have K8b : Hid (W6.heap[q8]? = some (.cells #[.int .i64 k4, .string t4, .int .i64 n4, .slice a4 l4 m4, .int .i64 k5, .string t5, .int .i64 n5, .slice a5 l5 m5, .string c.f] 43 (0, 0))) := (HB6.out.block q8 (by omega)).trans K8.out
      have HB36 : Hid (Below u3.heap.size u3 W6) := HB35.out.trans (HB6.out.mono HB35.out.size)
      clear hW6 bW6 k9b O9 B9 hp9 O7c K7c O8' K8
      have HALL : Hid (∀ w', Out (F7 ++ (G8 ++ F9)) W6 w' → Below u3.heap.size u3 w' ∧ (w'.cell? ⟨q7, 0, none⟩ = some (.slice a7 cs.length p7) ∧ w'.cell? ⟨q7, 1, none⟩ = some (.slice b77 l7 m7)) ∧ w'.heap[q8]? = some (.cells #[.int .i64 k4, .string t4, .int .i64 n4, .slice a4 l4 m4, .int .i64 k5, .string t5, .int .i64 n5, .slice a5 l5 m5, .string c.f] 43 (0, 0)) ∧ (w'.cell? ⟨q9, 0, none⟩ = some (.slice a9 R.length p9) ∧ w'.cell? ⟨q9, 1, none⟩ = some (.slice b99 l9 m9))) := fun w' hu => by
        have h7 : ∀ x ∈ F7, u3.heap.size ≤ x ∧ x < q7 := fun x hx => ⟨N7.out x hx, L7.out x hx⟩
        have h8 : ∀ x ∈ G8, W4.heap.size ≤ x ∧ x < q8 := fun x hx => ⟨N8.out x hx, L8.out x hx⟩
        have h9 : ∀ x ∈ F9, W5.heap.size ≤ x ∧ x < q9 := fun x hx => ⟨N9.out x hx, L9.out x hx⟩
        have hs : ∀ x, x ∈ F7 ++ (G8 ++ F9) → u3.heap.size ≤ x ∧ x ≠ q7 ∧ x ≠ q8 ∧ x ≠ q9 := fun x hx => by
          rcases List.mem_append.1 hx with hx | hx
          · have := h7 x hx; omega
          · rcases List.mem_append.1 hx with hx | hx
            · have := h8 x hx; omega
            · have := h9 x hx; omega
        have hb : Below u3.heap.size u3 w' := HB36.out.trans (hu.below (fun x hx => (hs x hx).1) HB36.out.size)
        have hq9 := (hu.block q9 (by omega) (fun h => (hs _ h).2.2.2 rfl)).trans K9.out
        have hq8 := (hu.block q8 (by omega) (fun h => (hs _ h).2.2.1 rfl)).trans K8b.out
        have hq7 := (hu.block q7 (by omega) (fun h => (hs _ h).2.1 rfl)).trans K7b.out
        exact ⟨hb, ⟨blk_cell (i := 0) hq7 (by simp), blk_cell (i := 1) hq7 (by simp)⟩, hq8, ⟨blk_cell (i := 0) hq9 (by simp), blk_cell (i := 1) hq9 (by simp)⟩⟩
      have D79 : Hid (∀ x ∈ F9, x ∉ F7 ∧ x ∉ G8) := fun x hx => ⟨fun h => by have := N9.out x hx; have := L7.out x h; omega, fun h => by have := N9.out x hx; have := L8.out x h; omega⟩
      have D87b : Hid (∀ x ∈ G8, x ∉ F7) := D87
      clear K7b K8b K9 L7 L8 L9 HB36 HB4 HB6 HB5 HB35 hs56 hs45 hs34 sW4 sW5 sW6 D87
      -- g0 is w0
      obtain ⟨a1', _, _, b0, b1⟩ := HALL.out W6 (Out.refl _ _)
      obtain ⟨x0, x1, x4⟩ := H6.out W6 a1'
      have HE : Hid _ := HEQ.out W6 _ _ _ _ _ _ O9'.out x4
      clear x4 a1'
      go_upto_region 14 with (go_at_call 10; refine (Calls.mono HE.out ?_); rintro e w7 ⟨rfl, b7⟩; have U7 : Hid (Below W6.heap.size W6 w7) := b7; clear b7)
      clear b0 b1 x0 x1 HE
      -- x0 is as it was
      refine wp_region_facts 4 (fun i v _ w' => match i with
        | 0 => v = .agg #[.slice a7 cs.length p7, .slice b77 l7 m7]
        | 1 => v = .agg #[.slice d1 cs.length p1, .slice d2 xs.length p2]
        | 2 => ∃ a13 p13 b13 l13 m13 F13, v = .agg #[.slice a13 cs.length p13, .slice b13 l13 m13] ∧ DbOwn w' cs xs (.slice a13 cs.length p13) (.slice b13 l13 m13) F13
        | _ => v = .bool true) (by kernel_rfl) (by kernel_rfl) 119 rfl (by kernel_rfl) ?_ ?_ ?_
      · intro i v S w w' hi h hb
        match i, hi, h with
        | 0, _, h => exact h
        | 1, _, h => exact h
        | 2, _, ⟨a13, p13, b13, l13, m13, F13, h1, h2⟩ => exact ⟨a13, p13, b13, l13, m13, F13, h1, h2.below hb⟩
        | 3, _, h => exact h
      · intro i o hi ho a w' hb hfr hdep
        have hb6 : Below W6.heap.size W6 w' := U7.out.trans (hb.mono U7.out.size)
        obtain ⟨hb3, ⟨m0, m1⟩, _, _⟩ := HALL.out w' (Out.of_below hb6)
        obtain ⟨⟨g1, g2, _, _⟩, ⟨y0, y1⟩, _⟩ := HARG.out w' (HBB.out.trans (hb3.mono HBB.out.size))
        have u2 : a.tmps.getD 2 undef = .pointer (some ⟨p, 0, none⟩) := hfr 2 (by decide)
        have u8 : a.tmps.getD 8 undef = .pointer (some ⟨q7, 0, none⟩) := hfr 8 (by decide)
        match i, hi with
        | 0, _ =>
          obtain rfl : _ = o := by simpa using ho
          refine fact_value (w' := w') (v := .agg #[.slice a7 cs.length p7, .slice b77 l7 m7]) ?_ (Below.refl _ _) ⟨[], rfl, by simp⟩
          clear g1 g2
          simp only [execOp, Act.eval, u8]
          go_simp
        | 1, _ =>
          obtain rfl : _ = o := by simpa using ho
          refine fact_value (w' := w') (v := .agg #[.slice d1 cs.length p1, .slice d2 xs.length p2]) ?_ (Below.refl _ _) ⟨[], rfl, by simp⟩
          clear g1 g2
          simp only [execOp, Act.eval, u2]
          go_simp
        | 2, _ =>
          obtain rfl : _ = o := by simpa using ho
          obtain ⟨_, h0⟩ : ∃ _ : List Nat, a.tmps.getD 55 undef = .agg #[.slice d1 cs.length p1, .slice d2 xs.length p2] := hdep 1 (by kernel_rfl)
          refine fact_call rfl Tryz.func7 (by kernel_rfl) (by kernel_rfl) (args := #[.agg #[.slice d1 cs.length p1, .slice d2 xs.length p2]]) ?_ ?_
          · simp [Act.eval]; simpa using h0
          · refine Calls.mono (HTO.out w' g1 g2) ?_
            rintro e w4 ⟨a13, p13, b13, l13, m13, F, rfl, o1, _, hb4⟩
            exact ⟨_, rfl, hb4, [], ⟨_, _, _, _, _, _, rfl, o1⟩, by simp⟩
        | 3, _ =>
          obtain rfl : _ = o := by simpa using ho
          obtain ⟨_, h0⟩ : ∃ _ : List Nat, a.tmps.getD 54 undef = .agg #[.slice a7 cs.length p7, .slice b77 l7 m7] := hdep 0 (by kernel_rfl)
          obtain ⟨_, a13, p13, b13, l13, m13, F13, h1, h2⟩ : ∃ _ : List Nat, ∃ a13 p13 b13 l13 m13 F13, a.tmps.getD 56 undef = .agg #[.slice a13 cs.length p13, .slice b13 l13 m13] ∧ DbOwn w' cs xs (.slice a13 cs.length p13) (.slice b13 l13 m13) F13 := hdep 2 (by kernel_rfl)
          refine fact_call rfl Tryz.func10 (by kernel_rfl) (by kernel_rfl) (args := #[.agg #[.slice a7 cs.length p7, .slice b77 l7 m7], .agg #[.slice a13 cs.length p13, .slice b13 l13 m13]]) ?_ ?_
          · simp [Act.eval]; exact ⟨by simpa using h0, by simpa using h1⟩
          · refine Calls.mono (HEX.out w' _ _ _ _ _ _ (O7b.out.below hb6) h2) ?_
            rintro e w4 ⟨rfl, hb4⟩
            exact ⟨_, rfl, hb4, [], rfl, by simp⟩
      intro vals S w9 hb hf _
      have h3 : vals 3 = .bool true := (hf 3 (by omega)).1
      have U9 : Hid (Below W6.heap.size W6 w9) := U7.out.trans (hb.mono U7.out.size)
      simp only [putN, List.getElem?_toArray, List.getElem?_cons_zero, List.getElem?_cons_succ, Option.bind_some, List.drop_succ_cons, List.drop_zero, h3]
      generalize vals 0 = v31
      generalize vals 1 = v32
      generalize vals 2 = v33
      clear hf h3 hb U7
      go_upto_region 16 with fail
      -- x1 is as it was
      refine wp_region_facts 4 (fun i v _ w' => match i with
        | 0 => v = .agg #[.int .i64 k4, .string t4, .int .i64 n4, .slice a4 l4 m4, .int .i64 k5, .string t5, .int .i64 n5, .slice a5 l5 m5, .string c.f]
        | 1 => v = .agg #[.int .i64 k1, .string t1, .int .i64 n1, .slice a1 l1 m1, .int .i64 k2, .string t2, .int .i64 n2, .slice a2 l2 m2, .string c.f]
        | 2 => ∃ F13, ClV w' c v F13
        | _ => v = .bool true) (by kernel_rfl) (by kernel_rfl) 119 rfl (by kernel_rfl) ?_ ?_ ?_
      · intro i v S w w' hi h hb
        match i, hi, h with
        | 0, _, h => exact h
        | 1, _, h => exact h
        | 2, _, ⟨F13, h1⟩ => exact ⟨F13, h1.below hb⟩
        | 3, _, h => exact h
      · intro i o hi ho a w' hb hfr hdep
        have hb6 : Below W6.heap.size W6 w' := U9.out.trans (hb.mono U9.out.size)
        obtain ⟨hb3, _, hk8, _⟩ := HALL.out w' (Out.of_below hb6)
        obtain ⟨⟨_, _, g3, g4⟩, _, hq9⟩ := HARG.out w' (HBB.out.trans (hb3.mono HBB.out.size))
        have u3' : a.tmps.getD 3 undef = .pointer (some ⟨p + 1, 0, none⟩) := hfr 3 (by decide)
        have u9 : a.tmps.getD 9 undef = .pointer (some ⟨q8, 0, none⟩) := hfr 9 (by decide)
        match i, hi with
        | 0, _ =>
          obtain rfl : _ = o := by simpa using ho
          obtain ⟨⟨x0, x1, x2, x3, x4, x5, x6, x7, x8⟩, _⟩ := blk9 hk8
          refine fact_value (w' := w') (v := .agg #[.int .i64 k4, .string t4, .int .i64 n4, .slice a4 l4 m4, .int .i64 k5, .string t5, .int .i64 n5, .slice a5 l5 m5, .string c.f]) ?_ (Below.refl _ _) ⟨[], rfl, by simp⟩
          clear g3 g4 hq9 hk8
          simp only [execOp, Act.eval, u9]
          go_simp
        | 1, _ =>
          obtain rfl : _ = o := by simpa using ho
          obtain ⟨⟨x0, x1, x2, x3, x4, x5, x6, x7, x8⟩, _⟩ := blk9 hq9
          refine fact_value (w' := w') (v := .agg #[.int .i64 k1, .string t1, .int .i64 n1, .slice a1 l1 m1, .int .i64 k2, .string t2, .int .i64 n2, .slice a2 l2 m2, .string c.f]) ?_ (Below.refl _ _) ⟨[], rfl, by simp⟩
          clear g3 g4 hq9 hk8
          simp only [execOp, Act.eval, u3']
          go_simp
        | 2, _ =>
          obtain rfl : _ = o := by simpa using ho
          obtain ⟨_, h0⟩ : ∃ _ : List Nat, a.tmps.getD 60 undef = .agg #[.int .i64 k1, .string t1, .int .i64 n1, .slice a1 l1 m1, .int .i64 k2, .string t2, .int .i64 n2, .slice a2 l2 m2, .string c.f] := hdep 1 (by kernel_rfl)
          refine fact_call rfl Tryz.func8 (by kernel_rfl) (by kernel_rfl) (args := #[.agg #[.int .i64 k1, .string t1, .int .i64 n1, .slice a1 l1 m1, .int .i64 k2, .string t2, .int .i64 n2, .slice a2 l2 m2, .string c.f]]) ?_ ?_
          · simp [Act.eval]; simpa using h0
          · refine Calls.mono (HTC.out w' g3 g4) ?_
            rintro e w4 ⟨v, F, rfl, o1, _, hb4⟩
            exact ⟨_, rfl, hb4, [], ⟨_, o1⟩, by simp⟩
        | 3, _ =>
          obtain rfl : _ = o := by simpa using ho
          obtain ⟨_, h0⟩ : ∃ _ : List Nat, a.tmps.getD 59 undef = .agg #[.int .i64 k4, .string t4, .int .i64 n4, .slice a4 l4 m4, .int .i64 k5, .string t5, .int .i64 n5, .slice a5 l5 m5, .string c.f] := hdep 0 (by kernel_rfl)
          obtain ⟨_, F13, h1⟩ : ∃ _ : List Nat, ∃ F13, ClV w' c (a.tmps.getD 61 undef) F13 := hdep 2 (by kernel_rfl)
          obtain ⟨k6, t6, n6, a6, l6, m6, k7, t7, n7, a7', l7', m7', e6, o6, nd6⟩ := h1
          refine fact_call rfl Tryz.func11 (by kernel_rfl) (by kernel_rfl) (args := #[.agg #[.int .i64 k4, .string t4, .int .i64 n4, .slice a4 l4 m4, .int .i64 k5, .string t5, .int .i64 n5, .slice a5 l5 m5, .string c.f], .agg #[.int .i64 k6, .string t6, .int .i64 n6, .slice a6 l6 m6, .int .i64 k7, .string t7, .int .i64 n7, .slice a7' l7' m7', .string c.f]]) ?_ ?_
          · simp [Act.eval]; exact ⟨by simpa using h0, by simpa using e6⟩
          · refine Calls.mono (HEC.out w' _ _ _ _ (O8b.out.below hb6) ⟨_, _, _, _, _, _, _, _, _, _, _, _, rfl, o6, nd6⟩) ?_
            rintro e w4 ⟨rfl, hb4⟩
            exact ⟨_, rfl, hb4, [], rfl, by simp⟩
      intro vals S w9' hb hf _
      have h3 : vals 3 = .bool true := (hf 3 (by omega)).1
      have U9b : Hid (Below W6.heap.size W6 w9') := U9.out.trans (hb.mono U9.out.size)
      simp only [putN, List.getElem?_toArray, List.getElem?_cons_zero, List.getElem?_cons_succ, Option.bind_some, List.drop_succ_cons, List.drop_zero, h3]
      generalize vals 0 = v34
      generalize vals 1 = v35
      generalize vals 2 = v36
      clear hf h3 hb U9
      go_upto_region 19 with fail
      -- what is written into x0 and x1 is not in g0
      obtain ⟨_, ⟨m0, m1⟩, _, _⟩ := HALL.out w9' (Out.of_below U9b.out)
      have HK : Hid _ := HMX.out w9' _ _ _ (O7b.out.below U9b.out)
      go_upto_region 20 with (go_at_call 12; refine (Calls.mono HK.out ?_); rintro e w10 ⟨c1, rfl, u, hc1, hc2⟩; have U10 : Hid (Out F7 w9' w10) := u; have HC1 : Hid (0 < c1 ∧ c1 ≤ 1000000000) := ⟨hc1, hc2⟩; clear u hc1 hc2)
      clear m0 m1 HK
      have V10 : Hid (Out (F7 ++ (G8 ++ F9)) W6 w10) := (Out.of_below U9b.out).trans (U10.out.mono fun x hx => List.mem_append_left _ hx)
      have O9c : Hid (DbOwn w10 R xs (.slice a9 R.length p9) (.slice b99 l9 m9) F9) := O9'.out.keep fun x hx => by
        have hl := O9'.out.lt x hx
        exact (U10.out.block x (Nat.lt_of_lt_of_le hl U9b.out.size) (D79.out x hx).1).trans (U9b.out.block x hl)
      have O8c : Hid (ClV w10 c (.agg #[.int .i64 k4, .string t4, .int .i64 n4, .slice a4 l4 m4, .int .i64 k5, .string t5, .int .i64 n5, .slice a5 l5 m5, .string c.f]) G8) := O8b.out.keep fun x hx => by
        have hl := O8b.out.lt x hx
        exact (U10.out.block x (Nat.lt_of_lt_of_le hl U9b.out.size) (D87b.out x hx)).trans (U9b.out.block x hl)
      obtain ⟨_, _, hk8, _⟩ := HALL.out w10 V10.out
      obtain ⟨⟨x0, x1, x2, x3, x4, x5, x6, x7, x8⟩, _⟩ := blk9 hk8
      have HK : Hid _ := HMC.out w10 _ _ c1 HC1.out.1 HC1.out.2 O8c.out
      clear hk8
      go_upto_region 21 with (go_at_call 13; refine (Calls.mono HK.out ?_); rintro e w11 ⟨c2, rfl, u⟩; have U11 : Hid (Out G8 w10 w11) := u; clear u)
      clear x0 x1 x2 x3 x4 x5 x6 x7 x8 HK
      have hn1 : ¬ ((c2 : Nat) : Int) < 0 := by omega
      have V11 : Hid (Out (F7 ++ (G8 ++ F9)) W6 w11) := V10.out.trans (U11.out.mono fun x hx => List.mem_append_right _ (List.mem_append_left _ hx))
      have O9d : Hid (DbOwn w11 R xs (.slice a9 R.length p9) (.slice b99 l9 m9) F9) := O9c.out.keep fun x hx => U11.out.block x (O9c.out.lt x hx) (D79.out x hx).2
      obtain ⟨a1', _, _, b0, b1⟩ := HALL.out w11 V11.out
      obtain ⟨x0, x1, x4⟩ := H6.out w11 a1'
      have HE : Hid _ := HEQ.out w11 _ _ _ _ _ _ O9d.out x4
      clear x4 a1'
      go_upto_region 24 with (go_at_call 10; refine (Calls.mono HE.out ?_); rintro e w12 ⟨rfl, b12⟩; have U12 : Hid (Below w11.heap.size w11 w12) := b12; clear b12)
      clear b0 b1 x0 x1 HE hn1
      -- g0 owns its memory
      have V12 : Hid (Out (F7 ++ (G8 ++ F9)) W6 w12) := V11.out.trans (Out.of_below U12.out)
      obtain ⟨_, _, _, b0, b1⟩ := HALL.out w12 V12.out
      have HK : Hid _ := HMR.out w12 _ _ _ (O9d.out.below U12.out)
      go_upto_region 26 with (go_at_call 12; refine (Calls.mono HK.out ?_); rintro e w13 ⟨rfl, t13, u⟩; have U13 : Hid (Out F9 w12 w13) := u; have T13 : Hid (DbMarked w13 R xs.length (.slice a9 R.length p9) (.slice b99 l9 m9)) := t13; clear u t13)
      clear b0 b1 HK O9d
      have V13 : Hid (Out (F7 ++ (G8 ++ F9)) W6 w13) := V12.out.trans (U13.out.mono fun f hf => List.mem_append_right _ (List.mem_append_right _ hf))
      obtain ⟨_, _, _, b0, b1⟩ := HALL.out w13 V13.out
      have HK : Hid _ := HHD.out w13 _ _ T13.out
      go_upto_region 31 with (go_at_call 14; refine (Calls.mono HK.out ?_); rintro e w14 ⟨rfl, b14⟩; have U14 : Hid (Below w13.heap.size w13 w14) := b14; clear b14)
      clear b0 b1 HK
      have V14 : Hid (Out (F7 ++ (G8 ++ F9)) W6 w14) := V13.out.trans (Out.of_below U14.out)
      have B314 : Hid (Below u3.heap.size u3 w14) := (HALL.out w14 V14.out).1
      -- once more
      have BW14 : Hid (Below W.heap.size W w14) := HBB.out.trans (B314.out.mono HBB.out.size)
      refine FI.wp_region_inv 11 (fun L v u =>
        Below w14.heap.size w14 u ∧ (L 0 = true → v 0 = .agg #[.slice d1 cs.length p1, .slice d2 xs.length p2]) ∧ (L 2 = true → v 2 = .agg #[.int .i64 k1, .string t1, .int .i64 n1, .slice a1 l1 m1, .int .i64 k2, .string t2, .int .i64 n2, .slice a2 l2 m2, .string c.f]) ∧ (L 4 = false → FG u cs xs c (L 1) (L 3) (v 1) (v 3)) ∧ DD w14 u R xs kb (L 4) (L 8) (L 9) (v 4) (v 8) ∧
        (L 5 = true → L 4 = true ∧ v 5 = v 4) ∧ (L 6 = true → L 4 = true ∧ ∃ x y, v 4 = .tuple #[x, y] ∧ v 6 = x) ∧ (L 7 = true → L 4 = true ∧ ∃ x y, v 4 = .tuple #[x, y] ∧ v 7 = y) ∧
        (L 9 = true → L 4 = true ∧ L 8 = true) ∧ (L 10 = true → L 7 = true ∧ v 10 = v 7)) (by kernel_rfl) (by kernel_rfl) 119 rfl (by kernel_rfl) ?_ ?_ ?_
      · intro vals
        exact ⟨(Below.refl _ _).drew, fun h => Bool.noConfusion h, fun h => Bool.noConfusion h, fun _ => ⟨[], [], by simp, fun _ => rfl, fun _ => rfl, by simp, by simp, fun h => Bool.noConfusion h, fun h => Bool.noConfusion h⟩, ⟨[], 0, fun h => Bool.noConfusion h, fun _ => rfl, by simp, fun h => Bool.noConfusion h⟩, fun h => Bool.noConfusion h, fun h => Bool.noConfusion h, fun h => Bool.noConfusion h, fun h => Bool.noConfusion h, fun h => Bool.noConfusion h⟩
      · intro i o hi ho L a u hI hcl hli hfr hdep
        obtain ⟨hb, h0, h2, hFG, hD, h5, h6, h7, h9, h10⟩ := hI
        have u2 : a.tmps.getD 2 undef = .pointer (some ⟨p, 0, none⟩) := hfr 2 (by decide)
        have u3 : a.tmps.getD 3 undef = .pointer (some ⟨p + 1, 0, none⟩) := hfr 3 (by decide)
        have hbw : Below W.heap.size W u := (BW14.out).trans (hb.mono (BW14.out).size)
        obtain ⟨⟨g1, g2, g3, g4⟩, ⟨y0, y1⟩, hq9⟩ := HARG.out u hbw
        match i, hi with
        | 0, _ =>
          obtain rfl : _ = o := by simpa using ho
          refine FI.fact_value (w' := u) (v := .agg #[.slice d1 cs.length p1, .slice d2 xs.length p2]) rfl ?_ ⟨hb, fun _ => rfl, h2, hFG, hD, h5, h6, h7, h9, h10⟩
          clear h0 h2 hFG hD h5 h6 h7 h9 h10 hcl hdep hfr ho g1 g2 g3 g4 hq9
          simp only [execOp, Act.eval, u2]
          go_simp
        | 1, _ =>
          obtain rfl : _ = o := by simpa using ho
          have y : a.tmps.getD 95 undef = .agg #[.slice d1 cs.length p1, .slice d2 xs.length p2] := h0 (hdep 0 (by kernel_rfl))
          refine FI.fact_call rfl rfl Tryz.func7 (by kernel_rfl) (by kernel_rfl) (args := #[.agg #[.slice d1 cs.length p1, .slice d2 xs.length p2]]) (by simp [Act.eval]; simpa using y) ?_
          refine Calls.mono (HTO.out u g1 g2) ?_
          rintro e w4 ⟨a5, p5, b5, l5, k5, F5, rfl, o5, f5, bq⟩
          exact ⟨_, rfl, hb.trans (bq.mono hb.size), h0, h2, fun h => FG.db (by have := hFG h; rw [hli] at this; exact this) bq o5 f5, hD.below bq, h5, h6, h7, h9, h10⟩
        | 2, _ =>
          obtain rfl : _ = o := by simpa using ho
          obtain ⟨⟨x0, x1, x2, x3, x4, x5, x6, x7, x8⟩, _⟩ := blk9 hq9
          refine FI.fact_value (w' := u) (v := .agg #[.int .i64 k1, .string t1, .int .i64 n1, .slice a1 l1 m1, .int .i64 k2, .string t2, .int .i64 n2, .slice a2 l2 m2, .string c.f]) rfl ?_ ⟨hb, h0, fun _ => rfl, hFG, hD, h5, h6, h7, h9, h10⟩
          clear h0 h2 hFG hD h5 h6 h7 h9 h10 hcl hdep hfr ho g1 g2 g3 g4 hq9 y0 y1
          simp only [execOp, Act.eval, u3]
          go_simp
        | 3, _ =>
          obtain rfl : _ = o := by simpa using ho
          have y : a.tmps.getD 97 undef = .agg #[.int .i64 k1, .string t1, .int .i64 n1, .slice a1 l1 m1, .int .i64 k2, .string t2, .int .i64 n2, .slice a2 l2 m2, .string c.f] := h2 (hdep 2 (by kernel_rfl))
          refine FI.fact_call rfl rfl Tryz.func8 (by kernel_rfl) (by kernel_rfl) (args := #[.agg #[.int .i64 k1, .string t1, .int .i64 n1, .slice a1 l1 m1, .int .i64 k2, .string t2, .int .i64 n2, .slice a2 l2 m2, .string c.f]]) (by simp [Act.eval]; simpa using y) ?_
          refine Calls.mono (HTC.out u g3 g4) ?_
          rintro e w4 ⟨v5, G5, rfl, o5, f5, bq⟩
          exact ⟨_, rfl, hb.trans (bq.mono hb.size), h0, h2, fun h => FG.cl (by have := hFG h; rw [hli] at this; exact this) bq o5 f5, hD.below bq, h5, h6, h7, h9, h10⟩
        | 4, _ =>
          obtain rfl : _ = o := by simpa using ho
          obtain ⟨F, G, hd, hF0, hG0, hFl, hGl, hF1, hG3⟩ := hFG hli
          obtain ⟨a5, p5, b5, l5, k5, e5, o5⟩ := hF1 (hdep 1 (by kernel_rfl))
          obtain ⟨k6, t6, n6, a6, l6, m6, k7, t7, n7, a7, l7, m7, e6, o6, nd6⟩ := hG3 (hdep 3 (by kernel_rfl))
          have e5' : a.tmps.getD 96 undef = .agg #[.slice a5 cs.length p5, .slice b5 l5 k5] := e5
          have e6' : a.tmps.getD 98 undef = .agg #[.int .i64 k6, .string t6, .int .i64 n6, .slice a6 l6 m6, .int .i64 k7, .string t7, .int .i64 n7, .slice a7 l7 m7, .string c.f] := e6
          have l9 : L 9 = false := by cases h : L 9 with | false => rfl | true => exact absurd (h9 h).1 (by simp [hli])
          rw [hli, l9] at hD
          refine FI.fact_call rfl rfl Tryz.func9 (by kernel_rfl) (by kernel_rfl) (args := #[.agg #[.slice a5 cs.length p5, .slice b5 l5 k5], .agg #[.int .i64 k6, .string t6, .int .i64 n6, .slice a6 l6 m6, .int .i64 k7, .string t7, .int .i64 n7, .slice a7 l7 m7, .string c.f]]) (by simp [Act.eval]; exact ⟨by simpa using e5', by simpa using e6'⟩) ?_
          refine Calls.mono (HIM.out u _ _ F _ G hbw o5 ⟨_, _, _, _, _, _, _, _, _, _, _, _, rfl, o6, nd6⟩ hd) ?_
          rintro e w4 ⟨r, F4, rfl, o4, f4, bq⟩
          have hD' := hD.made bq o4 f4
          rw [← l9] at hD'
          exact ⟨_, rfl, hb.trans (bq.mono hb.size), h0, h2, fun h => Bool.noConfusion (show true = false from h), hD', fun h => absurd (h5 h).1 (by simp [hli]), fun h => absurd (h6 h).1 (by simp [hli]), fun h => absurd (h7 h).1 (by simp [hli]), fun h => absurd (h9 h).1 (by simp [hli]), h10⟩
        | 5, _ =>
          obtain rfl : _ = o := by simpa using ho
          refine FI.fact_value (w' := u) (v := a.tmps.getD 99 undef) rfl ?_ ⟨hb, h0, h2, hFG, hD, fun _ => ⟨hdep 4 (by kernel_rfl), rfl⟩, h6, h7, h9, h10⟩
          clear h0 h2 hFG hD h5 h6 h7 h9 h10 hcl hdep hfr ho g1 g2 g3 g4 hq9 y0 y1
          simp only [execOp, Act.eval]
          go_simp
        | 6, _ =>
          obtain rfl : _ = o := by simpa using ho
          obtain ⟨e4, e5⟩ := h5 (hdep 5 (by kernel_rfl))
          have hD9 := hD
          rw [e4] at hD9
          obtain ⟨F9, _, q1, _⟩ := hD9
          obtain ⟨a9, p9, b9, l9, k9, e9, o9⟩ := q1 rfl
          have y : a.tmps.getD 94 undef = .tuple #[.agg #[.slice a9 R.length p9, .slice b9 l9 k9], .bool kb] := e5.trans e9
          refine FI.fact_value (w' := u) (v := .agg #[.slice a9 R.length p9, .slice b9 l9 k9]) rfl ?_ ⟨hb, h0, h2, hFG, hD, h5, fun _ => ⟨e4, _, _, e9, rfl⟩, h7, h9, h10⟩
          clear h0 h2 hFG hD h5 h6 h7 h9 h10 hcl hdep hfr ho g1 g2 g3 g4 hq9 y0 y1 e9 o9 e5 q1
          simp only [execOp, Act.eval, y]
          go_simp
        | 7, _ =>
          obtain rfl : _ = o := by simpa using ho
          obtain ⟨e4, e5⟩ := h5 (hdep 5 (by kernel_rfl))
          have hD9 := hD
          rw [e4] at hD9
          obtain ⟨F9, _, q1, _⟩ := hD9
          obtain ⟨a9, p9, b9, l9, k9, e9, o9⟩ := q1 rfl
          have y : a.tmps.getD 94 undef = .tuple #[.agg #[.slice a9 R.length p9, .slice b9 l9 k9], .bool kb] := e5.trans e9
          refine FI.fact_value (w' := u) (v := .bool kb) rfl ?_ ⟨hb, h0, h2, hFG, hD, h5, h6, fun _ => ⟨e4, _, _, e9, rfl⟩, h9, fun h => absurd (h10 h).1 (by simp [hli])⟩
          clear h0 h2 hFG hD h5 h6 h7 h9 h10 hcl hdep hfr ho g1 g2 g3 g4 hq9 y0 y1 e9 o9 e5 q1
          simp only [execOp, Act.eval, y]
          go_simp
        | 8, _ =>
          obtain rfl : _ = o := by simpa using ho
          have bq : Below u.heap.size u (u.alloc (.cells #[.slice none 0 0, .slice none 0 0] 35)) := (Below.refl _ _).alloc (Nat.le_refl _) _
          have l9 : L 9 = false := by cases h : L 9 with | false => rfl | true => exact absurd (h9 h).2 (by simp [hli])
          rw [hli, l9] at hD
          have hD' := hD.room hb.size
          rw [← l9] at hD'
          refine FI.fact_value (w' := u.alloc (.cells #[.slice none 0 0, .slice none 0 0] 35)) (v := .pointer (some ⟨u.heap.size, 0, none⟩)) rfl ?_ ⟨hb.trans (bq.mono hb.size), h0, h2, fun h => (hFG h).below bq, hD', h5, h6, h7, fun h => absurd (h9 h).2 (by simp [hli]), h10⟩
          clear h0 h2 hFG hD h5 h6 h7 h9 h10 hcl hdep hfr ho g1 g2 g3 g4 hq9 y0 y1
          simp only [execOp]
          go_simp
        | 9, _ =>
          obtain rfl : _ = o := by simpa using ho
          have l6 := hdep 6 (by kernel_rfl)
          have l8 := hdep 8 (by kernel_rfl)
          obtain ⟨l4, x9, y9, e9, e10⟩ := h6 l6
          rw [l4, l8, hli] at hD
          obtain ⟨q, a9, p9, b9, l9, k9, e1, e2, e3, kq, hD'⟩ := hD.put
          rw [e2] at e9
          cases e9
          have y6 : a.tmps.getD 100 undef = .agg #[.slice a9 R.length p9, .slice b9 l9 k9] := e10
          have y8 : a.tmps.getD 15 undef = .pointer (some ⟨q, 0, none⟩) := e1
          have z0 := blk_cell (i := 0) kq (by simp)
          have z1 := blk_cell (i := 1) kq (by simp)
          have z2 := blk_frozen kq 0
          have z3 := blk_frozen kq 1
          refine fi_store (w' := (u.setCell ⟨q, 0, none⟩ (.slice a9 R.length p9)).setCell ⟨q, 1, none⟩ (.slice b9 l9 k9)) rfl ?_ ⟨below_set (below_set hb e3 _) e3 _, h0, h2, fun h => Bool.noConfusion (l4.symm.trans h), by show DD _ _ R xs kb (L 4) (L 8) true _ _; rw [l4, l8]; exact hD', h5, h6, h7, fun _ => ⟨l4, l8⟩, h10⟩
          clear h0 h2 hFG hD hD' h5 h6 h7 h9 h10 hcl hdep hfr ho g1 g2 g3 g4 hq9 y0 y1 e1 e2 e10 kq
          simp only [execOp, Act.eval, y6, y8]
          go_simp
        | 10, _ =>
          obtain rfl : _ = o := by simpa using ho
          have l7 := hdep 7 (by kernel_rfl)
          refine FI.fact_value (w' := u) (v := a.tmps.getD 101 undef) rfl ?_ ⟨hb, h0, h2, hFG, hD, h5, h6, h7, h9, fun _ => ⟨l7, rfl⟩⟩
          clear h0 h2 hFG hD h5 h6 h7 h9 h10 hcl hdep hfr ho g1 g2 g3 g4 hq9 y0 y1
          simp only [execOp, Act.eval]
          go_simp
      intro L vals u16 hall hI
      obtain ⟨hb, _, _, _, hD, _, h6, h7, _, h10⟩ := hI
      rw [hall 4 (by omega), hall 8 (by omega), hall 9 (by omega)] at hD
      obtain ⟨F16, q16, hd1, _, _, hd2⟩ := hD
      obtain ⟨e8, _, hq16, _, _, hd3⟩ := hd2 rfl
      obtain ⟨a16, p16, b16, l16, m16, e4, kq⟩ := hd3 rfl
      obtain ⟨a9, p9, b9, l9, m9, e4', o16⟩ := hd1 rfl
      rw [e4] at e4'
      cases e4'
      obtain ⟨_, x10, y10, e7a, e7⟩ := h7 (hall 7 (by omega))
      obtain ⟨_, e10⟩ := h10 (hall 10 (by omega))
      rw [e4] at e7a
      cases e7a
      rw [e7] at e10
      simp only [FZ.putN, List.getElem?_toArray, List.getElem?_cons_zero, List.getElem?_cons_succ, Option.bind_some, List.drop_succ_cons, List.drop_zero, e8, e10]
      generalize vals 0 = r0
      generalize vals 1 = r1
      generalize vals 2 = r2
      generalize vals 3 = r3
      generalize vals 4 = r4
      generalize vals 5 = r5
      generalize vals 6 = r6
      generalize vals 7 = r7
      generalize vals 9 = r9
      simp only [Act.put, List.setIfInBounds_toArray, List.set_cons_succ, List.set_cons_zero]
      clear e4 e7 e8 e10 h6 h7 h10 hall hd1 hd2 hd3

      have B16 : Hid (Below w14.heap.size w14 u16) := hb
      have V16 : Hid (Out (F7 ++ (G8 ++ F9)) W6 u16) := V14.out.trans (Out.of_below B16.out)
      have B13 : Hid (Below w13.heap.size w13 u16) := U14.out.trans (B16.out.mono U14.out.size)
      have y0 := blk_cell (i := 0) kq (by simp)
      have y1 := blk_cell (i := 1) kq (by simp)
      obtain ⟨a1', _⟩ := HALL.out u16 V16.out
      obtain ⟨x0, x1, x4⟩ := H6.out u16 a1'
      have HE : Hid _ := HEQ.out u16 _ _ _ _ _ _ o16 x4
      clear x4 a1' o16 kq hb hq16
      go_upto_region 34 with (go_at_call 10; refine (Calls.mono HE.out ?_); rintro e w17 ⟨rfl, b17⟩; have U17 : Hid (Below u16.heap.size u16 w17) := b17; clear b17)
      clear y0 y1 x0 x1 HE
      have V17 : Hid (Out (F7 ++ (G8 ++ F9)) W6 w17) := V16.out.trans (Out.of_below U17.out)
      have B18 : Hid (Below w13.heap.size w13 w17) := B13.out.trans (U17.out.mono B13.out.size)
      obtain ⟨_, _, _, b0, b1⟩ := HALL.out w17 V17.out
      have HK : Hid _ := HHD.out w17 _ _ (T13.out.keep B18.out)
      go_wp2_with (go_at_call 14; refine (Calls.mono HK.out ?_); rintro e w18 ⟨rfl, b18⟩; have U18 : Hid (Below w17.heap.size w17 w18) := b18; clear b18)
      have V18 : Hid (Out (F7 ++ (G8 ++ F9)) W6 w18) := V17.out.trans (Out.of_below U18.out)
      go_ret
      refine ⟨rfl, ?_⟩
      have h1 := (HALL.out w18 V18.out).1
      have h2 := HBB.out.trans (h1.mono HBB.out.size)
      exact HBW.out.trans (h2.mono HBW.out.size)
    · rw [show szR (c.h.wt + c.b.wt + c.f.size) L1 = -1 from if_neg hwc] at HSC
      generalize ((L1 : Nat) : Int) = L1' at *
      clear hwt hwc hL1 hf
      go_enter Tryz.func3, Tryz.ntmps3
      go_upto_region 1 with fail
      rw [← hW, ← hp]
      clear hW hp
      go_upto_region 5 with (go_at_call 4; refine (Calls.mono HSZ.out ?_); rintro e w1 ⟨rfl, hb⟩; have HB1 : Hid (Below W.heap.size W w1) := hb; clear hb)
      clear y0 y1
      have HC1 : Hid _ := HSC.out w1 HB1.out
      obtain ⟨_, _, hq9⟩ := HARG.out w1 HB1.out
      obtain ⟨⟨x0, x1, x2, x3, x4, x5, x6, x7, x8⟩, _⟩ := blk9 hq9
      clear hq9
      go_wp2_with (go_at_call 5; refine (Calls.mono HC1.out ?_); rintro e w2 ⟨rfl, hb⟩; have HB2 : Hid (Below W.heap.size W w2) := HB1.out.trans (hb.mono HB1.out.size); clear hb)
      go_ret
      exact ⟨rfl, HBW.out.trans (HB2.out.mono HBW.out.size)⟩
  · rw [show szR (dbWt cs xs) 1048576 = -1 from if_neg hwt] at HSZ0
    have HSZ : Hid _ := HSZ0
    clear hwt hf HSZ0 HSC0
    go_enter Tryz.func3, Tryz.ntmps3
    go_upto_region 1 with fail
    rw [← hW, ← hp]
    clear hW hp
    go_wp2_with (go_at_call 4; refine (Calls.mono HSZ.out ?_); rintro e w1 ⟨rfl, hb⟩; have HB : Hid (Below w.heap.size w w1) := HBW.out.trans (hb.mono HBW.out.size); clear hb)
    go_ret
    exact ⟨rfl, HB.out⟩

theorem own : ownKnob Tryz.prog.godebug = none := by kernel_rfl
theorem gTab : Tryz.prog.globalNamed "internal/strconv.uint64pow10" = some 0 := by kernel_rfl
theorem gTabType : (Tryz.prog.globals[0]?).map (·.type) = some 127 := by kernel_rfl
theorem cellsT : Tryz.prog.cellsOf 127 = 20 := by kernel_rfl
theorem cellsE : Tryz.prog.cellsOf 120 = 1 := by kernel_rfl
theorem table {W : World} (h : laidMetH Tryz.prog Rows.fnExactAddedRow.laid W) : Lib.TabIs Tryz.prog W "internal/strconv.uint64pow10" .u64 Lib.pow10Tab :=
  Lib.tabIs_of_head (rest := []) gTab gTabType Tryz.underlying127 Tryz.underlying120 cellsE cellsT (laidMet.tail (laidMet.tail h))

/-- the cells that a table lays -/
def litCells : DataW Unit → Array Value
  | .agg parts => (parts.flatMap fun
    | .lit (.int k z) => [Value.int k z]
    | .agg qs => qs.map fun
      | .lit (.int k z) => Value.int k z
      | _ => Value.bool false
    | _ => [Value.bool false]).toArray
  | _ => #[]
def setTab (cs : Array Value) : Obj → Obj
  | .cells _ t frozen => .cells cs t frozen
  | o => o

set_option maxRecDepth 20000 in
theorem contract (H : Type) (enc : TypeId × Value → H) (W : World) (base : Nat) (args : Array Value) (ds gs : List (DataW H)) (before : List MemPlace)
    (hval : ∀ (j : Nat) t v, Tryz.f3.params[j]? = some t → args[j]? = some v → Value.okWide Tryz.prog W .any base t v)
    (hW : DataW.Whole enc Tryz.prog Tryz.f3.params.toList Rows.fnExactAddedSpec.vars false W args.toList ds gs before) (hL : laidMetH Tryz.prog Rows.fnExactAddedRow.laid W) :
    Calls Tryz.prog 3 args W fun e W' => ∃ v, e = .returned v ∧ Rows.fnExactAddedSpec.post enc Tryz.prog Tryz.f3 false true false false W args v W' := by
  have ht : PowW W := table hL
  have hW' := hW
  have hlt := hW.lt
  obtain ⟨p, q, hA0, hV, rfl, hfz, hnd⟩ := hW
  have hA : DataW.TrodAll enc Tryz.prog W 0 (fun _ => true) true Tryz.f3.params.toList args.toList ds p := hA0
  rw [Tryz.params3] at hA hval
  obtain ⟨v0, vs0, d0, ds0, p0, q0, hargs, rfl, rfl, h0, r0⟩ := trodAll_cons hA
  obtain ⟨v1, vs1, d1, ds1, p1, q1, rfl, rfl, rfl, h1, r1⟩ := trodAll_cons r0
  obtain ⟨rfl, rfl, rfl⟩ := trodAll_nil r1
  obtain rfl : args = #[v0, v1] := by cases args; simp_all
  obtain ⟨rfl, rfl⟩ := trodVars_none hV
  simp only [List.append_nil] at hW'
  obtain ⟨t1, u1, f1, z0, z1, z2, z3, z4, z5, z6, z7, rfl, hf1, i1, k1⟩ := cl_split (hval 1 30 v1 rfl rfl) h1
  obtain ⟨y1, y2, y3, y4, y5, y6, rfl, rfl, rfl, rfl⟩ := tm_shape4 i1
  obtain ⟨y1', y2', y3', y4', y5', y6', rfl, rfl, rfl, rfl⟩ := tm_shape4 k1
  obtain ⟨cs0, xs0, c0, e0, rfl, i0, k0⟩ := db_split (hval 0 25 v0 rfl rfl) h0
  clear hA0
  refine (walk cs0 xs0 ⟨t1, u1, f1⟩ W _ _ _ _ _ _ _ _ _ _ _ _ _ _ i0 k0 hf1 i1 k1 ht).mono fun e W' ⟨he, bel⟩ => ?_
  subst he
  exact ⟨_, rfl, _, _, _, [], _, [], hW', trodAll_mk1 (shut_bool Tryz.underlying4 _), (trodAll_cons_mk (Below.trod laidOutT readsDb rowDb h0 bel (fun x hx => hlt x (by simp [hx]))) (trodAll_cons_mk (Below.trod laidOutT readsCl rowCl h1 bel (fun x hx => hlt x (by simp [hx]))) trodAll_mk0)), rfl, bel.frame _, fun h => by cases h⟩

/-- a world for the witness: the settled one, the tables holding what their initialisers lay -/
noncomputable def laidWorld (os : Os) : World :=
  { World.holding Tryz.prog os ⟨#[], #[], []⟩ with heap := (((World.holding Tryz.prog os ⟨#[], #[], []⟩).heap.modify 1 (setTab (litCells Rows.laid_math_bits_deBruijn32tab))).modify 2 (setTab (litCells Rows.laid_math_bits_deBruijn64tab))).modify 0 (setTab (litCells Rows.laid_internal_strconv_uint64pow10)) }
set_option maxRecDepth 20000 in
theorem laid_met (os : Os) : laidMet Tryz.prog Rows.fnExactAddedRow.laid ((laidWorld os).forCall (fun _ _ => 0) ⟨#[], #[.agg #[.slice none 0 0, .slice none 0 0], .agg #[.int .i64 0, .string .empty, .int .i64 0, .slice none 0 0, .int .i64 0, .string .empty, .int .i64 0, .slice none 0 0, .string .empty]], []⟩).memory :=
  laidMet_of_run' 8 (by kernel_rfl) (by kernel_rfl)
set_option maxRecDepth 20000 in
theorem reads (os : Os) {H : Type} (enc : TypeId × Value → H) : ∃ places, DataW.whole enc Tryz.prog ((laidWorld os).forCall (fun _ _ => 0) ⟨#[], #[.agg #[.slice none 0 0, .slice none 0 0], .agg #[.int .i64 0, .string .empty, .int .i64 0, .slice none 0 0, .int .i64 0, .string .empty, .int .i64 0, .slice none 0 0, .string .empty]], []⟩).memory Tryz.f3.params.toList Rows.fnExactAddedSpec.vars false (#[Value.agg #[.slice none 0 0, .slice none 0 0], .agg #[.int .i64 0, .string .empty, .int .i64 0, .slice none 0 0, .int .i64 0, .string .empty, .int .i64 0, .slice none 0 0, .string .empty]] : Array Value).toList 8 = some ([.agg [.nil, .nil], .agg [.agg [.lit (.int .i64 0), .lit (.string []), .lit (.int .i64 0), .nil], .agg [.lit (.int .i64 0), .lit (.string []), .lit (.int .i64 0), .nil], .lit (.string [])]], [], places) :=
  ⟨[], by kernel_rfl⟩

set_option maxRecDepth 100000 in
theorem lifted (os : Os) (started : os.Started) (H : Type) (enc : TypeId × Value → H) (F : Stop.Interp) :
    ReturnsInHanded {} Tryz.checked os 3 .any ((OpenSpec.ofChange Rows.fnExactAddedSpec).preRow enc Tryz.prog Tryz.f3 Rows.fnExactAddedRow.domain false Rows.fnExactAddedRow.laid) (((OpenSpec.ofChange Rows.fnExactAddedSpec).at F).post enc Tryz.prog Tryz.f3 false true false false) := by
  obtain ⟨places, hx⟩ := reads os enc
  refine returnsInHanded_of_row (C := Tryz.checked) (s := OpenSpec.ofChange Rows.fnExactAddedSpec) own started (by kernel_rfl) Tryz.func3
    (witness_row_at (enc := enc) (C := Tryz.checked) false (laidWorld os) #[.agg #[.slice none 0 0, .slice none 0 0], .agg #[.int .i64 0, .string .empty, .int .i64 0, .slice none 0 0, .int .i64 0, .string .empty, .int .i64 0, .slice none 0 0, .string .empty]] rfl (by kernel_rfl) (by kernel_rfl) (by kernel_rfl)
      (OpenSpec.preRow_of_cond 8 hx (by kernel_rfl) (fun k hk => by cases hk) (by kernel_rfl) (laid_met os))) ?_
  intro W base args ds gs before hval hW _ _ _ hL _ _
  exact contract H enc W base args ds gs before hval hW hL

theorem said : Rows.FnExactAddedSaid :=
  OpenClaim.holds_of_cond 3 Tryz.f3 rfl rfl rfl rfl rfl rfl rfl ⟨rfl, rfl, rfl, rfl, rfl⟩ rfl rfl rfl rfl rfl (by kernel_rfl) Tryz.func3 (by kernel_rfl)
    (of_decide_eq_true (by kernel_rfl)) (by unfold Func.isWrapper; first | (rw [if_pos (by decide +kernel)]; kernel_rfl) | (rw [if_neg (by decide +kernel)]; exact ⟨rfl, rfl⟩))
    (fun os started H enc _ F => by rw [OpenClaim.pre_eq_preRow]; exact lifted os started H enc F)

theorem plain (f : FuncId) (fn : Func) (hf : Tryz.pinned.checked.prog.funcNamed "loop.example/g00469/laws.FnExactAdded" = some f) (hfn : Tryz.pinned.checked.prog.funcs[f]? = some fn) :
    true = Tryz.pinned.checked.prog.looks [] ∧ ∀ (j : Nat) t, fn.params[j]? = some t → Tryz.pinned.checked.prog.wantsStandIn t = false := by
  obtain rfl : f = 3 := Option.some.inj ((show Tryz.prog.funcNamed "loop.example/g00469/laws.FnExactAdded" = some 3 by kernel_rfl).symm.trans hf) |>.symm
  obtain rfl : fn = Tryz.f3 := (Option.some.inj (Tryz.func3.symm.trans hfn)).symm
  refine ⟨by kernel_rfl, fun j t ht => ?_⟩
  rw [Tryz.params3] at ht
  have hm := Array.mem_of_getElem? ht
  simp at hm
  rcases hm with rfl | rfl
  · exact (show Tryz.prog.wantsStandIn 25 = false by kernel_rfl)
  · exact (show Tryz.prog.wantsStandIn 30 = false by kernel_rfl)

theorem proved : Rows.FnExactAddedCardSaid :=
  Claim7.holds_tied_plain_at .later [] _ _ _ _ said (fun _ h => by cases h) (by kernel_rfl) (fun _ h => by cases h) fnExactAdded_row_tie rfl ⟨rfl, rfl⟩ (by kernel_rfl) rfl plain (by kernel_rfl)
#print axioms proved
end Go.Proofs.YtmhmlkdoaojimapGreatDoor.fnExactAdded

/- Four texts in one. -/
import Derived.Test.YtmhmlkdoaojimapDoorMrg9
import Derived.Test.YtmhmlkdoaojimapDoorRows
import Derived.Test.YtmhmlkdoaojimapDoorMrg1
import Derived.MapKept
import Derived.ProofKit
import Derived.Test.YtmhmlkdoaojimapDoorMrg3
import Derived.Test.YtmhmlkdoaojimapDoorMrg8
/- spec.ClausesOf, spec.Known. -/
namespace Go.Proofs.YtmhmlkdoaojimapDoor
open Go.RowKit

theorem ofPred_wts (q : ByteArray) (cs : List Cla) : (ofPred q cs).length ≤ cs.length ∧ claWts (ofPred q cs) ≤ claWts cs := by
  induction cs with
  | nil => simp [ofPred]
  | cons c cs ih =>
    have e : ofPred q (c :: cs) = if predB c.h = q then c :: ofPred q cs else ofPred q cs := by
      unfold ofPred
      by_cases h : predB c.h = q
      · simp [h]
      · simp [h]
    rw [e]
    split
    · simp only [List.length_cons, claWts]; omega
    · simp only [List.length_cons, claWts]; omega
theorem hWt {cs : List Cla} {c : Cla} (h : c ∈ cs) : c.h.wt ≤ claWts cs := by
  have h1 := claWt_le h
  have : c.wt = c.h.wt + c.b.wt + c.f.size := rfl
  omega

set_option maxHeartbeats 4000000 in
set_option maxRecDepth 20000 in
theorem s_clausesOf (cs : List Cla) (q : ByteArray) (w : World) (c0 c1 : Value) (h : ClsIn w cs c0) (hl : cs.length + claWts cs ≤ 1048576) (hc1 : ∃ a l k, c1 = .slice a l k) :
    Calls Tryd.prog 12 #[.agg #[c0, c1], .string q] w fun e w' => ∃ sl F, e = .returned sl ∧ OwnClS 57 46 w' (ofPred q cs) sl F ∧ (∀ f ∈ F, w.heap.size ≤ f) ∧ F.Nodup ∧ Below w.heap.size w w' := by
  obtain ⟨W, hW⟩ : ∃ W, W = w.alloc (.cells #[c0, c1] 30) := ⟨_, rfl⟩
  have bW : Below w.heap.size w W := by rw [hW]; exact (Below.refl _ _).alloc (Nat.le_refl _) _
  have k1 : W.heap[w.heap.size]? = some (.cells #[c0, c1] 30 (0, 0)) := by rw [hW]; exact heap_alloc_new _ _
  have HC : Hid _ := cof_raw cs q W c0 c1 (h.keep bW) (by omega) (fun c hc => by have := hWt hc; omega) hc1
  have HW : Hid ((ofPred q cs).length + claWts (ofPred q cs) ≤ 1100000) := by have := ofPred_wts q cs; show _ ≤ _; omega
  obtain ⟨a1, p1, rfl, -⟩ := h
  obtain ⟨a2, l2, p2, rfl⟩ := hc1
  have HBW : Hid (Below w.heap.size w W) := bW
  have y0 := blk_cell (i := 0) k1 (by simp)
  have y1 := blk_cell (i := 1) k1 (by simp)
  clear hl bW k1
  go_enter Tryd.func12, Tryd.ntmps12
  go_upto_region 1 with fail
  rw [← hW]
  clear hW
  go_upto_region 2 with (go_at_call 36; refine (Calls.mono HC.out ?_); rintro e w1 ⟨v, rfl, o1, o2⟩; have HO : Hid (ClsIn w1 (ofPred q cs) v ∧ Below W.heap.size W w1) := ⟨o1, o2⟩; clear o1 o2)
  have HC2 : Hid _ := l34_clauses (ofPred q cs) w1 v HW.out HO.out.1
  go_wp2_with (go_at_call 37; refine (Calls.mono HC2.out ?_); rintro e w2 ⟨sl, F, rfl, o1, o2, o3, o4⟩; have HO2 : Hid (OwnClS 57 46 w2 (ofPred q cs) sl F ∧ (∀ f ∈ F, w1.heap.size ≤ f) ∧ F.Nodup ∧ Below w1.heap.size w1 w2) := ⟨o1, o2, o3, o4⟩; clear o1 o2 o3 o4)
  go_ret
  obtain ⟨o1, o2, o3, o4⟩ := HO2.out
  have b1 := HBW.out.trans (HO.out.2.mono HBW.out.size)
  exact ⟨sl, F, rfl, o1, fun f hf => by have := o2 f hf; have := b1.size; omega, o3, b1.trans (o4.mono b1.size)⟩

set_option maxHeartbeats 4000000 in
set_option maxRecDepth 20000 in
theorem s_known (cs : List Cla) (xs : List ByteArray) (q : ByteArray) (w : World) (c0 c1 : Value) (h : ClsIn w cs c0) (hx : SsIn w xs c1) (hl : cs.length + claWts cs ≤ 1048576) (hxl : xs.length ≤ 1048576) (kb : Bool) (hkb : kb = true ↔ (q ∈ xs ∨ ofPred q cs ≠ [])) :
    Calls Tryd.prog 18 #[.agg #[c0, c1], .string q] w fun e w' => e = .returned (.bool kb) ∧ Below w.heap.size w w' := by
  have HKB : Hid (kb = true ↔ (q ∈ xs ∨ ofPred q cs ≠ [])) := hkb
  obtain ⟨W, hW⟩ : ∃ W, W = w.alloc (.cells #[c0, c1] 30) := ⟨_, rfl⟩
  have bW : Below w.heap.size w W := by rw [hW]; exact (Below.refl _ _).alloc (Nat.le_refl _) _
  have k1 : W.heap[w.heap.size]? = some (.cells #[c0, c1] 30 (0, 0)) := by rw [hW]; exact heap_alloc_new _ _
  obtain ⟨a2, p2, rfl, hc2, hc3, hin⟩ := hx
  have HC : Hid _ := s_clausesOf cs q W c0 (.slice a2 xs.length p2) (h.keep bW) hl ⟨_, _, _, rfl⟩
  obtain ⟨a1, p1, rfl, -⟩ := h
  have HBW : Hid (Below w.heap.size w W) := bW
  have HIN : Hid (xs ≠ [] → ∃ b off, a2 = some ⟨b, off, none⟩ ∧ ∀ j (hj : j < xs.length), W.cell? ⟨b, off + j, none⟩ = some (.string xs[j])) := fun hne => by
    obtain ⟨b, off, e, hc⟩ := hin hne
    exact ⟨b, off, e, fun j hj => cell_keep (hc j hj).1 bW⟩
  have y0 := blk_cell (i := 0) k1 (by simp)
  have y1 := blk_cell (i := 1) k1 (by simp)
  clear hl bW k1 hc2 hc3 hin hkb
  go_enter Tryd.func18, Tryd.ntmps18
  go_upto_region 2 with fail
  rw [← hW]
  clear hW
  go_loopw [5] (fun v5 wr => Hid (wr = W) ∧ ∃ j : Nat, j ≤ xs.length ∧ v5 = .int .i64 (j : Int) ∧ Hid (∀ k (hk : k < xs.length), k < j → xs[k] ≠ q)) (fun i _ => xs.length - (intOf i).toNat)
  case atStart => exact ⟨rfl, 0, by omega, rfl, fun k _ hk => by omega⟩
  case round =>
    obtain ⟨HB, j, hj, rfl, HN⟩ := hrel
    obtain rfl := HB.out
    by_cases hlt : j < xs.length
    · obtain ⟨b, off, rfl, hc9⟩ := HIN.out (by intro e; subst e; simp at hlt)
      have hc := hc9 j hlt
      have HM : Hid (xs[j] ∈ xs) := List.getElem_mem hlt
      have HS : Hid (xs[j] ≠ q → ∀ k (hk : k < xs.length), k < j + 1 → xs[k] ≠ q) := fun hne k hk hkj => by
        by_cases e : k = j
        · subst e; exact hne
        · exact HN.out k hk (by omega)
      clear hc9 HN HIN
      generalize xs[j] = xj at *
      by_cases e : xj = q
      · subst e
        go_wp2
        go_ret
        exact ⟨by rw [HKB.out.2 (Or.inl HM.out)]; rfl, HBW.out⟩
      · have e3 : (xj.toList == q.toList) = false := by
          rw [beq_eq_false_iff_ne]
          intro h
          exact e (by rw [← toL_mkC xj, ← toL_mkC q, h])
        go_wp2
        go_roundw
        case rel => exact ⟨by first | exact rfl | exact trivial, j + 1, by omega, by go_num, HS.out e⟩
        case measure => simp [intOf]; omega
    · obtain rfl : j = xs.length := by omega
      have HNM : Hid (q ∉ xs) := fun hm => by
        obtain ⟨k, hk, he⟩ := List.mem_iff_getElem.1 hm
        exact absurd he (HN.out k hk (by omega))
      clear HN HIN hlt hj
      go_wp2_with (go_at_call 12; refine (Calls.mono HC.out ?_); rintro e w2 ⟨sl, F, rfl, o1, o2, o3, o4⟩; obtain ⟨a5, p5, rfl⟩ := ownClS_shape o1; have HO2 : Hid (Below wr.heap.size wr w2) := o4; clear o1 o2 o3 o4)
      go_ret
      refine ⟨?_, HBW.out.trans (HO2.out.mono HBW.out.size)⟩
      have hk : kb = decide ((0 : Int) < ((ofPred q cs).length : Int)) := by
        rw [Bool.eq_iff_iff, HKB.out, decide_eq_true_iff]
        constructor
        · rintro (h | h)
          · exact absurd h HNM.out
          · have := List.length_pos_iff.2 h
            omega
        · intro h
          exact Or.inr fun e => by rw [e] at h; simp at h
      rw [hk]
      first | rfl | simp
end Go.Proofs.YtmhmlkdoaojimapDoor

/- A map from texts to rows: what it has. -/
namespace Go.Proofs.YtmhmlkdoaojimapDoor
open Go.RowKit

/-- block m is another object -/
def putB (w : World) (m : Nat) (o : Obj) : World := { w with heap := w.heap.setIfInBounds m o }
theorem putB_at {w : World} {m : Nat} {o o' : Obj} (h : w.heap[m]? = some o') : (putB w m o).heap[m]? = some o := by
  have := (Array.getElem?_eq_some_iff.1 h).1
  simp [putB, this]
theorem putB_other {w : World} {m k : Nat} {o : Obj} (h : k ≠ m) : (putB w m o).heap[k]? = w.heap[k]? := by
  simp [putB, Ne.symm h]

def vget (s : ByteArray) : List (ByteArray × Value) → Option Value
  | [] => none
  | x :: r => if x.1 = s then some x.2 else vget s r
def vput (s : ByteArray) (n : Value) : List (ByteArray × Value) → List (ByteArray × Value)
  | [] => [(s, n)]
  | x :: r => if x.1 = s then (s, n) :: r else x :: vput s n r
theorem vget_put {s : ByteArray} {n : Value} (a : ByteArray) : ∀ ms, vget a (vput s n ms) = if s = a then some n else vget a ms
  | [] => by simp [vput, vget]
  | x :: r => by
    unfold vput
    by_cases h : x.1 = s
    · rw [if_pos h]
      simp only [vget]
      by_cases h2 : s = a
      · rw [if_pos h2, if_pos h2]
      · rw [if_neg h2, if_neg h2, if_neg (by rw [h]; exact h2)]
    · rw [if_neg h]
      simp only [vget]
      rw [vget_put a r]
      by_cases h2 : x.1 = a
      · rw [if_pos h2]
        by_cases h3 : s = a
        · exact absurd (h2.trans h3.symm) h
        · rw [if_neg h3, if_pos h2]
      · rw [if_neg h2, if_neg h2]

def mkW (x : ByteArray × Value) : Value × Value := (.string x.1, x.2)
/-- block m is the map ms -/
def BornOk (es : Array MapEntry) (clock : Nat) : Prop := (es.toList.map (·.born)).Nodup ∧ ∀ x ∈ es.toList, x.born < clock
theorem BornOk.push {es : Array MapEntry} {clock : Nat} (h : BornOk es clock) (k v : Value) : BornOk (es.push { key := k, val := v, born := clock }) (clock + 1) := by
  unfold BornOk
  rw [Array.toList_push, List.map_append]
  refine ⟨List.nodup_append.2 ⟨h.1, by simp, fun a ha b hb e => ?_⟩, fun x hx => ?_⟩
  · obtain ⟨x, hx, rfl⟩ := List.mem_map.1 ha
    have := h.2 x hx
    simp at hb
    omega
  · rcases List.mem_append.1 hx with hx | hx
    · have := h.2 x hx; omega
    · obtain rfl : x = _ := by simpa using hx
      exact Nat.lt_succ_self _
theorem BornOk.set {es : Array MapEntry} {clock : Nat} (h : BornOk es clock) {j : Nat} (hj : j < es.size) {l : List MapEntry} {e' : MapEntry} (hl : l = es.toList.set j e') (he : e'.born = es[j].born) : (l.map (·.born)).Nodup ∧ ∀ x ∈ l, x.born < clock := by
  have hm : l.map (·.born) = es.toList.map (·.born) := by
    rw [hl, List.map_set, he]
    apply List.ext_getElem?
    intro i
    rw [List.getElem?_set]
    by_cases h9 : j = i
    · subst h9; simp [hj]
    · simp [h9]
  refine ⟨hm ▸ h.1, fun x hx => ?_⟩
  have h1 : x.born ∈ l.map (·.born) := List.mem_map_of_mem hx
  rw [hm] at h1
  obtain ⟨y, hy, e⟩ := List.mem_map.1 h1
  rw [← e]
  exact h.2 y hy
def VMapAt (w : World) (m : Nat) (ms : List (ByteArray × Value)) : Prop := ∃ es clock, w.heap[m]? = some (.map es clock) ∧ es.toList.map (fun e => (e.key, e.val)) = ms.map mkW ∧ BornOk es clock
theorem VMapAt.turn {w w' : World} {m : Nat} {ms : List (ByteArray × Value)} (h : VMapAt w m ms) (hb : w'.heap[m]? = w.heap[m]?) : VMapAt w' m ms := by
  obtain ⟨es, c, h1, h2⟩ := h
  exact ⟨es, c, hb.trans h1, h2⟩

theorem beq_bytes (a b : ByteArray) : (a == b) = decide (a = b) := by
  obtain ⟨x⟩ := a
  obtain ⟨y⟩ := b
  by_cases h : x = y
  · subst h
    rw [decide_eq_true rfl]
    show (x == x) = true
    simp
  · rw [decide_eq_false (fun e => h (ByteArray.mk.inj e))]
    show (x == y) = false
    simpa using h
theorem vnow (s : ByteArray) : ∀ (ms : List (ByteArray × Value)) (es : List MapEntry) (i : Nat), es.map (fun e => (e.key, e.val)) = ms.map mkW →
    (vget s ms = none → Instr.findNow .string (.string s) es i = some none) ∧ (∀ n, vget s ms = some n → ∃ j, Instr.findNow .string (.string s) es i = some (some (i + j, n)) ∧ j < es.length ∧ ((es[j]?).map (·.key)) = some (.string s) ∧
      ∀ (v : Value) (e' : MapEntry), e'.key = .string s → e'.val = v → (es.set j e').map (fun e => (e.key, e.val)) = (vput s v ms).map mkW)
  | [], [], i, _ => ⟨fun _ => rfl, fun n h => by cases h⟩
  | [], e :: es, i, h => by simp at h
  | x :: ms, [], i, h => by simp at h
  | x :: ms, e :: es, i, h => by
    simp only [List.map_cons, List.cons.injEq, mkW, Prod.mk.injEq] at h
    obtain ⟨⟨hk, hv⟩, hr⟩ := h
    obtain ⟨h1, h2⟩ := vnow s ms es (i + 1) hr
    have hs : Instr.sameNow .string (.string s) e.key = some (s == x.1) := by rw [hk]; rfl
    by_cases hx : x.1 = s
    · have hb : (s == x.1) = true := by rw [beq_bytes, hx]; exact decide_eq_true rfl
      rw [hb] at hs
      refine ⟨fun hn => by simp [vget, hx] at hn, fun n hn => ⟨0, ?_, by simp, by simp [hk, hx], fun v e' h3 h4 => ?_⟩⟩
      · simp only [vget, if_pos hx, Option.some.injEq] at hn
        simp [Instr.findNow, hs, hv, hn]
      · simp only [List.set_cons_zero, List.map_cons, vput, if_pos hx, h3, h4, hr]
        rfl
    · have hb : (s == x.1) = false := by
        rw [beq_bytes]; exact decide_eq_false fun e => hx e.symm
      rw [hb] at hs
      refine ⟨fun hn => ?_, fun n hn => ?_⟩
      · simp only [vget, if_neg hx] at hn
        simp [Instr.findNow, hs, h1 hn]
      · simp only [vget, if_neg hx] at hn
        obtain ⟨j, hj, hjl, hjk, hjs⟩ := h2 n hn
        refine ⟨j + 1, ?_, by simpa using hjl, by simpa using hjk, fun v e' h3 h4 => ?_⟩
        · simp only [Instr.findNow, hs, hj]
          rw [show i + 1 + j = i + (j + 1) by omega]
        · simp only [List.set_cons_succ, List.map_cons, vput, if_neg hx, hjs v e' h3 h4, hk, hv]
          rfl

theorem vchk (d : Nat) (em : Bool) (w : World) (s : ByteArray) : (Instr.checkKey em (d + 1) 9 (.string s)).run Tryd.prog w = .ok () w := by simp [Instr.checkKey, run_underlying Tryd.underlying9]

theorem vmap_look (w : World) (m : Nat) (ms : List (ByteArray × Value)) (h : VMapAt w m ms) (s : ByteArray) :
    (Instr.lookup 61 (.map (some m)) (.string s) true).run Tryd.prog w = .ok (.tuple #[(vget s ms).getD (.slice none 0 0), .bool (vget s ms).isSome]) w := by
  obtain ⟨es, clock, h1, h2, h3⟩ := h
  obtain ⟨q1, q2⟩ := vnow s ms es.toList 0 h2
  have hc := vchk 9999 es.isEmpty w s
  cases hg : vget s ms with
  | some n =>
    obtain ⟨j, hj, _⟩ := q2 n hg
    simp [Instr.lookup, run_underlying Tryd.underlying61, run_underlying Tryd.underlying9, MapKept.run_getObj_map h1, hc, Instr.findKey, hj]
  | none =>
    have hj := q1 hg
    simp [Instr.lookup, run_underlying Tryd.underlying61, run_underlying Tryd.underlying9, MapKept.run_getObj_map h1, hc, Instr.findKey, hj]

theorem vmap_put (w : World) (m : Nat) (ms : List (ByteArray × Value)) (h : VMapAt w m ms) (s : ByteArray) (n : Value) :
    ∃ o, (Instr.mapUpdate 61 (.map (some m)) (.string s) (n)).run Tryd.prog w = .ok () (putB w m o) ∧ VMapAt (putB w m o) m (vput s n ms) := by
  obtain ⟨es, clock, h1, h2, h3⟩ := h
  obtain ⟨q1, q2⟩ := vnow s ms es.toList 0 h2
  have hc := vchk 9999 false w s
  cases hg : vget s ms with
  | none =>
    have hj := q1 hg
    refine ⟨.map (es.push { key := .string s, val := n, born := clock }) (clock + 1), ?_, _, _, putB_at h1, ?_, h3.push _ _⟩
    · simp [Instr.mapUpdate, run_underlying Tryd.underlying61, run_underlying Tryd.underlying9, MapKept.run_getObj_map h1, hc, Instr.findKey, hj, MapKept.run_setObj_map _ h1, putB]
    · rw [Array.toList_push, List.map_append, h2]
      have : vput s n ms = ms ++ [(s, n)] := by
        clear h2 q1 q2 hj
        induction ms with
        | nil => rfl
        | cons x r ih =>
          simp only [vget] at hg
          split at hg
          · cases hg
          · rename_i hx
            simp only [vput, if_neg hx, ih hg, List.cons_append]
      rw [this, List.map_append]
      rfl
  | some z =>
    obtain ⟨j, hj, hjl, hjk, hjs⟩ := q2 z hg
    rw [Nat.zero_add] at hj
    have hjl' : j < es.size := by simpa using hjl
    have hkey : ((es[j]?).map (·.key)).getD (.string s) = .string s := by
      have : es.toList[j]? = es[j]? := by simp
      rw [← this, hjk]; rfl
    have hst : (Instr.keyThatStays (.string s) (.string s)).run Tryd.prog w = .ok (.string s) w := by
      have hb : (s == s) = true := by rw [beq_bytes]; exact decide_eq_true rfl
      simp [Instr.keyThatStays, Instr.sameBits, hb]
    refine ⟨.map (es.modify j fun e => { e with key := .string s, val := n }) clock, ?_, _, _, putB_at h1, ?_, ?_⟩
    · simp [Instr.mapUpdate, run_underlying Tryd.underlying61, run_underlying Tryd.underlying9, MapKept.run_getObj_map h1, hc, Instr.findKey, hj, hkey, hst, MapKept.run_setObj_map _ h1, putB]
    · have e1 : (es.modify j fun e => { e with key := .string s, val := n }).toList = es.toList.set j { es[j] with key := .string s, val := n } := by
        apply List.ext_getElem?
        intro i
        rw [List.getElem?_set, Array.getElem?_toList, Array.getElem?_modify, Array.length_toList]
        by_cases h : j = i
        · subst h; simp [hjl']
        · simp [h]
      rw [e1]
      exact hjs n _ rfl rfl
    · have e1 : (es.modify j fun e => { e with key := .string s, val := n }).toList = es.toList.set j { es[j] with key := .string s, val := n } := by
        apply List.ext_getElem?
        intro i
        rw [List.getElem?_set, Array.getElem?_toList, Array.getElem?_modify, Array.length_toList]
        by_cases h : j = i
        · subst h; simp [hjl']
        · simp [h]
      exact BornOk.set h3 hjl' e1 rfl
end Go.Proofs.YtmhmlkdoaojimapDoor

/- Rows in blocks of their own: a cell set, a block kept. Of no program. -/
namespace Go.Proofs.YtmhmlkdoaojimapDoor
open Go.RowKit

theorem row_set {w : World} {e size n g cap i : Nat} {cs : List Value} {v : Value} (h : w.ownsRow 0 e size (.slice (some ⟨g, 0, none⟩) n cap) n cs) : (w.setCell ⟨g, i, none⟩ v).ownsRow 0 e size (.slice (some ⟨g, 0, none⟩) n cap) n (cs.set i v) := by
  refine ⟨by rw [List.length_set]; exact h.1, ?_⟩
  rcases h.2 with ⟨h, _⟩ | ⟨g', cap', cur, h1, h2, h3, h4, h5, h6, h7⟩
  · cases h
  · cases h1
    refine Or.inr ⟨g, cap, cur.setIfInBounds i v, rfl, h2, blk_set h3 v, h4, h5, by simpa using h6, ?_⟩
    rw [Array.toList_setIfInBounds, List.take_set, h7]
theorem row_set_same {w : World} {e size n g cap i : Nat} {cs : List Value} {v : Value} (h : w.ownsRow 0 e size (.slice (some ⟨g, 0, none⟩) n cap) n cs) (hi : cs[i]? = some v) : (w.setCell ⟨g, i, none⟩ v).ownsRow 0 e size (.slice (some ⟨g, 0, none⟩) n cap) n cs := by
  have := row_set (i := i) (v := v) h
  obtain ⟨h1, rfl⟩ := List.getElem?_eq_some_iff.1 hi
  rwa [List.set_getElem_self h1] at this
theorem row_lt0 {w : World} {e size n : Nat} {v : Value} {xs : List Value} (h : w.ownsRow 0 e size v n xs) {b : Nat} (hb : v.ownBlock = some b) : b < w.heap.size := by
  rcases h.2 with ⟨rfl, _⟩ | ⟨b', cap, cur, rfl, h1, h2, h3⟩
  · cases hb
  · cases hb; exact (Array.getElem?_eq_some_iff.1 h2).1
theorem row_frozen {w : World} {e size n g cap : Nat} {cs : List Value} (h : w.ownsRow 0 e size (.slice (some ⟨g, 0, none⟩) n cap) n cs) (i : Nat) : w.frozen? ⟨g, i, none⟩ = false := by
  rcases h.2 with ⟨h, _⟩ | ⟨g', cap', cur, h1, h2, h3, _⟩
  · cases h
  · cases h1; exact blk_frozen h3 i

theorem row_turn0 {w w' : World} {e size n : Nat} {v : Value} {xs : List Value} (h : w.ownsRow 0 e size v n xs) (hb : ∀ b, v.ownBlock = some b → w'.heap[b]? = w.heap[b]?) : w'.ownsRow 0 e size v n xs := by
  refine ⟨h.1, ?_⟩
  rcases h.2 with hn | ⟨b, cap, cur, e, h1, h2, h3⟩
  · exact Or.inl hn
  · exact Or.inr ⟨b, cap, cur, e, h1, (hb b (by rw [e]; rfl)).trans h2, h3⟩
end Go.Proofs.YtmhmlkdoaojimapDoor

/- Shelves: the clauses of each predicate, in order, each list in a row of its own. -/
namespace Go.Proofs.YtmhmlkdoaojimapDoor
open Go.RowKit

theorem vget_mem {q : ByteArray} {v : Value} : ∀ {ms : List (ByteArray × Value)}, vget q ms = some v → (q, v) ∈ ms
  | [], h => by cases h
  | x :: r, h => by
    simp only [vget] at h
    split at h
    · rename_i hx
      obtain rfl := Option.some.inj h
      rw [← hx]; simp
    · exact List.mem_cons_of_mem _ (vget_mem h)
theorem vget_none {q : ByteArray} : ∀ {ms : List (ByteArray × Value)}, vget q ms = none → ∀ x ∈ ms, x.1 ≠ q
  | [], _, x, hx => by cases hx
  | y :: r, h, x, hx => by
    simp only [vget] at h
    split at h
    · cases h
    · rename_i hy
      rcases List.mem_cons.1 hx with rfl | hx
      · exact hy
      · exact vget_none h x hx
theorem vput_mem {q : ByteArray} {v : Value} : ∀ {ms : List (ByteArray × Value)}, (ms.map (·.1)).Nodup → ∀ x ∈ vput q v ms, x = (q, v) ∨ (x ∈ ms ∧ x.1 ≠ q)
  | [], _, x, hx => Or.inl (by simpa [vput] using hx)
  | y :: r, hn, x, hx => by
    rw [List.map_cons, List.nodup_cons] at hn
    unfold vput at hx
    split at hx
    · rename_i hy
      rcases List.mem_cons.1 hx with rfl | hx
      · exact Or.inl rfl
      · refine Or.inr ⟨List.mem_cons_of_mem _ hx, fun e => hn.1 ?_⟩
        rw [hy, ← e]
        exact List.mem_map_of_mem hx
    · rename_i hy
      rcases List.mem_cons.1 hx with rfl | hx
      · exact Or.inr ⟨by simp, hy⟩
      · rcases vput_mem hn.2 x hx with h | ⟨h, h'⟩
        · exact Or.inl h
        · exact Or.inr ⟨List.mem_cons_of_mem _ h, h'⟩
theorem vput_nodup {α : Type} (f : Value → α) {q : ByteArray} {v : Value} : ∀ {ms : List (ByteArray × Value)}, (ms.map (·.1)).Nodup → (ms.map fun x => f x.2).Nodup → (∀ x ∈ ms, x.1 ≠ q → f x.2 ≠ f v) →
    ((vput q v ms).map (·.1)).Nodup ∧ ((vput q v ms).map fun x => f x.2).Nodup
  | [], _, _, _ => by simp [vput]
  | y :: r, hn, hb, hnew => by
    rw [List.map_cons, List.nodup_cons] at hn hb
    have ih := vput_nodup f (q := q) (v := v) hn.2 hb.2 fun x hx => hnew x (List.mem_cons_of_mem _ hx)
    unfold vput
    split
    · rename_i hy
      refine ⟨?_, ?_⟩
      · rw [List.map_cons, List.nodup_cons]
        exact ⟨by rw [← hy]; exact hn.1, hn.2⟩
      · rw [List.map_cons, List.nodup_cons]
        refine ⟨fun h => ?_, hb.2⟩
        obtain ⟨x, hx, he⟩ := List.mem_map.1 h
        refine hnew x (List.mem_cons_of_mem _ hx) (fun e => hn.1 ?_) he
        rw [hy, ← e]
        exact List.mem_map_of_mem hx
    · rename_i hy
      refine ⟨?_, ?_⟩
      · rw [List.map_cons, List.nodup_cons]
        refine ⟨fun h => ?_, ih.1⟩
        obtain ⟨x, hx, he⟩ := List.mem_map.1 h
        rcases vput_mem hn.2 x hx with rfl | ⟨h1, _⟩
        · exact hy he.symm
        · exact hn.1 (by rw [← he]; exact List.mem_map_of_mem h1)
      · rw [List.map_cons, List.nodup_cons]
        refine ⟨fun h => ?_, ih.2⟩
        obtain ⟨x, hx, he⟩ := List.mem_map.1 h
        rcases vput_mem hn.2 x hx with rfl | ⟨h1, _⟩
        · exact hnew y (by simp) hy he.symm
        · exact hb.1 (by rw [← he]; exact List.mem_map_of_mem h1)

/-- one list: its own row, and what stands in it -/
def ShRow (ec e : TypeId) (w0 w : World) (B : Nat) (q : ByteArray) (ks : List Cla) (D : Nat → Prop) (v : Value) : Prop :=
  ∃ news F, w.ownsRow B ec 9 v (ofPred q ks).length news ∧ OwnCs e w0 (ofPred q ks) news F ∧ F.Nodup ∧ (∀ f ∈ F, D f)
/-- all of them -/
def ShAt (ec e : TypeId) (w0 w : World) (B m : Nat) (ks : List Cla) (D : Nat → Prop) : Prop :=
  ∃ ms : List (ByteArray × Value), VMapAt w m ms ∧ (ms.map (·.1)).Nodup ∧ (ms.map fun x => x.2.ownBlock).Nodup ∧ (∀ q, vget q ms = none → ofPred q ks = []) ∧ (∀ x ∈ ms, ShRow ec e w0 w B x.1 ks D x.2 ∧ x.2.ownBlock ≠ none ∧ ofPred x.1 ks ≠ [])

theorem ShAt.below {ec e : TypeId} {w0 w w' : World} {B m : Nat} {ks : List Cla} {D : Nat → Prop} (h : ShAt ec e w0 w B m ks D) (hb : Below w.heap.size w w') : ShAt ec e w0 w' B m ks D := by
  obtain ⟨ms, h1, h2, h3, h4, h5⟩ := h
  refine ⟨ms, ?_, h2, h3, h4, fun x hx => ?_⟩
  · obtain ⟨es, cl, q1, q2⟩ := h1
    exact ⟨es, cl, (hb.block _ (Array.getElem?_eq_some_iff.1 q1).1).trans q1, q2⟩
  · obtain ⟨⟨news, F, r1, r2⟩, h6⟩ := h5 x hx
    refine ⟨⟨news, F, ?_, r2⟩, h6⟩
    rcases r1.2 with h | ⟨g, cap, cur, e, h7, hh, h8⟩
    · exact ⟨r1.1, Or.inl h⟩
    · exact ⟨r1.1, Or.inr ⟨g, cap, cur, e, h7, (hb.block _ (Array.getElem?_eq_some_iff.1 hh).1).trans hh, h8⟩⟩

/-- the list to which one more is put: none there is an empty one -/
theorem ShAt.list {ec e : TypeId} {w0 w : World} {B : Nat} {ks : List Cla} {D : Nat → Prop} {ms : List (ByteArray × Value)} (h4 : ∀ q, vget q ms = none → ofPred q ks = []) (h5 : ∀ x ∈ ms, ShRow ec e w0 w B x.1 ks D x.2 ∧ x.2.ownBlock ≠ none ∧ ofPred x.1 ks ≠ []) (q : ByteArray) :
    ShRow ec e w0 w B q ks D ((vget q ms).getD (.slice none 0 0)) := by
  cases hg : vget q ms with
  | none =>
    have h0 := h4 q hg
    refine ⟨[], [], ?_, ?_, by simp, by simp⟩
    · rw [h0]; exact ⟨rfl, Or.inl ⟨rfl, rfl⟩⟩
    · rw [h0]; exact ⟨rfl, rfl⟩
  | some v => exact (h5 _ (vget_mem hg)).1

/-- one clause more -/
theorem ShAt.put {ec e : TypeId} {w0 w w2 : World} {B m : Nat} {ks : List Cla} {D D' : Nat → Prop} {c : Cla} {cc : List Value} {Fc : List Nat} {ms : List (ByteArray × Value)} {v v' : Value} {news : List Value} {F : List Nat} {o : Obj}
    (h2 : (ms.map (·.1)).Nodup) (h3 : (ms.map fun x => x.2.ownBlock).Nodup) (h4 : ∀ q, vget q ms = none → ofPred q ks = []) (h5 : ∀ x ∈ ms, ShRow ec e w0 w B x.1 ks D x.2 ∧ x.2.ownBlock ≠ none ∧ ofPred x.1 ks ≠ [])
    (hv : v = (vget (predB c.h) ms).getD (.slice none 0 0)) (hc : OwnC e w0 c cc Fc) (hcn : Fc.Nodup) (hcd : ∀ f ∈ Fc, D' f ∧ ¬ D f) (hD : ∀ f, D f → D' f)
    (r2 : OwnCs e w0 (ofPred (predB c.h) ks) news F) (r3 : F.Nodup) (r4 : ∀ f ∈ F, D f)
    (hown : w2.ownsRow B ec 9 v' ((ofPred (predB c.h) ks).length + 1) (news ++ cc)) (hgrow : w.grownBy w2 v.ownBlock) (hnil : v' ≠ .slice none 0 0) (hat : v'.ownBlock = v.ownBlock ∨ v'.ownBlock = some w.heap.size)
    (hm : ∃ es cl, w2.heap[m]? = some (.map es cl)) (hmap : VMapAt (putB w2 m o) m (vput (predB c.h) v' ms)) :
    ShAt ec e w0 (putB w2 m o) B m (ks ++ [c]) D' := by
  obtain ⟨es0, cl0, hm⟩ := hm
  have hrk : ∀ {x : Value} {n : Nat} {xs : List Value} {u : World}, u.ownsRow B ec 9 x n xs → (∀ b, x.ownBlock = some b → (putB w2 m o).heap[b]? = u.heap[b]?) → (putB w2 m o).ownsRow B ec 9 x n xs := fun {x n xs u} h hb => by
    rcases h.2 with ⟨rfl, hl⟩ | ⟨g, cap, cur, rfl, h1, hh, h2⟩
    · exact ⟨h.1, Or.inl ⟨rfl, hl⟩⟩
    · exact ⟨h.1, Or.inr ⟨g, cap, cur, rfl, h1, (hb g rfl).trans hh, h2⟩⟩
  have hnew : ∀ x ∈ ms, x.1 ≠ predB c.h → x.2.ownBlock ≠ v'.ownBlock ∧ x.2.ownBlock ≠ v.ownBlock := fun x hx hne => by
    have hx5 := (h5 x hx).2.1
    have hxl : ∀ b, x.2.ownBlock = some b → b < w.heap.size := fun b hb => by
      obtain ⟨news, F, r, _⟩ := (h5 x hx).1
      exact (r.lt b hb).2
    have hvx : x.2.ownBlock ≠ v.ownBlock := by
      rw [hv]
      cases hg : vget (predB c.h) ms with
      | none => exact hx5
      | some z =>
        intro e
        have hz := vget_mem hg
        obtain ⟨i, hi, ei⟩ := List.getElem_of_mem hx
        obtain ⟨j, hj, ej⟩ := List.getElem_of_mem hz
        have hij : i = j := (List.getElem?_inj (by simpa using hi : i < (ms.map fun x => x.2.ownBlock).length) h3).1 (by simp only [List.getElem?_map, List.getElem?_eq_getElem hi, List.getElem?_eq_getElem hj, Option.map_some, ei, ej]; rw [e]; rfl)
        subst hij
        rw [ei] at ej
        exact hne (by rw [ej])
    refine ⟨fun e => ?_, hvx⟩
    rcases hat with h | h
    · exact hvx (e.trans h)
    · obtain ⟨b, hb⟩ : ∃ b, x.2.ownBlock = some b := Option.ne_none_iff_exists'.1 hx5
      have := hxl b hb
      rw [hb, h] at e
      have := Option.some.inj e
      omega
  obtain ⟨n1, n2⟩ := vput_nodup (fun x : Value => x.ownBlock) (v := v') h2 h3 fun x hx hne => (hnew x hx hne).1
  refine ⟨vput (predB c.h) v' ms, hmap, n1, n2, fun q hq => ?_, fun x hx => ?_⟩
  · rw [vget_put] at hq
    split at hq
    · cases hq
    · rename_i hne
      rw [ofPred_snoc, if_neg hne]
      exact h4 q hq
  · rcases vput_mem h2 x hx with rfl | ⟨hx, hne⟩
    · refine ⟨⟨news ++ cc, F ++ Fc, ?_, ?_, ?_, fun f hf => ?_⟩, fun e9 => hnil ?_, ?_⟩
      · show (putB w2 m o).ownsRow B ec 9 v' (ofPred (predB c.h) (ks ++ [c])).length (news ++ cc)
        rw [ofPred_snoc, if_pos rfl]
        have hl : (ofPred (predB c.h) ks ++ [c]).length = (ofPred (predB c.h) ks).length + 1 := by simp
        rw [hl]
        refine hrk hown fun b hb => ?_
        refine putB_other fun e9 => ?_
        rcases hown.2 with ⟨h, _⟩ | ⟨g, cap, cur, e8, _, hh, _⟩
        · rw [h] at hb; cases hb
        · rw [e8] at hb
          obtain rfl : g = b := by simpa [Value.ownBlock] using hb
          rw [e9, hm] at hh
          cases hh
      · show OwnCs e w0 (ofPred (predB c.h) (ks ++ [c])) _ _
        rw [ofPred_snoc, if_pos rfl]
        exact OwnCs.snoc hc _ _ _ r2
      · exact List.nodup_append.2 ⟨r3, hcn, fun a ha b hb e => (hcd b hb).2 (e ▸ r4 a ha)⟩
      · rcases List.mem_append.1 hf with hf | hf
        · exact hD f (r4 f hf)
        · exact (hcd f hf).1
      · rcases hown.2 with ⟨h, _⟩ | ⟨g, cap, cur, e8, _, hh, _⟩
        · exact h
        · rw [show v' = _ from e8] at e9
          cases e9
      · show ofPred (predB c.h) (ks ++ [c]) ≠ []
        rw [ofPred_snoc, if_pos rfl]
        simp
    · obtain ⟨⟨news', F', q1, q2, q3, q4⟩, h6, h7⟩ := h5 x hx
      have hne' : ¬ predB c.h = x.1 := fun e => hne e.symm
      refine ⟨⟨news', F', ?_, ?_, q3, fun f hf => hD f (q4 f hf)⟩, h6, ?_⟩
      · rw [ofPred_snoc, if_neg hne']
        refine hrk q1 fun b hb => ?_
        have hbl := (q1.lt b hb).2
        have h8 := (hnew x hx hne).2
        rw [hb] at h8
        refine (putB_other fun e9 => ?_).trans (hgrow.block b hbl h8)
        rcases q1.2 with ⟨h, _⟩ | ⟨g, cap, cur, e8, _, hh, _⟩
        · rw [h] at hb; cases hb
        · rw [e8] at hb
          obtain rfl : g = b := by simpa [Value.ownBlock] using hb
          have := hgrow.block g hbl h8
          rw [hh, e9, hm] at this
          cases this
      · rw [ofPred_snoc, if_neg hne']; exact q2
      · rw [ofPred_snoc, if_neg hne']; exact h7
end Go.Proofs.YtmhmlkdoaojimapDoor

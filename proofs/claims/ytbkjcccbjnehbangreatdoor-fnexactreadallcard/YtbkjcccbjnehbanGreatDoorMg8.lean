import Derived.Test.YtbkjcccbjnehbanGreatDoorRows
import Derived.Test.YtbkjcccbjnehbanGreatDoorTmOwn
import Derived.MapKept
import Derived.ProofKit
import Derived.Test.YtbkjcccbjnehbanGreatDoorMg7
import Derived.Test.YtbkjcccbjnehbanGreatDoorMg1
import Derived.Deep.DeepCutAuto
import Derived.Test.YtbkjcccbjnehbanGreatDoorReadS
import Derived.Test.YtbkjcccbjnehbanGreatDoorClone
import Derived.Deep.RegionWith
import Derived.Test.YtbkjcccbjnehbanGreatDoorRegFactP
namespace Go.Proofs.YtbkjcccbjnehbanGreatDoor
open Go.RowKit
def putB (w : World) (m : Nat) (o : Obj) : World := { w with heap := w.heap.setIfInBounds m o }
theorem putB_at {w : World} {m : Nat} {o o' : Obj} (h : w.heap[m]? = some o') : (putB w m o).heap[m]? = some o := by
 have := (Array.getElem?_eq_some_iff.1 h).1
 simp [putB, this]
theorem putB_other {w : World} {m k : Nat} {o : Obj} (h : k ≠ m) : (putB w m o).heap[k]? = w.heap[k]? := by
 simp [putB, Ne.symm h]
def mget (s : ByteArray) : List (ByteArray × Int) → Option Int
 | [] => none
 | x :: r => if x.1 = s then some x.2 else mget s r
def mput (s : ByteArray) (n : Int) : List (ByteArray × Int) → List (ByteArray × Int)
 | [] => [(s, n)]
 | x :: r => if x.1 = s then (s, n) :: r else x :: mput s n r
theorem mget_put {s : ByteArray} {n : Int} (a : ByteArray) : ∀ ms, mget a (mput s n ms) = if s = a then some n else mget a ms
 | [] => by simp [mput, mget]
 | x :: r => by
   unfold mput
   by_cases h : x.1 = s
   · rw [if_pos h]
     simp only [mget]
     by_cases h2 : s = a
     · rw [if_pos h2, if_pos h2]
     · rw [if_neg h2, if_neg h2, if_neg (by rw [h]; exact h2)]
   · rw [if_neg h]
     simp only [mget]
     rw [mget_put a r]
     by_cases h2 : x.1 = a
     · rw [if_pos h2]
       by_cases h3 : s = a
       · exact absurd (h2.trans h3.symm) h
       · rw [if_neg h3, if_pos h2]
     · rw [if_neg h2, if_neg h2]
def mkv (x : ByteArray × Int) : Value × Value := (.string x.1, .int .i64 x.2)
def NMapAt (w : World) (m : Nat) (ms : List (ByteArray × Int)) : Prop := ∃ es clock, w.heap[m]? = some (.map es clock) ∧ es.toList.map (fun e => (e.key, e.val)) = ms.map mkv
theorem NMapAt.turn {w w' : World} {m : Nat} {ms : List (ByteArray × Int)} (h : NMapAt w m ms) (hb : w'.heap[m]? = w.heap[m]?) : NMapAt w' m ms := by
 obtain ⟨es, c, h1, h2⟩ := h
 exact ⟨es, c, hb.trans h1, h2⟩
theorem beq_bytes (a b : ByteArray) : (a == b) = decide (a = b) := by
 obtain ⟨x⟩ := a
 obtain ⟨y⟩ := b
 by_cases h : x = y
 · subst h
   rw [decide_eq_true rfl]
   show (x == x) = true
   simp
 · rw [decide_eq_false (fun e => h (ByteArray.mk.inj e))]
   show (x == y) = false
   simpa using h
theorem nnow (s : ByteArray) : ∀ (ms : List (ByteArray × Int)) (es : List MapEntry) (i : Nat), es.map (fun e => (e.key, e.val)) = ms.map mkv →
   (mget s ms = none → Instr.findNow .string (.string s) es i = some none) ∧ (∀ n, mget s ms = some n → ∃ j, Instr.findNow .string (.string s) es i = some (some (i + j, .int .i64 n)) ∧ j < es.length ∧ ((es[j]?).map (·.key)) = some (.string s) ∧
     ∀ (v : Int) (e' : MapEntry), e'.key = .string s → e'.val = .int .i64 v → (es.set j e').map (fun e => (e.key, e.val)) = (mput s v ms).map mkv)
 | [], [], i, _ => ⟨fun _ => rfl, fun n h => by cases h⟩
 | [], e :: es, i, h => by simp at h
 | x :: ms, [], i, h => by simp at h
 | x :: ms, e :: es, i, h => by
   simp only [List.map_cons, List.cons.injEq, mkv, Prod.mk.injEq] at h
   obtain ⟨⟨hk, hv⟩, hr⟩ := h
   obtain ⟨h1, h2⟩ := nnow s ms es (i + 1) hr
   have hs : Instr.sameNow .string (.string s) e.key = some (s == x.1) := by rw [hk]; rfl
   by_cases hx : x.1 = s
   · have hb : (s == x.1) = true := by rw [beq_bytes, hx]; exact decide_eq_true rfl
     rw [hb] at hs
     refine ⟨fun hn => by simp [mget, hx] at hn, fun n hn => ⟨0, ?_, by simp, by simp [hk, hx], fun v e' h3 h4 => ?_⟩⟩
     · simp only [mget, if_pos hx, Option.some.injEq] at hn
       simp [Instr.findNow, hs, hv, hn]
     · simp only [List.set_cons_zero, List.map_cons, mput, if_pos hx, h3, h4, hr]
       rfl
   · have hb : (s == x.1) = false := by
       rw [beq_bytes]; exact decide_eq_false fun e => hx e.symm
     rw [hb] at hs
     refine ⟨fun hn => ?_, fun n hn => ?_⟩
     · simp only [mget, if_neg hx] at hn
       simp [Instr.findNow, hs, h1 hn]
     · simp only [mget, if_neg hx] at hn
       obtain ⟨j, hj, hjl, hjk, hjs⟩ := h2 n hn
       refine ⟨j + 1, ?_, by simpa using hjl, by simpa using hjk, fun v e' h3 h4 => ?_⟩
       · simp only [Instr.findNow, hs, hj]
         rw [show i + 1 + j = i + (j + 1) by omega]
       · simp only [List.set_cons_succ, List.map_cons, mput, if_neg hx, hjs v e' h3 h4, hk, hv]
         rfl
theorem schk (d : Nat) (em : Bool) (w : World) (s : ByteArray) : (Instr.checkKey em (d + 1) 9 (.string s)).run Tryz.prog w = .ok () w := by simp [Instr.checkKey, run_underlying Tryz.underlying9]
theorem nmap_look (w : World) (m : Nat) (ms : List (ByteArray × Int)) (h : NMapAt w m ms) (s : ByteArray) :
   (Instr.lookup 61 (.map (some m)) (.string s) true).run Tryz.prog w = .ok (.tuple #[.int .i64 ((mget s ms).getD 0), .bool (mget s ms).isSome]) w := by
 obtain ⟨es, clock, h1, h2⟩ := h
 obtain ⟨q1, q2⟩ := nnow s ms es.toList 0 h2
 have hc := schk 9999 es.isEmpty w s
 cases hg : mget s ms with
 | some n =>
   obtain ⟨j, hj, _⟩ := q2 n hg
   simp [Instr.lookup, run_underlying Tryz.underlying61, run_underlying Tryz.underlying9, MapKept.run_getObj_map h1, hc, Instr.findKey, hj]
 | none =>
   have hj := q1 hg
   simp [Instr.lookup, run_underlying Tryz.underlying61, run_underlying Tryz.underlying9, MapKept.run_getObj_map h1, hc, Instr.findKey, hj]
theorem nmap_put (w : World) (m : Nat) (ms : List (ByteArray × Int)) (h : NMapAt w m ms) (s : ByteArray) (n : Int) :
   ∃ o, (Instr.mapUpdate 61 (.map (some m)) (.string s) (.int .i64 n)).run Tryz.prog w = .ok () (putB w m o) ∧ NMapAt (putB w m o) m (mput s n ms) := by
 obtain ⟨es, clock, h1, h2⟩ := h
 obtain ⟨q1, q2⟩ := nnow s ms es.toList 0 h2
 have hc := schk 9999 false w s
 cases hg : mget s ms with
 | none =>
   have hj := q1 hg
   refine ⟨.map (es.push { key := .string s, val := .int .i64 n, born := clock }) (clock + 1), ?_, _, _, putB_at h1, ?_⟩
   · simp [Instr.mapUpdate, run_underlying Tryz.underlying61, run_underlying Tryz.underlying9, MapKept.run_getObj_map h1, hc, Instr.findKey, hj, MapKept.run_setObj_map _ h1, putB]
   · rw [Array.toList_push, List.map_append, h2]
     have : mput s n ms = ms ++ [(s, n)] := by
       clear h2 q1 q2 hj
       induction ms with
       | nil => rfl
       | cons x r ih =>
         simp only [mget] at hg
         split at hg
         · cases hg
         · rename_i hx
           simp only [mput, if_neg hx, ih hg, List.cons_append]
     rw [this, List.map_append]
     rfl
 | some z =>
   obtain ⟨j, hj, hjl, hjk, hjs⟩ := q2 z hg
   rw [Nat.zero_add] at hj
   have hjl' : j < es.size := by simpa using hjl
   have hkey : ((es[j]?).map (·.key)).getD (.string s) = .string s := by
     have : es.toList[j]? = es[j]? := by simp
     rw [← this, hjk]; rfl
   have hst : (Instr.keyThatStays (.string s) (.string s)).run Tryz.prog w = .ok (.string s) w := by
     have hb : (s == s) = true := by rw [beq_bytes]; exact decide_eq_true rfl
     simp [Instr.keyThatStays, Instr.sameBits, hb]
   refine ⟨.map (es.modify j fun e => { e with key := .string s, val := .int .i64 n }) clock, ?_, _, _, putB_at h1, ?_⟩
   · simp [Instr.mapUpdate, run_underlying Tryz.underlying61, run_underlying Tryz.underlying9, MapKept.run_getObj_map h1, hc, Instr.findKey, hj, hkey, hst, MapKept.run_setObj_map _ h1, putB]
   · have e1 : (es.modify j fun e => { e with key := .string s, val := .int .i64 n }).toList = es.toList.set j { es[j] with key := .string s, val := .int .i64 n } := by
       apply List.ext_getElem?
       intro i
       rw [List.getElem?_set, Array.getElem?_toList, Array.getElem?_modify, Array.length_toList]
       by_cases h : j = i
       · subst h; simp [hjl']
       · simp [h]
     rw [e1]
     exact hjs n _ rfl rfl
end Go.Proofs.YtbkjcccbjnehbanGreatDoor

namespace Go.Proofs.YtbkjcccbjnehbanGreatDoor
open Go.RowKit
def SIn (w : World) (L : List Sg) (lv : Value) : Prop := ∃ ao cap, lv = .slice ao L.length cap ∧ L.length ≤ cap ∧ cap ≤ maxLen ∧ ∀ j (hj : j < L.length), ∃ b off, ao = some ⟨b, off, none⟩ ∧
 w.cell? ⟨b, off + j * 5, none⟩ = some (.int .i64 L[j].kind) ∧ w.cell? ⟨b, off + j * 5 + 1, none⟩ = some (.string L[j].text) ∧ w.cell? ⟨b, off + j * 5 + 2, none⟩ = some (.int .i64 L[j].num) ∧ w.cell? ⟨b, off + j * 5 + 3, none⟩ = some (.int .i64 (L[j].at_ : Int)) ∧ w.cell? ⟨b, off + j * 5 + 4, none⟩ = some (.bool L[j].near)
def sliceBlk : Value → Option Nat
 | .slice (some a) _ _ => some a.block
 | _ => none
theorem SIn.turn {w w' : World} {L : List Sg} {lv : Value} (h : SIn w L lv) (hb : ∀ b, sliceBlk lv = some b → w'.heap[b]? = w.heap[b]?) : SIn w' L lv := by
 obtain ⟨ao, cap, rfl, h1, h2, h3⟩ := h
 refine ⟨ao, cap, rfl, h1, h2, fun j hj => ?_⟩
 obtain ⟨b, off, rfl, q0, q1, q2, q3, q4⟩ := h3 j hj
 have hk := hb b rfl
 exact ⟨b, off, rfl, by rw [World.cell?_of_block (a := ⟨b, _, none⟩) hk]; exact q0, by rw [World.cell?_of_block (a := ⟨b, _, none⟩) hk]; exact q1, by rw [World.cell?_of_block (a := ⟨b, _, none⟩) hk]; exact q2, by rw [World.cell?_of_block (a := ⟨b, _, none⟩) hk]; exact q3, by rw [World.cell?_of_block (a := ⟨b, _, none⟩) hk]; exact q4⟩
def MOk (names : List ByteArray) (ms : List (ByteArray × Int)) : Prop := ∀ s, s ≠ cUs → mget s ms = (names.findIdx? fun x => decide (x = s)).map fun i => (i : Int)
theorem MOk.nil : MOk [] [] := fun _ _ => rfl
def XI (g m : Nat) (nv : Value) : Nat → Prop := fun k => k = g ∨ k = m ∨ nv.ownBlock = some k
structure IRd (g m : Nat) (L : List Sg) (lv nv : Value) (w : World) (d : Nat) (st : St) : Prop where
 ex : ∃ (p : Nat) (ms : List (ByteArray × Int)), w.heap[g]? = some (.cells #[lv, .int .i64 (p : Int), .int .i64 (d : Int), nv, .map (some m)] 63 (0, 0)) ∧ SIn w L lv ∧ (∀ b, sliceBlk lv = some b → b < g ∧ b < m) ∧
   NRow w (max g m + 1) st.names nv ∧ NMapAt w m ms ∧ MOk st.names ms ∧ m ≠ g ∧ p ≤ L.length ∧ L.drop p = st.rest ∧ st.names.length ≤ p
theorem NMapAt.lt {w : World} {m : Nat} {ms : List (ByteArray × Int)} (h : NMapAt w m ms) : m < w.heap.size := by
 obtain ⟨es, c, h1, _⟩ := h
 exact (Array.getElem?_eq_some_iff.1 h1).1
theorem IRd.turn {g m : Nat} {L : List Sg} {lv nv : Value} {w w' : World} {d : Nat} {st : St} (h : IRd g m L lv nv w d st) (hb : ∀ k, k < g ∨ XI g m nv k → w'.heap[k]? = w.heap[k]?) : IRd g m L lv nv w' d st := by
 obtain ⟨p, ms, h1, h2, h3, h4, h5, h6, h7, h8⟩ := h.ex
 exact ⟨p, ms, (hb g (Or.inr (Or.inl rfl))).trans h1, h2.turn fun b e => hb b (Or.inl (h3 b e).1), h3, h4.turn fun b e => hb b (Or.inr (Or.inr (Or.inr e))), h5.turn (hb m (Or.inr (Or.inr (Or.inl rfl)))), h6, h7, h8⟩
theorem IRd.lt {g m : Nat} {L : List Sg} {lv nv : Value} {w : World} {d : Nat} {st : St} (h : IRd g m L lv nv w d st) : g < w.heap.size ∧ m < w.heap.size ∧ ∀ k, XI g m nv k → k < w.heap.size := by
 obtain ⟨p, ms, h1, h2, h3, h4, h5, h6, h7, h8⟩ := h.ex
 have hg := (Array.getElem?_eq_some_iff.1 h1).1
 refine ⟨hg, h5.lt, fun k hk => ?_⟩
 rcases hk with rfl | rfl | e
 · exact hg
 · exact h5.lt
 · exact (h4.lt k e).2
theorem IRd.keep {g m : Nat} {L : List Sg} {lv nv : Value} {w w' : World} {d : Nat} {st : St} (h : IRd g m L lv nv w d st) (hb : Below w.heap.size w w') : IRd g m L lv nv w' d st :=
 h.turn fun k hk => hb.block k (by rcases hk with hk | hk; · have := h.lt.1; omega
                                   · exact h.lt.2.2 k hk)
abbrev sgA (s : Sg) : Value := .agg #[.int .i64 s.kind, .string s.text, .int .i64 s.num, .int .i64 (s.at_ : Int), .bool s.near]
theorem b5_set {w : World} {g : Nat} {c0 c1 c2 c3 c4 d0 d1 d2 d3 d4 : Value} {T : TypeId} (h : w.heap[g]? = some (.cells #[c0, c1, c2, c3, c4] T (0, 0))) :
   (((((w.setCell ⟨g, 0, none⟩ d0).setCell ⟨g, 1, none⟩ d1).setCell ⟨g, 2, none⟩ d2).setCell ⟨g, 3, none⟩ d3).setCell ⟨g, 4, none⟩ d4).heap[g]? = some (.cells #[d0, d1, d2, d3, d4] T (0, 0)) := by
 have := blk_set (i := 4) (blk_set (i := 3) (blk_set (i := 2) (blk_set (i := 1) (blk_set (i := 0) h d0) d1) d2) d3) d4
 simpa using this
theorem b5_below {B : Nat} {w w' : World} {g : Nat} {d0 d1 d2 d3 d4 : Value} (hb : Below B w w') (hg : B ≤ g) :
   Below B w (((((w'.setCell ⟨g, 0, none⟩ d0).setCell ⟨g, 1, none⟩ d1).setCell ⟨g, 2, none⟩ d2).setCell ⟨g, 3, none⟩ d3).setCell ⟨g, 4, none⟩ d4) :=
 below_set (below_set (below_set (below_set (below_set hb hg _) hg _) hg _) hg _) hg _
def sg0 : Sg := ⟨0, ⟨#[]⟩, 0, 0, false⟩
def aheadP (st : St) (n : Nat) : Sg := (st.rest[n]?).getD sg0
set_option maxHeartbeats 4000000 in
theorem i_ahead (g m : Nat) (L : List Sg) (lv nv : Value) (d : Nat) (st : St) (n : Nat) (w : World) (hn : n ≤ 2) (hL : L.length ≤ 3000) (h : IRd g m L lv nv w d st) :
   Calls Tryz.prog 86 #[.pointer (some ⟨g, 0, none⟩), .int .i64 (n : Int)] w fun e w' => e = .returned (sgA (aheadP st n)) ∧ Below w.heap.size w w' := by
 obtain ⟨p, ms, hg, ⟨ao, cap, rfl, hlc, hcap, hc⟩, hblk, _, _, _, _, hp, hdrop, _⟩ := h.ex
 obtain ⟨c0, c1, c2, c3, c4, cf⟩ := b5f hg
 obtain ⟨NL, hNL⟩ : ∃ NL, NL = L.length := ⟨_, rfl⟩
 have HNL : Hid (L.length = NL) := hNL.symm
 have hgw : g < w.heap.size := (Array.getElem?_eq_some_iff.1 hg).1
 obtain ⟨W, hW⟩ : ∃ W, W = w.alloc (.cells #[.int .i64 0, .string ⟨#[]⟩, .int .i64 0, .int .i64 0, .bool false] 45) := ⟨_, rfl⟩
 have bW : Below w.heap.size w W := by rw [hW]; exact (Below.refl _ _).alloc (Nat.le_refl _) _
 have HK : Hid (W.heap[w.heap.size]? = some (.cells #[.int .i64 0, .string ⟨#[]⟩, .int .i64 0, .int .i64 0, .bool false] 45 (0, 0))) := by rw [hW]; exact heap_alloc_new _ _
 have HBW : Hid (Below w.heap.size w W) := bW
 have k0 := cell_keep c0 bW
 have k1 := cell_keep c1 bW
 have hp3 : (p : Int) ≤ 3000 := by omega
 have hn2 : (n : Int) ≤ 2 := by omega
 rw [← hNL] at k0
 have hNp : (NL : Int) ≤ 3000 := by omega
 have HP : Hid (aheadP st n = (L[p + n]?).getD sg0) := by
   show _ = _
   unfold aheadP
   rw [← hdrop, List.getElem?_drop]
 by_cases hlt : p + n < L.length
 · have hge : decide ((p : Int) + n ≥ NL) = false := decide_eq_false (by omega)
   obtain ⟨b, off, rfl, y0, y1, y2, y3, y4⟩ := hc (p + n) hlt
   have HV : Hid (aheadP st n = L[p + n]) := by show _ = _; rw [HP.out, List.getElem?_eq_getElem hlt]; rfl
   have hwr : IntKind.i64.wrap ((p : Int) + n) = (p : Int) + n := by rw [IntKind.wrap_i64]; omega
   have hin1 : (p : Int) + n < NL := by omega
   obtain ⟨x, hx⟩ : ∃ x, x = L[p + n] := ⟨_, rfl⟩
   rw [← hx] at y0 y1 y2 y3 y4 HV
   obtain ⟨kk, xx, nn, aa, bb⟩ := x
   obtain ⟨PN, hPN⟩ : ∃ PN, PN = p + n := ⟨_, rfl⟩
   have hpn : (p : Int) + n = (PN : Int) := by omega
   rw [← hPN] at y0 y1 y2 y3 y4
   rw [hpn] at hge hin1
   replace hwr : IntKind.i64.wrap ((p : Int) + n) = (PN : Int) := by rw [hwr, hpn]
   have z0 := cell_keep y0 bW
   have z1 := cell_keep y1 bW
   have z2 := cell_keep y2 bW
   have z3 := cell_keep y3 bW
   have z4 := cell_keep y4 bW
   have hPL : PN < NL := by omega
   clear hc hdrop hg c0 c1 c2 c3 c4 cf hblk hNL hlt hL hlc hp hn h bW y0 y1 y2 y3 y4 hx
   unfold maxLen at hcap
   go_enter Tryz.func86, Tryz.ntmps86
   go_upto_region 1 with (fail)
   rw [← hW]
   clear hW
   clear hpn hPN
   go_quiet (fail)
   have HKD : Hid ((W.drewN nq).heap[w.heap.size]? = some (.cells #[.int .i64 0, .string ⟨#[]⟩, .int .i64 0, .int .i64 0, .bool false] 45 (0, 0))) := HK.out
   have HBD : Hid (Below w.heap.size w (W.drewN nq)) := HBW.out.trans ⟨rfl, rfl, rfl, Nat.le_refl _, fun _ _ => rfl⟩
   have e0 : (W.drewN nq).cell? ⟨b, off + PN * 5, none⟩ = some (.int .i64 kk) := z0
   have e1 : (W.drewN nq).cell? ⟨b, off + PN * 5 + 1, none⟩ = some (.string xx) := z1
   have e2 : (W.drewN nq).cell? ⟨b, off + PN * 5 + 2, none⟩ = some (.int .i64 nn) := z2
   have e3 : (W.drewN nq).cell? ⟨b, off + PN * 5 + 3, none⟩ = some (.int .i64 (aa : Int)) := z3
   have e4 : (W.drewN nq).cell? ⟨b, off + PN * 5 + 4, none⟩ = some (.bool bb) := z4
   have g0 : (W.drewN nq).cell? ⟨g, 0, none⟩ = some (.slice (some ⟨b, off, none⟩) NL cap) := k0
   have g1 : (W.drewN nq).cell? ⟨g, 1, none⟩ = some (.int .i64 (p : Int)) := k1
   generalize W.drewN nq = V at *
   clear z0 z1 z2 z3 z4 k0 k1
   obtain ⟨q0, q1, q2, q3, q4, qf⟩ := b5f HKD.out
   have z0 := fun u => cell_keep e0 (later_below V u)
   have z1 := fun u => cell_keep e1 (later_below V u)
   have z2 := fun u => cell_keep e2 (later_below V u)
   have z3 := fun u => cell_keep e3 (later_below V u)
   have z4 := fun u => cell_keep e4 (later_below V u)
   have k0 := fun u => cell_keep g0 (later_below V u)
   have k1 := fun u => cell_keep g1 (later_below V u)
   clear e0 e1 e2 e3 e4 g0 g1 q0 q1 q2 q3 q4 qf
   go_upto_region 3 with (fail)
   refine wp_region_tail 12 (by kernel_rfl) (by kernel_rfl) ?_
   simp only [List.take_succ_cons, List.take_zero, List.drop_succ_cons, List.drop_zero]
   repeat (go_big_quiet_step (skip))
   refine wpQuiet_nil ?_
   rintro _ ⟨u3, rfl⟩
   have HB3 : Hid (Below V.heap.size V (later V u3)) := later_below V u3
   clear z0 z1 z2 z3 z4 k0 k1
   generalize later V u3 = w3 at *
   have HK3 : Hid (w3.heap[w.heap.size]? = some (.cells #[.int .i64 0, .string ⟨#[]⟩, .int .i64 0, .int .i64 0, .bool false] 45 (0, 0))) := (HB3.out.block _ (Array.getElem?_eq_some_iff.1 HKD.out).1).trans HKD.out
   obtain ⟨q0, q1, q2, q3, q4, qf⟩ := b5f HK3.out
   have f0 := qf 0
   have f1 := qf 1
   have f2 := qf 2
   have f3 := qf 3
   have f4 := qf 4
   clear qf
   go_wp2
   refine bodyPost_ret_by (results_cell_row rfl _ _ w.heap.size 45 _ (0, 0) _ rfl (b5_set HK3.out) Tryz.underlying45 rfl (by kernel_rfl)) rfl ?_
   exact ⟨by rw [HV.out], b5_below (HBD.out.trans (HB3.out.mono HBD.out.size)) (Nat.le_refl _)⟩
 · have hge : decide ((p : Int) + n ≥ NL) = true := decide_eq_true (by omega)
   have HV : Hid (aheadP st n = sg0) := by show _ = _; rw [HP.out, List.getElem?_eq_none (by omega)]; rfl
   have hwr : IntKind.i64.wrap ((p : Int) + n) = (p : Int) + n := by rw [IntKind.wrap_i64]; omega
   clear hc hdrop hg c0 c1 c2 c3 c4 cf hblk hNL hlt hL hlc hp hn h bW
   unfold maxLen at hcap
   go_enter Tryz.func86, Tryz.ntmps86
   go_upto_region 1 with (fail)
   rw [← hW]
   clear hW
   go_quiet (fail)
   have HKD : Hid ((W.drewN nq).heap[w.heap.size]? = some (.cells #[.int .i64 0, .string ⟨#[]⟩, .int .i64 0, .int .i64 0, .bool false] 45 (0, 0))) := HK.out
   have HBD : Hid (Below w.heap.size w (W.drewN nq)) := HBW.out.trans ⟨rfl, rfl, rfl, Nat.le_refl _, fun _ _ => rfl⟩
   generalize W.drewN nq = V at *
   obtain ⟨q0, q1, q2, q3, q4, qf⟩ := b5f HKD.out
   have f0 := qf 0
   have f1 := qf 1
   have f2 := qf 2
   have f3 := qf 3
   have f4 := qf 4
   clear qf
   go_wp2
   refine bodyPost_ret_by (results_cell_row rfl _ _ w.heap.size 45 _ (0, 0) _ rfl (b5_set HKD.out) Tryz.underlying45 rfl (by kernel_rfl)) rfl ?_
   exact ⟨by rw [HV.out]; rfl, b5_below HBD.out (Nat.le_refl _)⟩
end Go.Proofs.YtbkjcccbjnehbanGreatDoor

namespace Go.Proofs.YtbkjcccbjnehbanGreatDoor
open Go.RowKit
def markB (s : Sg) (q : ByteArray) : Bool := decide (s.kind = 4) && decide (s.text = q)
theorem toL_ne3 {a b : ByteArray} (h : ¬ a = b) : (a.toList == b.toList) = false := by
 rw [beq_eq_false_iff_ne]
 intro e
 apply h
 rw [ByteArray.toList_eq, ByteArray.toList_eq] at e
 apply ByteArray.ext
 exact Array.toList_inj.1 e
set_option maxHeartbeats 1000000 in
theorem i_isMark (s : Sg) (q : ByteArray) (w : World) :
   Calls Tryz.prog 88 #[sgA s, .string q] w fun e w' => e = .returned (.bool (markB s q)) ∧ Below w.heap.size w w' := by
 obtain ⟨k, x, n, a, b⟩ := s
 have HB : Hid (Below w.heap.size w (w.alloc (.cells #[.int .i64 k, .string x, .int .i64 n, .int .i64 (a : Int), .bool b] 45))) := (Below.refl _ _).alloc (Nat.le_refl _) _
 obtain ⟨r, hr⟩ : ∃ r, r = markB ⟨k, x, n, a, b⟩ q := ⟨_, rfl⟩
 have HV : Hid (r = (decide (k = 4) && decide (x = q))) := hr
 rw [← hr]
 clear hr
 by_cases h1 : k = 4
 · subst h1
   by_cases h2 : x = q
   · subst h2
     go_enter Tryz.func88, Tryz.ntmps88
     go_wp2
     go_ret
     exact ⟨by rw [HV.out]; simp, HB.out⟩
   · have h2' := toL_ne3 h2
     have HF : Hid (decide (x = q) = false) := decide_eq_false h2
     clear h2
     go_enter Tryz.func88, Tryz.ntmps88
     go_wp2
     go_ret
     exact ⟨by rw [HV.out, HF.out, Bool.and_false]; rfl, HB.out⟩
 · have h1' : (k == 4) = false := beq_eq_false_iff_ne.2 h1
   have HF : Hid (decide (k = 4) = false) := decide_eq_false h1
   clear h1
   go_enter Tryz.func88, Tryz.ntmps88
   go_wp2
   go_ret
   exact ⟨by rw [HV.out, HF.out, Bool.false_and]; rfl, HB.out⟩
theorem mark_mk {st : St} {q : ByteArray} : markB (aheadP st 0) q = (mk? q st.rest).isSome := by
 obtain ⟨rest, names⟩ := st
 cases rest with
 | nil => rfl
 | cons x r =>
   show (decide (x.kind = 4) && decide (x.text = q)) = (if x.kind = 4 ∧ x.text = q then some r else none).isSome
   by_cases h : x.kind = 4 ∧ x.text = q
   · rw [if_pos h, decide_eq_true h.1, decide_eq_true h.2]; rfl
   · rw [if_neg h]
     by_cases h1 : x.kind = 4
     · rw [decide_eq_false (fun e => h ⟨h1, e⟩), Bool.and_false]; rfl
     · rw [decide_eq_false h1, Bool.false_and]; rfl
theorem IRd.step {g m : Nat} {L : List Sg} {lv nv : Value} {w : World} {d : Nat} {x : Sg} {r : List Sg} {names : List ByteArray} (h : IRd g m L lv nv w d ⟨x :: r, names⟩) :
   ∃ p : Nat, w.cell? ⟨g, 1, none⟩ = some (.int .i64 (p : Int)) ∧ p < L.length ∧ w.frozen? ⟨g, 1, none⟩ = false ∧ IRd g m L lv nv (w.setCell ⟨g, 1, none⟩ (.int .i64 ((p + 1 : Nat) : Int))) d ⟨r, names⟩ := by
 obtain ⟨p, ms, h1, h2, h3, h4, h5, h6, h7, h8, h9, h10⟩ := h.ex
 obtain ⟨c0, c1, c2, c3, c4, cf⟩ := b5f h1
 have hl := congrArg List.length h9
 rw [List.length_drop, List.length_cons] at hl
 refine ⟨p, c1, by omega, cf 1, ?_⟩
 have hs : (w.setCell ⟨g, 1, none⟩ (.int .i64 ((p + 1 : Nat) : Int))).heap[g]? = some (.cells #[lv, .int .i64 ((p + 1 : Nat) : Int), .int .i64 (d : Int), nv, .map (some m)] 63 (0, 0)) := by
   have := blk_set (i := 1) h1 (.int .i64 ((p + 1 : Nat) : Int))
   simpa using this
 have ho : ∀ k, k ≠ g → (w.setCell ⟨g, 1, none⟩ (.int .i64 ((p + 1 : Nat) : Int))).heap[k]? = w.heap[k]? := fun k hk => blk_other _ hk
 refine ⟨p + 1, ms, hs, h2.turn fun b e => ho b (by have := (h3 b e).1; omega), h3, h4.turn fun b e => ho b (by have := (h4.lt b e).1; omega), h5.turn (ho m h7), h6, h7, by omega, ?_, by show names.length ≤ p + 1; have : names.length ≤ p := h10; omega⟩
 show L.drop (p + 1) = r
 have : L.drop (p + 1) = (L.drop p).drop 1 := by rw [List.drop_drop]
 rw [this, h9]; rfl
def PassR (g m : Nat) (L : List Sg) (lv nv : Value) (d : Nat) (st : St) (q : ByteArray) (w : World) (e : Ending) (w' : World) : Prop :=
 e = .returned (.bool (mk? q st.rest).isSome) ∧ IRd g m L lv nv w' d ⟨(mk? q st.rest).getD st.rest, st.names⟩ ∧ FX (XI g m nv) (XI g m nv) w w'
set_option maxHeartbeats 2000000 in
theorem i_passed (g m : Nat) (L : List Sg) (lv nv : Value) (d : Nat) (st : St) (q : ByteArray) (w : World) (hL : L.length ≤ 3000) (h : IRd g m L lv nv w d st) :
   Calls Tryz.prog 102 #[.pointer (some ⟨g, 0, none⟩), .string q] w (PassR g m L lv nv d st q w) := by
 have HA : Hid _ := i_ahead g m L lv nv d st 0 w (by omega) hL h
 have HM : Hid (∀ w, Calls Tryz.prog 88 #[sgA (aheadP st 0), .string q] w fun e w' => e = .returned (.bool (markB (aheadP st 0) q)) ∧ Below w.heap.size w w') := fun w => i_isMark _ q w
 rw [mark_mk] at HM
 have HI : Hid (∀ w', Below w.heap.size w w' → IRd g m L lv nv w' d st) := fun w' hb => h.keep hb
 have HL3 : Hid (L.length ≤ 3000) := hL
 cases hk : mk? q st.rest with
 | none =>
   rw [hk] at HM
   have HK : Hid (mk? q st.rest = none) := hk
   clear hk h hL
   go_enter Tryz.func102, Tryz.ntmps102
   go_wp2_with (first
     | (go_at_call 86; refine (Calls.mono HA.out ?_); rintro e w1 ⟨rfl, b1⟩; have B1 : Hid (Below w.heap.size w w1) := b1; clear b1)
     | (go_at_call 88; refine (Calls.mono (HM.out _) ?_); rintro e w2 ⟨rfl, b2⟩; have B2 : Hid (Below w.heap.size w w2) := B1.out.trans (b2.mono B1.out.size); clear b2))
   go_ret
   exact ⟨by rw [HK.out]; rfl, by rw [HK.out]; exact HI.out _ B2.out, FX.of_below B2.out⟩
 | some r =>
   rw [hk] at HM
   obtain ⟨x, hx, _⟩ := mk?_cons hk
   have HK : Hid (mk? q st.rest = some r) := hk
   obtain ⟨rest, names⟩ := st
   subst hx
   clear hk h hL
   go_enter Tryz.func102, Tryz.ntmps102
   go_upto_region 3 with (first
     | (go_at_call 86; refine (Calls.mono HA.out ?_); rintro e w1 ⟨rfl, b1⟩; have B1 : Hid (Below w.heap.size w w1) := b1; clear b1)
     | (go_at_call 88; refine (Calls.mono (HM.out _) ?_); rintro e w2 ⟨rfl, b2⟩; have B2 : Hid (Below w.heap.size w w2) := B1.out.trans (b2.mono B1.out.size); clear b2))
   obtain ⟨p, c1, hp, f1, hI⟩ := (HI.out _ B2.out).step
   have HS : Hid _ := hI
   have hwr : IntKind.i64.wrap ((p : Int) + 1) = ((p + 1 : Nat) : Int) := by have := HL3.out; rw [IntKind.wrap_i64]; omega
   clear hI
   go_wp2
   go_ret
   exact ⟨by rw [HK.out]; rfl, by rw [HK.out]; exact HS.out, (FX.of_below B2.out).set (Or.inl (Or.inl rfl)) _⟩
abbrev unreadC : List PanicEntry := [{ v := .iface 86 (.agg #[]), recovered := false }]
set_option maxHeartbeats 2000000 in
theorem i_mustPass (g m : Nat) (L : List Sg) (lv nv : Value) (d : Nat) (st : St) (q : ByteArray) (w : World) (hL : L.length ≤ 3000) (h : IRd g m L lv nv w d st) :
   Calls Tryz.prog 100 #[.pointer (some ⟨g, 0, none⟩), .string q] w fun e w' => FX (XI g m nv) (XI g m nv) w w' ∧ match mk? q st.rest with
     | some r => e = .returned (.tuple #[]) ∧ IRd g m L lv nv w' d ⟨r, st.names⟩
     | none => e = .panicked unreadC := by
 have HP : Hid _ := i_passed g m L lv nv d st q w hL h
 clear h
 cases hk : mk? q st.rest with
 | none =>
   have HK : Hid (mk? q st.rest = none) := hk
   clear hk
   go_enter Tryz.func100, Tryz.ntmps100
   go_upto_region 1 with (go_at_call 102; refine (Calls.mono HP.out ?_); rintro e w1 ⟨rfl, _, hx⟩; rw [HK.out]; have HX : Hid (FX (XI g m nv) (XI g m nv) w w1) := hx; clear hx)
   go_wp2
   exact ⟨rfl, HX.out, rfl⟩
 | some r =>
   have HK : Hid (mk? q st.rest = some r) := hk
   clear hk
   go_enter Tryz.func100, Tryz.ntmps100
   go_wp2_with (go_at_call 102; refine (Calls.mono HP.out ?_); rintro e w1 ⟨rfl, hi, hx⟩; rw [HK.out] at hi ⊢; have HX : Hid (FX (XI g m nv) (XI g m nv) w w1) := hx; have HI : Hid (IRd g m L lv nv w1 d ⟨r, st.names⟩) := hi; clear hx hi)
   refine bodyPost_end (results_none rfl _ _ _) rfl ?_
   exact ⟨HX.out, rfl, HI.out⟩
end Go.Proofs.YtbkjcccbjnehbanGreatDoor

namespace Go.Proofs.YtbkjcccbjnehbanGreatDoor
open Go.RowKit
theorem below_heap {w w' : World} (hb : Below w.heap.size w w') {g : Nat} {x : Obj} (h : w.heap[g]? = some x) : w'.heap[g]? = some x := by
 rw [← h]; exact hb.block g (Array.getElem?_eq_some_iff.1 h).1
set_option maxHeartbeats 1000000 in
theorem new_op (s : ByteArray) (a b c : Int) (w : World) (hs : s.size ≤ 1048576) :
   Calls Tryz.prog 104 #[.string s, .int .i64 a, .int .i64 b, .int .i64 c] w fun e w' => e = .returned (.agg #[.string s, .int .i64 a, .int .i64 b, .int .i64 c]) ∧ Below w.heap.size w w' := by
 go_enter Tryz.func104, Tryz.ntmps104
 go_wp2_with (go_at_call 70; refine (clone_any s _ hs).mono ?_; rintro e w1 ⟨rfl, hb⟩; have hh := below_heap hb (heap_alloc_new _ _); obtain ⟨c0, c1, c2, c3, f0, f1, f2, f3⟩ := blk4 hh; have HB : Hid (Below w.heap.size w w1) := ((Below.refl _ _).alloc (Nat.le_refl _) _).trans (hb.mono (by simp)); clear hb)
 refine bodyPost_ret_by (results_cell_row rfl _ _ w.heap.size 72 _ (0, 0) _ rfl (blk4_set hh) Tryz.underlying72 rfl (by kernel_rfl)) rfl ?_
 exact ⟨rfl, blk4_below HB.out (Nat.le_refl _)⟩
set_option maxHeartbeats 8000000 in
theorem i_prefix (s : ByteArray) (w : World) (hs : s.size ≤ 1048576) :
   Calls Tryz.prog 103 #[.string s] w fun e w' => e = .returned (.tuple #[opV (prefixP s), .bool (prefixP s).isSome]) ∧ Below w.heap.size w w' := by
 by_cases h0 : s = ⟨#[58, 45]⟩
 · subst h0
   have HC : Hid _ := fun w => new_op ⟨#[58, 45]⟩ 1200 0 1199 w hs
   clear hs
   go_enter Tryz.func103, Tryz.ntmps103
   go_wp2_with (go_at_call 104; refine (HC.out _).mono ?_; rintro e w1 ⟨rfl, hb⟩; have hh := below_heap hb (heap_alloc_new _ _); obtain ⟨c0, c1, c2, c3, f0, f1, f2, f3⟩ := blk4 hh; have HB : Hid (Below w.heap.size w w1) := ((Below.refl _ _).alloc (Nat.le_refl _) _).trans (hb.mono (by simp)); clear hb)
   refine bodyPost_ret_by (results_ct2 rfl _ _ w.heap.size 72 _ (0, 0) _ rfl (blk4_set hh) Tryz.underlying72 rfl (by kernel_rfl)) rfl ?_
   exact ⟨rfl, blk4_below HB.out (Nat.le_refl _)⟩
 by_cases h1 : s = ⟨#[92, 43]⟩
 · subst h1
   have HC : Hid _ := fun w => new_op ⟨#[92, 43]⟩ 900 0 900 w hs
   clear hs
   go_enter Tryz.func103, Tryz.ntmps103
   go_wp2_with (go_at_call 104; refine (HC.out _).mono ?_; rintro e w1 ⟨rfl, hb⟩; have hh := below_heap hb (heap_alloc_new _ _); obtain ⟨c0, c1, c2, c3, f0, f1, f2, f3⟩ := blk4 hh; have HB : Hid (Below w.heap.size w w1) := ((Below.refl _ _).alloc (Nat.le_refl _) _).trans (hb.mono (by simp)); clear hb)
   refine bodyPost_ret_by (results_ct2 rfl _ _ w.heap.size 72 _ (0, 0) _ rfl (blk4_set hh) Tryz.underlying72 rfl (by kernel_rfl)) rfl ?_
   exact ⟨rfl, blk4_below HB.out (Nat.le_refl _)⟩
 by_cases h2 : s = ⟨#[45]⟩
 · subst h2
   have HC : Hid _ := fun w => new_op ⟨#[45]⟩ 200 0 200 w hs
   clear hs
   go_enter Tryz.func103, Tryz.ntmps103
   go_wp2_with (go_at_call 104; refine (HC.out _).mono ?_; rintro e w1 ⟨rfl, hb⟩; have hh := below_heap hb (heap_alloc_new _ _); obtain ⟨c0, c1, c2, c3, f0, f1, f2, f3⟩ := blk4 hh; have HB : Hid (Below w.heap.size w w1) := ((Below.refl _ _).alloc (Nat.le_refl _) _).trans (hb.mono (by simp)); clear hb)
   refine bodyPost_ret_by (results_ct2 rfl _ _ w.heap.size 72 _ (0, 0) _ rfl (blk4_set hh) Tryz.underlying72 rfl (by kernel_rfl)) rfl ?_
   exact ⟨rfl, blk4_below HB.out (Nat.le_refl _)⟩
 have HN : Hid (prefixP s = none) := by
   show _ = _
   unfold prefixP
   split <;> first | rfl | skip
   all_goals
     rename_i hh
     exfalso
     have hs : s = ⟨s.data.toList.toArray⟩ := by simp
     rw [hh] at hs
     first | exact h0 hs | exact h1 hs | exact h2 hs
 have e0 : (s.toList == [58, 45]) = false := toL_ne (l := [58, 45]) h0
 have e1 : (s.toList == [92, 43]) = false := toL_ne (l := [92, 43]) h1
 have e2 : (s.toList == [45]) = false := toL_ne (l := [45]) h2
 clear hs h0 h1 h2
 go_enter Tryz.func103, Tryz.ntmps103
 go_wp2
 refine bodyPost_ret_by (results_ct2 rfl _ _ w.heap.size 72 _ (0, 0) _ rfl (heap_alloc_new _ _) Tryz.underlying72 rfl (by kernel_rfl)) rfl ?_
 exact ⟨by rw [HN.out]; rfl, (Below.refl _ _).alloc (Nat.le_refl _) _⟩
set_option maxHeartbeats 8000000 in
theorem i_infix (s : ByteArray) (w : World) (hs : s.size ≤ 1048576) :
   Calls Tryz.prog 95 #[.string s] w fun e w' => e = .returned (.tuple #[opV (infixP s), .bool (infixP s).isSome]) ∧ Below w.heap.size w w' := by
 by_cases h0 : s = ⟨#[58, 45]⟩
 · subst h0
   have HC : Hid _ := fun w => new_op ⟨#[58, 45]⟩ 1200 1199 1199 w hs
   clear hs
   go_enter Tryz.func95, Tryz.ntmps95
   go_wp2_with (go_at_call 104; refine (HC.out _).mono ?_; rintro e w1 ⟨rfl, hb⟩; have hh := below_heap hb (heap_alloc_new _ _); obtain ⟨c0, c1, c2, c3, f0, f1, f2, f3⟩ := blk4 hh; have HB : Hid (Below w.heap.size w w1) := ((Below.refl _ _).alloc (Nat.le_refl _) _).trans (hb.mono (by simp)); clear hb)
   refine bodyPost_ret_by (results_ct2 rfl _ _ w.heap.size 72 _ (0, 0) _ rfl (blk4_set hh) Tryz.underlying72 rfl (by kernel_rfl)) rfl ?_
   exact ⟨rfl, blk4_below HB.out (Nat.le_refl _)⟩
 by_cases h1 : s = ⟨#[45, 45, 62]⟩
 · subst h1
   have HC : Hid _ := fun w => new_op ⟨#[45, 45, 62]⟩ 1200 1199 1199 w hs
   clear hs
   go_enter Tryz.func95, Tryz.ntmps95
   go_wp2_with (go_at_call 104; refine (HC.out _).mono ?_; rintro e w1 ⟨rfl, hb⟩; have hh := below_heap hb (heap_alloc_new _ _); obtain ⟨c0, c1, c2, c3, f0, f1, f2, f3⟩ := blk4 hh; have HB : Hid (Below w.heap.size w w1) := ((Below.refl _ _).alloc (Nat.le_refl _) _).trans (hb.mono (by simp)); clear hb)
   refine bodyPost_ret_by (results_ct2 rfl _ _ w.heap.size 72 _ (0, 0) _ rfl (blk4_set hh) Tryz.underlying72 rfl (by kernel_rfl)) rfl ?_
   exact ⟨rfl, blk4_below HB.out (Nat.le_refl _)⟩
 by_cases h2 : s = ⟨#[59]⟩
 · subst h2
   have HC : Hid _ := fun w => new_op ⟨#[59]⟩ 1100 1099 1100 w hs
   clear hs
   go_enter Tryz.func95, Tryz.ntmps95
   go_wp2_with (go_at_call 104; refine (HC.out _).mono ?_; rintro e w1 ⟨rfl, hb⟩; have hh := below_heap hb (heap_alloc_new _ _); obtain ⟨c0, c1, c2, c3, f0, f1, f2, f3⟩ := blk4 hh; have HB : Hid (Below w.heap.size w w1) := ((Below.refl _ _).alloc (Nat.le_refl _) _).trans (hb.mono (by simp)); clear hb)
   refine bodyPost_ret_by (results_ct2 rfl _ _ w.heap.size 72 _ (0, 0) _ rfl (blk4_set hh) Tryz.underlying72 rfl (by kernel_rfl)) rfl ?_
   exact ⟨rfl, blk4_below HB.out (Nat.le_refl _)⟩
 by_cases h3 : s = ⟨#[45, 62]⟩
 · subst h3
   have HC : Hid _ := fun w => new_op ⟨#[45, 62]⟩ 1050 1049 1050 w hs
   clear hs
   go_enter Tryz.func95, Tryz.ntmps95
   go_wp2_with (go_at_call 104; refine (HC.out _).mono ?_; rintro e w1 ⟨rfl, hb⟩; have hh := below_heap hb (heap_alloc_new _ _); obtain ⟨c0, c1, c2, c3, f0, f1, f2, f3⟩ := blk4 hh; have HB : Hid (Below w.heap.size w w1) := ((Below.refl _ _).alloc (Nat.le_refl _) _).trans (hb.mono (by simp)); clear hb)
   refine bodyPost_ret_by (results_ct2 rfl _ _ w.heap.size 72 _ (0, 0) _ rfl (blk4_set hh) Tryz.underlying72 rfl (by kernel_rfl)) rfl ?_
   exact ⟨rfl, blk4_below HB.out (Nat.le_refl _)⟩
 by_cases h4 : s = ⟨#[44]⟩
 · subst h4
   have HC : Hid _ := fun w => new_op ⟨#[44]⟩ 1000 999 1000 w hs
   clear hs
   go_enter Tryz.func95, Tryz.ntmps95
   go_wp2_with (go_at_call 104; refine (HC.out _).mono ?_; rintro e w1 ⟨rfl, hb⟩; have hh := below_heap hb (heap_alloc_new _ _); obtain ⟨c0, c1, c2, c3, f0, f1, f2, f3⟩ := blk4 hh; have HB : Hid (Below w.heap.size w w1) := ((Below.refl _ _).alloc (Nat.le_refl _) _).trans (hb.mono (by simp)); clear hb)
   refine bodyPost_ret_by (results_ct2 rfl _ _ w.heap.size 72 _ (0, 0) _ rfl (blk4_set hh) Tryz.underlying72 rfl (by kernel_rfl)) rfl ?_
   exact ⟨rfl, blk4_below HB.out (Nat.le_refl _)⟩
 by_cases h5 : s = ⟨#[61]⟩
 · subst h5
   have HC : Hid _ := fun w => new_op ⟨#[61]⟩ 700 699 699 w hs
   clear hs
   go_enter Tryz.func95, Tryz.ntmps95
   go_wp2_with (go_at_call 104; refine (HC.out _).mono ?_; rintro e w1 ⟨rfl, hb⟩; have hh := below_heap hb (heap_alloc_new _ _); obtain ⟨c0, c1, c2, c3, f0, f1, f2, f3⟩ := blk4 hh; have HB : Hid (Below w.heap.size w w1) := ((Below.refl _ _).alloc (Nat.le_refl _) _).trans (hb.mono (by simp)); clear hb)
   refine bodyPost_ret_by (results_ct2 rfl _ _ w.heap.size 72 _ (0, 0) _ rfl (blk4_set hh) Tryz.underlying72 rfl (by kernel_rfl)) rfl ?_
   exact ⟨rfl, blk4_below HB.out (Nat.le_refl _)⟩
 by_cases h6 : s = ⟨#[92, 61]⟩
 · subst h6
   have HC : Hid _ := fun w => new_op ⟨#[92, 61]⟩ 700 699 699 w hs
   clear hs
   go_enter Tryz.func95, Tryz.ntmps95
   go_wp2_with (go_at_call 104; refine (HC.out _).mono ?_; rintro e w1 ⟨rfl, hb⟩; have hh := below_heap hb (heap_alloc_new _ _); obtain ⟨c0, c1, c2, c3, f0, f1, f2, f3⟩ := blk4 hh; have HB : Hid (Below w.heap.size w w1) := ((Below.refl _ _).alloc (Nat.le_refl _) _).trans (hb.mono (by simp)); clear hb)
   refine bodyPost_ret_by (results_ct2 rfl _ _ w.heap.size 72 _ (0, 0) _ rfl (blk4_set hh) Tryz.underlying72 rfl (by kernel_rfl)) rfl ?_
   exact ⟨rfl, blk4_below HB.out (Nat.le_refl _)⟩
 by_cases h7 : s = ⟨#[61, 61]⟩
 · subst h7
   have HC : Hid _ := fun w => new_op ⟨#[61, 61]⟩ 700 699 699 w hs
   clear hs
   go_enter Tryz.func95, Tryz.ntmps95
   go_wp2_with (go_at_call 104; refine (HC.out _).mono ?_; rintro e w1 ⟨rfl, hb⟩; have hh := below_heap hb (heap_alloc_new _ _); obtain ⟨c0, c1, c2, c3, f0, f1, f2, f3⟩ := blk4 hh; have HB : Hid (Below w.heap.size w w1) := ((Below.refl _ _).alloc (Nat.le_refl _) _).trans (hb.mono (by simp)); clear hb)
   refine bodyPost_ret_by (results_ct2 rfl _ _ w.heap.size 72 _ (0, 0) _ rfl (blk4_set hh) Tryz.underlying72 rfl (by kernel_rfl)) rfl ?_
   exact ⟨rfl, blk4_below HB.out (Nat.le_refl _)⟩
 by_cases h8 : s = ⟨#[105, 115]⟩
 · subst h8
   have HC : Hid _ := fun w => new_op ⟨#[105, 115]⟩ 700 699 699 w hs
   clear hs
   go_enter Tryz.func95, Tryz.ntmps95
   go_wp2_with (go_at_call 104; refine (HC.out _).mono ?_; rintro e w1 ⟨rfl, hb⟩; have hh := below_heap hb (heap_alloc_new _ _); obtain ⟨c0, c1, c2, c3, f0, f1, f2, f3⟩ := blk4 hh; have HB : Hid (Below w.heap.size w w1) := ((Below.refl _ _).alloc (Nat.le_refl _) _).trans (hb.mono (by simp)); clear hb)
   refine bodyPost_ret_by (results_ct2 rfl _ _ w.heap.size 72 _ (0, 0) _ rfl (blk4_set hh) Tryz.underlying72 rfl (by kernel_rfl)) rfl ?_
   exact ⟨rfl, blk4_below HB.out (Nat.le_refl _)⟩
 by_cases h9 : s = ⟨#[60]⟩
 · subst h9
   have HC : Hid _ := fun w => new_op ⟨#[60]⟩ 700 699 699 w hs
   clear hs
   go_enter Tryz.func95, Tryz.ntmps95
   go_wp2_with (go_at_call 104; refine (HC.out _).mono ?_; rintro e w1 ⟨rfl, hb⟩; have hh := below_heap hb (heap_alloc_new _ _); obtain ⟨c0, c1, c2, c3, f0, f1, f2, f3⟩ := blk4 hh; have HB : Hid (Below w.heap.size w w1) := ((Below.refl _ _).alloc (Nat.le_refl _) _).trans (hb.mono (by simp)); clear hb)
   refine bodyPost_ret_by (results_ct2 rfl _ _ w.heap.size 72 _ (0, 0) _ rfl (blk4_set hh) Tryz.underlying72 rfl (by kernel_rfl)) rfl ?_
   exact ⟨rfl, blk4_below HB.out (Nat.le_refl _)⟩
 by_cases h10 : s = ⟨#[61, 58, 61]⟩
 · subst h10
   have HC : Hid _ := fun w => new_op ⟨#[61, 58, 61]⟩ 700 699 699 w hs
   clear hs
   go_enter Tryz.func95, Tryz.ntmps95
   go_wp2_with (go_at_call 104; refine (HC.out _).mono ?_; rintro e w1 ⟨rfl, hb⟩; have hh := below_heap hb (heap_alloc_new _ _); obtain ⟨c0, c1, c2, c3, f0, f1, f2, f3⟩ := blk4 hh; have HB : Hid (Below w.heap.size w w1) := ((Below.refl _ _).alloc (Nat.le_refl _) _).trans (hb.mono (by simp)); clear hb)
   refine bodyPost_ret_by (results_ct2 rfl _ _ w.heap.size 72 _ (0, 0) _ rfl (blk4_set hh) Tryz.underlying72 rfl (by kernel_rfl)) rfl ?_
   exact ⟨rfl, blk4_below HB.out (Nat.le_refl _)⟩
 by_cases h11 : s = ⟨#[43]⟩
 · subst h11
   have HC : Hid _ := fun w => new_op ⟨#[43]⟩ 500 500 499 w hs
   clear hs
   go_enter Tryz.func95, Tryz.ntmps95
   go_wp2_with (go_at_call 104; refine (HC.out _).mono ?_; rintro e w1 ⟨rfl, hb⟩; have hh := below_heap hb (heap_alloc_new _ _); obtain ⟨c0, c1, c2, c3, f0, f1, f2, f3⟩ := blk4 hh; have HB : Hid (Below w.heap.size w w1) := ((Below.refl _ _).alloc (Nat.le_refl _) _).trans (hb.mono (by simp)); clear hb)
   refine bodyPost_ret_by (results_ct2 rfl _ _ w.heap.size 72 _ (0, 0) _ rfl (blk4_set hh) Tryz.underlying72 rfl (by kernel_rfl)) rfl ?_
   exact ⟨rfl, blk4_below HB.out (Nat.le_refl _)⟩
 by_cases h12 : s = ⟨#[45]⟩
 · subst h12
   have HC : Hid _ := fun w => new_op ⟨#[45]⟩ 500 500 499 w hs
   clear hs
   go_enter Tryz.func95, Tryz.ntmps95
   go_wp2_with (go_at_call 104; refine (HC.out _).mono ?_; rintro e w1 ⟨rfl, hb⟩; have hh := below_heap hb (heap_alloc_new _ _); obtain ⟨c0, c1, c2, c3, f0, f1, f2, f3⟩ := blk4 hh; have HB : Hid (Below w.heap.size w w1) := ((Below.refl _ _).alloc (Nat.le_refl _) _).trans (hb.mono (by simp)); clear hb)
   refine bodyPost_ret_by (results_ct2 rfl _ _ w.heap.size 72 _ (0, 0) _ rfl (blk4_set hh) Tryz.underlying72 rfl (by kernel_rfl)) rfl ?_
   exact ⟨rfl, blk4_below HB.out (Nat.le_refl _)⟩
 by_cases h13 : s = ⟨#[42]⟩
 · subst h13
   have HC : Hid _ := fun w => new_op ⟨#[42]⟩ 400 400 399 w hs
   clear hs
   go_enter Tryz.func95, Tryz.ntmps95
   go_wp2_with (go_at_call 104; refine (HC.out _).mono ?_; rintro e w1 ⟨rfl, hb⟩; have hh := below_heap hb (heap_alloc_new _ _); obtain ⟨c0, c1, c2, c3, f0, f1, f2, f3⟩ := blk4 hh; have HB : Hid (Below w.heap.size w w1) := ((Below.refl _ _).alloc (Nat.le_refl _) _).trans (hb.mono (by simp)); clear hb)
   refine bodyPost_ret_by (results_ct2 rfl _ _ w.heap.size 72 _ (0, 0) _ rfl (blk4_set hh) Tryz.underlying72 rfl (by kernel_rfl)) rfl ?_
   exact ⟨rfl, blk4_below HB.out (Nat.le_refl _)⟩
 by_cases h14 : s = ⟨#[47, 47]⟩
 · subst h14
   have HC : Hid _ := fun w => new_op ⟨#[47, 47]⟩ 400 400 399 w hs
   clear hs
   go_enter Tryz.func95, Tryz.ntmps95
   go_wp2_with (go_at_call 104; refine (HC.out _).mono ?_; rintro e w1 ⟨rfl, hb⟩; have hh := below_heap hb (heap_alloc_new _ _); obtain ⟨c0, c1, c2, c3, f0, f1, f2, f3⟩ := blk4 hh; have HB : Hid (Below w.heap.size w w1) := ((Below.refl _ _).alloc (Nat.le_refl _) _).trans (hb.mono (by simp)); clear hb)
   refine bodyPost_ret_by (results_ct2 rfl _ _ w.heap.size 72 _ (0, 0) _ rfl (blk4_set hh) Tryz.underlying72 rfl (by kernel_rfl)) rfl ?_
   exact ⟨rfl, blk4_below HB.out (Nat.le_refl _)⟩
 have HN : Hid (infixP s = none) := by
   show _ = _
   unfold infixP
   split <;> first | rfl | skip
   all_goals
     rename_i hh
     exfalso
     have hs : s = ⟨s.data.toList.toArray⟩ := by simp
     rw [hh] at hs
     first | exact h0 hs | exact h1 hs | exact h2 hs | exact h3 hs | exact h4 hs | exact h5 hs | exact h6 hs | exact h7 hs | exact h8 hs | exact h9 hs | exact h10 hs | exact h11 hs | exact h12 hs | exact h13 hs | exact h14 hs
 have e0 : (s.toList == [58, 45]) = false := toL_ne (l := [58, 45]) h0
 have e1 : (s.toList == [45, 45, 62]) = false := toL_ne (l := [45, 45, 62]) h1
 have e2 : (s.toList == [59]) = false := toL_ne (l := [59]) h2
 have e3 : (s.toList == [45, 62]) = false := toL_ne (l := [45, 62]) h3
 have e4 : (s.toList == [44]) = false := toL_ne (l := [44]) h4
 have e5 : (s.toList == [61]) = false := toL_ne (l := [61]) h5
 have e6 : (s.toList == [92, 61]) = false := toL_ne (l := [92, 61]) h6
 have e7 : (s.toList == [61, 61]) = false := toL_ne (l := [61, 61]) h7
 have e8 : (s.toList == [105, 115]) = false := toL_ne (l := [105, 115]) h8
 have e9 : (s.toList == [60]) = false := toL_ne (l := [60]) h9
 have e10 : (s.toList == [61, 58, 61]) = false := toL_ne (l := [61, 58, 61]) h10
 have e11 : (s.toList == [43]) = false := toL_ne (l := [43]) h11
 have e12 : (s.toList == [45]) = false := toL_ne (l := [45]) h12
 have e13 : (s.toList == [42]) = false := toL_ne (l := [42]) h13
 have e14 : (s.toList == [47, 47]) = false := toL_ne (l := [47, 47]) h14
 clear hs h0 h1 h2 h3 h4 h5 h6 h7 h8 h9 h10 h11 h12 h13 h14
 go_enter Tryz.func95, Tryz.ntmps95
 go_wp2
 refine bodyPost_ret_by (results_ct2 rfl _ _ w.heap.size 72 _ (0, 0) _ rfl (heap_alloc_new _ _) Tryz.underlying72 rfl (by kernel_rfl)) rfl ?_
 exact ⟨by rw [HN.out]; rfl, (Below.refl _ _).alloc (Nat.le_refl _) _⟩
end Go.Proofs.YtbkjcccbjnehbanGreatDoor

namespace Go.Proofs.YtbkjcccbjnehbanGreatDoor
open Go.RowKit
def infOkP (most prio : Int) (o : Option OpP) : Bool := match o with
 | some op => decide (op.prio ≤ most) && decide (op.left ≥ prio)
 | none => false
theorem opV_open (o : Option OpP) : ∃ (a : ByteArray) (b c d : Int), opV o = .agg #[.string a, .int .i64 b, .int .i64 c, .int .i64 d] ∧ (∀ op, o = some op → b = op.prio ∧ c = op.left) := by
 cases o with
 | none => exact ⟨_, _, _, _, rfl, fun op h => by cases h⟩
 | some o => exact ⟨_, _, _, _, rfl, fun op h => by cases h; exact ⟨rfl, rfl⟩⟩
def infSg (s : Sg) : Bool := markB s cComma || (decide (s.kind = 1) && !s.near)
theorem infixO_eq (st : St) : infixO st.rest = if infSg (aheadP st 0) then infixP (aheadP st 0).text else none := by
 obtain ⟨rest, names⟩ := st
 cases rest with
 | nil => rfl
 | cons x r =>
   show infixO (x :: r) = if infSg x then infixP x.text else none
   unfold infixO infSg markB
   by_cases h : x.kind = 4 ∧ x.text = cComma
   · simp only [h.1, h.2]; simp
   · simp only [if_neg h]
     have hm : (decide (x.kind = 4) && decide (x.text = cComma)) = false := by
       by_cases h1 : x.kind = 4
       · rw [decide_eq_false (fun e => h ⟨h1, e⟩), Bool.and_false]
       · rw [decide_eq_false h1, Bool.false_and]
     rw [hm, Bool.false_or]
     by_cases h2 : x.kind = 1
     · cases hn : x.near <;> simp [h2]
     · simp [h2]
set_option maxHeartbeats 4000000 in
set_option maxRecDepth 20000 in
theorem i_infixR (g m : Nat) (L : List Sg) (lv nv : Value) (d : Nat) (st : St) (most prio : Int) (w : World) (hL : L.length ≤ 3000) (hT : (aheadP st 0).text.size ≤ 3000) (h : IRd g m L lv nv w d st) :
   Calls Tryz.prog 74 #[.pointer (some ⟨g, 0, none⟩), .int .i64 most, .int .i64 prio] w fun e w' => ∃ (a : ByteArray) (b c dd : Int), e = .returned (.tuple #[.agg #[.string a, .int .i64 b, .int .i64 c, .int .i64 dd], .bool (infOkP most prio (infixO st.rest))]) ∧ (infOkP most prio (infixO st.rest) = true → opV (infixO st.rest) = .agg #[.string a, .int .i64 b, .int .i64 c, .int .i64 dd]) ∧ Below w.heap.size w w' := by
 obtain ⟨W, hW⟩ : ∃ W, W = w.alloc (.cells #[.string ⟨#[]⟩, .int .i64 0, .int .i64 0, .int .i64 0] 72) := ⟨_, rfl⟩
 have bW : Below w.heap.size w W := by rw [hW]; exact (Below.refl _ _).alloc (Nat.le_refl _) _
 have HK : Hid (W.heap[w.heap.size]? = some (.cells #[.string ⟨#[]⟩, .int .i64 0, .int .i64 0, .int .i64 0] 72 (0, 0))) := by rw [hW]; exact heap_alloc_new _ _
 have HBW : Hid (Below w.heap.size w W) := bW
 have HLW : Hid (w.heap.size < W.heap.size) := by show _ < _; rw [hW]; simp
 have HA : Hid _ := i_ahead g m L lv nv d st 0 W (by omega) hL (h.keep bW)
 have HO := infixO_eq st
 have HM : Hid (∀ w, Calls Tryz.prog 88 #[sgA (aheadP st 0), .string cComma] w fun e w' => e = .returned (.bool (markB (aheadP st 0) cComma)) ∧ Below w.heap.size w w') := fun w => i_isMark _ _ w
 have HII : Hid (∀ w, Calls Tryz.prog 95 #[.string (aheadP st 0).text] w fun e w' => e = .returned (.tuple #[opV (infixP (aheadP st 0).text), .bool (infixP (aheadP st 0).text).isSome]) ∧ Below w.heap.size w w') := fun w => i_infix _ w (by omega)
 unfold infSg at HO
 generalize aheadP st 0 = s at *
 generalize infixO st.rest = O at *
 obtain ⟨k, x, n, a, near⟩ := s
 simp only at HO HII hT
 obtain ⟨bm, hbm⟩ : ∃ bm, bm = markB ⟨k, x, n, a, near⟩ cComma := ⟨_, rfl⟩
 rw [← hbm] at HM HO
 clear hbm h hL bW hT
 rw [show cComma = ⟨#[44]⟩ from rfl] at HM
 obtain ⟨ca, cb, cc, cd, hop, hof⟩ := opV_open O
 by_cases hyes : (bm || (decide (k = 1) && !near)) = true
 · rw [if_pos hyes] at HO
   rw [← HO, hop] at HII
   have hin : infOkP most prio O = (O.isSome && decide (cb ≤ most) && decide (cc ≥ prio)) := by
     cases O with
     | none => rfl
     | some op => obtain ⟨e1, e2⟩ := hof op rfl; rw [e1, e2]; rfl
   have HOP : Hid (opV O = .agg #[.string ca, .int .i64 cb, .int .i64 cc, .int .i64 cd]) := hop
   have HIN : Hid (infOkP most prio O = (O.isSome && decide (cb ≤ most) && decide (cc ≥ prio))) := hin
   clear hin hop hof HO
   have hg : bm = true ∨ (bm = false ∧ k = 1 ∧ near = false) := by
     cases bm
     · right; simp at hyes; exact ⟨rfl, hyes.1, hyes.2⟩
     · left; rfl
   clear hyes
   generalize O.isSome = ok at *
   have h3 : ok = false ∨ (ok = true ∧ decide (cb ≤ most) = false) ∨ (ok = true ∧ decide (cb ≤ most) = true) := by
     cases ok
     · left; rfl
     · right; cases decide (cb ≤ most)
       · left; exact ⟨rfl, rfl⟩
       · right; exact ⟨rfl, rfl⟩
   generalize hgg : decide (cc ≥ prio) = gg at *
   rcases hg with rfl | ⟨rfl, rfl, rfl⟩
   all_goals rcases h3 with rfl | ⟨rfl, hp⟩ | ⟨rfl, hp⟩
   all_goals (
     go_enter Tryz.func74, Tryz.ntmps74
     go_upto_region 1 with (fail)
     rw [← hW]
     clear hW
     go_upto_region 5 with (first
       | (go_at_call 86; refine (Calls.mono HA.out ?_); rintro e w1 ⟨rfl, b1⟩; have hh := below_heap b1 HK.out; have HK1 : Hid _ := hh; have B1 : Hid (Below w.heap.size w w1) := HBW.out.trans (b1.mono HBW.out.size); clear b1 hh)
       | (go_at_call 88; refine (Calls.mono (HM.out _) ?_); rintro e w2 ⟨rfl, b2⟩; have hs := below_heap b2 (heap_alloc_new _ _); obtain ⟨s0, s1, s2, s3, s4, sf⟩ := b5f hs; have hb := ((Below.refl w1.heap.size w1).alloc (Nat.le_refl _) _).trans (b2.mono (by simp)); have hk := below_heap hb HK1.out; have HK2 : Hid _ := hk; have B2 : Hid (Below w.heap.size w w2) := B1.out.trans (hb.mono B1.out.size); clear b2 hs hk hb sf)
       | (go_at_call 95; refine (Calls.mono (HII.out _) ?_); rintro e w3 ⟨rfl, b3⟩; have hk3 := below_heap b3 HK2.out; have HK3 : Hid _ := hk3; have B3 : Hid (Below w.heap.size w w3) := B2.out.trans (b3.mono B2.out.size); clear b3 hk3))
     have HLT : Hid (w.heap.size < w3.heap.size) := (Array.getElem?_eq_some_iff.1 HK3.out).1
     have BV : Below w.heap.size w (w3.alloc (.cells #[.string ca, .int .i64 cb, .int .i64 cc, .int .i64 cd] 72)) := B3.out.alloc B3.out.size _
     have kz : (w3.alloc (.cells #[.string ca, .int .i64 cb, .int .i64 cc, .int .i64 cd] 72)).heap[w3.heap.size]? = some (.cells #[.string ca, .int .i64 cb, .int .i64 cc, .int .i64 cd] 72 (0, 0)) := heap_alloc_new _ _
     have ko : (w3.alloc (.cells #[.string ca, .int .i64 cb, .int .i64 cc, .int .i64 cd] 72)).heap[w.heap.size]? = some (.cells #[.string ⟨#[]⟩, .int .i64 0, .int .i64 0, .int .i64 0] 72 (0, 0)) := (((Below.refl _ _).alloc (Nat.le_refl _) _).block _ HLT.out).trans HK3.out
     generalize w3.alloc (.cells #[.string ca, .int .i64 cb, .int .i64 cc, .int .i64 cd] 72) = V at *
     have HBV : Hid _ := BV
     have HKO : Hid _ := ko
     obtain ⟨o0, o1, o2, o3, p0, p1, p2, p3⟩ := blk4 ko
     obtain ⟨z0, z1, z2, z3, _, _, _, _⟩ := blk4 kz
     have hn1 : ¬ w.heap.size = w3.heap.size := by have := HLT.out; omega
     have hn2 : ¬ w3.heap.size = w.heap.size := by have := HLT.out; omega
     clear ko kz BV
     go_region
     have hd : ∀ u : World, u.drew.heap = u.heap := fun _ => rfl
     have hbd : ∀ u : World, Below w.heap.size u u.drew := fun u => ⟨rfl, rfl, rfl, Nat.le_refl _, fun _ _ => rfl⟩
     go_wp2
     refine bodyPost_ret_by (results_ct2 rfl _ _ w.heap.size 72 #[.string ca, .int .i64 cb, .int .i64 cc, .int .i64 cd] (0, 0) _ rfl (by rw [hd]; exact blk4_set HKO.out) Tryz.underlying72 rfl (by kernel_rfl)) rfl ?_
     refine ⟨ca, cb, cc, cd, ?_, fun _ => HOP.out, (blk4_below HBV.out (Nat.le_refl _)).trans (hbd _)⟩
     rw [HIN.out]
     first | rfl | (rw [hp]; rfl) | (rw [hp]; cases gg <;> rfl))
 · rw [if_neg hyes] at HO
   subst HO
   have hbm : bm = false := by cases bm <;> simp at hyes ⊢
   subst hbm
   have hkn : (k != 1) = true ∨ near = true := by
     cases near
     · left; simp at hyes; simpa using hyes
     · right; rfl
   have hkn2 : (k != 1) = true ∨ ((k != 1) = false ∧ near = true) := by
     cases hb : (k != 1)
     · right; rw [hb] at hkn; exact ⟨rfl, hkn.resolve_left (by simp)⟩
     · left; rfl
   clear HII hyes hof hop hkn
   rcases hkn2 with hk1 | ⟨hk1, rfl⟩
   all_goals (
     have hk2 : decide (k ≠ 1) = (k != 1) := by by_cases hz : k = 1 <;> simp [hz]
     rw [hk1] at hk2
     go_enter Tryz.func74, Tryz.ntmps74
     go_upto_region 1 with (fail)
     rw [← hW]
     clear hW
     go_upto_region 3 with (first
       | (go_at_call 86; refine (Calls.mono HA.out ?_); rintro e w1 ⟨rfl, b1⟩; have hh := below_heap b1 HK.out; have HK1 : Hid _ := hh; have B1 : Hid (Below w.heap.size w w1) := HBW.out.trans (b1.mono HBW.out.size); clear b1 hh)
       | (go_at_call 88; refine (Calls.mono (HM.out _) ?_); rintro e w2 ⟨rfl, b2⟩; have hs := below_heap b2 (heap_alloc_new _ _); obtain ⟨s0, s1, s2, s3, s4, sf⟩ := b5f hs; have hb := ((Below.refl w1.heap.size w1).alloc (Nat.le_refl _) _).trans (b2.mono (by simp)); have hk := below_heap hb HK1.out; have HK2 : Hid _ := hk; have B2 : Hid (Below w.heap.size w w2) := B1.out.trans (hb.mono B1.out.size); clear b2 hs hk hb sf))
     obtain ⟨o0, o1, o2, o3, p0, p1, p2, p3⟩ := blk4 HK2.out
     go_wp2
     refine bodyPost_ret_by (results_ct2 rfl _ _ w.heap.size 72 _ (0, 0) _ rfl (blk4_set HK2.out) Tryz.underlying72 rfl (by kernel_rfl)) rfl ?_
     exact ⟨_, _, _, _, rfl, (fun h => by cases h), blk4_below B2.out (Nat.le_refl _)⟩)
end Go.Proofs.YtbkjcccbjnehbanGreatDoor

namespace Go.Proofs.YtbkjcccbjnehbanGreatDoor
open Go.RowKit
set_option maxHeartbeats 1000000 in
theorem i_atomOf (s : ByteArray) (w : World) (hs : s.size ≤ 1048576) :
   Calls Tryz.prog 89 #[.string s] w fun e w' => e = .returned (.agg #[.int .i64 2, .string s, .int .i64 0, .slice none 0 0]) ∧ Below w.heap.size w w' := by
 go_enter Tryz.func89, Tryz.ntmps89
 go_wp2_with (go_at_call 70; refine (clone_any s _ hs).mono ?_; rintro e w1 ⟨rfl, hb⟩; have hh := below_heap hb (heap_alloc_new _ _); obtain ⟨c0, c1, c2, c3, f0, f1, f2, f3⟩ := blk4 hh; have HB : Hid (Below w.heap.size w w1) := ((Below.refl _ _).alloc (Nat.le_refl _) _).trans (hb.mono (by simp)); clear hb)
 refine bodyPost_ret_by (results_cell_row rfl _ _ w.heap.size 24 _ (0, 0) _ rfl (blk4_set hh) Tryz.underlying24 rfl (by kernel_rfl)) rfl ?_
 exact ⟨rfl, blk4_below HB.out (Nat.le_refl _)⟩
set_option maxHeartbeats 1000000 in
theorem i_structOf (s : ByteArray) (ao : Option Addr) (n cap : Nat) (w : World) (hs : s.size ≤ 1048576) :
   Calls Tryz.prog 75 #[.string s, .slice ao n cap] w fun e w' => e = .returned (.agg #[.int .i64 4, .string s, .int .i64 0, .slice ao n cap]) ∧ Below w.heap.size w w' := by
 go_enter Tryz.func75, Tryz.ntmps75
 go_wp2_with (go_at_call 70; refine (clone_any s _ hs).mono ?_; rintro e w1 ⟨rfl, hb⟩; have hh := below_heap hb (heap_alloc_new _ _); obtain ⟨c0, c1, c2, c3, f0, f1, f2, f3⟩ := blk4 hh; have HB : Hid (Below w.heap.size w w1) := ((Below.refl _ _).alloc (Nat.le_refl _) _).trans (hb.mono (by simp)); clear hb)
 refine bodyPost_ret_by (results_cell_row rfl _ _ w.heap.size 24 _ (0, 0) _ rfl (blk4_set hh) Tryz.underlying24 rfl (by kernel_rfl)) rfl ?_
 exact ⟨rfl, blk4_below HB.out (Nat.le_refl _)⟩
set_option maxHeartbeats 1000000 in
theorem i_justBehind (s n : Sg) (w : World) (hs : s.at_ ≤ 3000) (hn : n.at_ ≤ 3000) :
   Calls Tryz.prog 93 #[sgA s, sgA n] w fun e w' => e = .returned (.bool (decide (n.at_ = s.at_ + 1))) ∧ Below w.heap.size w w' := by
 obtain ⟨k, x, num, a, nr⟩ := s
 obtain ⟨k', x', num', a', nr'⟩ := n
 unfold sgA
 simp only at *
 have HH : Hid (a ≤ 3000 ∧ a' ≤ 3000) := ⟨hs, hn⟩
 clear hs hn
 by_cases h1 : a < a'
 · have hw : IntKind.i64.wrap ((a' : Int) - (a : Int)) = (a' : Int) - a := by have := HH.out; rw [IntKind.wrap_i64]; omega
   have HV : Hid ((((a' : Int) - (a : Int)) == 1) = decide (a' = a + 1)) := by
     show _ = _
     by_cases e : a' = a + 1
     · rw [decide_eq_true e]; simp; omega
     · rw [decide_eq_false e]; simp; omega
   go_enter Tryz.func93, Tryz.ntmps93
   go_wp2
   go_ret
   refine ⟨?_, ((Below.refl _ _).alloc (Nat.le_refl _) _).alloc (by simp) _⟩
   rw [← HV.out]; rfl
 · have HV : Hid (decide (a' = a + 1) = false) := decide_eq_false (by omega)
   go_enter Tryz.func93, Tryz.ntmps93
   go_wp2
   go_ret
   exact ⟨by rw [HV.out]; rfl, ((Below.refl _ _).alloc (Nat.le_refl _) _).alloc (by simp) _⟩
end Go.Proofs.YtbkjcccbjnehbanGreatDoor

namespace Go.Proofs.YtbkjcccbjnehbanGreatDoor
open Go.RowKit
def TmRI (g m : Nat) (L : List Sg) (lv nv : Value) (w : World) (v : Value) (w' : World) (y : Tm × St) (d : Nat) : Prop :=
 ∃ F nv', TOk 24 (XI g m nv') w.heap.size w' y.1 v F ∧ IRd g m L lv nv' w' d y.2 ∧ FX (XI g m nv) (XI g m nv') w w'
theorem varO_known {s : ByteArray} {names : List ByteArray} {i : Nat} (hs : s ≠ cUs) (h : (names.findIdx? fun x => decide (x = s)) = some i) : varO s names = (i, names) := by
 unfold varO; rw [if_neg hs, h]
theorem varO_new {s : ByteArray} {names : List ByteArray} (h : s = cUs ∨ (names.findIdx? fun x => decide (x = s)) = none) : varO s names = (names.length, names ++ [s]) := by
 unfold varO
 by_cases hs : s = cUs
 · rw [if_pos hs]
 · rw [if_neg hs, h.resolve_left hs]
theorem MOk.new {names : List ByteArray} {ms : List (ByteArray × Int)} {s : ByteArray} (h : MOk names ms) (hn : s = cUs ∨ (names.findIdx? fun x => decide (x = s)) = none) : MOk (names ++ [s]) (mput s (names.length : Int) ms) := by
 intro a ha
 rw [mget_put, List.findIdx?_append]
 by_cases e : s = a
 · subst e
   rw [if_pos rfl, hn.resolve_left ha]
   simp
 · rw [if_neg e, h a ha]
   cases names.findIdx? fun x => decide (x = a) with
   | some i => rfl
   | none => simp [e]
theorem IRd.mk' {g m : Nat} {L : List Sg} {lv nv : Value} {w : World} {d p : Nat} {r : List Sg} {names : List ByteArray} {ms : List (ByteArray × Int)}
   (h1 : w.heap[g]? = some (.cells #[lv, .int .i64 (p : Int), .int .i64 (d : Int), nv, .map (some m)] 63 (0, 0))) (h2 : SIn w L lv) (h3 : ∀ b, sliceBlk lv = some b → b < g ∧ b < m) (h4 : NRow w (max g m + 1) names nv) (h5 : NMapAt w m ms) (h6 : MOk names ms) (h7 : m ≠ g) (h8 : p ≤ L.length) (h9 : L.drop p = r) (h10 : names.length ≤ p) :
   IRd g m L lv nv w d ⟨r, names⟩ := ⟨⟨p, ms, h1, h2, h3, h4, h5, h6, h7, h8, h9, h10⟩⟩
set_option maxHeartbeats 8000000 in
set_option maxRecDepth 20000 in
theorem i_var_known (g m : Nat) (L : List Sg) (lv nv : Value) (d p : Nat) (r : List Sg) (names : List ByteArray) (ms : List (ByteArray × Int)) (s : ByteArray) (i : Nat) (w : World) (hL : L.length ≤ 3000)
   (hg : w.heap[g]? = some (.cells #[lv, .int .i64 (p : Int), .int .i64 (d : Int), nv, .map (some m)] 63 (0, 0))) (hI : IRd g m L lv nv w d ⟨r, names⟩) (hM : NMapAt w m ms) (hO : MOk names ms) (hm : names.length ≤ L.length)
   (hs : s ≠ cUs) (hf : (names.findIdx? fun x => decide (x = s)) = some i) :
   Calls Tryz.prog 92 #[.pointer (some ⟨g, 0, none⟩), .string s] w fun e w' => ∃ v, e = .returned v ∧ TmRI g m L lv nv w v w' (varTm (varO s names).1, ⟨r, (varO s names).2⟩) d := by
 have hgw : g < w.heap.size := (Array.getElem?_eq_some_iff.1 hg).1
 have hil : i < names.length := (find_some hf).1
 have hget : mget s ms = some (i : Int) := by rw [hO s hs, hf]; rfl
 obtain ⟨W, hW⟩ : ∃ W, W = w.alloc (.cells #[.int .i64 0, .string ⟨#[]⟩, .int .i64 0, .slice none 0 0] 24) := ⟨_, rfl⟩
 have bW : Below w.heap.size w W := by rw [hW]; exact (Below.refl _ _).alloc (Nat.le_refl _) _
 have kW : W.heap[w.heap.size]? = some (.cells #[.int .i64 0, .string ⟨#[]⟩, .int .i64 0, .slice none 0 0] 24 (0, 0)) := by rw [hW]; exact heap_alloc_new _ _
 have gW := (bW.block g hgw).trans hg
 have MW : NMapAt W m ms := hM.turn (bW.block m hM.lt)
 have HLK := nmap_look W m ms MW s
 rw [hget] at HLK
 have HLK : (Instr.lookup 61 (.map (some m)) (.string s) true).run Tryz.prog W = .ok (.tuple #[.int .i64 (i : Int), .bool true]) W := HLK
 obtain ⟨c0, c1, c2, c3, c4, cf⟩ := b5f gW
 have es : (s.toList == [95]) = false := toL_ne (l := [95]) hs
 have HV : Hid (varO s names = (i, names)) := varO_known hs hf
 have HB : Hid (Below w.heap.size w W) := bW
 have HK : Hid _ := kW
 have HI : Hid (IRd g m L lv nv w d ⟨r, names⟩) := hI
 have HIL : Hid (i ≤ 3000) := by show _ ≤ _; omega
 obtain ⟨k0, k1, k2, k3, q0, q1, q2, q3⟩ := blk4 kW
 clear hg hI hM hO hs hf hm hil hget hL bW kW gW MW hgw cf
 go_enter Tryz.func92, Tryz.ntmps92
 go_upto_region 1 with fail
 rw [← hW]
 clear hW
 go_wp2
 refine bodyPost_ret_by (results_cell_row rfl _ _ w.heap.size 24 _ (0, 0) _ rfl (blk4_set HK.out) Tryz.underlying24 rfl (by kernel_rfl)) rfl ?_
 have hb := blk4_below (g := w.heap.size) (d0 := .int .i64 1) (d1 := .string ⟨#[]⟩) (d2 := .int .i64 (i : Int)) (d3 := .slice none 0 0) HB.out (Nat.le_refl _)
 refine ⟨_, rfl, [], nv, ?_, ?_, FX.of_below hb⟩
 · rw [HV.out]; exact TOk.leaf (by decide) (by have := HIL.out; constructor <;> omega) (by decide)
 · rw [HV.out]; exact HI.out.keep hb
end Go.Proofs.YtbkjcccbjnehbanGreatDoor

namespace Go.Proofs.YtbkjcccbjnehbanGreatDoor
open Go.RowKit
theorem FX.grownI {g m : Nat} {nv v' : Value} {w w' : World} (hg : w.grownBy w' nv.ownBlock) (hat : v'.ownBlock = nv.ownBlock ∨ v'.ownBlock = some w.heap.size) : FX (XI g m nv) (XI g m v') w w' :=
 ⟨hg.os, hg.tape, hg.output, hg.size, fun k hk hx => hg.block k hk (fun e => hx (Or.inr (Or.inr e.symm))), fun k hk => by
   rcases hk with rfl | rfl | hk
   · exact Or.inl (Or.inl rfl)
   · exact Or.inl (Or.inr (Or.inl rfl))
   · rcases hat with h | h
     · exact Or.inl (Or.inr (Or.inr (h ▸ hk)))
     · rw [h] at hk; exact Or.inr (by simp at hk; omega)⟩
theorem FX.put {X : Nat → Prop} {w : World} {m : Nat} (o : Obj) (hx : X m) : FX X X w (putB w m o) :=
 ⟨rfl, rfl, rfl, by simp [putB], fun k _ h => putB_other (fun e => h (e ▸ hx)), fun k h => Or.inl h⟩
set_option maxHeartbeats 8000000 in
set_option maxRecDepth 20000 in
theorem i_var_new (g m : Nat) (L : List Sg) (lv nv : Value) (d p : Nat) (r : List Sg) (names : List ByteArray) (ms : List (ByteArray × Int)) (s : ByteArray) (w : World) (hL : L.length ≤ 3000) (hss : s.size ≤ 3000)
   (hg : w.heap[g]? = some (.cells #[lv, .int .i64 (p : Int), .int .i64 (d : Int), nv, .map (some m)] 63 (0, 0))) (hl : SIn w L lv) (hb3 : ∀ b, sliceBlk lv = some b → b < g ∧ b < m) (hn : NRow w (max g m + 1) names nv) (hM : NMapAt w m ms) (hO : MOk names ms) (hmg : m ≠ g) (hp : p ≤ L.length) (hd : L.drop p = r) (hm : names.length + 1 ≤ p)
   (hnew : s = cUs ∨ (names.findIdx? fun x => decide (x = s)) = none) :
   Calls Tryz.prog 92 #[.pointer (some ⟨g, 0, none⟩), .string s] w fun e w' => ∃ v, e = .returned v ∧ TmRI g m L lv nv w v w' (varTm (varO s names).1, ⟨r, (varO s names).2⟩) d := by
 obtain ⟨i0, hi, hz0, hz1, hz2⟩ := info_partsS infoN
 have hgw : g < w.heap.size := (Array.getElem?_eq_some_iff.1 hg).1
 have hmw : m < w.heap.size := hM.lt
 have nlt := hn.lt
 obtain ⟨ao, cap, rfl, hcp, _⟩ := hn.cells
 obtain ⟨W, hW⟩ : ∃ W, W = w.alloc (.cells #[.int .i64 0, .string ⟨#[]⟩, .int .i64 0, .slice none 0 0] 24) := ⟨_, rfl⟩
 have bW : Below w.heap.size w W := by rw [hW]; exact (Below.refl _ _).alloc (Nat.le_refl _) _
 have sW : W.heap.size = w.heap.size + 1 := by rw [hW]; simp
 have kW : W.heap[w.heap.size]? = some (.cells #[.int .i64 0, .string ⟨#[]⟩, .int .i64 0, .slice none 0 0] 24 (0, 0)) := by rw [hW]; exact heap_alloc_new _ _
 have gW := (bW.block g hgw).trans hg
 have MW : NMapAt W m ms := hM.turn (bW.block m hmw)
 have HLK := nmap_look W m ms MW s
 have hcase : (mget s ms).isSome = false ∨ ((mget s ms).isSome = true ∧ (s.toList == [95]) = true) := by
   by_cases hs : s = cUs
   · subst hs
     cases (mget cUs ms).isSome
     · exact Or.inl rfl
     · exact Or.inr ⟨rfl, by rw [cUs_toL]; rfl⟩
   · left; rw [hO s hs, hnew.resolve_left hs]; rfl
 generalize (mget s ms).getD 0 = n0 at HLK
 generalize (mget s ms).isSome = ok at HLK hcase
 obtain ⟨NN, hNN⟩ : ∃ NN, NN = names.length := ⟨_, rfl⟩
 obtain ⟨o, HPU, MV⟩ := nmap_put W m ms MW s (NN : Int)
 obtain ⟨V, hV⟩ : ∃ V, V = putB W m o := ⟨_, rfl⟩
 rw [← hV] at HPU MV
 have oV : ∀ k, k ≠ m → V.heap[k]? = W.heap[k]? := fun k hk => by rw [hV]; exact putB_other hk
 have sV : V.heap.size = w.heap.size + 1 := by rw [hV, ← sW]; simp [putB]
 have fV : FX (XI g m (.slice ao names.length cap)) (XI g m (.slice ao names.length cap)) w V := by rw [hV]; exact (FX.of_below bW).trans (FX.put o (Or.inr (Or.inl rfl)))
 have HV : Hid (varO s names = (names.length, names ++ [s])) := varO_new hnew
 have HMO : Hid (MOk (names ++ [s]) (mput s (NN : Int) ms)) := by rw [hNN]; exact hO.new hnew
 have HZ : Hid (g < w.heap.size ∧ m < w.heap.size ∧ m ≠ g ∧ V.heap.size = w.heap.size + 1 ∧ NN = names.length ∧ NN ≤ 3000 ∧ ∀ b, (Value.slice ao names.length cap).ownBlock = some b → max g m + 1 ≤ b ∧ b < w.heap.size) := ⟨hgw, hmw, hmg, sV, hNN, by omega, nlt⟩
 have HP : Hid (p ≤ L.length ∧ L.drop p = r ∧ names.length + 1 ≤ p ∧ ∀ b, sliceBlk lv = some b → b < g ∧ b < m) := ⟨hp, hd, hm, hb3⟩
 have vb : ∀ k, k < w.heap.size → k ≠ m → V.heap[k]? = w.heap[k]? := fun k hk hkm => (oV k hkm).trans (bW.block k hk)
 have HFV : Hid (FX (XI g m (.slice ao names.length cap)) (XI g m (.slice ao names.length cap)) w V) := fV
 have HMV : Hid (NMapAt V m (mput s (NN : Int) ms)) := MV
 have HVF : Hid (V.heap[g]? = some (.cells #[lv, .int .i64 (p : Int), .int .i64 (d : Int), .slice ao names.length cap, .map (some m)] 63 (0, 0)) ∧ V.heap[w.heap.size]? = some (.cells #[.int .i64 0, .string ⟨#[]⟩, .int .i64 0, .slice none 0 0] 24 (0, 0)) ∧ NRow V (max g m + 1) names (.slice ao names.length cap) ∧ SIn V L lv) :=
   ⟨(vb g hgw (Ne.symm hmg)).trans hg, (oV _ (by omega)).trans kW, hn.turn fun b e => vb b (nlt b e).2 (by have := (nlt b e).1; omega), hl.turn fun b e => vb b (by have := (hb3 b e).1; omega) (by have := (hb3 b e).2; omega)⟩
 obtain ⟨c0, c1, c2, c3, c4, cf⟩ := b5f gW
 rw [← hNN] at c3
 have HSS : Hid (s.size ≤ 3000) := hss
 have hgs : g < W.heap.size := by omega
 clear hg hl hb3 hn hM hO hmg hp hd hm hnew hss hL hcp nlt bW sW kW gW MW hV oV sV fV vb cf MV hmw hNN
 rcases hcase with rfl | ⟨rfl, es⟩
 all_goals (
   go_enter Tryz.func92, Tryz.ntmps92
   go_upto_region 1 with fail
   rw [← hW]
   clear hW
   go_upto_region 5 with fail
   have HK : Hid (∀ w', Below V.heap.size V w' → w'.heap[g]? = some (.cells #[lv, .int .i64 (p : Int), .int .i64 (d : Int), .slice ao names.length cap, .map (some m)] 63 (0, 0)) ∧ w'.heap[w.heap.size]? = some (.cells #[.int .i64 0, .string ⟨#[]⟩, .int .i64 0, .slice none 0 0] 24 (0, 0)) ∧ NRow w' (max g m + 1) names (.slice ao names.length cap) ∧ SIn w' L lv ∧ NMapAt w' m (mput s (NN : Int) ms)) := fun w' hb => by
     have hz := HZ.out
     have hv := HVF.out
     exact ⟨(hb.block g (by omega)).trans hv.1, (hb.block _ (by omega)).trans hv.2.1, hv.2.2.1.turn fun b e => hb.block b (by have := hz.2.2.2.2.2.2 b e; omega), hv.2.2.2.turn fun b e => hb.block b (by have := (HP.out.2.2.2 b e).1; omega), HMV.out.turn (hb.block m (by omega))⟩
   clear c0 c1 c2 c3 c4 HLK HPU
   refine FP.wp_region_factsP (v1 := .pointer (some ⟨g, 0, none⟩)) 8 (fun q v S w' => match q with
     | 0 => v = .pointer (some ⟨g, 0, none⟩)
     | 1 => v = .pointer (some ⟨g, 0, none⟩)
     | 2 => v = .pointer (some ⟨g, 0, none⟩)
     | 3 => v = .pointer (some ⟨g, 3, none⟩)
     | 4 => v = .slice ao names.length cap
     | 5 => v = .string s
     | 6 => v = .string s
     | _ => ∃ g2, v = .slice (some ⟨g2, 0, none⟩) 1 1 ∧ w'.heap[g2]? = some (.cells #[.string s] 9 (0, 0)) ∧ V.heap.size ≤ g2) (by kernel_rfl) (by kernel_rfl) 46 rfl (by kernel_rfl) (by omega) rfl (by kernel_rfl) (by kernel_rfl) (by kernel_rfl) (fun _ d _ _ _ h => by cases d <;> exact h) ?_ (fun _ _ => rfl) ?_ ?_ ?_
   · refine ⟨rfl, fun w => ?_⟩
     go_simp
   · intro q v S w w' hq h hb
     match q, hq, h with
     | 0, _, h => exact h
     | 1, _, h => exact h
     | 2, _, h => exact h
     | 3, _, h => exact h
     | 4, _, h => exact h
     | 5, _, h => exact h
     | 6, _, h => exact h
     | 7, _, ⟨g2, h1, h2, h3⟩ => exact ⟨g2, h1, (hb.block g2 (Array.getElem?_eq_some_iff.1 h2).1).trans h2, h3⟩
   · intro q o hq ho a w' hb hfr hdep
     obtain ⟨z0, _⟩ := HK.out w' hb
     obtain ⟨x0, x1, x2, x3, x4, _⟩ := b5f z0
     have u0 : a.tmps.getD 0 undef = .pointer (some ⟨g, 0, none⟩) := hfr 0 (by decide)
     have u1 : a.tmps.getD 1 undef = .string s := hfr 1 (by decide)
     match q, hq with
     | 0, _ =>
       obtain rfl : _ = o := by simpa using ho
       refine FP.fact_value (w' := w') (v := .pointer (some ⟨g, 0, none⟩)) ?_ (Below.refl _ _) ⟨[], rfl, by simp⟩
       simp only [execOp, Act.eval, u0]
       go_simp
     | 1, _ =>
       obtain rfl : _ = o := by simpa using ho
       refine FP.fact_value (w' := w') (v := .pointer (some ⟨g, 0, none⟩)) ?_ (Below.refl _ _) ⟨[], rfl, by simp⟩
       simp only [execOp, Act.eval, u0]
       go_simp
     | 2, _ =>
       obtain rfl : _ = o := by simpa using ho
       obtain ⟨_, h0⟩ : ∃ _ : List Nat, a.tmps.getD 34 undef = .pointer (some ⟨g, 0, none⟩) := hdep 1 (by kernel_rfl)
       refine FP.fact_value (w' := w') (v := .pointer (some ⟨g, 0, none⟩)) ?_ (Below.refl _ _) ⟨[], rfl, by simp⟩
       simp only [execOp, Act.eval, h0]
       go_simp
     | 3, _ =>
       obtain rfl : _ = o := by simpa using ho
       obtain ⟨_, h0⟩ : ∃ _ : List Nat, a.tmps.getD 35 undef = .pointer (some ⟨g, 0, none⟩) := hdep 2 (by kernel_rfl)
       refine FP.fact_value (w' := w') (v := .pointer (some ⟨g, 3, none⟩)) ?_ (Below.refl _ _) ⟨[], rfl, by simp⟩
       simp only [execOp, Act.eval, h0]
       go_simp
     | 4, _ =>
       obtain rfl : _ = o := by simpa using ho
       obtain ⟨_, h0⟩ : ∃ _ : List Nat, a.tmps.getD 36 undef = .pointer (some ⟨g, 3, none⟩) := hdep 3 (by kernel_rfl)
       refine FP.fact_value (w' := w') (v := .slice ao names.length cap) ?_ (Below.refl _ _) ⟨[], rfl, by simp⟩
       simp only [execOp, Act.eval, h0]
       go_simp
     | 5, _ =>
       obtain rfl : _ = o := by simpa using ho
       refine FP.fact_value (w' := w') (v := .string s) ?_ (Below.refl _ _) ⟨[], rfl, by simp⟩
       simp only [execOp, Act.eval, u1]
       go_simp
     | 6, _ =>
       obtain rfl : _ = o := by simpa using ho
       obtain ⟨_, h0⟩ : ∃ _ : List Nat, a.tmps.getD 38 undef = .string s := hdep 5 (by kernel_rfl)
       refine FP.fact_call rfl Tryz.func70 (by kernel_rfl) (by kernel_rfl) (args := #[.string s]) ?_ ?_
       · simp [Act.eval]; simpa using h0
       · refine (clone_any s _ (by have := HSS.out; omega)).mono ?_
         rintro e w1 ⟨rfl, h1⟩
         exact ⟨_, rfl, h1, [], rfl, by simp⟩
     | 7, _ =>
       obtain rfl : _ = o := by simpa using ho
       obtain ⟨_, hv⟩ : ∃ _ : List Nat, a.tmps.getD 39 undef = .string s := hdep 6 (by kernel_rfl)
       have e9 : (#[((0 : Nat), Operand.tmp 39)].map fun x => (x.1, a.eval x.2)) = #[(0, .string s)] := by simp [Act.eval]; simpa using hv
       refine FP.fact_value (w' := w'.alloc (.cells #[.string s] 9)) (v := .slice (some ⟨w'.heap.size, 0, none⟩) 1 1) ?_ ((Below.refl _ _).alloc (Nat.le_refl _) _) ⟨[], ⟨w'.heap.size, rfl, heap_alloc_new _ _, hb.size⟩, by simp⟩
       clear hdep hfr ho
       simp only [execOp, e9]
       go_simp
   intro vals S w1 hb hf _
   have v0 : vals 0 = .pointer (some ⟨g, 0, none⟩) := (hf 0 (by omega)).1
   have v4 : vals 4 = .slice ao names.length cap := (hf 4 (by omega)).1
   obtain ⟨g2, v7, hg2, hgl⟩ : ∃ g2, vals 7 = .slice (some ⟨g2, 0, none⟩) 1 1 ∧ w1.heap[g2]? = some (.cells #[.string s] 9 (0, 0)) ∧ V.heap.size ≤ g2 := (hf 7 (by omega)).1
   simp only [FP.putN, List.getElem?_toArray, List.getElem?_cons_zero, List.getElem?_cons_succ, Option.bind_some, List.drop_succ_cons, List.drop_zero, v0, v4, v7]
   generalize vals 1 = m1
   generalize vals 2 = m2
   generalize vals 3 = m3
   generalize vals 5 = m5
   generalize vals 6 = m6
   simp only [Act.put, List.setIfInBounds_toArray, List.set_cons_succ, List.set_cons_zero]
   obtain ⟨Z0, Z1, Z2, Z3, Z4⟩ := HK.out w1 hb
   have HZ1 : Hid (w1.heap[g]? = some (.cells #[lv, .int .i64 (p : Int), .int .i64 (d : Int), .slice ao names.length cap, .map (some m)] 63 (0, 0)) ∧ w1.heap[w.heap.size]? = some (.cells #[.int .i64 0, .string ⟨#[]⟩, .int .i64 0, .slice none 0 0] 24 (0, 0)) ∧ NRow w1 (max g m + 1) names (.slice ao names.length cap) ∧ SIn w1 L lv ∧ NMapAt w1 m (mput s (NN : Int) ms)) := ⟨Z0, Z1, Z2, Z3, Z4⟩
   have HX : Hid (w1.cell? ⟨g2, 0, none⟩ = some (.string s)) := blk_cell (i := 0) hg2 (by simp)
   have HB1 : Hid (FX (XI g m (.slice ao names.length cap)) (XI g m (.slice ao names.length cap)) w w1) := HFV.out.trans (FX.of_below hb)
   have HS1 : Hid (V.heap.size ≤ w1.heap.size) := hb.size
   have hg2x : max g m + 1 ≤ g2 := by have := HZ.out; omega
   clear hf v0 v4 v7 hg2 Z0 Z1 Z2 Z3 Z4 hb HK HFV HMV HVF hgl
   go_wp2_with (at_builtin; go_loud (refine wpList_append_own_at _ rfl _ _ 25 rfl (max g m + 1) 9 i0 (.string ⟨#[]⟩) 1 16 Tryz.underlying25 hi hz0 hz1 hz2 rfl (by decide) _ names.length _ rfl HZ1.out.2.2.1 ⟨g2, 0, none⟩ 1 1 [.string s] rfl rfl ?c1 ?c2 ?c3 ?c4 ?c5 ?_))
   case c1 =>
     intro q z hq
     match q, hq with
     | 0, hq => simp at hq; subst hq; simpa [Addr.add] using HX.out
   case c2 => intro z hz; simp at hz; subst hz; rfl
   case c3 => have := HZ.out; unfold maxLen; omega
   case c4 => have := HZ.out; omega
   case c5 => have := HZ.out; have := HS1.out; omega
   intro v' w2 hown' hgrow _ hat
   have hz := HZ.out
   have hs1 := HS1.out
   have hblk : ∀ k, k < w1.heap.size → (Value.slice ao names.length cap).ownBlock ≠ some k → w2.heap[k]? = w1.heap[k]? := fun k hk hne => hgrow.block k hk (fun e => hne e.symm)
   have hon : ∀ k, k = g ∨ k = m ∨ w.heap.size ≤ k ∨ k < g → (Value.slice ao names.length cap).ownBlock ≠ some k := fun k hk e => by have := hz.2.2.2.2.2.2 k e; omega
   have HA : Hid (FX (XI g m (.slice ao names.length cap)) (XI g m v') w w2) := HB1.out.trans (FX.grownI hgrow hat)
   have HG2 : Hid (w2.heap[g]? = some (.cells #[lv, .int .i64 (p : Int), .int .i64 (d : Int), .slice ao names.length cap, .map (some m)] 63 (0, 0))) := (hblk g (by omega) (hon g (by omega))).trans HZ1.out.1
   have HK2 : Hid (w2.heap[w.heap.size]? = some (.cells #[.int .i64 0, .string ⟨#[]⟩, .int .i64 0, .slice none 0 0] 24 (0, 0))) := (hblk _ (by omega) (hon _ (by omega))).trans HZ1.out.2.1
   have HL2 : Hid (SIn w2 L lv) := HZ1.out.2.2.2.1.turn fun b e => hblk b (by have := HP.out.2.2.2 b e; omega) (hon b (by have := HP.out.2.2.2 b e; omega))
   have HM2 : Hid (NMapAt w2 m (mput s (NN : Int) ms)) := HZ1.out.2.2.2.2.turn (hblk m (by omega) (hon m (by omega)))
   have HN2 : Hid (NRow w2 (max g m + 1) (names ++ [s]) v') := by
     show w2.ownsRow _ _ _ _ _ _
     rw [List.map_append, List.length_append]
     exact hown'
   obtain ⟨a2, cp2, hv2, _, _⟩ := HN2.out.cells
   rw [List.length_append, List.length_singleton] at hv2
   have HNV : Hid (∀ b, v'.ownBlock = some b → b ≠ g ∧ b ≠ m ∧ b ≠ w.heap.size) := fun b e => by
     have h1 := HN2.out.lt b e
     refine ⟨by omega, by omega, ?_⟩
     rcases hat with h | h
     · rw [h] at e; have := hz.2.2.2.2.2.2 b e; omega
     · rw [h] at e; have : w1.heap.size = b := by simpa using e
       omega
   have hs2 : w.heap.size < w2.heap.size := by have := hgrow.size; omega
   obtain ⟨c0, c1, c2, c3, c4, cf2⟩ := b5f HG2.out
   have f3 := cf2 3
   clear hown' hgrow hat hblk hon cf2 c0 c1 c2 c4 HX HB1 HZ1
   subst hv2
   go_upto_region 6 with fail
   obtain ⟨V3, hV3⟩ : ∃ V3, V3 = w2.setCell ⟨g, 3, none⟩ (.slice a2 (names.length + 1) cp2) := ⟨_, rfl⟩
   rw [← hV3]
   have g3 : V3.heap[g]? = some (.cells #[lv, .int .i64 (p : Int), .int .i64 (d : Int), .slice a2 (names.length + 1) cp2, .map (some m)] 63 (0, 0)) := by
     rw [hV3]; have := blk_set (i := 3) HG2.out (.slice a2 (names.length + 1) cp2); simpa using this
   have o3 : ∀ k, k ≠ g → V3.heap[k]? = w2.heap[k]? := fun k hk => by rw [hV3]; exact blk_other _ hk
   have HF3 : Hid (FX (XI g m (.slice ao names.length cap)) (XI g m (.slice a2 (names.length + 1) cp2)) w V3) := by rw [hV3]; exact HA.out.set (Or.inl (Or.inl rfl)) _
   have k3 : V3.heap[w.heap.size]? = some (.cells #[.int .i64 0, .string ⟨#[]⟩, .int .i64 0, .slice none 0 0] 24 (0, 0)) := (o3 _ (by omega)).trans HK2.out
   have H3 : Hid (V3.heap[g]? = some (.cells #[lv, .int .i64 (p : Int), .int .i64 (d : Int), .slice a2 (names.length + 1) cp2, .map (some m)] 63 (0, 0)) ∧ V3.heap[w.heap.size]? = some (.cells #[.int .i64 0, .string ⟨#[]⟩, .int .i64 0, .slice none 0 0] 24 (0, 0)) ∧ NRow V3 (max g m + 1) (names ++ [s]) (.slice a2 (names.length + 1) cp2) ∧ SIn V3 L lv ∧ NMapAt V3 m (mput s (NN : Int) ms)) :=
     ⟨g3, k3, HN2.out.turn fun b e => o3 b (HNV.out b e).1, HL2.out.turn fun b e => o3 b (by have := HP.out.2.2.2 b e; omega), HM2.out.turn (o3 m hz.2.2.1)⟩
   obtain ⟨c0, c1, c2, c4, q0, q1, q2, q3⟩ := blk4 k3
   clear g3 o3 k3 hV3 f3 c3 HA HG2 HK2 HL2 HM2 HN2 hs2 hz hs1
   go_wp2
   refine bodyPost_ret_by (results_cell_row rfl _ _ w.heap.size 24 _ (0, 0) _ rfl (blk4_set H3.out.2.1) Tryz.underlying24 rfl (by kernel_rfl)) rfl ?_
   obtain ⟨h1, h2, h3, h4, h5⟩ := H3.out
   obtain ⟨z1, z2, z3, z4, z5, z6, z7⟩ := HZ.out
   obtain ⟨y1, y2, y3, y4⟩ := HP.out
   have oE : ∀ k, k ≠ w.heap.size → ((((V3.setCell ⟨w.heap.size, 0, none⟩ (.int .i64 1)).setCell ⟨w.heap.size, 1, none⟩ (.string ⟨#[]⟩)).setCell ⟨w.heap.size, 2, none⟩ (.int .i64 (NN : Int))).setCell ⟨w.heap.size, 3, none⟩ (.slice none 0 0)).heap[k]? = V3.heap[k]? := fun k hk => blk4_other hk
   refine ⟨_, rfl, [], .slice a2 (names.length + 1) cp2, ?_, ?_, ?_⟩
   · rw [HV.out, ← z5]; exact TOk.leaf (by decide) (by constructor <;> omega) (by decide)
   · rw [HV.out]
     exact IRd.mk' ((oE g (by omega)).trans h1) (h4.turn fun b e => oE b (by have := y4 b e; omega)) y4 (h3.turn fun b e => oE b (HNV.out b e).2.2) (h5.turn (oE m (by omega))) HMO.out z3 y1 y2 (by rw [List.length_append, List.length_singleton]; exact y3)
   · exact (((HF3.out.set (Or.inr (Nat.le_refl _)) _).set (Or.inr (Nat.le_refl _)) _).set (Or.inr (Nat.le_refl _)) _).set (Or.inr (Nat.le_refl _)) _)
end Go.Proofs.YtbkjcccbjnehbanGreatDoor

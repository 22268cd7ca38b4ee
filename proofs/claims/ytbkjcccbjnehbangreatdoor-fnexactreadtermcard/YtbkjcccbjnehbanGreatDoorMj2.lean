import Derived.Test.YtbkjcccbjnehbanGreatDoorMh23
import Derived.Test.YtbkjcccbjnehbanGreatDoorRows
import Derived.Laws.Concat
import Derived.WalkKit
import Derived.WalkSpells
import Derived.ProofKit
import Derived.OpenShut
import Derived.Test.YtbkjcccbjnehbanGreatDoorMh2
import Derived.Test.YtbkjcccbjnehbanGreatDoorMh20
import Derived.Test.YtbkjcccbjnehbanGreatDoorMh5
import Derived.BigQuiet
import Derived.Test.YtbkjcccbjnehbanGreatDoorMh1
import Derived.Test.YtbkjcccbjnehbanGreatDoorMj1
import Derived.Laws.OwnMore
namespace Go.Proofs.YtbkjcccbjnehbanGreatDoor
def fig (x : Nat) : UInt8 := if x < 10 then UInt8.ofNat (48 + x) else UInt8.ofNat (87 + x)
def hexL (l : List UInt8) : List UInt8 := l.flatMap fun c => [fig (c.toNat / 16), fig (c.toNat % 16)]
theorem fig_nat (x : Nat) (h : x < 16) : (fig x).toNat = if x < 10 then 48 + x else 87 + x := by
 unfold fig
 split <;> simp <;> omega
end Go.Proofs.YtbkjcccbjnehbanGreatDoor

namespace Go.Proofs.YtbkjcccbjnehbanGreatDoor
def decR (n : Nat) : List UInt8 := if _h : 0 < n then decR (n / 10) ++ [fig (n % 10)] else []
theorem decR_pos {n : Nat} (h : 0 < n) : decR n = decR (n / 10) ++ [fig (n % 10)] := by rw [decR]; simp [h]
theorem decR_zero : decR 0 = [] := by rw [decR]; simp
def decB (n : Nat) : List UInt8 := if n = 0 then [48] else decR n
def decI (n : Int) : List UInt8 := if n < 0 then 45 :: decR n.natAbs else decB n.toNat
theorem decR_len (k : Nat) : ∀ n, n < 10 ^ k → (decR n).length ≤ k := by
 induction k with
 | zero => intro n h; obtain rfl : n = 0 := by simpa using h
           rw [decR_zero]; simp
 | succ k ih =>
   intro n h
   by_cases hn : 0 < n
   · rw [decR_pos hn, List.length_append]
     have := ih (n / 10) (by rw [Nat.pow_succ] at h; omega)
     simp; omega
   · obtain rfl : n = 0 := by omega
     rw [decR_zero]; simp
def digit (c : UInt8) : Prop := 48 ≤ c.toNat ∧ c.toNat ≤ 57
def numF (n : Nat) (l : List UInt8) : Nat := l.foldl (fun n c => 10 * n + (c.toNat - 48)) n
def numL (l : List UInt8) : Nat := numF 0 l
def neat (l : List UInt8) : Prop := l ≠ [] ∧ (l.head? = some 48 → l.length = 1)
def rdOk (l : List UInt8) : Prop := neat l ∧ (∀ c ∈ l, digit c) ∧ numL l ≤ 1000000000
def rdNo : Value := .tuple #[.int .i64 0, .bool false]
end Go.Proofs.YtbkjcccbjnehbanGreatDoor

namespace Go.Proofs.YtbkjcccbjnehbanGreatDoor
open Go.RowKit
theorem conv_one (W : World) (b : UInt8) :
   (convert 66 9 (.slice (some ⟨W.heap.size, 0, none⟩) 1 1)).run Tryz.prog (W.alloc (.cells #[.int .u8 (b.toNat : Int)] 5)) = .ok (.string ⟨#[b]⟩) (W.alloc (.cells #[.int .u8 (b.toNat : Int)] 5)) := by
 refine run_convert_bytes_back (P := Tryz.prog) _ 66 9 5 ⟨W.heap.size, 0, none⟩ 1 [b] Tryz.underlying66 Tryz.underlying5 Tryz.underlying9 fun j hj => ?_
 match j, hj with
 | 0, _ => simp [Addr.add]
theorem add_one (b : UInt8) (q : List UInt8) (hq : q.length ≤ 30) (u : World) :
   (Op.stringOp .add ⟨#[b]⟩ ⟨q.toArray⟩).run Tryz.prog u = .ok (.string ⟨(b :: q).toArray⟩) u := by
 have h := run_string_add_sum (P := Tryz.prog) u ⟨#[b]⟩ ⟨q.toArray⟩ (by rw [size_mk, size_mk, List.length_singleton]; omega)
 have e : (⟨#[b]⟩ : ByteArray) ++ ⟨q.toArray⟩ = ⟨(b :: q).toArray⟩ := by rw [ByteArray.mk_append_mk]; congr 1
 rw [h, e]
theorem dec_step {m N : Nat} {q : List UInt8} (hm : 0 < m) (h : decR m ++ q = decR N) : decR (m / 10) ++ (fig (m % 10) :: q) = decR N := by
 rw [decR_pos hm] at h
 rw [← h]; simp
theorem dec_q {m N : Nat} {q : List UInt8} (hN : N ≤ 9223372036854775808) (h : decR m ++ q = decR N) : q.length ≤ 20 := by
 have h1 := decR_len 20 N (by omega)
 rw [← h, List.length_append] at h1
 omega
end Go.Proofs.YtbkjcccbjnehbanGreatDoor

namespace Go.Proofs.YtbkjcccbjnehbanGreatDoor
open Go.RowKit
def mkS (k : Nat) : List UInt8 := 109 :: decR k
set_option maxHeartbeats 1000000 in
theorem mark_any (N : Nat) (w : World) (h0 : 0 < N) (hN : N ≤ 4611686018427387904) :
   Calls Tryz.prog 22 #[.int .i64 (N : Int)] w fun e w' => e = .returned (.string ⟨(mkS N).toArray⟩) ∧ Below w.heap.size w w' := by
 have hfin := add_one 109 (decR N) (by have := decR_len 20 N (by omega); omega)
 unfold mkS
 go_enter Tryz.func22, Tryz.ntmps22
 go_wp2
 go_loopw [0, 3] (fun vn vs wr => ∃ (m : Nat) (q : List UInt8), vn = .int .i64 m ∧ vs = .string ⟨q.toArray⟩ ∧ m ≤ N ∧ q.length ≤ 20 ∧ Hid (decR m ++ q = decR N) ∧ Below w.heap.size w wr)
   (fun vn _ _ => (intOf vn).toNat)
 case atStart => exact ⟨N, [], rfl, rfl, Nat.le_refl _, by simp, by show _ = _; simp, Below.refl _ _⟩
 case round =>
   obtain ⟨m, q, rfl, rfl, hmN, hql, hq, hb⟩ := hrel
   have hsz := hb.size
   by_cases hm : m = 0
   · subst hm
     have hf : q = decR N := by have := hq.out; rwa [decR_zero, List.nil_append] at this
     subst hf
     clear hq
     go_wp2
     go_ret
     exact ⟨rfl, hb⟩
   · have hmp : 0 < m := by omega
     have hadd := add_one (fig (m % 10)) q (by omega)
     have e : ((fig (m % 10)).toNat : Int) = 48 + (m : Int) % 10 := by rw [fig_nat _ (by omega), if_pos (by omega)]; omega
     have hcv : ∀ W : World, (convert 66 9 (.slice (some ⟨W.heap.size, 0, none⟩) 1 1)).run Tryz.prog (W.alloc (.cells #[.int .u8 (48 + (m : Int) % 10)] 5)) = .ok (.string ⟨#[fig (m % 10)]⟩) (W.alloc (.cells #[.int .u8 (48 + (m : Int) % 10)] 5)) := by
       intro W; have := conv_one W (fig (m % 10)); rwa [e] at this
     have hq' : Hid _ := dec_step hmp hq.out
     have hql' := dec_q (by omega) hq'.out
     clear hm hq hfin e
     go_wp2
     go_roundw
     case rel => exact ⟨m / 10, _, by go_num, rfl, by omega, hql', hq', hb.alloc hsz _⟩
     case measure => simp [intOf]; omega
theorem mark_int (n : Int) (w : World) (h0 : 0 < n) (hN : n ≤ 4611686018427387904) :
   Calls Tryz.prog 22 #[.int .i64 n] w fun e w' => e = .returned (.string ⟨(mkS n.toNat).toArray⟩) ∧ Below w.heap.size w w' := by
 have := mark_any n.toNat w (by omega) (by omega)
 rwa [show (n.toNat : Int) = n by omega] at this
end Go.Proofs.YtbkjcccbjnehbanGreatDoor

namespace Go.Proofs.YtbkjcccbjnehbanGreatDoor
open Go.RowKit
def Tm.markT : Tm → Nat → Tm
 | .mk _ _ _ ks, c => .mk (c : Int) ⟨(mkS (c + 1)).toArray⟩ ((c + 2 : Nat) : Int) (markL ks (c + 3))
where markL : List Tm → Nat → List Tm
 | [], _ => []
 | t :: ts, c => t.markT c :: markL ts (c + 3 * t.n)
abbrev markL := Tm.markT.markL
theorem markL_nil (c : Nat) : markL [] c = [] := by simp [markL, Tm.markT.markL]
theorem markL_cons (t : Tm) (ts : List Tm) (c : Nat) : markL (t :: ts) c = t.markT c :: markL ts (c + 3 * t.n) := by simp [markL, Tm.markT.markL]
theorem markT_mk (k : Int) (s : ByteArray) (n : Int) (ks : List Tm) (c : Nat) : (Tm.mk k s n ks).markT c = .mk (c : Int) ⟨(mkS (c + 1)).toArray⟩ ((c + 2 : Nat) : Int) (markL ks (c + 3)) := by simp [Tm.markT, markL]
theorem ns_cons (t : Tm) (ts : List Tm) : ns (t :: ts) = t.n + ns ts := by simp [ns, Tm.n.ns]
theorem markL_append (l m : List Tm) (c : Nat) : markL (l ++ m) c = markL l c ++ markL m (c + 3 * ns l) := by
 induction l generalizing c with
 | nil => simp [markL_nil, ns, Tm.n.ns]
 | cons t r ih => rw [List.cons_append, markL_cons, markL_cons, ih, ns_cons, List.cons_append, show c + 3 * t.n + 3 * ns r = c + 3 * (t.n + ns r) by omega]
theorem markL_len (l : List Tm) (c : Nat) : (markL l c).length = l.length := by
 induction l generalizing c with
 | nil => simp [markL_nil]
 | cons t r ih => rw [markL_cons, List.length_cons, List.length_cons, ih]
theorem markL_at {l : List Tm} {c j : Nat} (h : j < l.length) : (markL l c)[j]'(by rw [markL_len]; exact h) = l[j].markT (c + 3 * ns (l.take j)) := by
 induction l generalizing c j with
 | nil => simp at h
 | cons t r ih =>
   cases j with
   | zero => simp [markL_cons, ns, Tm.n.ns]
   | succ j =>
     simp only [markL_cons, List.getElem_cons_succ, List.take_succ_cons, ns_cons]
     rw [ih (by simpa using h)]
     congr 1
     omega
theorem mkS_len (k : Nat) (h : k ≤ 4611686018427387904) : (mkS k).length ≤ 40 := by
 unfold mkS
 have := decR_len 20 k (by omega)
 simp only [List.length_cons]
 omega
theorem OwnRow.split {e : TypeId} {w : World} : ∀ (l m : List Tm) (cs : List Value) (F : List Nat), OwnRow e w (l ++ m) cs F →
   ∃ cs1 cs2 F1 F2, cs = cs1 ++ cs2 ∧ F = F1 ++ F2 ∧ OwnRow e w l cs1 F1 ∧ OwnRow e w m cs2 F2
 | [], m, cs, F, h => ⟨[], cs, [], F, rfl, rfl, by unfold OwnRow; exact ⟨rfl, rfl⟩, h⟩
 | t :: l, m, cs, F, h => by
   rw [List.cons_append] at h
   unfold OwnRow at h
   obtain ⟨c0, c1, c2, c3, cs', F1, F2, rfl, rfl, h1, h2⟩ := h
   obtain ⟨a, b, G1, G2, rfl, rfl, h3, h4⟩ := OwnRow.split l m cs' F2 h2
   refine ⟨c0 :: c1 :: c2 :: c3 :: a, b, F1 ++ G1, G2, by simp, by simp, ?_, h4⟩
   unfold OwnRow
   exact ⟨c0, c1, c2, c3, a, F1, G1, rfl, rfl, h1, h3⟩
theorem OwnRow.join {e : TypeId} {w : World} : ∀ (l m : List Tm) (cs1 cs2 : List Value) (F1 F2 : List Nat), OwnRow e w l cs1 F1 → OwnRow e w m cs2 F2 → OwnRow e w (l ++ m) (cs1 ++ cs2) (F1 ++ F2)
 | [], m, cs1, cs2, F1, F2, h1, h2 => by
   unfold OwnRow at h1
   obtain ⟨rfl, rfl⟩ := h1
   exact h2
 | t :: l, m, cs1, cs2, F1, F2, h1, h2 => by
   unfold OwnRow at h1
   obtain ⟨c0, c1, c2, c3, cs', G1, G2, rfl, rfl, h3, h4⟩ := h1
   show OwnRow e w (t :: (l ++ m)) _ _
   unfold OwnRow
   exact ⟨c0, c1, c2, c3, cs' ++ cs2, G1, G2 ++ F2, by simp, by simp, h3, OwnRow.join l m cs' cs2 G2 F2 h4 h2⟩
structure Out (F : List Nat) (w w' : World) : Prop where
 os : w'.os = w.os
 tape : w'.tape = w.tape
 output : w'.output = w.output
 size : w.heap.size ≤ w'.heap.size
 block : ∀ k, k < w.heap.size → k ∉ F → w'.heap[k]? = w.heap[k]?
theorem Out.refl (F : List Nat) (w : World) : Out F w w := ⟨rfl, rfl, rfl, Nat.le_refl _, fun _ _ _ => rfl⟩
theorem Out.of_below {F : List Nat} {w w' : World} (h : Below w.heap.size w w') : Out F w w' := ⟨h.os, h.tape, h.output, h.size, fun k hk _ => h.block k hk⟩
theorem Out.set {F : List Nat} {g : Nat} (hg : g ∈ F) (k : Nat) (w : World) (v : Value) : Out F w (w.setCell ⟨g, k, none⟩ v) :=
 ⟨rfl, rfl, rfl, by simp [World.setCell], fun j _ hne => by
   have : g ≠ j := fun h => hne (h ▸ hg)
   simp [World.setCell, Array.getElem?_modify, this]⟩
theorem Out.trans {F : List Nat} {w w' w'' : World} (h : Out F w w') (h' : Out F w' w'') : Out F w w'' :=
 ⟨h'.os.trans h.os, h'.tape.trans h.tape, h'.output.trans h.output, Nat.le_trans h.size h'.size, fun k hk hne => (h'.block k (Nat.lt_of_lt_of_le hk h.size) hne).trans (h.block k hk hne)⟩
theorem Out.mono {F F' : List Nat} {w w' : World} (h : Out F w w') (hs : ∀ f ∈ F, f ∈ F') : Out F' w w' :=
 ⟨h.os, h.tape, h.output, h.size, fun k hk hne => h.block k hk fun h => hne (hs k h)⟩
theorem Out.below {F : List Nat} {B : Nat} {w w' : World} (h : Out F w w') (hF : ∀ f ∈ F, B ≤ f) (hB : B ≤ w.heap.size) : Below B w w' :=
 ⟨h.os, h.tape, h.output, h.size, fun k hk => h.block k (by omega) fun hk' => by have := hF k hk'; omega⟩
end Go.Proofs.YtbkjcccbjnehbanGreatDoor

namespace Go.Proofs.YtbkjcccbjnehbanGreatDoor
open Go.RowKit
def Tm.kids : Tm → List Tm
 | .mk _ _ _ ks => ks
def MarkOk (ks : List Tm) : Prop := ∀ (w : World) (sl : Value) (F : List Nat) (c : Nat), OwnS 24 w ks sl F → F.Nodup → 0 < c → c + 3 * ns ks ≤ 2305843009213693952 →
 Calls Tryz.prog 16 #[sl, .int .i64 (c : Int)] w fun e w' => e = .returned (.int .i64 ((c + 3 * ns ks : Nat) : Int)) ∧ OwnS 24 w' (markL ks c) sl F ∧ Out F w w'
theorem take_setL {cur : Array Value} {m i : Nat} {v : Value} : (cur.setIfInBounds i v).toList.take m = (cur.toList.take m).set i v := by
 rw [Array.toList_setIfInBounds, List.take_set]
theorem set3 {cs1 cs' : List Value} {c0 c1 c2 c3 d0 d1 d2 : Value} {i : Nat} (h : cs1.length = i) :
   (((cs1 ++ c0 :: c1 :: c2 :: c3 :: cs').set i d0).set (i + 1) d1).set (i + 2) d2 = cs1 ++ d0 :: d1 :: d2 :: c3 :: cs' := by
 subst h
 rw [List.set_append_right _ _ (by omega), List.set_append_right _ _ (by omega), List.set_append_right _ _ (by omega)]
 simp [show cs1.length + 1 - cs1.length = 1 by omega, show cs1.length + 2 - cs1.length = 2 by omega]
def RowAt (e : TypeId) (w : World) (g cap : Nat) (ks : List Tm) (F : List Nat) : Prop :=
 ∃ cs cur, w.heap[g]? = some (.cells cur e (0, 0)) ∧ ks.length ≤ cap ∧ cap ≤ maxLen ∧ cur.size = cap * 4 ∧ cur.toList.take (ks.length * 4) = cs ∧ OwnRow e w ks cs F
theorem RowAt.own {e : TypeId} {w : World} {g cap : Nat} {ks : List Tm} {F : List Nat} (h : RowAt e w g cap ks F) : OwnS e w ks (.slice (some ⟨g, 0, none⟩) ks.length cap) (g :: F) := by
 obtain ⟨cs, cur, h1, h2, h3, h4, h5, h6⟩ := h
 exact Or.inr ⟨g, cap, cs, F, rfl, ⟨OwnRow.len _ _ _ h6, Or.inr ⟨g, cap, cur, rfl, Nat.zero_le _, h1, h2, h3, h4, h5⟩⟩, rfl, h6⟩
theorem RowAt.of {e : TypeId} {w : World} {g cap : Nat} {ks : List Tm} {cs : List Value} {F : List Nat} (hrow : w.ownsRow 0 e 4 (.slice (some ⟨g, 0, none⟩) ks.length cap) ks.length cs) (hr : OwnRow e w ks cs F) : RowAt e w g cap ks F := by
 rcases hrow.2 with ⟨h, _⟩ | ⟨g', cap', cur, h1, hz, hh, hnc, hcm, hcs, htk⟩
 · cases h
 · cases h1
   exact ⟨cs, cur, hh, hnc, hcm, hcs, htk, hr⟩
set_option maxHeartbeats 4000000 in
set_option maxRecDepth 20000 in
theorem mark_list (ks : List Tm) (hks : ∀ t ∈ ks, MarkOk t.kids) : MarkOk ks := by
 intro w sl F c hown hnd hc0 hcm
 have hown0 := hown
 rcases hown with ⟨rfl, rfl, rfl⟩ | ⟨g, cap, cs, F', rfl, hrow, rfl, hr⟩
 · have HO : Hid (OwnS 24 w [] (.slice none 0 0) []) := hown0
   clear hown0 hks
   go_enter Tryz.func16, Tryz.ntmps16
   go_wp2
   refine wp_loop_rounds 1 ?_
   rw [rounds_succ]
   go_wp2
   go_ret
   exact ⟨by simp [ns, Tm.n.ns], by rw [markL_nil]; exact HO.out, Out.refl _ _⟩
 · have hra := RowAt.of hrow hr
   have hcap : ks.length ≤ cap ∧ cap ≤ maxLen := by
     obtain ⟨_, _, _, h2, h3, _⟩ := hra
     exact ⟨h2, h3⟩
   unfold maxLen at hcap
   obtain ⟨hcl, hcm2⟩ := hcap
   have HO : Hid _ := hra
   have HND : Hid _ := hnd
   have HKS : Hid _ := hks
   clear hown0 hks hrow hr hnd hra
   have HBD : Hid (∀ j, c + 3 * ns (ks.take j) ≤ c + 3 * ns ks) := fun j => by
     have : ns (ks.take j) + ns (ks.drop j) = ns ks := by rw [← ns_append, List.take_append_drop]
     omega
   go_enter Tryz.func16, Tryz.ntmps16
   go_wp2
   go_loopw [1, 5] (fun vk vi wr => Hid (Out (g :: F') w wr) ∧ ∃ (j cj : Nat), j ≤ ks.length ∧ vi = .int .i64 (j : Int) ∧ vk = .int .i64 (cj : Int) ∧ Hid (cj = c + 3 * ns (ks.take j)) ∧ Hid (RowAt 24 wr g cap (markL (ks.take j) c ++ ks.drop j) F')) (fun _ i _ => ks.length - (intOf i).toNat)
   case atStart => exact ⟨Out.refl _ _, 0, c, by omega, rfl, rfl, by show _ = _; simp [ns, Tm.n.ns], by show RowAt _ _ _ _ _ _; rw [List.take_zero, markL_nil]; exact HO.out⟩
   case round =>
     obtain ⟨HB, j, cj, hj, rfl, rfl, HCJ, HOJ⟩ := hrel
     have hcjm : cj ≤ 2305843009213693952 := by have := HCJ.out; have := HBD.out j; omega
     have hcj0 : 0 < cj := by have := HCJ.out; omega
     by_cases hlt : j < ks.length
     · obtain ⟨cs, cur, hblk, hnc, hcpm, hcs, htk, hr⟩ := HOJ.out
       have hlen : (markL (ks.take j) c ++ ks.drop j).length = ks.length := by rw [List.length_append, markL_len, ← List.length_append, List.take_append_drop]
       rw [hlen] at hnc htk
       rw [List.drop_eq_getElem_cons hlt] at hr
       obtain ⟨cs1, cs2, G1, G2, rfl, rfl, hr1, hr2⟩ := OwnRow.split _ _ _ _ hr
       unfold OwnRow at hr2
       obtain ⟨c0, c1, c2, c3, cs', G3, G4, rfl, rfl, hr3, hr4⟩ := hr2
       obtain ⟨kj, hkj⟩ : ∃ kj, kj = ks[j] := ⟨_, rfl⟩
       have hl1 : cs1.length = j * 4 := by rw [OwnRow.len _ _ _ hr1, markL_len, List.length_take]; congr 1; omega
       have hK1 : MarkOk ks[j].kids := HKS.out ks[j] (List.getElem_mem hlt)
       rw [← hkj] at hr3 hK1
       obtain ⟨k1, s1, n1, kids⟩ := kj
       obtain ⟨sl1, he, hs1⟩ := own_open hr3
       obtain ⟨rfl, rfl, rfl, rfl⟩ : c0 = .int .i64 k1 ∧ c1 = .string s1 ∧ c2 = .int .i64 n1 ∧ c3 = sl1 := by simpa using he
       have hK : kids = ks[j].kids := by rw [← hkj]; rfl
       have hKn : ks[j].n = 1 + ns kids := by rw [← hkj, n_mk]
       clear he
       have hsz : j * 4 + 3 < cur.size := by omega
       have HAT : Hid (∀ i, i < 4 → cur[j * 4 + i]? = [Value.int .i64 k1, .string s1, .int .i64 n1, c3][i]?) := fun i hi => by
         have h1 : (cur.toList.take (ks.length * 4))[j * 4 + i]? = [Value.int .i64 k1, .string s1, .int .i64 n1, c3][i]? := by
           rw [htk, List.getElem?_append_right (by omega), hl1, show j * 4 + i - j * 4 = i by omega]
           match i, hi with
           | 0, _ => rfl
           | 1, _ => rfl
           | 2, _ => rfl
           | 3, _ => rfl
         rw [List.getElem?_take_of_lt (by omega)] at h1
         simpa using h1
       obtain ⟨ao1, len1, cap1, rfl⟩ : ∃ ao1 len1 cap1, c3 = .slice ao1 len1 cap1 := by
         rcases hs1 with ⟨rfl, _⟩ | ⟨g1, cp1, _, _, rfl, _⟩
         · exact ⟨_, _, _, rfl⟩
         · exact ⟨_, _, _, rfl⟩
       have hgF : (g :: (G1 ++ (G3 ++ G4))).Nodup := HND.out
       rw [List.nodup_cons] at hgF
       obtain ⟨hgn, hFn⟩ := hgF
       have hglt : g < wr.heap.size := (Array.getElem?_eq_some_iff.1 hblk).1
       have a0 : wr.cell? ⟨g, j * 4, none⟩ = some (.int .i64 k1) := by
         have := HAT.out 0 (by omega)
         unfold World.cell?; rw [hblk]; simpa using this
       have f0 : wr.frozen? ⟨g, j * 4, none⟩ = false := blk_frozen hblk _
       obtain ⟨WA, hWA⟩ : ∃ WA, WA = wr.setCell ⟨g, j * 4, none⟩ (.int .i64 (cj : Int)) := ⟨_, rfl⟩
       have blkA : WA.heap[g]? = some (.cells (cur.setIfInBounds (j * 4) (.int .i64 (cj : Int))) 24 (0, 0)) := by rw [hWA]; exact blk_set hblk _
       have hszA : WA.heap.size = wr.heap.size := by rw [hWA]; simp [World.setCell]
       obtain ⟨mt, hmt⟩ : ∃ mt : ByteArray, mt = ⟨(mkS (cj + 1)).toArray⟩ := ⟨_, rfl⟩
       have HMK : Hid (Calls Tryz.prog 22 #[.int .i64 ((cj : Int) + 1)] (wr.setCell ⟨g, j * 4, none⟩ (.int .i64 (cj : Int))) fun e w' => e = .returned (.string mt) ∧ Below WA.heap.size WA w') := by
         have := mark_any (cj + 1) WA (by omega) (by omega)
         rw [← hWA, hmt]
         rwa [show ((cj + 1 : Nat) : Int) = (cj : Int) + 1 by omega] at this
       have HP : Hid (∀ w1, Below WA.heap.size WA w1 → w1.heap[g]? = some (.cells (cur.setIfInBounds (j * 4) (.int .i64 (cj : Int))) 24 (0, 0)) ∧ (w1.setCell ⟨g, j * 4 + 1, none⟩ (.string mt)).heap[g]? = some (.cells ((cur.setIfInBounds (j * 4) (.int .i64 (cj : Int))).setIfInBounds (j * 4 + 1) (.string mt)) 24 (0, 0)) ∧ ((w1.setCell ⟨g, j * 4 + 1, none⟩ (.string mt)).setCell ⟨g, j * 4 + 2, none⟩ (.int .i64 ((cj : Int) + 1 + 1))).heap[g]? = some (.cells (((cur.setIfInBounds (j * 4) (.int .i64 (cj : Int))).setIfInBounds (j * 4 + 1) (.string mt)).setIfInBounds (j * 4 + 2) (.int .i64 ((cj : Int) + 1 + 1))) 24 (0, 0))) := fun w1 hb1 => by
         have blk1 := (hb1.block g (by omega)).trans blkA
         have blk2 := blk_set (i := j * 4 + 1) blk1 (.string mt)
         exact ⟨blk1, blk2, blk_set (i := j * 4 + 2) blk2 (.int .i64 ((cj : Int) + 1 + 1))⟩
       have HF : Hid (∀ w1, Below WA.heap.size WA w1 → w1.cell? ⟨g, j * 4 + 1, none⟩ = some (.string s1) ∧ w1.frozen? ⟨g, j * 4 + 1, none⟩ = false ∧ (w1.setCell ⟨g, j * 4 + 1, none⟩ (.string mt)).cell? ⟨g, j * 4 + 2, none⟩ = some (.int .i64 n1) ∧ (w1.setCell ⟨g, j * 4 + 1, none⟩ (.string mt)).frozen? ⟨g, j * 4 + 2, none⟩ = false ∧ ((w1.setCell ⟨g, j * 4 + 1, none⟩ (.string mt)).setCell ⟨g, j * 4 + 2, none⟩ (.int .i64 ((cj : Int) + 1 + 1))).cell? ⟨g, j * 4 + 3, none⟩ = some (.slice ao1 len1 cap1)) := fun w1 hb1 => by
         obtain ⟨blk1, blk2, blk3⟩ := HP.out w1 hb1
         refine ⟨?_, blk_frozen blk1 _, ?_, blk_frozen blk2 _, ?_⟩
         · have := HAT.out 1 (by omega)
           unfold World.cell?; rw [blk1]
           show (cur.setIfInBounds (j * 4) _)[j * 4 + 1]? = _
           rw [Array.getElem?_setIfInBounds, if_neg (by omega)]
           simpa using this
         · have := HAT.out 2 (by omega)
           unfold World.cell?; rw [blk2]
           show ((cur.setIfInBounds (j * 4) _).setIfInBounds (j * 4 + 1) _)[j * 4 + 2]? = _
           rw [Array.getElem?_setIfInBounds, if_neg (by omega), Array.getElem?_setIfInBounds, if_neg (by omega)]
           simpa using this
         · have := HAT.out 3 (by omega)
           unfold World.cell?; rw [blk3]
           show (((cur.setIfInBounds (j * 4) _).setIfInBounds (j * 4 + 1) _).setIfInBounds (j * 4 + 2) _)[j * 4 + 3]? = _
           rw [Array.getElem?_setIfInBounds, if_neg (by omega), Array.getElem?_setIfInBounds, if_neg (by omega), Array.getElem?_setIfInBounds, if_neg (by omega)]
           simpa using this
       have HSAME : Hid (∀ w1, Below WA.heap.size WA w1 → ∀ f, f < wr.heap.size → f ≠ g → ((w1.setCell ⟨g, j * 4 + 1, none⟩ (.string mt)).setCell ⟨g, j * 4 + 2, none⟩ (.int .i64 ((cj : Int) + 1 + 1))).heap[f]? = wr.heap[f]?) := fun w1 hb1 f hf hne => by
         rw [blk_other _ hne, blk_other _ hne, hb1.block f (by omega), hWA, blk_other _ hne]
       have HG3 : Hid (∀ f ∈ G3, f < wr.heap.size ∧ f ≠ g) := fun f hf => ⟨Own.lt _ _ _ hr3 f hf, fun e => hgn (by rw [← e]; simp [hf])⟩
       have hbd3 : cj + 3 + 3 * ns kids ≤ 2305843009213693952 := by
         have h1 := HCJ.out
         have h2 := HBD.out (j + 1)
         rw [List.take_succ_eq_append_getElem hlt, ns_append, show ns [ks[j]] = ks[j].n by simp [ns, Tm.n.ns], hKn] at h2
         omega
       have hnd3 : G3.Nodup := by
         rw [List.nodup_append] at hFn
         have := hFn.2.1
         rw [List.nodup_append] at this
         exact this.1
       have HREC : Hid (∀ w1, Below WA.heap.size WA w1 → Calls Tryz.prog 16 #[.slice ao1 len1 cap1, .int .i64 ((cj : Int) + 1 + 1 + 1)] ((w1.setCell ⟨g, j * 4 + 1, none⟩ (.string mt)).setCell ⟨g, j * 4 + 2, none⟩ (.int .i64 ((cj : Int) + 1 + 1))) fun e w' => e = .returned (.int .i64 ((cj + 3 + 3 * ns kids : Nat) : Int)) ∧ OwnS 24 w' (markL kids (cj + 3)) (.slice ao1 len1 cap1) G3 ∧ Out G3 ((w1.setCell ⟨g, j * 4 + 1, none⟩ (.string mt)).setCell ⟨g, j * 4 + 2, none⟩ (.int .i64 ((cj : Int) + 1 + 1))) w') := fun w1 hb1 => by
         have this : MarkOk kids := hK1
         have h2 := this ((w1.setCell ⟨g, j * 4 + 1, none⟩ (.string mt)).setCell ⟨g, j * 4 + 2, none⟩ (.int .i64 ((cj : Int) + 1 + 1))) (.slice ao1 len1 cap1) G3 (cj + 3) (hs1.keep fun f hf => HSAME.out w1 hb1 f (HG3.out f hf).1 (HG3.out f hf).2) hnd3 (by omega) hbd3
         rwa [show ((cj + 3 : Nat) : Int) = (cj : Int) + 1 + 1 + 1 by omega] at h2
       have HNX : Hid (∀ w1 w4, Below WA.heap.size WA w1 → OwnS 24 w4 (markL kids (cj + 3)) (.slice ao1 len1 cap1) G3 → Out G3 ((w1.setCell ⟨g, j * 4 + 1, none⟩ (.string mt)).setCell ⟨g, j * 4 + 2, none⟩ (.int .i64 ((cj : Int) + 1 + 1))) w4 → RowAt 24 w4 g cap (markL (ks.take (j + 1)) c ++ ks.drop (j + 1)) (G1 ++ (G3 ++ G4)) ∧ Out (g :: (G1 ++ (G3 ++ G4))) w w4) := fun w1 w4 hb1 ho4 hou => by
         obtain ⟨blk1, blk2, blk3⟩ := HP.out w1 hb1
         have hsz3 : (((w1.setCell ⟨g, j * 4 + 1, none⟩ (.string mt)).setCell ⟨g, j * 4 + 2, none⟩ (.int .i64 ((cj : Int) + 1 + 1)))).heap.size = w1.heap.size := by simp [World.setCell]
         have hszw : wr.heap.size ≤ w1.heap.size := by have := hb1.size; omega
         have hg3 : g ∉ G3 := fun h => hgn (by simp [h])
         have blk4 := (hou.block g (by omega) hg3).trans blk3
         have hoth : ∀ f, f < wr.heap.size → f ≠ g → f ∉ G3 → w4.heap[f]? = wr.heap[f]? := fun f hf hne hn => (hou.block f (by omega) hn).trans (HSAME.out w1 hb1 f hf hne)
         have hlist : markL (ks.take (j + 1)) c ++ ks.drop (j + 1) = markL (ks.take j) c ++ ((Tm.mk k1 s1 n1 kids).markT cj :: ks.drop (j + 1)) := by
           rw [List.take_succ_eq_append_getElem hlt, markL_append, markL_cons, markL_nil, hkj, HCJ.out]
           simp
         rw [List.nodup_append] at hFn
         obtain ⟨_, hn2, hdis⟩ := hFn
         rw [List.nodup_append] at hn2
         obtain ⟨_, _, hdis2⟩ := hn2
         refine ⟨?_, ?_⟩
         · refine ⟨cs1 ++ Value.int .i64 (cj : Int) :: .string mt :: .int .i64 ((cj : Int) + 1 + 1) :: .slice ao1 len1 cap1 :: cs', _, blk4, ?_, hcpm, ?_, ?_, ?_⟩
           · rw [List.length_append, markL_len, ← List.length_append, List.take_append_drop]; exact hnc
           · simp only [Array.size_setIfInBounds]; exact hcs
           · rw [List.length_append, markL_len, ← List.length_append, List.take_append_drop, take_setL, take_setL, take_setL, htk]
             exact set3 hl1
           · rw [hlist]
             refine OwnRow.join _ _ _ _ _ _ (OwnRow.keep _ _ _ hr1 fun f hf => hoth f (OwnRow.lt _ _ _ hr1 f hf) (fun e => hgn (by rw [← e]; simp [hf])) (fun h3 => hdis f hf f (by simp [h3]) rfl)) ?_
             unfold OwnRow
             refine ⟨_, _, _, _, cs', G3, G4, rfl, rfl, ?_, OwnRow.keep _ _ _ hr4 fun f hf => hoth f (OwnRow.lt _ _ _ hr4 f hf) (fun e => hgn (by rw [← e]; simp [hf])) (fun h3 => hdis2 f h3 f hf rfl)⟩
             rw [markT_mk, ← hmt, show (cj : Int) + 1 + 1 = ((cj + 2 : Nat) : Int) by omega]
             refine own_mk ho4 (by omega) (by omega) ?_
             have := mkS_len (cj + 1) (by omega)
             rw [hmt]
             show (mkS (cj + 1)).toArray.size ≤ maxLen
             unfold maxLen
             simp only [List.size_toArray]
             omega
         · have hg : g ∈ g :: (G1 ++ (G3 ++ G4)) := by simp
           have o1 : Out (g :: (G1 ++ (G3 ++ G4))) wr WA := by rw [hWA]; exact Out.set hg _ _ _
           exact HB.out.trans (o1.trans ((Out.of_below hb1).trans ((Out.set hg _ _ _).trans ((Out.set hg _ _ _).trans (hou.mono fun f hf => by simp [hf])))))
       have HNC : Hid (cj + 3 + 3 * ns kids = c + 3 * ns (ks.take (j + 1))) := by
         show _ = _
         rw [List.take_succ_eq_append_getElem hlt, ns_append, show ns [ks[j]] = ks[j].n by simp [ns, Tm.n.ns], hKn, HCJ.out]
         omega
       clear blkA hblk hnc hcpm hcs htk hr hr1 hr3 hr4 hK1 hs1 hK hKn hlen hkj hgn hFn hnd3 HAT HP HSAME HG3 HKS HO HND HOJ HBD hWA hmt
       go_wp2_with (first | (go_at_call 22; refine (Calls.mono HMK.out ?_); rintro e w1 ⟨rfl, hb1⟩; have HB1 : Hid _ := hb1; obtain ⟨q1, q2, q3, q4, q5⟩ := HF.out w1 hb1; clear hb1) | (go_at_call 16; refine (Calls.mono (HREC.out w1 HB1.out) ?_); rintro e w4 ⟨rfl, ho4, hou⟩; have HN4 : Hid _ := HNX.out w1 w4 HB1.out ho4 hou; clear ho4 hou))
       go_roundw
       case rel => exact ⟨HN4.out.2, j + 1, cj + 3 + 3 * ns kids, by omega, by go_num, rfl, HNC.out, HN4.out.1⟩
       case measure => simp [intOf]; omega
     · have HE : Hid (OwnS 24 wr (markL ks c) (.slice (some ⟨g, 0, none⟩) ks.length cap) (g :: F')) := by
         have := HOJ.out.own
         rw [List.length_append, markL_len, ← List.length_append, List.take_append_drop, List.take_of_length_le (by omega), List.drop_eq_nil_of_le (by omega), List.append_nil] at this
         exact this
       have HC2 : Hid (cj = c + 3 * ns ks) := by
         have := HCJ.out
         rw [List.take_of_length_le (by omega)] at this
         exact this
       clear HCJ HOJ HO HKS HND HBD
       go_wp2
       go_ret
       exact ⟨by rw [← HC2.out]; rfl, HE.out, HB.out⟩
theorem mark_all (ks : List Tm) : MarkOk ks :=
 tm_ind (p := fun t => MarkOk t.kids) (fun _ _ _ ks h => mark_list ks h) (Tm.mk 0 ⟨#[]⟩ 0 ks)
def Tm.markK : Tm → Nat → Tm
 | .mk k s n ks, c => .mk k s n (markL ks c)
set_option maxRecDepth 20000 in
theorem mark_term (t : Tm) (w : World) (v : Value) (F : List Nat) (c : Nat) (h : Own 24 w t v F) (hnd : F.Nodup) (hc : 0 < c) (hb : c + 3 * ns t.kids ≤ 2305843009213693952) :
   Calls Tryz.prog 9 #[v, .int .i64 (c : Int)] w fun e w' => e = .returned (.int .i64 ((c + 3 * ns t.kids : Nat) : Int)) ∧ Own 24 w' (t.markK c) v F ∧ Out F w w' := by
 obtain ⟨k, s, n, ks⟩ := t
 have hlt := Own.lt _ _ _ h
 have hbd : (-9223372036854775808 ≤ k ∧ k ≤ 9223372036854775807) ∧ (-9223372036854775808 ≤ n ∧ n ≤ 9223372036854775807) ∧ s.size ≤ maxLen := by
   unfold Own at h
   obtain ⟨_, _, h1, h2, h3, _⟩ := h
   exact ⟨h1, h2, h3⟩
 obtain ⟨sl, rfl, ho⟩ := own_open h
 obtain ⟨ao1, len1, cap1, rfl⟩ : ∃ ao1 len1 cap1, sl = .slice ao1 len1 cap1 := by
   rcases ho with ⟨rfl, _⟩ | ⟨g1, cp1, _, _, rfl, _⟩
   · exact ⟨_, _, _, rfl⟩
   · exact ⟨_, _, _, rfl⟩
 obtain ⟨W, hW⟩ : ∃ W, W = w.alloc (.cells #[.int .i64 k, .string s, .int .i64 n, .slice ao1 len1 cap1] 24) := ⟨_, rfl⟩
 have hbW : Below w.heap.size w W := by rw [hW]; exact (Below.refl _ _).alloc (Nat.le_refl _) _
 have HC := mark_all ks W (.slice ao1 len1 cap1) F c (ho.keep fun f hf => hbW.block f (hlt f hf)) hnd hc hb
 rw [hW] at HC
 replace HC : Hid _ := HC
 have HBD : Hid _ := hbd
 have HBW : Hid _ := hbW
 clear h ho hlt hbd hnd hbW
 go_enter Tryz.func9, Tryz.ntmps9
 go_wp2_with (go_at_call 16; refine (Calls.mono HC.out ?_); rintro e w1 ⟨rfl, ho, hou⟩; rw [← hW] at hou; have HO : Hid _ := ho; have HU : Hid _ := hou; clear ho hou)
 go_ret
 exact ⟨rfl, own_mk HO.out HBD.out.1 HBD.out.2.1 HBD.out.2.2, (Out.of_below HBW.out).trans HU.out⟩
end Go.Proofs.YtbkjcccbjnehbanGreatDoor

namespace Go.Proofs.YtbkjcccbjnehbanGreatDoor
open Go.RowKit
def HeldOk (ks : List Tm) : Prop := ∀ (w : World) (ao : Option Addr) (cap c : Nat), 0 < c → c + 3 * ns ks ≤ 2305843009213693952 → ks.length ≤ cap → cap ≤ maxLen → (ks ≠ [] → ∃ b off, ao = some ⟨b, off, none⟩ ∧ TmsIn w (markL ks c) b off) →
 Calls Tryz.prog 17 #[.slice ao ks.length cap, .int .i64 (c : Int)] w fun e w' => e = .returned (.int .i64 ((c + 3 * ns ks : Nat) : Int)) ∧ Below w.heap.size w w'
set_option maxHeartbeats 4000000 in
set_option maxRecDepth 20000 in
theorem held_list (ks : List Tm) (hks : ∀ t ∈ ks, HeldOk t.kids) : HeldOk ks := by
 intro w ao cap c hc0 hcm hlen hcap hrow
 unfold maxLen at hcap
 have HR : Hid (∀ wr, Below w.heap.size w wr → ks ≠ [] → ∃ b off, ao = some ⟨b, off, none⟩ ∧ TmsIn wr (markL ks c) b off) := fun wr hb h0 => by
   obtain ⟨b, off, e, hr⟩ := hrow h0
   exact ⟨b, off, e, TmsIn.keep hb _ b off hr⟩
 have HKS : Hid _ := hks
 clear hks hrow
 have HBD : Hid (∀ j, c + 3 * ns (ks.take j) ≤ c + 3 * ns ks) := fun j => by
   have : ns (ks.take j) + ns (ks.drop j) = ns ks := by rw [← ns_append, List.take_append_drop]
   omega
 go_enter Tryz.func17, Tryz.ntmps17
 go_wp2
 go_loopw [1, 5] (fun vk vi wr => Hid (Below w.heap.size w wr) ∧ ∃ (j cj : Nat), j ≤ ks.length ∧ vi = .int .i64 (j : Int) ∧ vk = .int .i64 (cj : Int) ∧ Hid (cj = c + 3 * ns (ks.take j))) (fun _ i _ => ks.length - (intOf i).toNat)
 case atStart => exact ⟨Below.refl _ _, 0, c, by omega, rfl, rfl, by show _ = _; simp [ns, Tm.n.ns]⟩
 case round =>
   obtain ⟨HB, j, cj, hj, rfl, rfl, HCJ⟩ := hrel
   have hcjm : cj ≤ 2305843009213693952 := by have := HCJ.out; have := HBD.out j; omega
   have hcj0 : 0 < cj := by have := HCJ.out; omega
   by_cases hlt : j < ks.length
   · obtain ⟨b, off, rfl, hin⟩ := HR.out wr HB.out (by intro e; subst e; simp at hlt)
     have hlm : j < (markL ks c).length := by rw [markL_len]; exact hlt
     obtain ⟨c0, c1, c2, c3, h0, h1, h2, h3, ht⟩ := hin.at j hlm
     rw [markL_at hlt, ← HCJ.out] at ht
     obtain ⟨kj, hkj⟩ : ∃ kj, kj = ks[j] := ⟨_, rfl⟩
     have hK1 : HeldOk ks[j].kids := HKS.out ks[j] (List.getElem_mem hlt)
     rw [← hkj] at ht hK1
     obtain ⟨k1, s1, n1, kids⟩ := kj
     have hKn : ks[j].n = 1 + ns kids := by rw [← hkj, n_mk]
     replace hK1 : HeldOk kids := hK1
     rw [markT_mk] at ht
     unfold TmIn at ht
     obtain ⟨ao1, cap1, he, _, _, _, hl1, hm1, hr1⟩ := ht
     rw [markL_len] at he hl1
     obtain ⟨mt, hmt⟩ : ∃ mt : ByteArray, mt = ⟨(mkS (cj + 1)).toArray⟩ := ⟨_, rfl⟩
     rw [← hmt] at he
     obtain ⟨rfl, rfl, rfl, rfl⟩ : c0 = .int .i64 (cj : Int) ∧ c1 = .string mt ∧ c2 = .int .i64 ((cj + 2 : Nat) : Int) ∧ c3 = .slice ao1 kids.length cap1 := by simpa using he
     rw [show ((cj + 2 : Nat) : Int) = (cj : Int) + 1 + 1 by omega] at h2
     have HMK : Hid (∀ w, Calls Tryz.prog 22 #[.int .i64 ((cj : Int) + 1)] w fun e w' => e = .returned (.string mt) ∧ Below w.heap.size w w') := fun w => by
       have := mark_any (cj + 1) w (by omega) (by omega)
       rw [hmt]
       rwa [show ((cj + 1 : Nat) : Int) = (cj : Int) + 1 by omega] at this
     have hbd3 : cj + 3 + 3 * ns kids ≤ 2305843009213693952 := by
       have h1 := HCJ.out
       have h2 := HBD.out (j + 1)
       rw [List.take_succ_eq_append_getElem hlt, ns_append, show ns [ks[j]] = ks[j].n by simp [ns, Tm.n.ns], hKn] at h2
       omega
     have HNC : Hid (cj + 3 + 3 * ns kids = c + 3 * ns (ks.take (j + 1))) := by
       show _ = _
       rw [List.take_succ_eq_append_getElem hlt, ns_append, show ns [ks[j]] = ks[j].n by simp [ns, Tm.n.ns], hKn, HCJ.out]
       omega
     have HREC : Hid (∀ w1, Below wr.heap.size wr w1 → Calls Tryz.prog 17 #[.slice ao1 kids.length cap1, .int .i64 ((cj : Int) + 1 + 1 + 1)] w1 fun e w' => e = .returned (.int .i64 ((cj + 3 + 3 * ns kids : Nat) : Int)) ∧ Below w1.heap.size w1 w') := fun w1 hb => by
       have := hK1 w1 ao1 cap1 (cj + 3) (by omega) hbd3 hl1 hm1 (fun h0 => by
         obtain ⟨b1, off1, e1, hr2⟩ := hr1 (by intro e; apply h0; rw [← List.length_eq_zero_iff, ← markL_len kids (cj + 3), e]; rfl)
         exact ⟨b1, off1, e1, TmsIn.keep hb _ _ _ hr2⟩)
       rwa [show ((cj + 3 : Nat) : Int) = (cj : Int) + 1 + 1 + 1 by omega] at this
     have HCL : Hid (∀ w1, Below wr.heap.size wr w1 → w1.cell? ⟨b, off + j * 4, none⟩ = some (.int .i64 (cj : Int)) ∧ w1.cell? ⟨b, off + j * 4 + 1, none⟩ = some (.string mt) ∧ w1.cell? ⟨b, off + j * 4 + 2, none⟩ = some (.int .i64 ((cj : Int) + 1 + 1)) ∧ w1.cell? ⟨b, off + j * 4 + 3, none⟩ = some (.slice ao1 kids.length cap1)) := fun w1 hb =>
       ⟨cell_keep h0 hb, cell_keep h1 hb, cell_keep h2 hb, cell_keep h3 hb⟩
     have l1 : ∀ u, (later wr u).cell? ⟨b, off + j * 4 + 1, none⟩ = some (.string mt) := fun u => (HCL.out _ (later_below wr u)).2.1
     have hnn : ¬ ((cj + 3 + 3 * ns kids : Nat) : Int) < 0 := by omega
     generalize cj + 3 + 3 * ns kids = nx at *
     clear he hin hr1 hK1 hKn hkj hmt HKS HR HBD
     go_wp2
     refine wp_region_later (by kernel_rfl) (by kernel_rfl) ?_
     repeat (go_big_quiet_step ((go_at_call 22; exact Calls.later_of_below (HMK.out _))))
     refine wpQuiet_nil ?_
     rintro _ ⟨u, rfl⟩
     have HB1 : Hid (Below wr.heap.size wr (later wr u)) := later_below wr u
     generalize later wr u = w1 at *
     obtain ⟨m0, m1, m2, m3⟩ := HCL.out w1 HB1.out
     clear l1
     go_wp2_with (go_at_call 17; refine (Calls.mono (HREC.out w1 HB1.out) ?_); rintro e w4 ⟨rfl, hb⟩; have HB4 : Hid (Below w.heap.size w w4) := HB.out.trans ((HB1.out.trans (hb.mono HB1.out.size)).mono HB.out.size); clear hb)
     go_roundw
     case rel => exact ⟨HB4.out, j + 1, nx, by omega, by go_num, rfl, HNC.out⟩
     case measure => simp [intOf]; omega
   · have HC2 : Hid (cj = c + 3 * ns ks) := by
       have := HCJ.out
       rw [List.take_of_length_le (by omega)] at this
       exact this
     clear HCJ HKS HBD HR
     go_wp2
     go_ret
     exact ⟨by rw [← HC2.out]; rfl, HB.out⟩
theorem held_all (ks : List Tm) : HeldOk ks :=
 tm_ind (p := fun t => HeldOk t.kids) (fun _ _ _ ks h => held_list ks h) (Tm.mk 0 ⟨#[]⟩ 0 ks)
set_option maxRecDepth 20000 in
theorem held_term (t : Tm) (w : World) (v : Value) (c : Nat) (h : TmIn w (t.markK c) v) (hc : 0 < c) (hb : c + 3 * ns t.kids ≤ 2305843009213693952) :
   Calls Tryz.prog 11 #[v, .int .i64 (c : Int)] w fun e w' => e = .returned (.int .i64 ((c + 3 * ns t.kids : Nat) : Int)) ∧ Below w.heap.size w w' := by
 obtain ⟨k, s, n, ks⟩ := t
 unfold Tm.markK TmIn at h
 obtain ⟨ao, cap, rfl, _, _, _, hl, hm, hr⟩ := h
 rw [markL_len] at *
 obtain ⟨W, hW⟩ : ∃ W, W = w.alloc (.cells #[.int .i64 k, .string s, .int .i64 n, .slice ao ks.length cap] 24) := ⟨_, rfl⟩
 have hbW : Below w.heap.size w W := by rw [hW]; exact (Below.refl _ _).alloc (Nat.le_refl _) _
 have HC := held_all ks W ao cap c hc hb hl hm (fun h0 => by
   obtain ⟨b1, off1, e1, hr2⟩ := hr (by intro e; apply h0; rw [← List.length_eq_zero_iff, ← markL_len ks c, e]; rfl)
   exact ⟨b1, off1, e1, TmsIn.keep hbW _ _ _ hr2⟩)
 rw [hW] at HC
 replace HC : Hid _ := HC
 have HBW : Hid _ := hbW
 change c + 3 * ns ks ≤ 2305843009213693952 at hb
 show Calls Tryz.prog 11 _ _ fun e w' => e = .returned (.int .i64 ((c + 3 * ns ks : Nat) : Int)) ∧ Below w.heap.size w w'
 have hnn : ¬ ((c + 3 * ns ks : Nat) : Int) < 0 := by omega
 generalize c + 3 * ns ks = nx at *
 clear hr hbW
 go_enter Tryz.func11, Tryz.ntmps11
 go_wp2_with (go_at_call 17; refine (Calls.mono HC.out ?_); rintro e w1 ⟨rfl, hb⟩; rw [← hW] at hb; have HU : Hid (Below w.heap.size w w1) := HBW.out.trans (hb.mono HBW.out.size); clear hb)
 go_ret
 exact ⟨rfl, HU.out⟩
end Go.Proofs.YtbkjcccbjnehbanGreatDoor

namespace Go.Proofs.YtbkjcccbjnehbanGreatDoor
open Go.RowKit
def EqOk (t : Tm) : Prop := ∀ (w : World) (va vb : Value), TmIn w t va → TmIn w t vb →
 Calls Tryz.prog 7 #[va, vb] w fun e w' => e = .returned (.bool true) ∧ Below w.heap.size w w'
theorem eq_terms (ks : List Tm) (hks : ∀ t ∈ ks, EqOk t) (w : World) (ao bo : Option Addr) (ca cb : Nat) (hlen : ks.length ≤ maxLen) (ha : ks ≠ [] → ∃ b off, ao = some ⟨b, off, none⟩ ∧ TmsIn w ks b off) (hb : ks ≠ [] → ∃ b off, bo = some ⟨b, off, none⟩ ∧ TmsIn w ks b off) :
   Calls Tryz.prog 15 #[.slice ao ks.length ca, .slice bo ks.length cb] w fun e w' => e = .returned (.bool true) ∧ Below w.heap.size w w' := by
 unfold maxLen at hlen
 go_enter Tryz.func15, Tryz.ntmps15
 go_wp2
 go_loopw [5] (fun vi wr => Hid (Below w.heap.size w wr) ∧ ∃ j : Nat, j ≤ ks.length ∧ vi = .int .i64 (j : Int)) (fun i _ => ks.length - (intOf i).toNat)
 case atStart => exact ⟨Below.refl _ _, 0, by omega, rfl⟩
 case round =>
   obtain ⟨HB, j, hj, rfl⟩ := hrel
   by_cases hlt : j < ks.length
   · have hne : ks ≠ [] := by intro e; subst e; simp at hlt
     obtain ⟨b, off, rfl, hin⟩ := ha hne
     obtain ⟨b', off', rfl, hin'⟩ := hb hne
     obtain ⟨c0, c1, c2, c3, h0, h1, h2, h3, ht⟩ := (TmsIn.keep HB.out ks b off hin).at j hlt
     obtain ⟨d0, d1, d2, d3, g0, g1, g2, g3, gt⟩ := (TmsIn.keep HB.out ks b' off' hin').at j hlt
     have HC : Hid (∀ u, Calls Tryz.prog 7 #[.agg #[c0, c1, c2, c3], .agg #[d0, d1, d2, d3]] (later wr u) fun e w' => e = .returned (.bool true) ∧ Below (later wr u).heap.size (later wr u) w') := fun u =>
       hks ks[j] (List.getElem_mem hlt) (later wr u) _ _ (TmIn.keep (later_below wr u) _ _ ht) (TmIn.keep (later_below wr u) _ _ gt)
     have k0 : ∀ u, (later wr u).cell? ⟨b, off + j * 4, none⟩ = some c0 := fun u => cell_keep h0 (later_below wr u)
     have k1 : ∀ u, (later wr u).cell? ⟨b, off + j * 4 + 1, none⟩ = some c1 := fun u => cell_keep h1 (later_below wr u)
     have k2 : ∀ u, (later wr u).cell? ⟨b, off + j * 4 + 2, none⟩ = some c2 := fun u => cell_keep h2 (later_below wr u)
     have k3 : ∀ u, (later wr u).cell? ⟨b, off + j * 4 + 3, none⟩ = some c3 := fun u => cell_keep h3 (later_below wr u)
     have l0 : ∀ u, (later wr u).cell? ⟨b', off' + j * 4, none⟩ = some d0 := fun u => cell_keep g0 (later_below wr u)
     have l1 : ∀ u, (later wr u).cell? ⟨b', off' + j * 4 + 1, none⟩ = some d1 := fun u => cell_keep g1 (later_below wr u)
     have l2 : ∀ u, (later wr u).cell? ⟨b', off' + j * 4 + 2, none⟩ = some d2 := fun u => cell_keep g2 (later_below wr u)
     have l3 : ∀ u, (later wr u).cell? ⟨b', off' + j * 4 + 3, none⟩ = some d3 := fun u => cell_keep g3 (later_below wr u)
     clear hin hin' ht gt ha hb hks h0 h1 h2 h3 g0 g1 g2 g3
     go_wp2
     refine wp_region_later (by kernel_rfl) (by kernel_rfl) ?_
     repeat (go_big_quiet_step ((go_at_call 7; exact Calls.later_of_below (HC.out _))))
     refine wpQuiet_nil ?_
     rintro _ ⟨u, rfl⟩
     have hb2 := later_below wr u
     clear k0 k1 k2 k3 l0 l1 l2 l3
     go_wp2
     go_roundw
     case rel => exact ⟨HB.out.trans (hb2.mono HB.out.size), j + 1, by omega, by go_num⟩
     case measure => simp [intOf]; omega
   · go_wp2
     go_ret
     exact ⟨rfl, HB.out⟩
theorem eq_term (t : Tm) : EqOk t := by
 refine tm_ind (p := EqOk) ?_ t
 clear t
 intro k s n ks hks w va vb hin hin'
 unfold TmIn at hin hin'
 obtain ⟨ao, ca, rfl, hk, hn, hs, hlen, hcap, hrow⟩ := hin
 obtain ⟨bo, cb, rfl, _, _, _, _, _, hrow'⟩ := hin'
 have hb1 : Below w.heap.size w ((w.alloc (.cells #[.int .i64 k, .string s, .int .i64 n, .slice ao ks.length ca] 24)).alloc (.cells #[.int .i64 k, .string s, .int .i64 n, .slice bo ks.length cb] 24)) :=
   ((Below.refl _ _).alloc (Nat.le_refl _) _).alloc (by simp) _
 have HC : Hid _ := eq_terms ks hks _ ao bo ca cb (by omega) (fun h0 => by obtain ⟨b, off, e, hr⟩ := hrow h0; exact ⟨b, off, e, TmsIn.keep hb1 ks b off hr⟩) (fun h0 => by obtain ⟨b, off, e, hr⟩ := hrow' h0; exact ⟨b, off, e, TmsIn.keep hb1 ks b off hr⟩)
 replace hb1 : Hid _ := hb1
 clear hks hrow hrow'
 unfold maxLen at *
 go_enter Tryz.func7, Tryz.ntmps7
 go_wp2_with (go_at_call 15; refine (Calls.mono HC.out ?_); rintro e w1 ⟨rfl, hb⟩; have HB1 : Hid (Below w.heap.size w w1) := hb1.out.trans (hb.mono hb1.out.size); clear hb)
 go_ret
 exact ⟨rfl, HB1.out⟩
end Go.Proofs.YtbkjcccbjnehbanGreatDoor

namespace Go.Proofs.YtbkjcccbjnehbanGreatDoor
open Go.RowKit
def RowIn (w : World) (ks : List Tm) (ao : Option Addr) (cap : Nat) : Prop := ks.length ≤ cap ∧ cap ≤ maxLen ∧ (ks ≠ [] → ∃ b off, ao = some ⟨b, off, none⟩ ∧ TmsIn w ks b off)
theorem RowIn.keep {w w' : World} {ks : List Tm} {ao : Option Addr} {cap : Nat} (h : RowIn w ks ao cap) (hb : Below w.heap.size w w') : RowIn w' ks ao cap :=
 ⟨h.1, h.2.1, fun h0 => by obtain ⟨b, off, e, h4⟩ := h.2.2 h0; exact ⟨b, off, e, TmsIn.keep hb _ _ _ h4⟩⟩
theorem OwnS.rowIn {e : TypeId} {w : World} {ks : List Tm} {ao : Option Addr} {n cap : Nat} {F : List Nat} (h : OwnS e w ks (.slice ao n cap) F) : RowIn w ks ao cap := by
 have h1 : Own e w (.mk 0 ⟨#[]⟩ 0 ks) (.agg #[.int .i64 0, .string ⟨#[]⟩, .int .i64 0, .slice ao n cap]) F := own_mk h (by omega) (by omega) (Nat.zero_le _)
 have h2 := Own.toIn _ _ _ h1
 unfold TmIn at h2
 obtain ⟨ao', cap', he, _, _, _, h3, h4, h5⟩ := h2
 obtain ⟨rfl, _, rfl⟩ : ao = ao' ∧ n = ks.length ∧ cap = cap' := by simpa using he
 exact ⟨h3, h4, h5⟩
theorem readS_ok {r : List Sg} {y : Tm × List ByteArray × List Sg} (h : readS r = some y) : y.1.n ≤ 400 := by
 unfold readS at h
 cases e : termO true 130 1200 ⟨r, []⟩ with
 | none => rw [e] at h; cases h
 | some z =>
   rw [e] at h
   obtain ⟨t, ⟨rest, names⟩⟩ := z
   cases rest with
   | nil => cases h
   | cons x r' =>
     simp only at h
     split at h
     · rename_i hh
       cases h
       have := hh.2
       unfold Tm.ok at this
       rw [Bool.and_eq_true] at this
       exact of_decide_eq_true this.1
     · cases h
theorem rsR_n (L : List Sg) (a : Nat) : (rsR L a).t.n ≤ 400 := by
 unfold rsR
 cases e : (if a < L.length then readS (L.drop a) else none) with
 | none => simp [noTm, Tm.n, Tm.n.ns]
 | some y =>
   obtain ⟨t, names, r⟩ := y
   simp only
   split at e
   · exact readS_ok e
   · cases e
theorem raF_n (L : List Sg) : ∀ (f a : Nat) (ks : List Tm) (b : Nat), (raF L f a ks b).1.length ≤ ks.length + f ∧ ns (raF L f a ks b).1 ≤ ns ks + 400 * f
 | 0, a, ks, b => by simp [raF]
 | f + 1, a, ks, b => by
   unfold raF
   split
   · split
     · have h1 := raF_n L f (rsR L a).nx (ks ++ [(rsR L a).t]) b
       have h2 := rsR_n L a
       rw [ns_append, List.length_append] at h1
       have h3 : ns [(rsR L a).t] = (rsR L a).t.n := by simp [ns, Tm.n.ns]
       simp only [List.length_cons, List.length_nil] at h1
       omega
     · have h1 := raF_n L f (rsR L a).nx ks (b + 1)
       omega
   · simp
theorem raR_n (t : ByteArray) : (raR t).1.length ≤ 3000 ∧ ns (raR t).1 ≤ 1200000 := by
 have h := raF_n (signsR t).1 ((signsR t).1.length - 0) 0 [] 0
 have hl := signsR_len t
 have e : raR t = raF (signsR t).1 ((signsR t).1.length - 0) 0 [] 0 := rfl
 rw [e]
 simp only [List.length_nil, ns, Tm.n.ns] at h ⊢
 omega
end Go.Proofs.YtbkjcccbjnehbanGreatDoor

namespace Go.Proofs.YtbkjcccbjnehbanGreatDoor
open Go.RowKit Go.BigFrame
def strsV (xs : List (List UInt8)) : List Value := xs.map fun l => Value.string ⟨l.toArray⟩
theorem strsV_get (xs : List (List UInt8)) (j : Nat) (h : j < xs.length) : (strsV xs)[j]? = some (Value.string ⟨xs[j].toArray⟩) := by simp [strsV, h]
theorem owns_base {w : World} {B B' e size n : Nat} {v : Value} {xs : List Value} (h : w.ownsRow B e size v n xs) (hB : B' ≤ B) : w.ownsRow B' e size v n xs := by
 refine ⟨h.1, ?_⟩
 rcases h.2 with h | ⟨g, cap, cur, h1, h2, h3⟩
 · exact Or.inl h
 · exact Or.inr ⟨g, cap, cur, h1, Nat.le_trans hB h2, h3⟩
theorem owns_below {w w' : World} {B e size n : Nat} {v : Value} {xs : List Value} (h : w.ownsRow B e size v n xs) (hb : Below w.heap.size w w') : w'.ownsRow B e size v n xs := by
 refine ⟨h.1, ?_⟩
 rcases h.2 with h | ⟨g, cap, cur, h1, h2, h3, h4⟩
 · exact Or.inl h
 · exact Or.inr ⟨g, cap, cur, h1, h2, (hb.block g (Array.getElem?_eq_some_iff.1 h3).1).trans h3, h4⟩
theorem below_draw (B : Nat) (w : World) (n : Nat) : Below B w (w.drewN n) := ⟨rfl, rfl, rfl, Nat.le_refl _, fun _ _ => rfl⟩
set_option maxHeartbeats 1000000 in
theorem eqS_same (xs : List (List UInt8)) (a b : Value) (w : World) (hl : xs.length ≤ 1000000) (ha : w.ownsRow 0 9 1 a xs.length (strsV xs)) (hb : w.ownsRow 0 9 1 b xs.length (strsV xs)) :
   Calls Tryz.prog 8 #[a, b] w fun e w' => e = .returned (.bool true) ∧ Below w.heap.size w w' := by
 by_cases h0 : xs = []
 · subst h0
   rcases ha.2 with ⟨rfl, _⟩ | ⟨g, cap, cur, rfl, _⟩
   all_goals
     rcases hb.2 with ⟨rfl, _⟩ | ⟨g', cap', cur', rfl, _⟩
     all_goals
       clear ha hb
       go_enter Tryz.func8, Tryz.ntmps8
       go_wp2
       refine wp_loop_rounds 1 ?_
       rw [rounds_succ]
       go_wp2
       go_ret
       exact ⟨rfl, Below.refl _ _⟩
 · have hpos : 0 < xs.length := List.length_pos_iff.2 h0
   have ha' := ha
   have hb' := hb
   rcases ha.2 with ⟨rfl, hz⟩ | ⟨g, cap, cur, rfl, _⟩
   · omega
   rcases hb.2 with ⟨rfl, hz⟩ | ⟨g', cap', cur', rfl, _⟩
   · omega
   clear ha hb h0
   have hne : ((xs.length : Int) != (xs.length : Int)) = false := by simp
   go_enter Tryz.func8, Tryz.ntmps8
   go_wp2
   go_loopw [5] (fun i wr => ∃ k : Nat, k ≤ xs.length ∧ i = .int .i64 k ∧ Below w.heap.size w wr) (fun i _ => xs.length - (intOf i).toNat)
   case atStart => exact ⟨0, Nat.zero_le _, rfl, Below.refl _ _⟩
   case round =>
     obtain ⟨k, hk, rfl, hbel⟩ := hrel
     have ra := owns_below ha' hbel
     have rb := owns_below hb' hbel
     by_cases hlt : k < xs.length
     · have ca : wr.cell? ⟨g, k, none⟩ = some (.string ⟨xs[k].toArray⟩) := (ra.cellAt k (by omega)).trans (strsV_get xs k hlt)
       have cb : wr.cell? ⟨g', k, none⟩ = some (.string ⟨xs[k].toArray⟩) := (rb.cellAt k (by omega)).trans (strsV_get xs k hlt)
       clear ra rb
       go_wp2
       go_quiet (fail)
       go_wp2
       go_roundw
       case rel => exact ⟨k + 1, by omega, by go_num, hbel.trans (below_draw _ _ _)⟩
       case measure => simp [intOf]; omega
     · clear ra rb
       go_wp2
       go_ret
       exact ⟨rfl, hbel⟩
def marks (n : Nat) : List (List UInt8) := (List.range n).map fun j => mkS (j + 1)
theorem strsV_set (xs : List (List UInt8)) (j : Nat) (l : List UInt8) : (strsV xs).set j (Value.string ⟨l.toArray⟩) = strsV (xs.set j l) := by
 simp [strsV, List.map_set]
theorem take_set (ys : List (List UInt8)) (i : Nat) (l : List UInt8) (h : i < ys.length) : (ys.set i l).take (i + 1) = ys.take i ++ [l] := by
 rw [List.take_succ_eq_append_getElem (by simpa using h), List.getElem_set_self, List.take_set_of_le (Nat.le_refl _)]
end Go.Proofs.YtbkjcccbjnehbanGreatDoor

namespace Go.Proofs.YtbkjcccbjnehbanGreatDoor
open Go.RowKit
theorem mark_nat (n : Nat) (w : World) (h0 : 0 < n) (hN : n ≤ 4611686018427387904) :
   Calls Tryz.prog 22 #[.int .i64 (n : Int)] w fun e w' => e = .returned (.string ⟨(mkS n).toArray⟩) ∧ Below w.heap.size w w' := by
 have := mark_int (n : Int) w (by omega) (by omega)
 simpa using this
def marksC (c n : Nat) : List (List UInt8) := (List.range n).map fun j => mkS (c + j)
theorem marksC_len (c n : Nat) : (marksC c n).length = n := by simp [marksC]
theorem marksC_get (c n j : Nat) (h : j < n) : (marksC c n)[j]? = some (mkS (c + j)) := by simp [marksC, h]
theorem marksC_succ (c n : Nat) : marksC c (n + 1) = marksC c n ++ [mkS (c + n)] := by simp [marksC, List.range_succ]
set_option maxHeartbeats 1000000 in
theorem markS_from (c B : Nat) (xs : List (List UInt8)) (a : Value) (w : World) (hc : 0 < c ∧ c ≤ 1000000000) (hl : xs.length ≤ 1000000) (ha : w.ownsRow B 9 1 a xs.length (strsV xs)) :
   Calls Tryz.prog 10 #[a, .int .i64 (c : Int)] w fun e w' => e = .returned (.int .i64 ((c + xs.length : Nat) : Int)) ∧ Out a.ownBlock.toList w w' ∧ w'.ownsRow B 9 1 a xs.length (strsV (marksC c xs.length)) := by
 by_cases h0 : xs = []
 · subst h0
   rcases ha.2 with ⟨rfl, _⟩ | ⟨g, cap, cur, rfl, _⟩
   all_goals
     go_enter Tryz.func10, Tryz.ntmps10
     go_wp2
     refine wp_loop_rounds 1 ?_
     rw [rounds_succ]
     go_wp2
     go_ret
     exact ⟨rfl, Out.refl _ _, ha⟩
 · have hpos : 0 < xs.length := List.length_pos_iff.2 h0
   have ha' := ha
   rcases ha.2 with ⟨rfl, hz⟩ | ⟨g, cap, cur, rfl, hgB, _⟩
   · omega
   clear ha h0
   generalize hn : xs.length = n at *
   go_enter Tryz.func10, Tryz.ntmps10
   go_wp2
   go_loopw [1, 5] (fun vk i wr => ∃ (k : Nat) (ys : List (List UInt8)), k ≤ n ∧ i = .int .i64 k ∧ vk = .int .i64 ((c + k : Nat) : Int) ∧ Hid (ys.length = n ∧ ys.take k = marksC c k) ∧ wr.ownsRow B 9 1 (.slice (some ⟨g, 0, none⟩) n cap) n (strsV ys) ∧ Out (Value.ownBlock (.slice (some ⟨g, 0, none⟩) n cap)).toList w wr) (fun _ i _ => n - (intOf i).toNat)
   case atStart => exact ⟨0, xs, Nat.zero_le _, rfl, rfl, ⟨hn, by simp [marksC]⟩, ha', Out.refl _ _⟩
   case round =>
     obtain ⟨k, ys, hk, rfl, rfl, hys, hown, hbel⟩ := hrel
     have hsz := hbel.size
     by_cases hlt : k < n
     · have hyl : k < ys.length := by rw [hys.out.1]; exact hlt
       go_wp2_with (go_at_call 22; refine (mark_nat (c + k) _ (by omega) (by omega)).mono ?_; rintro e w1 ⟨rfl, hb1⟩; have r1 := owns_below hown hb1; have c1 := (r1.cellAt k (by omega)).trans (strsV_get ys k hyl); have f1 := r1.frozenAt k)
       have R := r1.stored k (.string ⟨(mkS (c + k)).toArray⟩)
       rw [strsV_set] at R
       go_roundw
       case rel => exact ⟨k + 1, _, by omega, by go_num, by go_num, ⟨by rw [List.length_set]; exact hys.out.1, by rw [take_set _ _ _ hyl, hys.out.2, marksC_succ]⟩, R.1, (hbel.trans (Out.of_below hb1)).trans (Out.set (by simp [Value.ownBlock]) _ _ _)⟩
       case measure => simp [intOf]; omega
     · obtain rfl : k = n := by omega
       have hf : ys = marksC c k := by have h := hys.out; rw [List.take_of_length_le (by omega)] at h; exact h.2
       rw [hf] at hown
       clear hys
       go_wp2
       go_ret
       exact ⟨rfl, hbel, hown⟩
set_option maxHeartbeats 1000000 in
theorem heldS_from (c n : Nat) (a : Value) (w : World) (hc : 0 < c ∧ c ≤ 1000000000) (hl : n ≤ 1000000) (ha : w.ownsRow 0 9 1 a n (strsV (marksC c n))) :
   Calls Tryz.prog 12 #[a, .int .i64 (c : Int)] w fun e w' => e = .returned (.int .i64 ((c + n : Nat) : Int)) ∧ Below w.heap.size w w' := by
 by_cases h0 : n = 0
 · subst h0
   rcases ha.2 with ⟨rfl, _⟩ | ⟨g, cap, cur, rfl, _⟩
   all_goals
     clear ha
     go_enter Tryz.func12, Tryz.ntmps12
     go_wp2
     refine wp_loop_rounds 1 ?_
     rw [rounds_succ]
     go_wp2
     go_ret
     exact ⟨rfl, Below.refl _ _⟩
 · have ha' := ha
   rcases ha.2 with ⟨rfl, hz⟩ | ⟨g, cap, cur, rfl, _⟩
   · omega
   clear ha
   go_enter Tryz.func12, Tryz.ntmps12
   go_wp2
   go_loopw [1, 5] (fun vk i wr => ∃ (k : Nat), k ≤ n ∧ i = .int .i64 k ∧ vk = .int .i64 ((c + k : Nat) : Int) ∧ Below w.heap.size w wr) (fun _ i _ => n - (intOf i).toNat)
   case atStart => exact ⟨0, Nat.zero_le _, rfl, rfl, Below.refl _ _⟩
   case round =>
     obtain ⟨k, hk, rfl, rfl, hbel⟩ := hrel
     have hsz := hbel.size
     have ra := owns_below ha' hbel
     by_cases hlt : k < n
     · have hc : ∀ u : World, (later wr u).cell? ⟨g, k, none⟩ = some (.string ⟨(mkS (c + k)).toArray⟩) := by
         intro u
         refine ((owns_below ra (later_below wr u)).cellAt k (by omega)).trans ?_
         rw [strsV_get _ _ (by rw [marksC_len]; exact hlt)]
         have := marksC_get c n k hlt
         rw [List.getElem?_eq_getElem (by rw [marksC_len]; exact hlt)] at this
         rw [Option.some.inj this]
       clear ra
       go_wp2
       refine wp_region_later (by kernel_rfl) (by kernel_rfl) ?_
       repeat (go_big_quiet_step ((go_at_call 22; exact Calls.later_of_below (mark_nat (c + k) _ (by omega) (by omega)))))
       refine wpQuiet_nil ?_
       rintro _ ⟨u, rfl⟩
       have hb2 := later_below wr u
       clear hc
       go_wp2
       go_roundw
       case rel => exact ⟨k + 1, by omega, by go_num, by go_num, hbel.trans (hb2.mono hsz)⟩
       case measure => simp [intOf]; omega
     · clear ra
       obtain rfl : k = n := by omega
       go_wp2
       go_ret
       exact ⟨rfl, hbel⟩
end Go.Proofs.YtbkjcccbjnehbanGreatDoor

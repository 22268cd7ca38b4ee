/- FnExactReadTerm answers true at every text: the code's ReadTerm reads the term and the names that the specification's reads, and its answer owns its memory. No condition but what the row itself lays (the two tables of unicode/utf8). -/
import Derived.Test.YtbkjcccbjnehbanGreatDoorCards
import Derived.Test.YtbkjcccbjnehbanGreatDoorTie
import Derived.Test.YtbkjcccbjnehbanGreatDoorMj2
import Derived.Test.YtbkjcccbjnehbanGreatDoorUtf
import Derived.Lib.LaidU8T
import Derived.Carry
import Derived.ChangeOld
import Derived.ChangeMaps
import Derived.ShutString
import Derived.OpenShut
import Derived.Below
import Derived.Deep.DeepHandedRow
import Derived.Lib.LaidTab
import Derived.Stop.LaidErr
namespace Go.Proofs.YtbkjcccbjnehbanGreatDoor.fnExactReadTerm
open Go.ChangeShapes Go.WideShapes Go.ChangeAt Go.RowKit
open Go.ChangeMaps (open_string shut_string)

/-- names as texts -/
def strsOf (ns : List ByteArray) : List (List UInt8) := ns.map fun s => s.data.toList
theorem strsOf_len (ns : List ByteArray) : (strsOf ns).length = ns.length := by simp [strsOf]
theorem NRow.strs {w : World} {B : Nat} {ns : List ByteArray} {v : Value} (h : NRow w B ns v) : w.ownsRow B 9 1 v (strsOf ns).length (strsV (strsOf ns)) := by
  have e : strsV (strsOf ns) = ns.map Value.string := by
    unfold strsV strsOf
    rw [List.map_map]
    apply List.map_congr_left
    intro s _
    show Value.string ⟨s.data.toList.toArray⟩ = Value.string s
    rw [Array.toArray_toList]
  rw [e, strsOf_len]
  exact h
theorem rtT_n (t : ByteArray) : ns (rtT (rtR t)).kids ≤ 400 := by
  have key : (rtT (rtR t)).n ≤ 400 := by
    unfold rtR
    split
    · exact rsR_n _ _
    · simp [rtT, noTm, Tm.n, Tm.n.ns]
  generalize rtT (rtR t) = T at *
  obtain ⟨k, s, n, ks⟩ := T
  rw [n_mk] at key
  show ns ks ≤ 400
  omega

theorem nrow_lt {w : World} {B : Nat} {ns : List ByteArray} {v : Value} (h : NRow w B ns v) : ∀ b, v.ownBlock = some b → b < w.heap.size := fun b hb => (h.lt b hb).2

set_option maxHeartbeats 8000000 in
set_option maxRecDepth 20000 in
theorem walk (s : ByteArray) (m : s.size ≤ maxLen) (w : World) (hT : Lib.Utf8Tabs 0 1 w) :
    Calls Tryz.prog 3 #[.string s] w fun e w' => e = .returned (.bool true) ∧ Below w.heap.size w w' := by
  unfold maxLen at m
  by_cases hs : s.size ≤ 1048576
  · have HSP : Hid (Calls Tryz.prog 5 #[.string s] w (RtOut (rtR s) w)) := s_readTerm s w
    have HIM : Hid (∀ w1, Below w.heap.size w w1 → Calls Tryz.prog 6 #[.string s] w1 (RtOutI (rtR s) w1)) := fun w1 h => i_readTerm s w1 (tabs_keep hT h)
    have hnk := rtT_n s
    unfold RtOut at HSP
    unfold RtOutI at HIM
    obtain ⟨T, hTT⟩ : ∃ T, T = rtT (rtR s) := ⟨_, rfl⟩
    obtain ⟨NS, hNS⟩ : ∃ NS, NS = rtN (rtR s) := ⟨_, rfl⟩
    obtain ⟨bb, hbb⟩ : ∃ bb, bb = (rtR s).isSome := ⟨_, rfl⟩
    rw [← hTT, ← hNS, ← hbb] at HSP HIM
    rw [← hTT] at hnk
    obtain ⟨KN, hKN⟩ : ∃ KN, KN = NS.length := ⟨_, rfl⟩
    have HKN : Hid (NS.length = KN) := hKN.symm
    have HNK : Hid (ns T.kids ≤ 400) := hnk
    have HXL : Hid ((strsOf NS).length = KN) := by rw [strsOf_len]; exact hKN.symm
    clear hT hTT hNS hbb hKN hnk
    have hbb : (bb != bb) = false := by simp
    go_enter Tryz.func3, Tryz.ntmps3
    go_upto_region 4 with (go_at_call 5; refine (Calls.mono HSP.out ?_); rintro e w1 ⟨tv, nv, F, rfl, ht, hnr, hb⟩; obtain ⟨k1, s1, n1, ao1, ln1, cp1, rfl⟩ := ht.form; have HT1 : Hid (TmIn w1 T (.agg #[.int .i64 k1, .string s1, .int .i64 n1, .slice ao1 ln1 cp1])) := Own.toIn _ _ _ ht.own; have HN1 : Hid (NRow w1 w.heap.size NS nv) := hnr; have HB1 : Hid (Below w.heap.size w w1) := hb; obtain ⟨an1, cn1, rfl, _⟩ := hnr.cells; rw [HKN.out] at HN1 ⊢; clear ht hnr hb)
    obtain ⟨W1, hW1⟩ : ∃ W1, W1 = w1.alloc (.cells #[.int .i64 k1, .string s1, .int .i64 n1, .slice ao1 ln1 cp1] 24) := ⟨_, rfl⟩
    rw [← hW1]
    have b1 : Below w1.heap.size w1 W1 := by rw [hW1]; exact (Below.refl _ _).alloc (Nat.le_refl _) _
    have kp3 : W1.heap[w1.heap.size]? = some (.cells #[.int .i64 k1, .string s1, .int .i64 n1, .slice ao1 ln1 cp1] 24 (0, 0)) := by rw [hW1]; exact heap_alloc_new _ _
    obtain ⟨P3, hP3⟩ : ∃ P3, P3 = w1.heap.size := ⟨_, rfl⟩
    rw [← hP3] at kp3 ⊢
    have HW1 : Hid (Below w.heap.size w W1) := HB1.out.trans (b1.mono HB1.out.size)
    have HKP3 : Hid (W1.heap[P3]? = _) := kp3
    have HTW1 : Hid (TmIn W1 T (.agg #[.int .i64 k1, .string s1, .int .i64 n1, .slice ao1 ln1 cp1])) := TmIn.keep b1 _ _ HT1.out
    have HNW1 : Hid (NRow W1 w.heap.size NS (.slice an1 KN cn1)) := nrow_keep HN1.out b1
    clear hW1 b1 kp3 hP3 HT1 HN1 HB1 HSP
    have HC1 : Hid _ := HIM.out W1 HW1.out
    go_upto_region 5 with (go_at_call 6; refine (Calls.mono HC1.out ?_); rintro e w2 ⟨tv, nv, F, rfl, ht, hnr, hdj, hnl, hb⟩; obtain ⟨k2, s2, n2, ao2, ln2, cp2, rfl⟩ := ht.form; have HT2 : Hid (TOk 24 (fun _ => False) W1.heap.size w2 T (.agg #[.int .i64 k2, .string s2, .int .i64 n2, .slice ao2 ln2 cp2]) F) := ht; have HN2 : Hid (NRow w2 W1.heap.size NS nv) := hnr; have HD2 : Hid (∀ b, nv.ownBlock = some b → b ∉ F) := hdj; have HNL : Hid (NS.length ≤ 3000) := hnl; have HB2 : Hid (Below W1.heap.size W1 w2) := hb; obtain ⟨an2, cn2, rfl, _⟩ := hnr.cells; rw [HKN.out] at HN2 HD2 ⊢; clear ht hnr hdj hnl hb)
    clear HC1
    obtain ⟨W2, hW2⟩ : ∃ W2, W2 = w2.alloc (.cells #[.int .i64 k2, .string s2, .int .i64 n2, .slice ao2 ln2 cp2] 24) := ⟨_, rfl⟩
    rw [← hW2]
    have b2 : Below w2.heap.size w2 W2 := by rw [hW2]; exact (Below.refl _ _).alloc (Nat.le_refl _) _
    have kp6 : W2.heap[w2.heap.size]? = some (.cells #[.int .i64 k2, .string s2, .int .i64 n2, .slice ao2 ln2 cp2] 24 (0, 0)) := by rw [hW2]; exact heap_alloc_new _ _
    obtain ⟨P6, hP6⟩ : ∃ P6, P6 = w2.heap.size := ⟨_, rfl⟩
    rw [← hP6] at kp6 ⊢
    have hb12 : Below W1.heap.size W1 W2 := HB2.out.trans (b2.mono HB2.out.size)
    have HOW2 : Hid (Own 24 W2 T (.agg #[.int .i64 k2, .string s2, .int .i64 n2, .slice ao2 ln2 cp2]) F) := Own.keep _ _ _ HT2.out.own fun f hf => b2.block f (HT2.out.lt f hf)
    have HNW2 : Hid (NRow W2 W1.heap.size NS (.slice an2 KN cn2)) := nrow_keep HN2.out b2
    obtain ⟨NB, hNB⟩ : ∃ NB, NB = (Value.slice an2 KN cn2).ownBlock.toList := ⟨_, rfl⟩
    have hnb : ∀ b ∈ NB, W1.heap.size ≤ b ∧ b < P6 ∧ b ∉ F := fun b hb => by
      rw [hNB] at hb
      have hb' : (Value.slice an2 KN cn2).ownBlock = some b := by simpa using hb
      have := HN2.out.lt b hb'
      exact ⟨this.1, by omega, HD2.out b hb'⟩
    have HNB : Hid (NB = (Value.slice an2 KN cn2).ownBlock.toList ∧ ∀ b ∈ NB, b ∉ F) := ⟨hNB, fun b hb => (hnb b hb).2.2⟩
    have hff : ∀ f ∈ F, W1.heap.size ≤ f ∧ f < P6 := fun f hf => ⟨(HT2.out.out f hf).1, by have := HT2.out.lt f hf; omega⟩
    have HND : Hid F.Nodup := HT2.out.nd
    have hs1 := HB2.out.size
    have HALL : Hid (∀ w', Out (F ++ NB) W2 w' → Below w.heap.size w w' ∧ (w'.cell? ⟨P3, 0, none⟩ = some (.int .i64 k1) ∧ w'.cell? ⟨P3, 1, none⟩ = some (.string s1) ∧ w'.cell? ⟨P3, 2, none⟩ = some (.int .i64 n1) ∧ w'.cell? ⟨P3, 3, none⟩ = some (.slice ao1 ln1 cp1)) ∧ (w'.cell? ⟨P6, 0, none⟩ = some (.int .i64 k2) ∧ w'.cell? ⟨P6, 1, none⟩ = some (.string s2) ∧ w'.cell? ⟨P6, 2, none⟩ = some (.int .i64 n2) ∧ w'.cell? ⟨P6, 3, none⟩ = some (.slice ao2 ln2 cp2)) ∧
        TmIn w' T (.agg #[.int .i64 k1, .string s1, .int .i64 n1, .slice ao1 ln1 cp1]) ∧ NRow w' w.heap.size NS (.slice an1 KN cn1)) := fun w' hu => by
      have hb' : Below W1.heap.size W1 w' := hb12.trans (hu.below (fun f hf => by
        rcases List.mem_append.1 hf with hf | hf
        · exact (hff f hf).1
        · exact (hnb f hf).1) hb12.size)
      have hn6 : P6 ∉ F ++ NB := fun hf => by
        rcases List.mem_append.1 hf with hf | hf
        · have := (hff _ hf).2; omega
        · have := (hnb _ hf).2.1; omega
      obtain ⟨a0, a1, a2, a3, _⟩ := blk4 ((hb'.block P3 (Array.getElem?_eq_some_iff.1 HKP3.out).1).trans HKP3.out)
      obtain ⟨c0, c1, c2, c3, _⟩ := blk4 ((hu.block P6 (Array.getElem?_eq_some_iff.1 kp6).1 hn6).trans kp6)
      exact ⟨HW1.out.trans (hb'.mono HW1.out.size), ⟨a0, a1, a2, a3⟩, ⟨c0, c1, c2, c3⟩, TmIn.keep hb' _ _ HTW1.out, nrow_keep HNW1.out hb'⟩
    clear hW2 b2 kp6 hP6 hb12 hNB hnb hff hs1 HT2 HN2 HD2 HB2 HKP3 HTW1 HNW1
    have HEQ : Hid (∀ w' kk ss nn aa ll cc, TmIn w' T (.agg #[.int .i64 kk, .string ss, .int .i64 nn, .slice aa ll cc]) → TmIn w' T (.agg #[.int .i64 k1, .string s1, .int .i64 n1, .slice ao1 ln1 cp1]) → Calls Tryz.prog 7 #[.agg #[.int .i64 kk, .string ss, .int .i64 nn, .slice aa ll cc], .agg #[.int .i64 k1, .string s1, .int .i64 n1, .slice ao1 ln1 cp1]] w' fun e w2 => e = .returned (.bool true) ∧ Below w'.heap.size w' w2) := fun w' kk ss nn aa ll cc h1 h2 => eq_term T w' _ _ h1 h2
    have HES : Hid (∀ w' a c B, NRow w' B NS (.slice a KN c) → NRow w' w.heap.size NS (.slice an1 KN cn1) → Calls Tryz.prog 8 #[.slice a KN c, .slice an1 KN cn1] w' fun e w2 => e = .returned (.bool true) ∧ Below w'.heap.size w' w2) := fun w' a c B h1 h2 => eqS_same (strsOf NS) _ _ w' (by have := HNL.out; rw [strsOf_len]; omega) (owns_base (NRow.strs h1) (Nat.zero_le _)) (owns_base (NRow.strs h2) (Nat.zero_le _))
    -- g is w
    obtain ⟨q1, ⟨a0, a1, a2, a3⟩, ⟨c0, c1, c2, c3⟩, q4, q5⟩ := HALL.out W2 (Out.refl _ _)
    have HE : Hid _ := HEQ.out W2 _ _ _ _ _ _ (Own.toIn _ _ _ HOW2.out) q4
    clear q1 q4 q5
    go_upto_region 8 with (first
      | (go_at_call 7; refine (Calls.mono HE.out ?_); rintro e w3 ⟨rfl, hb⟩; have HB3 : Hid (Below W2.heap.size W2 w3) := hb; have HE2 : Hid _ := HES.out w3 an2 cn2 _ (nrow_keep HNW2.out hb) (HALL.out w3 (Out.of_below hb)).2.2.2.2; clear hb)
      | (go_at_call 8; refine (Calls.mono HE2.out ?_); rintro e w4 ⟨rfl, hb⟩; have HB4 : Hid (Below W2.heap.size W2 w4) := HB3.out.trans (hb.mono HB3.out.size); clear hb))
    clear HE HE2 HB3 a0 a1 a2 a3 c0 c1 c2 c3
    obtain ⟨C, hC⟩ : ∃ C, C = 1 + 3 * ns T.kids := ⟨_, rfl⟩
    obtain ⟨D, hD⟩ : ∃ D, D = C + KN := ⟨_, rfl⟩
    have hC0 : 0 < C ∧ C ≤ 1000000000 := by have := HNK.out; omega
    have hK3 : KN ≤ 3000 := by have := HNL.out; have := HKN.out; omega
    have HMK : Hid (∀ w', Own 24 w' T (.agg #[.int .i64 k2, .string s2, .int .i64 n2, .slice ao2 ln2 cp2]) F → Calls Tryz.prog 9 #[(.agg #[.int .i64 k2, .string s2, .int .i64 n2, .slice ao2 ln2 cp2]), .int .i64 ((1 : Nat) : Int)] w' fun e w2 => e = .returned (.int .i64 (C : Int)) ∧ Own 24 w2 (T.markK 1) (.agg #[.int .i64 k2, .string s2, .int .i64 n2, .slice ao2 ln2 cp2]) F ∧ Out F w' w2) := fun w' h => by
      rw [hC]; exact mark_term T w' _ F 1 h HND.out (by omega) (by have := HNK.out; omega)
    have HHK : Hid (∀ w', TmIn w' (T.markK 1) (.agg #[.int .i64 k2, .string s2, .int .i64 n2, .slice ao2 ln2 cp2]) → Calls Tryz.prog 11 #[(.agg #[.int .i64 k2, .string s2, .int .i64 n2, .slice ao2 ln2 cp2]), .int .i64 ((1 : Nat) : Int)] w' fun e w2 => e = .returned (.int .i64 (C : Int)) ∧ Below w'.heap.size w' w2) := fun w' h => by
      rw [hC]; exact held_term T w' _ 1 h (by omega) (by have := HNK.out; omega)
    have HMS : Hid (∀ w', NRow w' W1.heap.size NS (.slice an2 KN cn2) → Calls Tryz.prog 10 #[.slice an2 KN cn2, .int .i64 (C : Int)] w' fun e w2 => e = .returned (.int .i64 (D : Int)) ∧ Out NB w' w2 ∧ w2.ownsRow W1.heap.size 9 1 (.slice an2 KN cn2) KN (strsV (marksC C KN))) := fun w' h => by
      have := markS_from C W1.heap.size (strsOf NS) (.slice an2 KN cn2) w' hC0 (by rw [HXL.out]; omega) (NRow.strs h)
      rw [HXL.out, ← hD, ← HNB.out.1] at this
      exact this
    have HHS : Hid (∀ w', w'.ownsRow W1.heap.size 9 1 (.slice an2 KN cn2) KN (strsV (marksC C KN)) → Calls Tryz.prog 12 #[.slice an2 KN cn2, .int .i64 (C : Int)] w' fun e w2 => e = .returned (.int .i64 (D : Int)) ∧ Below w'.heap.size w' w2) := fun w' h => by
      rw [hD]; exact heldS_from C KN _ w' hC0 (by omega) (owns_base h (Nat.zero_le _))
    have hnC : ¬ (C : Int) < 0 := by omega
    have hnD : ¬ (D : Int) < 0 := by omega
    have hqd : ((D : Int) != (D : Int)) = false := by simp
    clear hC hD hC0 hK3
    -- marks
    obtain ⟨q1, ⟨a0, a1, a2, a3⟩, ⟨c0, c1, c2, c3⟩, q4, q5⟩ := HALL.out w4 (Out.of_below HB4.out)
    have HE : Hid _ := HMK.out w4 (Own.keep _ _ _ HOW2.out fun f hf => HB4.out.block f (Own.lt _ _ _ HOW2.out f hf))
    clear q1 q4 q5
    go_upto_region 9 with (go_at_call 9; refine (Calls.mono HE.out ?_); rintro e w5 ⟨rfl, ho, hu⟩; have HO5 : Hid (Own 24 w5 (T.markK 1) (.agg #[.int .i64 k2, .string s2, .int .i64 n2, .slice ao2 ln2 cp2]) F) := ho; have HU5 : Hid (Out F w4 w5) := hu; clear ho hu)
    clear HE a0 a1 a2 a3 c0 c1 c2 c3
    have hNR5 : NRow w5 W1.heap.size NS (.slice an2 KN cn2) := NRow.turn (nrow_keep HNW2.out HB4.out) fun b hb => HU5.out.block b (nrow_lt (nrow_keep HNW2.out HB4.out) b hb) (HNB.out.2 b (by rw [HNB.out.1]; simpa using hb))
    have HE : Hid _ := HMS.out w5 hNR5
    clear hNR5
    go_upto_region 11 with (go_at_call 10; refine (Calls.mono HE.out ?_); rintro e w6 ⟨rfl, hu, hr⟩; have HR6 : Hid (w6.ownsRow W1.heap.size 9 1 (.slice an2 KN cn2) KN (strsV (marksC C KN))) := hr; have HU6 : Hid (Out NB w5 w6) := hu; clear hu hr)
    clear HE
    have HO6 : Hid (Own 24 w6 (T.markK 1) (.agg #[.int .i64 k2, .string s2, .int .i64 n2, .slice ao2 ln2 cp2]) F) := Own.keep _ _ _ HO5.out fun f hf => HU6.out.block f (Own.lt _ _ _ HO5.out f hf) (fun hb => HNB.out.2 f hb hf)
    have HU26 : Hid (Out (F ++ NB) W2 w6) := (Out.of_below HB4.out).trans ((HU5.out.mono fun f hf => List.mem_append_left _ hf).trans (HU6.out.mono fun f hf => List.mem_append_right _ hf))
    clear HO5 HU5 HU6 HB4 HMK HMS HOW2 HNW2
    -- held
    obtain ⟨q1, ⟨a0, a1, a2, a3⟩, ⟨c0, c1, c2, c3⟩, q4, q5⟩ := HALL.out w6 HU26.out
    have HE : Hid _ := HHK.out w6 (Own.toIn _ _ _ HO6.out)
    clear q1 q4 q5
    go_upto_region 14 with (go_at_call 11; refine (Calls.mono HE.out ?_); rintro e w7 ⟨rfl, hb⟩; have HB7 : Hid (Below w6.heap.size w6 w7) := hb; clear hb)
    clear HE a0 a1 a2 a3 c0 c1 c2 c3
    have HE : Hid _ := HHS.out w7 (owns_below HR6.out HB7.out)
    go_upto_region 19 with (go_at_call 12; refine (Calls.mono HE.out ?_); rintro e w8 ⟨rfl, hb⟩; have HB8 : Hid (Below w6.heap.size w6 w8) := HB7.out.trans (hb.mono HB7.out.size); clear hb)
    clear HE HB7
    -- the second call
    have HE : Hid _ := HIM.out w8 (HALL.out w8 (HU26.out.trans (Out.of_below HB8.out))).1
    go_upto_region 20 with (go_at_call 6; refine (Calls.mono HE.out ?_); rintro e w9 ⟨tv, nv, F9, rfl, ht, hnr, _, _, hb⟩; obtain ⟨k3, s3, n3, ao3, ln3, cp3, rfl⟩ := ht.form; have HT9 : Hid (TmIn w9 T (.agg #[.int .i64 k3, .string s3, .int .i64 n3, .slice ao3 ln3 cp3])) := Own.toIn _ _ _ ht.own; have HN9 : Hid (NRow w9 w8.heap.size NS nv) := hnr; have HB9 : Hid (Below w8.heap.size w8 w9) := hb; obtain ⟨an3, cn3, rfl, _⟩ := hnr.cells; rw [HKN.out] at HN9 ⊢; clear ht hnr hb)
    clear HE HIM
    obtain ⟨W9, hW9⟩ : ∃ W9, W9 = w9.alloc (.cells #[.int .i64 k3, .string s3, .int .i64 n3, .slice ao3 ln3 cp3] 24) := ⟨_, rfl⟩
    rw [← hW9]
    have b9 : Below w9.heap.size w9 W9 := by rw [hW9]; exact (Below.refl _ _).alloc (Nat.le_refl _) _
    have kp9 : W9.heap[w9.heap.size]? = some (.cells #[.int .i64 k3, .string s3, .int .i64 n3, .slice ao3 ln3 cp3] 24 (0, 0)) := by rw [hW9]; exact heap_alloc_new _ _
    obtain ⟨P9, hP9⟩ : ∃ P9, P9 = w9.heap.size := ⟨_, rfl⟩
    rw [← hP9] at kp9 ⊢
    have HU9 : Hid (Below w6.heap.size w6 W9) := HB8.out.trans ((HB9.out.trans (b9.mono HB9.out.size)).mono HB8.out.size)
    have HT9' : Hid (TmIn W9 T (.agg #[.int .i64 k3, .string s3, .int .i64 n3, .slice ao3 ln3 cp3])) := TmIn.keep b9 _ _ HT9.out
    have HN9' : Hid (NRow W9 w8.heap.size NS (.slice an3 KN cn3)) := nrow_keep HN9.out b9
    obtain ⟨d0, d1, d2, d3, _⟩ := blk4 kp9
    clear hW9 b9 kp9 hP9 HT9 HN9 HB9
    obtain ⟨q1, ⟨a0, a1, a2, a3⟩, ⟨c0, c1, c2, c3⟩, q4, q5⟩ := HALL.out W9 (HU26.out.trans (Out.of_below HU9.out))
    have HE : Hid _ := HEQ.out W9 _ _ _ _ _ _ HT9'.out q4
    clear q1 q4 q5
    go_upto_region 22 with (first
      | (go_at_call 7; refine (Calls.mono HE.out ?_); rintro e w10 ⟨rfl, hb⟩; have HB10 : Hid (Below W9.heap.size W9 w10) := hb; have HE2 : Hid _ := HES.out w10 an3 cn3 _ (nrow_keep HN9'.out hb) (HALL.out w10 (HU26.out.trans (Out.of_below (HU9.out.trans (hb.mono HU9.out.size))))).2.2.2.2; clear hb)
      | (go_at_call 8; refine (Calls.mono HE2.out ?_); rintro e w11 ⟨rfl, hb⟩; have HB11 : Hid (Below w6.heap.size w6 w11) := HU9.out.trans ((HB10.out.trans (hb.mono HB10.out.size)).mono HU9.out.size); clear hb))
    clear HE HE2 HB10 a0 a1 a2 a3 c0 c1 c2 c3 d0 d1 d2 d3 HT9' HN9'
    obtain ⟨q1, ⟨a0, a1, a2, a3⟩, ⟨c0, c1, c2, c3⟩, q4, q5⟩ := HALL.out w11 (HU26.out.trans (Out.of_below HB11.out))
    have HE : Hid _ := HHK.out w11 (Own.toIn _ _ _ (Own.keep _ _ _ HO6.out fun f hf => HB11.out.block f (Own.lt _ _ _ HO6.out f hf)))
    clear q1 q4 q5
    go_upto_region 25 with (go_at_call 11; refine (Calls.mono HE.out ?_); rintro e w12 ⟨rfl, hb⟩; have HB12 : Hid (Below w6.heap.size w6 w12) := HB11.out.trans (hb.mono HB11.out.size); clear hb)
    clear HE a0 a1 a2 a3 c0 c1 c2 c3
    have HE : Hid _ := HHS.out w12 (owns_below HR6.out HB12.out)
    go_wp2_with (go_at_call 12; refine (Calls.mono HE.out ?_); rintro e w13 ⟨rfl, hb⟩; have HB13 : Hid (Below w6.heap.size w6 w13) := HB12.out.trans (hb.mono HB12.out.size); clear hb)
    go_ret
    exact ⟨rfl, (HALL.out w13 (HU26.out.trans (Out.of_below HB13.out))).1⟩
  · go_enter Tryz.func3, Tryz.ntmps3
    go_wp2
    go_ret
    exact ⟨rfl, Below.refl _ _⟩

theorem own : ownKnob Tryz.prog.godebug = none := by kernel_rfl
theorem types8 : U8Types Tryz.prog sh_lays197_ren := { sh_lays197 with }
theorem extra8 : U8Extra Tryz.prog sh_lays197_ren := ⟨by kernel_rfl, by kernel_rfl, by kernel_rfl, by kernel_rfl, by kernel_rfl, by kernel_rfl, by kernel_rfl⟩
theorem firstIs : Rows.laid_unicode_utf8_first = Lib.firstData := by kernel_rfl
theorem acceptIs : Rows.laid_unicode_utf8_acceptRanges = Lib.acceptData := by kernel_rfl
theorem table {W : World} (h : laidMetH Tryz.prog Rows.fnExactReadTermRow.laid W) : Lib.Utf8Tabs 0 1 W := by
  have h1 : laidMet Tryz.prog [("unicode/utf8.acceptRanges", Rows.laid_unicode_utf8_acceptRanges), ("unicode/utf8.first", Rows.laid_unicode_utf8_first)] W := h
  rw [firstIs, acceptIs] at h1
  exact utf8Tabs_of_readsT types8 extra8 (Lib.laidMet.reads h1 (by simp)) (Lib.laidMet.reads h1 (by simp))

/-- the cells that a table lays -/
def litCells : DataW Unit → Array Value
  | .agg parts => (parts.flatMap fun
    | .lit (.int k z) => [Value.int k z]
    | .agg qs => qs.map fun
      | .lit (.int k z) => Value.int k z
      | _ => Value.bool false
    | _ => [Value.bool false]).toArray
  | _ => #[]
def setTab (cs : Array Value) : Obj → Obj
  | .cells _ t frozen => .cells cs t frozen
  | o => o

set_option maxRecDepth 20000 in
theorem contract (H : Type) (enc : TypeId × Value → H) (W : World) (base : Nat) (args : Array Value) (ds gs : List (DataW H)) (before : List MemPlace)
    (hval : ∀ (j : Nat) t v, Tryz.f3.params[j]? = some t → args[j]? = some v → Value.okWide Tryz.prog W .any base t v)
    (hW : DataW.Whole enc Tryz.prog Tryz.f3.params.toList Rows.fnExactReadTermSpec.vars false W args.toList ds gs before) (hL : laidMetH Tryz.prog Rows.fnExactReadTermRow.laid W) :
    Calls Tryz.prog 3 args W fun e W' => ∃ v, e = .returned v ∧ Rows.fnExactReadTermSpec.post enc Tryz.prog Tryz.f3 false true false false W args v W' := by
  have hW' := hW
  obtain ⟨p, q, hA0, hV, rfl, hfz, hnd⟩ := hW
  have hA : DataW.TrodAll enc Tryz.prog W 0 (fun _ => true) true Tryz.f3.params.toList args.toList ds p := hA0
  rw [Tryz.params3] at hA hval
  obtain ⟨v0, vs0, d0, ds0, p0, q0, hargs, rfl, rfl, h0, r0⟩ := trodAll_cons hA
  obtain ⟨rfl, rfl, rfl⟩ := trodAll_nil r0
  obtain rfl : args = #[v0] := by cases args; simp_all
  obtain ⟨rfl, rfl⟩ := trodVars_none hV
  obtain ⟨s0, rfl, rfl, rfl, m0⟩ := open_string Tryz.underlying9 (hval 0 9 v0 rfl rfl) h0
  clear hA0
  simp only [List.append_nil] at hW'
  refine (walk s0 m0 W (table hL)).mono fun e W' ⟨he, bel⟩ => ?_
  subst he
  exact ⟨_, rfl, _, _, _, [], _, [], hW', trodAll_mk1 (shut_bool Tryz.underlying4 _), (trodAll_cons_mk (shut_string Tryz.underlying9 m0) trodAll_mk0), rfl, bel.frame _, fun h => by cases h⟩

/-- a world for the witness: the settled one, the two tables holding what their initialisers lay -/
noncomputable def laidWorld (os : Os) : World :=
  { World.holding Tryz.prog os ⟨#[], #[], []⟩ with heap := ((World.holding Tryz.prog os ⟨#[], #[], []⟩).heap.modify 1 (setTab (litCells Rows.laid_unicode_utf8_acceptRanges))).modify 0 (setTab (litCells Rows.laid_unicode_utf8_first)) }
set_option maxRecDepth 20000 in
theorem laid_met (os : Os) : laidMet Tryz.prog Rows.fnExactReadTermRow.laid ((laidWorld os).forCall (fun _ _ => 0) ⟨#[], #[.string ⟨#[]⟩], []⟩).memory :=
  laidMet_of_run' 8 (by kernel_rfl) (by kernel_rfl)
set_option maxRecDepth 20000 in
theorem reads (os : Os) {H : Type} (enc : TypeId × Value → H) : ∃ places, DataW.whole enc Tryz.prog ((laidWorld os).forCall (fun _ _ => 0) ⟨#[], #[.string ⟨#[]⟩], []⟩).memory Tryz.f3.params.toList Rows.fnExactReadTermSpec.vars false #[Value.string ⟨#[]⟩].toList 8 = some ([.lit (.string [])], [], places) :=
  ⟨[], by kernel_rfl⟩

set_option maxRecDepth 100000 in
theorem lifted (os : Os) (started : os.Started) (H : Type) (enc : TypeId × Value → H) (F : Stop.Interp) :
    ReturnsInHanded {} Tryz.checked os 3 .any ((OpenSpec.ofChange Rows.fnExactReadTermSpec).preRow enc Tryz.prog Tryz.f3 Rows.fnExactReadTermRow.domain false Rows.fnExactReadTermRow.laid) (((OpenSpec.ofChange Rows.fnExactReadTermSpec).at F).post enc Tryz.prog Tryz.f3 false true false false) := by
  obtain ⟨places, hx⟩ := reads os enc
  refine returnsInHanded_of_row (C := Tryz.checked) (s := OpenSpec.ofChange Rows.fnExactReadTermSpec) own started (by kernel_rfl) Tryz.func3
    (witness_row_at (enc := enc) (C := Tryz.checked) false (laidWorld os) #[.string ⟨#[]⟩] rfl (by kernel_rfl) (by kernel_rfl) (by kernel_rfl)
      (OpenSpec.preRow_of_cond 8 hx (by kernel_rfl) (fun k hk => by cases hk) (by kernel_rfl) (laid_met os))) ?_
  intro W base args ds gs before hval hW _ _ _ hL _ _
  exact contract H enc W base args ds gs before hval hW hL

theorem said : Rows.FnExactReadTermSaid :=
  OpenClaim.holds_of_cond 3 Tryz.f3 rfl rfl rfl rfl rfl rfl rfl ⟨rfl, rfl, rfl, rfl, rfl⟩ rfl rfl rfl rfl rfl (by kernel_rfl) Tryz.func3 (by kernel_rfl)
    (of_decide_eq_true (by kernel_rfl)) (by unfold Func.isWrapper; first | (rw [if_pos (by decide +kernel)]; kernel_rfl) | (rw [if_neg (by decide +kernel)]; exact ⟨rfl, rfl⟩))
    (fun os started H enc _ F => by rw [OpenClaim.pre_eq_preRow]; exact lifted os started H enc F)

theorem plain (f : FuncId) (fn : Func) (hf : Tryz.pinned.checked.prog.funcNamed "loop.example/g00469/laws.FnExactReadTerm" = some f) (hfn : Tryz.pinned.checked.prog.funcs[f]? = some fn) :
    true = Tryz.pinned.checked.prog.looks [] ∧ ∀ (j : Nat) t, fn.params[j]? = some t → Tryz.pinned.checked.prog.wantsStandIn t = false := by
  obtain rfl : f = 3 := Option.some.inj ((show Tryz.prog.funcNamed "loop.example/g00469/laws.FnExactReadTerm" = some 3 by kernel_rfl).symm.trans hf) |>.symm
  obtain rfl : fn = Tryz.f3 := (Option.some.inj (Tryz.func3.symm.trans hfn)).symm
  refine ⟨by kernel_rfl, fun j t ht => ?_⟩
  rw [Tryz.params3] at ht
  obtain rfl : t = 9 := by simpa using Array.mem_of_getElem? ht
  exact (show Tryz.prog.wantsStandIn 9 = false by kernel_rfl)

theorem proved : Rows.FnExactReadTermCardSaid :=
  Claim7.holds_tied_plain_at .later [] _ _ _ _ said (fun _ h => by cases h) (by kernel_rfl) (fun _ h => by cases h) fnExactReadTerm_row_tie rfl ⟨rfl, rfl⟩ (by kernel_rfl) rfl plain (by kernel_rfl)
#print axioms proved
end Go.Proofs.YtbkjcccbjnehbanGreatDoor.fnExactReadTerm

import Derived.Test.YtbkjcccbjnehbanGreatDoorMh23
import Derived.Test.YtbkjcccbjnehbanGreatDoorMh21
import Derived.Test.YtbkjcccbjnehbanGreatDoorMh1
import Derived.Laws.Rows
import Derived.Laws.NewBlocks
import Derived.Deep.DeepCutAuto
namespace Go.Proofs.YtbkjcccbjnehbanGreatDoor
open Go.RowKit
theorem c_run (t : ByteArray) (i : Nat) (hi : i ≤ t.size) (hs : (t.size : Int) ≤ 3000) (w : World) :
   Calls Tryz.prog 36 #[.string t, .int .i64 (i : Int)] w fun e w' => e = .returned (.int .i64 ((i + run t isWord i : Nat) : Int)) ∧ w' = w := by
 obtain ⟨R, hR⟩ : ∃ R, R = i + run t isWord i := ⟨_, rfl⟩
 rw [← hR]
 have H0 : Hid (i + run t isWord i = R) := hR.symm
 clear hR
 go_enter Tryz.func36, Tryz.ntmps36
 go_wp2
 go_loopw [1] (fun vi wr => wr = w ∧ ∃ j : Nat, j ≤ t.size ∧ vi = .int .i64 (j : Int) ∧ Hid (j + run t isWord j = R)) (fun i _ => t.size - (intOf i).toNat)
 case atStart => exact ⟨rfl, i, hi, rfl, H0⟩
 case round =>
   obtain ⟨rfl, j, hj, rfl, hp⟩ := hrel
   by_cases hlt : j < t.size
   · have hc := t[j].toNat_lt
     cases hw : isWord t[j] with
     | true =>
       have HW := c_word t[j]
       rw [hw] at HW
       have hp' : Hid (j + 1 + run t isWord (j + 1) = R) := by have := hp.out; rw [run_yes hlt hw] at this; show _ = _; omega
       clear hp H0 hw
       go_wp2_with (go_at_call 58; refine (HW _).mono ?_; rintro e w' ⟨rfl, rfl⟩)
       go_roundw
       case rel => exact ⟨trivial, j + 1, by omega, by go_num, hp'⟩
       case measure => simp [intOf]; omega
     | false =>
       have HW := c_word t[j]
       rw [hw] at HW
       obtain rfl : j = R := by have := hp.out; rw [run_no hlt hw] at this; omega
       clear hp H0 hw
       go_wp2_with (go_at_call 58; refine (HW _).mono ?_; rintro e w' ⟨rfl, rfl⟩)
       go_ret
       exact ⟨rfl, rfl⟩
   · obtain rfl : j = R := by have := hp.out; rw [run_end hlt] at this; omega
     clear hp H0
     go_wp2
     go_ret
     exact ⟨rfl, rfl⟩
def quotR (t : ByteArray) (i : Nat) : Nat := if i + 1 + run t not39 (i + 1) < t.size ∧ nameOk (t.extract (i + 1) (i + 1 + run t not39 (i + 1))) = true then i + run t not39 (i + 1) + 2 else 0
theorem c_quoted (t : ByteArray) (i : Nat) (hi : i < t.size) (hs : (t.size : Int) ≤ 3000) (w : World) :
   Calls Tryz.prog 38 #[.string t, .int .i64 (i : Int)] w fun e w' => e = .returned (.int .i64 (quotR t i : Nat)) ∧ w' = w := by
 obtain ⟨Q, hQ⟩ : ∃ Q, Q = i + 1 + run t not39 (i + 1) := ⟨_, rfl⟩
 have eR : quotR t i = if Q < t.size ∧ nameOk (t.extract (i + 1) Q) = true then Q + 1 else 0 := by
   unfold quotR; rw [← hQ]; split
   · omega
   · rfl
 rw [eR]
 have H0 : Hid (i + 1 + run t not39 (i + 1) = Q) := hQ.symm
 obtain ⟨V, hV⟩ : ∃ V, V = if Q < t.size ∧ nameOk (t.extract (i + 1) Q) = true then Q + 1 else 0 := ⟨_, rfl⟩
 rw [← hV]
 have HV : Hid (V = if Q < t.size ∧ nameOk (t.extract (i + 1) Q) = true then Q + 1 else 0) := hV
 clear hQ eR hV
 go_enter Tryz.func38, Tryz.ntmps38
 go_wp2
 go_loopw [5] (fun vi wr => wr = w ∧ ∃ j : Nat, i + 1 ≤ j ∧ j ≤ t.size ∧ vi = .int .i64 (j : Int) ∧ Hid (j + run t not39 j = Q)) (fun i _ => t.size - (intOf i).toNat)
 case atStart => exact ⟨rfl, i + 1, Nat.le_refl _, by omega, by go_num, H0⟩
 case round =>
   obtain ⟨rfl, j, hij, hj, rfl, hp⟩ := hrel
   by_cases hlt : j < t.size
   · have hc := t[j].toNat_lt
     by_cases h39 : t[j].toNat = 39
     · have hw : not39 t[j] = false := by unfold not39; simp [h39]
       obtain rfl : j = Q := by have := hp.out; rw [run_no hlt hw] at this; omega
       have HN : Hid (∀ w, Calls Tryz.prog 59 #[.string (t.extract (i + 1) j)] w fun e w' => e = .returned (.bool (nameOk (t.extract (i + 1) j))) ∧ w' = w) := specName _ (by rw [ByteArray.size_extract]; unfold maxLen; omega)
       have e0 : ((t[j].toNat : Int) == 39) = true := by rw [h39]; rfl
       cases hn : nameOk (t.extract (i + 1) j) with
       | true =>
         have HVV : Hid (V = j + 1) := by show _ = _; rw [HV.out, if_pos ⟨hlt, hn⟩]
         rw [hn] at HN
         clear hp H0 hw HV hn h39
         go_wp2_with (go_at_call 59; refine (HN.out _).mono ?_; rintro e w' ⟨rfl, rfl⟩)
         go_ret
         exact ⟨by rw [HVV.out]; rfl, rfl⟩
       | false =>
         have HVV : Hid (V = 0) := by show _ = _; rw [HV.out, if_neg (fun h => by rw [hn] at h; exact Bool.noConfusion h.2)]
         rw [hn] at HN
         clear hp H0 hw HV hn h39
         go_wp2_with (go_at_call 59; refine (HN.out _).mono ?_; rintro e w' ⟨rfl, rfl⟩)
         go_ret
         exact ⟨by rw [HVV.out]; rfl, rfl⟩
     · have hw : not39 t[j] = true := by unfold not39; simp [h39]
       have hp' : Hid (j + 1 + run t not39 (j + 1) = Q) := by have := hp.out; rw [run_yes hlt hw] at this; show _ = _; omega
       have e0 : ((t[j].toNat : Int) == 39) = false := beq_eq_false_iff_ne.2 (by omega)
       clear hp H0 hw HV h39
       go_wp2
       go_roundw
       case rel => exact ⟨trivial, j + 1, by omega, by omega, by go_num, hp'⟩
       case measure => simp [intOf]; omega
   · have HVV : Hid (V = 0) := by
       have := hp.out; rw [run_end hlt] at this
       show _ = _; rw [HV.out, if_neg (fun h => by omega)]
     clear hp H0 HV
     go_wp2
     go_ret
     exact ⟨by rw [HVV.out]; rfl, rfl⟩
end Go.Proofs.YtbkjcccbjnehbanGreatDoor

namespace Go.Proofs.YtbkjcccbjnehbanGreatDoor
open Go.RowKit
def aheadOk (t : ByteArray) (i : Nat) : Prop := decide (i = 0) = true ∨ ∃ h0 : i - 1 < t.size, isSym t[i - 1] = false
theorem isEnd_no {t : ByteArray} {i : Nat} (hi : i < t.size) (h : t[i].toNat ≠ 46) : isEnd t i = false := by
 unfold isEnd; rw [at8_eq t i hi, decide_eq_false h]; rfl
theorem isEnd_ahead {t : ByteArray} {i : Nat} (h0 : i ≠ 0) (h1 : i - 1 < t.size) (h : isSym t[i - 1] = true) : isEnd t i = false := by
 unfold isEnd; rw [at8_eq t (i - 1) h1, h, decide_eq_false h0]; simp
theorem ahead_bool {t : ByteArray} {i : Nat} (h : aheadOk t i) : (decide (i = 0) || !isSym (at8 t (i - 1))) = true := by
 rcases h with h | ⟨h0, h⟩
 · rw [h]; rfl
 · rw [at8_eq t (i - 1) h0, h]; simp
theorem isEnd_last {t : ByteArray} {i : Nat} (hi : i < t.size) (h : t[i].toNat = 46) (ha : aheadOk t i) (he : i + 1 = t.size) : isEnd t i = true := by
 unfold isEnd; rw [at8_eq t i hi, ahead_bool ha, decide_eq_true h, decide_eq_true he]; rfl
theorem isEnd_mid {t : ByteArray} {i : Nat} (hi : i < t.size) (h : t[i].toNat = 46) (ha : aheadOk t i) (he : i + 1 < t.size) : isEnd t i = (isBlank t[i + 1] || decide (t[i + 1].toNat = 37)) := by
 unfold isEnd; rw [at8_eq t i hi, at8_eq t (i + 1) he, ahead_bool ha, decide_eq_true h, decide_eq_false (show ¬ i + 1 = t.size by omega)]; rfl
end Go.Proofs.YtbkjcccbjnehbanGreatDoor

namespace Go.Proofs.YtbkjcccbjnehbanGreatDoor
open Go.RowKit
set_option maxHeartbeats 1000000 in
theorem c_end (t : ByteArray) (i : Nat) (hi : i < t.size) (hs : (t.size : Int) ≤ 3000) (w : World) :
   Calls Tryz.prog 39 #[.string t, .int .i64 (i : Int)] w fun e w' => e = .returned (.bool (isEnd t i)) ∧ w' = w := by
 have hc := t[i].toNat_lt
 by_cases h46 : t[i].toNat = 46
 · have e0 : ((t[i].toNat : Int) == 46) = true := by rw [h46]; rfl
   have hA : aheadOk t i ∨ (i ≠ 0 ∧ ∃ h1 : i - 1 < t.size, isSym t[i - 1] = true) := by
     by_cases hi0 : i = 0
     · exact Or.inl (Or.inl (decide_eq_true hi0))
     · cases hh : isSym (t[i - 1]'(by omega)) with
       | false => exact Or.inl (Or.inr ⟨by omega, hh⟩)
       | true => exact Or.inr ⟨hi0, by omega, hh⟩
   rcases hA with hA | ⟨hi0, h1, hsy⟩
   · have HT : Hid (i + 1 = t.size ∧ isEnd t i = true ∨ ∃ hl : i + 1 < t.size, isEnd t i = (isBlank t[i + 1] || decide (t[i + 1].toNat = 37))) := by
       by_cases he : i + 1 = t.size
       · exact Or.inl ⟨he, isEnd_last hi h46 hA he⟩
       · exact Or.inr ⟨by omega, isEnd_mid hi h46 hA (by omega)⟩
     have HAA : Hid (((i : Int) == 0) = true ∨ (((i : Int) == 0) = false ∧ ∃ h1 : i - 1 < t.size, isSym t[i - 1] = false)) := by
       by_cases hi0 : i = 0
       · left; rw [hi0]; rfl
       · right
         rcases hA with h | h
         · exact absurd (of_decide_eq_true h) hi0
         · exact ⟨beq_eq_false_iff_ne.2 (by omega), h⟩
     clear h46 hA
     rcases HAA.out with ei | ⟨ei, h1, hsy⟩
     · clear HAA
       rcases HT.out with ⟨he, hr⟩ | ⟨hl, hr⟩
       · have HR : Hid (isEnd t i = true) := hr
         have e1 : ((i : Int) + 1 == (t.size : Int)) = true := by rw [← he]; simp
         clear he hr HT
         go_enter Tryz.func39, Tryz.ntmps39
         go_wp2
         go_ret
         exact ⟨by rw [HR.out]; rfl, rfl⟩
       · have e1 : ((i : Int) + 1 == (t.size : Int)) = false := beq_eq_false_iff_ne.2 (by omega)
         have HB := c_blank t[i + 1]
         have hc1 := t[i + 1].toNat_lt
         cases hbl : isBlank t[i + 1] with
         | true =>
           have HR : Hid (isEnd t i = true) := by show _ = _; rw [hr, hbl]; rfl
           rw [hbl] at HB
           clear hr hbl HT
           go_enter Tryz.func39, Tryz.ntmps39
           go_wp2_with (go_at_call 23; refine (HB _).mono ?_; rintro e w' ⟨rfl, rfl⟩)
           go_ret
           exact ⟨by rw [HR.out]; rfl, rfl⟩
         | false =>
           have HR : Hid (isEnd t i = decide (t[i + 1].toNat = 37)) := by show _ = _; rw [hr, hbl]; rfl
           rw [hbl] at HB
           clear hr hbl HT
           go_enter Tryz.func39, Tryz.ntmps39
           go_wp2_with (go_at_call 23; refine (HB _).mono ?_; rintro e w' ⟨rfl, rfl⟩)
           go_ret
           exact ⟨by rw [HR.out]; exact ret_b (by rw [Bool.eq_iff_iff]; simp; omega), rfl⟩
     · have h0 : i ≠ 0 := by intro h; rw [h] at ei; exact Bool.noConfusion ei
       obtain ⟨i', rfl⟩ : ∃ i', i = i' + 1 := ⟨i - 1, by omega⟩
       have h1' : i' < t.size := by omega
       have HS : Hid (∀ w, Calls Tryz.prog 40 #[.int .u8 (t[i'].toNat : Int)] w fun e w' => e = .returned (.bool false) ∧ w' = w) := fun w => by have := spec_sym t[i'] w; rw [show isSym t[i'] = false from hsy] at this; exact this
       have hc' := t[i'].toNat_lt
       clear HAA hsy h0 h1
       rcases HT.out with ⟨he, hr⟩ | ⟨hl, hr⟩
       · have HR : Hid (isEnd t (i' + 1) = true) := hr
         have e1 : ((i' : Int) + 1 + 1 == (t.size : Int)) = true := by rw [← he]; simp
         clear he hr HT
         go_enter Tryz.func39, Tryz.ntmps39
         go_wp2_with (go_at_call 40; refine (HS.out _).mono ?_; rintro e w' ⟨rfl, rfl⟩)
         go_ret
         exact ⟨by rw [HR.out]; rfl, rfl⟩
       · have e1 : ((i' : Int) + 1 + 1 == (t.size : Int)) = false := beq_eq_false_iff_ne.2 (by omega)
         have HB := c_blank t[i' + 1 + 1]
         have hc1 := t[i' + 1 + 1].toNat_lt
         cases hbl : isBlank t[i' + 1 + 1] with
         | true =>
           have HR : Hid (isEnd t (i' + 1) = true) := by show _ = _; rw [hr, hbl]; rfl
           rw [hbl] at HB
           clear hr hbl HT
           go_enter Tryz.func39, Tryz.ntmps39
           go_wp2_with (first | (go_at_call 40; refine (HS.out _).mono ?_; rintro e w' ⟨rfl, rfl⟩) | (go_at_call 23; refine (HB _).mono ?_; rintro e w' ⟨rfl, rfl⟩))
           go_ret
           exact ⟨by rw [HR.out]; rfl, rfl⟩
         | false =>
           have HR : Hid (isEnd t (i' + 1) = decide (t[i' + 1 + 1].toNat = 37)) := by show _ = _; rw [hr, hbl]; rfl
           rw [hbl] at HB
           clear hr hbl HT
           go_enter Tryz.func39, Tryz.ntmps39
           go_wp2_with (first | (go_at_call 40; refine (HS.out _).mono ?_; rintro e w' ⟨rfl, rfl⟩) | (go_at_call 23; refine (HB _).mono ?_; rintro e w' ⟨rfl, rfl⟩))
           go_ret
           exact ⟨by rw [HR.out]; exact ret_b (by rw [Bool.eq_iff_iff]; simp; omega), rfl⟩
   · obtain ⟨i', rfl⟩ : ∃ i', i = i' + 1 := ⟨i - 1, by omega⟩
     have h1' : i' < t.size := by omega
     have HR : Hid (isEnd t (i' + 1) = false) := isEnd_ahead hi0 h1 hsy
     have HS : Hid (∀ w, Calls Tryz.prog 40 #[.int .u8 (t[i'].toNat : Int)] w fun e w' => e = .returned (.bool true) ∧ w' = w) := fun w => by have := spec_sym t[i'] w; rw [show isSym t[i'] = true from hsy] at this; exact this
     have hc' := t[i'].toNat_lt
     have ei : (((i' + 1 : Nat) : Int) == 0) = false := beq_eq_false_iff_ne.2 (by omega)
     clear hsy hi0 h1 h46
     go_enter Tryz.func39, Tryz.ntmps39
     go_wp2_with (go_at_call 40; refine (HS.out _).mono ?_; rintro e w' ⟨rfl, rfl⟩)
     go_ret
     exact ⟨by rw [HR.out]; rfl, rfl⟩
 · have HR : Hid (isEnd t i = false) := isEnd_no hi h46
   have e0 : ((t[i].toNat : Int) == 46) = false := beq_eq_false_iff_ne.2 (by omega)
   go_enter Tryz.func39, Tryz.ntmps39
   go_wp2
   go_ret
   exact ⟨by rw [HR.out]; rfl, rfl⟩
end Go.Proofs.YtbkjcccbjnehbanGreatDoor

namespace Go.Proofs.YtbkjcccbjnehbanGreatDoor
theorem sgNum_stop {t : ByteArray} {j : Nat} {a : Int} (h : ∀ hj : j < t.size, isFig t[j] = false) : sgNum (t.data.toList.drop j) a = some (a, 0) := by
 by_cases hj : j < t.size
 · rw [drop_at t j hj]; unfold sgNum; rw [if_neg (by rw [h hj]; exact Bool.noConfusion)]
 · rw [drop_end t j hj]; rfl
theorem sgNum_go {t : ByteArray} {j : Nat} {a : Int} (hj : j < t.size) (h : isFig t[j] = true) : sgNum (t.data.toList.drop j) a = if 999999999 < 10 * a + (t[j].toNat : Int) - 48 then none else (sgNum (t.data.toList.drop (j + 1)) (10 * a + (t[j].toNat : Int) - 48)).map fun x => (x.1, x.2 + 1) := by
 rw [drop_at t j hj]; conv => lhs; unfold sgNum
 rw [if_pos h]
def NumAt (t : ByteArray) (i j : Nat) (a : Int) : Prop :=
 (a ≤ 999999999 ∧ sgNum (t.data.toList.drop i) 0 = (sgNum (t.data.toList.drop j) a).map fun x => (x.1, x.2 + (j - i))) ∨ (999999999 < a ∧ sgNum (t.data.toList.drop i) 0 = none)
theorem NumAt.start (t : ByteArray) (i : Nat) : NumAt t i i 0 := by
 refine Or.inl ⟨by omega, ?_⟩
 cases h : sgNum (t.data.toList.drop i) 0 with
 | none => rfl
 | some x => simp
theorem NumAt.next {t : ByteArray} {i j : Nat} {a : Int} (h : NumAt t i j a) (ha : a ≤ 999999999) (hij : i ≤ j) (hj : j < t.size) (hf : isFig t[j] = true) : NumAt t i (j + 1) (10 * a + (t[j].toNat : Int) - 48) := by
 rcases h with ⟨_, h⟩ | ⟨h0, _⟩
 · rw [sgNum_go hj hf] at h
   by_cases hg : 999999999 < 10 * a + (t[j].toNat : Int) - 48
   · rw [if_pos hg] at h; exact Or.inr ⟨hg, h⟩
   · rw [if_neg hg] at h
     refine Or.inl ⟨by omega, ?_⟩
     rw [h, Option.map_map]
     congr 1
     funext x
     show (x.1, x.2 + 1 + (j - i)) = (x.1, x.2 + (j + 1 - i))
     congr 1; omega
 · omega
theorem NumAt.done {t : ByteArray} {i j : Nat} {a : Int} (h : NumAt t i j a) (ha : a ≤ 999999999) (hij : i ≤ j) (hf : ∀ hj : j < t.size, isFig t[j] = false) : numSg t i = mkSg t 3 ⟨#[]⟩ a i j := by
 rcases h with ⟨_, h⟩ | ⟨h0, _⟩
 · rw [sgNum_stop hf] at h
   unfold numSg
   rw [h]
   show mkSg t 3 ⟨#[]⟩ a i (i + (0 + (j - i))) = _
   rw [show i + (0 + (j - i)) = j by omega]
 · omega
theorem NumAt.over {t : ByteArray} {i j : Nat} {a : Int} (h : NumAt t i j a) (ha : 999999999 < a) : numSg t i = badSg t i := by
 rcases h with ⟨h0, _⟩ | ⟨_, h⟩
 · omega
 · unfold numSg; rw [h]
end Go.Proofs.YtbkjcccbjnehbanGreatDoor

namespace Go.Proofs.YtbkjcccbjnehbanGreatDoor
open Go.RowKit
theorem results_ct {P : Program} {fn : Func} {p u : Tmp} {ty : TypeId} (h : fn.results = #[.cell p ty, .tmp u]) (tmps : Array Value) (w : World) (g : Nat) (t : TypeId) (cs : Array Value) (fr : Nat × Nat) (d : TypeDesc)
   (hp : tmps.getD p undef = .pointer (some ⟨g, 0, none⟩)) (hg : w.heap[g]? = some (.cells cs t fr))
   (hu : P.underlying ty = some d) (hd : (match d with | .struct _ | .array _ _ => true | _ => false) = true) (hi : (P.info? ty).map (·.size) = some cs.size) :
   (results fn tmps).run P w = .ok (.tuple #[.agg cs, tmps.getD u undef]) w := by
 have hp' : tmps[p]?.getD undef = .pointer (some ⟨g, 0, none⟩) := by simpa using hp
 simp [results, h, hp', asAddr, run_loadVar_row w g t ty cs fr d hg hu hd hi]
def sgv (s : Sg) (near : Bool) : Value := .agg #[.int .i64 s.kind, .string s.text, .int .i64 s.num, .int .i64 (s.at_ : Int), .bool near]
theorem sg_cell (w : World) (A B : Obj) : ((w.alloc A).alloc B).heap[w.heap.size]? = some A := by
 exact (heap_alloc_old _ _ (by simp)).trans (heap_alloc_new w A)
theorem sg_below (w : World) (A B : Obj) : Below w.heap.size w ((w.alloc A).alloc B) := ((Below.refl _ _).alloc (Nat.le_refl _) _).alloc (by simp) _
set_option maxHeartbeats 4000000 in
set_option maxRecDepth 20000 in
theorem c_sign (t : ByteArray) (i : Nat) (hi : i < t.size) (hs : (t.size : Int) ≤ 3000) (w : World) :
   Calls Tryz.prog 24 #[.string t, .int .i64 (i : Int)] w fun e w' => e = .returned (.tuple #[sgv (signAt t i).1 false, .int .i64 ((signAt t i).2 : Int)]) ∧ Below w.heap.size w w' := by
 have hc := t[i].toNat_lt
 have HS := c_small t[i]
 have HG := c_great t[i]
 have HF := c_fig t[i]
 have HY := spec_sym t[i]
 have HE := c_end t i hi hs
 have hd : signAt t i = if isSmall t[i] then nameSg t 1 isWord i
   else if isGreat t[i] then nameSg t 2 isWord i
   else if isFig t[i] then numSg t i
   else if t[i].toNat = 39 then quotSg t i
   else if isLone t[i] then oneSg t 1 i
   else if isMark t[i] then oneSg t 4 i
   else if isEnd t i then oneSg t 5 i
   else if isSym t[i] then nameSg t 1 isSym i
   else badSg t i := by unfold signAt; rw [at8_eq t i hi]
 obtain ⟨SG, hSG⟩ : ∃ SG, SG = signAt t i := ⟨_, rfl⟩
 rw [← hSG] at hd ⊢
 clear hSG
 cases h1 : isSmall t[i] with
 | true =>
   have hg : isGreat t[i] = false := by unfold isSmall at h1; have := of_decide_eq_true h1; unfold isGreat; exact decide_eq_false (by omega)
   obtain ⟨n, hn⟩ : ∃ n, n = i + run t isWord i := ⟨_, rfl⟩
   have hnl : n ≤ t.size := by have := run_le t isWord i; omega
   have hin : i ≤ n := by omega
   have HRU : Hid (∀ w, Calls Tryz.prog 36 #[.string t, .int .i64 (i : Int)] w fun e w' => e = .returned (.int .i64 (n : Int)) ∧ w' = w) := fun w => by rw [hn]; exact c_run t i (by omega) hs w
   rw [h1] at HS; rw [hg] at HG
   by_cases h20 : (n : Int) - (i : Int) ≤ 20
   · have HD : Hid (SG = mkSg t 1 (t.extract i n) 0 i n) := by show _ = _; rw [hd, h1]; show nameSg t 1 isWord i = _; unfold nameSg; rw [if_pos (by omega), ← hn]
     clear hd hn h1
     go_enter Tryz.func24, Tryz.ntmps24
     go_wp2_with (first | (go_at_call 34; refine (HS _).mono ?_; rintro e w' ⟨rfl, rfl⟩) | (go_at_call 35; refine (HG _).mono ?_; rintro e w' ⟨rfl, rfl⟩) | (go_at_call 36; refine (HRU.out _).mono ?_; rintro e w' ⟨rfl, rfl⟩))
     refine bodyPost_ret_by (results_ct rfl _ _ w.heap.size 45 _ (0, 0) _ rfl (sg_cell _ _ _) Tryz.underlying45 rfl (by kernel_rfl)) rfl ?_
     exact ⟨by rw [HD.out]; rfl, sg_below _ _ _⟩
   · have HD : Hid (SG = badSg t i) := by show _ = _; rw [hd, h1]; show nameSg t 1 isWord i = _; unfold nameSg; rw [if_neg (by omega)]
     clear hd hn h1
     go_enter Tryz.func24, Tryz.ntmps24
     go_wp2_with (first | (go_at_call 34; refine (HS _).mono ?_; rintro e w' ⟨rfl, rfl⟩) | (go_at_call 35; refine (HG _).mono ?_; rintro e w' ⟨rfl, rfl⟩) | (go_at_call 36; refine (HRU.out _).mono ?_; rintro e w' ⟨rfl, rfl⟩))
     refine bodyPost_ret_by (results_ct rfl _ _ w.heap.size 45 _ (0, 0) _ rfl (sg_cell _ _ _) Tryz.underlying45 rfl (by kernel_rfl)) rfl ?_
     exact ⟨by rw [HD.out]; rfl, sg_below _ _ _⟩
 | false =>
 cases h2 : isGreat t[i] with
 | true =>
   obtain ⟨n, hn⟩ : ∃ n, n = i + run t isWord i := ⟨_, rfl⟩
   have hnl : n ≤ t.size := by have := run_le t isWord i; omega
   have hin : i ≤ n := by omega
   have HRU : Hid (∀ w, Calls Tryz.prog 36 #[.string t, .int .i64 (i : Int)] w fun e w' => e = .returned (.int .i64 (n : Int)) ∧ w' = w) := fun w => by rw [hn]; exact c_run t i (by omega) hs w
   rw [h1] at HS; rw [h2] at HG
   by_cases h20 : (n : Int) - (i : Int) ≤ 20
   · have HD : Hid (SG = mkSg t 2 (t.extract i n) 0 i n) := by show _ = _; rw [hd, h1, h2]; show nameSg t 2 isWord i = _; unfold nameSg; rw [if_pos (by omega), ← hn]
     clear hd hn h1 h2
     go_enter Tryz.func24, Tryz.ntmps24
     go_wp2_with (first | (go_at_call 34; refine (HS _).mono ?_; rintro e w' ⟨rfl, rfl⟩) | (go_at_call 35; refine (HG _).mono ?_; rintro e w' ⟨rfl, rfl⟩) | (go_at_call 36; refine (HRU.out _).mono ?_; rintro e w' ⟨rfl, rfl⟩))
     refine bodyPost_ret_by (results_ct rfl _ _ w.heap.size 45 _ (0, 0) _ rfl (sg_cell _ _ _) Tryz.underlying45 rfl (by kernel_rfl)) rfl ?_
     exact ⟨by rw [HD.out]; rfl, sg_below _ _ _⟩
   · have HD : Hid (SG = badSg t i) := by show _ = _; rw [hd, h1, h2]; show nameSg t 2 isWord i = _; unfold nameSg; rw [if_neg (by omega)]
     clear hd hn h1 h2
     go_enter Tryz.func24, Tryz.ntmps24
     go_wp2_with (first | (go_at_call 34; refine (HS _).mono ?_; rintro e w' ⟨rfl, rfl⟩) | (go_at_call 35; refine (HG _).mono ?_; rintro e w' ⟨rfl, rfl⟩) | (go_at_call 36; refine (HRU.out _).mono ?_; rintro e w' ⟨rfl, rfl⟩))
     refine bodyPost_ret_by (results_ct rfl _ _ w.heap.size 45 _ (0, 0) _ rfl (sg_cell _ _ _) Tryz.underlying45 rfl (by kernel_rfl)) rfl ?_
     exact ⟨by rw [HD.out]; rfl, sg_below _ _ _⟩
 | false =>
 cases h3 : isFig t[i] with
 | true =>
   have HD0 : Hid (SG = numSg t i) := by show _ = _; rw [hd, h1, h2, h3]; rfl
   rw [h1] at HS; rw [h2] at HG; rw [h3] at HF
   have HFJ : Hid (∀ (c : UInt8) (w : World), Calls Tryz.prog 37 #[.int .u8 (c.toNat : Int)] w fun e w' => e = .returned (.bool (isFig c)) ∧ w' = w) := c_fig
   clear hd h1 h2 h3
   go_enter Tryz.func24, Tryz.ntmps24
   go_upto_region 13 with (first | (go_at_call 34; refine (HS _).mono ?_; rintro e w' ⟨rfl, rfl⟩) | (go_at_call 35; refine (HG _).mono ?_; rintro e w' ⟨rfl, rfl⟩) | (go_at_call 37; refine (HF _).mono ?_; rintro e w' ⟨rfl, rfl⟩))
   go_wp2
   go_loopw [10, 11] (fun vj va wr => wr = (w.alloc (.cells #[.int .i64 0, .string ⟨#[]⟩, .int .i64 0, .int .i64 0, .bool false] 45)).alloc (.cells #[.int .i64 6, .string (t.extract i (i + 1)), .int .i64 0, .int .i64 (i : Int), .bool false] 45) ∧ ∃ (j : Nat) (a : Int), i ≤ j ∧ j ≤ t.size ∧ vj = .int .i64 (j : Int) ∧ va = .int .i64 a ∧ 0 ≤ a ∧ a ≤ 99999999999 ∧ Hid (NumAt t i j a)) (fun vj _ _ => t.size - (intOf vj).toNat)
   case atStart => exact ⟨rfl, i, 0, Nat.le_refl _, by omega, rfl, rfl, by omega, by omega, NumAt.start t i⟩
   case round =>
     obtain ⟨rfl, j, a, hij, hj, rfl, rfl, ha0, ha1, HN⟩ := hrel
     clear HF
     by_cases hlt : j < t.size
     · have hcj := t[j].toNat_lt
       have HFF := HFJ.out t[j]
       cases hf : isFig t[j] with
       | true =>
         rw [hf] at HFF
         by_cases hm : a ≤ 999999999
         · have HN' : Hid (NumAt t i (j + 1) (10 * a + (t[j].toNat : Int) - 48)) := HN.out.next hm hij hlt hf
           have hfg : 48 ≤ t[j].toNat ∧ t[j].toNat ≤ 57 := by unfold isFig at hf; exact of_decide_eq_true hf
           clear hf HN HD0
           go_wp2_with (go_at_call 37; refine (HFF _).mono ?_; rintro e w' ⟨rfl, rfl⟩)
           go_roundw
           case rel => exact ⟨trivial, j + 1, _, by omega, by omega, by go_num, rfl, by omega, by omega, HN'⟩
           case measure => simp [intOf]; omega
         · have HD : Hid (SG = badSg t i) := by show _ = _; rw [HD0.out]; exact HN.out.over (by omega)
           clear hf HN HD0
           go_wp2_with (go_at_call 37; refine (HFF _).mono ?_; rintro e w' ⟨rfl, rfl⟩)
           refine bodyPost_ret_by (results_ct rfl _ _ w.heap.size 45 _ (0, 0) _ rfl (sg_cell _ _ _) Tryz.underlying45 rfl (by kernel_rfl)) rfl ?_
           exact ⟨by rw [HD.out]; rfl, sg_below _ _ _⟩
       | false =>
         rw [hf] at HFF
         by_cases hm : a ≤ 999999999
         · have HD : Hid (SG = mkSg t 3 ⟨#[]⟩ a i j) := by show _ = _; rw [HD0.out]; exact HN.out.done hm hij (fun _ => hf)
           clear hf HN HD0
           go_wp2_with (go_at_call 37; refine (HFF _).mono ?_; rintro e w' ⟨rfl, rfl⟩)
           refine bodyPost_ret_by (results_ct rfl _ _ w.heap.size 45 _ (0, 0) _ rfl (sg_cell _ _ _) Tryz.underlying45 rfl (by kernel_rfl)) rfl ?_
           exact ⟨by rw [HD.out]; rfl, sg_below _ _ _⟩
         · have HD : Hid (SG = badSg t i) := by show _ = _; rw [HD0.out]; exact HN.out.over (by omega)
           clear hf HN HD0
           go_wp2_with (go_at_call 37; refine (HFF _).mono ?_; rintro e w' ⟨rfl, rfl⟩)
           refine bodyPost_ret_by (results_ct rfl _ _ w.heap.size 45 _ (0, 0) _ rfl (sg_cell _ _ _) Tryz.underlying45 rfl (by kernel_rfl)) rfl ?_
           exact ⟨by rw [HD.out]; rfl, sg_below _ _ _⟩
     · by_cases hm : a ≤ 999999999
       · have HD : Hid (SG = mkSg t 3 ⟨#[]⟩ a i j) := by show _ = _; rw [HD0.out]; exact HN.out.done hm hij (fun h => absurd h hlt)
         clear HN HD0
         go_wp2
         refine bodyPost_ret_by (results_ct rfl _ _ w.heap.size 45 _ (0, 0) _ rfl (sg_cell _ _ _) Tryz.underlying45 rfl (by kernel_rfl)) rfl ?_
         exact ⟨by rw [HD.out]; rfl, sg_below _ _ _⟩
       · have HD : Hid (SG = badSg t i) := by show _ = _; rw [HD0.out]; exact HN.out.over (by omega)
         clear HN HD0
         go_wp2
         refine bodyPost_ret_by (results_ct rfl _ _ w.heap.size 45 _ (0, 0) _ rfl (sg_cell _ _ _) Tryz.underlying45 rfl (by kernel_rfl)) rfl ?_
         exact ⟨by rw [HD.out]; rfl, sg_below _ _ _⟩
 | false =>
 rw [h1] at HS; rw [h2] at HG; rw [h3] at HF
 by_cases h4 : t[i].toNat = 39
 · have e39 : ((t[i].toNat : Int) == 39) = true := by rw [h4]; rfl
   obtain ⟨Q, hQ⟩ : ∃ Q, Q = i + 1 + run t not39 (i + 1) := ⟨_, rfl⟩
   by_cases hcd : Q < t.size ∧ nameOk (t.extract (i + 1) Q) = true
   · have HQ : Hid (∀ w, Calls Tryz.prog 38 #[.string t, .int .i64 (i : Int)] w fun e w' => e = .returned (.int .i64 ((Q + 1 : Nat) : Int)) ∧ w' = w) := fun w => by
       have := c_quoted t i hi hs w
       rw [show quotR t i = Q + 1 by unfold quotR; rw [← hQ, if_pos hcd]; omega] at this
       exact this
     have HD : Hid (SG = mkSg t 1 (t.extract (i + 1) Q) 0 i (Q + 1)) := by
       show _ = _
       rw [hd, h1, h2, h3, if_pos h4]
       show quotSg t i = _
       unfold quotSg
       rw [← hQ, if_pos hcd, show i + run t not39 (i + 1) + 2 = Q + 1 by omega]
     have hQ1 := hcd.1
     have hQ2 : i + 1 ≤ Q := by omega
     clear hd h1 h2 h3 h4 hcd hQ
     go_enter Tryz.func24, Tryz.ntmps24
     go_wp2_with (first | (go_at_call 34; refine (HS _).mono ?_; rintro e w' ⟨rfl, rfl⟩) | (go_at_call 35; refine (HG _).mono ?_; rintro e w' ⟨rfl, rfl⟩) | (go_at_call 37; refine (HF _).mono ?_; rintro e w' ⟨rfl, rfl⟩) | (go_at_call 38; refine (HQ.out _).mono ?_; rintro e w' ⟨rfl, rfl⟩))
     refine bodyPost_ret_by (results_ct rfl _ _ w.heap.size 45 _ (0, 0) _ rfl (sg_cell _ _ _) Tryz.underlying45 rfl (by kernel_rfl)) rfl ?_
     exact ⟨by rw [HD.out]; rfl, sg_below _ _ _⟩
   · have HQ : Hid (∀ w, Calls Tryz.prog 38 #[.string t, .int .i64 (i : Int)] w fun e w' => e = .returned (.int .i64 0) ∧ w' = w) := fun w => by
       have := c_quoted t i hi hs w
       rw [show quotR t i = 0 by unfold quotR; rw [← hQ, if_neg hcd]] at this
       exact this
     have HD : Hid (SG = badSg t i) := by
       show _ = _
       rw [hd, h1, h2, h3, if_pos h4]
       show quotSg t i = _
       unfold quotSg
       rw [← hQ, if_neg hcd]
     clear hd h1 h2 h3 h4 hcd hQ
     go_enter Tryz.func24, Tryz.ntmps24
     go_wp2_with (first | (go_at_call 34; refine (HS _).mono ?_; rintro e w' ⟨rfl, rfl⟩) | (go_at_call 35; refine (HG _).mono ?_; rintro e w' ⟨rfl, rfl⟩) | (go_at_call 37; refine (HF _).mono ?_; rintro e w' ⟨rfl, rfl⟩) | (go_at_call 38; refine (HQ.out _).mono ?_; rintro e w' ⟨rfl, rfl⟩))
     refine bodyPost_ret_by (results_ct rfl _ _ w.heap.size 45 _ (0, 0) _ rfl (sg_cell _ _ _) Tryz.underlying45 rfl (by kernel_rfl)) rfl ?_
     exact ⟨by rw [HD.out]; rfl, sg_below _ _ _⟩
 · have e39 : ((t[i].toNat : Int) == 39) = false := beq_eq_false_iff_ne.2 (by omega)
   by_cases h5 : isLone t[i] = true
   · have HD : Hid (SG = oneSg t 1 i) := by show _ = _; rw [hd, h1, h2, h3, if_neg h4, h5]; rfl
     unfold isLone at h5
     have h5' := of_decide_eq_true h5
     clear hd h1 h2 h3 h4 h5
     rcases h5' with h | h
     · have f1 : ((t[i].toNat : Int) == 33) = true := by rw [h]; rfl
       clear h
       go_enter Tryz.func24, Tryz.ntmps24
       go_wp2_with (first | (go_at_call 34; refine (HS _).mono ?_; rintro e w' ⟨rfl, rfl⟩) | (go_at_call 35; refine (HG _).mono ?_; rintro e w' ⟨rfl, rfl⟩) | (go_at_call 37; refine (HF _).mono ?_; rintro e w' ⟨rfl, rfl⟩))
       refine bodyPost_ret_by (results_ct rfl _ _ w.heap.size 45 _ (0, 0) _ rfl (sg_cell _ _ _) Tryz.underlying45 rfl (by kernel_rfl)) rfl ?_
       exact ⟨by rw [HD.out]; rfl, sg_below _ _ _⟩
     · have f1 : ((t[i].toNat : Int) == 33) = false := beq_eq_false_iff_ne.2 (by omega)
       have f2 : ((t[i].toNat : Int) == 59) = true := by rw [h]; rfl
       clear h
       go_enter Tryz.func24, Tryz.ntmps24
       go_wp2_with (first | (go_at_call 34; refine (HS _).mono ?_; rintro e w' ⟨rfl, rfl⟩) | (go_at_call 35; refine (HG _).mono ?_; rintro e w' ⟨rfl, rfl⟩) | (go_at_call 37; refine (HF _).mono ?_; rintro e w' ⟨rfl, rfl⟩))
       refine bodyPost_ret_by (results_ct rfl _ _ w.heap.size 45 _ (0, 0) _ rfl (sg_cell _ _ _) Tryz.underlying45 rfl (by kernel_rfl)) rfl ?_
       exact ⟨by rw [HD.out]; rfl, sg_below _ _ _⟩
   have h5' : ¬ (t[i].toNat = 33 ∨ t[i].toNat = 59) := fun h => h5 (by unfold isLone; exact decide_eq_true h)
   have f1 : ((t[i].toNat : Int) == 33) = false := beq_eq_false_iff_ne.2 (by omega)
   have f2 : ((t[i].toNat : Int) == 59) = false := beq_eq_false_iff_ne.2 (by omega)
   have h5f : isLone t[i] = false := by simpa using h5
   by_cases h6 : isMark t[i] = true
   · have HD : Hid (SG = oneSg t 4 i) := by show _ = _; rw [hd, h1, h2, h3, if_neg h4, h5f, h6]; rfl
     unfold isMark at h6
     have h6' := of_decide_eq_true h6
     clear hd h1 h2 h3 h4 h5 h6 h5' h5f
     rcases h6' with h | h | h | h | h | h
     · have g40 : ((t[i].toNat : Int) == 40) = true := by rw [h]; rfl
       clear h
       go_enter Tryz.func24, Tryz.ntmps24
       go_wp2_with (first | (go_at_call 34; refine (HS _).mono ?_; rintro e w' ⟨rfl, rfl⟩) | (go_at_call 35; refine (HG _).mono ?_; rintro e w' ⟨rfl, rfl⟩) | (go_at_call 37; refine (HF _).mono ?_; rintro e w' ⟨rfl, rfl⟩))
       refine bodyPost_ret_by (results_ct rfl _ _ w.heap.size 45 _ (0, 0) _ rfl (sg_cell _ _ _) Tryz.underlying45 rfl (by kernel_rfl)) rfl ?_
       exact ⟨by rw [HD.out]; rfl, sg_below _ _ _⟩
     · have g40 : ((t[i].toNat : Int) == 40) = false := beq_eq_false_iff_ne.2 (by omega)
       have g41 : ((t[i].toNat : Int) == 41) = true := by rw [h]; rfl
       clear h
       go_enter Tryz.func24, Tryz.ntmps24
       go_wp2_with (first | (go_at_call 34; refine (HS _).mono ?_; rintro e w' ⟨rfl, rfl⟩) | (go_at_call 35; refine (HG _).mono ?_; rintro e w' ⟨rfl, rfl⟩) | (go_at_call 37; refine (HF _).mono ?_; rintro e w' ⟨rfl, rfl⟩))
       refine bodyPost_ret_by (results_ct rfl _ _ w.heap.size 45 _ (0, 0) _ rfl (sg_cell _ _ _) Tryz.underlying45 rfl (by kernel_rfl)) rfl ?_
       exact ⟨by rw [HD.out]; rfl, sg_below _ _ _⟩
     · have g40 : ((t[i].toNat : Int) == 40) = false := beq_eq_false_iff_ne.2 (by omega)
       have g41 : ((t[i].toNat : Int) == 41) = false := beq_eq_false_iff_ne.2 (by omega)
       have g91 : ((t[i].toNat : Int) == 91) = true := by rw [h]; rfl
       clear h
       go_enter Tryz.func24, Tryz.ntmps24
       go_wp2_with (first | (go_at_call 34; refine (HS _).mono ?_; rintro e w' ⟨rfl, rfl⟩) | (go_at_call 35; refine (HG _).mono ?_; rintro e w' ⟨rfl, rfl⟩) | (go_at_call 37; refine (HF _).mono ?_; rintro e w' ⟨rfl, rfl⟩))
       refine bodyPost_ret_by (results_ct rfl _ _ w.heap.size 45 _ (0, 0) _ rfl (sg_cell _ _ _) Tryz.underlying45 rfl (by kernel_rfl)) rfl ?_
       exact ⟨by rw [HD.out]; rfl, sg_below _ _ _⟩
     · have g40 : ((t[i].toNat : Int) == 40) = false := beq_eq_false_iff_ne.2 (by omega)
       have g41 : ((t[i].toNat : Int) == 41) = false := beq_eq_false_iff_ne.2 (by omega)
       have g91 : ((t[i].toNat : Int) == 91) = false := beq_eq_false_iff_ne.2 (by omega)
       have g93 : ((t[i].toNat : Int) == 93) = true := by rw [h]; rfl
       clear h
       go_enter Tryz.func24, Tryz.ntmps24
       go_wp2_with (first | (go_at_call 34; refine (HS _).mono ?_; rintro e w' ⟨rfl, rfl⟩) | (go_at_call 35; refine (HG _).mono ?_; rintro e w' ⟨rfl, rfl⟩) | (go_at_call 37; refine (HF _).mono ?_; rintro e w' ⟨rfl, rfl⟩))
       refine bodyPost_ret_by (results_ct rfl _ _ w.heap.size 45 _ (0, 0) _ rfl (sg_cell _ _ _) Tryz.underlying45 rfl (by kernel_rfl)) rfl ?_
       exact ⟨by rw [HD.out]; rfl, sg_below _ _ _⟩
     · have g40 : ((t[i].toNat : Int) == 40) = false := beq_eq_false_iff_ne.2 (by omega)
       have g41 : ((t[i].toNat : Int) == 41) = false := beq_eq_false_iff_ne.2 (by omega)
       have g91 : ((t[i].toNat : Int) == 91) = false := beq_eq_false_iff_ne.2 (by omega)
       have g93 : ((t[i].toNat : Int) == 93) = false := beq_eq_false_iff_ne.2 (by omega)
       have g44 : ((t[i].toNat : Int) == 44) = true := by rw [h]; rfl
       clear h
       go_enter Tryz.func24, Tryz.ntmps24
       go_wp2_with (first | (go_at_call 34; refine (HS _).mono ?_; rintro e w' ⟨rfl, rfl⟩) | (go_at_call 35; refine (HG _).mono ?_; rintro e w' ⟨rfl, rfl⟩) | (go_at_call 37; refine (HF _).mono ?_; rintro e w' ⟨rfl, rfl⟩))
       refine bodyPost_ret_by (results_ct rfl _ _ w.heap.size 45 _ (0, 0) _ rfl (sg_cell _ _ _) Tryz.underlying45 rfl (by kernel_rfl)) rfl ?_
       exact ⟨by rw [HD.out]; rfl, sg_below _ _ _⟩
     · have g40 : ((t[i].toNat : Int) == 40) = false := beq_eq_false_iff_ne.2 (by omega)
       have g41 : ((t[i].toNat : Int) == 41) = false := beq_eq_false_iff_ne.2 (by omega)
       have g91 : ((t[i].toNat : Int) == 91) = false := beq_eq_false_iff_ne.2 (by omega)
       have g93 : ((t[i].toNat : Int) == 93) = false := beq_eq_false_iff_ne.2 (by omega)
       have g44 : ((t[i].toNat : Int) == 44) = false := beq_eq_false_iff_ne.2 (by omega)
       have g124 : ((t[i].toNat : Int) == 124) = true := by rw [h]; rfl
       clear h
       go_enter Tryz.func24, Tryz.ntmps24
       go_wp2_with (first | (go_at_call 34; refine (HS _).mono ?_; rintro e w' ⟨rfl, rfl⟩) | (go_at_call 35; refine (HG _).mono ?_; rintro e w' ⟨rfl, rfl⟩) | (go_at_call 37; refine (HF _).mono ?_; rintro e w' ⟨rfl, rfl⟩))
       refine bodyPost_ret_by (results_ct rfl _ _ w.heap.size 45 _ (0, 0) _ rfl (sg_cell _ _ _) Tryz.underlying45 rfl (by kernel_rfl)) rfl ?_
       exact ⟨by rw [HD.out]; rfl, sg_below _ _ _⟩
   have h6' : ¬ (t[i].toNat = 40 ∨ t[i].toNat = 41 ∨ t[i].toNat = 91 ∨ t[i].toNat = 93 ∨ t[i].toNat = 44 ∨ t[i].toNat = 124) := fun h => h6 (by unfold isMark; exact decide_eq_true h)
   have g40 : ((t[i].toNat : Int) == 40) = false := beq_eq_false_iff_ne.2 (by omega)
   have g41 : ((t[i].toNat : Int) == 41) = false := beq_eq_false_iff_ne.2 (by omega)
   have g91 : ((t[i].toNat : Int) == 91) = false := beq_eq_false_iff_ne.2 (by omega)
   have g93 : ((t[i].toNat : Int) == 93) = false := beq_eq_false_iff_ne.2 (by omega)
   have g44 : ((t[i].toNat : Int) == 44) = false := beq_eq_false_iff_ne.2 (by omega)
   have g124 : ((t[i].toNat : Int) == 124) = false := beq_eq_false_iff_ne.2 (by omega)
   have h6f : isMark t[i] = false := by simpa using h6
   by_cases h7 : isEnd t i = true
   · have HD : Hid (SG = oneSg t 5 i) := by show _ = _; rw [hd, h1, h2, h3, if_neg h4, h5f, h6f, h7]; rfl
     rw [h7] at HE
     clear hd h1 h2 h3 h4 h5 h6 h7 h5' h6' h5f h6f
     go_enter Tryz.func24, Tryz.ntmps24
     go_wp2_with (first | (go_at_call 34; refine (HS _).mono ?_; rintro e w' ⟨rfl, rfl⟩) | (go_at_call 35; refine (HG _).mono ?_; rintro e w' ⟨rfl, rfl⟩) | (go_at_call 37; refine (HF _).mono ?_; rintro e w' ⟨rfl, rfl⟩) | (go_at_call 39; refine (HE _).mono ?_; rintro e w' ⟨rfl, rfl⟩))
     refine bodyPost_ret_by (results_ct rfl _ _ w.heap.size 45 _ (0, 0) _ rfl (sg_cell _ _ _) Tryz.underlying45 rfl (by kernel_rfl)) rfl ?_
     exact ⟨by rw [HD.out]; rfl, sg_below _ _ _⟩
   have h7f : isEnd t i = false := by simpa using h7
   rw [h7f] at HE
   by_cases h8 : isSym t[i] = true
   · have HD0 : Hid (SG = nameSg t 1 isSym i) := by show _ = _; rw [hd, h1, h2, h3, if_neg h4, h5f, h6f, h7f, h8]; rfl
     rw [h8] at HY
     have HYJ : Hid (∀ (c : UInt8) (w : World), Calls Tryz.prog 40 #[.int .u8 (c.toNat : Int)] w fun e w' => e = .returned (.bool (isSym c)) ∧ w' = w) := spec_sym
     obtain ⟨N, hN⟩ : ∃ N, N = i + run t isSym i := ⟨_, rfl⟩
     have HNN : Hid (i + run t isSym i = N) := hN.symm
     have hNl : N ≤ t.size := by have := run_le t isSym i; omega
     have hiN : i ≤ N := by omega
     clear hd h1 h2 h3 h4 h5 h6 h7 h8 h5' h6' h5f h6f h7f hN
     go_enter Tryz.func24, Tryz.ntmps24
     go_upto_region 32 with (first | (go_at_call 34; refine (HS _).mono ?_; rintro e w' ⟨rfl, rfl⟩) | (go_at_call 35; refine (HG _).mono ?_; rintro e w' ⟨rfl, rfl⟩) | (go_at_call 37; refine (HF _).mono ?_; rintro e w' ⟨rfl, rfl⟩) | (go_at_call 39; refine (HE _).mono ?_; rintro e w' ⟨rfl, rfl⟩) | (go_at_call 40; refine (HY _).mono ?_; rintro e w' ⟨rfl, rfl⟩))
     clear HY
     go_wp2
     go_loopw [13] (fun vj wr => wr = (w.alloc (.cells #[.int .i64 0, .string ⟨#[]⟩, .int .i64 0, .int .i64 0, .bool false] 45)).alloc (.cells #[.int .i64 6, .string (t.extract i (i + 1)), .int .i64 0, .int .i64 (i : Int), .bool false] 45) ∧ ∃ j : Nat, i ≤ j ∧ j ≤ t.size ∧ vj = .int .i64 (j : Int) ∧ Hid (j + run t isSym j = N)) (fun vj _ => t.size - (intOf vj).toNat)
     case atStart => exact ⟨rfl, i, Nat.le_refl _, by omega, rfl, HNN⟩
     case round =>
       obtain ⟨rfl, j, hij, hj, rfl, HJ⟩ := hrel
       by_cases hlt : j < t.size
       · have hcj := t[j].toNat_lt
         have HYY := HYJ.out t[j]
         cases hf : isSym t[j] with
         | true =>
           rw [hf] at HYY
           have HJ' : Hid (j + 1 + run t isSym (j + 1) = N) := by have := HJ.out; rw [run_yes hlt hf] at this; show _ = _; omega
           clear hf HJ
           go_wp2_with (go_at_call 40; refine (HYY _).mono ?_; rintro e w' ⟨rfl, rfl⟩)
           go_roundw
           case rel => exact ⟨trivial, j + 1, by omega, by omega, by go_num, HJ'⟩
           case measure => simp [intOf]; omega
         | false =>
           rw [hf] at HYY
           obtain rfl : j = N := by have := HJ.out; rw [run_no hlt hf] at this; omega
           by_cases h20 : (j : Int) - (i : Int) ≤ 20
           · have HD : Hid (SG = mkSg t 1 (t.extract i j) 0 i j) := by show _ = _; rw [HD0.out]; unfold nameSg; rw [if_pos (by have := HNN.out; omega), HNN.out]
             clear hf HJ HD0 HNN
             go_wp2_with (go_at_call 40; refine (HYY _).mono ?_; rintro e w' ⟨rfl, rfl⟩)
             refine bodyPost_ret_by (results_ct rfl _ _ w.heap.size 45 _ (0, 0) _ rfl (sg_cell _ _ _) Tryz.underlying45 rfl (by kernel_rfl)) rfl ?_
             exact ⟨by rw [HD.out]; rfl, sg_below _ _ _⟩
           · have HD : Hid (SG = badSg t i) := by show _ = _; rw [HD0.out]; unfold nameSg; rw [if_neg (by have := HNN.out; omega)]
             clear hf HJ HD0 HNN
             go_wp2_with (go_at_call 40; refine (HYY _).mono ?_; rintro e w' ⟨rfl, rfl⟩)
             refine bodyPost_ret_by (results_ct rfl _ _ w.heap.size 45 _ (0, 0) _ rfl (sg_cell _ _ _) Tryz.underlying45 rfl (by kernel_rfl)) rfl ?_
             exact ⟨by rw [HD.out]; rfl, sg_below _ _ _⟩
       · obtain rfl : j = N := by have := HJ.out; rw [run_end hlt] at this; omega
         by_cases h20 : (j : Int) - (i : Int) ≤ 20
         · have HD : Hid (SG = mkSg t 1 (t.extract i j) 0 i j) := by show _ = _; rw [HD0.out]; unfold nameSg; rw [if_pos (by have := HNN.out; omega), HNN.out]
           clear HJ HD0 HNN
           go_wp2
           refine bodyPost_ret_by (results_ct rfl _ _ w.heap.size 45 _ (0, 0) _ rfl (sg_cell _ _ _) Tryz.underlying45 rfl (by kernel_rfl)) rfl ?_
           exact ⟨by rw [HD.out]; rfl, sg_below _ _ _⟩
         · have HD : Hid (SG = badSg t i) := by show _ = _; rw [HD0.out]; unfold nameSg; rw [if_neg (by have := HNN.out; omega)]
           clear HJ HD0 HNN
           go_wp2
           refine bodyPost_ret_by (results_ct rfl _ _ w.heap.size 45 _ (0, 0) _ rfl (sg_cell _ _ _) Tryz.underlying45 rfl (by kernel_rfl)) rfl ?_
           exact ⟨by rw [HD.out]; rfl, sg_below _ _ _⟩
   have h8f : isSym t[i] = false := by simpa using h8
   rw [h8f] at HY
   have HD : Hid (SG = badSg t i) := by show _ = _; rw [hd, h1, h2, h3, if_neg h4, h5f, h6f, h7f, h8f]; rfl
   clear hd h1 h2 h3 h4 h5 h6 h7 h8 h5' h6' h5f h6f h7f h8f
   go_enter Tryz.func24, Tryz.ntmps24
   go_wp2_with (first | (go_at_call 34; refine (HS _).mono ?_; rintro e w' ⟨rfl, rfl⟩) | (go_at_call 35; refine (HG _).mono ?_; rintro e w' ⟨rfl, rfl⟩) | (go_at_call 37; refine (HF _).mono ?_; rintro e w' ⟨rfl, rfl⟩) | (go_at_call 39; refine (HE _).mono ?_; rintro e w' ⟨rfl, rfl⟩) | (go_at_call 40; refine (HY _).mono ?_; rintro e w' ⟨rfl, rfl⟩))
   refine bodyPost_ret_by (results_ct rfl _ _ w.heap.size 45 _ (0, 0) _ rfl (sg_cell _ _ _) Tryz.underlying45 rfl (by kernel_rfl)) rfl ?_
   exact ⟨by rw [HD.out]; rfl, sg_below _ _ _⟩
end Go.Proofs.YtbkjcccbjnehbanGreatDoor

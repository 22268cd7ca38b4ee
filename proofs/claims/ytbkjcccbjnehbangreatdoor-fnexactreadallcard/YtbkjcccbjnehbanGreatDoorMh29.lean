import Derived.Test.YtbkjcccbjnehbanGreatDoorRows
import Derived.Test.YtbkjcccbjnehbanGreatDoorMh1
import Derived.Test.YtbkjcccbjnehbanGreatDoorMh28
import Derived.Test.YtbkjcccbjnehbanGreatDoorMh24
import Derived.MapKept
import Derived.LaidEql
import Derived.WalkKit
import Derived.ProofKit
namespace Go.Proofs.YtbkjcccbjnehbanGreatDoor
open Go.RowKit
theorem implName (s : ByteArray) (hs : s.size ≤ maxLen) (w : World) :
   Calls Tryz.prog 71 #[.string s] w fun e w' => e = .returned (.bool (nameOk s)) ∧ w' = w := by
 unfold maxLen at hs
 by_cases h1 : s.size < 1
 · have HF : Hid (nameOk s = false) := by
     show _ = _
     unfold nameOk
     rw [Bool.and_eq_false_iff]; right
     exact decide_eq_false (by omega)
   go_enter Tryz.func71, Tryz.ntmps71
   go_wp2
   go_ret
   exact ⟨by rw [HF.out]; rfl, rfl⟩
 by_cases h20 : 20 < s.size
 · have HF : Hid (nameOk s = false) := by
     show _ = _
     unfold nameOk
     rw [Bool.and_eq_false_iff]; right
     exact decide_eq_false (by omega)
   go_enter Tryz.func71, Tryz.ntmps71
   go_wp2
   go_ret
   exact ⟨by rw [HF.out]; rfl, rfl⟩
 go_enter Tryz.func71, Tryz.ntmps71
 go_wp2
 go_loopw [3] (fun i wr => wr = w ∧ ∃ k : Nat, k ≤ s.size ∧ i = .int .i64 (k : Int) ∧ Hid ((s.data.toList.take k).all charOk = true)) (fun i _ => s.size - (intOf i).toNat)
 case atStart => exact ⟨rfl, 0, by omega, rfl, by show _ = _; simp⟩
 case round =>
   obtain ⟨rfl, k, hk, rfl, hp⟩ := hrel
   by_cases hlt : k < s.size
   · have hc := s[k].toNat_lt
     by_cases hb : charOk s[k] = true
     · have hp' : Hid ((s.data.toList.take (k + 1)).all charOk = true) := by show _ = _; rw [take_at s k hlt, List.all_append, hp.out]; simp [hb]
       have h4 : 33 ≤ s[k].toNat ∧ s[k].toNat ≤ 126 ∧ s[k].toNat ≠ 39 ∧ s[k].toNat ≠ 34 := by
         unfold charOk at hb; simp at hb; omega
       obtain ⟨b1, b2, b3, b4⟩ := h4
       have e3 : ((s[k].toNat : Int) == 39) = false := beq_eq_false_iff_ne.2 (by omega)
       have e4 : ((s[k].toNat : Int) == 34) = false := beq_eq_false_iff_ne.2 (by omega)
       clear hp hb
       go_wp2
       go_roundw
       case rel => exact ⟨trivial, k + 1, by omega, by go_num, hp'⟩
       case measure => simp [intOf]; omega
     · have hf : nameOk s = false := by
         unfold nameOk
         rw [Bool.and_eq_false_iff]; left
         rw [List.all_eq_false]
         exact ⟨s[k], mem_s s k hlt, hb⟩
       have HF : Hid _ := hf
       have h4 : s[k].toNat < 33 ∨ (33 ≤ s[k].toNat ∧ 126 < s[k].toNat) ∨ s[k].toNat = 39 ∨ s[k].toNat = 34 := by
         unfold charOk at hb; simp at hb; omega
       clear hp hb hf
       rcases h4 with h4 | ⟨h4, h5⟩ | h4 | h4
       all_goals go_wp2; go_ret; exact ⟨by rw [HF.out]; rfl, rfl⟩
   · have hf : nameOk s = true := by
       have := hp.out
       rw [List.take_of_length_le (by simp; omega)] at this
       unfold nameOk
       rw [this, Bool.true_and]
       exact decide_eq_true (by omega)
     have HF : Hid _ := hf
     clear hp hf
     go_wp2
     go_ret
     exact ⟨by rw [HF.out]; rfl, rfl⟩
end Go.Proofs.YtbkjcccbjnehbanGreatDoor

namespace Go.Proofs.YtbkjcccbjnehbanGreatDoor
open Go.RowKit
set_option maxHeartbeats 1000000 in
set_option maxRecDepth 20000 in
theorem take_number (N g : Nat) (t : ByteArray) (mv : Value) (L : List Sg) (b i : Nat) (w : World) (h : SnAt N g t mv w L b) (hs : (t.size : Int) ≤ 3000) (hL : L.length + t.size ≤ 3000 + i) (hi : i < t.size) (hasc : t[i].toNat < 128) (hT : ∀ w', Fr N g w w' → Lib.Utf8Tabs 0 1 w') :
   Calls Tryz.prog 50 #[.pointer (some ⟨g, 0, none⟩), .int .i64 (i : Int)] w (Res N g t mv (L ++ [(numSg t i).1]) (numSg t i).2 w) := by
 obtain ⟨c0, _, _, _, hgN, hNw⟩ := h.cells
 have HBAD : Hid (Calls Tryz.prog 54 #[.pointer (some ⟨g, 0, none⟩), .int .i64 (i : Int)] w (Res N g t mv (L ++ [(badSg t i).1]) (i + 1) w)) := by
   have := take_bad N g t mv L b i w h hs hL hi hT
   rw [decode_ascii t i hi hasc] at this
   exact this
 have HADD : Hid (∀ (a : Int) (j : Nat), Calls Tryz.prog 69 #[.pointer (some ⟨g, 0, none⟩), .agg #[.int .i64 3, .string ⟨#[]⟩, .int .i64 a, .int .i64 (i : Int), .bool false], .int .i64 (j : Int)] w fun r w' => (∃ x, r = .returned x) ∧ SnAt N g t mv w' (L ++ [(mkSg t 3 ⟨#[]⟩ a i j).1]) j ∧ Fr N g w w') := fun a j => add_any N g t mv L b 3 ⟨#[]⟩ a i j _ w h (by omega) rfl
 obtain ⟨SG, hSG⟩ : ∃ SG, SG = numSg t i := ⟨_, rfl⟩
 rw [← hSG]
 have HSG : Hid (SG = numSg t i) := hSG
 clear h hT hasc hSG
 go_enter Tryz.func50, Tryz.ntmps50
 go_wp2
 go_loopw [4, 5] (fun va vj wr => wr = w ∧ ∃ (j : Nat) (a : Int), i ≤ j ∧ j ≤ t.size ∧ vj = .int .i64 (j : Int) ∧ va = .int .i64 a ∧ 0 ≤ a ∧ a ≤ 999999999 ∧ Hid (NumAt t i j a)) (fun _ vj _ => t.size - (intOf vj).toNat)
 case atStart => exact ⟨rfl, i, 0, Nat.le_refl _, by omega, rfl, rfl, by omega, by omega, NumAt.start t i⟩
 case round =>
   obtain ⟨rfl, j, a, hij, hj, rfl, rfl, ha0, ha1, HN⟩ := hrel
   by_cases hlt : j < t.size
   · have hcj := t[j].toNat_lt
     cases hf : isFig t[j] with
     | true =>
       have hfg : 48 ≤ t[j].toNat ∧ t[j].toNat ≤ 57 := by unfold isFig at hf; exact of_decide_eq_true hf
       obtain ⟨hf1, hf2⟩ := hfg
       have HN' : Hid (NumAt t i (j + 1) (a * 10 + ((t[j].toNat : Int) - 48))) := by
         have := HN.out.next ha1 hij hlt hf
         rw [show 10 * a + (t[j].toNat : Int) - 48 = a * 10 + ((t[j].toNat : Int) - 48) by omega] at this
         exact this
       by_cases hm : a * 10 + ((t[j].toNat : Int) - 48) ≤ 999999999
       · clear hf HN HSG HBAD HADD
         go_wp2
         go_roundw
         case rel => exact ⟨trivial, j + 1, _, by omega, by omega, by go_num, rfl, by omega, by omega, HN'⟩
         case measure => simp [intOf]; omega
       · have HB : Hid (SG = badSg t i) := by show _ = _; rw [HSG.out]; exact HN'.out.over (by omega)
         clear hf HN HN' HSG HADD
         go_wp2_with (go_at_call 54; refine (Calls.mono HBAD.out ?_); rintro r w2 ⟨⟨x, rfl⟩, hs2, hf2⟩; have HS2 : Hid _ := hs2; have HF2 : Hid _ := hf2; clear hs2 hf2)
         refine bodyPost_ret_by (results_none rfl _ _ _) rfl ?_
         exact ⟨⟨_, rfl⟩, by rw [HB.out]; exact HS2.out, HF2.out⟩
     | false =>
       have HB : Hid (SG = mkSg t 3 ⟨#[]⟩ a i j) := by show _ = _; rw [HSG.out]; exact HN.out.done ha1 hij (fun _ => hf)
       have hnf : ¬ (48 ≤ t[j].toNat ∧ t[j].toNat ≤ 57) := by unfold isFig at hf; exact of_decide_eq_false hf
       have HAJ : Hid _ := HADD.out a j
       clear hf HN HSG HBAD HADD
       by_cases h48 : 48 ≤ t[j].toNat
       · have h57 : ¬ t[j].toNat ≤ 57 := fun h => hnf ⟨h48, h⟩
         clear hnf
         go_wp2_with (go_at_call 69; refine (Calls.mono HAJ.out ?_); rintro r w2 ⟨⟨x, rfl⟩, hs2, hf2⟩; have HS2 : Hid _ := hs2; have HF2 : Hid _ := hf2; clear hs2 hf2)
         refine bodyPost_end (results_none rfl _ _ _) rfl ?_
         exact ⟨⟨_, rfl⟩, by rw [HB.out]; exact HS2.out, HF2.out⟩
       · clear hnf
         go_wp2_with (go_at_call 69; refine (Calls.mono HAJ.out ?_); rintro r w2 ⟨⟨x, rfl⟩, hs2, hf2⟩; have HS2 : Hid _ := hs2; have HF2 : Hid _ := hf2; clear hs2 hf2)
         refine bodyPost_end (results_none rfl _ _ _) rfl ?_
         exact ⟨⟨_, rfl⟩, by rw [HB.out]; exact HS2.out, HF2.out⟩
   · have HB : Hid (SG = mkSg t 3 ⟨#[]⟩ a i j) := by show _ = _; rw [HSG.out]; exact HN.out.done ha1 hij (fun h => absurd h hlt)
     have HAJ : Hid _ := HADD.out a j
     clear HN HSG HBAD HADD
     go_wp2_with (go_at_call 69; refine (Calls.mono HAJ.out ?_); rintro r w2 ⟨⟨x, rfl⟩, hs2, hf2⟩; have HS2 : Hid _ := hs2; have HF2 : Hid _ := hf2; clear hs2 hf2)
     refine bodyPost_end (results_none rfl _ _ _) rfl ?_
     exact ⟨⟨_, rfl⟩, by rw [HB.out]; exact HS2.out, HF2.out⟩
set_option maxHeartbeats 1000000 in
set_option maxRecDepth 20000 in
theorem take_quoted (N g : Nat) (t : ByteArray) (mv : Value) (L : List Sg) (b i : Nat) (w : World) (h : SnAt N g t mv w L b) (hs : (t.size : Int) ≤ 3000) (hL : L.length + t.size ≤ 3000 + i) (hi : i < t.size) (hasc : t[i].toNat < 128) (hT : ∀ w', Fr N g w w' → Lib.Utf8Tabs 0 1 w') :
   Calls Tryz.prog 49 #[.pointer (some ⟨g, 0, none⟩), .int .i64 (i : Int)] w (Res N g t mv (L ++ [(quotSg t i).1]) (quotSg t i).2 w) := by
 obtain ⟨c0, _, _, _, hgN, hNw⟩ := h.cells
 have HBAD : Hid (Calls Tryz.prog 54 #[.pointer (some ⟨g, 0, none⟩), .int .i64 (i : Int)] w (Res N g t mv (L ++ [(badSg t i).1]) (i + 1) w)) := by
   have := take_bad N g t mv L b i w h hs hL hi hT
   rw [decode_ascii t i hi hasc] at this
   exact this
 have hrl := run_le t not39 (i + 1)
 obtain ⟨r, hr⟩ : ∃ r, r = run t not39 (i + 1) := ⟨_, rfl⟩
 have HIX : Lib.indexByte (t.extract (i + 1) t.size).data.toList 39 = if i + 1 + r < t.size then (r : Int) else -1 := by
   rw [ext_list, hr]
   refine index_run t 39 not39 (fun x => ?_) _ (i + 1) (Nat.le_refl _)
   unfold not39
   rw [Bool.eq_iff_iff]
   simp [← UInt8.toNat_inj]
 have HX := strings_index (t.extract (i + 1) t.size) 39
 have e39 : (39 : Int).toNat.toUInt8 = 39 := rfl
 rw [e39, HIX] at HX
 have hq : quotSg t i = if i + 1 + r < t.size ∧ nameOk (t.extract (i + 1) (i + 1 + r)) = true then mkSg t 1 (t.extract (i + 1) (i + 1 + r)) 0 i (i + r + 2) else badSg t i := by unfold quotSg; rw [← hr]
 rw [← hr] at hrl
 obtain ⟨SG, hSG⟩ : ∃ SG, SG = quotSg t i := ⟨_, rfl⟩
 rw [← hSG]
 rw [← hSG] at hq
 have HS : Hid (SnAt N g t mv w L b) := h
 have HL : Hid (L.length ≤ 3000) := by show _ ≤ _; omega
 clear h hT hasc hSG HIX hr e39 hL
 by_cases hc : i + 1 + r < t.size
 · rw [if_pos hc] at HX
   replace HX : Hid _ := HX
   have hsz : (t.extract (i + 1) (i + 1 + r)).size ≤ 1048576 := by rw [ByteArray.size_extract]; omega
   have HNM : Hid (∀ w, Calls Tryz.prog 71 #[.string (t.extract (i + 1) (i + 1 + r))] w fun e w' => e = .returned (.bool (nameOk (t.extract (i + 1) (i + 1 + r)))) ∧ w' = w) := implName _ (by unfold maxLen; omega)
   cases hn : nameOk (t.extract (i + 1) (i + 1 + r)) with
   | true =>
     rw [hn] at HNM
     have HB : Hid (SG = mkSg t 1 (t.extract (i + 1) (i + 1 + r)) 0 i (i + r + 2)) := by show _ = _; rw [hq, if_pos ⟨hc, hn⟩]
     have HCL : Hid _ := clone_any (t.extract (i + 1) (i + 1 + r)) w hsz
     clear hq hn HBAD hsz
     go_enter Tryz.func49, Tryz.ntmps49
     go_wp2_with (first
       | (go_at_call 68; refine (HX.out _).mono ?_; rintro e w' ⟨rfl, rfl⟩)
       | (go_at_call 71; refine (HNM.out _).mono ?_; rintro e w' ⟨rfl, rfl⟩)
       | (go_at_call 70; go_loud (refine (Calls.mono HCL.out ?_)); rintro e w1 ⟨rfl, hb1⟩; have HB1 : Hid (Below _ _ w1) := hb1; clear hb1; have HA : Hid _ := add_any N g t mv L b 1 (t.extract (i + 1) (i + 1 + r)) 0 i (i + r + 2) _ w1 (HS.out.keep HB1.out) HL.out rfl)
       | (go_at_call 69; go_loud (refine (Calls.mono HA.out ?_)); rintro e w2 ⟨⟨x, rfl⟩, hs2, hf2⟩; have HS2 : Hid _ := hs2; have HF2 : Hid _ := hf2; clear hs2 hf2))
     refine bodyPost_end (results_none rfl _ _ _) rfl ?_
     exact ⟨⟨_, rfl⟩, by rw [HB.out]; exact HS2.out, (Fr.of_below HB1.out hNw).trans HF2.out⟩
   | false =>
     rw [hn] at HNM
     have HB : Hid (SG = badSg t i) := by show _ = _; rw [hq, if_neg (fun h => by rw [hn] at h; exact Bool.noConfusion h.2)]
     clear hq hn hsz HS HL
     go_enter Tryz.func49, Tryz.ntmps49
     go_wp2_with (first
       | (go_at_call 68; refine (HX.out _).mono ?_; rintro e w' ⟨rfl, rfl⟩)
       | (go_at_call 71; refine (HNM.out _).mono ?_; rintro e w' ⟨rfl, rfl⟩)
       | (go_at_call 54; go_loud (refine (Calls.mono HBAD.out ?_)); rintro e w2 ⟨⟨x, rfl⟩, hs2, hf2⟩; have HS2 : Hid _ := hs2; have HF2 : Hid _ := hf2; clear hs2 hf2))
     refine bodyPost_ret_by (results_none rfl _ _ _) rfl ?_
     exact ⟨⟨_, rfl⟩, by rw [HB.out]; exact HS2.out, HF2.out⟩
 · rw [if_neg hc] at HX
   replace HX : Hid _ := HX
   have HB : Hid (SG = badSg t i) := by show _ = _; rw [hq, if_neg (fun h => hc h.1)]
   clear hq HS HL hc hrl
   go_enter Tryz.func49, Tryz.ntmps49
   go_wp2_with (first
     | (go_at_call 68; refine (HX.out _).mono ?_; rintro e w' ⟨rfl, rfl⟩)
     | (go_at_call 54; go_loud (refine (Calls.mono HBAD.out ?_)); rintro e w2 ⟨⟨x, rfl⟩, hs2, hf2⟩; have HS2 : Hid _ := hs2; have HF2 : Hid _ := hf2; clear hs2 hf2))
   refine bodyPost_ret_by (results_none rfl _ _ _) rfl ?_
   exact ⟨⟨_, rfl⟩, by rw [HB.out]; exact HS2.out, HF2.out⟩
end Go.Proofs.YtbkjcccbjnehbanGreatDoor

namespace Go.Proofs.YtbkjcccbjnehbanGreatDoor
open Go.RowKit
def aloneE : Array MapEntry := #[{ key := .int .i32 40, val := .int .i64 4, born := 0 }, { key := .int .i32 41, val := .int .i64 4, born := 1 }, { key := .int .i32 91, val := .int .i64 4, born := 2 }, { key := .int .i32 93, val := .int .i64 4, born := 3 }, { key := .int .i32 44, val := .int .i64 4, born := 4 }, { key := .int .i32 124, val := .int .i64 4, born := 5 }, { key := .int .i32 33, val := .int .i64 1, born := 6 }, { key := .int .i32 59, val := .int .i64 1, born := 7 }]
theorem chk32 (d : Nat) (em : Bool) (w : World) (n : Int) : (Instr.checkKey em (d + 1) 21 (.int .i32 n)).run Tryz.prog w = .ok () w := by simp [Instr.checkKey, run_underlying Tryz.underlying21]
theorem ins32 (w : World) (es : Array MapEntry) (c : Nat) (k v : Int) (hf : Instr.findNow (.int .i32) (.int .i32 k) es.toList 0 = some none) :
   (Instr.mapUpdate 56 (.map (some w.heap.size)) (.int .i32 k) (.int .i64 v)).run Tryz.prog (w.alloc (.map es c)) = .ok () (w.alloc (.map (es.push { key := .int .i32 k, val := .int .i64 v, born := c }) (c + 1))) := by
 have h1 : (w.alloc (.map es c)).heap[w.heap.size]? = some (.map es c) := heap_alloc_new w _
 have hc := chk32 9999 false (w.alloc (.map es c)) k
 have he : ({ (w.alloc (.map es c)) with heap := (w.alloc (.map es c)).heap.setIfInBounds w.heap.size (.map (es.push { key := .int .i32 k, val := .int .i64 v, born := c }) (c + 1)) } : World) = w.alloc (.map (es.push { key := .int .i32 k, val := .int .i64 v, born := c }) (c + 1)) := by
   have hh : ∀ (A B : Obj), (w.heap.push A).setIfInBounds w.heap.size B = w.heap.push B := fun A B => by
     apply Array.ext_getElem?
     intro j
     rw [Array.getElem?_setIfInBounds, Array.getElem?_push, Array.getElem?_push]
     by_cases hj : w.heap.size = j
     · subst hj; simp
     · rw [if_neg hj]
       by_cases hj2 : j = w.heap.size
       · exact absurd hj2.symm hj
       · rw [if_neg hj2, if_neg hj2]
   show ({ w with heap := (w.heap.push _).setIfInBounds w.heap.size _ } : World) = { w with heap := w.heap.push _ }
   rw [hh]
 simp [Instr.mapUpdate, run_underlying Tryz.underlying56, run_underlying Tryz.underlying21, MapKept.run_getObj_map h1, hc, Instr.findKey, hf, MapKept.run_setObj_map _ h1]
 exact he
theorem kinds_alone (w : World) :
   Calls Tryz.prog 30 #[] w fun e w' => e = .returned (.map (some w.heap.size)) ∧ w' = w.alloc (.map aloneE 8) := by
 have x0 := ins32 w #[] 0 40 4 (by simp [Instr.findNow])
 have x1 := ins32 w #[{ key := .int .i32 40, val := .int .i64 4, born := 0 }] 1 41 4 (by simp [Instr.findNow, Instr.sameNow])
 have x2 := ins32 w #[{ key := .int .i32 40, val := .int .i64 4, born := 0 }, { key := .int .i32 41, val := .int .i64 4, born := 1 }] 2 91 4 (by simp [Instr.findNow, Instr.sameNow])
 have x3 := ins32 w #[{ key := .int .i32 40, val := .int .i64 4, born := 0 }, { key := .int .i32 41, val := .int .i64 4, born := 1 }, { key := .int .i32 91, val := .int .i64 4, born := 2 }] 3 93 4 (by simp [Instr.findNow, Instr.sameNow])
 have x4 := ins32 w #[{ key := .int .i32 40, val := .int .i64 4, born := 0 }, { key := .int .i32 41, val := .int .i64 4, born := 1 }, { key := .int .i32 91, val := .int .i64 4, born := 2 }, { key := .int .i32 93, val := .int .i64 4, born := 3 }] 4 44 4 (by simp [Instr.findNow, Instr.sameNow])
 have x5 := ins32 w #[{ key := .int .i32 40, val := .int .i64 4, born := 0 }, { key := .int .i32 41, val := .int .i64 4, born := 1 }, { key := .int .i32 91, val := .int .i64 4, born := 2 }, { key := .int .i32 93, val := .int .i64 4, born := 3 }, { key := .int .i32 44, val := .int .i64 4, born := 4 }] 5 124 4 (by simp [Instr.findNow, Instr.sameNow])
 have x6 := ins32 w #[{ key := .int .i32 40, val := .int .i64 4, born := 0 }, { key := .int .i32 41, val := .int .i64 4, born := 1 }, { key := .int .i32 91, val := .int .i64 4, born := 2 }, { key := .int .i32 93, val := .int .i64 4, born := 3 }, { key := .int .i32 44, val := .int .i64 4, born := 4 }, { key := .int .i32 124, val := .int .i64 4, born := 5 }] 6 33 1 (by simp [Instr.findNow, Instr.sameNow])
 have x7 := ins32 w #[{ key := .int .i32 40, val := .int .i64 4, born := 0 }, { key := .int .i32 41, val := .int .i64 4, born := 1 }, { key := .int .i32 91, val := .int .i64 4, born := 2 }, { key := .int .i32 93, val := .int .i64 4, born := 3 }, { key := .int .i32 44, val := .int .i64 4, born := 4 }, { key := .int .i32 124, val := .int .i64 4, born := 5 }, { key := .int .i32 33, val := .int .i64 1, born := 6 }] 7 59 1 (by simp [Instr.findNow, Instr.sameNow])
 have xm : (Instr.makeMap 56 none).run Tryz.prog w = .ok (.map (some w.heap.size)) (w.alloc (.map #[] 0)) := rfl
 simp only [List.push_toArray, List.cons_append, List.nil_append, Nat.reduceAdd, Nat.zero_add] at x0 x1 x2 x3 x4 x5 x6 x7
 go_enter Tryz.func30, Tryz.ntmps30
 go_wp2
 go_ret
 exact ⟨rfl, rfl⟩
def MapIn (w : World) (m : Nat) : Prop := w.heap[m]? = some (.map aloneE 8)
def aloneK (r : Int) : Int := if r = 40 ∨ r = 41 ∨ r = 91 ∨ r = 93 ∨ r = 44 ∨ r = 124 then 4 else if r = 33 ∨ r = 59 then 1 else 0
def aloneB (r : Int) : Bool := decide (r = 40 ∨ r = 41 ∨ r = 91 ∨ r = 93 ∨ r = 44 ∨ r = 124 ∨ r = 33 ∨ r = 59)
theorem look_alone (w : World) (m : Nat) (h : MapIn w m) (r : Int) :
   (Instr.lookup 56 (.map (some m)) (.int .i32 r) true).run Tryz.prog w = .ok (.tuple #[.int .i64 (aloneK r), .bool (aloneB r)]) w := by
 have hc := chk32 9999 aloneE.isEmpty w r
 have hc2 : ∀ r : Int, (Instr.checkKey false 10000 21 (.int .i32 r)).run Tryz.prog w = .ok () w := fun r => chk32 9999 false w r
 unfold MapIn at h
 by_cases h0 : aloneB r = true
 · unfold aloneB at h0
   rcases of_decide_eq_true h0 with rfl | rfl | rfl | rfl | rfl | rfl | rfl | rfl
   all_goals
     simp [Instr.lookup, run_underlying Tryz.underlying56, run_underlying Tryz.underlying21, MapKept.run_getObj_map h, hc2, Instr.findKey, aloneE, Instr.findNow, Instr.sameNow, aloneK, aloneB]
 · have h1 : ¬ (r = 40 ∨ r = 41 ∨ r = 91 ∨ r = 93 ∨ r = 44 ∨ r = 124 ∨ r = 33 ∨ r = 59) := fun h' => h0 (decide_eq_true h')
   have e40 : (r == 40) = false := beq_eq_false_iff_ne.2 (by omega)
   have e41 : (r == 41) = false := beq_eq_false_iff_ne.2 (by omega)
   have e91 : (r == 91) = false := beq_eq_false_iff_ne.2 (by omega)
   have e93 : (r == 93) = false := beq_eq_false_iff_ne.2 (by omega)
   have e44 : (r == 44) = false := beq_eq_false_iff_ne.2 (by omega)
   have e124 : (r == 124) = false := beq_eq_false_iff_ne.2 (by omega)
   have e33 : (r == 33) = false := beq_eq_false_iff_ne.2 (by omega)
   have e59 : (r == 59) = false := beq_eq_false_iff_ne.2 (by omega)
   have hk : aloneK r = 0 := by unfold aloneK; rw [if_neg (by omega), if_neg (by omega)]
   have hb : aloneB r = false := by simpa using h0
   have hfn : Instr.findNow (.int .i32) (.int .i32 r) aloneE.toList 0 = some none := by
     simp [aloneE, Instr.findNow, Instr.sameNow, e40, e41, e91, e93, e44, e124, e33, e59]
   simp [Instr.lookup, run_underlying Tryz.underlying56, run_underlying Tryz.underlying21, MapKept.run_getObj_map h, hc, Instr.findKey, hfn, hk, hb]
end Go.Proofs.YtbkjcccbjnehbanGreatDoor

namespace Go.Proofs.YtbkjcccbjnehbanGreatDoor
open Go.RowKit
theorem SnAt.set {N g : Nat} {t : ByteArray} {mv : Value} {w : World} {L : List Sg} {b : Nat} (h : SnAt N g t mv w L b) (e : Nat) : SnAt N g t mv (w.setCell ⟨g, 3, none⟩ (.int .i64 (e : Int))) L e ∧ Fr N g w (w.setCell ⟨g, 3, none⟩ (.int .i64 (e : Int))) := by
 obtain ⟨vo, h1, h2, h3, h4⟩ := h
 refine ⟨⟨vo, ?_, ?_, h3, by rw [set_size]; exact h4⟩, ⟨rfl, rfl, rfl, by rw [set_size]; exact Nat.le_refl _, fun k _ hk => set_oth _ hk⟩⟩
 · have := set_at (i := 3) h1 (.int .i64 (e : Int))
   simpa using this
 · refine h2.turn fun k hk => set_oth _ ?_
   rcases h2.2 with ⟨e2, _⟩ | ⟨g3, cap, cur, e2, hge, _⟩
   · rw [e2] at hk; cases hk
   · rw [e2] at hk; simp [Value.ownBlock] at hk; omega
def takeTo (t : ByteArray) (i : Nat) : List Sg × Nat :=
 if (at8 t i).toNat < 128 then ((stepAt t i).1.toList, (stepAt t i).2) else ((List.range (Utf8.decode t i).2).map (fun q => (badSg t (i + q)).1), i + (Utf8.decode t i).2)
theorem alone_no {r : Int} (h : ¬ (r = 40 ∨ r = 41 ∨ r = 91 ∨ r = 93 ∨ r = 44 ∨ r = 124 ∨ r = 33 ∨ r = 59)) : aloneB r = false ∧ aloneK r = 0 := by
 refine ⟨decide_eq_false h, ?_⟩
 unfold aloneK; rw [if_neg (by omega), if_neg (by omega)]
set_option maxHeartbeats 4000000 in
set_option maxRecDepth 20000 in
theorem take_any (N g m : Nat) (t : ByteArray) (L : List Sg) (b i : Nat) (r : Int) (w : World) (h : SnAt N g t (.map (some m)) w L b) (hM : MapIn w m) (hs : (t.size : Int) ≤ 3000) (hL : L.length + t.size ≤ 3000 + i) (hi : i < t.size) (hT : ∀ w', Fr N g w w' → Lib.Utf8Tabs 0 1 w')
   (hr : (t[i].toNat < 128 ∧ r = (t[i].toNat : Int)) ∨ (128 ≤ t[i].toNat ∧ 128 ≤ r ∧ r ≤ 2147483647)) :
   Calls Tryz.prog 31 #[.pointer (some ⟨g, 0, none⟩), .int .i64 (i : Int), .int .i32 r] w (Res N g t (.map (some m)) (L ++ (takeTo t i).1) (takeTo t i).2 w) := by
 obtain ⟨c0, c1, c3, cf, hgN, hNw⟩ := h.cells
 have f3 := cf 3
 have lk := look_alone w m hM r
 have HS : Hid (SnAt N g t (.map (some m)) w L b) := h
 have hL1 : L.length ≤ 3000 := by omega
 obtain ⟨TT, hTT⟩ : ∃ TT, TT = takeTo t i := ⟨_, rfl⟩
 rw [← hTT]
 rcases hr with ⟨hasc, hr⟩ | ⟨hhi, hr1, hr2⟩
 · have hst : TT = ((stepAt t i).1.toList, (stepAt t i).2) := by rw [hTT]; unfold takeTo; rw [at8_eq t i hi, if_pos hasc]
   have hbl : isBlank t[i] = decide (t[i].toNat = 32 ∨ t[i].toNat = 9 ∨ t[i].toNat = 10) := rfl
   clear hTT
   by_cases hB : t[i].toNat = 32 ∨ t[i].toNat = 9 ∨ t[i].toNat = 10
   · have HD : Hid (TT = ([], i + 1)) := by show _ = _; rw [hst]; unfold stepAt; rw [at8_eq t i hi, hbl, decide_eq_true hB]; rfl
     obtain ⟨hb1, hb2⟩ := alone_no (r := r) (by omega)
     rw [hb1, hb2] at lk
     have HST : Hid _ := HS.out.set (i + 1)
     clear hst hbl hL1 hL hT hM h
     have hB' : r = 32 ∨ r = 9 ∨ r = 10 := by omega
     clear hB hr hasc
     rcases hB' with rfl | rfl | rfl
     · go_enter Tryz.func31, Tryz.ntmps31
       go_wp2
       refine bodyPost_end (results_none rfl _ _ _) rfl ?_
       exact ⟨⟨_, rfl⟩, by rw [HD.out]; rw [List.append_nil]; exact HST.out.1, HST.out.2⟩
     · go_enter Tryz.func31, Tryz.ntmps31
       go_wp2
       refine bodyPost_end (results_none rfl _ _ _) rfl ?_
       exact ⟨⟨_, rfl⟩, by rw [HD.out]; rw [List.append_nil]; exact HST.out.1, HST.out.2⟩
     · go_enter Tryz.func31, Tryz.ntmps31
       go_wp2
       refine bodyPost_end (results_none rfl _ _ _) rfl ?_
       exact ⟨⟨_, rfl⟩, by rw [HD.out]; rw [List.append_nil]; exact HST.out.1, HST.out.2⟩
   · have hbf : isBlank t[i] = false := decide_eq_false hB
     by_cases h37 : t[i].toNat = 37
     · have HD : Hid (TT = ([], i + run t not10 i)) := by show _ = _; rw [hst]; unfold stepAt; rw [at8_eq t i hi, hbf, if_pos h37]; rfl
       obtain ⟨hb1, hb2⟩ := alone_no (r := r) (by omega)
       rw [hb1, hb2] at lk
       have HST : Hid _ := HS.out.set (i + run t not10 i)
       have HLE : Hid _ := line_end N g t _ L b i w h hs (by omega)
       generalize i + run t not10 i = E at *
       have e32 : (r == 32) = false := beq_eq_false_iff_ne.2 (by omega)
       have e9 : (r == 9) = false := beq_eq_false_iff_ne.2 (by omega)
       have e10 : (r == 10) = false := beq_eq_false_iff_ne.2 (by omega)
       have e37 : (r == 37) = true := beq_iff_eq.2 (by omega)
       clear hst hbl hbf hL1 hL hT hM h hB hr hasc h37
       go_enter Tryz.func31, Tryz.ntmps31
       go_wp2_with (go_at_call 46; go_loud (refine (Calls.mono HLE.out ?_)); rintro e w' ⟨rfl, hw'⟩; subst hw')
       refine bodyPost_end (results_none rfl _ _ _) rfl ?_
       exact ⟨⟨_, rfl⟩, by rw [HD.out]; rw [List.append_nil]; exact HST.out.1, HST.out.2⟩
     · have hsg : TT = ([(signAt t i).1], (signAt t i).2) := by rw [hst]; unfold stepAt; rw [at8_eq t i hi, hbf, if_neg h37]; rfl
       have hd : signAt t i = if isSmall t[i] then nameSg t 1 isWord i
         else if isGreat t[i] then nameSg t 2 isWord i
         else if isFig t[i] then numSg t i
         else if t[i].toNat = 39 then quotSg t i
         else if isLone t[i] then oneSg t 1 i
         else if isMark t[i] then oneSg t 4 i
         else if isEnd t i then oneSg t 5 i
         else if isSym t[i] then nameSg t 1 isSym i
         else badSg t i := by unfold signAt; rw [at8_eq t i hi]
       clear hst hbl hbf
       by_cases h1 : isSmall t[i] = true
       · have HD : Hid (TT = ([(nameSg t 1 isWord i).1], (nameSg t 1 isWord i).2)) := by show _ = _; rw [hsg, hd, h1]; rfl
         have hp : isWord t[i] = true := by unfold isWord; rw [h1]; rfl
         have HT : Hid _ := take_word N g t _ L b i 1 w h hs hL hi hp hasc hT
         have h1' := of_decide_eq_true h1
         obtain ⟨q1, q2⟩ : 97 ≤ r ∧ r ≤ 122 := by omega
         obtain ⟨hb1, hb2⟩ := alone_no (r := r) (by omega)
         rw [hb1, hb2] at lk
         have e32 : (r == 32) = false := beq_eq_false_iff_ne.2 (by omega)
         have e9 : (r == 9) = false := beq_eq_false_iff_ne.2 (by omega)
         have e10 : (r == 10) = false := beq_eq_false_iff_ne.2 (by omega)
         have e37 : (r == 37) = false := beq_eq_false_iff_ne.2 (by omega)
         have e46 : (r == 46) = false := beq_eq_false_iff_ne.2 (by omega)
         have e39 : (r == 39) = false := beq_eq_false_iff_ne.2 (by omega)
         clear hsg hd h1 hp h1' hr hL1 hL hT hM h hB h37 hasc HS
         go_enter Tryz.func31, Tryz.ntmps31
         go_wp2_with (go_at_call 51; go_loud (refine (Calls.mono HT.out ?_)); rintro e w2 ⟨⟨x, rfl⟩, hs2, hf2⟩; have HS2 : Hid _ := hs2; have HF2 : Hid _ := hf2; clear hs2 hf2)
         all_goals
           refine bodyPost_end (results_none rfl _ _ _) rfl ?_
           exact ⟨⟨_, rfl⟩, by rw [HD.out]; exact HS2.out, HF2.out⟩
       have h1f : isSmall t[i] = false := by simpa using h1
       have h1' : ¬ (97 ≤ t[i].toNat ∧ t[i].toNat ≤ 122) := of_decide_eq_false h1f
       by_cases h2 : isGreat t[i] = true
       · have HD : Hid (TT = ([(nameSg t 2 isWord i).1], (nameSg t 2 isWord i).2)) := by show _ = _; rw [hsg, hd, h1f, h2]; rfl
         have hp : isWord t[i] = true := by unfold isWord; rw [h2]; simp
         have HT : Hid _ := take_word N g t _ L b i 2 w h hs hL hi hp hasc hT
         have h2' := of_decide_eq_true h2
         obtain ⟨hb1, hb2⟩ := alone_no (r := r) (by omega)
         rw [hb1, hb2] at lk
         have e32 : (r == 32) = false := beq_eq_false_iff_ne.2 (by omega)
         have e9 : (r == 9) = false := beq_eq_false_iff_ne.2 (by omega)
         have e10 : (r == 10) = false := beq_eq_false_iff_ne.2 (by omega)
         have e37 : (r == 37) = false := beq_eq_false_iff_ne.2 (by omega)
         have e46 : (r == 46) = false := beq_eq_false_iff_ne.2 (by omega)
         have e39 : (r == 39) = false := beq_eq_false_iff_ne.2 (by omega)
         have q : (65 ≤ r ∧ r ≤ 90) ∨ r = 95 := by omega
         clear hsg hd h1 h2 hp h1' h2' h1f hr hL1 hL hT hM h hB h37 hasc HS
         rcases q with ⟨q1, q2⟩ | q
         · go_enter Tryz.func31, Tryz.ntmps31
           go_wp2_with (go_at_call 51; go_loud (refine (Calls.mono HT.out ?_)); rintro e w2 ⟨⟨x, rfl⟩, hs2, hf2⟩; have HS2 : Hid _ := hs2; have HF2 : Hid _ := hf2; clear hs2 hf2)
           all_goals
             refine bodyPost_end (results_none rfl _ _ _) rfl ?_
             exact ⟨⟨_, rfl⟩, by rw [HD.out]; exact HS2.out, HF2.out⟩
         · subst q
           go_enter Tryz.func31, Tryz.ntmps31
           go_wp2_with (go_at_call 51; go_loud (refine (Calls.mono HT.out ?_)); rintro e w2 ⟨⟨x, rfl⟩, hs2, hf2⟩; have HS2 : Hid _ := hs2; have HF2 : Hid _ := hf2; clear hs2 hf2)
           all_goals
             refine bodyPost_end (results_none rfl _ _ _) rfl ?_
             exact ⟨⟨_, rfl⟩, by rw [HD.out]; exact HS2.out, HF2.out⟩
       have h2f : isGreat t[i] = false := by simpa using h2
       have h2' : ¬ ((65 ≤ t[i].toNat ∧ t[i].toNat ≤ 90) ∨ t[i].toNat = 95) := of_decide_eq_false h2f
       by_cases h3 : isFig t[i] = true
       · have HD : Hid (TT = ([(numSg t i).1], (numSg t i).2)) := by show _ = _; rw [hsg, hd, h1f, h2f, h3]; rfl
         have HT : Hid _ := take_number N g t _ L b i w h hs hL hi hasc hT
         have h3' := of_decide_eq_true h3
         obtain ⟨q1, q2⟩ : 48 ≤ r ∧ r ≤ 57 := by omega
         obtain ⟨hb1, hb2⟩ := alone_no (r := r) (by omega)
         rw [hb1, hb2] at lk
         have e32 : (r == 32) = false := beq_eq_false_iff_ne.2 (by omega)
         have e9 : (r == 9) = false := beq_eq_false_iff_ne.2 (by omega)
         have e10 : (r == 10) = false := beq_eq_false_iff_ne.2 (by omega)
         have e37 : (r == 37) = false := beq_eq_false_iff_ne.2 (by omega)
         have e46 : (r == 46) = false := beq_eq_false_iff_ne.2 (by omega)
         have e39 : (r == 39) = false := beq_eq_false_iff_ne.2 (by omega)
         clear hsg hd h1 h2 h3 h1' h2' h3' h1f h2f hr hL1 hL hT hM h hB h37 hasc HS
         go_enter Tryz.func31, Tryz.ntmps31
         go_wp2_with (go_at_call 50; go_loud (refine (Calls.mono HT.out ?_)); rintro e w2 ⟨⟨x, rfl⟩, hs2, hf2⟩; have HS2 : Hid _ := hs2; have HF2 : Hid _ := hf2; clear hs2 hf2)
         all_goals
           refine bodyPost_end (results_none rfl _ _ _) rfl ?_
           exact ⟨⟨_, rfl⟩, by rw [HD.out]; exact HS2.out, HF2.out⟩
       have h3f : isFig t[i] = false := by simpa using h3
       have h3' : ¬ (48 ≤ t[i].toNat ∧ t[i].toNat ≤ 57) := of_decide_eq_false h3f
       by_cases h4 : t[i].toNat = 39
       · have HD : Hid (TT = ([(quotSg t i).1], (quotSg t i).2)) := by show _ = _; rw [hsg, hd, h1f, h2f, h3f, if_pos h4]; rfl
         have HT : Hid _ := take_quoted N g t _ L b i w h hs hL hi hasc hT
         obtain ⟨hb1, hb2⟩ := alone_no (r := r) (by omega)
         rw [hb1, hb2] at lk
         have e32 : (r == 32) = false := beq_eq_false_iff_ne.2 (by omega)
         have e9 : (r == 9) = false := beq_eq_false_iff_ne.2 (by omega)
         have e10 : (r == 10) = false := beq_eq_false_iff_ne.2 (by omega)
         have e37 : (r == 37) = false := beq_eq_false_iff_ne.2 (by omega)
         have e46 : (r == 46) = false := beq_eq_false_iff_ne.2 (by omega)
         have e39 : (r == 39) = true := beq_iff_eq.2 (by omega)
         clear hsg hd h1 h2 h3 h1' h2' h3' h1f h2f h3f h4 hr hL1 hL hT hM h hB h37 hasc HS
         go_enter Tryz.func31, Tryz.ntmps31
         go_wp2_with (go_at_call 49; go_loud (refine (Calls.mono HT.out ?_)); rintro e w2 ⟨⟨x, rfl⟩, hs2, hf2⟩; have HS2 : Hid _ := hs2; have HF2 : Hid _ := hf2; clear hs2 hf2)
         all_goals
           refine bodyPost_end (results_none rfl _ _ _) rfl ?_
           exact ⟨⟨_, rfl⟩, by rw [HD.out]; exact HS2.out, HF2.out⟩
       by_cases h5 : isLone t[i] = true
       · have HD : Hid (TT = ([(oneSg t 1 i).1], (oneSg t 1 i).2)) := by show _ = _; rw [hsg, hd, h1f, h2f, h3f, if_neg h4, h5]; rfl
         have HT : Hid _ := add_piece N g t _ L b 1 i (i + 1) w h hL1 hs (by omega) (by omega)
         have h5' := of_decide_eq_true h5
         have hb1 : aloneB r = true := decide_eq_true (by omega)
         have hb2 : aloneK r = 1 := by unfold aloneK; rw [if_neg (by omega), if_pos (by omega)]
         rw [hb1, hb2] at lk
         have e32 : (r == 32) = false := beq_eq_false_iff_ne.2 (by omega)
         have e9 : (r == 9) = false := beq_eq_false_iff_ne.2 (by omega)
         have e10 : (r == 10) = false := beq_eq_false_iff_ne.2 (by omega)
         have e37 : (r == 37) = false := beq_eq_false_iff_ne.2 (by omega)
         clear hsg hd h1 h2 h3 h1' h2' h3' h1f h2f h3f h4 h5 h5' hr hL1 hL hT hM h hB h37 hasc HS hb1 hb2
         go_enter Tryz.func31, Tryz.ntmps31
         go_wp2_with (go_at_call 47; go_loud (refine (Calls.mono HT.out ?_)); rintro e w2 ⟨⟨x, rfl⟩, hs2, hf2⟩; have HS2 : Hid _ := hs2; have HF2 : Hid _ := hf2; clear hs2 hf2)
         all_goals
           refine bodyPost_end (results_none rfl _ _ _) rfl ?_
           exact ⟨⟨_, rfl⟩, by rw [HD.out]; exact HS2.out, HF2.out⟩
       have h5f : isLone t[i] = false := by simpa using h5
       have h5' : ¬ (t[i].toNat = 33 ∨ t[i].toNat = 59) := of_decide_eq_false h5f
       by_cases h6 : isMark t[i] = true
       · have HD : Hid (TT = ([(oneSg t 4 i).1], (oneSg t 4 i).2)) := by show _ = _; rw [hsg, hd, h1f, h2f, h3f, if_neg h4, h5f, h6]; rfl
         have HT : Hid _ := add_piece N g t _ L b 4 i (i + 1) w h hL1 hs (by omega) (by omega)
         have h6' := of_decide_eq_true h6
         have hb1 : aloneB r = true := decide_eq_true (by omega)
         have hb2 : aloneK r = 4 := by unfold aloneK; rw [if_pos (by omega)]
         rw [hb1, hb2] at lk
         have e32 : (r == 32) = false := beq_eq_false_iff_ne.2 (by omega)
         have e9 : (r == 9) = false := beq_eq_false_iff_ne.2 (by omega)
         have e10 : (r == 10) = false := beq_eq_false_iff_ne.2 (by omega)
         have e37 : (r == 37) = false := beq_eq_false_iff_ne.2 (by omega)
         clear hsg hd h1 h2 h3 h1' h2' h3' h1f h2f h3f h4 h6 h6' hr hL1 hL hT hM h hB h37 hasc HS hb1 hb2
         go_enter Tryz.func31, Tryz.ntmps31
         go_wp2_with (go_at_call 47; go_loud (refine (Calls.mono HT.out ?_)); rintro e w2 ⟨⟨x, rfl⟩, hs2, hf2⟩; have HS2 : Hid _ := hs2; have HF2 : Hid _ := hf2; clear hs2 hf2)
         all_goals
           refine bodyPost_end (results_none rfl _ _ _) rfl ?_
           exact ⟨⟨_, rfl⟩, by rw [HD.out]; exact HS2.out, HF2.out⟩
       have h6f : isMark t[i] = false := by simpa using h6
       have h6' : ¬ (t[i].toNat = 40 ∨ t[i].toNat = 41 ∨ t[i].toNat = 91 ∨ t[i].toNat = 93 ∨ t[i].toNat = 44 ∨ t[i].toNat = 124) := of_decide_eq_false h6f
       obtain ⟨hb1, hb2⟩ := alone_no (r := r) (by omega)
       rw [hb1, hb2] at lk
       by_cases h7 : isEnd t i = true
       · have HD : Hid (TT = ([(oneSg t 5 i).1], (oneSg t 5 i).2)) := by show _ = _; rw [hsg, hd, h1f, h2f, h3f, if_neg h4, h5f, h6f, h7]; rfl
         have HT : Hid _ := add_piece N g t _ L b 5 i (i + 1) w h hL1 hs (by omega) (by omega)
         have h46 : t[i].toNat = 46 := Classical.byContradiction fun hh => by rw [isEnd_no hi hh] at h7; exact Bool.noConfusion h7
         have HE := ends_at N g t _ L b i w h hs hi h46
         rw [h7] at HE
         replace HE : Hid _ := HE
         have e32 : (r == 32) = false := beq_eq_false_iff_ne.2 (by omega)
         have e9 : (r == 9) = false := beq_eq_false_iff_ne.2 (by omega)
         have e10 : (r == 10) = false := beq_eq_false_iff_ne.2 (by omega)
         have e37 : (r == 37) = false := beq_eq_false_iff_ne.2 (by omega)
         have e46 : (r == 46) = true := beq_iff_eq.2 (by omega)
         clear hsg hd h1 h2 h3 h1' h2' h3' h1f h2f h3f h4 h5 h5' h5f h6 h6' h6f h7 h46 hr hL1 hL hT hM h hB h37 hasc HS hb1 hb2
         go_enter Tryz.func31, Tryz.ntmps31
         go_wp2_with (first | (go_at_call 48; go_loud (refine (Calls.mono HE.out ?_)); rintro e w' ⟨rfl, hw'⟩; subst hw') | (go_at_call 47; go_loud (refine (Calls.mono HT.out ?_)); rintro e w2 ⟨⟨x, rfl⟩, hs2, hf2⟩; have HS2 : Hid _ := hs2; have HF2 : Hid _ := hf2; clear hs2 hf2))
         all_goals
           refine bodyPost_end (results_none rfl _ _ _) rfl ?_
           exact ⟨⟨_, rfl⟩, by rw [HD.out]; exact HS2.out, HF2.out⟩
       have h7f : isEnd t i = false := by simpa using h7
       have HY0 := impl_sym t[i] w
       have hcc := t[i].toNat_lt
       subst hr
       by_cases h8 : isSym t[i] = true
       · have HD : Hid (TT = ([(nameSg t 1 isSym i).1], (nameSg t 1 isSym i).2)) := by show _ = _; rw [hsg, hd, h1f, h2f, h3f, if_neg h4, h5f, h6f, h7f, h8]; rfl
         have HT : Hid _ := take_sym N g t _ L b i 1 w h hs hL hi h8 hasc hT
         rw [h8] at HY0
         have HY : Hid _ := HY0
         by_cases h46 : t[i].toNat = 46
         · have HE := ends_at N g t _ L b i w h hs hi h46
           rw [h7f] at HE
           replace HE : Hid _ := HE
           have e32 : ((t[i].toNat : Int) == 32) = false := beq_eq_false_iff_ne.2 (by omega)
           have e9 : ((t[i].toNat : Int) == 9) = false := beq_eq_false_iff_ne.2 (by omega)
           have e10 : ((t[i].toNat : Int) == 10) = false := beq_eq_false_iff_ne.2 (by omega)
           have e37 : ((t[i].toNat : Int) == 37) = false := beq_eq_false_iff_ne.2 (by omega)
           have e46 : ((t[i].toNat : Int) == 46) = true := beq_iff_eq.2 (by omega)
           have e39 : ((t[i].toNat : Int) == 39) = false := beq_eq_false_iff_ne.2 (by omega)
           have e95 : ((t[i].toNat : Int) == 95) = false := beq_eq_false_iff_ne.2 (by omega)
           clear hsg hd h1 h2 h3 h1f h2f h3f h4 h5 h5f h6 h6f h7 h7f h8 hL1 hL hT hM h hB h37 HS hb1 hb2 HY0 h46
           go_enter Tryz.func31, Tryz.ntmps31
           go_wp2_with (first | (go_at_call 48; go_loud (refine (Calls.mono HE.out ?_)); rintro e w' ⟨rfl, hw'⟩; subst hw') | (go_at_call 53; go_loud (refine (Calls.mono HY.out ?_)); rintro e w' ⟨rfl, hw'⟩; subst hw') | (go_at_call 51; go_loud (refine (Calls.mono HT.out ?_)); rintro e w2 ⟨⟨x, rfl⟩, hs2, hf2⟩; have HS2 : Hid _ := hs2; have HF2 : Hid _ := hf2; clear hs2 hf2))
           all_goals
             refine bodyPost_end (results_none rfl _ _ _) rfl ?_
             exact ⟨⟨_, rfl⟩, by rw [HD.out]; exact HS2.out, HF2.out⟩
         ·
           have e32 : ((t[i].toNat : Int) == 32) = false := beq_eq_false_iff_ne.2 (by omega)
           have e9 : ((t[i].toNat : Int) == 9) = false := beq_eq_false_iff_ne.2 (by omega)
           have e10 : ((t[i].toNat : Int) == 10) = false := beq_eq_false_iff_ne.2 (by omega)
           have e37 : ((t[i].toNat : Int) == 37) = false := beq_eq_false_iff_ne.2 (by omega)
           have e46 : ((t[i].toNat : Int) == 46) = false := beq_eq_false_iff_ne.2 (by omega)
           have e39 : ((t[i].toNat : Int) == 39) = false := beq_eq_false_iff_ne.2 (by omega)
           have e95 : ((t[i].toNat : Int) == 95) = false := beq_eq_false_iff_ne.2 (by omega)
           clear hsg hd h1 h2 h3 h1f h2f h3f h4 h5 h5f h6 h6f h7 h7f h8 hL1 hL hT hM h hB h37 HS hb1 hb2 HY0 h46
           go_enter Tryz.func31, Tryz.ntmps31
           go_wp2_with (first | (go_at_call 53; go_loud (refine (Calls.mono HY.out ?_)); rintro e w' ⟨rfl, hw'⟩; subst hw') | (go_at_call 51; go_loud (refine (Calls.mono HT.out ?_)); rintro e w2 ⟨⟨x, rfl⟩, hs2, hf2⟩; have HS2 : Hid _ := hs2; have HF2 : Hid _ := hf2; clear hs2 hf2))
           all_goals
             refine bodyPost_end (results_none rfl _ _ _) rfl ?_
             exact ⟨⟨_, rfl⟩, by rw [HD.out]; exact HS2.out, HF2.out⟩
       · have h8f : isSym t[i] = false := by simpa using h8
         have HD : Hid (TT = ([(badSg t i).1], i + 1)) := by show _ = _; rw [hsg, hd, h1f, h2f, h3f, if_neg h4, h5f, h6f, h7f, h8f]; rfl
         have HT : Hid (Calls Tryz.prog 54 #[.pointer (some ⟨g, 0, none⟩), .int .i64 (i : Int)] w (Res N g t (.map (some m)) (L ++ [(badSg t i).1]) (i + 1) w)) := by
           have := take_bad N g t _ L b i w h hs hL hi hT
           rw [decode_ascii t i hi hasc] at this
           exact this
         rw [h8f] at HY0
         have HY : Hid _ := HY0
         have h46 : t[i].toNat ≠ 46 := fun hh => by
           have : isSym t[i] = true := by unfold isSym; have : t[i] = 46 := UInt8.toNat_inj.1 hh; rw [this]; rfl
           exact h8 this
         have e32 : ((t[i].toNat : Int) == 32) = false := beq_eq_false_iff_ne.2 (by omega)
         have e9 : ((t[i].toNat : Int) == 9) = false := beq_eq_false_iff_ne.2 (by omega)
         have e10 : ((t[i].toNat : Int) == 10) = false := beq_eq_false_iff_ne.2 (by omega)
         have e37 : ((t[i].toNat : Int) == 37) = false := beq_eq_false_iff_ne.2 (by omega)
         have e46 : ((t[i].toNat : Int) == 46) = false := beq_eq_false_iff_ne.2 (by omega)
         have e39 : ((t[i].toNat : Int) == 39) = false := beq_eq_false_iff_ne.2 (by omega)
         have e95 : ((t[i].toNat : Int) == 95) = false := beq_eq_false_iff_ne.2 (by omega)
         clear hsg hd h1 h2 h3 h1f h2f h3f h4 h5 h5f h6 h6f h7 h7f h8 h8f hL1 hL hT hM h hB h37 HS hb1 hb2 HY0 h46
         go_enter Tryz.func31, Tryz.ntmps31
         go_wp2_with (first | (go_at_call 53; go_loud (refine (Calls.mono HY.out ?_)); rintro e w' ⟨rfl, hw'⟩; subst hw') | (go_at_call 54; go_loud (refine (Calls.mono HT.out ?_)); rintro e w2 ⟨⟨x, rfl⟩, hs2, hf2⟩; have HS2 : Hid _ := hs2; have HF2 : Hid _ := hf2; clear hs2 hf2))
         all_goals
           refine bodyPost_end (results_none rfl _ _ _) rfl ?_
           exact ⟨⟨_, rfl⟩, by rw [HD.out]; exact HS2.out, HF2.out⟩
 · have HD : Hid (TT = ((List.range (Utf8.decode t i).2).map (fun q => (badSg t (i + q)).1), i + (Utf8.decode t i).2)) := by show _ = _; rw [hTT]; unfold takeTo; rw [at8_eq t i hi, if_neg (by omega)]
   have HT : Hid _ := take_bad N g t _ L b i w h hs hL hi hT
   obtain ⟨hb1, hb2⟩ := alone_no (r := r) (by omega)
   rw [hb1, hb2] at lk
   have e32 : (r == 32) = false := beq_eq_false_iff_ne.2 (by omega)
   have e9 : (r == 9) = false := beq_eq_false_iff_ne.2 (by omega)
   have e10 : (r == 10) = false := beq_eq_false_iff_ne.2 (by omega)
   have e37 : (r == 37) = false := beq_eq_false_iff_ne.2 (by omega)
   have e46 : (r == 46) = false := beq_eq_false_iff_ne.2 (by omega)
   have e39 : (r == 39) = false := beq_eq_false_iff_ne.2 (by omega)
   have e95 : (r == 95) = false := beq_eq_false_iff_ne.2 (by omega)
   clear hTT hhi hL1 hL hT hM h HS hb1 hb2
   go_enter Tryz.func31, Tryz.ntmps31
   go_wp2_with (go_at_call 54; go_loud (refine (Calls.mono HT.out ?_)); rintro e w2 ⟨⟨x, rfl⟩, hs2, hf2⟩; have HS2 : Hid _ := hs2; have HF2 : Hid _ := hf2; clear hs2 hf2)
   all_goals
     refine bodyPost_end (results_none rfl _ _ _) rfl ?_
     exact ⟨⟨_, rfl⟩, by rw [HD.out]; exact HS2.out, HF2.out⟩
end Go.Proofs.YtbkjcccbjnehbanGreatDoor

import Derived.Test.YtbkjcccbjnehbanGreatDoorMh51
import Derived.Test.YtbkjcccbjnehbanGreatDoorMh5
import Derived.BigQuiet
import Derived.Laws.OwnMore
namespace Go.Proofs.YtbkjcccbjnehbanGreatDoor
open Go.RowKit Go.BigFrame
def strsV (xs : List (List UInt8)) : List Value := xs.map fun l => Value.string ⟨l.toArray⟩
theorem strsV_get (xs : List (List UInt8)) (j : Nat) (h : j < xs.length) : (strsV xs)[j]? = some (Value.string ⟨xs[j].toArray⟩) := by simp [strsV, h]
theorem owns_base {w : World} {B B' e size n : Nat} {v : Value} {xs : List Value} (h : w.ownsRow B e size v n xs) (hB : B' ≤ B) : w.ownsRow B' e size v n xs := by
 refine ⟨h.1, ?_⟩
 rcases h.2 with h | ⟨g, cap, cur, h1, h2, h3⟩
 · exact Or.inl h
 · exact Or.inr ⟨g, cap, cur, h1, Nat.le_trans hB h2, h3⟩
theorem owns_below {w w' : World} {B e size n : Nat} {v : Value} {xs : List Value} (h : w.ownsRow B e size v n xs) (hb : Below w.heap.size w w') : w'.ownsRow B e size v n xs := by
 refine ⟨h.1, ?_⟩
 rcases h.2 with h | ⟨g, cap, cur, h1, h2, h3, h4⟩
 · exact Or.inl h
 · exact Or.inr ⟨g, cap, cur, h1, h2, (hb.block g (Array.getElem?_eq_some_iff.1 h3).1).trans h3, h4⟩
theorem below_draw (B : Nat) (w : World) (n : Nat) : Below B w (w.drewN n) := ⟨rfl, rfl, rfl, Nat.le_refl _, fun _ _ => rfl⟩
set_option maxHeartbeats 1000000 in
theorem eqS_same (xs : List (List UInt8)) (a b : Value) (w : World) (hl : xs.length ≤ 1000000) (ha : w.ownsRow 0 9 1 a xs.length (strsV xs)) (hb : w.ownsRow 0 9 1 b xs.length (strsV xs)) :
   Calls Tryz.prog 8 #[a, b] w fun e w' => e = .returned (.bool true) ∧ Below w.heap.size w w' := by
 by_cases h0 : xs = []
 · subst h0
   rcases ha.2 with ⟨rfl, _⟩ | ⟨g, cap, cur, rfl, _⟩
   all_goals
     rcases hb.2 with ⟨rfl, _⟩ | ⟨g', cap', cur', rfl, _⟩
     all_goals
       clear ha hb
       go_enter Tryz.func8, Tryz.ntmps8
       go_wp2
       refine wp_loop_rounds 1 ?_
       rw [rounds_succ]
       go_wp2
       go_ret
       exact ⟨rfl, Below.refl _ _⟩
 · have hpos : 0 < xs.length := List.length_pos_iff.2 h0
   have ha' := ha
   have hb' := hb
   rcases ha.2 with ⟨rfl, hz⟩ | ⟨g, cap, cur, rfl, _⟩
   · omega
   rcases hb.2 with ⟨rfl, hz⟩ | ⟨g', cap', cur', rfl, _⟩
   · omega
   clear ha hb h0
   have hne : ((xs.length : Int) != (xs.length : Int)) = false := by simp
   go_enter Tryz.func8, Tryz.ntmps8
   go_wp2
   go_loopw [5] (fun i wr => ∃ k : Nat, k ≤ xs.length ∧ i = .int .i64 k ∧ Below w.heap.size w wr) (fun i _ => xs.length - (intOf i).toNat)
   case atStart => exact ⟨0, Nat.zero_le _, rfl, Below.refl _ _⟩
   case round =>
     obtain ⟨k, hk, rfl, hbel⟩ := hrel
     have ra := owns_below ha' hbel
     have rb := owns_below hb' hbel
     by_cases hlt : k < xs.length
     · have ca : wr.cell? ⟨g, k, none⟩ = some (.string ⟨xs[k].toArray⟩) := (ra.cellAt k (by omega)).trans (strsV_get xs k hlt)
       have cb : wr.cell? ⟨g', k, none⟩ = some (.string ⟨xs[k].toArray⟩) := (rb.cellAt k (by omega)).trans (strsV_get xs k hlt)
       clear ra rb
       go_wp2
       go_quiet (fail)
       go_wp2
       go_roundw
       case rel => exact ⟨k + 1, by omega, by go_num, hbel.trans (below_draw _ _ _)⟩
       case measure => simp [intOf]; omega
     · clear ra rb
       go_wp2
       go_ret
       exact ⟨rfl, hbel⟩
def marks (n : Nat) : List (List UInt8) := (List.range n).map fun j => mkS (j + 1)
theorem strsV_set (xs : List (List UInt8)) (j : Nat) (l : List UInt8) : (strsV xs).set j (Value.string ⟨l.toArray⟩) = strsV (xs.set j l) := by
 simp [strsV, List.map_set]
theorem take_set (ys : List (List UInt8)) (i : Nat) (l : List UInt8) (h : i < ys.length) : (ys.set i l).take (i + 1) = ys.take i ++ [l] := by
 rw [List.take_succ_eq_append_getElem (by simpa using h), List.getElem_set_self, List.take_set_of_le (Nat.le_refl _)]
end Go.Proofs.YtbkjcccbjnehbanGreatDoor

namespace Go.Proofs.YtbkjcccbjnehbanGreatDoor
open Go.RowKit
theorem mark_nat (n : Nat) (w : World) (h0 : 0 < n) (hN : n ≤ 4611686018427387904) :
   Calls Tryz.prog 22 #[.int .i64 (n : Int)] w fun e w' => e = .returned (.string ⟨(mkS n).toArray⟩) ∧ Below w.heap.size w w' := by
 have := mark_int (n : Int) w (by omega) (by omega)
 simpa using this
def marksC (c n : Nat) : List (List UInt8) := (List.range n).map fun j => mkS (c + j)
theorem marksC_len (c n : Nat) : (marksC c n).length = n := by simp [marksC]
theorem marksC_get (c n j : Nat) (h : j < n) : (marksC c n)[j]? = some (mkS (c + j)) := by simp [marksC, h]
theorem marksC_succ (c n : Nat) : marksC c (n + 1) = marksC c n ++ [mkS (c + n)] := by simp [marksC, List.range_succ]
set_option maxHeartbeats 1000000 in
theorem markS_from (c B : Nat) (xs : List (List UInt8)) (a : Value) (w : World) (hc : 0 < c ∧ c ≤ 1000000000) (hl : xs.length ≤ 1000000) (ha : w.ownsRow B 9 1 a xs.length (strsV xs)) :
   Calls Tryz.prog 10 #[a, .int .i64 (c : Int)] w fun e w' => e = .returned (.int .i64 ((c + xs.length : Nat) : Int)) ∧ Out a.ownBlock.toList w w' ∧ w'.ownsRow B 9 1 a xs.length (strsV (marksC c xs.length)) := by
 by_cases h0 : xs = []
 · subst h0
   rcases ha.2 with ⟨rfl, _⟩ | ⟨g, cap, cur, rfl, _⟩
   all_goals
     go_enter Tryz.func10, Tryz.ntmps10
     go_wp2
     refine wp_loop_rounds 1 ?_
     rw [rounds_succ]
     go_wp2
     go_ret
     exact ⟨rfl, Out.refl _ _, ha⟩
 · have hpos : 0 < xs.length := List.length_pos_iff.2 h0
   have ha' := ha
   rcases ha.2 with ⟨rfl, hz⟩ | ⟨g, cap, cur, rfl, hgB, _⟩
   · omega
   clear ha h0
   generalize hn : xs.length = n at *
   go_enter Tryz.func10, Tryz.ntmps10
   go_wp2
   go_loopw [1, 5] (fun vk i wr => ∃ (k : Nat) (ys : List (List UInt8)), k ≤ n ∧ i = .int .i64 k ∧ vk = .int .i64 ((c + k : Nat) : Int) ∧ Hid (ys.length = n ∧ ys.take k = marksC c k) ∧ wr.ownsRow B 9 1 (.slice (some ⟨g, 0, none⟩) n cap) n (strsV ys) ∧ Out (Value.ownBlock (.slice (some ⟨g, 0, none⟩) n cap)).toList w wr) (fun _ i _ => n - (intOf i).toNat)
   case atStart => exact ⟨0, xs, Nat.zero_le _, rfl, rfl, ⟨hn, by simp [marksC]⟩, ha', Out.refl _ _⟩
   case round =>
     obtain ⟨k, ys, hk, rfl, rfl, hys, hown, hbel⟩ := hrel
     have hsz := hbel.size
     by_cases hlt : k < n
     · have hyl : k < ys.length := by rw [hys.out.1]; exact hlt
       go_wp2_with (go_at_call 22; refine (mark_nat (c + k) _ (by omega) (by omega)).mono ?_; rintro e w1 ⟨rfl, hb1⟩; have r1 := owns_below hown hb1; have c1 := (r1.cellAt k (by omega)).trans (strsV_get ys k hyl); have f1 := r1.frozenAt k)
       have R := r1.stored k (.string ⟨(mkS (c + k)).toArray⟩)
       rw [strsV_set] at R
       go_roundw
       case rel => exact ⟨k + 1, _, by omega, by go_num, by go_num, ⟨by rw [List.length_set]; exact hys.out.1, by rw [take_set _ _ _ hyl, hys.out.2, marksC_succ]⟩, R.1, (hbel.trans (Out.of_below hb1)).trans (Out.set (by simp [Value.ownBlock]) _ _ _)⟩
       case measure => simp [intOf]; omega
     · obtain rfl : k = n := by omega
       have hf : ys = marksC c k := by have h := hys.out; rw [List.take_of_length_le (by omega)] at h; exact h.2
       rw [hf] at hown
       clear hys
       go_wp2
       go_ret
       exact ⟨rfl, hbel, hown⟩
set_option maxHeartbeats 1000000 in
theorem heldS_from (c n : Nat) (a : Value) (w : World) (hc : 0 < c ∧ c ≤ 1000000000) (hl : n ≤ 1000000) (ha : w.ownsRow 0 9 1 a n (strsV (marksC c n))) :
   Calls Tryz.prog 12 #[a, .int .i64 (c : Int)] w fun e w' => e = .returned (.int .i64 ((c + n : Nat) : Int)) ∧ Below w.heap.size w w' := by
 by_cases h0 : n = 0
 · subst h0
   rcases ha.2 with ⟨rfl, _⟩ | ⟨g, cap, cur, rfl, _⟩
   all_goals
     clear ha
     go_enter Tryz.func12, Tryz.ntmps12
     go_wp2
     refine wp_loop_rounds 1 ?_
     rw [rounds_succ]
     go_wp2
     go_ret
     exact ⟨rfl, Below.refl _ _⟩
 · have ha' := ha
   rcases ha.2 with ⟨rfl, hz⟩ | ⟨g, cap, cur, rfl, _⟩
   · omega
   clear ha
   go_enter Tryz.func12, Tryz.ntmps12
   go_wp2
   go_loopw [1, 5] (fun vk i wr => ∃ (k : Nat), k ≤ n ∧ i = .int .i64 k ∧ vk = .int .i64 ((c + k : Nat) : Int) ∧ Below w.heap.size w wr) (fun _ i _ => n - (intOf i).toNat)
   case atStart => exact ⟨0, Nat.zero_le _, rfl, rfl, Below.refl _ _⟩
   case round =>
     obtain ⟨k, hk, rfl, rfl, hbel⟩ := hrel
     have hsz := hbel.size
     have ra := owns_below ha' hbel
     by_cases hlt : k < n
     · have hc : ∀ u : World, (later wr u).cell? ⟨g, k, none⟩ = some (.string ⟨(mkS (c + k)).toArray⟩) := by
         intro u
         refine ((owns_below ra (later_below wr u)).cellAt k (by omega)).trans ?_
         rw [strsV_get _ _ (by rw [marksC_len]; exact hlt)]
         have := marksC_get c n k hlt
         rw [List.getElem?_eq_getElem (by rw [marksC_len]; exact hlt)] at this
         rw [Option.some.inj this]
       clear ra
       go_wp2
       refine wp_region_later (by kernel_rfl) (by kernel_rfl) ?_
       repeat (go_big_quiet_step ((go_at_call 22; exact Calls.later_of_below (mark_nat (c + k) _ (by omega) (by omega)))))
       refine wpQuiet_nil ?_
       rintro _ ⟨u, rfl⟩
       have hb2 := later_below wr u
       clear hc
       go_wp2
       go_roundw
       case rel => exact ⟨k + 1, by omega, by go_num, by go_num, hbel.trans (hb2.mono hsz)⟩
       case measure => simp [intOf]; omega
     · clear ra
       obtain rfl : k = n := by omega
       go_wp2
       go_ret
       exact ⟨rfl, hbel⟩
end Go.Proofs.YtbkjcccbjnehbanGreatDoor

import Derived.Test.YtbkjcccbjnehbanGreatDoorMg5
import Derived.Test.YtbkjcccbjnehbanGreatDoorRdO
import Derived.Test.YtbkjcccbjnehbanGreatDoorTmPlain
import Derived.Test.YtbkjcccbjnehbanGreatDoorTmOwn
import Derived.Test.YtbkjcccbjnehbanGreatDoorNameP
import Derived.ProofKit
import Derived.WalkKit
import Derived.Test.YtbkjcccbjnehbanGreatDoorRows
import Derived.Test.YtbkjcccbjnehbanGreatDoorInAny
import Derived.Test.YtbkjcccbjnehbanGreatDoorNameS
namespace Go.Proofs.YtbkjcccbjnehbanGreatDoor
open Go.RowKit
def behindC : List Sg → Nat
 | [] => 0
 | x :: r => if x.kind = 5 then 1 else 1 + behindC r
theorem behindC_le : ∀ r : List Sg, behindC r ≤ r.length
 | [] => Nat.le_refl _
 | x :: r => by
   have := behindC_le r
   simp only [behindC, List.length_cons]
   split <;> omega
set_option maxHeartbeats 4000000 in
theorem s_behind (L : List Sg) (lv : Value) (a : Nat) (w : World) (ha : a ≤ L.length) (hL : L.length ≤ 3000) (h : SgRow w 0 L lv) :
   Calls Tryz.prog 25 #[lv, .int .i64 (a : Int)] w fun e w' => e = .returned (.int .i64 ((a + behindC (L.drop a) : Nat) : Int)) ∧ w' = w := by
 obtain ⟨Z, hZ⟩ : ∃ Z, Z = a + behindC (L.drop a) := ⟨_, rfl⟩
 rw [← hZ]
 have HZ : Hid (Z = a + behindC (L.drop a)) := hZ
 obtain ⟨ao, cap, rfl, hcap, hlc⟩ := h.shape
 have HR : Hid (SgRow w 0 L (.slice ao L.length cap)) := h
 obtain ⟨NL, hNL⟩ : ∃ NL, NL = L.length := ⟨_, rfl⟩
 rw [← hNL]
 have HNL : Hid (NL = L.length) := hNL
 have hN3 : (NL : Int) ≤ 3000 := by omega
 have haN : a ≤ NL := by omega
 have d0 : decide ((a : Int) < 0) = false := decide_eq_false (by omega)
 clear hZ h hcap hlc hNL ha hL
 go_enter Tryz.func25, Tryz.ntmps25
 go_wp2
 go_loopw [1] (fun vi wr => ∃ j : Nat, j ≤ NL ∧ vi = .int .i64 (j : Int) ∧ Hid (Z = j + behindC (L.drop j)) ∧ wr = w) (fun i _ => NL - (intOf i).toNat)
 case atStart => exact ⟨a, haN, rfl, HZ.out, rfl⟩
 case round =>
   obtain ⟨j, hj, rfl, HJ, hwr⟩ := hrel
   replace hwr := hwr.symm
   subst hwr
   by_cases hlt : j < NL
   · have hjL : j < L.length := by have := HNL.out; omega
     obtain ⟨lb, cap2, e, _, _, _, _, hc⟩ := HR.out.cells (by rintro rfl; simp at hjL)
     obtain ⟨rfl, _, _⟩ := Value.slice.inj e
     obtain ⟨k0, _⟩ := hc j hjL
     obtain ⟨x, hx⟩ : ∃ x, x = L[j] := ⟨_, rfl⟩
     rw [← hx] at k0
     have hdr : L.drop j = x :: L.drop (j + 1) := by rw [hx]; exact List.drop_eq_getElem_cons hjL
     obtain ⟨j1, hj1⟩ : ∃ j1, j1 = j + 1 := ⟨_, rfl⟩
     have hs1 : (j : Int) + 1 = (j1 : Int) := by omega
     have hs2 : (j1 : Int) - 1 = (j : Int) := by omega
     have HJ1 : Hid (j1 = j + 1) := hj1
     by_cases h5 : x.kind = 5
     · have HF : Hid (Z = j1) := by
         show _ = _
         rw [HJ.out, hdr, hj1]; simp only [behindC, if_pos h5]
       clear hc e hdr hx hj1
       rw [h5] at k0
       go_wp2
       go_ret
       exact ⟨by rw [HF.out]; rfl, by first | rfl | trivial⟩
     · have HF : Hid (Z = j1 + behindC (L.drop j1)) := by
         show _ = _
         rw [HJ.out, hdr, hj1]; simp only [behindC, if_neg h5]; omega
       have e5 : (x.kind == 5) = false := by simpa using h5
       generalize x.kind = xk at *
       clear hc e hdr hx hj1 h5
       go_wp2
       go_roundw
       case rel => exact ⟨j1, by have := HJ1.out; omega, rfl, HF.out, by first | rfl | trivial⟩
       case measure => have := HJ1.out; simp [intOf]; omega
   · obtain rfl : NL = j := by omega
     have HF : Hid (Z = NL) := by
       show _ = _
       rw [HJ.out, List.drop_eq_nil_of_le (by have := HNL.out; omega)]; rfl
     go_wp2
     go_ret
     exact ⟨by rw [HF.out]; rfl, by first | rfl | trivial⟩
end Go.Proofs.YtbkjcccbjnehbanGreatDoor

namespace Go.Proofs.YtbkjcccbjnehbanGreatDoor
inductive Fat : Tm → Prop
 | wide (k : Int) (s : ByteArray) (n : Int) (ks : List Tm) : 5 < ks.length → Fat (.mk k s n ks)
 | kid (k : Int) (s : ByteArray) (n : Int) (ks : List Tm) (t : Tm) : t ∈ ks → Fat t → Fat (.mk k s n ks)
def Five (A B : Int → St → Option (Tm × St)) : Prop := ∀ m s, (∀ y, A m s = some y → B m s = some y) ∧ (A m s = none → ∀ t s', B m s = some (t, s') → Fat t)
theorem someO_eq {five : Bool} {tm : Int → St → Option (Tm × St)} (ht : Short tm) (ks : List Tm) (s : St) : someO five tm ks s = match tm 999 s with
   | none => none
   | some (x, s1) => if five = true ∧ 5 ≤ ks.length then none else match mk? cRpar s1.rest with
     | some r => some (ks ++ [x], ⟨r, s1.names⟩)
     | none => match mk? cComma s1.rest with
       | some r => someO five tm (ks ++ [x]) ⟨r, s1.names⟩
       | none => none := by
 rw [someO]
 cases h : tm 999 s with
 | none => rfl
 | some y =>
   obtain ⟨x, s1⟩ := y
   have hs := ht _ _ _ _ h
   simp only
   rw [dif_pos hs]
   split
   · rfl
   · cases mk? cRpar s1.rest with
     | some r => rfl
     | none => simp only; split <;> simp_all
theorem someO_pre {five : Bool} {tm : Int → St → Option (Tm × St)} (ks : List Tm) (s : St) : ∀ ks' s', someO five tm ks s = some (ks', s') → ∃ x l, tm 999 s = some x ∧ ks' = ks ++ x.1 :: l := by
 fun_induction someO five tm ks s <;> intro ks' s' h
 all_goals first | cases h | skip
 · rename_i hx _ _ _ _; exact ⟨_, [], hx, by simp⟩
 · rename_i hx _ _ _ _ _ ih
   obtain ⟨y, l, _, rfl⟩ := ih _ _ h
   exact ⟨_, y.1 :: l, hx, by simp⟩
theorem someO_five {A B : Int → St → Option (Tm × St)} (hA : Short A) (hB : Short B) (h : Five A B) : ∀ (n : Nat) (ks : List Tm) (s : St), s.rest.length ≤ n →
   (∀ y, someO true A ks s = some y → someO false B ks s = some y) ∧ (someO true A ks s = none → ∀ ks' s', someO false B ks s = some (ks', s') → 5 < ks'.length ∨ ∃ t ∈ ks', Fat t) := by
 intro n
 induction n with
 | zero =>
   intro ks s hs
   have no : ∀ y, A 999 s = some y → False := fun y hy => by have := hA _ _ y.1 y.2 hy; omega
   have no' : ∀ y, B 999 s = some y → False := fun y hy => by have := hB _ _ y.1 y.2 hy; omega
   constructor
   · intro y hy
     rw [someO_eq hA] at hy
     cases ha : A 999 s with
     | none => rw [ha] at hy; cases hy
     | some x => exact (no x ha).elim
   · intro _ ks' s' hy
     obtain ⟨x, l, hx, _⟩ := someO_pre _ _ _ _ hy
     exact (no' x hx).elim
 | succ n ih =>
   intro ks s hs
   obtain ⟨h1, h2⟩ := h 999 s
   cases ha : A 999 s with
   | none =>
     constructor
     · intro y hy
       rw [someO_eq hA, ha] at hy; cases hy
     · intro _ ks' s' hy
       obtain ⟨x, l, hx, rfl⟩ := someO_pre _ _ _ _ hy
       exact Or.inr ⟨x.1, by simp, h2 ha x.1 x.2 hx⟩
   | some x =>
     have hb := h1 x ha
     obtain ⟨x, s1⟩ := x
     have hsh := hA _ _ _ _ ha
     rw [someO_eq hA, someO_eq hB, ha, hb]
     simp only [true_and, Bool.false_eq_true, false_and, if_false]
     by_cases h5 : 5 ≤ ks.length
     · rw [if_pos h5]
       refine ⟨(fun y hy => by cases hy), fun _ ks' s' hy => Or.inl ?_⟩
       split at hy
       · cases hy; simp; omega
       · split at hy
         · obtain ⟨z, l, _, rfl⟩ := someO_pre _ _ _ _ hy
           simp; omega
         · cases hy
     · rw [if_neg h5]
       cases hr : mk? cRpar s1.rest with
       | some r => exact ⟨fun y hy => hy, fun hy => by cases hy⟩
       | none =>
         simp only
         cases hc : mk? cComma s1.rest with
         | none => exact ⟨(fun y hy => by cases hy), (fun _ ks' s' hy => by cases hy)⟩
         | some r =>
           simp only
           have := mk?_len hc
           exact ih _ _ (by simp only; omega)
theorem rowO_eq {tm : Int → St → Option (Tm × St)} (ht : Short tm) (ks : List Tm) (s : St) : rowO tm ks s = match tm 999 s with
   | none => none
   | some (x, s1) => match mk? cRbr s1.rest with
     | some r => some (ks ++ [x], nilTm, ⟨r, s1.names⟩)
     | none => match mk? cBar s1.rest with
       | some r => match tm 999 ⟨r, s1.names⟩ with
         | none => none
         | some (y, s2) => match mk? cRbr s2.rest with
           | some r2 => some (ks ++ [x], y, ⟨r2, s2.names⟩)
           | none => none
       | none => match mk? cComma s1.rest with
         | some r => rowO tm (ks ++ [x]) ⟨r, s1.names⟩
         | none => none := by
 rw [rowO]
 cases h : tm 999 s with
 | none => rfl
 | some y =>
   obtain ⟨x, s1⟩ := y
   have hs := ht _ _ _ _ h
   simp only
   rw [dif_pos hs]
   cases mk? cRbr s1.rest with
   | some r => rfl
   | none =>
     simp only
     cases mk? cBar s1.rest with
     | some r => rfl
     | none => simp only; split <;> simp_all
theorem rowO_pre {tm : Int → St → Option (Tm × St)} (ks : List Tm) (s : St) : ∀ ks' y s', rowO tm ks s = some (ks', y, s') → ∃ x l, tm 999 s = some x ∧ ks' = ks ++ x.1 :: l := by
 fun_induction rowO tm ks s <;> intro ks' y' s' h
 all_goals first | cases h | skip
 · have hx := ‹tm 999 _ = some _›; exact ⟨_, [], hx, by simp⟩
 · rename_i x s1 hx _ _ _ _ _ _ _ _ _; exact ⟨_, [], hx, by simp⟩
 · rename_i x s1 hx _ _ _ _ _ ih
   obtain ⟨y, l, _, rfl⟩ := ih _ _ _ h
   exact ⟨_, y.1 :: l, hx, by simp⟩
theorem consTm_fat_last {t : Tm} (h : Fat t) : ∀ ks : List Tm, Fat (consTm ks t)
 | [] => h
 | _ :: ks => Fat.kid _ _ _ _ (consTm ks t) (List.mem_cons_of_mem _ List.mem_cons_self) (consTm_fat_last h ks)
theorem consTm_fat_item {t x : Tm} (h : Fat x) : ∀ ks : List Tm, x ∈ ks → Fat (consTm ks t)
 | [], hm => by cases hm
 | k :: ks, hm => by
   rcases List.mem_cons.1 hm with rfl | hm
   · exact Fat.kid _ _ _ _ x List.mem_cons_self h
   · exact Fat.kid _ _ _ _ (consTm ks t) (List.mem_cons_of_mem _ List.mem_cons_self) (consTm_fat_item h ks hm)
theorem rowO_five {A B : Int → St → Option (Tm × St)} (hA : Short A) (hB : Short B) (h : Five A B) : ∀ (n : Nat) (ks : List Tm) (s : St), s.rest.length ≤ n →
   (∀ y, rowO A ks s = some y → rowO B ks s = some y) ∧ (rowO A ks s = none → ∀ ks' y s', rowO B ks s = some (ks', y, s') → Fat y ∨ ∃ t ∈ ks', Fat t) := by
 intro n
 induction n with
 | zero =>
   intro ks s hs
   have no : ∀ y, A 999 s = some y → False := fun y hy => by have := hA _ _ y.1 y.2 hy; omega
   have no' : ∀ y, B 999 s = some y → False := fun y hy => by have := hB _ _ y.1 y.2 hy; omega
   constructor
   · intro y hy
     rw [rowO_eq hA] at hy
     cases ha : A 999 s with
     | none => rw [ha] at hy; cases hy
     | some x => exact (no x ha).elim
   · intro _ ks' z s' hy
     obtain ⟨x, l, hx, _⟩ := rowO_pre _ _ _ _ _ hy
     exact (no' x hx).elim
 | succ n ih =>
   intro ks s hs
   obtain ⟨h1, h2⟩ := h 999 s
   cases ha : A 999 s with
   | none =>
     constructor
     · intro y hy
       rw [rowO_eq hA, ha] at hy; cases hy
     · intro _ ks' z s' hy
       obtain ⟨x, l, hx, rfl⟩ := rowO_pre _ _ _ _ _ hy
       exact Or.inr ⟨x.1, by simp, h2 ha x.1 x.2 hx⟩
   | some x =>
     have hb := h1 x ha
     obtain ⟨x, s1⟩ := x
     have hsh := hA _ _ _ _ ha
     rw [rowO_eq hA, rowO_eq hB, ha, hb]
     simp only
     cases hr : mk? cRbr s1.rest with
     | some r => exact ⟨fun y hy => hy, fun hy => by cases hy⟩
     | none =>
       simp only
       cases hc : mk? cBar s1.rest with
       | some r =>
         simp only
         obtain ⟨g1, g2⟩ := h 999 ⟨r, s1.names⟩
         cases hy2 : A 999 ⟨r, s1.names⟩ with
         | none =>
           refine ⟨(fun y hy => by cases hy), fun _ ks' z s' hy => ?_⟩
           cases hb2 : B 999 ⟨r, s1.names⟩ with
           | none => rw [hb2] at hy; cases hy
           | some q =>
             rw [hb2] at hy
             simp only at hy
             split at hy
             · cases hy; exact Or.inl (g2 hy2 q.1 q.2 hb2)
             · cases hy
         | some q =>
           rw [g1 q hy2]
           simp only
           exact ⟨fun y hy => hy, fun hn ks' z s' hy => by rw [hn] at hy; cases hy⟩
       | none =>
         simp only
         cases hc : mk? cComma s1.rest with
         | none => exact ⟨(fun y hy => by cases hy), (fun _ ks' z s' hy => by cases hy)⟩
         | some r =>
           simp only
           have := mk?_len hc
           exact ih _ _ (by simp only; omega)
end Go.Proofs.YtbkjcccbjnehbanGreatDoor

namespace Go.Proofs.YtbkjcccbjnehbanGreatDoor
theorem infO_eq {tm : Int → St → Option (Tm × St)} (ht : Short tm) (most : Int) (t : Tm) (pr : Int) (s : St) : infO tm most t pr s = match infixO s.rest with
   | none => some (t, s)
   | some op => if most < op.prio ∨ op.left < pr then some (t, s) else match tm op.right ⟨s.rest.tail, s.names⟩ with
     | none => none
     | some (y, s1) => infO tm most (structTm op.name [t, y]) op.prio s1 := by
 rw [infO]
 cases h : infixO s.rest with
 | none => rfl
 | some op =>
   simp only
   split
   · rfl
   · cases hy : tm op.right ⟨s.rest.tail, s.names⟩ with
     | none => rfl
     | some y =>
       obtain ⟨y, s1⟩ := y
       have hs := ht _ _ _ _ hy
       simp only at hs ⊢
       rw [dif_pos (by simp only [List.length_tail] at hs; omega)]
theorem infO_fat {tm : Int → St → Option (Tm × St)} (most : Int) (t : Tm) (pr : Int) (s : St) : Fat t → ∀ t' s', infO tm most t pr s = some (t', s') → Fat t' := by
 fun_induction infO tm most t pr s <;> intro hf t' s' h
 all_goals first | (cases h; exact hf) | cases h | skip
 rename_i ih
 exact ih (Fat.kid _ _ _ _ _ List.mem_cons_self hf) _ _ h
theorem infO_five {A B : Int → St → Option (Tm × St)} (hA : Short A) (hB : Short B) (h : Five A B) (most : Int) : ∀ (n : Nat) (t : Tm) (pr : Int) (s : St), s.rest.length ≤ n →
   (∀ y, infO A most t pr s = some y → infO B most t pr s = some y) ∧ (infO A most t pr s = none → ∀ t' s', infO B most t pr s = some (t', s') → Fat t') := by
 intro n
 induction n with
 | zero =>
   intro t pr s hs
   have e : s.rest = [] := List.eq_nil_of_length_eq_zero (by omega)
   have e1 : ∀ tm : Int → St → Option (Tm × St), Short tm → infO tm most t pr s = some (t, s) := fun tm ht => by rw [infO_eq ht, e]; rfl
   rw [e1 A hA, e1 B hB]
   exact ⟨fun y hy => hy, fun hy => by cases hy⟩
 | succ n ih =>
   intro t pr s hs
   rw [infO_eq hA, infO_eq hB]
   cases hi : infixO s.rest with
   | none => exact ⟨fun y hy => hy, fun hy => by cases hy⟩
   | some op =>
     simp only
     by_cases hc : most < op.prio ∨ op.left < pr
     · rw [if_pos hc]; exact ⟨fun y hy => by rw [if_pos hc]; exact hy, fun hy => by cases hy⟩
     · rw [if_neg hc, if_neg hc]
       obtain ⟨h1, h2⟩ := h op.right ⟨s.rest.tail, s.names⟩
       cases ha : A op.right ⟨s.rest.tail, s.names⟩ with
       | none =>
         refine ⟨(fun y hy => by cases hy), fun _ t' s' hy => ?_⟩
         cases hb : B op.right ⟨s.rest.tail, s.names⟩ with
         | none => rw [hb] at hy; cases hy
         | some q =>
           rw [hb] at hy
           exact infO_fat _ _ _ _ (Fat.kid _ _ _ _ _ (List.mem_cons_of_mem _ List.mem_cons_self) (h2 ha q.1 q.2 hb)) _ _ hy
       | some q =>
         rw [h1 q ha]
         have hq := hA _ _ q.1 q.2 ha
         simp only [List.length_tail] at hq
         exact ih _ _ _ (by omega)
theorem round_five {A B : Int → St → Option (Tm × St)} (h : Five A B) (r : List Sg) (names : List ByteArray) :
   (∀ y, roundO A r names = some y → roundO B r names = some y) ∧ (roundO A r names = none → ∀ t s, roundO B r names = some (t, s) → Fat t) := by
 unfold roundO
 cases ha : aloneO r with
 | some y => exact ⟨fun y hy => hy, fun hy => by cases hy⟩
 | none =>
   simp only
   obtain ⟨h1, h2⟩ := h 1200 ⟨r, names⟩
   cases hy : A 1200 ⟨r, names⟩ with
   | none =>
     refine ⟨(fun y hy => by cases hy), fun _ t s hb => ?_⟩
     cases hq : B 1200 ⟨r, names⟩ with
     | none => rw [hq] at hb; cases hb
     | some q =>
       rw [hq] at hb
       simp only at hb
       split at hb
       · cases hb; exact h2 hy q.1 q.2 hq
       · cases hb
   | some q =>
     rw [h1 q hy]
     exact ⟨fun y hy => hy, fun hn t s hb => by rw [hn] at hb; cases hb⟩
theorem list_five {A B : Int → St → Option (Tm × St)} (hA : Short A) (hB : Short B) (h : Five A B) (r : List Sg) (names : List ByteArray) :
   (∀ y, listO A r names = some y → listO B r names = some y) ∧ (listO A r names = none → ∀ t s, listO B r names = some (t, s) → Fat t) := by
 unfold listO
 cases hr : mk? cRbr r with
 | some r' => exact ⟨fun y hy => hy, fun hy => by cases hy⟩
 | none =>
   simp only
   obtain ⟨h1, h2⟩ := rowO_five hA hB h _ [] ⟨r, names⟩ (Nat.le_refl _)
   cases hy : rowO A [] ⟨r, names⟩ with
   | none =>
     refine ⟨(fun y hy => by cases hy), fun _ t s hb => ?_⟩
     cases hq : rowO B [] ⟨r, names⟩ with
     | none => rw [hq] at hb; cases hb
     | some q =>
       rw [hq] at hb
       obtain ⟨ks, y, s2⟩ := q
       simp only at hb
       cases hb
       rcases h2 hy ks y s hq with hf | ⟨x, hx, hf⟩
       · exact consTm_fat_last hf ks
       · exact consTm_fat_item hf ks hx
   | some q =>
     rw [h1 q hy]
     exact ⟨fun y hy => hy, fun hn t s hb => by rw [hn] at hb; cases hb⟩
theorem atom_five {A B : Int → St → Option (Tm × St)} (hA : Short A) (hB : Short B) (h : Five A B) (most : Int) (x : Sg) (r : List Sg) (names : List ByteArray) :
   (∀ y, atomO true A most x r names = some y → atomO false B most x r names = some y) ∧ (atomO true A most x r names = none → ∀ y, atomO false B most x r names = some y → Fat y.1) := by
 unfold atomO
 split
 · cases hr : mk? cLpar r with
   | none => exact ⟨(fun y hy => by cases hy), (fun _ y hy => by cases hy)⟩
   | some r' =>
     simp only
     obtain ⟨h1, h2⟩ := someO_five hA hB h _ [] ⟨r', names⟩ (Nat.le_refl _)
     cases hy : someO true A [] ⟨r', names⟩ with
     | none =>
       refine ⟨(fun y hy => by cases hy), fun _ y hb => ?_⟩
       cases hq : someO false B [] ⟨r', names⟩ with
       | none => rw [hq] at hb; cases hb
       | some q =>
         rw [hq] at hb
         obtain ⟨ks, s2⟩ := q
         simp only at hb
         cases hb
         rcases h2 hy ks s2 hq with hw | ⟨t, ht, hf⟩
         · exact Fat.wide _ _ _ _ hw
         · exact Fat.kid _ _ _ _ t ht hf
     | some q =>
       rw [h1 q hy]
       exact ⟨fun y hy => hy, fun hn y hb => by rw [hn] at hb; cases hb⟩
 · split
   · exact ⟨fun y hy => hy, fun hn y hb => by cases hn⟩
   · cases hp : prefixP x.text with
     | none =>
       simp only
       exact ⟨fun y hy => hy, fun hn y hb => by rw [hn] at hb; cases hb⟩
     | some op =>
       simp only
       split
       · obtain ⟨h1, h2⟩ := h op.right ⟨r, names⟩
         cases hy : A op.right ⟨r, names⟩ with
         | none =>
           refine ⟨(fun y hy => by cases hy), fun _ y hb => ?_⟩
           cases hq : B op.right ⟨r, names⟩ with
           | none => rw [hq] at hb; cases hb
           | some q =>
             rw [hq] at hb
             simp only at hb
             cases hb
             exact Fat.kid _ _ _ _ _ List.mem_cons_self (h2 hy q.1 q.2 hq)
         | some q =>
           rw [h1 q hy]
           exact ⟨fun y hy => hy, fun hn y hb => by cases hn⟩
       · exact ⟨(fun y hy => by cases hy), (fun _ y hy => by cases hy)⟩
theorem map_five {F G : Option (Tm × St)} (h : (∀ y, F = some y → G = some y) ∧ (F = none → ∀ t s, G = some (t, s) → Fat t)) :
   (∀ y, (F.map fun y => (y.1, (0 : Int), y.2)) = some y → (G.map fun y => (y.1, (0 : Int), y.2)) = some y) ∧ ((F.map fun y => (y.1, (0 : Int), y.2)) = none → ∀ y, (G.map fun y => (y.1, (0 : Int), y.2)) = some y → Fat y.1) := by
 cases F with
 | none =>
   refine ⟨(fun y hy => by cases hy), fun _ y hb => ?_⟩
   obtain ⟨z, hz, rfl⟩ := Option.map_eq_some_iff.1 hb
   exact h.2 rfl z.1 z.2 hz
 | some q =>
   rw [h.1 q rfl]
   exact ⟨fun y hy => hy, fun hn => by cases hn⟩
theorem prim_five {A B : Int → St → Option (Tm × St)} (hA : Short A) (hB : Short B) (h : Five A B) (most : Int) (s : St) :
   (∀ y, primO true A most s = some y → primO false B most s = some y) ∧ (primO true A most s = none → ∀ y, primO false B most s = some y → Fat y.1) := by
 unfold primO
 cases s.rest with
 | nil => exact ⟨(fun y hy => by cases hy), (fun _ y hy => by cases hy)⟩
 | cons x r =>
   simp only
   split
   · exact atom_five hA hB h most x r s.names
   · split
     · exact map_five (round_five h r s.names)
     · split
       · exact map_five (list_five hA hB h r s.names)
       · exact ⟨fun y hy => hy, fun hn y hb => by rw [hn] at hb; cases hb⟩
theorem term_five : ∀ d, Five (termO true d) (termO false d)
 | 0 => fun m s => ⟨(fun y hy => by cases hy), (fun _ t s' hy => by cases hy)⟩
 | d + 1 => fun m s => by
   have ih := term_five d
   have hA := termO_short true d
   have hB := termO_short false d
   obtain ⟨h1, h2⟩ := prim_five hA hB ih m s
   unfold termO
   cases ha : primO true (termO true d) m s with
   | none =>
     refine ⟨(fun y hy => by cases hy), fun _ t s' hy => ?_⟩
     cases hb : primO false (termO false d) m s with
     | none => rw [hb] at hy; cases hy
     | some q =>
       rw [hb] at hy
       exact infO_fat _ _ _ _ (h2 ha q hb) _ _ hy
   | some q =>
     rw [h1 q ha]
     obtain ⟨t, pr, s1⟩ := q
     exact infO_five hA hB ih m _ t pr s1 (Nat.le_refl _)
end Go.Proofs.YtbkjcccbjnehbanGreatDoor

namespace Go.Proofs.YtbkjcccbjnehbanGreatDoor
section
variable (E : Sg) (tl : List Sg) (hE : E.kind = 5)
def ext (s : St) : St := ⟨s.rest ++ E :: tl, s.names⟩
def ExtOk (tm : Int → St → Option (Tm × St)) : Prop := ∀ m s, tm m (ext E tl s) = (tm m s).map fun y => (y.1, ext E tl y.2)
include hE
theorem mk_ext (l : ByteArray) (r : List Sg) : mk? l (r ++ E :: tl) = (mk? l r).map (· ++ E :: tl) := by
 cases r with
 | nil => simp only [List.nil_append, mk?]; rw [if_neg (by rw [hE]; omega)]; rfl
 | cons x r => simp only [List.cons_append, mk?]; split <;> rfl
theorem infix_ext (r : List Sg) : infixO (r ++ E :: tl) = infixO r := by
 cases r with
 | nil => simp only [List.nil_append, infixO]; rw [if_neg (by rw [hE]; omega), if_neg (by rw [hE]; omega)]
 | cons x r => rfl
theorem near_ext (x : Sg) (r : List Sg) : nearO x (r ++ E :: tl) = nearO x r := by
 cases r with
 | nil => simp [nearO, hE]
 | cons u r => rfl
theorem alone_ext (r : List Sg) : aloneO (r ++ E :: tl) = (aloneO r).map fun y => (y.1, y.2 ++ E :: tl) := by
 match r with
 | [] =>
   cases tl with
   | nil => rfl
   | cons u tl => simp only [List.nil_append, aloneO]; rw [if_neg (by rw [hE]; omega)]; rfl
 | [x] => simp only [List.cons_append, List.nil_append, aloneO]; rw [if_neg (by rw [hE]; omega)]; rfl
 | x :: u :: r => simp only [List.cons_append, aloneO]; split <;> rfl
theorem some_ext {five : Bool} {tm : Int → St → Option (Tm × St)} (ht : Short tm) (h : ExtOk E tl tm) : ∀ (n : Nat) (ks : List Tm) (s : St), s.rest.length ≤ n → someO five tm ks (ext E tl s) = (someO five tm ks s).map fun y => (y.1, ext E tl y.2) := by
 intro n
 induction n with
 | zero =>
   intro ks s hs
   have no : tm 999 s = none := by
     cases hy : tm 999 s with
     | none => rfl
     | some y => have := ht _ _ y.1 y.2 hy; omega
   rw [someO_eq ht, someO_eq ht, h, no]; rfl
 | succ n ih =>
   intro ks s hs
   rw [someO_eq ht, someO_eq ht, h]
   cases hy : tm 999 s with
   | none => rfl
   | some y =>
     obtain ⟨x, s1⟩ := y
     have hsh := ht _ _ _ _ hy
     simp only [Option.map_some, ext]
     split
     · rfl
     · rw [mk_ext E tl hE]
       cases hr : mk? cRpar s1.rest with
       | some r => rfl
       | none =>
         simp only [Option.map_none]
         rw [mk_ext E tl hE]
         cases hc : mk? cComma s1.rest with
         | none => rfl
         | some r =>
           simp only [Option.map_some]
           have := mk?_len hc
           exact ih (ks ++ [x]) ⟨r, s1.names⟩ (by simp only; omega)
theorem row_ext {tm : Int → St → Option (Tm × St)} (ht : Short tm) (h : ExtOk E tl tm) : ∀ (n : Nat) (ks : List Tm) (s : St), s.rest.length ≤ n → rowO tm ks (ext E tl s) = (rowO tm ks s).map fun y => (y.1, y.2.1, ext E tl y.2.2) := by
 intro n
 induction n with
 | zero =>
   intro ks s hs
   have no : tm 999 s = none := by
     cases hy : tm 999 s with
     | none => rfl
     | some y => have := ht _ _ y.1 y.2 hy; omega
   rw [rowO_eq ht, rowO_eq ht, h, no]; rfl
 | succ n ih =>
   intro ks s hs
   rw [rowO_eq ht, rowO_eq ht, h]
   cases hy : tm 999 s with
   | none => rfl
   | some y =>
     obtain ⟨x, s1⟩ := y
     have hsh := ht _ _ _ _ hy
     simp only [Option.map_some, ext]
     rw [mk_ext E tl hE]
     cases hr : mk? cRbr s1.rest with
     | some r => rfl
     | none =>
       simp only [Option.map_none]
       rw [mk_ext E tl hE]
       cases hb : mk? cBar s1.rest with
       | some r =>
         simp only [Option.map_some]
         have h2 := h 999 ⟨r, s1.names⟩
         simp only [ext] at h2
         rw [h2]
         cases hz : tm 999 ⟨r, s1.names⟩ with
         | none => rfl
         | some z =>
           obtain ⟨y, s2⟩ := z
           simp only [Option.map_some]
           rw [mk_ext E tl hE]
           cases mk? cRbr s2.rest <;> rfl
       | none =>
         simp only [Option.map_none]
         rw [mk_ext E tl hE]
         cases hc : mk? cComma s1.rest with
         | none => rfl
         | some r =>
           simp only [Option.map_some]
           have := mk?_len hc
           exact ih (ks ++ [x]) ⟨r, s1.names⟩ (by simp only; omega)
theorem inf_ext {tm : Int → St → Option (Tm × St)} (ht : Short tm) (h : ExtOk E tl tm) (most : Int) : ∀ (n : Nat) (t : Tm) (pr : Int) (s : St), s.rest.length ≤ n → infO tm most t pr (ext E tl s) = (infO tm most t pr s).map fun y => (y.1, ext E tl y.2) := by
 intro n
 induction n with
 | zero =>
   intro t pr s hs
   have e : s.rest = [] := List.eq_nil_of_length_eq_zero (by omega)
   rw [infO_eq ht, infO_eq ht]
   have e1 : infixO (ext E tl s).rest = none := by show infixO (s.rest ++ E :: tl) = none; rw [infix_ext E tl hE, e]; rfl
   rw [e1, e]; rfl
 | succ n ih =>
   intro t pr s hs
   rw [infO_eq ht, infO_eq ht]
   have e1 : infixO (ext E tl s).rest = infixO s.rest := infix_ext E tl hE s.rest
   rw [e1]
   cases hi : infixO s.rest with
   | none => rfl
   | some op =>
     simp only
     split
     · rfl
     · have e2 : (⟨(ext E tl s).rest.tail, (ext E tl s).names⟩ : St) = ext E tl ⟨s.rest.tail, s.names⟩ := by
         cases hr : s.rest with
         | nil => rw [hr] at hi; cases hi
         | cons x r => simp [ext, hr]
       rw [e2, h]
       cases hy : tm op.right ⟨s.rest.tail, s.names⟩ with
       | none => rfl
       | some y =>
         obtain ⟨y, s1⟩ := y
         have hsh := ht _ _ _ _ hy
         simp only [List.length_tail] at hsh
         exact ih _ _ s1 (by omega)
theorem round_ext {tm : Int → St → Option (Tm × St)} (h : ExtOk E tl tm) (r : List Sg) (names : List ByteArray) : roundO tm (r ++ E :: tl) names = (roundO tm r names).map fun y => (y.1, ext E tl y.2) := by
 unfold roundO
 rw [alone_ext E tl hE]
 cases aloneO r with
 | some y => rfl
 | none =>
   simp only [Option.map_none]
   have h2 := h 1200 ⟨r, names⟩
   simp only [ext] at h2
   rw [h2]
   cases tm 1200 ⟨r, names⟩ with
   | none => rfl
   | some y =>
     simp only [Option.map_some]
     rw [mk_ext E tl hE]
     cases mk? cRpar y.2.rest <;> rfl
theorem list_ext {tm : Int → St → Option (Tm × St)} (ht : Short tm) (h : ExtOk E tl tm) (r : List Sg) (names : List ByteArray) : listO tm (r ++ E :: tl) names = (listO tm r names).map fun y => (y.1, ext E tl y.2) := by
 unfold listO
 rw [mk_ext E tl hE]
 cases mk? cRbr r with
 | some r' => rfl
 | none =>
   simp only [Option.map_none]
   have h2 := row_ext E tl hE ht h _ [] ⟨r, names⟩ (Nat.le_refl _)
   have e : ext E tl ⟨r, names⟩ = ⟨r ++ E :: tl, names⟩ := rfl
   rw [e] at h2
   rw [h2]
   cases rowO tm [] ⟨r, names⟩ <;> rfl
theorem atom_ext {five : Bool} {tm : Int → St → Option (Tm × St)} (ht : Short tm) (h : ExtOk E tl tm) (most : Int) (x : Sg) (r : List Sg) (names : List ByteArray) : atomO five tm most x (r ++ E :: tl) names = (atomO five tm most x r names).map fun y => (y.1, y.2.1, ext E tl y.2.2) := by
 unfold atomO
 split
 · rw [mk_ext E tl hE]
   cases mk? cLpar r with
   | none => rfl
   | some r' =>
     simp only [Option.map_some]
     have h2 := some_ext E tl hE (five := five) ht h _ [] ⟨r', names⟩ (Nat.le_refl _)
     have e : ext E tl ⟨r', names⟩ = ⟨r' ++ E :: tl, names⟩ := rfl
     rw [e] at h2
     rw [h2]
     cases someO five tm [] ⟨r', names⟩ <;> rfl
 · rw [near_ext E tl hE]
   split
   · rename_i hc
     cases r with
     | nil => simp [nearO] at hc
     | cons u r => rfl
   · cases prefixP x.text with
     | none => simp only; split <;> rfl
     | some op =>
       simp only
       split
       · have h2 := h op.right ⟨r, names⟩
         have e : ext E tl ⟨r, names⟩ = ⟨r ++ E :: tl, names⟩ := rfl
         rw [e] at h2
         rw [h2]
         cases tm op.right ⟨r, names⟩ <;> rfl
       · rfl
theorem prim_ext {five : Bool} {tm : Int → St → Option (Tm × St)} (ht : Short tm) (h : ExtOk E tl tm) (most : Int) (s : St) : primO five tm most (ext E tl s) = (primO five tm most s).map fun y => (y.1, y.2.1, ext E tl y.2.2) := by
 obtain ⟨rest, names⟩ := s
 cases rest with
 | nil =>
   show primO five tm most ⟨E :: tl, names⟩ = _
   simp only [primO, hE]
   rw [if_neg (by omega), if_neg (by omega), if_neg (by omega), if_neg (by omega), if_neg (by omega)]
   rfl
 | cons x r =>
   show primO five tm most ⟨x :: (r ++ E :: tl), names⟩ = _
   simp only [primO]
   split
   · exact atom_ext E tl hE ht h most x r names
   · split
     · rw [round_ext E tl hE h]
       cases roundO tm r names <;> rfl
     · split
       · rw [list_ext E tl hE ht h]
         cases listO tm r names <;> rfl
       · split
         · rfl
         · split <;> rfl
theorem term_ext (five : Bool) : ∀ d, ExtOk E tl (termO five d)
 | 0 => fun m s => rfl
 | d + 1 => fun m s => by
   have ih := term_ext five d
   have ht := termO_short five d
   unfold termO
   rw [prim_ext E tl hE ht ih]
   cases primO five (termO five d) m s with
   | none => rfl
   | some q =>
     obtain ⟨t, pr, s1⟩ := q
     exact inf_ext E tl hE ht ih m _ t pr s1 (Nat.le_refl _)
end
end Go.Proofs.YtbkjcccbjnehbanGreatDoor

namespace Go.Proofs.YtbkjcccbjnehbanGreatDoor
def Tm.n : Tm → Nat
 | .mk _ _ _ ks => 1 + ns ks
where ns : List Tm → Nat
 | [] => 0
 | t :: ts => t.n + ns ts
abbrev ns := Tm.n.ns
theorem ns_append (l m : List Tm) : ns (l ++ m) = ns l + ns m := by
 induction l with
 | nil => simp [ns, Tm.n.ns]
 | cons t r ih => simp only [List.cons_append, ns, Tm.n.ns] at *; omega
theorem n_mk (k : Int) (s : ByteArray) (m : Int) (ks : List Tm) : (Tm.mk k s m ks).n = 1 + ns ks := by simp [Tm.n, ns]
theorem ns_take_le (ks : List Tm) (j : Nat) : ns (ks.take j) ≤ ns ks := by
 have : ns (ks.take j) + ns (ks.drop j) = ns ks := by rw [← ns_append, List.take_append_drop]
 omega
end Go.Proofs.YtbkjcccbjnehbanGreatDoor

namespace Go.Proofs.YtbkjcccbjnehbanGreatDoor
open Go.RowKit
def oneT (k : Int) (s : ByteArray) (n : Int) (l : Nat) : Bool :=
 if k = 1 then decide (0 ≤ n ∧ n ≤ 99999) && decide (s.size = 0) && decide (l = 0)
 else if k = 2 then nameOk s && decide (n = 0) && decide (l = 0)
 else if k = 3 then decide (-999999999 ≤ n ∧ n ≤ 999999999) && decide (s.size = 0) && decide (l = 0)
 else if k = 4 then nameOk s && decide (n = 0) && decide (1 ≤ l ∧ l ≤ 5)
 else false
def Tm.right : Tm → Nat → Bool
 | .mk k s n ks, d => decide (d ≤ 40) && oneT k s n ks.length && rights ks (d + 1)
where rights : List Tm → Nat → Bool
 | [], _ => true
 | t :: ts, d => t.right d && rights ts d
abbrev rights := Tm.right.rights
def Tm.ok (t : Tm) : Bool := decide (t.n ≤ 400) && t.right 1
theorem right_mk (k : Int) (s : ByteArray) (n : Int) (ks : List Tm) (d : Nat) : (Tm.mk k s n ks).right d = (decide (d ≤ 40) && oneT k s n ks.length && rights ks (d + 1)) := by simp [Tm.right, rights]
theorem rights_all (ks : List Tm) (d : Nat) : rights ks d = ks.all fun t => t.right d := by
 induction ks with
 | nil => rfl
 | cons t r ih => simp only [rights, Tm.right.rights, List.all_cons] at *; rw [ih]
theorem ret_bool {a b : Bool} (h : a = b) : Ending.returned (.bool a) = .returned (.bool b) := by rw [h]
theorem rights_take {ks : List Tm} {d j : Nat} (hj : j < ks.length) (h : rights (ks.take j) d = true) (h1 : ks[j].right d = true) : rights (ks.take (j + 1)) d = true := by
 rw [rights_all] at *
 rw [List.take_succ_eq_append_getElem hj, List.all_append, h]
 simp [h1]
theorem rights_no {ks : List Tm} {d j : Nat} (hj : j < ks.length) (h1 : ks[j].right d = false) : rights ks d = false := by
 rw [rights_all, List.all_eq_false]
 exact ⟨ks[j], List.getElem_mem hj, by simp [h1]⟩
theorem empty_of {s : ByteArray} (h : s.size = 0) : s = ⟨#[]⟩ := by
 apply ByteArray.ext
 exact Array.eq_empty_of_size_eq_zero h
theorem not_empty {s : ByteArray} (h : s.size ≠ 0) : ¬ s.toList = [] := by
 intro e
 apply h
 have := congrArg List.length e
 rw [ByteArray.toList_eq, Array.length_toList] at this
 exact this
theorem nat0 (l : Nat) : ((l : Int) == 0) = decide (l = 0) := by
 by_cases h : l = 0
 · subst h; rfl
 · rw [decide_eq_false h, beq_eq_false_iff_ne]; omega
theorem tm_shape {w : World} {t : Tm} {v : Value} (h : TmIn w t v) : ∃ k s n ao len cap, v = .agg #[.int .i64 k, .string s, .int .i64 n, .slice ao len cap] := by
 obtain ⟨k, s, n, ks⟩ := t
 unfold TmIn at h
 obtain ⟨ao, cap, rfl, _⟩ := h
 exact ⟨_, _, _, _, _, _, rfl⟩
end Go.Proofs.YtbkjcccbjnehbanGreatDoor

namespace Go.Proofs.YtbkjcccbjnehbanGreatDoor
theorem Fat.not_right {t : Tm} (h : Fat t) : ∀ d, t.right d = false := by
 induction h with
 | wide k s n ks hk =>
   intro d
   rw [right_mk]
   have : oneT k s n ks.length = false := by
     unfold oneT
     split
     · rw [decide_eq_false (show ¬ ks.length = 0 by omega)]; simp
     split
     · rw [decide_eq_false (show ¬ ks.length = 0 by omega)]; simp
     split
     · rw [decide_eq_false (show ¬ ks.length = 0 by omega)]; simp
     split
     · rw [decide_eq_false (show ¬ (1 ≤ ks.length ∧ ks.length ≤ 5) by omega)]; simp
     · rfl
   rw [this]; simp
 | kid k s n ks t ht _ ih =>
   intro d
   rw [right_mk, rights_all]
   have : (ks.all fun t => t.right (d + 1)) = false := by rw [List.all_eq_false]; exact ⟨t, ht, by simp [ih (d + 1)]⟩
   rw [this]; simp
theorem Fat.not_ok {t : Tm} (h : Fat t) : t.ok = false := by unfold Tm.ok; rw [h.not_right 1]; simp
def readS (rest : List Sg) : Option (Tm × List ByteArray × List Sg) :=
 match termO true 130 1200 ⟨rest, []⟩ with
 | some (t, ⟨x :: r, names⟩) => if x.kind = 5 ∧ t.ok = true then some (t, names, r) else none
 | _ => none
def readI (ahead : List Sg) : Option (Tm × List ByteArray) :=
 match termO false 130 1200 ⟨ahead, []⟩ with
 | some (t, ⟨[], names⟩) => if t.ok = true then some (t, names) else none
 | _ => none
def NoEnd (r : List Sg) : Prop := ∀ x ∈ r, x.kind ≠ 5
def Sub (tm : Int → St → Option (Tm × St)) : Prop := ∀ m s t s', tm m s = some (t, s') → ∀ x ∈ s'.rest, x ∈ s.rest
theorem mk?_mem {l : ByteArray} {r r' : List Sg} (h : mk? l r = some r') : ∀ x ∈ r', x ∈ r := by
 obtain ⟨y, rfl, _⟩ := mk?_cons h
 exact fun x hx => List.mem_cons_of_mem _ hx
theorem someO_sub {five : Bool} {tm : Int → St → Option (Tm × St)} (ht : Sub tm) (ks : List Tm) (s : St) : ∀ ks' s', someO five tm ks s = some (ks', s') → ∀ x ∈ s'.rest, x ∈ s.rest := by
 fun_induction someO five tm ks s <;> intro ks' s' h
 all_goals first | cases h | skip
 · rename_i x s1 hx _ _ _ hr; exact fun y hy => ht _ _ _ _ hx y (mk?_mem hr y hy)
 · rename_i x s1 hx _ _ _ r hr ih; exact fun y hy => ht _ _ _ _ hx y (mk?_mem hr y (ih _ _ h y hy))
theorem rowO_sub {tm : Int → St → Option (Tm × St)} (ht : Sub tm) (ks : List Tm) (s : St) : ∀ ks' y s', rowO tm ks s = some (ks', y, s') → ∀ x ∈ s'.rest, x ∈ s.rest := by
 fun_induction rowO tm ks s <;> intro ks' y' s' h
 all_goals first | cases h | skip
 · rename_i x s1 hx _ r hr; exact fun y hy => ht _ _ _ _ hx y (mk?_mem hr y hy)
 · rename_i x s1 hx _ _ r hb y s2 hy r2 hr
   exact fun z hz => ht _ _ _ _ hx z (mk?_mem hb z (ht _ _ _ _ hy z (mk?_mem hr z hz)))
 · rename_i x s1 hx _ _ _ r hr ih; exact fun y hy => ht _ _ _ _ hx y (mk?_mem hr y (ih _ _ _ h y hy))
theorem infO_sub {tm : Int → St → Option (Tm × St)} (ht : Sub tm) (most : Int) (t : Tm) (pr : Int) (s : St) : ∀ t' s', infO tm most t pr s = some (t', s') → ∀ x ∈ s'.rest, x ∈ s.rest := by
 fun_induction infO tm most t pr s <;> intro t' s' h
 all_goals first | (cases h; exact fun x hx => hx) | cases h | skip
 rename_i y s1 hy _ ih
 exact fun z hz => List.mem_of_mem_tail (ht _ _ _ _ hy z (ih _ _ h z hz))
theorem prim_sub {five : Bool} {tm : Int → St → Option (Tm × St)} (ht : Sub tm) {most : Int} {s : St} {y : Tm × Int × St} (h : primO five tm most s = some y) : ∀ x ∈ y.2.2.rest, x ∈ s.rest := by
 unfold primO at h
 split at h
 · cases h
 · rename_i x r e
   rw [e]
   have up : ∀ z, z ∈ r → z ∈ x :: r := fun z hz => List.mem_cons_of_mem _ hz
   split at h
   · unfold atomO at h
     split at h
     · split at h
       · cases h
       · rename_i hr
         split at h
         · cases h
         · rename_i hs; cases h; exact fun z hz => up z (mk?_mem hr z (someO_sub ht _ _ _ _ hs z hz))
     · split at h
       · cases h; exact fun z hz => up z (List.mem_of_mem_tail hz)
       · split at h
         · split at h
           · split at h
             · cases h
             · rename_i hy; cases h; exact fun z hz => up z (ht _ _ _ _ hy z hz)
           · cases h
         · split at h
           · cases h
           · cases h; exact up
   · split at h
     · obtain ⟨z, hz, rfl⟩ := Option.map_eq_some_iff.1 h
       unfold roundO at hz
       split at hz
       · rename_i ha
         cases hz
         unfold aloneO at ha
         split at ha
         · split at ha
           · cases ha; exact fun z hz => up z (List.mem_cons_of_mem _ (List.mem_cons_of_mem _ hz))
           · cases ha
         · cases ha
       · split at hz
         · cases hz
         · rename_i hy
           split at hz
           · rename_i hr; cases hz; exact fun z hz => up z (ht _ _ _ _ hy z (mk?_mem hr z hz))
           · cases hz
     · split at h
       · obtain ⟨z, hz, rfl⟩ := Option.map_eq_some_iff.1 h
         unfold listO at hz
         split at hz
         · rename_i hr; cases hz; exact fun z hz => up z (mk?_mem hr z hz)
         · split at hz
           · cases hz
           · rename_i hy; cases hz; exact fun z hz => up z (rowO_sub ht _ _ _ _ _ hy z hz)
       · split at h
         · cases h; exact up
         · split at h
           · cases h; exact up
           · cases h
theorem term_sub (five : Bool) : ∀ d, Sub (termO five d)
 | 0, m, s, t, s', h => by unfold termO at h; cases h
 | d + 1, m, s, t, s', h => by
   unfold termO at h
   split at h
   · cases h
   · rename_i hp
     exact fun x hx => prim_sub (term_sub five d) hp x (infO_sub (term_sub five d) _ _ _ _ _ _ h x hx)
theorem read_same {ahead tl : List Sg} {E : Sg} (hE : E.kind = 5) (hn : NoEnd ahead) : readS (ahead ++ E :: tl) = (readI ahead).map fun y => (y.1, y.2, tl) := by
 have h := term_ext E tl hE true 130 1200 ⟨ahead, []⟩
 have e : ext E tl ⟨ahead, []⟩ = ⟨ahead ++ E :: tl, []⟩ := rfl
 rw [e] at h
 unfold readS readI
 rw [h]
 obtain ⟨h1, h2⟩ := term_five 130 1200 ⟨ahead, []⟩
 cases ha : termO true 130 1200 ⟨ahead, []⟩ with
 | none =>
   simp only [Option.map_none]
   cases hb : termO false 130 1200 ⟨ahead, []⟩ with
   | none => rfl
   | some q =>
     obtain ⟨t, ⟨rest, names⟩⟩ := q
     cases rest with
     | nil => simp only; rw [(h2 ha t _ hb).not_ok]; rfl
     | cons x r => rfl
 | some q =>
   rw [h1 q ha]
   obtain ⟨t, ⟨rest, names⟩⟩ := q
   cases rest with
   | nil =>
     simp only [Option.map_some, ext, List.nil_append, hE, true_and]
     split <;> rfl
   | cons x r =>
     simp only [Option.map_some, ext, List.cons_append]
     have hx : x.kind ≠ 5 := hn x (term_sub true 130 1200 ⟨ahead, []⟩ t _ ha x List.mem_cons_self)
     rw [if_neg (fun h => hx h.1)]
     rfl
end Go.Proofs.YtbkjcccbjnehbanGreatDoor

namespace Go.Proofs.YtbkjcccbjnehbanGreatDoor
def szR (n : Nat) (left : Nat) : Int := if n ≤ left then ((left - n : Nat) : Int) else -1
end Go.Proofs.YtbkjcccbjnehbanGreatDoor

namespace Go.Proofs.YtbkjcccbjnehbanGreatDoor
open Go.RowKit
def CntOk (t : Tm) : Prop := ∀ (w : World) (v : Value) (room : Nat), TmIn w t v → room ≤ 1048576 →
 Calls Tryz.prog 44 #[v, .int .i64 (room : Int)] w fun e w' => e = .returned (.int .i64 (szR t.n room)) ∧ Below w.heap.size w w'
theorem count_term (t : Tm) : CntOk t := by
 refine tm_ind (p := CntOk) ?_ t
 clear t
 intro k s n ks hks w v room hin hroom
 unfold TmIn at hin
 obtain ⟨ao, cap, rfl, hk, hn, hs, hlen, hcap, hrow⟩ := hin
 unfold maxLen at hcap
 rw [n_mk]
 have hb0 : Below w.heap.size w (w.alloc (.cells #[.int .i64 k, .string s, .int .i64 n, .slice ao ks.length cap] 24)) := (Below.refl _ _).alloc (Nat.le_refl _) _
 have HC3 : Hid (∀ wr, Below (w.alloc (.cells #[.int .i64 k, .string s, .int .i64 n, .slice ao ks.length cap] 24)).heap.size (w.alloc (.cells #[.int .i64 k, .string s, .int .i64 n, .slice ao ks.length cap] 24)) wr → wr.cell? ⟨w.heap.size, 3, none⟩ = some (.slice ao ks.length cap)) := fun wr hb =>
   cell_keep (w := w.alloc _) (by simp) hb
 have HR : Hid (∀ wr, Below (w.alloc (.cells #[.int .i64 k, .string s, .int .i64 n, .slice ao ks.length cap] 24)).heap.size (w.alloc (.cells #[.int .i64 k, .string s, .int .i64 n, .slice ao ks.length cap] 24)) wr → ks ≠ [] → ∃ b off, ao = some ⟨b, off, none⟩ ∧ TmsIn wr ks b off) := fun wr hb h0 => by
   obtain ⟨b, off, e, hr⟩ := hrow h0
   exact ⟨b, off, e, TmsIn.keep hb ks b off (TmsIn.keep hb0 ks b off hr)⟩
 have HKS : Hid _ := hks
 replace hb0 : Hid _ := hb0
 clear hrow hks
 go_enter Tryz.func44, Tryz.ntmps44
 go_wp2
 generalize hW : w.alloc (.cells #[.int .i64 k, .string s, .int .i64 n, .slice ao ks.length cap] 24) = W at *
 go_loopw [1, 5] (fun vl vi wr => Hid (Below W.heap.size W wr) ∧ ∃ j : Nat, j ≤ ks.length ∧ vi = .int .i64 (j : Int) ∧ ((∃ l : Nat, vl = .int .i64 (l : Int) ∧ l ≤ 1048576 ∧ Hid (l + 1 + ns (ks.take j) = room)) ∨ (vl = .int .i64 (-1) ∧ Hid (szR (1 + ns ks) room = -1)))) (fun _ i _ => ks.length - (intOf i).toNat)
 case atStart =>
   refine ⟨Below.refl _ _, 0, by omega, rfl, ?_⟩
   by_cases h0 : room = 0
   · subst h0
     exact Or.inr ⟨rfl, by show _ = _; unfold szR; rw [if_neg (by omega)]⟩
   · exact Or.inl ⟨room - 1, by simp; omega, by omega, by show _ = _; simp [ns, Tm.n.ns]; omega⟩
 case round =>
   obtain ⟨HB, j, hj, rfl, hl⟩ := hrel
   have c3 := HC3.out wr HB.out
   rcases hl with ⟨l, rfl, hll, HL⟩ | ⟨rfl, HL⟩
   · by_cases hlt : j < ks.length
     · obtain ⟨b, off, rfl, hin⟩ := HR.out wr HB.out (by intro e; subst e; simp at hlt)
       obtain ⟨c0, c1, c2, c3', h0, h1, h2, h3, ht⟩ := hin.at j hlt
       have HC := HKS.out ks[j] (List.getElem_mem hlt) wr _ l ht hll
       have hw : ns (ks.take (j + 1)) = ns (ks.take j) + ks[j].n := by
         rw [List.take_succ_eq_append_getElem hlt, ns_append]; simp [ns, Tm.n.ns]
       have HW : Hid _ := hw
       clear hin ht hw HR HC3 HKS
       by_cases hfit : ks[j].n ≤ l
       · rw [show szR ks[j].n l = ((l - ks[j].n : Nat) : Int) from if_pos hfit] at HC
         replace HC : Hid _ := HC
         go_wp2_with (go_at_call 44; refine (Calls.mono HC.out ?_); rintro e w1 ⟨rfl, hb⟩; have HB1 : Hid (Below W.heap.size W w1) := HB.out.trans (hb.mono HB.out.size); clear hb)
         go_roundw
         case rel => exact ⟨HB1.out, j + 1, by omega, by go_num, Or.inl ⟨l - ks[j].n, rfl, by omega, by show _ = _; have := HL.out; have := HW.out; omega⟩⟩
         case measure => simp [intOf]; omega
       · rw [show szR ks[j].n l = -1 from if_neg hfit] at HC
         replace HC : Hid _ := HC
         have hr : szR (1 + ns ks) room = -1 := by
           have h1 := HL.out
           have h2 := HW.out
           have h3 : ns (ks.take (j + 1)) + ns (ks.drop (j + 1)) = ns ks := by rw [← ns_append, List.take_append_drop]
           unfold szR
           rw [if_neg (by omega)]
         have HRR : Hid _ := hr
         clear hr
         go_wp2_with (go_at_call 44; refine (Calls.mono HC.out ?_); rintro e w1 ⟨rfl, hb⟩; have HB1 : Hid (Below W.heap.size W w1) := HB.out.trans (hb.mono HB.out.size); clear hb)
         go_roundw
         case rel => exact ⟨HB1.out, j + 1, by omega, by go_num, Or.inr ⟨rfl, HRR.out⟩⟩
         case measure => simp [intOf]; omega
     · have hr : szR (1 + ns ks) room = (l : Int) := by
         have h1 := HL.out
         rw [List.take_of_length_le (by omega)] at h1
         unfold szR
         rw [if_pos (by omega)]
         omega
       have HRR : Hid _ := hr
       clear hr HR HC3 HKS
       go_wp2
       go_ret
       exact ⟨by rw [HRR.out]; rfl, hb0.out.trans (HB.out.mono hb0.out.size)⟩
   · clear HR HC3 HKS
     by_cases hlt : j < ks.length
     · go_wp2
       go_ret
       exact ⟨by rw [HL.out]; rfl, hb0.out.trans (HB.out.mono hb0.out.size)⟩
     · go_wp2
       go_ret
       exact ⟨by rw [HL.out]; rfl, hb0.out.trans (HB.out.mono hb0.out.size)⟩
end Go.Proofs.YtbkjcccbjnehbanGreatDoor

namespace Go.Proofs.YtbkjcccbjnehbanGreatDoor
open Go.RowKit
theorem in_t (x a b : Int) (w : World) (h : a ≤ x ∧ x ≤ b) :
   Calls Tryz.prog 26 #[.int .i64 x, .int .i64 a, .int .i64 b] w fun e w' => e = .returned (.bool true) ∧ w' = w := by
 have := in_any x a b w
 rwa [decide_eq_true h] at this
theorem in_f (x a b : Int) (w : World) (h : ¬ (a ≤ x ∧ x ≤ b)) :
   Calls Tryz.prog 26 #[.int .i64 x, .int .i64 a, .int .i64 b] w fun e w' => e = .returned (.bool false) ∧ w' = w := by
 have := in_any x a b w
 rwa [decide_eq_false h] at this
theorem specOne (k : Int) (s : ByteArray) (n : Int) (ao : Option Addr) (l cap : Nat) (hs : s.size ≤ maxLen) (hl : l ≤ maxLen) (w : World) :
   Calls Tryz.prog 67 #[.agg #[.int .i64 k, .string s, .int .i64 n, .slice ao l cap]] w fun e w' => e = .returned (.bool (oneT k s n l)) ∧ Below w.heap.size w w' := by
 have hb0 : Below w.heap.size w (w.alloc (.cells #[.int .i64 k, .string s, .int .i64 n, .slice ao l cap] 24)) := (Below.refl _ _).alloc (Nat.le_refl _) _
 have HN : Hid (∀ w, Calls Tryz.prog 59 #[.string s] w fun e w' => e = .returned (.bool (nameOk s)) ∧ w' = w) := specName s hs
 unfold maxLen at hl
 clear hs
 by_cases h1 : k = 1
 · subst h1
   clear HN
   by_cases hr : 0 ≤ n ∧ n ≤ 99999
   · by_cases hz : s.size = 0
     · obtain rfl := empty_of hz
       go_enter Tryz.func67, Tryz.ntmps67
       go_wp2_with (go_at_call 26; refine (in_t _ _ _ _ hr).mono ?_; rintro e w1 ⟨rfl, rfl⟩)
       go_ret
       exact ⟨ret_bool (by simp only [oneT, nat0, decide_eq_true hr, show (⟨#[]⟩ : ByteArray).size = 0 from rfl]; simp), hb0⟩
     · have hq := not_empty hz
       go_enter Tryz.func67, Tryz.ntmps67
       go_wp2_with (go_at_call 26; refine (in_t _ _ _ _ hr).mono ?_; rintro e w1 ⟨rfl, rfl⟩)
       go_ret
       exact ⟨ret_bool (by simp [oneT, hz]), hb0⟩
   · go_enter Tryz.func67, Tryz.ntmps67
     go_wp2_with (go_at_call 26; refine (in_f _ _ _ _ hr).mono ?_; rintro e w1 ⟨rfl, rfl⟩)
     go_ret
     exact ⟨ret_bool (by simp only [oneT, decide_eq_false hr]; simp), hb0⟩
 · by_cases h2 : k = 2
   · subst h2
     clear h1
     cases hN : nameOk s with
     | true =>
       rw [hN] at HN
       by_cases hz : n = 0
       · subst hz
         go_enter Tryz.func67, Tryz.ntmps67
         go_wp2_with (go_at_call 59; refine (Calls.mono (HN.out _) ?_); rintro e w1 ⟨rfl, rfl⟩)
         go_ret
         exact ⟨ret_bool (by simp [oneT, hN, nat0]), hb0⟩
       · go_enter Tryz.func67, Tryz.ntmps67
         go_wp2_with (go_at_call 59; refine (Calls.mono (HN.out _) ?_); rintro e w1 ⟨rfl, rfl⟩)
         go_ret
         exact ⟨ret_bool (by simp [oneT, hz]), hb0⟩
     | false =>
       rw [hN] at HN
       go_enter Tryz.func67, Tryz.ntmps67
       go_wp2_with (go_at_call 59; refine (Calls.mono (HN.out _) ?_); rintro e w1 ⟨rfl, rfl⟩)
       go_ret
       exact ⟨ret_bool (by simp [oneT, hN]), hb0⟩
   · by_cases h3 : k = 3
     · subst h3
       clear h1 h2 HN
       by_cases hr : -999999999 ≤ n ∧ n ≤ 999999999
       · by_cases hz : s.size = 0
         · obtain rfl := empty_of hz
           go_enter Tryz.func67, Tryz.ntmps67
           go_wp2_with (go_at_call 26; refine (in_t _ _ _ _ hr).mono ?_; rintro e w1 ⟨rfl, rfl⟩)
           go_ret
           exact ⟨ret_bool (by simp only [oneT, nat0, decide_eq_true hr, show (⟨#[]⟩ : ByteArray).size = 0 from rfl]; simp), hb0⟩
         · have hq := not_empty hz
           go_enter Tryz.func67, Tryz.ntmps67
           go_wp2_with (go_at_call 26; refine (in_t _ _ _ _ hr).mono ?_; rintro e w1 ⟨rfl, rfl⟩)
           go_ret
           exact ⟨ret_bool (by simp [oneT, hz]), hb0⟩
       · go_enter Tryz.func67, Tryz.ntmps67
         go_wp2_with (go_at_call 26; refine (in_f _ _ _ _ hr).mono ?_; rintro e w1 ⟨rfl, rfl⟩)
         go_ret
         exact ⟨ret_bool (by simp only [oneT, decide_eq_false hr]; simp), hb0⟩
     · by_cases h4 : k = 4
       · subst h4
         clear h1 h2 h3
         cases hN : nameOk s with
         | true =>
           rw [hN] at HN
           by_cases hz : n = 0
           · subst hz
             go_enter Tryz.func67, Tryz.ntmps67
             go_wp2_with (first | (go_at_call 59; refine (Calls.mono (HN.out _) ?_); rintro e w1 ⟨rfl, rfl⟩) | (go_at_call 26; refine (in_any _ _ _ _).mono ?_; rintro e w1 ⟨rfl, rfl⟩))
             go_ret
             exact ⟨ret_bool (by simp [oneT, hN]; congr 1 <;> congr 1 <;> apply propext <;> omega), hb0⟩
           · go_enter Tryz.func67, Tryz.ntmps67
             go_wp2_with (go_at_call 59; refine (Calls.mono (HN.out _) ?_); rintro e w1 ⟨rfl, rfl⟩)
             go_ret
             exact ⟨ret_bool (by simp [oneT, hz]), hb0⟩
         | false =>
           rw [hN] at HN
           go_enter Tryz.func67, Tryz.ntmps67
           go_wp2_with (go_at_call 59; refine (Calls.mono (HN.out _) ?_); rintro e w1 ⟨rfl, rfl⟩)
           go_ret
           exact ⟨ret_bool (by simp [oneT, hN]), hb0⟩
       · clear HN
         have e1 : (k == 1) = false := beq_eq_false_iff_ne.2 h1
         have e2 : (k == 2) = false := beq_eq_false_iff_ne.2 h2
         have e3 : (k == 3) = false := beq_eq_false_iff_ne.2 h3
         have e4 : (k == 4) = false := beq_eq_false_iff_ne.2 h4
         go_enter Tryz.func67, Tryz.ntmps67
         go_wp2
         go_ret
         exact ⟨ret_bool (by simp [oneT, h1, h2, h3, h4]), hb0⟩
def RightOk (t : Tm) : Prop := ∀ (w : World) (v : Value) (d : Nat), TmIn w t v → d ≤ 41 →
 Calls Tryz.prog 45 #[v, .int .i64 (d : Int)] w fun e w' => e = .returned (.bool (t.right d)) ∧ Below w.heap.size w w'
theorem right_term (t : Tm) : RightOk t := by
 refine tm_ind (p := RightOk) ?_ t
 clear t
 intro k s n ks hks w v d hin hd
 unfold TmIn at hin
 obtain ⟨ao, cap, rfl, hk, hn, hs, hlen, hcap, hrow⟩ := hin
 have HONE := specOne k s n ao ks.length cap hs (by omega)
 unfold maxLen at hcap
 rw [right_mk]
 have hb0 : Below w.heap.size w (w.alloc (.cells #[.int .i64 k, .string s, .int .i64 n, .slice ao ks.length cap] 24)) := (Below.refl _ _).alloc (Nat.le_refl _) _
 by_cases hdeep : d ≤ 40
 · rw [decide_eq_true hdeep, Bool.true_and]
   cases ho : oneT k s n ks.length with
   | false =>
     rw [ho] at HONE
     replace HONE : Hid _ := HONE
     replace hb0 : Hid _ := hb0
     rw [Bool.false_and]
     clear hrow hks
     go_enter Tryz.func45, Tryz.ntmps45
     go_wp2_with (go_at_call 67; refine (Calls.mono (HONE.out _) ?_); rintro e w1 ⟨rfl, hb⟩; have HB1 : Hid (Below w.heap.size w w1) := hb0.out.trans (hb.mono hb0.out.size); clear hb)
     go_ret
     exact ⟨rfl, HB1.out⟩
   | true =>
     rw [ho] at HONE
     replace HONE : Hid _ := HONE
     rw [Bool.true_and]
     obtain ⟨W, hW⟩ : ∃ W, W = w.alloc (.cells #[.int .i64 k, .string s, .int .i64 n, .slice ao ks.length cap] 24) := ⟨_, rfl⟩
     rw [← hW] at hb0
     have HC3 : Hid (∀ wr, Below W.heap.size W wr → wr.cell? ⟨w.heap.size, 3, none⟩ = some (.slice ao ks.length cap)) := fun wr hb =>
       cell_keep (w := W) (by rw [hW]; simp) hb
     have HR : Hid (∀ wr, Below W.heap.size W wr → ks ≠ [] → ∃ b off, ao = some ⟨b, off, none⟩ ∧ TmsIn wr ks b off) := fun wr hb h0 => by
       obtain ⟨b, off, e, hr⟩ := hrow h0
       exact ⟨b, off, e, TmsIn.keep hb ks b off (TmsIn.keep hb0 ks b off hr)⟩
     have HKS : Hid _ := hks
     replace hb0 : Hid _ := hb0
     clear hrow hks
     go_enter Tryz.func45, Tryz.ntmps45
     go_wp2_with (go_at_call 67; refine (Calls.mono (HONE.out _) ?_); rintro e w1 ⟨rfl, hb⟩; rw [← hW] at hb; have HB1 : Hid (Below W.heap.size W w1) := hb; clear hb)
     go_loopw [5] (fun vi wr => Hid (Below W.heap.size W wr) ∧ ∃ j : Nat, j ≤ ks.length ∧ vi = .int .i64 (j : Int) ∧ Hid (rights (ks.take j) (d + 1) = true)) (fun i _ => ks.length - (intOf i).toNat)
     case atStart => exact ⟨HB1.out, 0, by omega, rfl, by show _ = _; rfl⟩
     case round =>
       obtain ⟨HB, j, hj, rfl, HL⟩ := hrel
       have c3 := HC3.out wr HB.out
       by_cases hlt : j < ks.length
       · obtain ⟨b, off, rfl, hin⟩ := HR.out wr HB.out (by intro e; subst e; simp at hlt)
         obtain ⟨c0, c1, c2, c3', h0, h1, h2, h3, ht⟩ := hin.at j hlt
         have HC := HKS.out ks[j] (List.getElem_mem hlt) wr _ (d + 1) ht (by omega)
         rw [show ((d + 1 : Nat) : Int) = (d : Int) + 1 by omega] at HC
         clear hin ht HR HC3 HKS HB1 HONE
         cases hj1 : ks[j].right (d + 1) with
         | true =>
           rw [hj1] at HC
           replace HC : Hid _ := HC
           have HL' : Hid _ := rights_take hlt HL.out hj1
           clear HL hj1
           go_wp2_with (go_at_call 45; refine (Calls.mono HC.out ?_); rintro e w2 ⟨rfl, hb⟩; have HB2 : Hid (Below W.heap.size W w2) := HB.out.trans (hb.mono HB.out.size); clear hb)
           go_roundw
           case rel => exact ⟨HB2.out, j + 1, by omega, by go_num, HL'.out⟩
           case measure => simp [intOf]; omega
         | false =>
           rw [hj1] at HC
           replace HC : Hid _ := HC
           have HF : Hid _ := rights_no hlt hj1
           clear HL hj1
           go_wp2_with (go_at_call 45; refine (Calls.mono HC.out ?_); rintro e w2 ⟨rfl, hb⟩; have HB2 : Hid (Below W.heap.size W w2) := HB.out.trans (hb.mono HB.out.size); clear hb)
           go_ret
           exact ⟨by rw [HF.out]; rfl, hb0.out.trans (HB2.out.mono hb0.out.size)⟩
       · have hf := HL.out
         rw [List.take_of_length_le (by omega)] at hf
         have HF : Hid _ := hf
         clear HL hf HR HC3 HKS HB1 HONE
         go_wp2
         go_ret
         exact ⟨by rw [HF.out]; rfl, hb0.out.trans (HB.out.mono hb0.out.size)⟩
 · rw [decide_eq_false hdeep, Bool.false_and, Bool.false_and]
   clear hrow hks HONE
   go_enter Tryz.func45, Tryz.ntmps45
   go_wp2
   go_ret
   exact ⟨rfl, hb0⟩
theorem specOk (t : Tm) (w : World) (v : Value) (h : TmIn w t v) :
   Calls Tryz.prog 29 #[v] w fun e w' => e = .returned (.bool t.ok) ∧ Below w.heap.size w w' := by
 obtain ⟨k, s, n, ao, len, cap, rfl⟩ := tm_shape h
 obtain ⟨W, hW⟩ : ∃ W, W = w.alloc (.cells #[.int .i64 k, .string s, .int .i64 n, .slice ao len cap] 24) := ⟨_, rfl⟩
 have hb0 : Below w.heap.size w W := by rw [hW]; exact (Below.refl _ _).alloc (Nat.le_refl _) _
 have hblk : W.heap[w.heap.size]? = some (.cells #[.int .i64 k, .string s, .int .i64 n, .slice ao len cap] 24 (0, 0)) := by rw [hW]; exact heap_alloc_new w _
 have hwW : w.heap.size < W.heap.size := by rw [hW]; simp
 have HCELL : Hid (∀ w', Below W.heap.size W w' → w'.cell? ⟨w.heap.size, 0, none⟩ = some (.int .i64 k) ∧ w'.cell? ⟨w.heap.size, 1, none⟩ = some (.string s) ∧ w'.cell? ⟨w.heap.size, 2, none⟩ = some (.int .i64 n) ∧ w'.cell? ⟨w.heap.size, 3, none⟩ = some (.slice ao len cap)) := fun w' hb => by
   have h := (hb.block _ hwW).trans hblk
   exact ⟨blk_cell (i := 0) h (by simp), blk_cell (i := 1) h (by simp), blk_cell (i := 2) h (by simp), blk_cell (i := 3) h (by simp)⟩
 have HIN : Hid (∀ w', Below W.heap.size W w' → TmIn w' t (.agg #[.int .i64 k, .string s, .int .i64 n, .slice ao len cap])) := fun w' hb => TmIn.keep hb _ _ (TmIn.keep hb0 _ _ h)
 have HC := count_term t W _ 400 (HIN.out W (Below.refl _ _)) (by omega)
 rw [hW] at HC
 clear h hblk hwW
 by_cases hf : t.n ≤ 400
 · rw [show szR t.n 400 = ((400 - t.n : Nat) : Int) from if_pos hf] at HC
   have hz : (0 : Int) ≤ ((400 - t.n : Nat) : Int) := by omega
   generalize ((400 - t.n : Nat) : Int) = z at *
   rw [show t.ok = t.right 1 by unfold Tm.ok; rw [decide_eq_true hf, Bool.true_and]]
   generalize hb : t.right 1 = b
   have HRT : Hid (∀ w', Below W.heap.size W w' → Calls Tryz.prog 45 #[.agg #[.int .i64 k, .string s, .int .i64 n, .slice ao len cap], .int .i64 1] w' fun e w2 => e = .returned (.bool b) ∧ Below w'.heap.size w' w2) := fun w' hbw => by
     have := right_term t w' _ 1 (HIN.out w' hbw) (by omega)
     rw [hb] at this
     exact this
   replace HC : Hid _ := HC
   clear hb
   go_enter Tryz.func29, Tryz.ntmps29
   go_wp2_with (first
     | (go_at_call 44; refine (Calls.mono HC.out ?_); rintro e w1 ⟨rfl, hb⟩; rw [← hW] at hb; have HB1 : Hid (Below W.heap.size W w1) := hb; obtain ⟨c0, c1, c2, c3⟩ := HCELL.out w1 hb; clear hb)
     | (go_at_call 45; refine (Calls.mono (HRT.out _ HB1.out) ?_); rintro e w2 ⟨rfl, hb⟩; have HB2 : Hid (Below W.heap.size W w2) := HB1.out.trans (hb.mono HB1.out.size); clear hb))
   go_ret
   exact ⟨rfl, hb0.trans (HB2.out.mono hb0.size)⟩
 · rw [show szR t.n 400 = -1 from if_neg hf] at HC
   rw [show t.ok = false by unfold Tm.ok; rw [decide_eq_false hf, Bool.false_and]]
   replace HC : Hid _ := HC
   go_enter Tryz.func29, Tryz.ntmps29
   go_wp2_with (go_at_call 44; refine (Calls.mono HC.out ?_); rintro e w1 ⟨rfl, hb⟩; rw [← hW] at hb; have HB1 : Hid (Below W.heap.size W w1) := hb; clear hb)
   go_ret
   exact ⟨rfl, hb0.trans (HB1.out.mono hb0.size)⟩
end Go.Proofs.YtbkjcccbjnehbanGreatDoor

import Derived.Test.YtbkjcccbjnehbanGreatDoorMh1
namespace Go.Proofs.YtbkjcccbjnehbanGreatDoor
inductive Fat : Tm → Prop
 | wide (k : Int) (s : ByteArray) (n : Int) (ks : List Tm) : 5 < ks.length → Fat (.mk k s n ks)
 | kid (k : Int) (s : ByteArray) (n : Int) (ks : List Tm) (t : Tm) : t ∈ ks → Fat t → Fat (.mk k s n ks)
def Five (A B : Int → St → Option (Tm × St)) : Prop := ∀ m s, (∀ y, A m s = some y → B m s = some y) ∧ (A m s = none → ∀ t s', B m s = some (t, s') → Fat t)
theorem someO_eq {five : Bool} {tm : Int → St → Option (Tm × St)} (ht : Short tm) (ks : List Tm) (s : St) : someO five tm ks s = match tm 999 s with
   | none => none
   | some (x, s1) => if five = true ∧ 5 ≤ ks.length then none else match mk? cRpar s1.rest with
     | some r => some (ks ++ [x], ⟨r, s1.names⟩)
     | none => match mk? cComma s1.rest with
       | some r => someO five tm (ks ++ [x]) ⟨r, s1.names⟩
       | none => none := by
 rw [someO]
 cases h : tm 999 s with
 | none => rfl
 | some y =>
   obtain ⟨x, s1⟩ := y
   have hs := ht _ _ _ _ h
   simp only
   rw [dif_pos hs]
   split
   · rfl
   · cases mk? cRpar s1.rest with
     | some r => rfl
     | none => simp only; split <;> simp_all
theorem someO_pre {five : Bool} {tm : Int → St → Option (Tm × St)} (ks : List Tm) (s : St) : ∀ ks' s', someO five tm ks s = some (ks', s') → ∃ x l, tm 999 s = some x ∧ ks' = ks ++ x.1 :: l := by
 fun_induction someO five tm ks s <;> intro ks' s' h
 all_goals first | cases h | skip
 · rename_i hx _ _ _ _; exact ⟨_, [], hx, by simp⟩
 · rename_i hx _ _ _ _ _ ih
   obtain ⟨y, l, _, rfl⟩ := ih _ _ h
   exact ⟨_, y.1 :: l, hx, by simp⟩
theorem someO_five {A B : Int → St → Option (Tm × St)} (hA : Short A) (hB : Short B) (h : Five A B) : ∀ (n : Nat) (ks : List Tm) (s : St), s.rest.length ≤ n →
   (∀ y, someO true A ks s = some y → someO false B ks s = some y) ∧ (someO true A ks s = none → ∀ ks' s', someO false B ks s = some (ks', s') → 5 < ks'.length ∨ ∃ t ∈ ks', Fat t) := by
 intro n
 induction n with
 | zero =>
   intro ks s hs
   have no : ∀ y, A 999 s = some y → False := fun y hy => by have := hA _ _ y.1 y.2 hy; omega
   have no' : ∀ y, B 999 s = some y → False := fun y hy => by have := hB _ _ y.1 y.2 hy; omega
   constructor
   · intro y hy
     rw [someO_eq hA] at hy
     cases ha : A 999 s with
     | none => rw [ha] at hy; cases hy
     | some x => exact (no x ha).elim
   · intro _ ks' s' hy
     obtain ⟨x, l, hx, _⟩ := someO_pre _ _ _ _ hy
     exact (no' x hx).elim
 | succ n ih =>
   intro ks s hs
   obtain ⟨h1, h2⟩ := h 999 s
   cases ha : A 999 s with
   | none =>
     constructor
     · intro y hy
       rw [someO_eq hA, ha] at hy; cases hy
     · intro _ ks' s' hy
       obtain ⟨x, l, hx, rfl⟩ := someO_pre _ _ _ _ hy
       exact Or.inr ⟨x.1, by simp, h2 ha x.1 x.2 hx⟩
   | some x =>
     have hb := h1 x ha
     obtain ⟨x, s1⟩ := x
     have hsh := hA _ _ _ _ ha
     rw [someO_eq hA, someO_eq hB, ha, hb]
     simp only [true_and, Bool.false_eq_true, false_and, if_false]
     by_cases h5 : 5 ≤ ks.length
     · rw [if_pos h5]
       refine ⟨(fun y hy => by cases hy), fun _ ks' s' hy => Or.inl ?_⟩
       split at hy
       · cases hy; simp; omega
       · split at hy
         · obtain ⟨z, l, _, rfl⟩ := someO_pre _ _ _ _ hy
           simp; omega
         · cases hy
     · rw [if_neg h5]
       cases hr : mk? cRpar s1.rest with
       | some r => exact ⟨fun y hy => hy, fun hy => by cases hy⟩
       | none =>
         simp only
         cases hc : mk? cComma s1.rest with
         | none => exact ⟨(fun y hy => by cases hy), (fun _ ks' s' hy => by cases hy)⟩
         | some r =>
           simp only
           have := mk?_len hc
           exact ih _ _ (by simp only; omega)
theorem rowO_eq {tm : Int → St → Option (Tm × St)} (ht : Short tm) (ks : List Tm) (s : St) : rowO tm ks s = match tm 999 s with
   | none => none
   | some (x, s1) => match mk? cRbr s1.rest with
     | some r => some (ks ++ [x], nilTm, ⟨r, s1.names⟩)
     | none => match mk? cBar s1.rest with
       | some r => match tm 999 ⟨r, s1.names⟩ with
         | none => none
         | some (y, s2) => match mk? cRbr s2.rest with
           | some r2 => some (ks ++ [x], y, ⟨r2, s2.names⟩)
           | none => none
       | none => match mk? cComma s1.rest with
         | some r => rowO tm (ks ++ [x]) ⟨r, s1.names⟩
         | none => none := by
 rw [rowO]
 cases h : tm 999 s with
 | none => rfl
 | some y =>
   obtain ⟨x, s1⟩ := y
   have hs := ht _ _ _ _ h
   simp only
   rw [dif_pos hs]
   cases mk? cRbr s1.rest with
   | some r => rfl
   | none =>
     simp only
     cases mk? cBar s1.rest with
     | some r => rfl
     | none => simp only; split <;> simp_all
theorem rowO_pre {tm : Int → St → Option (Tm × St)} (ks : List Tm) (s : St) : ∀ ks' y s', rowO tm ks s = some (ks', y, s') → ∃ x l, tm 999 s = some x ∧ ks' = ks ++ x.1 :: l := by
 fun_induction rowO tm ks s <;> intro ks' y' s' h
 all_goals first | cases h | skip
 · have hx := ‹tm 999 _ = some _›; exact ⟨_, [], hx, by simp⟩
 · rename_i x s1 hx _ _ _ _ _ _ _ _ _; exact ⟨_, [], hx, by simp⟩
 · rename_i x s1 hx _ _ _ _ _ ih
   obtain ⟨y, l, _, rfl⟩ := ih _ _ _ h
   exact ⟨_, y.1 :: l, hx, by simp⟩
theorem consTm_fat_last {t : Tm} (h : Fat t) : ∀ ks : List Tm, Fat (consTm ks t)
 | [] => h
 | _ :: ks => Fat.kid _ _ _ _ (consTm ks t) (List.mem_cons_of_mem _ List.mem_cons_self) (consTm_fat_last h ks)
theorem consTm_fat_item {t x : Tm} (h : Fat x) : ∀ ks : List Tm, x ∈ ks → Fat (consTm ks t)
 | [], hm => by cases hm
 | k :: ks, hm => by
   rcases List.mem_cons.1 hm with rfl | hm
   · exact Fat.kid _ _ _ _ x List.mem_cons_self h
   · exact Fat.kid _ _ _ _ (consTm ks t) (List.mem_cons_of_mem _ List.mem_cons_self) (consTm_fat_item h ks hm)
theorem rowO_five {A B : Int → St → Option (Tm × St)} (hA : Short A) (hB : Short B) (h : Five A B) : ∀ (n : Nat) (ks : List Tm) (s : St), s.rest.length ≤ n →
   (∀ y, rowO A ks s = some y → rowO B ks s = some y) ∧ (rowO A ks s = none → ∀ ks' y s', rowO B ks s = some (ks', y, s') → Fat y ∨ ∃ t ∈ ks', Fat t) := by
 intro n
 induction n with
 | zero =>
   intro ks s hs
   have no : ∀ y, A 999 s = some y → False := fun y hy => by have := hA _ _ y.1 y.2 hy; omega
   have no' : ∀ y, B 999 s = some y → False := fun y hy => by have := hB _ _ y.1 y.2 hy; omega
   constructor
   · intro y hy
     rw [rowO_eq hA] at hy
     cases ha : A 999 s with
     | none => rw [ha] at hy; cases hy
     | some x => exact (no x ha).elim
   · intro _ ks' z s' hy
     obtain ⟨x, l, hx, _⟩ := rowO_pre _ _ _ _ _ hy
     exact (no' x hx).elim
 | succ n ih =>
   intro ks s hs
   obtain ⟨h1, h2⟩ := h 999 s
   cases ha : A 999 s with
   | none =>
     constructor
     · intro y hy
       rw [rowO_eq hA, ha] at hy; cases hy
     · intro _ ks' z s' hy
       obtain ⟨x, l, hx, rfl⟩ := rowO_pre _ _ _ _ _ hy
       exact Or.inr ⟨x.1, by simp, h2 ha x.1 x.2 hx⟩
   | some x =>
     have hb := h1 x ha
     obtain ⟨x, s1⟩ := x
     have hsh := hA _ _ _ _ ha
     rw [rowO_eq hA, rowO_eq hB, ha, hb]
     simp only
     cases hr : mk? cRbr s1.rest with
     | some r => exact ⟨fun y hy => hy, fun hy => by cases hy⟩
     | none =>
       simp only
       cases hc : mk? cBar s1.rest with
       | some r =>
         simp only
         obtain ⟨g1, g2⟩ := h 999 ⟨r, s1.names⟩
         cases hy2 : A 999 ⟨r, s1.names⟩ with
         | none =>
           refine ⟨(fun y hy => by cases hy), fun _ ks' z s' hy => ?_⟩
           cases hb2 : B 999 ⟨r, s1.names⟩ with
           | none => rw [hb2] at hy; cases hy
           | some q =>
             rw [hb2] at hy
             simp only at hy
             split at hy
             · cases hy; exact Or.inl (g2 hy2 q.1 q.2 hb2)
             · cases hy
         | some q =>
           rw [g1 q hy2]
           simp only
           exact ⟨fun y hy => hy, fun hn ks' z s' hy => by rw [hn] at hy; cases hy⟩
       | none =>
         simp only
         cases hc : mk? cComma s1.rest with
         | none => exact ⟨(fun y hy => by cases hy), (fun _ ks' z s' hy => by cases hy)⟩
         | some r =>
           simp only
           have := mk?_len hc
           exact ih _ _ (by simp only; omega)
end Go.Proofs.YtbkjcccbjnehbanGreatDoor

namespace Go.Proofs.YtbkjcccbjnehbanGreatDoor
theorem infO_eq {tm : Int → St → Option (Tm × St)} (ht : Short tm) (most : Int) (t : Tm) (pr : Int) (s : St) : infO tm most t pr s = match infixO s.rest with
   | none => some (t, s)
   | some op => if most < op.prio ∨ op.left < pr then some (t, s) else match tm op.right ⟨s.rest.tail, s.names⟩ with
     | none => none
     | some (y, s1) => infO tm most (structTm op.name [t, y]) op.prio s1 := by
 rw [infO]
 cases h : infixO s.rest with
 | none => rfl
 | some op =>
   simp only
   split
   · rfl
   · cases hy : tm op.right ⟨s.rest.tail, s.names⟩ with
     | none => rfl
     | some y =>
       obtain ⟨y, s1⟩ := y
       have hs := ht _ _ _ _ hy
       simp only at hs ⊢
       rw [dif_pos (by simp only [List.length_tail] at hs; omega)]
theorem infO_fat {tm : Int → St → Option (Tm × St)} (most : Int) (t : Tm) (pr : Int) (s : St) : Fat t → ∀ t' s', infO tm most t pr s = some (t', s') → Fat t' := by
 fun_induction infO tm most t pr s <;> intro hf t' s' h
 all_goals first | (cases h; exact hf) | cases h | skip
 rename_i ih
 exact ih (Fat.kid _ _ _ _ _ List.mem_cons_self hf) _ _ h
theorem infO_five {A B : Int → St → Option (Tm × St)} (hA : Short A) (hB : Short B) (h : Five A B) (most : Int) : ∀ (n : Nat) (t : Tm) (pr : Int) (s : St), s.rest.length ≤ n →
   (∀ y, infO A most t pr s = some y → infO B most t pr s = some y) ∧ (infO A most t pr s = none → ∀ t' s', infO B most t pr s = some (t', s') → Fat t') := by
 intro n
 induction n with
 | zero =>
   intro t pr s hs
   have e : s.rest = [] := List.eq_nil_of_length_eq_zero (by omega)
   have e1 : ∀ tm : Int → St → Option (Tm × St), Short tm → infO tm most t pr s = some (t, s) := fun tm ht => by rw [infO_eq ht, e]; rfl
   rw [e1 A hA, e1 B hB]
   exact ⟨fun y hy => hy, fun hy => by cases hy⟩
 | succ n ih =>
   intro t pr s hs
   rw [infO_eq hA, infO_eq hB]
   cases hi : infixO s.rest with
   | none => exact ⟨fun y hy => hy, fun hy => by cases hy⟩
   | some op =>
     simp only
     by_cases hc : most < op.prio ∨ op.left < pr
     · rw [if_pos hc]; exact ⟨fun y hy => by rw [if_pos hc]; exact hy, fun hy => by cases hy⟩
     · rw [if_neg hc, if_neg hc]
       obtain ⟨h1, h2⟩ := h op.right ⟨s.rest.tail, s.names⟩
       cases ha : A op.right ⟨s.rest.tail, s.names⟩ with
       | none =>
         refine ⟨(fun y hy => by cases hy), fun _ t' s' hy => ?_⟩
         cases hb : B op.right ⟨s.rest.tail, s.names⟩ with
         | none => rw [hb] at hy; cases hy
         | some q =>
           rw [hb] at hy
           exact infO_fat _ _ _ _ (Fat.kid _ _ _ _ _ (List.mem_cons_of_mem _ List.mem_cons_self) (h2 ha q.1 q.2 hb)) _ _ hy
       | some q =>
         rw [h1 q ha]
         have hq := hA _ _ q.1 q.2 ha
         simp only [List.length_tail] at hq
         exact ih _ _ _ (by omega)
theorem round_five {A B : Int → St → Option (Tm × St)} (h : Five A B) (r : List Sg) (names : List ByteArray) :
   (∀ y, roundO A r names = some y → roundO B r names = some y) ∧ (roundO A r names = none → ∀ t s, roundO B r names = some (t, s) → Fat t) := by
 unfold roundO
 cases ha : aloneO r with
 | some y => exact ⟨fun y hy => hy, fun hy => by cases hy⟩
 | none =>
   simp only
   obtain ⟨h1, h2⟩ := h 1200 ⟨r, names⟩
   cases hy : A 1200 ⟨r, names⟩ with
   | none =>
     refine ⟨(fun y hy => by cases hy), fun _ t s hb => ?_⟩
     cases hq : B 1200 ⟨r, names⟩ with
     | none => rw [hq] at hb; cases hb
     | some q =>
       rw [hq] at hb
       simp only at hb
       split at hb
       · cases hb; exact h2 hy q.1 q.2 hq
       · cases hb
   | some q =>
     rw [h1 q hy]
     exact ⟨fun y hy => hy, fun hn t s hb => by rw [hn] at hb; cases hb⟩
theorem list_five {A B : Int → St → Option (Tm × St)} (hA : Short A) (hB : Short B) (h : Five A B) (r : List Sg) (names : List ByteArray) :
   (∀ y, listO A r names = some y → listO B r names = some y) ∧ (listO A r names = none → ∀ t s, listO B r names = some (t, s) → Fat t) := by
 unfold listO
 cases hr : mk? cRbr r with
 | some r' => exact ⟨fun y hy => hy, fun hy => by cases hy⟩
 | none =>
   simp only
   obtain ⟨h1, h2⟩ := rowO_five hA hB h _ [] ⟨r, names⟩ (Nat.le_refl _)
   cases hy : rowO A [] ⟨r, names⟩ with
   | none =>
     refine ⟨(fun y hy => by cases hy), fun _ t s hb => ?_⟩
     cases hq : rowO B [] ⟨r, names⟩ with
     | none => rw [hq] at hb; cases hb
     | some q =>
       rw [hq] at hb
       obtain ⟨ks, y, s2⟩ := q
       simp only at hb
       cases hb
       rcases h2 hy ks y s hq with hf | ⟨x, hx, hf⟩
       · exact consTm_fat_last hf ks
       · exact consTm_fat_item hf ks hx
   | some q =>
     rw [h1 q hy]
     exact ⟨fun y hy => hy, fun hn t s hb => by rw [hn] at hb; cases hb⟩
theorem atom_five {A B : Int → St → Option (Tm × St)} (hA : Short A) (hB : Short B) (h : Five A B) (most : Int) (x : Sg) (r : List Sg) (names : List ByteArray) :
   (∀ y, atomO true A most x r names = some y → atomO false B most x r names = some y) ∧ (atomO true A most x r names = none → ∀ y, atomO false B most x r names = some y → Fat y.1) := by
 unfold atomO
 split
 · cases hr : mk? cLpar r with
   | none => exact ⟨(fun y hy => by cases hy), (fun _ y hy => by cases hy)⟩
   | some r' =>
     simp only
     obtain ⟨h1, h2⟩ := someO_five hA hB h _ [] ⟨r', names⟩ (Nat.le_refl _)
     cases hy : someO true A [] ⟨r', names⟩ with
     | none =>
       refine ⟨(fun y hy => by cases hy), fun _ y hb => ?_⟩
       cases hq : someO false B [] ⟨r', names⟩ with
       | none => rw [hq] at hb; cases hb
       | some q =>
         rw [hq] at hb
         obtain ⟨ks, s2⟩ := q
         simp only at hb
         cases hb
         rcases h2 hy ks s2 hq with hw | ⟨t, ht, hf⟩
         · exact Fat.wide _ _ _ _ hw
         · exact Fat.kid _ _ _ _ t ht hf
     | some q =>
       rw [h1 q hy]
       exact ⟨fun y hy => hy, fun hn y hb => by rw [hn] at hb; cases hb⟩
 · split
   · exact ⟨fun y hy => hy, fun hn y hb => by cases hn⟩
   · cases hp : prefixP x.text with
     | none =>
       simp only
       exact ⟨fun y hy => hy, fun hn y hb => by rw [hn] at hb; cases hb⟩
     | some op =>
       simp only
       split
       · obtain ⟨h1, h2⟩ := h op.right ⟨r, names⟩
         cases hy : A op.right ⟨r, names⟩ with
         | none =>
           refine ⟨(fun y hy => by cases hy), fun _ y hb => ?_⟩
           cases hq : B op.right ⟨r, names⟩ with
           | none => rw [hq] at hb; cases hb
           | some q =>
             rw [hq] at hb
             simp only at hb
             cases hb
             exact Fat.kid _ _ _ _ _ List.mem_cons_self (h2 hy q.1 q.2 hq)
         | some q =>
           rw [h1 q hy]
           exact ⟨fun y hy => hy, fun hn y hb => by cases hn⟩
       · exact ⟨(fun y hy => by cases hy), (fun _ y hy => by cases hy)⟩
theorem map_five {F G : Option (Tm × St)} (h : (∀ y, F = some y → G = some y) ∧ (F = none → ∀ t s, G = some (t, s) → Fat t)) :
   (∀ y, (F.map fun y => (y.1, (0 : Int), y.2)) = some y → (G.map fun y => (y.1, (0 : Int), y.2)) = some y) ∧ ((F.map fun y => (y.1, (0 : Int), y.2)) = none → ∀ y, (G.map fun y => (y.1, (0 : Int), y.2)) = some y → Fat y.1) := by
 cases F with
 | none =>
   refine ⟨(fun y hy => by cases hy), fun _ y hb => ?_⟩
   obtain ⟨z, hz, rfl⟩ := Option.map_eq_some_iff.1 hb
   exact h.2 rfl z.1 z.2 hz
 | some q =>
   rw [h.1 q rfl]
   exact ⟨fun y hy => hy, fun hn => by cases hn⟩
theorem prim_five {A B : Int → St → Option (Tm × St)} (hA : Short A) (hB : Short B) (h : Five A B) (most : Int) (s : St) :
   (∀ y, primO true A most s = some y → primO false B most s = some y) ∧ (primO true A most s = none → ∀ y, primO false B most s = some y → Fat y.1) := by
 unfold primO
 cases s.rest with
 | nil => exact ⟨(fun y hy => by cases hy), (fun _ y hy => by cases hy)⟩
 | cons x r =>
   simp only
   split
   · exact atom_five hA hB h most x r s.names
   · split
     · exact map_five (round_five h r s.names)
     · split
       · exact map_five (list_five hA hB h r s.names)
       · exact ⟨fun y hy => hy, fun hn y hb => by rw [hn] at hb; cases hb⟩
theorem term_five : ∀ d, Five (termO true d) (termO false d)
 | 0 => fun m s => ⟨(fun y hy => by cases hy), (fun _ t s' hy => by cases hy)⟩
 | d + 1 => fun m s => by
   have ih := term_five d
   have hA := termO_short true d
   have hB := termO_short false d
   obtain ⟨h1, h2⟩ := prim_five hA hB ih m s
   unfold termO
   cases ha : primO true (termO true d) m s with
   | none =>
     refine ⟨(fun y hy => by cases hy), fun _ t s' hy => ?_⟩
     cases hb : primO false (termO false d) m s with
     | none => rw [hb] at hy; cases hy
     | some q =>
       rw [hb] at hy
       exact infO_fat _ _ _ _ (h2 ha q hb) _ _ hy
   | some q =>
     rw [h1 q ha]
     obtain ⟨t, pr, s1⟩ := q
     exact infO_five hA hB ih m _ t pr s1 (Nat.le_refl _)
end Go.Proofs.YtbkjcccbjnehbanGreatDoor

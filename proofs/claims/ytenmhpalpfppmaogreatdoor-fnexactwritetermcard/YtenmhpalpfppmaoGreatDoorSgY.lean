/- Steps of the signer against runes. Plain. -/
import Derived.Test.YtenmhpalpfppmaoGreatDoorMrg11
import Derived.Test.YtenmhpalpfppmaoGreatDoorMrg9
import Derived.Test.YtenmhpalpfppmaoGreatDoorMrg10
namespace Go.Proofs.YtenmhpalpfppmaoGreatDoor
open Go.RowKit

/-- the place b is come to from pos on -/
def Tg (t : ByteArray) (pos b : Nat) : Prop := pos ≤ b ∧ b ≤ t.size ∧ ((∀ j, pos ≤ j → j < b → (at8 t j).toNat < 128) ∨ b = t.size ∨ (at8 t b).toNat < 128)

theorem Tg.step {t : ByteArray} {pos b : Nat} (h : Tg t pos b) (hp : pos < b) : Tg t (pos + (Utf8.decode t pos).2) b := by
  obtain ⟨h1, h2, h3⟩ := h
  have hps : pos < t.size := by omega
  obtain ⟨d1, d2, _, d4⟩ := decode_end t pos hps
  rcases h3 with h3 | h3 | h3
  · have ha := h3 pos (Nat.le_refl _) hp
    rw [at8_eq t pos hps] at ha
    rw [decode_ascii t pos hps ha]
    exact ⟨by show pos + 1 ≤ b; omega, h2, Or.inl fun j hj hb => h3 j (by simp at hj; omega) hb⟩
  · exact ⟨by omega, h2, Or.inr (Or.inl h3)⟩
  · refine ⟨?_, h2, Or.inr (Or.inr h3)⟩
    refine Classical.byContradiction fun hn => ?_
    have := d4 (b - pos) (by omega) (by omega)
    rw [show pos + (b - pos) = b by omega] at this
    omega

theorem word_asc {c : UInt8} (h : isWord c = true) : c.toNat < 128 := by
  unfold isWord isSmall isGreat isFig at h; simp at h; omega
theorem sym_asc {c : UInt8} (h : isSym c = true) : c.toNat < 128 := by
  unfold isSym symL at h
  simp at h
  rcases h with h | h | h | h | h | h | h | h | h | h | h | h | h | h | h | h | h <;> subst h <;> decide
theorem run_asc {t : ByteArray} {p : UInt8 → Bool} {i : Nat} (hp : ∀ c, p c = true → c.toNat < 128) : ∀ j, i ≤ j → j < i + run t p i → (at8 t j).toNat < 128 := fun j h1 h2 => by
  obtain ⟨hj, hh⟩ := run_at _ i (Nat.le_refl _) j h1 h2
  rw [at8_eq t j hj]; exact hp _ hh

theorem sgNum_asc : ∀ (l : List UInt8) (a v : Int) (k : Nat), sgNum l a = some (v, k) → ∀ j, j < k → (l.getD j 0).toNat < 128 := by
  intro l
  induction l with
  | nil => intro a v k h j hj; simp [sgNum] at h; omega
  | cons c l ih =>
    intro a v k h j hj
    unfold sgNum at h
    split at h
    · rename_i hc
      split at h
      · cases h
      · rw [Option.map_eq_some_iff] at h
        obtain ⟨⟨v', k'⟩, h1, h2⟩ := h
        simp at h2
        cases j with
        | zero => simp; unfold isFig at hc; simp at hc; omega
        | succ j => simp only [List.getD_cons_succ]; exact ih _ _ _ h1 j (by omega)
    · simp at h; omega

theorem name_asc {t : ByteArray} {a e : Nat} (h : nameOk (t.extract a e) = true) (he : e ≤ t.size) : ∀ j, a ≤ j → j < e → (at8 t j).toNat < 128 := by
  intro j h1 h2
  unfold nameOk at h
  rw [Bool.and_eq_true] at h
  have hl : (t.extract a e).data.toList = (t.data.toList.drop a).take (e - a) := by
    have h1 : (t.extract a e).data = t.data.extract a e := by simp
    rw [h1, Array.toList_extract]
  have hm : at8 t j ∈ (t.extract a e).data.toList := by
    rw [hl]
    have hj : j < t.size := by omega
    have hlen : j - a < ((t.data.toList.drop a).take (e - a)).length := by simp; omega
    have := List.getElem_mem hlen
    rw [List.getElem_take, List.getElem_drop] at this
    rw [at8_eq t j hj]
    have e1 : t[j] = t.data.toList[a + (j - a)]'(by simp; omega) := by
      have : a + (j - a) = j := by omega
      simp only [this]; rfl
    rw [e1]; exact this
  have := List.all_eq_true.1 h.1 _ hm
  unfold charOk at this
  simp at this
  omega

theorem tg_of {t : ByteArray} {i e : Nat} (h1 : i + 1 ≤ e) (h2 : e ≤ t.size) (h : ∀ j, i ≤ j → j < e → (at8 t j).toNat < 128) : Tg t (i + 1) e := ⟨h1, h2, Or.inl fun j hj he => h j (by omega) he⟩
theorem tg_one {t : ByteArray} {i : Nat} (h : i < t.size) : Tg t (i + 1) (i + 1) := ⟨Nat.le_refl _, by omega, Or.inl fun j h1 h2 => by omega⟩

theorem tg_bad {t : ByteArray} {i : Nat} (h : i < t.size) : Tg t (i + 1) (badSg t i).2 := tg_one h
theorem tg_name {t : ByteArray} {i : Nat} {k : Int} {p : UInt8 → Bool} (h : i < t.size) (hp : p t[i] = true) (ha : ∀ c, p c = true → c.toNat < 128) : Tg t (i + 1) (nameSg t k p i).2 := by
  have hend := nameSg_end (k := k) h hp
  unfold nameSg at *
  split
  · rename_i hc
    rw [if_pos hc] at hend
    exact tg_of hend.1 hend.2 (fun j h1 h2 => run_asc ha j h1 h2)
  · exact tg_bad h
theorem tg_num {t : ByteArray} {i : Nat} (h : i < t.size) (hf : isFig t[i] = true) : Tg t (i + 1) (numSg t i).2 := by
  unfold numSg
  split
  · rename_i v k hk
    have hk2 := hk
    rw [drop_at t i h] at hk
    have h1 := sgNum_pos hf hk
    have h2 := sgNum_le _ _ _ _ hk
    simp at h2
    refine tg_of (e := i + k) (by omega) (by omega) (fun j h3 h4 => ?_)
    have := sgNum_asc _ _ _ _ hk2 (j - i) (by omega)
    unfold at8
    rw [List.getD_eq_getElem?_getD, List.getElem?_drop, show i + (j - i) = j by omega] at this
    rw [List.getD_eq_getElem?_getD]; exact this
  · exact tg_bad h
theorem tg_quot {t : ByteArray} {i : Nat} (h : i < t.size) (h39 : t[i].toNat = 39) : Tg t (i + 1) (quotSg t i).2 := by
  unfold quotSg
  split
  · rename_i hc
    obtain ⟨h1, h2⟩ := hc
    refine tg_of (e := i + run t not39 (i + 1) + 2) (by omega) (by omega) (fun j h3 h4 => ?_)
    by_cases e1 : j = i
    · rw [e1, at8_eq t i h, h39]; omega
    · by_cases e2 : j < i + 1 + run t not39 (i + 1)
      · exact name_asc h2 (by omega) j (by omega) e2
      · have e3 : j = i + 1 + run t not39 (i + 1) := by omega
        have := run_stop (p := not39) _ (i + 1) (Nat.le_refl _) h1
        rw [e3, at8_eq t _ h1]
        have h9 := of_decide_eq_false this
        omega
  · exact tg_bad h
theorem tg_sign {t : ByteArray} {i : Nat} (h : i < t.size) : Tg t (i + 1) (signAt t i).2 := by
  unfold signAt
  rw [at8_eq t i h]
  split
  · rename_i hc; exact tg_name h (by unfold isWord; rw [hc]; rfl) (fun c => word_asc)
  split
  · rename_i hc; exact tg_name h (by unfold isWord; rw [hc]; simp) (fun c => word_asc)
  split
  · rename_i hc; exact tg_num h hc
  split
  · rename_i hc; exact tg_quot h hc
  split
  · exact tg_one h
  split
  · exact tg_one h
  split
  · exact tg_one h
  split
  · rename_i hc; exact tg_name h hc (fun c => sym_asc)
  · exact tg_bad h
theorem tg_stepAt {t : ByteArray} {i : Nat} (h : i < t.size) : Tg t (i + 1) (stepAt t i).2 := by
  have hend := stepAt_end h
  unfold stepAt at *
  split
  · exact tg_one h
  split
  · rename_i hb h37
    rw [if_neg hb, if_pos h37] at hend
    simp only at hend
    refine ⟨hend.1, hend.2, Or.inr ?_⟩
    by_cases he : i + run t not10 i < t.size
    · right
      have := run_stop (p := not10) _ i (Nat.le_refl _) he
      rw [at8_eq t _ he]
      have h9 := of_decide_eq_false this
      omega
    · left; show i + run t not10 i = t.size; omega
  · exact tg_sign h

/-- a byte that is none of a sign -/
theorem high_bad {t : ByteArray} {i : Nat} (h : i < t.size) (hh : 128 ≤ t[i].toNat) : stepAt t i = (some (badSg t i).1, i + 1) := by
  have q1 : isBlank t[i] = false := decide_eq_false (by omega)
  have q2 : isSmall t[i] = false := decide_eq_false (by omega)
  have q3 : isGreat t[i] = false := decide_eq_false (by omega)
  have q4 : isFig t[i] = false := decide_eq_false (by omega)
  have q5 : isLone t[i] = false := decide_eq_false (by omega)
  have q6 : isMark t[i] = false := decide_eq_false (by omega)
  have q7 : isEnd t i = false := isEnd_no h (by omega)
  have q8 : isSym t[i] = false := by
    cases hs : isSym t[i] with
    | false => rfl
    | true => have := sym_asc hs; omega
  unfold stepAt signAt
  rw [at8_eq t i h, q1, q2, q3, q4, q5, q6, q7, q8, if_neg (show ¬ t[i].toNat = 37 by omega), if_neg (show ¬ t[i].toNat = 39 by omega)]
  rfl
theorem high_run {t : ByteArray} : ∀ (n i : Nat), i + n ≤ t.size → (∀ k, k < n → 128 ≤ (at8 t (i + k)).toNat) → (List.range n).map (fun q => (badSg t (i + q)).1) ++ sgs t (i + n) = sgs t i := by
  intro n
  induction n with
  | zero => intro i _ _; simp
  | succ n ih =>
    intro i hi hh
    have h0 := hh n (by omega)
    have hl : i + n < t.size := by omega
    rw [at8_eq t _ hl] at h0
    have h1 := ih i (by omega) (fun k hk => hh k (by omega))
    rw [← h1, List.range_succ, List.map_append, List.append_assoc]
    congr 1
    rw [sgs_step hl, high_bad hl h0]
    rfl

end Go.Proofs.YtenmhpalpfppmaoGreatDoor

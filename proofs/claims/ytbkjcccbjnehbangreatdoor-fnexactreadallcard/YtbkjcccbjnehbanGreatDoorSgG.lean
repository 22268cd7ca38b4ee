/- Signs stand in order; a remark ahead adds none. Plain. -/
import Derived.Test.YtbkjcccbjnehbanGreatDoorSgE0
import Derived.Test.YtbkjcccbjnehbanGreatDoorSgN
namespace Go.Proofs.YtbkjcccbjnehbanGreatDoor
open Go.RowKit

theorem mkSg_at (t : ByteArray) (k : Int) (x : ByteArray) (n : Int) (i e : Nat) : (mkSg t k x n i e).1.at_ = i := rfl
theorem signAt_at (t : ByteArray) (i : Nat) : (signAt t i).1.at_ = i := by
  unfold signAt nameSg numSg quotSg oneSg badSg
  repeat' split
  all_goals rfl
theorem sgsF_asc {t : ByteArray} : ∀ (n i : Nat), (∀ s ∈ sgsF t n i, i ≤ s.at_ ∧ s.at_ < t.size) ∧ (sgsF t n i).Pairwise fun a b => a.at_ < b.at_ := by
  intro n
  induction n with
  | zero => intro i; exact ⟨by simp [sgsF], by simp [sgsF]⟩
  | succ n ih =>
    intro i
    unfold sgsF
    split
    · rename_i hi
      have he := stepAt_end hi
      obtain ⟨h1, h2⟩ := ih (stepAt t i).2
      have ho : ∀ s, (stepAt t i).1 = some s → s.at_ = i := by
        intro s hs
        unfold stepAt at hs
        split at hs
        · cases hs
        split at hs
        · cases hs
        · simp at hs; rw [← hs]; exact signAt_at t i
      cases hh : (stepAt t i).1 with
      | none =>
        simp only [Option.toList_none, List.nil_append]
        exact ⟨fun s hs => ⟨by have := (h1 s hs).1; omega, (h1 s hs).2⟩, h2⟩
      | some x =>
        have hx := ho x hh
        simp only [Option.toList_some, List.singleton_append]
        refine ⟨fun s hs => ?_, List.pairwise_cons.2 ⟨fun s hs => by have := (h1 s hs).1; omega, h2⟩⟩
        rcases List.mem_cons.1 hs with e | hs
        · rw [e]; omega
        · exact ⟨by have := (h1 s hs).1; omega, (h1 s hs).2⟩
    · exact ⟨by simp, by simp⟩
theorem sgs_asc (t : ByteArray) : (∀ (j : Nat) (hj : j < (sgs t 0).length), (sgs t 0)[j].at_ < t.size) ∧ ∀ (j : Nat) (hj : j + 1 < (sgs t 0).length), (sgs t 0)[j].at_ < (sgs t 0)[j + 1].at_ := by
  obtain ⟨h1, h2⟩ := sgsF_asc (t := t) (t.size - 0) 0
  refine ⟨fun j hj => (h1 _ (List.getElem_mem hj)).2, fun j hj => ?_⟩
  have h3 : (sgs t 0).Pairwise fun a b => a.at_ < b.at_ := h2
  exact List.pairwise_iff_getElem.1 h3 j (j + 1) (by omega) hj (by omega)

section
variable {T t : ByteArray} {p : Nat} {pre : List UInt8}
theorem sh_size (hT : T.data.toList = pre ++ t.data.toList) (hp : pre.length = p) : T.size = p + t.size := by
  have := congrArg List.length hT
  rw [List.length_append, hp] at this
  simpa using this
theorem sh_drop (hT : T.data.toList = pre ++ t.data.toList) (hp : pre.length = p) (i : Nat) : T.data.toList.drop (p + i) = t.data.toList.drop i := by
  rw [hT, ← hp, List.drop_append]; simp
theorem sh_at (hT : T.data.toList = pre ++ t.data.toList) (hp : pre.length = p) (i : Nat) : at8 T (p + i) = at8 t i := by
  unfold at8
  rw [hT, List.getD_eq_getElem?_getD, List.getD_eq_getElem?_getD, List.getElem?_append_right (by omega), hp, show p + i - p = i by omega]
theorem sh_run (hT : T.data.toList = pre ++ t.data.toList) (hp : pre.length = p) (q : UInt8 → Bool) (i : Nat) : run T q (p + i) = run t q i := by
  unfold run; rw [sh_drop hT hp]
theorem ext_data (u : ByteArray) (a b : Nat) : (u.extract a b).data.toList = (u.data.toList.drop a).take (b - a) := by
  have h1 : (u.extract a b).data = u.data.extract a b := by simp
  rw [h1, Array.toList_extract]
theorem sh_ext (hT : T.data.toList = pre ++ t.data.toList) (hp : pre.length = p) (a b : Nat) : T.extract (p + a) (p + b) = t.extract a b := by
  apply ByteArray.ext
  apply Array.ext'
  rw [ext_data, ext_data, sh_drop hT hp, show p + b - (p + a) = b - a by omega]
theorem sh_end (hT : T.data.toList = pre ++ t.data.toList) (hp : pre.length = p) (hp0 : 0 < p) (hl : isSym (at8 T (p - 1)) = false) (i : Nat) : isEnd T (p + i) = isEnd t i := by
  unfold isEnd
  rw [sh_at hT hp, show p + i + 1 = p + (i + 1) by omega, sh_at hT hp, sh_size hT hp, decide_eq_false (show ¬ p + i = 0 by omega)]
  have e1 : decide (p + (i + 1) = p + t.size) = decide (i + 1 = t.size) := by
    by_cases h : i + 1 = t.size
    · rw [decide_eq_true h, decide_eq_true (by omega)]
    · rw [decide_eq_false h, decide_eq_false (by omega)]
  rw [e1]
  by_cases hi : i = 0
  · subst hi
    rw [Nat.add_zero, hl]; rfl
  · rw [show p + i - 1 = p + (i - 1) by omega, sh_at hT hp, decide_eq_false hi]
theorem sh_sign (hT : T.data.toList = pre ++ t.data.toList) (hp : pre.length = p) (hp0 : 0 < p) (hl : isSym (at8 T (p - 1)) = false) (i : Nat) : (signAt T (p + i)).2 = p + (signAt t i).2 := by
  have hb : (badSg T (p + i)).2 = p + (badSg t i).2 := by show p + i + 1 = p + (i + 1); omega
  have ho : ∀ k, (oneSg T k (p + i)).2 = p + (oneSg t k i).2 := fun k => by show p + i + 1 = p + (i + 1); omega
  have hn : ∀ k q, (nameSg T k q (p + i)).2 = p + (nameSg t k q i).2 := fun k q => by
    unfold nameSg
    rw [sh_run hT hp]
    split
    · show p + i + run t q i = p + (i + run t q i); omega
    · exact hb
  have hm : (numSg T (p + i)).2 = p + (numSg t i).2 := by
    unfold numSg
    rw [sh_drop hT hp]
    cases sgNum (t.data.toList.drop i) 0 with
    | none => exact hb
    | some x => show p + i + x.2 = p + (i + x.2); omega
  have hq : (quotSg T (p + i)).2 = p + (quotSg t i).2 := by
    unfold quotSg
    rw [show p + i + 1 = p + (i + 1) by omega, sh_run hT hp, show p + (i + 1) + run t not39 (i + 1) = p + (i + 1 + run t not39 (i + 1)) by omega, sh_ext hT hp, sh_size hT hp]
    have e1 : (p + (i + 1 + run t not39 (i + 1)) < p + t.size ∧ nameOk (t.extract (i + 1) (i + 1 + run t not39 (i + 1))) = true) ↔ (i + 1 + run t not39 (i + 1) < t.size ∧ nameOk (t.extract (i + 1) (i + 1 + run t not39 (i + 1))) = true) := by
      constructor
      · rintro ⟨h1, h2⟩; exact ⟨by omega, h2⟩
      · rintro ⟨h1, h2⟩; exact ⟨by omega, h2⟩
    by_cases hc : i + 1 + run t not39 (i + 1) < t.size ∧ nameOk (t.extract (i + 1) (i + 1 + run t not39 (i + 1))) = true
    · rw [if_pos hc, if_pos (e1.2 hc)]
      show p + i + run t not39 (i + 1) + 2 = p + (i + run t not39 (i + 1) + 2); omega
    · rw [if_neg hc, if_neg (fun h => hc (e1.1 h))]; exact hb
  unfold signAt
  rw [sh_at hT hp, sh_end hT hp hp0 hl]
  repeat' split
  all_goals first | exact hn _ _ | exact hm | exact hq | exact ho _ | exact hb
theorem sh_step (hT : T.data.toList = pre ++ t.data.toList) (hp : pre.length = p) (hp0 : 0 < p) (hl : isSym (at8 T (p - 1)) = false) (i : Nat) : (stepAt T (p + i)).2 = p + (stepAt t i).2 ∧ (stepAt T (p + i)).1.isSome = (stepAt t i).1.isSome := by
  unfold stepAt
  rw [sh_at hT hp, sh_run hT hp]
  repeat' split
  · exact ⟨by show p + i + 1 = p + (i + 1); omega, rfl⟩
  · exact ⟨by show p + i + run t not10 i = p + (i + run t not10 i); omega, rfl⟩
  · exact ⟨sh_sign hT hp hp0 hl i, rfl⟩
theorem sh_len (hT : T.data.toList = pre ++ t.data.toList) (hp : pre.length = p) (hp0 : 0 < p) (hl : isSym (at8 T (p - 1)) = false) : ∀ (n i : Nat), (sgsF T n (p + i)).length = (sgsF t n i).length := by
  intro n
  induction n with
  | zero => intro i; rfl
  | succ n ih =>
    intro i
    obtain ⟨h1, h2⟩ := sh_step hT hp hp0 hl i
    unfold sgsF
    rw [sh_size hT hp, h1]
    by_cases hi : i < t.size
    · rw [if_pos hi, if_pos (by omega), List.length_append, List.length_append, ih]
      have : ∀ (a b : Option Sg), a.isSome = b.isSome → a.toList.length = b.toList.length := fun a b h => by cases a <;> cases b <;> simp_all
      rw [this _ _ h2]
    · rw [if_neg hi, if_neg (by omega)]
end

theorem said_len (t : ByteArray) (T : ByteArray) (hT : T.data.toList = [37, 32, 115, 97, 105, 100, 10] ++ t.data.toList) : (sgs T 0).length = (sgs t 0).length := by
  have hsz := sh_size (p := 7) hT rfl
  have a0 : at8 T 0 = 37 := by unfold at8; rw [hT]; rfl
  have a6 : at8 T 6 = 10 := by unfold at8; rw [hT]; rfl
  have r0 : run T not10 0 = 6 := by
    unfold run; rw [hT, List.drop_zero]
    simp [List.takeWhile, not10]
  have s0 : stepAt T 0 = (none, 6) := by
    unfold stepAt; rw [a0, r0]; rfl
  have s6 : stepAt T 6 = (none, 7) := by
    unfold stepAt; rw [a6]; rfl
  rw [sgs_step (show 0 < T.size by omega), s0, sgs_step (show 6 < T.size by omega), s6]
  show (sgs T 7).length = _
  unfold sgs
  have h1 := sh_len (p := 7) hT rfl (by omega) (by rw [show 7 - 1 = 6 from rfl, a6]; rfl) (t.size - 0) 0
  rw [show T.size - 7 = t.size - 0 by omega]
  exact h1
end Go.Proofs.YtbkjcccbjnehbanGreatDoor

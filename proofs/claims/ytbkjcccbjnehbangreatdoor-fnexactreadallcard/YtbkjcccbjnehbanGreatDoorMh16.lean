import Derived.Test.YtbkjcccbjnehbanGreatDoorMh15
namespace Go.Proofs.YtbkjcccbjnehbanGreatDoor
open Go.RowKit
def SgOk (x : Sg) (r : List Sg) : Prop := x.text.size ≤ maxLen ∧ (-9223372036854775808 ≤ x.num ∧ x.num ≤ 9223372036854775807) ∧ x.at_ ≤ 100000 ∧ (x.kind = 1 → x.near = true → ∃ r', mk? cLpar r = some r')
def LOk : List Sg → Prop
 | [] => True
 | x :: r => SgOk x r ∧ LOk r
theorem LOk.drop : ∀ {L : List Sg} (p : Nat), LOk L → LOk (L.drop p)
 | [], _, _ => by simp [LOk]
 | _ :: _, 0, h => h
 | _ :: r, p + 1, h => LOk.drop (L := r) p h.2
theorem LOk.texts : ∀ {L : List Sg}, LOk L → ∀ x ∈ L, x.text.size ≤ maxLen
 | [], _, x, hx => by cases hx
 | y :: r, h, x, hx => by
   rcases List.mem_cons.1 hx with rfl | hx
   · exact h.1.1
   · exact LOk.texts h.2 x hx
theorem SRd.rest {g : Nat} {L : List Sg} {lv nv : Value} {w : World} {d : Nat} {st : St} (h : SRd g L lv nv w (some (d, st))) (hL : LOk L) : LOk st.rest := by
 obtain ⟨_, _, _, _, _, _, _, _, _, _, p, _, _, hd, _⟩ := h.ex
 rw [← hd]; exact hL.drop p
theorem s_prim (f g : Nat) (L : List Sg) (lv nv : Value) (e0 : Nat) (most : Int) (st : St) (w : World) (hf : e0 + f = 130) (hL : L.length ≤ 3000) (hO : LOk L) (HT : TermC f g L lv) (h : SRd g L lv nv w (some (e0, st))) :
   Calls Tryz.prog 41 #[.pointer (some ⟨g, 0, none⟩), .int .i64 most] w fun e w' => PrR g L lv nv w e w' (primO true (termO true f) most st) e0 := by
 have hok := h.rest hO
 obtain ⟨rest, names⟩ := st
 cases rest with
 | nil => exact s_pr_bad f g L lv nv e0 most [] names w hL h rfl rfl rfl rfl rfl rfl
 | cons x r =>
   obtain ⟨xk, xt, xn, xa, xb⟩ := x
   obtain ⟨⟨o1, o2, o3, o4⟩, hr⟩ := hok
   simp only at o1 o2 o3 o4
   have hi : ∀ k, isO (some (e0, ⟨⟨xk, xt, xn, xa, xb⟩ :: r, names⟩)) k ⟨#[]⟩ = decide (xk = k) := fun k => isO_any
   by_cases h1 : xk = 1
   · exact s_pr_atom f g L lv nv e0 most _ names w hL h hf HT xk xt xn xa xb r rfl o1 o3 (o4 h1) (by rw [hi, decide_eq_true h1]) (by simp only [primO, h1, if_true])
   · by_cases h4 : xk = 4 ∧ xt = cLpar
     · exact s_pr_round f g L lv nv e0 most _ names w hL h hf HT r (LOk.texts hr) (by rw [hi, decide_eq_false h1]) (by simp only [mk?]; exact if_pos h4) (by simp only [primO]; rw [if_neg h1, if_pos h4])
     · have hm40 : mk? ⟨#[40]⟩ (⟨xk, xt, xn, xa, xb⟩ :: r) = none := by simp only [mk?]; exact if_neg h4
       by_cases h5 : xk = 4 ∧ xt = cLbr
       · exact s_pr_row f g L lv nv e0 most _ names w hL h hf HT r (by rw [hi, decide_eq_false h1]) hm40 (by simp only [mk?]; exact if_pos h5) (by simp only [primO]; rw [if_neg h1, if_neg h4, if_pos h5])
       · have hm91 : mk? ⟨#[91]⟩ (⟨xk, xt, xn, xa, xb⟩ :: r) = none := by simp only [mk?]; exact if_neg h5
         by_cases h3 : xk = 3
         · exact s_pr_num f g L lv nv e0 most _ names w hL h xk xt xn xa xb r rfl o2 (by rw [hi, decide_eq_false h1]) hm40 hm91 (by rw [hi, decide_eq_true h3]) (by simp only [primO]; rw [if_neg h1, if_neg h4, if_neg h5, if_pos h3])
         · by_cases h2 : xk = 2
           · exact s_pr_var f g L lv nv e0 most _ names w hL h xk xt xn xa xb r rfl (by rw [hi, decide_eq_false h1]) hm40 hm91 (by rw [hi, decide_eq_false h3]) (by rw [hi, decide_eq_true h2]) (by simp only [primO]; rw [if_neg h1, if_neg h4, if_neg h5, if_neg h3, if_pos h2])
           · exact s_pr_bad f g L lv nv e0 most _ names w hL h (by rw [hi, decide_eq_false h1]) hm40 hm91 (by rw [hi, decide_eq_false h3]) (by rw [hi, decide_eq_false h2]) (by simp only [primO]; rw [if_neg h1, if_neg h4, if_neg h5, if_neg h3, if_neg h2])
theorem infixP_small {s : ByteArray} {op : OpP} (h : infixP s = some op) : op.name.size ≤ maxLen := by
 unfold infixP at h
 split at h
 all_goals first | cases h | skip
 all_goals
   rename_i hh
   have e : s.size = s.data.toList.length := rfl
   show s.size ≤ maxLen
   rw [e, hh]
   decide
theorem infixO_small {r : List Sg} {op : OpP} (h : infixO r = some op) : op.name.size ≤ maxLen ∧ ∃ x r', r = x :: r' := by
 unfold infixO at h
 split at h
 · cases h
 · split at h
   · exact ⟨infixP_small h, _, _, rfl⟩
   · split at h
     · exact ⟨infixP_small h, _, _, rfl⟩
     · cases h
theorem infO_step {f : Nat} {most : Int} {t : Tm} {pr : Int} {st : St} : infO (termO true f) most t pr st = match infixO st.rest with
   | none => some (t, st)
   | some op => if most < op.prio ∨ op.left < pr then some (t, st) else match termO true f op.right ⟨st.rest.tail, st.names⟩ with
     | none => none
     | some (y, s1) => infO (termO true f) most (structTm op.name [t, y]) op.prio s1 := by
 rw [infO]
 cases h : infixO st.rest with
 | none => rfl
 | some op =>
   simp only
   split
   · rfl
   · cases hy : termO true f op.right ⟨st.rest.tail, st.names⟩ with
     | none => rfl
     | some y =>
       obtain ⟨y, s1⟩ := y
       have hs := termO_short true f _ _ _ _ hy
       simp only at hs ⊢
       rw [dif_pos (by simp only [List.length_tail] at hs; omega)]
theorem SRd.setDeep {g : Nat} {L : List Sg} {lv nv : Value} {w : World} {d d' : Nat} {st : St} {z : Int} (h : SRd g L lv nv w (some (d, st))) (hz : z = (d' : Int)) : SRd g L lv nv (w.setCell ⟨g, 3, none⟩ (.int .i64 z)) (some (d', st)) := by
 subst hz
 obtain ⟨a, bad, dv, nms, h1, h2, h3, h4⟩ := h.ex
 obtain ⟨rfl, rfl, rfl, hp⟩ := h4
 refine SRd.mk' (w := w) (bad' := false) (a' := a) (dv' := (d' : Int)) (nms := st.names) ?_ h2 h3 (fun k hk => set_oth5 _ hk) ⟨rfl, rfl, rfl, hp⟩
 have := set_at5 (i := 3) h1 (.int .i64 (d' : Int))
 simpa using this
theorem SRd.setDeepB {g : Nat} {L : List Sg} {lv nv : Value} {w : World} (z : Int) (h : SRd g L lv nv w none) : SRd g L lv nv (w.setCell ⟨g, 3, none⟩ (.int .i64 z)) none := by
 obtain ⟨a, bad, dv, nms, h1, h2, h3, h4⟩ := h.ex
 refine SRd.mk' (w := w) (bad' := bad) (a' := a) (dv' := z) (nms := nms) ?_ h2 h3 (fun k hk => set_oth5 _ hk) h4
 have := set_at5 (i := 3) h1 (.int .i64 z)
 simpa using this
def TermI (f e0 : Nat) (most : Int) (o : Option (Nat × St)) (t : Tm) (pr : Int) (T : Option (Tm × St)) : Prop := (o = none ∧ T = none) ∨ ∃ st, o = some (e0, st) ∧ infO (termO true f) most t pr st = T
end Go.Proofs.YtbkjcccbjnehbanGreatDoor

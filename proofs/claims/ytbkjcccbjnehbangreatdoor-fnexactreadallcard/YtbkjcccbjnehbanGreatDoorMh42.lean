import Derived.Test.YtbkjcccbjnehbanGreatDoorMh40
import Derived.Test.YtbkjcccbjnehbanGreatDoorMh41
namespace Go.Proofs.YtbkjcccbjnehbanGreatDoor
open Go.RowKit
def SOk (x : Sg) : Prop := x.text.size ≤ 3000 ∧ x.at_ ≤ 3000 ∧ 0 ≤ x.num ∧ x.num ≤ 999999999
theorem SOk.zero : SOk sg0 := ⟨by show (0 : Nat) ≤ 3000; omega, by show (0 : Nat) ≤ 3000; omega, by show (0 : Int) ≤ 0; omega, by show (0 : Int) ≤ 999999999; omega⟩
theorem IRd.sub {g m : Nat} {L : List Sg} {lv nv : Value} {w : World} {d : Nat} {st : St} (h : IRd g m L lv nv w d st) : ∀ x ∈ st.rest, x ∈ L := by
 obtain ⟨p, ms, h1, _, _, _, _, _, _, h8, h9, _⟩ := h.ex
 intro x hx
 rw [← h9] at hx
 exact List.mem_of_mem_drop hx
theorem aheadP_ok {st : St} (n : Nat) (h : ∀ x ∈ st.rest, SOk x) : SOk (aheadP st n) := by
 unfold aheadP
 cases e : st.rest[n]? with
 | none => exact SOk.zero
 | some x => exact h x (List.mem_of_getElem? e)
theorem primO_near {tm : Int → St → Option (Tm × St)} (ht : Short tm) (most : Int) (xt : ByteArray) (xn : Int) (xa : Nat) (r : List Sg) (names : List ByteArray) :
   primO false tm most ⟨⟨1, xt, xn, xa, true⟩ :: r, names⟩ = (namedO tm xt r names).map fun y => (y.1, 0, y.2) := by
 unfold primO atomO namedO
 simp only [if_true]
 cases mk? cLpar r with
 | none => rfl
 | some r1 =>
   simp only
   rw [someO_terms ht r1.length [] ⟨r1, names⟩ (Nat.le_refl _)]
   cases termsO tm [] ⟨r1, names⟩ with
   | none => rfl
   | some y =>
     simp only
     cases mk? cRpar y.2.rest <;> rfl
theorem primO_name {tm : Int → St → Option (Tm × St)} (most : Int) (xt : ByteArray) (xn : Int) (xa : Nat) (r : List Sg) (names : List ByteArray) (h : ¬ (xt = cMinus ∧ nearO ⟨1, xt, xn, xa, false⟩ r = true)) :
   primO false tm most ⟨⟨1, xt, xn, xa, false⟩ :: r, names⟩ = prefO tm most xt r names := by
 unfold primO atomO prefO
 simp only [if_true, Bool.false_eq_true, if_false, if_neg h]
 cases prefixP xt with
 | none => rfl
 | some op =>
   simp only
   by_cases hp : op.prio ≤ most
   · rw [if_pos hp, if_pos hp]
     cases tm op.right ⟨r, names⟩ <;> rfl
   · rw [if_neg hp, if_neg hp]
theorem primO_neg {tm : Int → St → Option (Tm × St)} (most : Int) (xn : Int) (xa : Nat) (u : Sg) (r : List Sg) (names : List ByteArray) (hk : u.kind = 3) (ha : u.at_ = xa + 1) (hn : 0 ≤ u.num ∧ u.num ≤ 999999999) :
   primO false tm most ⟨⟨1, cMinus, xn, xa, false⟩ :: u :: r, names⟩ = some (intTm (-u.num), 0, ⟨r, names⟩) := by
 unfold primO atomO nearO
 have hw : wrap64 (-u.num) = -u.num := by unfold wrap64; omega
 simp [hk, ha, hw]
theorem primO_alone {tm : Int → St → Option (Tm × St)} (most : Int) (xn : Int) (xa : Nat) (xb : Bool) (u v : Sg) (r : List Sg) (names : List ByteArray) (hu : u.kind = 1) (hv : v.kind = 4 ∧ v.text = cRpar) :
   primO false tm most ⟨⟨4, cLpar, xn, xa, xb⟩ :: u :: v :: r, names⟩ = some (atomTm u.text, 0, ⟨r, names⟩) := by
 unfold primO roundO aloneO
 simp [hu, hv.1, hv.2]
theorem primO_round {tm : Int → St → Option (Tm × St)} (most : Int) (xn : Int) (xa : Nat) (xb : Bool) (r : List Sg) (names : List ByteArray) (h : aloneO r = none) :
   primO false tm most ⟨⟨4, cLpar, xn, xa, xb⟩ :: r, names⟩ = (roundT tm r names).map fun y => (y.1, 0, y.2) := by
 unfold primO roundO roundT
 simp only [h]
 simp
 cases tm 1200 ⟨r, names⟩ with
 | none => rfl
 | some y =>
   simp only
   cases mk? cRpar y.2.rest <;> rfl
theorem primO_nil {tm : Int → St → Option (Tm × St)} (most : Int) (xn : Int) (xa : Nat) (xb : Bool) (u : Sg) (r : List Sg) (names : List ByteArray) (hu : u.kind = 4 ∧ u.text = cRbr) :
   primO false tm most ⟨⟨4, cLbr, xn, xa, xb⟩ :: u :: r, names⟩ = some (nilTm, 0, ⟨r, names⟩) := by
 unfold primO listO mk?
 have : ¬ cLbr = cLpar := by decide
 simp [hu.1, hu.2, this]
theorem primO_list {tm : Int → St → Option (Tm × St)} (ht : Short tm) (most : Int) (xn : Int) (xa : Nat) (xb : Bool) (r : List Sg) (names : List ByteArray) (h : mk? cRbr r = none) :
   primO false tm most ⟨⟨4, cLbr, xn, xa, xb⟩ :: r, names⟩ = (itemsO tm r names).map fun y => (y.1, 0, y.2) := by
 have h1 : ¬ cLbr = cLpar := by decide
 have e : listO tm r names = itemsO tm r names := by
   unfold listO itemsO
   rw [h]
   simp only
   rw [rowO_terms ht r.length [] ⟨r, names⟩ (Nat.le_refl _)]
   cases termsO tm [] ⟨r, names⟩ with
   | none => rfl
   | some y =>
     simp only
     cases mk? cBar y.2.rest with
     | some r1 =>
       simp only
       cases tm 999 ⟨r1, y.2.names⟩ with
       | none => rfl
       | some z =>
         simp only
         cases mk? cRbr z.2.rest <;> rfl
     | none =>
       simp only
       cases mk? cRbr y.2.rest <;> rfl
 unfold primO
 simp only [e]
 simp [h1]
set_option maxHeartbeats 4000000 in
theorem i_primary (f g m : Nat) (L : List Sg) (lv nv : Value) (d : Nat) (most : Int) (st : St) (w : World) (hL : L.length ≤ 3000) (hO : ∀ x ∈ L, SOk x) (hf : d + f = 130) (hT : TermCI f g m L lv) (h : IRd g m L lv nv w d st) :
   Calls Tryz.prog 73 #[.pointer (some ⟨g, 0, none⟩), .int .i64 most] w fun e w' => EndP g m L lv nv w d (primO false (termO false f) most st) e w' := by
 have hr : ∀ x ∈ st.rest, SOk x := fun x hx => hO x (h.sub x hx)
 have hsu := aheadP_ok 1 hr
 have hsx := aheadP_ok 0 hr
 obtain ⟨⟨uk, ut, un, ua, ub⟩, hu⟩ : ∃ u, u = aheadP st 1 := ⟨_, rfl⟩
 obtain ⟨⟨vk, vt, vn, va, vb⟩, hv⟩ : ∃ v, v = aheadP st 2 := ⟨_, rfl⟩
 rw [← hu] at hsu
 have hsh := termO_short false f
 obtain ⟨rest, names⟩ := st
 cases rest with
 | nil =>
   have hx : aheadP ⟨[], names⟩ 0 = ⟨0, ⟨#[]⟩, 0, 0, false⟩ := rfl
   have := i_prim_J f g m L lv nv d most 0 ⟨#[]⟩ 0 0 false uk ut un ua ub vk vt vn va vb ⟨[], names⟩ w hL hf hT h hx hu.symm hv.symm rfl rfl rfl (by simp [markB]) (by simp [markB])
   exact this
 | cons x r =>
   obtain ⟨xk, xt, xn, xa, xb⟩ := x
   have hx : aheadP ⟨⟨xk, xt, xn, xa, xb⟩ :: r, names⟩ 0 = ⟨xk, xt, xn, xa, xb⟩ := rfl
   rw [hx] at hsx
   have hu1 : (r[0]?).getD sg0 = ⟨uk, ut, un, ua, ub⟩ := by rw [hu]; rfl
   have hv1 : (r[1]?).getD sg0 = ⟨vk, vt, vn, va, vb⟩ := by rw [hv]; rfl
   have hr0 : ∀ k, uk = k → k ≠ 0 → ∃ r', r = ⟨uk, ut, un, ua, ub⟩ :: r' := fun k hk h0 => by
     cases r with
     | nil => simp [sg0] at hu1; exact absurd (hu1.1.trans hk).symm h0
     | cons a r' => simp at hu1; exact ⟨r', by rw [hu1]⟩
   by_cases h1 : xk = 1
   · subst h1
     cases xb with
     | true =>
       rw [primO_near hsh]
       exact i_prim_A f g m L lv nv d most xt xn xa uk ut un ua ub vk vt vn va vb r names w hL hf hT h hu.symm hv.symm hsx.1
     | false =>
       by_cases hm : xt = ⟨#[45]⟩
       · subst hm
         by_cases h3 : uk = 3
         · obtain ⟨r', rfl⟩ := hr0 3 h3 (by omega)
           subst h3
           by_cases ha : ua = xa + 1
           · have := primO_neg (tm := termO false f) most xn xa ⟨3, ut, un, ua, ub⟩ r' names rfl ha ⟨hsu.2.2.1, hsu.2.2.2⟩
             rw [show (⟨⟨1, ⟨#[45]⟩, xn, xa, false⟩ :: ⟨3, ut, un, ua, ub⟩ :: r', names⟩ : St) = ⟨⟨1, cMinus, xn, xa, false⟩ :: ⟨3, ut, un, ua, ub⟩ :: r', names⟩ from rfl, this]
             exact i_prim_H f g m L lv nv d most xn xa ut un ua ub vk vt vn va vb r' names w hL hf hT h hv.symm ⟨hsu.2.2.1, hsu.2.2.2⟩ ⟨hsx.2.1, hsu.2.1⟩ ha
           · rw [primO_name most ⟨#[45]⟩ xn xa _ names (fun hh => by have := hh.2; simp [nearO, ha] at this)]
             exact i_prim_I3 f g m L lv nv d most xn xa ut un ua ub vk vt vn va vb _ names w hL hf hT h hu.symm hv.symm ⟨hsx.2.1, hsu.2.1⟩ ha
         · rw [primO_name most ⟨#[45]⟩ xn xa _ names (fun hh => by
             have h2 := hh.2
             cases r with
             | nil => simp [nearO] at h2
             | cons a r' =>
               simp at hu1
               subst hu1
               simp [nearO, h3] at h2)]
           exact i_prim_I2 f g m L lv nv d most xn xa uk ut un ua ub vk vt vn va vb _ names w hL hf hT h hu.symm hv.symm (beq_false_of_ne h3)
       · rw [primO_name most xt xn xa _ names (fun hh => hm hh.1)]
         exact i_prim_I1 f g m L lv nv d most xt xn xa uk ut un ua ub vk vt vn va vb _ names w hL hf hT h hu.symm hv.symm hsx.1 hm
   · by_cases h40 : xk = 4 ∧ xt = ⟨#[40]⟩
     · obtain ⟨rfl, rfl⟩ := h40
       by_cases hu1k : uk = 1
       · obtain ⟨r', rfl⟩ := hr0 1 hu1k (by omega)
         subst hu1k
         by_cases hm : markB ⟨vk, vt, vn, va, vb⟩ ⟨#[41]⟩ = true
         · have hm2 : vk = 4 ∧ vt = ⟨#[41]⟩ := by simpa [markB] using hm
           obtain ⟨rfl, rfl⟩ := hm2
           cases r' with
           | nil => simp [sg0] at hv1
           | cons b r'' =>
             simp at hv1
             subst hv1
             have := primO_alone (tm := termO false f) most xn xa xb ⟨1, ut, un, ua, ub⟩ ⟨4, ⟨#[41]⟩, vn, va, vb⟩ r'' names rfl ⟨rfl, rfl⟩
             rw [show (⟨⟨4, ⟨#[40]⟩, xn, xa, xb⟩ :: ⟨1, ut, un, ua, ub⟩ :: ⟨4, ⟨#[41]⟩, vn, va, vb⟩ :: r'', names⟩ : St) = ⟨⟨4, cLpar, xn, xa, xb⟩ :: ⟨1, ut, un, ua, ub⟩ :: ⟨4, ⟨#[41]⟩, vn, va, vb⟩ :: r'', names⟩ from rfl, this]
             exact i_prim_B f g m L lv nv d most xn xa xb ut un ua ub vn va vb r'' names w hL hf hT h hsu.1
         · have hm' : markB ⟨vk, vt, vn, va, vb⟩ ⟨#[41]⟩ = false := by simpa using hm
           have := primO_round (tm := termO false f) most xn xa xb (⟨1, ut, un, ua, ub⟩ :: r') names (by
             cases r' with
             | nil => rfl
             | cons b r'' =>
               simp at hv1
               subst hv1
               have : ¬ (vk = 4 ∧ vt = ⟨#[41]⟩) := fun hh => by rw [hh.1, hh.2] at hm'; simp [markB] at hm'
               show (if (1 : Int) = 1 ∧ vk = 4 ∧ vt = cRpar then some (ut, r'') else none) = none
               exact if_neg (fun hh => this ⟨hh.2.1, hh.2.2⟩))
           rw [show (⟨⟨4, ⟨#[40]⟩, xn, xa, xb⟩ :: ⟨1, ut, un, ua, ub⟩ :: r', names⟩ : St) = ⟨⟨4, cLpar, xn, xa, xb⟩ :: ⟨1, ut, un, ua, ub⟩ :: r', names⟩ from rfl, this]
           exact i_prim_C2 f g m L lv nv d most xn xa xb ut un ua ub vk vt vn va vb _ names w hL hf hT h hu.symm hv.symm hm'
       · have := primO_round (tm := termO false f) most xn xa xb r names (by
           cases r with
           | nil => rfl
           | cons a r' =>
             simp at hu1
             subst hu1
             cases r' with
             | nil => rfl
             | cons b r'' =>
               show (if uk = 1 ∧ b.kind = 4 ∧ b.text = cRpar then some (ut, r'') else none) = none
               exact if_neg (fun hh => hu1k hh.1))
         rw [show (⟨⟨4, ⟨#[40]⟩, xn, xa, xb⟩ :: r, names⟩ : St) = ⟨⟨4, cLpar, xn, xa, xb⟩ :: r, names⟩ from rfl, this]
         exact i_prim_C1 f g m L lv nv d most xn xa xb uk ut un ua ub vk vt vn va vb _ names w hL hf hT h hu.symm hv.symm (beq_false_of_ne hu1k)
     · have m40 : markB ⟨xk, xt, xn, xa, xb⟩ ⟨#[40]⟩ = false := by
         cases e : markB ⟨xk, xt, xn, xa, xb⟩ ⟨#[40]⟩ with
         | false => rfl
         | true => exact absurd (by simpa [markB] using e) h40
       by_cases h91 : xk = 4 ∧ xt = ⟨#[91]⟩
       · obtain ⟨rfl, rfl⟩ := h91
         by_cases hm : markB ⟨uk, ut, un, ua, ub⟩ ⟨#[93]⟩ = true
         · have hm2 : uk = 4 ∧ ut = ⟨#[93]⟩ := by simpa [markB] using hm
           obtain ⟨r', rfl⟩ := hr0 4 hm2.1 (by omega)
           obtain ⟨rfl, rfl⟩ := hm2
           have := primO_nil (tm := termO false f) most xn xa xb ⟨4, ⟨#[93]⟩, un, ua, ub⟩ r' names ⟨rfl, rfl⟩
           rw [show (⟨⟨4, ⟨#[91]⟩, xn, xa, xb⟩ :: ⟨4, ⟨#[93]⟩, un, ua, ub⟩ :: r', names⟩ : St) = ⟨⟨4, cLbr, xn, xa, xb⟩ :: ⟨4, ⟨#[93]⟩, un, ua, ub⟩ :: r', names⟩ from rfl, this]
           exact i_prim_D f g m L lv nv d most xn xa xb un ua ub vk vt vn va vb r' names w hL hf hT h hv.symm
         · have hm' : markB ⟨uk, ut, un, ua, ub⟩ ⟨#[93]⟩ = false := by simpa using hm
           have := primO_list hsh most xn xa xb r names (by
             cases r with
             | nil => rfl
             | cons a r' =>
               simp at hu1
               subst hu1
               show (if uk = 4 ∧ ut = cRbr then some r' else none) = none
               refine if_neg (fun hh => ?_)
               have hh' : uk = 4 ∧ ut = ⟨#[93]⟩ := hh
               obtain ⟨rfl, rfl⟩ := hh'
               simp [markB] at hm')
           rw [show (⟨⟨4, ⟨#[91]⟩, xn, xa, xb⟩ :: r, names⟩ : St) = ⟨⟨4, cLbr, xn, xa, xb⟩ :: r, names⟩ from rfl, this]
           exact i_prim_E f g m L lv nv d most xn xa xb uk ut un ua ub vk vt vn va vb r names w hL hf hT h hu.symm hv.symm hm'
       · have m91 : markB ⟨xk, xt, xn, xa, xb⟩ ⟨#[91]⟩ = false := by
           cases e : markB ⟨xk, xt, xn, xa, xb⟩ ⟨#[91]⟩ with
           | false => rfl
           | true => exact absurd (by simpa [markB] using e) h91
         have n40 : ¬ (xk = 4 ∧ xt = cLpar) := h40
         have n91 : ¬ (xk = 4 ∧ xt = cLbr) := h91
         by_cases h3 : xk = 3
         · subst h3
           have : primO false (termO false f) most ⟨⟨3, xt, xn, xa, xb⟩ :: r, names⟩ = some (intTm xn, 0, ⟨r, names⟩) := by unfold primO; simp
           rw [this]
           exact i_prim_F f g m L lv nv d most xt xn xa xb uk ut un ua ub vk vt vn va vb r names w hL hf hT h hu.symm hv.symm ⟨hsx.2.2.1, hsx.2.2.2⟩
         · by_cases h2 : xk = 2
           · subst h2
             have : primO false (termO false f) most ⟨⟨2, xt, xn, xa, xb⟩ :: r, names⟩ = some (varTm (varO xt names).1, 0, ⟨r, (varO xt names).2⟩) := by unfold primO; simp
             rw [this]
             exact i_prim_G f g m L lv nv d most xt xn xa xb uk ut un ua ub vk vt vn va vb r names w hL hf hT h hu.symm hv.symm hsx.1
           · have : primO false (termO false f) most ⟨⟨xk, xt, xn, xa, xb⟩ :: r, names⟩ = none := by
               unfold primO
               simp only [if_neg h1, if_neg n40, if_neg n91, if_neg h3, if_neg h2]
             rw [this]
             exact i_prim_J f g m L lv nv d most xk xt xn xa xb uk ut un ua ub vk vt vn va vb _ w hL hf hT h hx hu.symm hv.symm (beq_false_of_ne h1) (beq_false_of_ne h2) (beq_false_of_ne h3) m40 m91
end Go.Proofs.YtbkjcccbjnehbanGreatDoor

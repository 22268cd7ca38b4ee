import Derived.Test.YtbkjcccbjnehbanGreatDoorMh24
import Derived.Test.YtbkjcccbjnehbanGreatDoorMh2
import Derived.Deep.DeepCutAuto
import Derived.WalkKit
import Derived.RegionTactic
import Derived.Deep.QuietTactic
import Derived.StillTail
namespace Go.Proofs.YtbkjcccbjnehbanGreatDoor
open Go.RowKit
theorem mkSg_near (t : ByteArray) (k : Int) (x : ByteArray) (n : Int) (i e : Nat) : (mkSg t k x n i e).1.near = (decide ((mkSg t k x n i e).2 < t.size) && decide ((at8 t (mkSg t k x n i e).2).toNat = 40)) ∧ (mkSg t k x n i e).1.at_ = i := ⟨rfl, rfl⟩
theorem signAt_near (t : ByteArray) (i : Nat) : (signAt t i).1.near = (decide ((signAt t i).2 < t.size) && decide ((at8 t (signAt t i).2).toNat = 40)) ∧ (signAt t i).1.at_ = i := by
 unfold signAt nameSg numSg quotSg oneSg badSg
 repeat' split
 all_goals exact mkSg_near _ _ _ _ _ _
def SoFar (t : ByteArray) (L : List Sg) (j : Nat) : Prop := L ++ sgs t j = sgs t 0 ∧ L.length ≤ j
theorem SoFar.blank {t : ByteArray} {L : List Sg} {j : Nat} (h : SoFar t L j) (hj : j < t.size) (hb : isBlank t[j] = true) : SoFar t L (j + 1) := by
 refine ⟨?_, by have := h.2; omega⟩
 rw [← h.1, sgs_step hj]
 unfold stepAt
 rw [at8_eq t j hj, if_pos hb]; rfl
theorem SoFar.remark {t : ByteArray} {L : List Sg} {j : Nat} (h : SoFar t L j) (hj : j < t.size) (hb : isBlank t[j] = false) (h37 : t[j].toNat = 37) : SoFar t L (j + run t not10 j) := by
 refine ⟨?_, by have := h.2; omega⟩
 rw [← h.1, sgs_step hj]
 unfold stepAt
 rw [at8_eq t j hj, hb, if_pos h37]; rfl
theorem SoFar.sign {t : ByteArray} {L : List Sg} {j : Nat} (h : SoFar t L j) (hj : j < t.size) (hb : isBlank t[j] = false) (h37 : t[j].toNat ≠ 37) : SoFar t (L ++ [(signAt t j).1]) (signAt t j).2 := by
 have he := signAt_end hj
 refine ⟨?_, by have := h.2; simp; omega⟩
 rw [← h.1, sgs_step hj]
 unfold stepAt
 rw [at8_eq t j hj, hb, if_neg h37]; simp
set_option maxHeartbeats 4000000 in
set_option maxRecDepth 20000 in
theorem spec_signs (t : ByteArray) (hs : (t.size : Int) ≤ 3000) (w : World) :
   Calls Tryz.prog 18 #[.string t] w fun e w' => ∃ v, e = .returned (.tuple #[v, .bool true]) ∧ SgRow w' w.heap.size (sgs t 0) v ∧ Below w.heap.size w w' := by
 obtain ⟨i0, hi, hz0, hz1, hz2⟩ := info_partsS infoS
 obtain ⟨ALL, hALL⟩ : ∃ ALL, ALL = sgs t 0 := ⟨_, rfl⟩
 rw [← hALL]
 have HA : Hid (ALL = sgs t 0) := hALL
 clear hALL
 go_enter Tryz.func18, Tryz.ntmps18
 go_wp2
 go_loopw [4, 5] (fun vo va wr => ∃ (j : Nat) (L : List Sg) (v : Value), j ≤ t.size ∧ va = .int .i64 (j : Int) ∧ v = vo ∧ Hid (Below w.heap.size w wr) ∧ Hid (SgRow wr w.heap.size L v) ∧ Hid (SoFar t L j)) (fun _ va _ => t.size - (intOf va).toNat)
 case atStart =>
   exact ⟨0, [], _, by omega, rfl, rfl, (Below.refl _ _).alloc (Nat.le_refl _) _, SgRow.new (Nat.le_refl _), ⟨rfl, Nat.le_refl _⟩⟩
 case round =>
   obtain ⟨j, L, v, hj, rfl, rfl, HB, HO, HSF⟩ := hrel
   by_cases hlt : j < t.size
   · have hc := t[j].toNat_lt
     have HBL := c_blank t[j]
     cases hbl : isBlank t[j] with
     | true =>
       have HS' : Hid (SoFar t L (j + 1)) := HSF.out.blank hlt hbl
       rw [hbl] at HBL
       clear hbl HSF
       go_wp2_with (go_at_call 23; refine (HBL _).mono ?_; rintro e w' ⟨rfl, hw'⟩; subst hw')
       go_roundw
       case rel => exact ⟨j + 1, L, _, by omega, by go_num, rfl, HB, HO, HS'⟩
       case measure => simp [intOf]; omega
     | false =>
       rw [hbl] at HBL
       by_cases h37 : t[j].toNat = 37
       · have e37 : ((t[j].toNat : Int) == 37) = true := by rw [h37]; rfl
         have HS' : Hid (SoFar t L (j + run t not10 j)) := HSF.out.remark hlt hbl h37
         have hp : not10 t[j] = true := by unfold not10; rw [h37]; rfl
         obtain ⟨E, hE⟩ : ∃ E, E = j + run t not10 j := ⟨_, rfl⟩
         have hjE : j < E := by rw [hE, run_yes hlt hp]; omega
         have hEl : E ≤ t.size := by have := run_le t not10 j; omega
         rw [← hE] at HS'
         have HE : Hid (j + run t not10 j = E) := hE.symm
         clear hbl HSF hE hp h37
         go_wp2_with (go_at_call 23; refine (HBL _).mono ?_; rintro e w' ⟨rfl, hw'⟩; subst hw')
         go_loopw [5] (fun va wq => Hid (wq = w') ∧ ∃ k : Nat, j ≤ k ∧ k ≤ t.size ∧ va = .int .i64 (k : Int) ∧ Hid (k + run t not10 k = E)) (fun va _ => t.size - (intOf va).toNat)
         case atStart => exact ⟨rfl, j, Nat.le_refl _, by omega, rfl, HE⟩
         case round =>
           obtain ⟨hwq, k, hjk, hk, rfl, HK⟩ := hrel
           replace hwq := hwq.out
           subst hwq
           by_cases hkl : k < t.size
           · have hck := t[k].toNat_lt
             by_cases h10 : t[k].toNat = 10
             · have hn : not10 t[k] = false := by unfold not10; rw [h10]; rfl
               have e10 : ((t[k].toNat : Int) != 10) = false := by rw [h10]; rfl
               obtain rfl : k = E := by have := HK.out; rw [run_no hkl hn] at this; omega
               clear hn HK HE h10
               go_wp2
               go_roundw
               case rel => exact ⟨k, L, _, by omega, rfl, rfl, HB, HO, HS'⟩
               case measure => simp [intOf]; omega
             · have hn : not10 t[k] = true := by unfold not10; simp [h10]
               have e10 : ((t[k].toNat : Int) != 10) = true := by simp; omega
               have HK' : Hid (k + 1 + run t not10 (k + 1) = E) := by have := HK.out; rw [run_yes hkl hn] at this; show _ = _; omega
               clear hn HK HE h10
               go_wp2
               go_roundw
               case rel => exact ⟨trivial, k + 1, by omega, by omega, by go_num, HK'⟩
               case measure => simp [intOf]; omega
           · obtain rfl : k = E := by have := HK.out; rw [run_end hkl] at this; omega
             clear HK HE
             go_wp2
             go_roundw
             case rel => exact ⟨k, L, _, by omega, rfl, rfl, HB, HO, HS'⟩
             case measure => simp [intOf]; omega
       · have e37 : ((t[j].toNat : Int) == 37) = false := beq_eq_false_iff_ne.2 (by omega)
         have HS' : Hid (SoFar t (L ++ [(signAt t j).1]) (signAt t j).2) := HSF.out.sign hlt hbl h37
         have HSG := c_sign t j hlt hs
         have hne := signAt_near t j
         have hend := signAt_end hlt
         have hL : L.length ≤ 3000 := by have := HSF.out.2; omega
         generalize signAt t j = SG at *
         obtain ⟨⟨k1, x1, n1, a1, near1⟩, E⟩ := SG
         simp only at hne hend HS'
         have hn1 := hne.1
         have ha1 := hne.2.symm
         subst ha1
         clear hne
         obtain ⟨ao, cp, rfl, hcp, hLc⟩ := HO.out.shape
         clear hbl HSF h37
         have hE1 := hend.1
         have hE2 := hend.2
         by_cases hEl : E < t.size
         · have hcE := t[E].toNat_lt
           have hn2 : near1 = decide (t[E].toNat = 40) := by rw [hn1, at8_eq t E hEl, decide_eq_true hEl]; rfl
           have e40 : ((t[E].toNat : Int) == 40) = near1 := by rw [hn2, Bool.eq_iff_iff]; simp; omega
           clear hn1 hn2 hend
           go_wp2_with (first
             | (go_at_call 23; refine (HBL _).mono ?_; rintro e w' ⟨rfl, hw'⟩; subst hw')
             | (go_at_call 24; refine (HSG _).mono ?_; rintro e w1 ⟨rfl, hb1⟩; have HB1 : Hid (Below w'.heap.size w' w1) := hb1; simp only [sgv]; clear hb1; have HO1 : Hid (SgRow w1 w.heap.size L (.slice ao L.length cp)) := HO.out.keep HB1.out)
             | (at_builtin; go_loud (refine wpList_append_own_at _ rfl _ _ 37 rfl w.heap.size 45 i0 (.agg #[.int .i64 0, .string ⟨#[]⟩, .int .i64 0, .int .i64 0, .bool false]) 5 48 Tryz.underlying37 hi hz0 hz1 hz2 rfl (by decide) _ _ _ rfl ((HO1.out.alloc _).alloc _) ⟨w1.heap.size + 1, 0, none⟩ 1 1 [.int .i64 k1, .string x1, .int .i64 n1, .int .i64 (j : Int), .bool near1] rfl rfl ?c1 ?c2 ?c3 ?c4 ?c5 ?_)))
           case c1 =>
             intro q z hq
             match q, hq with
             | 0, hq => simp at hq; subst hq; simp [Addr.add]
             | 1, hq => simp at hq; subst hq; simp [Addr.add]
             | 2, hq => simp at hq; subst hq; simp [Addr.add]
             | 3, hq => simp at hq; subst hq; simp [Addr.add]
             | 4, hq => simp at hq; subst hq; simp [Addr.add]
           case c2 => intro z hz; simp at hz; rcases hz with rfl | rfl | rfl | rfl | rfl <;> rfl
           case c3 => unfold maxLen; omega
           case c4 => omega
           case c5 => have := HB.out.size; have := HB1.out.size; simp; omega
           intro v' w2 hown' hgrow _ _
           have HO2 : Hid (SgRow w2 w.heap.size (L ++ [⟨k1, x1, n1, j, near1⟩]) v') := by
             show w2.ownsRow w.heap.size 45 5 v' (L ++ [_]).length (sgsV (L ++ [_]))
             rw [sgsV_push, List.length_append]
             exact hown'
           have HB2 : Hid (Below w.heap.size w w2) := by
             have b1 : Below w.heap.size w w1 := HB.out.trans (HB1.out.mono HB.out.size)
             have b2 := (b1.alloc b1.size (.cells #[.int .i64 k1, .string x1, .int .i64 n1, .int .i64 (j : Int), .bool near1] 45)).alloc (by have := b1.size; simp; omega) (.cells #[.int .i64 k1, .string x1, .int .i64 n1, .int .i64 (j : Int), .bool near1] 45)
             refine b2.grown hgrow (by have := b1.size; simp; omega) ?_
             intro kk hkk
             rcases HO1.out.2 with ⟨e, _⟩ | ⟨g, cap, cur, e, hge, _⟩
             · rw [e] at hkk; cases hkk
             · rw [e] at hkk; cases hkk; exact hge
           clear hown' hgrow HO1 HO HB HB1
           go_wp2
           go_roundw
           case rel => exact ⟨E, _, _, by omega, rfl, rfl, HB2, HO2, HS'⟩
           case measure => simp [intOf]; omega
         · have hn2 : near1 = false := by rw [hn1, decide_eq_false hEl]; rfl
           subst hn2
           clear hn1 hend
           go_wp2_with (first
             | (go_at_call 23; refine (HBL _).mono ?_; rintro e w' ⟨rfl, hw'⟩; subst hw')
             | (go_at_call 24; refine (HSG _).mono ?_; rintro e w1 ⟨rfl, hb1⟩; have HB1 : Hid (Below w'.heap.size w' w1) := hb1; simp only [sgv]; clear hb1; have HO1 : Hid (SgRow w1 w.heap.size L (.slice ao L.length cp)) := HO.out.keep HB1.out)
             | (at_builtin; go_loud (refine wpList_append_own_at _ rfl _ _ 37 rfl w.heap.size 45 i0 (.agg #[.int .i64 0, .string ⟨#[]⟩, .int .i64 0, .int .i64 0, .bool false]) 5 48 Tryz.underlying37 hi hz0 hz1 hz2 rfl (by decide) _ _ _ rfl ((HO1.out.alloc _).alloc _) ⟨w1.heap.size + 1, 0, none⟩ 1 1 [.int .i64 k1, .string x1, .int .i64 n1, .int .i64 (j : Int), .bool false] rfl rfl ?c1 ?c2 ?c3 ?c4 ?c5 ?_)))
           case c1 =>
             intro q z hq
             match q, hq with
             | 0, hq => simp at hq; subst hq; simp [Addr.add]
             | 1, hq => simp at hq; subst hq; simp [Addr.add]
             | 2, hq => simp at hq; subst hq; simp [Addr.add]
             | 3, hq => simp at hq; subst hq; simp [Addr.add]
             | 4, hq => simp at hq; subst hq; simp [Addr.add]
           case c2 => intro z hz; simp at hz; rcases hz with rfl | rfl | rfl | rfl | rfl <;> rfl
           case c3 => unfold maxLen; omega
           case c4 => omega
           case c5 => have := HB.out.size; have := HB1.out.size; simp; omega
           intro v' w2 hown' hgrow _ _
           have HO2 : Hid (SgRow w2 w.heap.size (L ++ [⟨k1, x1, n1, j, false⟩]) v') := by
             show w2.ownsRow w.heap.size 45 5 v' (L ++ [_]).length (sgsV (L ++ [_]))
             rw [sgsV_push, List.length_append]
             exact hown'
           have HB2 : Hid (Below w.heap.size w w2) := by
             have b1 : Below w.heap.size w w1 := HB.out.trans (HB1.out.mono HB.out.size)
             have b2 := (b1.alloc b1.size (.cells #[.int .i64 k1, .string x1, .int .i64 n1, .int .i64 (j : Int), .bool false] 45)).alloc (by have := b1.size; simp; omega) (.cells #[.int .i64 k1, .string x1, .int .i64 n1, .int .i64 (j : Int), .bool false] 45)
             refine b2.grown hgrow (by have := b1.size; simp; omega) ?_
             intro kk hkk
             rcases HO1.out.2 with ⟨e, _⟩ | ⟨g, cap, cur, e, hge, _⟩
             · rw [e] at hkk; cases hkk
             · rw [e] at hkk; cases hkk; exact hge
           clear hown' hgrow HO1 HO HB HB1
           go_wp2
           go_roundw
           case rel => exact ⟨E, _, _, by omega, rfl, rfl, HB2, HO2, HS'⟩
           case measure => simp [intOf]; omega
   · obtain rfl : j = t.size := by omega
     have hL : L = ALL := by have := HSF.out.1; rw [sgs_end hlt, List.append_nil] at this; rw [this, ← HA.out]
     subst hL
     clear HSF
     obtain ⟨ao, cp, rfl, _, _⟩ := HO.out.shape
     go_wp2
     go_ret2
     exact ⟨_, rfl, HO.out, HB.out⟩
end Go.Proofs.YtbkjcccbjnehbanGreatDoor

namespace Go.Proofs.YtbkjcccbjnehbanGreatDoor
open Go.RowKit
section
variable {P : Program} {ops : Array Oper} {md : Region.Mode} {Q : Exit → Act → World → Prop}
def YieldsPure (P : Program) (ops : Array Oper) (o : Oper) (v : Value) (a : Act) : Prop :=
 Region.wanted o (yielded ops a.tmps) = true ∧ ∀ w, o.quietAt P a (fun w' => w' = w) w v
theorem YieldsPure.of_same {o : Oper} {v : Value} {a a' : Act} (hy : YieldsPure P ops o v a) (he : execOp a'.eval o = execOp a.eval o)
   (hw : Region.wanted o (yielded ops a'.tmps) = Region.wanted o (yielded ops a.tmps)) : YieldsPure P ops o v a' := by
 unfold YieldsPure Oper.quietAt at *
 rw [he, hw]
 exact hy
theorem YieldsPure.wpOp {i : Nat} {o : Oper} {v : Value} {a : Act} (hi : ops[i]? = some o) (hy : YieldsPure P ops o v a)
   {K : Act → World → Prop} {w : World} (h : K (a.put o.dst v) w) : wpOp P ops Q i K a w := by
 unfold Go.wpOp
 obtain ⟨hw, hv⟩ := hy
 simp only [hi, hw, if_true]
 exact .inl (Oper.wp_of_quiet (C := fun w' => w' = w) (K := fun a' => a' = a.put o.dst v) rfl (fun a' w' hw' ha' => by subst hw' ha'; exact h)
   ⟨v, fun w' hw' => by subst hw'; exact hv w', rfl⟩)
theorem wpOp_putPure {j : Nat} {oi oj : Oper} {v : Value} (hj : ops[j]? = some oj) (hap : oi.apart ops oj = true)
   (hsi : ∀ cs b, oi.op ≠ .select cs b) (hsj : ∀ cs b, oj.op ≠ .select cs b)
   (hQ : ∀ c a w, Q (.panic c) (a.put oi.dst v) w → Q (.panic c) a w) {K : Act → World → Prop} {a : Act} {w : World}
   (hy : YieldsPure P ops oi v a) (h : wpOp P ops Q j K (a.put oi.dst v) w) :
   wpOp P ops Q j (fun a' w' => YieldsPure P ops oi v a' ∧ K (a'.put oi.dst v) w') a w := by
 obtain ⟨h1, h2, h3⟩ := Oper.apart_spec hap
 have keep : ∀ (a : Act), YieldsPure P ops oi v a → ∀ u, YieldsPure P ops oi v (a.put oj.dst u) := fun a hy u =>
   hy.of_same (execOp_put oi hsi a oj.dst u h3) (wanted_put oi a oj.dst u h3)
 have keepD : ∀ d, YieldsPure P ops oi v { a with defers := d :: a.defers } := fun d => hy.of_same rfl rfl
 unfold wpOp at *
 simp only [hj] at *
 rw [wanted_put oj a oi.dst v h1] at h
 split
 · rename_i hw
   simp only [hw, if_true] at h
   rcases h with h | ⟨hasks, hlets⟩
   case inr => exact .inr ⟨by unfold Oper.asks at *; rw [execOp_put oj hsj a oi.dst v h1] at hasks; exact hasks, hlets⟩
   refine .inl ?_
   unfold Oper.wp at *
   rw [execOp_put oj hsj a oi.dst v h1] at h
   generalize (execOp a.eval oj).run P w = r at *
   cases r with
   | ok n w' =>
     cases n <;> simp only [Oper.upon] at h ⊢
     case value u => exact ⟨keep a hy u, by rw [← Act.put_comm a v u h2]; exact h⟩
     case skip => exact ⟨keep a hy _, by rw [← Act.put_comm a v undef h2]; exact h⟩
     case defer d =>
       refine ⟨keep _ (keepD d) _, ?_⟩
       rw [← Act.put_comm _ v undef h2, ← Act.put_defers]
       exact h
     case enter f args =>
       refine Calls.mono h fun e w'' he => ?_
       cases e with
       | returned u => exact ⟨keep a hy u, by rw [← Act.put_comm a v u h2]; exact he⟩
       | panicked c => exact hQ _ _ _ he
       | outgrown => exact he
     case row row args => exact Rows.mono h fun u w'' he => ⟨keep a hy u, by rw [← Act.put_comm a v u h2]; exact he⟩
   | halt x w' =>
     cases x <;> simp only [Oper.upon] at h ⊢
     case panic u => exact hQ _ _ _ h
 · rename_i hw
   simp only [hw] at h
   exact ⟨keep a hy _, by rw [← Act.put_comm a v undef h2]; exact h⟩
theorem wpAny_firstPure {i : Nat} {oi : Oper} {v : Value} (hi : ops[i]? = some oi) (hsel : ∀ (j : Nat) (o : Oper) cs b, ops[j]? = some o → o.op ≠ .select cs b)
   (hQ : ∀ c a w, Q (.panic c) (a.put oi.dst v) w → Q (.panic c) a w) :
   ∀ (fuel : Nat) (listed : Array Bool) (a : Act) (w : World),
     (∀ j oj, ops[j]? = some oj → j ≠ i → listed.getD j true = false → (∀ e ∈ oj.after, Region.binds md e = true → e.on ≠ i) → oi.apart ops oj = true) →
     i ∈ Region.ready md ops listed → YieldsPure P ops oi v a →
     wpAny P md ops Q fuel (listed.setIfInBounds i true) (a.put oi.dst v) w → wpAny P md ops Q (fuel + 1) listed a w := by
 intro fuel
 induction fuel with
 | zero =>
   intro listed a w _ hr hy H
   refine ⟨fun h => (by rw [h] at hr; cases hr), fun j hj => ?_⟩
   by_cases hji : j = i
   · subst hji; exact hy.wpOp hi H
   · have := ready_mono hj hji
     rw [H.1] at this
     cases this
 | succ fuel ih =>
   intro listed a w hfree hr hy H
   refine ⟨fun h => (by rw [h] at hr; cases hr), fun j hj => ?_⟩
   by_cases hji : j = i
   · subst hji; exact hy.wpOp hi H
   · have h1 := H.2 j (ready_mono hj hji)
     obtain ⟨hjun, oj, hoj, hall⟩ := mem_ready.1 hj
     have hnot : ∀ e ∈ oj.after, Region.binds md e = true → e.on ≠ i := fun e he hb heq => by
       have h1 := hall e he hb
       have h0 := (mem_ready.1 hr).1
       rw [heq] at h1
       rcases Nat.lt_or_ge i listed.size with h' | h'
       · simp [h'] at h0 h1; rw [h0] at h1; cases h1
       · simp [Array.getElem?_eq_none h'] at h1
     have h2 := wpOp_putPure hoj (hfree j oj hoj hji hjun hnot) (fun cs b => hsel i oi cs b hi) (fun cs b => hsel j oj cs b hoj) hQ hy h1
     have hfree' : ∀ k ok, ops[k]? = some ok → k ≠ i → (listed.setIfInBounds j true).getD k true = false →
         (∀ e ∈ ok.after, Region.binds md e = true → e.on ≠ i) → oi.apart ops ok = true := fun k ok hk hki hun hno => by
       refine hfree k ok hk hki ?_ hno
       by_cases hjk : j = k
       · subst hjk; exact hjun
       · rw [getD_set_ne true hjk] at hun; exact hun
     refine wpOp_mono (fun a' w' h3 => ih (listed.setIfInBounds j true) a' w' hfree' (ready_mono hr (Ne.symm hji)) h3.1 ?_) h2
     rw [Array.setIfInBounds_comm _ _ hji]
     exact h3.2
def headB (md : Region.Mode) (ops : Array Oper) (g : Nat) : Nat → Nat → Array Bool → Bool
 | 0, k, listed => Region.seqB md ops g k listed
 | m + 1, k, listed => Region.free md ops listed k && (Region.ready md ops listed).contains k && headB md ops g m (k + 1) (listed.setIfInBounds k true)
def wpHead (P : Program) (ops : Array Oper) (Q : Act → Prop) : List Oper → Act → Prop
 | [], a => Q a
 | o :: rest, a => (∃ v, YieldsPure P ops o v a ∧ wpHead P ops Q rest (a.put o.dst v)) ∨ (Region.wanted o (yielded ops a.tmps) = false ∧ wpHead P ops Q rest (a.put o.dst undef))
end
end Go.Proofs.YtbkjcccbjnehbanGreatDoor

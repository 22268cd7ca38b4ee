/- Four texts in one. -/
import Derived.Test.YtmhmlkdoaojimapDoorRows
import Derived.Test.YtmhmlkdoaojimapDoorMrg6
import Derived.Test.YtmhmlkdoaojimapDoorMrg7
import Derived.Deep.RegionWith
import Derived.Deep.DeepCutAuto
import Derived.Laws.Concat
import Derived.Test.YtmhmlkdoaojimapDoorMrg2
import Derived.Test.YtmhmlkdoaojimapDoorMrg3
import Derived.ProofKit
import Derived.Test.YtmhmlkdoaojimapDoorMrg1
import Derived.Laws.AppendOwn
/- spec.PredOf. -/
namespace Go.Proofs.YtmhmlkdoaojimapDoor
open Go.RowKit

set_option maxHeartbeats 2000000 in
theorem c_pred (t : Tm) (w : World) (v : Value) (hin : TmIn w t v) (hwt : t.wt ≤ 1048576) :
    Calls Tryd.prog 62 #[v] w fun e w' => e = .returned (.string (predB t)) ∧ Below w.heap.size w w' := by
  obtain ⟨k, s, n, ks⟩ := t
  unfold TmIn at hin
  obtain ⟨ao, cap, rfl, hk, hn, hs, hlc, hcm, _⟩ := hin
  unfold Tm.wt at hwt
  have hkl : (ks.length : Int) ≤ 1048576 := by omega
  have hss : s.size ≤ 1048576 := by omega
  obtain ⟨W, hW⟩ : ∃ W, W = w.alloc (.cells #[.int .i64 k, .string s, .int .i64 n, .slice ao ks.length cap] 46) := ⟨_, rfl⟩
  have bW : Below w.heap.size w W := by rw [hW]; exact (Below.refl _ _).alloc (Nat.le_refl _) _
  have HBW : Hid (Below w.heap.size w W) := bW
  have HD : Hid (∀ w1, Below W.heap.size W w1 → Calls Tryd.prog 87 #[.int .i64 (ks.length : Int)] w1 fun e w' => e = .returned (.string ⟨(decI (ks.length : Int)).toArray⟩) ∧ Below w1.heap.size w1 w') := fun w1 hb => dec_any _ w1 (by omega) (by omega)
  by_cases hkk : k = 2 ∨ k = 4
  · have HV : Hid (predB (.mk k s n ks) = s ++ ⟨#[47]⟩ ++ ⟨(decI (ks.length : Int)).toArray⟩) := by show _ = _; show (if k = 2 ∨ k = 4 then _ else _) = _; rw [if_pos hkk]
    obtain ⟨KL, hKL⟩ : ∃ KL, KL = ks.length := ⟨_, rfl⟩
    rw [← hKL] at hW HD HV hkl ⊢
    obtain ⟨D, hD⟩ : ∃ D : ByteArray, D = ⟨(decI (KL : Int)).toArray⟩ := ⟨_, rfl⟩
    have hDl : D.size ≤ 11 := by
      rw [hD]
      show (decI (KL : Int)).toArray.size ≤ 11
      rw [List.size_toArray]
      exact decI_le _ (by omega)
    rw [← hD] at HD HV
    have hadd1 : ∀ u, (Op.stringOp .add s ⟨#[47]⟩).run Tryd.prog u = .ok (.string (s ++ ⟨#[47]⟩)) u := fun u => run_string_add_sum u _ _ (by show _ + 1 ≤ _; omega)
    have hadd2 : ∀ u, (Op.stringOp .add (s ++ ⟨#[47]⟩) D).run Tryd.prog u = .ok (.string (s ++ ⟨#[47]⟩ ++ D)) u := fun u => run_string_add_sum u _ _ (by rw [ByteArray.size_append]; show _ + 1 + _ ≤ _; omega)
    have k0 : W.heap[w.heap.size]? = some (.cells #[.int .i64 k, .string s, .int .i64 n, .slice ao KL cap] 46 (0, 0)) := by rw [hW]; exact heap_alloc_new _ _
    have HK : Hid _ := k0
    rcases hkk with rfl | rfl
    all_goals
      clear hD hDl hKL bW k0 hlc hcm hs hk hn
      go_enter Tryd.func62, Tryd.ntmps62
      go_upto_region 3 with fail
      try rw [← hW]
      obtain ⟨c0, c1, c2, c3, _⟩ := blk4 HK.out
      clear hW
      have z1 := fun u => cell_keep c1 (later_below W u)
      have z3 := fun u => cell_keep c3 (later_below W u)
      have HC : Hid (∀ u, Calls Tryd.prog 87 #[.int .i64 (KL : Int)] (later W u) fun e w' => e = .returned (.string D) ∧ ∃ u', w' = later W u') := fun u => Calls.later_of_below (HD.out _ (later_below W u))
      clear c0 c1 c2 c3
      refine wp_region_later (by kernel_rfl) (by kernel_rfl) ?_
      repeat (go_big_quiet_step ((go_at_call 87; exact HC.out _)))
      refine wpQuiet_nil ?_
      rintro _ ⟨u3, rfl⟩
      go_wp2
      go_ret
      exact ⟨by rw [HV.out]; rfl, HBW.out.trans ((later_below W u3).mono HBW.out.size)⟩
  · have HV : Hid (predB (.mk k s n ks) = ⟨#[]⟩) := by show (if k = 2 ∨ k = 4 then _ else _) = _; rw [if_neg hkk]
    have e2 : ¬ k = 2 := fun h => hkk (Or.inl h)
    have e4 : ¬ k = 4 := fun h => hkk (Or.inr h)
    have b2 : (k != 2) = true := bne_iff_ne.2 e2
    have b4 : (k != 4) = true := bne_iff_ne.2 e4
    clear hkk hlc hcm hs hk hn
    go_enter Tryd.func62, Tryd.ntmps62
    go_wp2
    go_ret
    exact ⟨by rw [HV.out]; rfl, by rw [← hW]; exact HBW.out⟩
end Go.Proofs.YtmhmlkdoaojimapDoor

/- The clauses of one predicate. -/
namespace Go.Proofs.YtmhmlkdoaojimapDoor
open Go.RowKit

/-- those of one predicate -/
def ofPred (q : ByteArray) (cs : List Cla) : List Cla := cs.filter fun c => decide (predB c.h = q)
theorem ofPred_snoc (q : ByteArray) (cs : List Cla) (c : Cla) : ofPred q (cs ++ [c]) = if predB c.h = q then ofPred q cs ++ [c] else ofPred q cs := by
  unfold ofPred
  rw [List.filter_append]
  by_cases h : predB c.h = q
  · simp [h]
  · simp [h]

end Go.Proofs.YtmhmlkdoaojimapDoor

/- A row of terms that grows by appends. Of no program. -/
namespace Go.Proofs.YtmhmlkdoaojimapDoor
open Go.RowKit

/-- what was put together so far: a row of its own, and the terms in it in blocks of their own -/
def OutS (e : TypeId) (w : World) (B : Nat) (ks : List Tm) (v : Value) (F : List Nat) : Prop :=
  ∃ cs g, w.ownsRow B e 4 v ks.length cs ∧ v.ownBlock = some g ∧ OwnRow e w ks cs F ∧ (∀ f ∈ F, B ≤ f) ∧ B ≤ g ∧ (g :: F).Nodup

theorem OutS.own {e : TypeId} {w : World} {B : Nat} {ks : List Tm} {v : Value} {F : List Nat} (h : OutS e w B ks v F) : ∃ F', OwnS e w ks v F' ∧ (∀ f ∈ F', B ≤ f) ∧ F'.Nodup := by
  obtain ⟨cs, g, h1, h2, h3, h4, h5, h6⟩ := h
  refine ⟨g :: F, ?_, ?_, h6⟩
  · rcases h1.2 with ⟨rfl, _⟩ | ⟨g', cap, cur, rfl, hb, hh, hr⟩
    · cases h2
    · obtain rfl : g' = g := by simpa [Value.ownBlock] using h2
      exact Or.inr ⟨g', cap, cs, F, rfl, ⟨h1.1, Or.inr ⟨g', cap, cur, rfl, Nat.zero_le _, hh, hr⟩⟩, rfl, h3⟩
  · intro f hf
    rcases List.mem_cons.1 hf with rfl | hf
    · exact h5
    · exact h4 f hf

theorem OutS.lt {e : TypeId} {w : World} {B : Nat} {ks : List Tm} {v : Value} {F : List Nat} (h : OutS e w B ks v F) : (∀ f ∈ F, f < w.heap.size) ∧ ∀ g, v.ownBlock = some g → g < w.heap.size := by
  obtain ⟨cs, g, h1, h2, h3, h4, h5, h6⟩ := h
  exact ⟨OwnRow.lt _ _ _ h3, fun g hg => (h1.lt g hg).2⟩

theorem OutS.shape {e : TypeId} {w : World} {B : Nat} {ks : List Tm} {v : Value} {F : List Nat} (h : OutS e w B ks v F) : ∃ g cap, v = .slice (some ⟨g, 0, none⟩) ks.length cap ∧ B ≤ g ∧ g < w.heap.size ∧ ks.length ≤ cap ∧ cap ≤ maxLen := by
  obtain ⟨cs, g, h1, h2, h3, h4, h5, h6⟩ := h
  rcases h1.2 with ⟨rfl, _⟩ | ⟨g', cap, cur, rfl, hb, hh, hr, hm, _⟩
  · cases h2
  · exact ⟨g', cap, rfl, hb, (Array.getElem?_eq_some_iff.1 hh).1, hr, hm⟩

theorem OutS.keep {e : TypeId} {w w' : World} {B : Nat} {ks : List Tm} {v : Value} {F : List Nat} (h : OutS e w B ks v F) (hb : ∀ k, B ≤ k → k < w.heap.size → w'.heap[k]? = w.heap[k]?) : OutS e w' B ks v F := by
  have hlt := h.lt
  obtain ⟨cs, g, h1, h2, h3, h4, h5, h6⟩ := h
  refine ⟨cs, g, ?_, h2, OwnRow.keep _ _ _ h3 fun f hf => hb f (h4 f hf) (hlt.1 f hf), h4, h5, h6⟩
  rcases h1.2 with ⟨rfl, _⟩ | ⟨g', cap, cur, rfl, hb', hh, hr⟩
  · cases h2
  · exact ⟨h1.1, Or.inr ⟨g', cap, cur, rfl, hb', (hb g' hb' (Array.getElem?_eq_some_iff.1 hh).1).trans hh, hr⟩⟩

theorem outS_new {e : TypeId} {w : World} {B : Nat} (hB : B ≤ w.heap.size) (cap : Nat) (hc : cap ≤ maxLen) (M : Array Value) (hM : M.size = cap * 4) : OutS e (w.alloc (.cells M e)) B [] (.slice (some ⟨w.heap.size, 0, none⟩) 0 cap) [] := by
  refine ⟨[], w.heap.size, ⟨by simp, Or.inr ⟨w.heap.size, cap, M, rfl, hB, heap_alloc_new w _, Nat.zero_le _, hc, hM, by simp⟩⟩, rfl, by simp [OwnRow], by simp, hB, by simp⟩

/-- one more term behind it -/
theorem OutS.push {e : TypeId} {w1 w2 : World} {B : Nat} {ks : List Tm} {v v' : Value} {F F2 : List Nat} {t : Tm} {c0 c1 c2 c3 : Value} {cs : List Value} {g : Nat}
    (h1 : w1.ownsRow B e 4 v ks.length cs) (hg : v.ownBlock = some g) (hr : OwnRow e w1 ks cs F) (hF : ∀ f ∈ F, B ≤ f) (hBg : B ≤ g) (hnd : (g :: F).Nodup)
    (ht : Own e w1 t (.agg #[c0, c1, c2, c3]) F2) (hF2 : ∀ f ∈ F2, B ≤ f) (hnd2 : F2.Nodup) (hdis : ∀ f ∈ F2, f ∉ g :: F)
    (hown : w2.ownsRow B e 4 v' (ks.length + 1) (cs ++ [c0, c1, c2, c3])) (hgrow : w1.grownBy w2 v.ownBlock) (hat : v'.ownBlock = v.ownBlock ∨ v'.ownBlock = some w1.heap.size) :
    OutS e w2 B (ks ++ [t]) v' (F ++ F2) := by
  have hlt := OwnRow.lt _ _ _ hr
  have hlt2 := Own.lt _ _ _ ht
  have hglt := (h1.lt g hg).2
  rw [List.nodup_cons] at hnd
  have hk : ∀ f, f < w1.heap.size → f ≠ g → w2.heap[f]? = w1.heap[f]? := fun f hf hne => hgrow.block f hf (by rw [hg]; intro e; exact hne (by simpa using e))
  obtain ⟨g', hg', hgg⟩ : ∃ g', v'.ownBlock = some g' ∧ (g' = g ∨ g' = w1.heap.size) := by
    rcases hat with hat | hat
    · exact ⟨g, hat.trans hg, Or.inl rfl⟩
    · exact ⟨_, hat, Or.inr rfl⟩
  have hne : ∀ f ∈ F, f ≠ g := fun f hf e => hnd.1 (e ▸ hf)
  have hne2 : ∀ f ∈ F2, f ≠ g := fun f hf e => hdis f hf (by simp [e])
  refine ⟨cs ++ [c0, c1, c2, c3], g', by simpa using hown, hg', ?_, ?_, ?_, ?_⟩
  · exact OwnRow.snoc (Own.keep _ _ _ ht fun f hf => hk f (hlt2 f hf) (hne2 f hf)) _ _ _ (OwnRow.keep _ _ _ hr fun f hf => hk f (hlt f hf) (hne f hf))
  · intro f hf
    rcases List.mem_append.1 hf with hf | hf
    · exact hF f hf
    · exact hF2 f hf
  · rcases hgg with rfl | rfl
    · exact hBg
    · omega
  · refine List.nodup_cons.2 ⟨fun hf => ?_, List.nodup_append.2 ⟨hnd.2, hnd2, fun a ha b hb e => hdis b hb (by rw [← e]; simp [ha])⟩⟩
    rcases List.mem_append.1 hf with hf | hf
    · rcases hgg with rfl | rfl
      · exact hnd.1 hf
      · have := hlt _ hf; omega
    · rcases hgg with rfl | rfl
      · exact hne2 _ hf rfl
      · have := hlt2 _ hf; omega
end Go.Proofs.YtmhmlkdoaojimapDoor

/- spec.l34Term, spec.l34Terms: a copy in memory of its own, of a term that is a little greater. -/
namespace Go.Proofs.YtmhmlkdoaojimapDoor
open Go.RowKit

def L34OkB (t : Tm) : Prop := ∀ (w : World) (v : Value), TmIn w t v → t.wt ≤ 1100000 →
  Calls Tryd.prog 48 #[v] w fun e w' => ∃ v' F, e = .returned v' ∧ Own 46 w' t v' F ∧ (∀ f ∈ F, w.heap.size ≤ f) ∧ F.Nodup ∧ Below w.heap.size w w'

set_option maxRecDepth 20000 in
theorem l34_termsB (ks : List Tm) (hks : ∀ t ∈ ks, L34OkB t) (w : World) (ao : Option Addr) (cap : Nat) (hlen : ks.length + wts ks ≤ 1100000) (h : ks ≠ [] → ∃ b off, ao = some ⟨b, off, none⟩ ∧ TmsIn w ks b off) :
    Calls Tryd.prog 73 #[.slice ao ks.length cap] w fun e w' => ∃ sl F, e = .returned sl ∧ OwnS 46 w' ks sl F ∧ (∀ f ∈ F, w.heap.size ≤ f) ∧ F.Nodup ∧ Below w.heap.size w w' := by
  obtain ⟨i0, hi, hz0, hz1, hz2⟩ := info_parts infoT
  go_enter Tryd.func73, Tryd.ntmps73
  go_wp2
  go_loopw [3, 4] (fun vo vi wr => ∃ (j : Nat) (F : List Nat) (v : Value), j ≤ ks.length ∧ vi = .int .i64 (j : Int) ∧ v = vo ∧ Hid (Below w.heap.size w wr) ∧ Hid (OutS 46 wr w.heap.size (ks.take j) v F)) (fun _ i _ => ks.length - (intOf i).toNat)
  case atStart =>
    exact ⟨0, [], _, by omega, rfl, rfl, (Below.refl _ _).alloc (Nat.le_refl _) _, outS_new (Nat.le_refl _) 0 (Nat.zero_le _) _ rfl⟩
  case round =>
    obtain ⟨j, F, vo, hj, rfl, rfl, HB, HO⟩ := hrel
    by_cases hlt : j < ks.length
    · obtain ⟨b, off, rfl, hin⟩ := h (by intro e; subst e; simp at hlt)
      obtain ⟨c0, c1, c2, c3, h0, h1, h2, h3, ht⟩ := (TmsIn.keep HB.out ks b off hin).at j hlt
      have hwj := wt_le (List.getElem_mem hlt)
      have HC : Hid _ := hks ks[j] (List.getElem_mem hlt) wr _ ht (by omega)
      obtain ⟨g, cp, rfl, hBg, hgl, _, _⟩ := HO.out.shape
      have hl : (ks.take j).length = j := by rw [List.length_take]; omega
      rw [hl]
      have HK : Hid (∀ w1, Below wr.heap.size wr w1 → ∃ cs, w1.ownsRow w.heap.size 46 4 (.slice (some ⟨g, 0, none⟩) j cp) j cs ∧ OwnRow 46 w1 (ks.take j) cs F ∧ (∀ f ∈ F, w.heap.size ≤ f) ∧ (g :: F).Nodup ∧ (∀ f ∈ g :: F, f < wr.heap.size)) := fun w1 hb => by
        have hlt' := HO.out.lt
        obtain ⟨cs, g', q1, q2, q3, q4, q5, q6⟩ := HO.out.keep fun k _ hk => hb.block k hk
        obtain rfl : g = g' := by simpa [Value.ownBlock] using q2
        rw [hl] at q1
        refine ⟨cs, q1, q3, q4, q6, fun f hf => ?_⟩
        rcases List.mem_cons.1 hf with rfl | hf
        · exact hlt'.2 _ rfl
        · exact hlt'.1 f hf
      have hszw := HB.out.size
      clear hin ht h hks hl
      go_wp2_with (first
        | (go_at_call 48; refine (Calls.mono HC.out ?_); rintro e w1 ⟨v', F2, rfl, hown, hfr, hnd, hb⟩; obtain ⟨k', s', n', ao', len', cap', rfl⟩ := own_shape hown; have HOWN : Hid (Own 46 w1 ks[j] (.agg #[.int .i64 k', .string s', .int .i64 n', .slice ao' len' cap']) F2) := hown; have HFR : Hid (∀ f ∈ F2, wr.heap.size ≤ f) := hfr; have HND : Hid (F2.Nodup) := hnd; have HBB : Hid (Below wr.heap.size wr w1) := hb; have hsz1 := hb.size; obtain ⟨cs, q1, q3, q4, q6, q7⟩ := HK.out w1 hb; have Q1 : Hid (w1.ownsRow w.heap.size 46 4 (.slice (some ⟨g, 0, none⟩) j cp) j cs) := q1; have Q3 : Hid (OwnRow 46 w1 (ks.take j) cs F) := q3; have Q4 : Hid (∀ f ∈ F, w.heap.size ≤ f) := q4; have Q6 : Hid ((g :: F).Nodup) := q6; have Q7 : Hid (∀ f ∈ g :: F, f < wr.heap.size) := q7; clear q1 q3 q4 q6 q7 hown hfr hb hnd)
        | (at_builtin; go_loud (refine wpList_append_own_at _ rfl _ _ 44 rfl w.heap.size 46 i0 (.agg #[.int .i64 0, .string ⟨#[]⟩, .int .i64 0, .slice none 0 0]) 4 56 Tryd.underlying44 hi hz0 hz1 hz2 rfl (by decide) _ _ _ rfl (Q1.out.alloc _) ⟨w1.heap.size, 0, none⟩ 1 1 [.int .i64 k', .string s', .int .i64 n', .slice ao' len' cap'] rfl rfl ?c1 ?c2 ?c3 ?c4 ?c5 ?_)))
      case c1 =>
        intro j z hj
        match j, hj with
        | 0, hj => simp at hj; subst hj; simp [Addr.add]
        | 1, hj => simp at hj; subst hj; simp [Addr.add]
        | 2, hj => simp at hj; subst hj; simp [Addr.add]
        | 3, hj => simp at hj; subst hj; simp [Addr.add]
      case c2 => intro z hz; simp at hz; rcases hz with rfl | rfl | rfl | rfl <;> rfl
      case c3 => unfold maxLen; omega
      case c4 => omega
      case c5 => simp; omega
      · intro v' w2 hown' hgrow _ hat
        obtain ⟨W, hW⟩ : ∃ W, W = w1.alloc (.cells #[.int .i64 k', .string s', .int .i64 n', .slice ao' len' cap'] 46) := ⟨_, rfl⟩
        rw [← hW] at hgrow
        rw [show w1.heap.size + 1 = W.heap.size by rw [hW]; simp] at hat
        have bW : Below w1.heap.size w1 W := by rw [hW]; exact (Below.refl _ _).alloc (Nat.le_refl _) _
        have HFIN : Hid (OutS 46 w2 w.heap.size (ks.take j ++ [ks[j]]) v' (F ++ F2)) := by
          have q7 := Q7.out
          refine OutS.push (w1 := W) (g := g) (cs := cs) ?_ rfl (OwnRow.keep _ _ _ Q3.out fun f hf => bW.block f (OwnRow.lt _ _ _ Q3.out f hf)) Q4.out hBg Q6.out (Own.keep _ _ _ HOWN.out fun f hf => bW.block f (Own.lt _ _ _ HOWN.out f hf)) (fun f hf => by have := HFR.out f hf; omega) HND.out (fun f hf h' => by have := HFR.out f hf; have := q7 f h'; omega) ?_ hgrow hat
          · rw [List.length_take, Nat.min_eq_left hj, hW]; exact World.ownsRow.alloc Q1.out _
          · rw [List.length_take, Nat.min_eq_left hj]; exact hown'
        have HBN : Hid (Below w.heap.size w w2) := by
          have b1 : Below w.heap.size w W := (HB.out.trans (HBB.out.mono hszw)).trans (bW.mono (by omega))
          refine ⟨hgrow.os.trans b1.os, hgrow.tape.trans b1.tape, hgrow.output.trans b1.output, Nat.le_trans b1.size hgrow.size, fun k hk => ?_⟩
          rw [hgrow.block k (Nat.lt_of_lt_of_le hk b1.size) (by intro e; have : k = g := by simpa [Value.ownBlock] using e
                                                                omega)]
          exact b1.block k hk
        clear hown' hgrow hat Q1 Q3 Q4 Q6 Q7 HOWN HFR HND HBB bW hW
        go_wp2
        go_roundw
        case rel => exact ⟨j + 1, _, _, by omega, by go_num, rfl, HBN.out, by rw [List.take_succ_eq_append_getElem hlt]; exact HFIN.out⟩
        case measure => simp [intOf]; omega
    · have HE : Hid (OutS 46 wr w.heap.size ks vo F) := by
        have := HO.out
        rw [List.take_of_length_le (by omega)] at this
        exact this
      obtain ⟨g, cp, rfl, _⟩ := HE.out.shape
      clear HO
      go_wp2
      go_ret
      obtain ⟨F', q1, q2, q3⟩ := HE.out.own
      exact ⟨_, F', rfl, q1, q2, q3, HB.out⟩

set_option maxRecDepth 20000 in
theorem l34_termB (t : Tm) : L34OkB t := by
  refine tm_ind (p := L34OkB) ?_ t
  clear t
  intro k s n ks hks w v hin hwt
  unfold TmIn at hin
  obtain ⟨ao, cap, rfl, hk, hn, hs, hlen, hcap, hrow⟩ := hin
  have ew : (Tm.mk k s n ks).wt = s.size + (ks.length + wts ks) := by simp [Tm.wt, wts]; omega
  rw [ew] at hwt
  obtain ⟨W, hW⟩ : ∃ W, W = (w.alloc (.cells #[.int .i64 k, .string s, .int .i64 n, .slice ao ks.length cap] 46)).alloc (.cells #[.int .i64 0, .string ⟨#[]⟩, .int .i64 0, .slice none 0 0] 46) := ⟨_, rfl⟩
  have bW : Below w.heap.size w W := by rw [hW]; exact ((Below.refl _ _).alloc (Nat.le_refl _) _).alloc (by simp) _
  have HC := l34_termsB ks hks W ao cap (by omega) (fun h0 => by obtain ⟨b, off, e, hr⟩ := hrow h0; exact ⟨b, off, e, TmsIn.keep bW ks b off hr⟩)
  have k1 : W.heap[w.heap.size]? = some (.cells #[.int .i64 k, .string s, .int .i64 n, .slice ao ks.length cap] 46 (0, 0)) := by rw [hW]; exact (alloc_old _ _ (by simp)).trans (alloc_at _ _ rfl)
  have k2 : W.heap[w.heap.size + 1]? = some (.cells #[.int .i64 0, .string ⟨#[]⟩, .int .i64 0, .slice none 0 0] 46 (0, 0)) := by rw [hW]; exact alloc_at _ _ (by simp)
  have lW : W.heap.size = w.heap.size + 2 := by rw [hW]; simp
  rw [hW] at HC
  replace HC : Hid _ := HC
  have HBW : Hid (Below w.heap.size w W) := bW
  have HK : Hid (∀ w1, Below W.heap.size W w1 → w1.heap[w.heap.size]? = some (.cells #[.int .i64 k, .string s, .int .i64 n, .slice ao ks.length cap] 46 (0, 0)) ∧ w1.heap[w.heap.size + 1]? = some (.cells #[.int .i64 0, .string ⟨#[]⟩, .int .i64 0, .slice none 0 0] 46 (0, 0))) := fun w1 hb => ⟨(hb.block _ (by omega)).trans k1, (hb.block _ (by omega)).trans k2⟩
  clear hks hrow ew k1 k2 bW
  go_enter Tryd.func48, Tryd.ntmps48
  go_wp2_with (go_at_call 73; refine (Calls.mono HC.out ?_); rintro e w1 ⟨sl, F, rfl, hown, hfr, hnd, hb⟩; rw [← hW] at hfr hb; obtain ⟨ao2, len2, cap2, rfl⟩ : ∃ ao2 len2 cap2, sl = .slice ao2 len2 cap2 := (by rcases hown with ⟨rfl, _⟩ | ⟨g, cap, cs, F', rfl, _⟩ <;> exact ⟨_, _, _, rfl⟩); obtain ⟨hb2, hb1⟩ := HK.out w1 hb; have HOWN : Hid (OwnS 46 w1 ks (.slice ao2 len2 cap2) F) := hown; have HFR : Hid (∀ f ∈ F, W.heap.size ≤ f) := hfr; have HBB : Hid (Below W.heap.size W w1) := hb; have y0 := blk_cell (i := 0) hb2 (by simp); have y1 := blk_cell (i := 1) hb2 (by simp); have y2 := blk_cell (i := 2) hb2 (by simp); have y3 := blk_cell (i := 3) hb2 (by simp); have z3 := blk_frozen hb2 3; have x0 := blk_cell (i := 0) hb1 (by simp); have x1 := blk_cell (i := 1) hb1 (by simp); have x2 := blk_cell (i := 2) hb1 (by simp); have x3 := blk_cell (i := 3) hb1 (by simp); have u0 := blk_frozen hb1 0; have u1 := blk_frozen hb1 1; have u2 := blk_frozen hb1 2; have u3 := blk_frozen hb1 3; simp only [List.getElem_toArray, List.getElem_cons_zero, List.getElem_cons_succ] at y0 y1 y2 y3 x0 x1 x2 x3; have H1 : Hid (w1.heap[w.heap.size + 1]? = some (.cells #[.int .i64 0, .string ⟨#[]⟩, .int .i64 0, .slice none 0 0] 46 (0, 0))) := hb1; clear hown hfr hb hb2 hb1)
  have hsz := HBB.out.size
  have hR : (((((w1.setCell ⟨w.heap.size, 3, none⟩ (.slice ao2 len2 cap2)).setCell ⟨w.heap.size + 1, 0, none⟩ (.int .i64 k)).setCell ⟨w.heap.size + 1, 1, none⟩ (.string s)).setCell ⟨w.heap.size + 1, 2, none⟩ (.int .i64 n)).setCell ⟨w.heap.size + 1, 3, none⟩ (.slice ao2 len2 cap2)).heap[w.heap.size + 1]? = some (.cells #[.int .i64 k, .string s, .int .i64 n, .slice ao2 len2 cap2] 46 (0, 0)) := by
    have := blk_set (i := 3) (blk_set (i := 2) (blk_set (i := 1) (blk_set (i := 0) ((blk_other (g := w.heap.size) (i := 3) (w := w1) (.slice ao2 len2 cap2) (show w.heap.size + 1 ≠ w.heap.size by omega)).trans H1.out) (.int .i64 k)) (.string s)) (.int .i64 n)) (.slice ao2 len2 cap2)
    simpa using this
  have hbl : Below w.heap.size w w1 := HBW.out.trans (HBB.out.mono HBW.out.size)
  refine bodyPost_ret_by (results_cell_row rfl _ _ (w.heap.size + 1) 46 _ (0, 0) _ rfl hR Tryd.underlying46 rfl (by kernel_rfl)) rfl ?_
  refine ⟨_, F, rfl, own_mk ?_ hk hn hs, ?_, hnd, ?_⟩
  · refine OwnS.keep HOWN.out fun f hf => ?_
    have := HFR.out f hf
    rw [blk_other _ (by omega), blk_other _ (by omega), blk_other _ (by omega), blk_other _ (by omega), blk_other _ (by omega)]
  · intro f hf
    have := HFR.out f hf
    omega
  · exact below_set (below_set (below_set (below_set (below_set hbl (by omega) _) (by omega) _) (by omega) _) (by omega) _) (by omega) _
end Go.Proofs.YtmhmlkdoaojimapDoor

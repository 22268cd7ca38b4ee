/- Four texts in one. -/
import Derived.Test.YtmhmlkdoaojimapGreatDoorMrg3
import Derived.Test.YtmhmlkdoaojimapGreatDoorMrg26
import Derived.Laws.AppendOwn
import Derived.Test.YtmhmlkdoaojimapGreatDoorMrg22
/- A row of clauses that grows by appends. Of no program. -/
namespace Go.Proofs.YtmhmlkdoaojimapGreatDoor
open Go.RowKit

/-- what was put together so far: a row of its own, and the terms in it in blocks of their own -/
def OutC (ec e : TypeId) (w : World) (B : Nat) (ks : List Cla) (v : Value) (F : List Nat) : Prop :=
  ∃ cs g, w.ownsRow B ec 9 v ks.length cs ∧ v.ownBlock = some g ∧ OwnCs e w ks cs F ∧ (∀ f ∈ F, B ≤ f) ∧ B ≤ g ∧ (g :: F).Nodup

theorem OutC.own {ec e : TypeId} {w : World} {B : Nat} {ks : List Cla} {v : Value} {F : List Nat} (h : OutC ec e w B ks v F) : ∃ F', OwnClS ec e w ks v F' ∧ (∀ f ∈ F', B ≤ f) ∧ F'.Nodup := by
  obtain ⟨cs, g, h1, h2, h3, h4, h5, h6⟩ := h
  refine ⟨g :: F, ?_, ?_, h6⟩
  · rcases h1.2 with ⟨rfl, _⟩ | ⟨g', cap, cur, rfl, hb, hh, hr⟩
    · cases h2
    · obtain rfl : g' = g := by simpa [Value.ownBlock] using h2
      exact Or.inr ⟨g', cap, cs, F, rfl, ⟨h1.1, Or.inr ⟨g', cap, cur, rfl, Nat.zero_le _, hh, hr⟩⟩, rfl, h3⟩
  · intro f hf
    rcases List.mem_cons.1 hf with rfl | hf
    · exact h5
    · exact h4 f hf

theorem OutC.lt {ec e : TypeId} {w : World} {B : Nat} {ks : List Cla} {v : Value} {F : List Nat} (h : OutC ec e w B ks v F) : (∀ f ∈ F, f < w.heap.size) ∧ ∀ g, v.ownBlock = some g → g < w.heap.size := by
  obtain ⟨cs, g, h1, h2, h3, h4, h5, h6⟩ := h
  exact ⟨OwnCs.lt _ _ _ h3, fun g hg => (h1.lt g hg).2⟩

theorem OutC.shape {ec e : TypeId} {w : World} {B : Nat} {ks : List Cla} {v : Value} {F : List Nat} (h : OutC ec e w B ks v F) : ∃ g cap, v = .slice (some ⟨g, 0, none⟩) ks.length cap ∧ B ≤ g ∧ g < w.heap.size ∧ ks.length ≤ cap ∧ cap ≤ maxLen := by
  obtain ⟨cs, g, h1, h2, h3, h4, h5, h6⟩ := h
  rcases h1.2 with ⟨rfl, _⟩ | ⟨g', cap, cur, rfl, hb, hh, hr, hm, _⟩
  · cases h2
  · exact ⟨g', cap, rfl, hb, (Array.getElem?_eq_some_iff.1 hh).1, hr, hm⟩

theorem OutC.keep {ec e : TypeId} {w w' : World} {B : Nat} {ks : List Cla} {v : Value} {F : List Nat} (h : OutC ec e w B ks v F) (hb : ∀ k, B ≤ k → k < w.heap.size → w'.heap[k]? = w.heap[k]?) : OutC ec e w' B ks v F := by
  have hlt := h.lt
  obtain ⟨cs, g, h1, h2, h3, h4, h5, h6⟩ := h
  refine ⟨cs, g, ?_, h2, OwnCs.keep _ _ _ h3 fun f hf => hb f (h4 f hf) (hlt.1 f hf), h4, h5, h6⟩
  rcases h1.2 with ⟨rfl, _⟩ | ⟨g', cap, cur, rfl, hb', hh, hr⟩
  · cases h2
  · exact ⟨h1.1, Or.inr ⟨g', cap, cur, rfl, hb', (hb g' hb' (Array.getElem?_eq_some_iff.1 hh).1).trans hh, hr⟩⟩

theorem outC_new {ec e : TypeId} {w : World} {B : Nat} (hB : B ≤ w.heap.size) (cap : Nat) (hc : cap ≤ maxLen) (M : Array Value) (hM : M.size = cap * 9) : OutC ec e (w.alloc (.cells M ec)) B [] (.slice (some ⟨w.heap.size, 0, none⟩) 0 cap) [] := by
  refine ⟨[], w.heap.size, ⟨by simp, Or.inr ⟨w.heap.size, cap, M, rfl, hB, heap_alloc_new w _, Nat.zero_le _, hc, hM, by simp⟩⟩, rfl, ⟨rfl, rfl⟩, by simp, hB, by simp⟩

/-- one more term behind it -/
theorem OutC.push {ec e : TypeId} {w1 w2 : World} {B : Nat} {ks : List Cla} {v v' : Value} {F F2 : List Nat} {t : Cla} {cc cs : List Value} {g : Nat}
    (h1 : w1.ownsRow B ec 9 v ks.length cs) (hg : v.ownBlock = some g) (hr : OwnCs e w1 ks cs F) (hF : ∀ f ∈ F, B ≤ f) (hBg : B ≤ g) (hnd : (g :: F).Nodup)
    (ht : OwnC e w1 t cc F2) (hF2 : ∀ f ∈ F2, B ≤ f) (hnd2 : F2.Nodup) (hdis : ∀ f ∈ F2, f ∉ g :: F)
    (hown : w2.ownsRow B ec 9 v' (ks.length + 1) (cs ++ cc)) (hgrow : w1.grownBy w2 v.ownBlock) (hat : v'.ownBlock = v.ownBlock ∨ v'.ownBlock = some w1.heap.size) :
    OutC ec e w2 B (ks ++ [t]) v' (F ++ F2) := by
  have hlt := OwnCs.lt _ _ _ hr
  have hlt2 := OwnC.lt ht
  have hglt := (h1.lt g hg).2
  rw [List.nodup_cons] at hnd
  have hk : ∀ f, f < w1.heap.size → f ≠ g → w2.heap[f]? = w1.heap[f]? := fun f hf hne => hgrow.block f hf (by rw [hg]; intro e; exact hne (by simpa using e))
  obtain ⟨g', hg', hgg⟩ : ∃ g', v'.ownBlock = some g' ∧ (g' = g ∨ g' = w1.heap.size) := by
    rcases hat with hat | hat
    · exact ⟨g, hat.trans hg, Or.inl rfl⟩
    · exact ⟨_, hat, Or.inr rfl⟩
  have hne : ∀ f ∈ F, f ≠ g := fun f hf e => hnd.1 (e ▸ hf)
  have hne2 : ∀ f ∈ F2, f ≠ g := fun f hf e => hdis f hf (by simp [e])
  refine ⟨cs ++ cc, g', by simpa using hown, hg', ?_, ?_, ?_, ?_⟩
  · exact OwnCs.snoc (OwnC.keep ht fun f hf => hk f (hlt2 f hf) (hne2 f hf)) _ _ _ (OwnCs.keep _ _ _ hr fun f hf => hk f (hlt f hf) (hne f hf))
  · intro f hf
    rcases List.mem_append.1 hf with hf | hf
    · exact hF f hf
    · exact hF2 f hf
  · rcases hgg with rfl | rfl
    · exact hBg
    · omega
  · refine List.nodup_cons.2 ⟨fun hf => ?_, List.nodup_append.2 ⟨hnd.2, hnd2, fun a ha b hb e => hdis b hb (by rw [← e]; simp [ha])⟩⟩
    rcases List.mem_append.1 hf with hf | hf
    · rcases hgg with rfl | rfl
      · exact hnd.1 hf
      · have := hlt _ hf; omega
    · rcases hgg with rfl | rfl
      · exact hne2 _ hf rfl
      · have := hlt2 _ hf; omega
end Go.Proofs.YtmhmlkdoaojimapGreatDoor

/- spec.l34Clauses. -/
namespace Go.Proofs.YtmhmlkdoaojimapGreatDoor
open Go.RowKit

set_option maxHeartbeats 4000000 in
set_option maxRecDepth 20000 in
theorem l34_clauses (ks : List Cla) (w : World) (sl : Value) (hlen : ks.length + claWts ks ≤ 1100000) (h : ClsIn w ks sl) :
    Calls Tryz.prog 37 #[sl] w fun e w' => ∃ sl F, e = .returned sl ∧ OwnClS 43 41 w' ks sl F ∧ (∀ f ∈ F, w.heap.size ≤ f) ∧ F.Nodup ∧ Below w.heap.size w w' := by
  obtain ⟨ao, cap, rfl, hcap, hmax, h⟩ := h
  clear hcap hmax
  obtain ⟨i0, hi, hz0, hz1, hz2⟩ := info_parts infoC
  go_enter Tryz.func37, Tryz.ntmps37
  go_wp2
  go_loopw [3, 4] (fun vo vi wr => ∃ (j : Nat) (F : List Nat) (v : Value), j ≤ ks.length ∧ vi = .int .i64 (j : Int) ∧ v = vo ∧ Hid (Below w.heap.size w wr) ∧ Hid (OutC 43 41 wr w.heap.size (ks.take j) v F)) (fun _ i _ => ks.length - (intOf i).toNat)
  case atStart =>
    exact ⟨0, [], _, by omega, rfl, rfl, (Below.refl _ _).alloc (Nat.le_refl _) _, outC_new (Nat.le_refl _) 0 (Nat.zero_le _) _ rfl⟩
  case round =>
    obtain ⟨j, F, vo, hj, rfl, rfl, HB, HO⟩ := hrel
    by_cases hlt : j < ks.length
    · obtain ⟨b, off, rfl, hin⟩ := h (by intro e; subst e; simp at hlt)
      obtain ⟨k1, s1, n1, a1, l1, m1, k2, s2, n2, a2, l2, m2, h0, h1, h2, h3, h4, h5, h6, h7, h8, hf, i1, i2⟩ := (hin j hlt).keep HB.out
      have hwj := claWt_le (List.getElem_mem hlt)
      have HC : Hid _ := l34_clauseB ks[j].h ks[j].b ks[j].f wr k1 s1 n1 a1 l1 m1 k2 s2 n2 a2 l2 m2 i1 i2 (by unfold Cla.wt at hwj; omega) (by unfold Cla.wt at hwj; omega)
      have HSF : Hid (ks[j].f.size ≤ maxLen) := hf
      have HTK : Hid (ks.take (j + 1) = ks.take j ++ [ks[j]]) := List.take_succ_eq_append_getElem hlt
      obtain ⟨g, cp, rfl, hBg, hgl, _, _⟩ := OutC.shape HO.out
      have hl : (ks.take j).length = j := by rw [List.length_take]; omega
      rw [hl]
      have HK : Hid (∀ w1, Below wr.heap.size wr w1 → ∃ cs, w1.ownsRow w.heap.size 43 9 (.slice (some ⟨g, 0, none⟩) j cp) j cs ∧ OwnCs 41 w1 (ks.take j) cs F ∧ (∀ f ∈ F, w.heap.size ≤ f) ∧ (g :: F).Nodup ∧ (∀ f ∈ g :: F, f < wr.heap.size)) := fun w1 hb => by
        have hlt' := OutC.lt HO.out
        obtain ⟨cs, g', q1, q2, q3, q4, q5, q6⟩ := OutC.keep HO.out fun k _ hk => hb.block k hk
        obtain rfl : g = g' := by simpa [Value.ownBlock] using q2
        rw [hl] at q1
        refine ⟨cs, q1, q3, q4, q6, fun f hf => ?_⟩
        rcases List.mem_cons.1 hf with rfl | hf
        · exact hlt'.2 _ rfl
        · exact hlt'.1 f hf
      have hszw := HB.out.size
      have HLJ : Hid ((ks.take j).length = j) := hl
      clear hin i1 i2 h hf hl hwj
      generalize ks[j] = kj at *
      obtain ⟨kh, kb, kf⟩ := kj
      simp only at h8 HC HSF
      go_wp2_with (first
        | (go_at_call 52; refine (Calls.mono HC.out ?_); rintro e w1 ⟨k, s, n, ao, l, c, k', s', n', ao', l', c', F1, F2, rfl, o1, o2, f1, f2, nd1, nd2, ap, hb⟩; have HOWN : Hid (OwnC 41 w1 ⟨kh, kb, kf⟩ [.int .i64 k, .string s, .int .i64 n, .slice ao l c, .int .i64 k', .string s', .int .i64 n', .slice ao' l' c', .string kf] (F1 ++ F2)) := ⟨k, s, n, ao, l, c, k', s', n', ao', l', c', F1, F2, rfl, rfl, HSF.out, o1, o2⟩; have HFR : Hid (∀ f ∈ F1 ++ F2, wr.heap.size ≤ f) := (fun x hx => (List.mem_append.1 hx).elim (f1 x) (f2 x)); have HND : Hid ((F1 ++ F2).Nodup) := List.nodup_append.2 ⟨nd1, nd2, fun a ha b hb e => ap b hb (e ▸ ha)⟩; have HBB : Hid (Below wr.heap.size wr w1) := hb; have hsz1 := hb.size; obtain ⟨cs, q1, q3, q4, q6, q7⟩ := HK.out w1 hb; have Q1 : Hid (w1.ownsRow w.heap.size 43 9 (.slice (some ⟨g, 0, none⟩) j cp) j cs) := q1; have Q3 : Hid (OwnCs 41 w1 (ks.take j) cs F) := q3; have Q4 : Hid (∀ f ∈ F, w.heap.size ≤ f) := q4; have Q6 : Hid ((g :: F).Nodup) := q6; have Q7 : Hid (∀ f ∈ g :: F, f < wr.heap.size) := q7; clear q1 q3 q4 q6 q7 o1 o2 f1 f2 nd1 nd2 ap hb)
        | (at_builtin; go_loud (refine wpList_append_own_at _ rfl _ _ 33 rfl w.heap.size 43 i0 (.agg #[.int .i64 0, .string ⟨#[]⟩, .int .i64 0, .slice none 0 0, .int .i64 0, .string ⟨#[]⟩, .int .i64 0, .slice none 0 0, .string ⟨#[]⟩]) 9 128 Tryz.underlying33 hi hz0 hz1 hz2 rfl (by decide) _ _ _ rfl (Q1.out.alloc _) ⟨w1.heap.size, 0, none⟩ 1 1 [.int .i64 k, .string s, .int .i64 n, .slice ao l c, .int .i64 k', .string s', .int .i64 n', .slice ao' l' c', .string kf] rfl rfl ?c1 ?c2 ?c3 ?c4 ?c5 ?_)))
      case c1 =>
        intro j z hj
        match j, hj with
        | 0, hj => simp at hj; subst hj; simp [Addr.add]
        | 1, hj => simp at hj; subst hj; simp [Addr.add]
        | 2, hj => simp at hj; subst hj; simp [Addr.add]
        | 3, hj => simp at hj; subst hj; simp [Addr.add]
        | 4, hj => simp at hj; subst hj; simp [Addr.add]
        | 5, hj => simp at hj; subst hj; simp [Addr.add]
        | 6, hj => simp at hj; subst hj; simp [Addr.add]
        | 7, hj => simp at hj; subst hj; simp [Addr.add]
        | 8, hj => simp at hj; subst hj; simp [Addr.add]
      case c2 => intro z hz; simp at hz; rcases hz with rfl | rfl | rfl | rfl | rfl | rfl | rfl | rfl | rfl <;> rfl
      case c3 => unfold maxLen; omega
      case c4 => omega
      case c5 => simp; omega
      · intro v' w2 hown' hgrow _ hat
        obtain ⟨W, hW⟩ : ∃ W, W = w1.alloc (.cells #[.int .i64 k, .string s, .int .i64 n, .slice ao l c, .int .i64 k', .string s', .int .i64 n', .slice ao' l' c', .string kf] 43) := ⟨_, rfl⟩
        rw [← hW] at hgrow
        rw [show w1.heap.size + 1 = W.heap.size by rw [hW]; simp] at hat
        have bW : Below w1.heap.size w1 W := by rw [hW]; exact (Below.refl _ _).alloc (Nat.le_refl _) _
        have HFIN : Hid (OutC 43 41 w2 w.heap.size (ks.take (j + 1)) v' (F ++ (F1 ++ F2))) := by
          have q7 := Q7.out
          rw [HTK.out]
          refine OutC.push (w1 := W) (g := g) (cs := cs) ?_ rfl (OwnCs.keep _ _ _ Q3.out fun f hf => bW.block f (OwnCs.lt _ _ _ Q3.out f hf)) Q4.out hBg Q6.out (OwnC.keep HOWN.out fun f hf => bW.block f (OwnC.lt HOWN.out f hf)) (fun f hf => by have := HFR.out f hf; omega) HND.out (fun f hf h' => by have := HFR.out f hf; have := q7 f h'; omega) ?_ hgrow hat
          · rw [HLJ.out, hW]; exact World.ownsRow.alloc Q1.out _
          · rw [HLJ.out]; exact hown'
        have HBN : Hid (Below w.heap.size w w2) := by
          have b1 : Below w.heap.size w W := (HB.out.trans (HBB.out.mono hszw)).trans (bW.mono (by omega))
          refine ⟨hgrow.os.trans b1.os, hgrow.tape.trans b1.tape, hgrow.output.trans b1.output, Nat.le_trans b1.size hgrow.size, fun k hk => ?_⟩
          rw [hgrow.block k (Nat.lt_of_lt_of_le hk b1.size) (by intro e; have : k = g := by simpa [Value.ownBlock] using e
                                                                omega)]
          exact b1.block k hk
        clear hown' hgrow hat Q1 Q3 Q4 Q6 Q7 HOWN HFR HND HBB bW hW
        go_wp2
        go_roundw
        case rel => exact ⟨j + 1, _, _, by omega, by go_num, rfl, HBN.out, HFIN.out⟩
        case measure => simp [intOf]; omega
    · have HE : Hid (OutC 43 41 wr w.heap.size ks vo F) := by
        have := HO.out
        rw [List.take_of_length_le (by omega)] at this
        exact this
      obtain ⟨g, cp, rfl, _⟩ := OutC.shape HE.out
      clear HO
      go_wp2
      go_ret
      obtain ⟨F', q1, q2, q3⟩ := OutC.own HE.out
      exact ⟨_, F', rfl, q1, q2, q3, HB.out⟩
end Go.Proofs.YtmhmlkdoaojimapGreatDoor

/- spec.l34Db. -/
namespace Go.Proofs.YtmhmlkdoaojimapGreatDoor
open Go.RowKit

set_option maxHeartbeats 4000000 in
set_option maxRecDepth 20000 in
theorem l34_db (cs : List Cla) (xs : List ByteArray) (w : World) (c0 c1 : Value) (h : ClsIn w cs c0) (hx : SsIn w xs c1) (hl1 : cs.length + claWts cs ≤ 1100000) (hl2 : xs.length ≤ 1048576) :
    Calls Tryz.prog 19 #[.agg #[c0, c1]] w fun e w' => ∃ sl F g k, e = .returned (.agg #[sl, .slice (some ⟨g, 0, none⟩) xs.length k]) ∧ OwnClS 43 41 w' cs sl F ∧ w'.ownsRow 0 9 1 (.slice (some ⟨g, 0, none⟩) xs.length k) xs.length (xs.map Value.string) ∧
      (∀ f ∈ F, w.heap.size ≤ f) ∧ F.Nodup ∧ w.heap.size ≤ g ∧ g ∉ F ∧ Below w.heap.size w w' := by
  obtain ⟨W, hW⟩ : ∃ W, W = (w.alloc (.cells #[c0, c1] 35)).alloc (.cells #[.slice none 0 0, .slice none 0 0] 35) := ⟨_, rfl⟩
  have bW : Below w.heap.size w W := by rw [hW]; exact ((Below.refl _ _).alloc (Nat.le_refl _) _).alloc (by simp) _
  have lW : W.heap.size = w.heap.size + 2 := by rw [hW]; simp
  have k1' : W.heap[w.heap.size]? = some (.cells #[c0, c1] 35 (0, 0)) := by rw [hW]; exact (alloc_old _ _ (by simp)).trans (alloc_at _ _ rfl)
  have k2' : W.heap[w.heap.size + 1]? = some (.cells #[.slice none 0 0, .slice none 0 0] 35 (0, 0)) := by rw [hW]; exact alloc_at _ _ (by simp)
  have HC1 : Hid _ := l34_clauses cs W c0 hl1 (h.keep bW)
  have HC2 : Hid (∀ w1, Below w.heap.size w w1 → Calls Tryz.prog 38 #[c1] w1 fun e w' => ∃ v', e = .returned v' ∧ w'.ownsRow w1.heap.size 9 1 v' xs.length (xs.map Value.string) ∧ Below w1.heap.size w1 w' ∧ ∃ g c, v' = .slice (some ⟨g, 0, none⟩) xs.length c) := fun w1 hb => l34_strs xs w1 _ (hx.keep hb) hl2
  obtain ⟨a1, p1, rfl, -⟩ := h
  obtain ⟨a2, p2, rfl, -⟩ := hx
  have HBW : Hid (Below w.heap.size w W) := bW
  have HL : Hid (W.heap.size = w.heap.size + 2) := lW
  have HK1 : Hid (W.heap[w.heap.size]? = _) := k1'
  have HK2 : Hid (W.heap[w.heap.size + 1]? = _) := k2'
  clear bW lW k1' k2' hl1 hl2
  go_enter Tryz.func19, Tryz.ntmps19
  go_upto_region 1 with fail
  rw [← hW]
  clear hW
  obtain ⟨p, hp⟩ : ∃ p, p = w.heap.size := ⟨_, rfl⟩
  rw [← hp] at HL HK1 HK2 ⊢
  have HPP : Hid (p = w.heap.size) := hp
  clear hp
  have y0 := blk_cell (i := 0) HK1.out (by simp)
  go_upto_region 2 with (go_at_call 37; refine (Calls.mono HC1.out ?_); rintro e w1 ⟨sl, F, rfl, o, hf, nd, hb⟩; obtain ⟨a3, p3, rfl⟩ := ownClS_shape o; have HO1 : Hid (OwnClS _ _ _ _ _ _) := o; have HF1 : Hid ((∀ x ∈ F, p + 2 ≤ x) ∧ F.Nodup) := ⟨fun x hx => by have := hf x hx; have := HL.out; omega, nd⟩; have HB1 : Hid (Below W.heap.size W w1) := hb; have hk := (hb.block _ (Array.getElem?_eq_some_iff.1 HK1.out).1).trans HK1.out; have HKP : Hid _ := hk; clear o hf nd hb; clear y0; have z0 := blk_cell (i := 0) hk (by simp); have g0 := blk_frozen hk 0; clear hk)
  clear z0 g0
  obtain ⟨V1, hV1⟩ : ∃ V1, V1 = w1.setCell ⟨p, 0, none⟩ (.slice a3 cs.length p3) := ⟨_, rfl⟩
  rw [← hV1]
  have b1 : Below p w V1 := by rw [hV1]; exact below_set (by rw [HPP.out]; exact HBW.out.trans (HB1.out.mono HBW.out.size)) (by omega) _
  have hk1 : V1.heap[p]? = some (.cells #[.slice a3 cs.length p3, .slice a2 xs.length p2] 35 (0, 0)) := by rw [hV1]; simpa using blk_set (i := 0) HKP.out (.slice a3 cs.length p3)
  have hk2 : V1.heap[p + 1]? = some (.cells #[.slice none 0 0, .slice none 0 0] 35 (0, 0)) := by rw [hV1]; exact (blk_other _ (by omega)).trans ((HB1.out.block _ (Array.getElem?_eq_some_iff.1 HK2.out).1).trans HK2.out)
  have hs1 : V1.heap.size = w1.heap.size := by rw [hV1]; simp [World.setCell]
  have HOV : Hid (OwnClS 43 41 V1 cs (.slice a3 cs.length p3) F) := by rw [hV1]; exact OwnClS.keep HO1.out fun x hx => blk_other _ (by have := HF1.out.1 x hx; omega)
  have HS1 : Hid (∀ x ∈ F, x < V1.heap.size) := fun x hx => by rw [hs1]; exact OwnClS.lt HO1.out x hx
  have HB1V : Hid (Below w.heap.size w V1) := by show Below _ _ _; rw [← HPP.out]; exact b1
  have HP1 : Hid (p + 2 ≤ V1.heap.size) := by have := HB1.out.size; have := HL.out; show _ ≤ _; omega
  have HK4 : Hid (V1.heap[p]? = _ ∧ V1.heap[p + 1]? = _) := ⟨hk1, hk2⟩
  have HC3 : Hid _ := HC2.out V1 HB1V.out
  have y1 := blk_cell (i := 1) hk1 (by simp)
  clear hV1 b1 hs1 hk1 hk2 HKP HO1 HB1 HC1 HC2
  go_upto_region 3 with (go_at_call 38; refine (Calls.mono HC3.out ?_); rintro e w2 ⟨v', rfl, o, hb, G, k, rfl⟩; have HO2 : Hid (w2.ownsRow _ _ _ _ _ _) := o; have HB2 : Hid (Below V1.heap.size V1 w2) := hb; have hk := (hb.block _ (Array.getElem?_eq_some_iff.1 HK4.out.1).1).trans HK4.out.1; have HKP : Hid _ := hk; clear o hb; clear y1; have z0 := blk_cell (i := 1) hk (by simp); have g0 := blk_frozen hk 1; clear hk)
  clear z0 g0
  have HGG : Hid (V1.heap.size ≤ G) := by
    rcases HO2.out.2 with ⟨e, _⟩ | ⟨g', cap', cur', e, hg, _⟩
    · cases e
    · cases e; exact hg
  have HO3 : Hid (w2.ownsRow 0 9 1 (.slice (some ⟨G, 0, none⟩) xs.length k) xs.length (xs.map Value.string)) := by
    refine ⟨HO2.out.1, ?_⟩
    rcases HO2.out.2 with h | ⟨g', cap', cur', e, _, h⟩
    · exact Or.inl h
    · exact Or.inr ⟨g', cap', cur', e, Nat.zero_le _, h⟩
  obtain ⟨V2, hV2⟩ : ∃ V2, V2 = w2.setCell ⟨p, 1, none⟩ (.slice (some ⟨G, 0, none⟩) xs.length k) := ⟨_, rfl⟩
  rw [← hV2]
  have hk2 : V2.heap[p + 1]? = some (.cells #[.slice none 0 0, .slice none 0 0] 35 (0, 0)) := by rw [hV2]; exact (blk_other _ (by omega)).trans ((HB2.out.block _ (Array.getElem?_eq_some_iff.1 HK4.out.2).1).trans HK4.out.2)
  have hk3 : V2.heap[p]? = some (.cells #[.slice a3 cs.length p3, .slice (some ⟨G, 0, none⟩) xs.length k] 35 (0, 0)) := by rw [hV2]; simpa using blk_set (i := 1) HKP.out (.slice (some ⟨G, 0, none⟩) xs.length k)
  have HFIN : Hid (∀ V, V = (V2.setCell ⟨p + 1, 0, none⟩ (.slice a3 cs.length p3)).setCell ⟨p + 1, 1, none⟩ (.slice (some ⟨G, 0, none⟩) xs.length k) → V.heap[p + 1]? = some (.cells #[.slice a3 cs.length p3, .slice (some ⟨G, 0, none⟩) xs.length k] 35 (0, 0)) ∧
      OwnClS 43 41 V cs (.slice a3 cs.length p3) F ∧ V.ownsRow 0 9 1 (.slice (some ⟨G, 0, none⟩) xs.length k) xs.length (xs.map Value.string) ∧ (∀ f ∈ F, p ≤ f) ∧ F.Nodup ∧ p ≤ G ∧ G ∉ F ∧ Below p w V) := by
    rintro V rfl
    have hG := HGG.out
    have hP := HP1.out
    refine ⟨by simpa using blk_set (i := 1) (blk_set (i := 0) hk2 (.slice a3 cs.length p3)) (.slice (some ⟨G, 0, none⟩) xs.length k), OwnClS.keep HOV.out fun f hf => ?_, row_keep HO3.out ?_, fun f hf => by have := HF1.out.1 f hf; omega, HF1.out.2, by omega, fun hf => by have := HS1.out G hf; omega, ?_⟩
    · have h1 := HF1.out.1 f hf
      rw [blk_other _ (by omega), blk_other _ (by omega), hV2, blk_other _ (by omega)]
      exact HB2.out.block f (HS1.out f hf)
    · rw [blk_other _ (by omega), blk_other _ (by omega), hV2, blk_other _ (by omega)]
    · refine below_set (below_set ?_ (by omega) _) (by omega) _
      rw [hV2]
      refine below_set ?_ (by omega) _
      have := HB1V.out
      rw [← HPP.out] at this
      exact this.trans (HB2.out.mono (by omega))
  have y0 := blk_cell (i := 0) hk2 (by simp)
  have y1 := blk_cell (i := 1) hk2 (by simp)
  have f0 := blk_frozen hk2 0
  have f1 := blk_frozen hk2 1
  have z0 := blk_cell (i := 0) hk3 (by simp)
  have z1 := blk_cell (i := 1) hk3 (by simp)
  clear hk2 hk3 hV2 HKP HO2 HO3 HOV
  go_wp2
  obtain ⟨r1, r2⟩ := HFIN.out _ rfl
  refine bodyPost_ret_by (results_cell_row rfl _ _ (p + 1) 35 _ (0, 0) _ rfl r1 Tryz.underlying35 rfl (by kernel_rfl)) rfl ?_
  exact ⟨_, F, G, k, rfl, by simpa only [HPP.out] using r2⟩
end Go.Proofs.YtmhmlkdoaojimapGreatDoor

/- spec.Added. -/
namespace Go.Proofs.YtmhmlkdoaojimapGreatDoor
open Go.RowKit

set_option maxHeartbeats 8000000 in
set_option maxRecDepth 20000 in
theorem s_added (cs : List Cla) (xs : List ByteArray) (c : Cla) (w : World) (c0 c1 : Value) (k1 t1 n1 a1 l1 m1 k2 t2 n2 a2 l2 m2) (h : ClsIn w cs c0) (hx : SsIn w xs c1) (hf : c.f.size ≤ maxLen) (i1 : TmIn w c.h (.agg #[.int .i64 k1, .string t1, .int .i64 n1, .slice a1 l1 m1])) (i2 : TmIn w c.b (.agg #[.int .i64 k2, .string t2, .int .i64 n2, .slice a2 l2 m2]))
    (hl1 : cs.length + claWts cs + c.wt ≤ 1048576) (hl2 : xs.length + strWts xs ≤ 1048576) (kb : Bool) (hkb : kb = true ↔ ((∀ x ∈ cs ++ [c], okCl x = true) ∧ (cs ++ [c]).length ≤ 120 ∧ xs.length ≤ 40)) (R : List Cla) (hR : R = if kb then cs ++ [c] else cs) :
    Calls Tryz.prog 6 #[.agg #[c0, c1], .agg #[.int .i64 k1, .string t1, .int .i64 n1, .slice a1 l1 m1, .int .i64 k2, .string t2, .int .i64 n2, .slice a2 l2 m2, .string c.f]] w (DbOutB w R xs kb) := by
  obtain ⟨W, hW⟩ : ∃ W, W = ((w.alloc (.cells #[c0, c1] 35)).alloc (.cells #[.int .i64 k1, .string t1, .int .i64 n1, .slice a1 l1 m1, .int .i64 k2, .string t2, .int .i64 n2, .slice a2 l2 m2, .string c.f] 43)).alloc (.cells #[.slice none 0 0, .slice none 0 0] 35) := ⟨_, rfl⟩
  have bW : Below w.heap.size w W := by rw [hW]; exact (((Below.refl _ _).alloc (Nat.le_refl _) _).alloc (by simp) _).alloc (by simp; omega) _
  have lW : W.heap.size = w.heap.size + 3 := by rw [hW]; simp
  have q1 : W.heap[w.heap.size]? = some (.cells #[c0, c1] 35 (0, 0)) := by rw [hW]; exact (alloc_old _ _ (by simp; omega)).trans ((alloc_old _ _ (by simp)).trans (alloc_at _ _ rfl))
  have q2 : W.heap[w.heap.size + 1]? = some (.cells #[.int .i64 k1, .string t1, .int .i64 n1, .slice a1 l1 m1, .int .i64 k2, .string t2, .int .i64 n2, .slice a2 l2 m2, .string c.f] 43 (0, 0)) := by rw [hW]; exact (alloc_old _ _ (by simp)).trans (alloc_at _ _ (by simp))
  have q3 : W.heap[w.heap.size + 2]? = some (.cells #[.slice none 0 0, .slice none 0 0] 35 (0, 0)) := by rw [hW]; exact alloc_at _ _ (by simp)
  have hRl : R.length + claWts R ≤ 1100000 := by
    rw [hR]
    split
    · rw [claWts_append]; simp [claWts]; omega
    · omega
  have HC : Hid _ := s_addedRaw cs xs c W c0 c1 k1 t1 n1 a1 l1 m1 k2 t2 n2 a2 l2 m2 (h.keep bW) (hx.keep bW) hf (TmIn.keep bW _ _ i1) (TmIn.keep bW _ _ i2) hl1 hl2 kb hkb R hR
  have HL34 : Hid (∀ u sl ss, ClsIn u R sl → SsIn u xs ss → Calls Tryz.prog 19 #[.agg #[sl, ss]] u fun e w' => ∃ sl F g k, e = .returned (.agg #[sl, .slice (some ⟨g, 0, none⟩) xs.length k]) ∧ OwnClS 43 41 w' R sl F ∧ w'.ownsRow 0 9 1 (.slice (some ⟨g, 0, none⟩) xs.length k) xs.length (xs.map Value.string) ∧
      (∀ f ∈ F, u.heap.size ≤ f) ∧ F.Nodup ∧ u.heap.size ≤ g ∧ g ∉ F ∧ Below u.heap.size u w') := fun u sl ss h1 h2 => l34_db R xs u sl ss h1 h2 hRl (by omega)
  obtain ⟨d2, p2, rfl, -⟩ := hx
  obtain ⟨d1, p1, rfl, -⟩ := h
  have HBW : Hid (Below w.heap.size w W) := bW
  obtain ⟨p, hp⟩ : ∃ p, p = w.heap.size := ⟨_, rfl⟩
  rw [← hp] at q1 q2 q3 lW
  have HK : Hid (W.heap[p]? = _ ∧ W.heap[p + 1]? = _ ∧ W.heap[p + 2]? = _) := ⟨q1, q2, q3⟩
  have HPP : Hid (p = w.heap.size ∧ W.heap.size = p + 3) := ⟨hp, lW⟩
  have y0 := blk_cell (i := 0) q1 (by simp)
  have y1 := blk_cell (i := 1) q1 (by simp)
  obtain ⟨⟨x0, x1, x2, x3, x4, x5, x6, x7, x8⟩, _⟩ := blk9 q2
  clear hl1 hl2 hkb hR hRl hf i1 i2 bW lW q1 q2 q3
  go_enter Tryz.func6, Tryz.ntmps6
  go_upto_region 1 with fail
  rw [← hW, ← hp]
  clear hW hp
  go_upto_region 2 with (go_at_call 18; refine (Calls.mono HC.out ?_); rintro e w1 ⟨sl, ss, rfl, o1, o2, o3⟩; have HO : Hid (ClsIn w1 R sl ∧ SsIn w1 xs ss ∧ Below W.heap.size W w1) := ⟨o1, o2, o3⟩; obtain ⟨a3, p3, rfl, -⟩ := o1; obtain ⟨a4, p4, rfl, -⟩ := o2; clear o3)
  clear y0 y1 x0 x1 x2 x3 x4 x5 x6 x7 x8
  obtain ⟨W1, hW1⟩ : ∃ W1, W1 = w1.alloc (.cells #[.slice a3 R.length p3, .slice a4 xs.length p4] 35) := ⟨_, rfl⟩
  obtain ⟨q, hq⟩ : ∃ q, q = w1.heap.size := ⟨_, rfl⟩
  rw [← hW1, ← hq]
  have b1 : Below w1.heap.size w1 W1 := by rw [hW1]; exact (Below.refl _ _).alloc (Nat.le_refl _) _
  have kq : W1.heap[q]? = some (.cells #[.slice a3 R.length p3, .slice a4 xs.length p4] 35 (0, 0)) := by rw [hW1, hq]; exact heap_alloc_new _ _
  have hs1 := HO.out.2.2.size
  have hl := HPP.out.2
  have hbp : Below (p + 3) W W1 := (HO.out.2.2.mono (by omega)).trans (b1.mono (by omega))
  have HB1 : Hid (Below (p + 3) W W1 ∧ p + 3 ≤ W1.heap.size) := ⟨hbp, by have := b1.size; omega⟩
  have HC2 : Hid _ := HL34.out W1 _ _ (HO.out.1.keep b1) (HO.out.2.1.keep b1)
  have HKP : Hid (W1.heap[p + 2]? = some (.cells #[.slice none 0 0, .slice none 0 0] 35 (0, 0))) := (hbp.block _ (by omega)).trans HK.out.2.2
  have z0 := blk_cell (i := 0) kq (by simp)
  have z1 := blk_cell (i := 1) kq (by simp)
  clear hW1 hq b1 kq hbp hs1 hl HO HC HK HL34
  go_wp2_with (go_at_call 19; refine (Calls.mono HC2.out ?_); rintro e w2 ⟨sl, F, g, k, rfl, o1, o2, o3, o4, o5, o6, o7⟩; obtain ⟨a5, p5, rfl⟩ := ownClS_shape o1; have kp2 := (o7.block _ (Array.getElem?_eq_some_iff.1 HKP.out).1).trans HKP.out; have HKP2 : Hid (w2.heap[p + 2]? = _) := kp2; have HO2 : Hid (OwnClS 43 41 w2 R (.slice a5 R.length p5) F ∧ w2.ownsRow 0 9 1 (.slice (some ⟨g, 0, none⟩) xs.length k) xs.length (xs.map Value.string) ∧ (∀ f ∈ F, W1.heap.size ≤ f) ∧ F.Nodup ∧ W1.heap.size ≤ g ∧ g ∉ F ∧ Below W1.heap.size W1 w2) := ⟨o1, o2, o3, o4, o5, o6, o7⟩; clear o1 o2 o3 o4 o5 o6 o7; have y0 := blk_cell (i := 0) kp2 (by simp); have y1 := blk_cell (i := 1) kp2 (by simp); have f0 := blk_frozen kp2 0; have f1 := blk_frozen kp2 1; clear kp2)
  refine bodyPost_ret_by (results_ctx rfl _ _ (p + 2) 35 _ (0, 0) _ rfl (db_two HKP2.out) Tryz.underlying35 rfl (by kernel_rfl)) rfl ?_
  obtain ⟨o1, o2, o3, o4, o5, o6, o7⟩ := HO2.out
  obtain ⟨b1, b2⟩ := HB1.out
  have hpp := HPP.out.1
  have hbX : ∀ a b, Below w.heap.size w ((w2.setCell ⟨p + 2, 0, none⟩ a).setCell ⟨p + 2, 1, none⟩ b) := fun a b => below_set (below_set (HBW.out.trans ((b1.mono (by omega)).trans (o7.mono (by omega)))) (by omega) _) (by omega) _
  refine ⟨_, F, k, g, rfl, OwnClS.keep o1 fun f hf => ?_, row_keep o2 ?_, fun f hf => by have := o3 f hf; omega, o4, by omega, o6, hbX _ _⟩
  · have := o3 f hf
    rw [blk_other _ (by omega), blk_other _ (by omega)]
  · rw [blk_other _ (by omega), blk_other _ (by omega)]
end Go.Proofs.YtmhmlkdoaojimapGreatDoor

/- impl.SignsOf. -/
import Derived.Test.YtenmhpalpfppmaoGreatDoorSgX
import Derived.Test.YtenmhpalpfppmaoGreatDoorSgY
import Derived.Lib.OthersKept
import Derived.Laws.RangeAny
namespace Go.Proofs.YtenmhpalpfppmaoGreatDoor
open Go.RowKit

theorem take_sofar {t : ByteArray} {i : Nat} (h : i < t.size) : (takeTo t i).1 ++ sgs t (takeTo t i).2 = sgs t i ∧ Tg t (i + (Utf8.decode t i).2) (takeTo t i).2 ∧ (takeTo t i).1.length ≤ (takeTo t i).2 - i ∧ i < (takeTo t i).2 ∧ (takeTo t i).2 ≤ t.size := by
  obtain ⟨d1, d2, d3, d4⟩ := decode_end t i h
  unfold takeTo
  rw [at8_eq t i h]
  by_cases ha : t[i].toNat < 128
  · rw [if_pos ha, decode_ascii t i h ha]
    have he := stepAt_end h
    refine ⟨(sgs_step h).symm, tg_stepAt h, ?_, he⟩
    cases hh : (stepAt t i).1 with
    | none => simp
    | some x => simp; omega
  · rw [if_neg ha]
    refine ⟨high_run _ i d2 (fun k hk => ?_), ⟨Nat.le_refl _, d2, Or.inl fun j h1 h2 => by simp at h1 h2; omega⟩, by simp, by simp; omega, d2⟩
    by_cases hk0 : k = 0
    · subst hk0; rw [Nat.add_zero, at8_eq t i h]; omega
    · exact d4 k (by omega) hk

theorem SgRow.base {w : World} {B N : Nat} {L : List Sg} {v : Value} (h : SgRow w N L v) (hB : B ≤ N) : SgRow w B L v := by
  refine ⟨h.1, ?_⟩
  rcases h.2 with hn | ⟨g, cap, cur, e, h1, h2⟩
  · exact Or.inl hn
  · exact Or.inr ⟨g, cap, cur, e, by omega, h2⟩

theorem cell_keepS {w w' : World} {a : Addr} {x : Value} (h : w.cell? a = some x) (hb : Below w.heap.size w w') : w'.cell? a = some x := by
  have hlt : a.block < w.heap.size := by
    unfold World.cell? at h
    split at h
    · rename_i hb; exact (Array.getElem?_eq_some_iff.1 hb).1
    · cases h
  unfold World.cell? at *
  rw [hb.block _ hlt]
  exact h
theorem tabs_keep {a b : Nat} {w w' : World} (h : Lib.Utf8Tabs a b w) (hb : Below w.heap.size w w') : Lib.Utf8Tabs a b w' := by
  refine ⟨fun c hc => cell_keepS (h.1 c hc) hb, fun i hi => ⟨cell_keepS (h.2 i hi).1 hb, cell_keepS (h.2 i hi).2 hb⟩⟩

theorem at_oth {w : World} {k : Nat} {s : ByteArray} {p f : Nat} (h : f ≠ k) : (w.iterAt k s p).heap[f]? = w.heap[f]? := by
  show (w.heap.setIfInBounds k _)[f]? = _
  rw [Array.getElem?_setIfInBounds_ne (Ne.symm h)]
theorem SnAt.iter {N g : Nat} {t : ByteArray} {mv : Value} {w : World} {L : List Sg} {b k p : Nat} (h : SnAt N g t mv w L b) (hk : k < N) (hg : k ≠ g) : SnAt N g t mv (w.iterAt k t p) L b := by
  obtain ⟨vo, h1, h2, h3, h4⟩ := h
  refine ⟨vo, (at_oth (Ne.symm hg)).trans h1, h2.turn fun q hq => at_oth ?_, h3, by show N ≤ (w.heap.setIfInBounds k _).size; simpa using h4⟩
  rcases h2.2 with ⟨e2, _⟩ | ⟨g3, cap, cur, e2, hge, _⟩
  · rw [e2] at hq; cases hq
  · rw [e2] at hq; simp [Value.ownBlock] at hq; omega

/-- what stands on the way: the iterator in block B + 2 at pos, the signer in block B + 1, the map in block B -/
structure Way (w : World) (t : ByteArray) (wr : World) (pos : Nat) (L : List Sg) (b : Nat) : Prop where
  it : wr.heap[w.heap.size + 2]? = some (.stringIter t pos)
  sn : SnAt (w.heap.size + 3) (w.heap.size + 1) t (.map (some w.heap.size)) wr L b
  mp : MapIn wr w.heap.size
  be : Below w.heap.size w wr
  tg : Tg t pos b
  so : L ++ sgs t b = sgs t 0
  len : L.length ≤ b
theorem Way.next {w wr : World} {t : ByteArray} {pos b : Nat} {L : List Sg} (h : Way w t wr pos L b) (p : Nat) (htg : Tg t p b) : Way w t (wr.iterAt (w.heap.size + 2) t p) p L b where
  it := Lib.iterAt_heap wr _ t pos p h.it
  sn := h.sn.iter (by omega) (by omega)
  mp := (at_oth (by omega)).trans h.mp
  be := ⟨h.be.os, h.be.tape, h.be.output, by show _ ≤ (wr.heap.setIfInBounds _ _).size; simpa using h.be.size, fun k hk => (at_oth (by omega)).trans (h.be.block k hk)⟩
  tg := htg
  so := h.so
  len := h.len
theorem Way.took {w wr w2 : World} {t : ByteArray} {pos b : Nat} {L : List Sg} {p : Nat} (h : Way w t wr pos L b) (L' : List Sg) (e : Nat) (hs : SnAt (w.heap.size + 3) (w.heap.size + 1) t (.map (some w.heap.size)) w2 (L ++ L') e) (hf : Fr (w.heap.size + 3) (w.heap.size + 1) (wr.iterAt (w.heap.size + 2) t p) w2) (htg : Tg t p e) (hso : L' ++ sgs t e = sgs t b) (hlen : L'.length ≤ e - b) (hbe : b ≤ e) : Way w t w2 p (L ++ L') e where
  it := (hf.block _ (by omega) (by omega)).trans (Lib.iterAt_heap wr _ t pos p h.it)
  sn := hs
  mp := (hf.block _ (by omega) (by omega)).trans ((at_oth (by omega)).trans h.mp)
  be := ⟨hf.os.trans h.be.os, hf.tape.trans h.be.tape, hf.output.trans h.be.output, Nat.le_trans h.be.size (by have := hf.size; rw [show (wr.iterAt (w.heap.size + 2) t p).heap.size = wr.heap.size by show (wr.heap.setIfInBounds _ _).size = _; simp] at this; exact this), fun k hk => (hf.block k (by omega) (by omega)).trans ((at_oth (by omega)).trans (h.be.block k hk))⟩
  tg := htg
  so := by rw [List.append_assoc, hso]; exact h.so
  len := by have := h.len; simp; omega
theorem iter_pos {w wr : World} {t : ByteArray} {pos b : Nat} {L : List Sg} (h : Way w t wr pos L b) : wr.iterPos (w.heap.size + 2) = pos := by unfold World.iterPos; rw [h.it]

set_option maxHeartbeats 4000000 in
set_option maxRecDepth 20000 in
theorem impl_signs (t : ByteArray) (hs : (t.size : Int) ≤ 3000) (w : World) (hT : Lib.Utf8Tabs 3 4 w) :
    Calls Tryz.prog 68 #[.string t] w fun e w' => ∃ v, e = .returned (.tuple #[v, .bool true]) ∧ SgRow w' w.heap.size (sgs t 0) v ∧ Below w.heap.size w w' := by
  obtain ⟨ALL, hALL⟩ : ∃ ALL, ALL = sgs t 0 := ⟨_, rfl⟩
  rw [← hALL]
  have HA : Hid (ALL = sgs t 0) := hALL
  have HT : Hid (∀ w', Below w.heap.size w w' → Lib.Utf8Tabs 3 4 w') := fun w' h => tabs_keep hT h
  have HK := kinds_alone w
  clear hALL hT
  go_enter Tryz.func68, Tryz.ntmps68
  go_wp2_with (go_at_call 75; refine HK.mono ?_; rintro e w' ⟨rfl, rfl⟩)
  have HW0 : Hid (Way w t (((w.alloc (.map aloneE 8)).alloc (.cells #[.string t, .map (some w.heap.size), .slice none 0 0, .int .i64 0] 102)).iter t 0) 0 [] 0) := by
    obtain ⟨A1, hA1⟩ : ∃ A1, A1 = w.alloc (.map aloneE 8) := ⟨_, rfl⟩
    obtain ⟨A2, hA2⟩ : ∃ A2, A2 = A1.alloc (.cells #[.string t, .map (some w.heap.size), .slice none 0 0, .int .i64 0] 102) := ⟨_, rfl⟩
    rw [← hA1, ← hA2]
    have s1 : A1.heap.size = w.heap.size + 1 := by rw [hA1]; simp
    have s2 : A2.heap.size = w.heap.size + 2 := by rw [hA2]; simp [s1]
    have m0 : A1.heap[w.heap.size]? = some (.map aloneE 8) := by rw [hA1]; exact heap_alloc_new w _
    have g0 : A2.heap[w.heap.size + 1]? = some (.cells #[.string t, .map (some w.heap.size), .slice none 0 0, .int .i64 0] 102 (0, 0)) := by rw [hA2, ← s1]; exact heap_alloc_new A1 _
    have m1 : A2.heap[w.heap.size]? = some (.map aloneE 8) := by rw [hA2]; exact (heap_alloc_old _ _ (by omega)).trans m0
    have b1 : Below w.heap.size w A2 := by rw [hA2, hA1]; exact ((Below.refl _ _).alloc (Nat.le_refl _) _).alloc (by simp) _
    have i0 : (A2.iter t 0).heap[w.heap.size + 2]? = some (.stringIter t 0) := by rw [← s2]; exact World.iter_heap A2 t 0
    have old : ∀ k, k < w.heap.size + 2 → (A2.iter t 0).heap[k]? = A2.heap[k]? := fun k hk => heap_alloc_old A2 _ (by omega)
    have s3 : (A2.iter t 0).heap.size = w.heap.size + 3 := by show (A2.alloc _).heap.size = _; simp [s2]
    exact ⟨i0, ⟨.slice none 0 0, (old _ (by omega)).trans g0, SgRow.nil _ _, by omega, by omega⟩, (old _ (by omega)).trans m1, b1.alloc (by omega) _, ⟨Nat.le_refl _, Nat.zero_le _, Or.inl fun j h1 h2 => by omega⟩, rfl, Nat.le_refl _⟩
  go_loopw [5] (fun _ wr => ∃ (pos b : Nat) (L : List Sg), pos ≤ t.size ∧ Hid (Way w t wr pos L b)) (fun _ wr => t.size - wr.iterPos (w.heap.size + 2))
  case atStart => exact ⟨0, 0, [], Nat.zero_le _, HW0⟩
  case round =>
    obtain ⟨pos, b, L, hpos, HWY⟩ := hrel
    clear HW0 HK
    have hip : wr.iterPos (w.heap.size + 2) = pos := by unfold World.iterPos; rw [HWY.out.it]
    rw [hip]
    clear hip
    have hWsz := HWY.out.be.size
    have hWN := HWY.out.sn.cells.2.2.2.2.2
    by_cases hlt : pos < t.size
    · have hnx : ∀ ty, (Instr.next (.pointer (some ⟨w.heap.size + 2, 0, none⟩)) true ty).run Tryz.prog wr = _ := fun ty => Lib.run_next_any_at wr (w.heap.size + 2) t pos ty HWY.out.it hlt
      obtain ⟨d1, d2, d3, _⟩ := decode_end t pos hlt
      have hrl := decode_le t pos
      have hru : (t[pos].toNat < 128 ∧ ((Utf8.decode t pos).1 : Int) = (t[pos].toNat : Int)) ∨ (128 ≤ t[pos].toNat ∧ 128 ≤ ((Utf8.decode t pos).1 : Int) ∧ ((Utf8.decode t pos).1 : Int) ≤ 2147483647) := by
        by_cases ha : t[pos].toNat < 128
        · left; rw [decode_ascii t pos hlt ha]; exact ⟨ha, rfl⟩
        · right; have := decode_high t pos hlt (by omega); omega
      have HRU : Hid _ := hru
      by_cases hb : pos < b
      · have HN : Hid _ := HWY.out.next (pos + (Utf8.decode t pos).2) (HWY.out.tg.step hb)
        have HC : Hid _ := HN.out.sn.cells
        obtain ⟨_, _, c3, _, _, _⟩ := HC.out
        clear HRU hru HC
        generalize (Utf8.decode t pos).1 = R at *
        generalize (Utf8.decode t pos).2 = WD at *
        go_wp2
        refine ⟨⟨pos + WD, b, L, d2, HN⟩, ?_⟩
        rw [iter_pos HN.out]; omega
      · obtain rfl : pos = b := by have := HWY.out.tg.1; omega
        obtain ⟨t1, t2, t3, t4, t5⟩ := take_sofar hlt
        have HTK : Hid (Calls Tryz.prog 76 #[.pointer (some ⟨w.heap.size + 1, 0, none⟩), .int .i64 (pos : Int), .int .i32 ((Utf8.decode t pos).1 : Int)] (wr.iterAt (w.heap.size + 2) t (pos + (Utf8.decode t pos).2)) (Res (w.heap.size + 3) (w.heap.size + 1) t (.map (some w.heap.size)) (L ++ (takeTo t pos).1) (takeTo t pos).2 (wr.iterAt (w.heap.size + 2) t (pos + (Utf8.decode t pos).2)))) := by
          refine take_any _ _ _ t L pos pos _ _ (HWY.out.sn.iter (by omega) (by omega)) ((at_oth (by omega)).trans HWY.out.mp) hs (by have := HWY.out.len; omega) hlt (fun w' hf => HT.out w' ?_) HRU.out
          have h := HWY.out
          exact ⟨hf.os.trans h.be.os, hf.tape.trans h.be.tape, hf.output.trans h.be.output, Nat.le_trans h.be.size (by have := hf.size; rw [show (wr.iterAt (w.heap.size + 2) t (pos + (Utf8.decode t pos).2)).heap.size = wr.heap.size by show (wr.heap.setIfInBounds _ _).size = _; simp] at this; exact this), fun k hk => (hf.block k (by omega) (by omega)).trans ((at_oth (by omega)).trans (h.be.block k hk))⟩
        have HFIN : Hid (∀ w2, SnAt (w.heap.size + 3) (w.heap.size + 1) t (.map (some w.heap.size)) w2 (L ++ (takeTo t pos).1) (takeTo t pos).2 → Fr (w.heap.size + 3) (w.heap.size + 1) (wr.iterAt (w.heap.size + 2) t (pos + (Utf8.decode t pos).2)) w2 → Way w t w2 (pos + (Utf8.decode t pos).2) (L ++ (takeTo t pos).1) (takeTo t pos).2) := fun w2 h1 h2 => HWY.out.took _ _ h1 h2 t2 t1 t3 (by omega)
        have HC : Hid _ := (HWY.out.sn.iter (p := pos + (Utf8.decode t pos).2) (show w.heap.size + 2 < w.heap.size + 3 by omega) (by omega)).cells
        obtain ⟨_, _, c3, _, _, _⟩ := HC.out
        clear HRU hru HC t1 t2 t3 t4 t5
        generalize (Utf8.decode t pos).1 = R at *
        generalize (Utf8.decode t pos).2 = WD at *
        generalize (takeTo t pos).1 = TL at *
        generalize (takeTo t pos).2 = TE at *
        go_wp2_with (go_at_call 76; go_loud (refine (Calls.mono HTK.out ?_)); rintro e w2 ⟨⟨x, rfl⟩, hs2, hf2⟩; have HW2 : Hid (Way w t w2 (pos + WD) (L ++ TL) TE) := HFIN.out w2 hs2 hf2; clear hs2 hf2)
        refine ⟨⟨pos + WD, TE, L ++ TL, d2, HW2⟩, ?_⟩
        rw [iter_pos HW2.out]; omega
    · have hnx : ∀ ty, (Instr.next (.pointer (some ⟨w.heap.size + 2, 0, none⟩)) true ty).run Tryz.prog wr = _ := fun ty => Lib.run_next_end_at wr (w.heap.size + 2) t pos ty HWY.out.it hlt
      have hL : L = ALL := by
        have h1 := HWY.out.so
        have h2 := HWY.out.tg
        rw [sgs_end (i := b) (by have := h2.1; omega), List.append_nil] at h1
        rw [h1, ← HA.out]
      subst hL
      obtain ⟨vo, hg, hrow, _, _⟩ := HWY.out.sn
      obtain ⟨ao, cp, rfl, _, _⟩ := hrow.shape
      obtain ⟨c0, c1, c2, c3, _⟩ := b4 hg
      have HROW : Hid (SgRow wr (w.heap.size + 3) L (.slice ao L.length cp)) := hrow
      clear hrow hg
      go_wp2
      go_ret2
      exact ⟨_, rfl, HROW.out.base (by omega), HWY.out.be⟩
end Go.Proofs.YtenmhpalpfppmaoGreatDoor

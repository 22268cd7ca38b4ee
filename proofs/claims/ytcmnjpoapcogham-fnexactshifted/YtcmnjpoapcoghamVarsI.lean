/- impl.VarsOf: the numbers of a term, each once, in order. -/
import Derived.Test.YtcmnjpoapcoghamVarsV
import Derived.Test.YtcmnjpoapcoghamMrg4
import Derived.Test.YtcmnjpoapcoghamInfoSl
import Derived.BigQuiet
import Derived.Deep.RegionWith
import Derived.Deep.DeepCutAuto
namespace Go.Proofs.Ytcmnjpoapcogham
open Go.RowKit

def QV (W0 : World) (X : List Nat) (mT g wb0 : Nat) (FIN : List Int) (wr : World) (vn vw : Value) (N : Nat) : Prop := ∃ mo D out L, VI W0 X mT g wb0 FIN wr vn vw mo D out [] [] L ∧ 2 * ns (flat L) + L.length = N ∧ N ≤ 4194304

theorem VI.way_into {W0 : World} {X : List Nat} {mT g wb0 : Nat} {FIN : List Int} {wr w1 : World} {vn vw : Value} {mo : Option Nat} {D : List Nat} {out : List Int} {pre : List Tm} {PR : List Row} {L : List Lv} (h : VI W0 X mT g wb0 FIN wr vn vw mo D out pre PR L) (ho : Out (metC g mo) wr w1) : w1.ownsRow 0 26 1 vw L.length (L.map Lv.sl) := by
  refine row_turn0 h.way fun b hb => ho.block b (row_lt0 h.way hb) fun hf => ?_
  obtain ⟨z, hz, hz2, _⟩ := h.wb
  rw [hz] at hb
  injection hb with hb
  rcases mem_metC hf with e | e
  · rcases hz2 with e2 | e2
    · exact h.dis.2.2.1 (by rw [← e, ← hb, e2])
    · have := h.dis.2.2.2.2.1; omega
  · exact (h.mos b e).2.2 (by rw [hz, hb])

theorem flat_snoc' (L : List Lv) (r : List Tm) (sl : Value) (R : List Row) : flat (L ++ [⟨r, sl, R⟩]) = r ++ flat L := flat_snoc L _

theorem NumRow.shape {w : World} {B : Nat} {out : List Int} {v : Value} (h : NumRow w B out v) : ∃ a c, v = .slice a out.length c := by
  obtain ⟨a, c, rfl, _⟩ := h.open
  exact ⟨a, c, rfl⟩

/-- what stands at first -/
theorem vi_start (t : Tm) (w W0 : World) (k : Int) (s : ByteArray) (n : Int) (ao : Option Addr) (len cap : Nat) (F : List Nat) (hown : Own 28 w t (.agg #[.int .i64 k, .string s, .int .i64 n, .slice ao len cap]) F) (hnd : F.Nodup) (hwt : t.wt ≤ 1048576)
    (hW0 : W0 = ((((w.alloc (.cells #[.int .i64 k, .string s, .int .i64 n, .slice ao len cap] 28)).alloc (.map #[] 0)).alloc (.cells #[.int .i64 0, .map none] 108)).alloc (.cells #[.int .i64 k, .string s, .int .i64 n, .slice ao len cap] 28)).alloc (.cells #[.slice (some ⟨w.heap.size + 3, 0, none⟩) 1 1] 26)) :
    Below w.heap.size w W0 ∧ W0.heap.size = w.heap.size + 5 ∧ QV W0 [w.heap.size + 1, w.heap.size + 2, w.heap.size + 4] (w.heap.size + 1) (w.heap.size + 2) (w.heap.size + 4) (t.vars []) W0 (.slice none 0 0) (.slice (some ⟨w.heap.size + 4, 0, none⟩) 1 1) (2 * t.n + 1) := by
  have hb : Below w.heap.size w W0 := by rw [hW0]; exact (((((Below.refl _ _).alloc (Nat.le_refl _) _).alloc (by simp) _).alloc (by simp; omega) _).alloc (by simp; omega) _).alloc (by simp; omega) _
  have hs : W0.heap.size = w.heap.size + 5 := by rw [hW0]; simp
  refine ⟨hb, hs, ?_⟩
  obtain ⟨R, hsrc, hsub⟩ := own_src _ _ _ hown
  have hlt := Own.lt _ _ _ hown
  have hsW : Src 28 W0 t (.agg #[.int .i64 k, .string s, .int .i64 n, .slice ao len cap]) R := Src.keep _ _ _ hsrc fun r hr => hb.block _ (hlt _ (hsub.subset (List.mem_map_of_mem hr)))
  have k1 : W0.heap[w.heap.size + 1]? = some (.map #[] 0) := by rw [hW0]; exact (alloc_old _ _ (by simp)).trans ((alloc_old _ _ (by simp)).trans ((alloc_old _ _ (by simp)).trans (alloc_at _ _ (by simp))))
  have k2 : W0.heap[w.heap.size + 2]? = some (.cells #[.int .i64 0, .map none] 108 (0, 0)) := by rw [hW0]; exact (alloc_old _ _ (by simp)).trans ((alloc_old _ _ (by simp)).trans (alloc_at _ _ (by simp)))
  have k3 : W0.heap[w.heap.size + 3]? = some (.cells #[.int .i64 k, .string s, .int .i64 n, .slice ao len cap] 28 (0, 0)) := by rw [hW0]; exact (alloc_old _ _ (by simp)).trans (alloc_at _ _ (by simp))
  have k4 : W0.heap[w.heap.size + 4]? = some (.cells #[.slice (some ⟨w.heap.size + 3, 0, none⟩) 1 1] 26 (0, 0)) := by rw [hW0]; exact alloc_at _ _ (by simp)
  have hsr : SrcRow 28 W0 [t] [.int .i64 k, .string s, .int .i64 n, .slice ao len cap] R := by
    unfold SrcRow
    exact ⟨_, _, _, _, [], R, [], rfl, by simp, hsW, by unfold SrcRow; exact ⟨rfl, rfl⟩⟩
  have hRlt : ∀ r ∈ R, r.1 < w.heap.size := fun r hr => hlt _ (hsub.subset (List.mem_map_of_mem hr))
  refine ⟨none, [], [], [⟨[t], .slice (some ⟨w.heap.size + 3, 0, none⟩) 1 1, R⟩], ⟨rfl, by omega, Out.refl _ _, ⟨⟨rfl, Or.inl ⟨rfl, rfl⟩⟩, by simp⟩, ⟨#[], 0, k1, by simp, by simp⟩, ⟨⟨0, by omega, k2⟩, fun m hm => (by cases hm)⟩, fun m hm => (by cases hm), ?_, ⟨w.heap.size + 4, rfl, Or.inl rfl, by simp [Value.ownBlock]⟩, fun l hl => ?_, ?_, fun r hr => ?_, fun d hd => (by cases hd), by simp [flat, varsL, Tm.vars.varsL], ?_⟩, by simp [flat, ns, Tm.n.ns], by have := n_le_wt t; omega⟩
  · exact ⟨rfl, Or.inr ⟨w.heap.size + 4, 1, #[.slice (some ⟨w.heap.size + 3, 0, none⟩) 1 1], rfl, Nat.zero_le _, k4, Nat.le_refl _, by unfold maxLen; omega, rfl, rfl⟩⟩
  · rw [List.mem_singleton] at hl
    subst hl
    refine ⟨some ⟨w.heap.size + 3, 0, none⟩, 1, rfl, Nat.le_refl _, by unfold maxLen; omega, fun h => (by cases h), fun _ => ⟨w.heap.size + 3, 0, _, rfl, hsr, by simp, by omega, fun i hi => ?_⟩⟩
    unfold World.cell?
    rw [k3, Nat.zero_add]
    simp
  · simpa using hsub.nodup hnd
  · have hr' : r ∈ R := by simpa using hr
    have := hRlt r hr'
    exact ⟨(Src.rows t _ R hsW).1 r hr', by simp; omega⟩
  · have := n_le_wt t
    simp only [flat, List.reverse_singleton, List.flatMap_cons, List.flatMap_nil, List.append_nil, List.nil_append, ns, Tm.n.ns, List.length_nil]
    omega

set_option maxHeartbeats 8000000 in
set_option maxRecDepth 20000 in
theorem impl_vars (t : Tm) (w : World) (v : Value) (F : List Nat) (hown : Own 28 w t v F) (hnd : F.Nodup) (hwt : t.wt ≤ 1048576) :
    Calls Try.prog 59 #[v] w fun e w' => ∃ vo, e = .returned vo ∧ NumRow w' w.heap.size (t.vars []) vo ∧ Below w.heap.size w w' := by
  obtain ⟨k, s, n, ao, len, cap, rfl⟩ := own_shape hown
  obtain ⟨W0, hW0⟩ : ∃ W0, W0 = ((((w.alloc (.cells #[.int .i64 k, .string s, .int .i64 n, .slice ao len cap] 28)).alloc (.map #[] 0)).alloc (.cells #[.int .i64 0, .map none] 108)).alloc (.cells #[.int .i64 k, .string s, .int .i64 n, .slice ao len cap] 28)).alloc (.cells #[.slice (some ⟨w.heap.size + 1 + 1 + 1, 0, none⟩) 1 1] 26) := ⟨_, rfl⟩
  obtain ⟨hb0, hs0, hq0⟩ := vi_start t w W0 k s n ao len cap F hown hnd hwt hW0
  have hmm := @run_makeMap Try.prog
  have HB0 : Hid (Below w.heap.size w W0) := hb0
  have HQ0 : Hid _ := hq0
  obtain ⟨FIN, hFIN⟩ : ∃ FIN, FIN = t.vars [] := ⟨_, rfl⟩
  rw [← hFIN] at HQ0 ⊢
  clear hown hnd hwt hb0 hq0 hFIN
  go_enter Try.func59, Try.ntmps59
  go_wp2
  rw [← hW0]
  clear hW0 hmm
  have HDX : Hid (∀ mT g wb0 : Nat, mT = w.heap.size + 1 → g = w.heap.size + 1 + 1 → wb0 = w.heap.size + 1 + 1 + 1 + 1 → QV W0 [mT, g, wb0] mT g wb0 FIN W0 (.slice none 0 0) (.slice (some ⟨wb0, 0, none⟩) 1 1) (2 * t.n + 1)) := fun mT g wb0 h1 h2 h3 => by rw [h1, h2, h3]; exact HQ0.out
  generalize hmT : w.heap.size + 1 = mT
  generalize hgg : mT + 1 = g
  generalize hb3 : g + 1 = b3
  generalize hwb : b3 + 1 = wb0
  have HQ : Hid (∃ N, QV W0 [mT, g, wb0] mT g wb0 FIN W0 (.slice none 0 0) (.slice (some ⟨wb0, 0, none⟩) 1 1) N) := ⟨_, HDX.out mT g wb0 (by omega) (by omega) (by omega)⟩
  have HSB : Hid (W0.heap.size = w.heap.size + 5 ∧ mT = w.heap.size + 1 ∧ g = w.heap.size + 2 ∧ b3 = w.heap.size + 3 ∧ wb0 = w.heap.size + 4) := by
    refine ⟨hs0, ?_, ?_, ?_, ?_⟩ <;> omega
  clear HDX HQ0 hs0 hmT hgg hb3 hwb
  obtain ⟨X, hX⟩ : ∃ X, X = [mT, g, wb0] := ⟨_, rfl⟩
  rw [← hX] at HQ
  clear hX
  go_loopw [3, 6] (fun vn vw wr => ∃ a1 l1 c1 a2 l2 c2, vn = .slice a1 l1 c1 ∧ vw = .slice a2 l2 c2 ∧ Hid (∃ N, QV W0 X mT g wb0 FIN wr vn vw N)) (fun vn vw wr => least (QV W0 X mT g wb0 FIN wr vn vw))
  case atStart => exact ⟨_, _, _, _, _, _, rfl, rfl, HQ.out⟩
  case round =>
    obtain ⟨a1, l1, c1, a2, l2, c2, rfl, rfl, hrel⟩ := hrel
    obtain ⟨mo, D, out, L, hI, hN, hNM⟩ := least_is hrel.out
    have HNM : Hid (least (QV W0 X mT g wb0 FIN wr (.slice a1 l1 c1) (.slice a2 l2 c2)) ≤ 4194304) := hNM
    have HN : Hid (2 * ns (flat L) + L.length = least (QV W0 X mT g wb0 FIN wr (.slice a1 l1 c1) (.slice a2 l2 c2))) := hN
    have hl2 : l2 = L.length := by
      rcases hI.way.2 with ⟨h, h'⟩ | ⟨_, _, _, h, _⟩
      · cases h; exact h'.symm
      · cases h; rfl
    cases hL : L with
    | nil =>
      subst hL
      obtain rfl : l2 = 0 := hl2
      have HF : Hid (NumRow wr w.heap.size FIN (.slice a1 l1 c1) ∧ Below w.heap.size w wr) := by
        have h1 : out = FIN := by
          have := hI.sem
          simpa [flat, varsL, Tm.vars.varsL] using this
        have h2 := hI.row
        rw [h1] at h2
        obtain ⟨e1, e2, e3, e4, e5⟩ := HSB.out
        refine ⟨⟨⟨h2.1.1, ?_⟩, h2.2⟩, HB0.out.trans (hI.out'.below (fun f hf => ?_) HB0.out.size)⟩
        · rcases h2.1.2 with h | ⟨g', c, cur, e, h3, h4⟩
          · exact Or.inl h
          · exact Or.inr ⟨g', c, cur, e, by omega, h4⟩
        · have hx := hI.xs
          rw [hx] at hf
          simp at hf
          omega
      clear hI hN hNM hrel HN HNM
      go_wp2
      go_ret
      exact ⟨_, rfl, HF.out.1, HF.out.2⟩
    | cons o1 o2 =>
      have hne : L ≠ [] := by rw [hL]; simp
      clear hL
      obtain ⟨L', l, rfl⟩ : ∃ M p, L = M ++ [p] := ⟨L.dropLast, L.getLast hne, (List.dropLast_concat_getLast hne).symm⟩
      rw [List.length_append, List.length_singleton] at hl2
      subst hl2
      obtain ⟨z, rfl⟩ : ∃ z, a2 = some ⟨z, 0, none⟩ := by
        rcases hI.way.2 with ⟨h, h'⟩ | ⟨_, _, _, h, _⟩
        · cases h
        · simp at h; exact ⟨_, h.1⟩
      have hc2 : L'.length + 1 ≤ c2 ∧ c2 ≤ maxLen := by
        rcases hI.way.2 with ⟨h, h'⟩ | ⟨_, _, _, h, _, _, h1, h2, _⟩
        · cases h
        · simp at h; rw [← h.2] at h1 h2; simp at h1; exact ⟨h1, h2⟩
      obtain ⟨hc21, hc22⟩ := hc2
      unfold maxLen at hc22
      have hwc : wr.cell? ⟨z, L'.length, none⟩ = some l.sl := by
        have := hI.way.cells (g := z) rfl L'.length l.sl (by simp)
        rwa [Addr.add_lit, Nat.zero_add] at this
      have hwf : wr.frozen? ⟨z, L'.length, none⟩ = false := row_frozen (by simpa using hI.way) _
      obtain ⟨la, lc, hlsl, hlc1, hlc2, hlR, hlrow⟩ := (hI.lv l (by simp)).ok
      rw [hlsl] at hwc
      unfold maxLen at hlc2
      by_cases hr0 : l.r = []
      · have HP : Hid (VI W0 X mT g wb0 FIN wr (.slice a1 l1 c1) (.slice (some ⟨z, 0, none⟩) L'.length c2) mo D out [] [] L') := hI.pop hr0
        have HLT : Hid (2 * ns (flat L') + L'.length < least (QV W0 X mT g wb0 FIN wr (.slice a1 l1 c1) (.slice (some ⟨z, 0, none⟩) (L'.length + 1) c2)) ∧ 2 * ns (flat L') + L'.length ≤ 4194304) := by
          have h1 := HN.out
          have h2 := HNM.out
          rw [flat_snoc, hr0, List.length_append, List.length_singleton, List.nil_append] at h1
          exact ⟨by omega, by omega⟩
        rw [hr0] at hwc
        clear hI hN hNM hrel HN HNM hlrow hlR hlsl
        go_wp2
        go_roundw
        case rel => exact ⟨_, _, _, _, _, _, rfl, rfl, _, _, _, _, _, HP.out, rfl, HLT.out.2⟩
        case measure => exact Nat.lt_of_le_of_lt (least_le ⟨_, _, _, _, HP.out, rfl, HLT.out.2⟩) HLT.out.1
      · obtain ⟨r, sl, R⟩ := l
        simp only at hlsl hlc1 hlR hlrow hwc hr0
        obtain ⟨t1, rest, rfl⟩ : ∃ t1 rest, r = t1 :: rest := by
          cases r with
          | nil => exact absurd rfl hr0
          | cons a b => exact ⟨a, b, rfl⟩
        obtain ⟨b, off, cs, rfl, hsr, hbX, hbl, hcell⟩ := hlrow hr0
        have hsr0 := hsr
        unfold SrcRow at hsr
        obtain ⟨d0, d1, d2, d3, cs', R1, R2, rfl, rfl, hs1, hs2⟩ := hsr
        obtain ⟨kt, st, nt, kst⟩ := t1
        have hs1' := hs1
        unfold Src at hs1
        obtain ⟨aot, capt, hvt, hkb, hnb, _, hs1⟩ := hs1
        obtain ⟨rfl, rfl, rfl, rfl⟩ : d0 = .int .i64 kt ∧ d1 = .string st ∧ d2 = .int .i64 nt ∧ d3 = .slice aot kst.length capt := by simpa using hvt
        have hce : ∀ i, i < 4 → wr.cell? ⟨b, off + i, none⟩ = ([Value.int .i64 kt, .string st, .int .i64 nt, .slice aot kst.length capt] : List Value)[i]? := fun i hi => by
          rw [World.cell?_of_block (hI.out'.block b hbl hbX), hcell i (by simp; omega)]
          match i, hi with
          | 0, _ => rfl
          | 1, _ => rfl
          | 2, _ => rfl
          | 3, _ => rfl
        have x0 : wr.cell? ⟨b, off, none⟩ = some (.int .i64 kt) := hce 0 (by omega)
        have x1 : wr.cell? ⟨b, off + 1, none⟩ = some (.string st) := hce 1 (by omega)
        have x2 : wr.cell? ⟨b, off + 2, none⟩ = some (.int .i64 nt) := hce 2 (by omega)
        have x3 : wr.cell? ⟨b, off + 3, none⟩ = some (.slice aot kst.length capt) := hce 3 (by omega)
        simp only [List.length_cons] at hwc hlc1
        have hzlt : z < wr.heap.size := row_lt0 hI.way rfl
        clear hce
        obtain ⟨sl1, hsl1⟩ : ∃ sl1, sl1 = Value.slice (if lc = 1 then some ⟨b, off, none⟩ else some ⟨b, off + 4, none⟩) rest.length (lc - 1) := ⟨_, rfl⟩
        have hlv : LvOk W0 X ⟨rest, sl1, R2⟩ := by
          refine ⟨_, lc - 1, hsl1, by show rest.length ≤ _; omega, by unfold maxLen; omega, fun h => ?_, fun h => ?_⟩
          · have h' : rest = [] := h
            rw [h'] at hs2
            unfold SrcRow at hs2
            exact hs2.2
          · have hl : 0 < rest.length := by
              cases rest with
              | nil => exact absurd rfl h
              | cons _ _ => simp
            refine ⟨b, off + 4, cs', ?_, hs2, hbX, hbl, fun i hi => ?_⟩
            · rw [if_neg (by omega)]
            · have := hcell (i + 4) (by simp; omega)
              rw [show off + (i + 4) = off + 4 + i by omega] at this
              rw [this]
              rfl
        obtain ⟨V, hV⟩ : ∃ V, V = (wr.setCell ⟨z, L'.length, none⟩ sl1).alloc (.cells #[.int .i64 kt, .string st, .int .i64 nt, .slice aot kst.length capt] 28) := ⟨_, rfl⟩
        have hsz0 : (wr.setCell ⟨z, L'.length, none⟩ sl1).heap.size = wr.heap.size := by simp [World.setCell]
        have hV1 : VI W0 X mT g wb0 FIN V (.slice a1 l1 c1) (.slice (some ⟨z, 0, none⟩) (L'.length + 1) c2) mo D out [.mk kt st nt kst] R1 (L' ++ [⟨rest, sl1, R2⟩]) := by
          have h1 := hI.take (sl1 := sl1) rfl hlv
          rw [hV]
          exact h1.below ((Below.refl _ _).alloc (Nat.le_refl _) _)
        have knx : V.heap[wr.heap.size]? = some (.cells #[.int .i64 kt, .string st, .int .i64 nt, .slice aot kst.length capt] 28 (0, 0)) := by
          rw [hV, ← hsz0]; exact heap_alloc_new _ _
        have HR1 : Hid (kst = [] → R1 = []) := fun h => by
          rcases hs1 with ⟨_, h2⟩ | ⟨_, _, _, h2, _⟩
          · exact h2
          · exact absurd h h2
        have hflat : ns (flat (L' ++ [⟨Tm.mk kt st nt kst :: rest, sl, R1 ++ R2⟩])) = 1 + ns kst + ns rest + ns (flat L') := by
          rw [flat_snoc', ns_append]
          simp only [ns, Tm.n.ns, n_mk]
        have HLT1 : Hid (kst = [] → 2 * ns (flat (L' ++ [⟨rest, sl1, R2⟩])) + (L' ++ [(⟨rest, sl1, R2⟩ : Lv)]).length < least (QV W0 X mT g wb0 FIN wr (.slice a1 l1 c1) (.slice (some ⟨z, 0, none⟩) (L'.length + 1) c2)) ∧ 2 * ns (flat (L' ++ [⟨rest, sl1, R2⟩])) + (L' ++ [(⟨rest, sl1, R2⟩ : Lv)]).length ≤ 4194304) := fun _ => by
          have h1 := HN.out
          have h2 := HNM.out
          rw [hflat, List.length_append, List.length_singleton] at h1
          rw [flat_snoc', ns_append, List.length_append, List.length_singleton]
          exact ⟨by omega, by omega⟩
        have HLT2 : Hid (∀ x : Lv, x.r = kst → 2 * ns (flat ((L' ++ [⟨rest, sl1, R2⟩]) ++ [x])) + ((L' ++ [(⟨rest, sl1, R2⟩ : Lv)]) ++ [x]).length < least (QV W0 X mT g wb0 FIN wr (.slice a1 l1 c1) (.slice (some ⟨z, 0, none⟩) (L'.length + 1) c2)) ∧ 2 * ns (flat ((L' ++ [⟨rest, sl1, R2⟩]) ++ [x])) + ((L' ++ [(⟨rest, sl1, R2⟩ : Lv)]) ++ [x]).length ≤ 4194304) := fun x hx => by
          have h1 := HN.out
          have h2 := HNM.out
          rw [hflat, List.length_append, List.length_singleton] at h1
          rw [flat_snoc, ns_append, flat_snoc', ns_append, List.length_append, List.length_append, List.length_singleton, List.length_singleton, hx]
          exact ⟨by omega, by omega⟩
        have HSRC : Hid (kst ≠ [] → ∃ bk csk Rk, aot = some ⟨bk, 0, none⟩ ∧ W0.ownsRow 0 28 4 (.slice (some ⟨bk, 0, none⟩) kst.length capt) kst.length csk ∧ R1 = (bk, kst.length, csk) :: Rk ∧ SrcRow 28 W0 kst csk Rk) := fun h => by
          rcases hs1 with ⟨h2, _⟩ | ⟨bk, csk, Rk, _, h3, h4, h5, h6⟩
          · exact absurd h2 h
          · exact ⟨bk, csk, Rk, h3, h4, h5, h6⟩
        have hlk := imap_look V mT out hV1.told nt
        obtain ⟨n0, n1, n2, n3, m0, m1, m2, m3⟩ := blk4 knx
        have HV1 : Hid (VI W0 X mT g wb0 FIN V (.slice a1 l1 c1) (.slice (some ⟨z, 0, none⟩) (L'.length + 1) c2) mo D out [.mk kt st nt kst] R1 (L' ++ [⟨rest, sl1, R2⟩])) := hV1
        have HKX : Hid (V.heap[wr.heap.size]? = some (.cells #[.int .i64 kt, .string st, .int .i64 nt, .slice aot kst.length capt] 28 (0, 0))) := knx
        have hnbd : -9223372036854775808 ≤ nt ∧ nt ≤ 9223372036854775807 := hnb
        rw [hV, hsl1] at hlk n0 n2 n3
        obtain ⟨V1, hVV1⟩ : ∃ V1, V1 = V.alloc (.cells #[] 101) := ⟨_, rfl⟩
        have bV1 : Below V.heap.size V V1 := by rw [hVV1]; exact (Below.refl _ _).alloc (Nat.le_refl _) _
        have kV1 : V1.heap[wr.heap.size]? = some (.cells #[.int .i64 kt, .string st, .int .i64 nt, .slice aot kst.length capt] 28 (0, 0)) := (bV1.block _ (Array.getElem?_eq_some_iff.1 knx).1).trans knx
        have hV2 := hV1.below bV1
        have hLb : L'.length ≤ 4194304 := by
          have h1 := HN.out
          have h2 := HNM.out
          rw [List.length_append, List.length_singleton] at h1
          omega
        have HMNX : Hid (mo ≠ some wr.heap.size ∧ g ≠ wr.heap.size) := by
          refine ⟨fun e => ?_, fun e => ?_⟩
          · have := hI.met.lt wr.heap.size (by simp [metC, e]); omega
          · have := hI.met.lt g (by simp [metC]); omega
        have HMX : Hid (wr.heap.size ≠ mT ∧ ∀ z, Value.ownBlock (.slice a1 l1 c1) = some z → z < wr.heap.size) := by
          refine ⟨fun e => ?_, fun z e => (hI.row.lt e).2⟩
          have := hI.told.lt
          omega
        clear hI hN hNM hrel HN HNM hlR hlsl hsr0 hs1 hs1' hs2 hvt hcell hlv hflat hV1 knx hlrow m0 m1 m2 m3 n1
        by_cases hA : kt = 1 ∧ nt ∉ out
        · obtain ⟨hk1, hnin⟩ := hA
          subst hk1
          rw [decide_eq_false hnin] at hlk
          obtain ⟨o, hput, hmp⟩ := imap_put V1 mT out hV2.told nt hnin
          obtain ⟨V2, hVV2⟩ : ∃ V2, V2 = setB V1 mT o := ⟨_, rfl⟩
          obtain ⟨tl1, tl2, tl3, tl4⟩ := hV2.tell (o := o)
          have hrow2 : NumRow V2 W0.heap.size out (.slice a1 l1 c1) := by rw [hVV2]; exact hV2.row.turn tl1
          have hl1 : l1 = out.length := by
            obtain ⟨a, c, e⟩ := hV2.row.shape
            simp at e; exact e.2.1
          subst hl1
          have k2 : V2.heap[wr.heap.size]? = some (.cells #[.int .i64 1, .string st, .int .i64 nt, .slice aot kst.length capt] 28 (0, 0)) := by rw [hVV2, setB_other HMX.out.1]; exact kV1
          have lV2 : V2.heap.size = V1.heap.size := by rw [hVV2]; simp [setB]
          have hnxl : wr.heap.size < V1.heap.size := (Array.getElem?_eq_some_iff.1 kV1).1
          obtain ⟨i9, hi9, hz90, hz91, hz92⟩ := info_parts infoN
          have hownA : (V2.alloc (.cells #[.int .i64 nt] 3)).ownsRow W0.heap.size 3 1 (.slice a1 out.length c1) out.length (ints out) := hrow2.1.alloc _
          have hnewA := cell_one_new V2 (.int .i64 nt) 3
          have hob2 : out.length ≤ 2097152 := by have := hV2.bnd; omega
          have hszW : W0.heap.size ≤ V2.heap.size := by rw [lV2]; exact hV2.out'.size
          have HADD : Hid (∀ v' w9, w9.ownsRow W0.heap.size 3 1 v' (out.length + 1) (ints out ++ [.int .i64 nt]) → (V2.alloc (.cells #[.int .i64 nt] 3)).grownBy w9 (Value.ownBlock (.slice a1 out.length c1)) → (v'.ownBlock = Value.ownBlock (.slice a1 out.length c1) ∨ v'.ownBlock = some (V2.alloc (.cells #[.int .i64 nt] 3)).heap.size) →
              (∃ a9 c9, v' = .slice a9 (out.length + 1) c9) ∧ VI W0 X mT g wb0 FIN w9 v' (.slice (some ⟨z, 0, none⟩) (L'.length + 1) c2) mo D (out ++ [nt]) kst R1 (L' ++ [⟨rest, sl1, R2⟩]) ∧ w9.heap[wr.heap.size]? = some (.cells #[.int .i64 1, .string st, .int .i64 nt, .slice aot kst.length capt] 28 (0, 0))) := fun v' w9 h1 h2 h3 => by
            rw [hVV2] at h2 h3
            refine ⟨?_, hV2.add rfl hnbd hnin hmp ((Below.refl _ _).alloc (Nat.le_refl _) _) h1 h2 h3, ?_⟩
            · rcases h1.2 with h | ⟨_, _, _, rfl, _⟩
              · exact absurd h.2 (by omega)
              · exact ⟨_, _, rfl⟩
            · rw [← hVV2] at h2
              have q1 : (V2.alloc (.cells #[.int .i64 nt] 3)).heap[wr.heap.size]? = V2.heap[wr.heap.size]? := alloc_old _ _ (by omega)
              refine (h2.block wr.heap.size (by simp; omega) fun e => ?_).trans (q1.trans k2)
              have := HMX.out.2 _ e.symm
              omega
          have p0 : V1.cell? ⟨wr.heap.size, 0, none⟩ = some (.int .i64 1) := blk_cell (i := 0) kV1 (by simp)
          have p2 : V1.cell? ⟨wr.heap.size, 2, none⟩ = some (.int .i64 nt) := blk_cell (i := 2) kV1 (by simp)
          have r2 : V2.cell? ⟨wr.heap.size, 2, none⟩ = some (.int .i64 nt) := blk_cell (i := 2) k2 (by simp)
          rw [← hVV2] at hput
          rw [hVV1, hV, hsl1] at p0 p2 hput
          replace hownA : Hid _ := hownA
          replace hnewA : Hid _ := hnewA
          clear hV2 kV1 bV1 hVV1 hV hsl1 hsz0 hVV2 tl1 tl2 tl3 tl4 hrow2 k2 lV2 hnxl hmp HV1 HKX hnin
          go_upto_region 11 with fail
          generalize (if lc = 1 then some (⟨b, off, none⟩ : Addr) else some ⟨b, off + 4, none⟩) = aox at *
          go_upto_region 15 with (at_builtin; refine wpList_append_own_at _ rfl _ _ 78 rfl W0.heap.size 3 i9 (.int .i64 0) 1 8 Try.underlying78 hi9 hz90 hz91 hz92 rfl (by decide) _ _ _ rfl hownA.out ⟨V2.heap.size, 0, none⟩ 1 1 [.int .i64 nt] rfl rfl ?c1 ?c2 ?c3 ?c4 ?c5 ?_)
          case c1 => exact hnewA.out
          case c2 => intro z hz; simp at hz; subst hz; rfl
          case c3 => unfold maxLen; omega
          case c4 => omega
          case c5 => simp; omega
          intro v' w5 hown' hgrow _ hat
          obtain ⟨⟨a9, c9, rfl⟩, hv5, hnx5⟩ := HADD.out v' w5 (by simpa using hown') hgrow (by simpa using hat)
          have HV5 : Hid (VI W0 X mT g wb0 FIN w5 (.slice a9 (out.length + 1) c9) (.slice (some ⟨z, 0, none⟩) (L'.length + 1) c2) mo D (out ++ [nt]) kst R1 (L' ++ [⟨rest, sl1, R2⟩])) := hv5
          have HNX : Hid (w5.heap[wr.heap.size]? = some (.cells #[.int .i64 1, .string st, .int .i64 nt, .slice aot kst.length capt] 28 (0, 0))) := hnx5
          clear hv5 hnx5 hown' hgrow hat HADD hownA hnewA hlk n0 n2 n3 p0 p2 r2 hput
          go_upto_region 15 with fail
          have hsz5 : wr.heap.size < w5.heap.size := (Array.getElem?_eq_some_iff.1 HNX.out).1
          by_cases hkk : kst.length = 0
          · obtain rfl : kst = [] := List.eq_nil_of_length_eq_zero hkk
            have HP : Hid (VI W0 X mT g wb0 FIN w5.drew (.slice a9 (out.length + 1) c9) (.slice (some ⟨z, 0, none⟩) (L'.length + 1) c2) mo D (out ++ [nt]) [] [] (L' ++ [⟨rest, sl1, R2⟩])) := by
              have h1 := HV5.out.below (Below.refl w5.heap.size w5).drew
              rw [HR1.out rfl] at h1
              exact h1
            have y3 : w5.drew.cell? ⟨wr.heap.size, 3, none⟩ = some (.slice aot 0 capt) := blk_cell (i := 3) (((Below.refl w5.heap.size w5).drew.block _ hsz5).trans HNX.out) (by simp)
            have HLT : Hid _ := HLT1.out rfl
            clear HV5 HNX HLT1 HLT2 HR1 HSRC hkk
            go_region
            go_wp2
            go_roundw
            case rel => exact ⟨_, _, _, _, _, _, rfl, rfl, _, _, _, _, _, HP.out, rfl, HLT.out.2⟩
            case measure => exact Nat.lt_of_le_of_lt (least_le ⟨_, _, _, _, HP.out, rfl, HLT.out.2⟩) HLT.out.1
          · obtain ⟨bk, csk, Rk, rfl, hrk, hR1k, hsk⟩ := HSRC.out (fun e => hkk (by rw [e]; rfl))
            subst hR1k
            have hkpos : 0 < kst.length := by omega
            have hkp : decide ((0 : Int) < (kst.length : Int)) = true := decide_eq_true (by omega)
            have h5d := HV5.out.below (Below.refl w5.heap.size w5).drew
            have hrb := h5d.rin (bk, kst.length, csk) (by simp)
            have hbkl : bk < W0.heap.size := row_lt0 hrk rfl
            have hlk2 : LvOk W0 X ⟨kst, .slice (some ⟨bk, 0, none⟩) kst.length capt, Rk⟩ := by
              have hcp : kst.length ≤ capt ∧ capt ≤ maxLen := by
                rcases hrk.2 with ⟨h, _⟩ | ⟨_, _, _, h, _, _, h1, h2, _⟩
                · cases h
                · cases h; exact ⟨h1, h2⟩
              refine ⟨some ⟨bk, 0, none⟩, capt, rfl, hcp.1, hcp.2, fun h => ?_, fun _ => ⟨bk, 0, csk, rfl, hsk, hrb.2, hbkl, fun i hi => ?_⟩⟩
              · have h' : kst = [] := h
                exact absurd (by rw [h']; rfl) hkk
              · rw [Nat.zero_add]
                have hl1 := hrk.1
                exact hrk.cellAt i (by omega)
            have hxs := h5d.xs
            have hpb : PB w5.drew ⟨bk, 0, none⟩ := by
              rcases hrk.2 with ⟨h, _⟩ | ⟨_, _, cur, h, _, hh, _⟩
              · cases h
              · cases h; exact ⟨cur, _, (h5d.out'.block bk hbkl hrb.2).trans hh⟩
            have hdp : DPB w5.drew D := fun d hd => by
              obtain ⟨h1, cur, T, h2⟩ := h5d.din d hd
              exact ⟨cur, T, (h5d.out'.block d (Array.getElem?_eq_some_iff.1 h2).1 h1).trans h2⟩
            have hbg : bk ≠ g := fun e => hrb.2 (by rw [hxs, e]; simp)
            have hbD : bk ∉ D := fun hd => by
              have := h5d.nd
              exact (List.nodup_append.1 this).2.2 bk hd bk (by simp) rfl
            have HGO : Hid (Calls Try.prog 79 #[.pointer (some ⟨g, 0, none⟩), .agg #[.pointer (some ⟨bk, 0, none⟩), .pointer none, .int .i64 (kst.length : Int)]] w5.drew fun e w6 => e = .returned (.bool true) ∧ Hid (∃ mo', MetC w6 g mo' (bk :: D) ∧ Out (metC g mo) w5.drew w6 ∧ (mo' = mo ∨ ∃ m, mo' = some m ∧ w5.drew.heap.size ≤ m))) := Calls.mono (go_fresh w5.drew g mo D h5d.met ⟨bk, 0, none⟩ (kst.length : Int) hpb hdp hbg hbD) (by rintro e w6 ⟨mo', rfl, h1, h2, h3⟩; exact ⟨rfl, mo', h1, h2, h3⟩)
            have y3 : w5.drew.cell? ⟨wr.heap.size, 3, none⟩ = some (.slice (some ⟨bk, 0, none⟩) kst.length capt) := blk_cell (i := 3) (((Below.refl w5.heap.size w5).drew.block _ hsz5).trans HNX.out) (by simp)
            have hsd : w5.heap.size ≤ w5.drew.heap.size := (Below.refl w5.heap.size w5).drew.size
            have HAF : Hid (∀ w6, Out (metC g mo) w5.drew w6 → w6.cell? ⟨wr.heap.size, 3, none⟩ = some (.slice (some ⟨bk, 0, none⟩) kst.length capt) ∧ (w6.alloc (.cells #[.slice (some ⟨bk, 0, none⟩) kst.length capt] 26)).ownsRow 0 26 1 (.slice (some ⟨z, 0, none⟩) (L'.length + 1) c2) (L'.length + 1) ((L' ++ [(⟨rest, sl1, R2⟩ : Lv)]).map Lv.sl)) := fun w6 ho => by
              refine ⟨?_, World.ownsRow.alloc (by simpa using h5d.way_into ho) _⟩
              have hnf : wr.heap.size ∉ metC g mo := fun hf => by
                rcases mem_metC hf with e | e
                · exact HMNX.out.2 e.symm
                · exact HMNX.out.1 e
              exact (World.cell?_of_block (ho.block wr.heap.size (by omega) hnf)).trans y3
            have HLT : Hid _ := HLT2.out ⟨kst, .slice (some ⟨bk, 0, none⟩) kst.length capt, Rk⟩ rfl
            have HPU : Hid (∀ w6 mo' w9 vw', Out (metC g mo) w5.drew w6 → MetC w6 g mo' (bk :: D) → (mo' = mo ∨ ∃ m, mo' = some m ∧ w5.drew.heap.size ≤ m) → w9.ownsRow 0 26 1 vw' (L'.length + 1 + 1) ((L' ++ [(⟨rest, sl1, R2⟩ : Lv)]).map Lv.sl ++ [.slice (some ⟨bk, 0, none⟩) kst.length capt]) → (w6.alloc (.cells #[.slice (some ⟨bk, 0, none⟩) kst.length capt] 26)).grownBy w9 (Value.ownBlock (.slice (some ⟨z, 0, none⟩) (L'.length + 1) c2)) → (vw'.ownBlock = Value.ownBlock (.slice (some ⟨z, 0, none⟩) (L'.length + 1) c2) ∨ vw'.ownBlock = some (w6.alloc (.cells #[.slice (some ⟨bk, 0, none⟩) kst.length capt] 26)).heap.size) →
                (∃ a' c', vw' = .slice a' (L'.length + 1 + 1) c') ∧ VI W0 X mT g wb0 FIN w9 (.slice a9 (out.length + 1) c9) vw' mo' (bk :: D) (out ++ [nt]) [] [] ((L' ++ [(⟨rest, sl1, R2⟩ : Lv)]) ++ [⟨kst, .slice (some ⟨bk, 0, none⟩) kst.length capt, Rk⟩])) := fun w6 mo' w9 vw' h1 h2 h3 h4 h5 h6 => by
              refine ⟨?_, h5d.push hlk2 h1 h2 h3 ((Below.refl _ _).alloc (Nat.le_refl _) _) (by simpa using h4) h5 h6⟩
              rcases h4.2 with h | ⟨_, _, _, rfl, _⟩
              · exact absurd h.2 (by omega)
              · exact ⟨_, _, rfl⟩
            obtain ⟨i0, hi, hz0, hz1, hz2⟩ := info_parts infoSl
            clear h5d hrb hbkl hlk2 hxs hpb hdp hbg hbD HV5 HNX HLT1 HLT2 HR1 HSRC hrk hsk hsd hkk
            go_region_with (go_at_call 79; refine (Calls.mono HGO.out ?_); rintro e w6 ⟨rfl, H6⟩)
            all_goals
              obtain ⟨mo', hme6, ho6, hmo6⟩ := H6.out
              have HME : Hid (MetC w6 g mo' (bk :: D)) := hme6
              have HOU : Hid (Out (metC g mo) w5.drew w6) := ho6
              have HMO : Hid (mo' = mo ∨ ∃ m, mo' = some m ∧ w5.drew.heap.size ≤ m) := hmo6
              clear hme6 ho6 hmo6 H6
              obtain ⟨y4, hown6⟩ := HAF.out w6 HOU.out
              replace hown6 : Hid _ := hown6
              have hnew : Hid _ := cell_one_new w6 (.slice (some ⟨bk, 0, none⟩) kst.length capt) 26
              clear y3
              go_wp2_with (at_builtin; go_loud (refine wpList_append_own_at _ rfl _ _ 81 rfl 0 26 i0 (.slice none 0 0) 1 24 Try.underlying81 hi hz0 hz1 hz2 rfl (by decide) _ _ _ rfl hown6.out ⟨w6.heap.size, 0, none⟩ 1 1 [.slice (some ⟨bk, 0, none⟩) kst.length capt] rfl rfl ?c1 ?c2 ?c3 ?c4 ?c5 ?_))
              case c1 => exact hnew.out
              case c2 => intro z hz; simp at hz; subst hz; rfl
              case c3 => unfold maxLen; omega
              case c4 => omega
              case c5 => omega
              intro v' w9 hown' hgrow _ hat
              obtain ⟨⟨a', c', rfl⟩, hvi⟩ := HPU.out w6 mo' w9 v' HOU.out HME.out HMO.out (by simpa using hown') hgrow (by simpa using hat)
              have HP : Hid _ := hvi
              clear hown' hgrow hat hvi
              go_wp2
              go_roundw
              case rel => exact ⟨_, _, _, _, _, _, rfl, rfl, _, _, _, _, _, HP.out, rfl, HLT.out.2⟩
              case measure => exact Nat.lt_of_le_of_lt (least_le ⟨_, _, _, _, HP.out, rfl, HLT.out.2⟩) HLT.out.1
        · have HV5' : Hid (VI W0 X mT g wb0 FIN V1 (.slice a1 l1 c1) (.slice (some ⟨z, 0, none⟩) (L'.length + 1) c2) mo D out kst R1 (L' ++ [⟨rest, sl1, R2⟩])) := hV2.skip fun h1 => Classical.byContradiction fun h2 => hA ⟨h1, h2⟩
          have HNX' : Hid (V1.heap[wr.heap.size]? = some (.cells #[.int .i64 kt, .string st, .int .i64 nt, .slice aot kst.length capt] 28 (0, 0))) := kV1
          have p0 : V1.cell? ⟨wr.heap.size, 0, none⟩ = some (.int .i64 kt) := blk_cell (i := 0) kV1 (by simp)
          rw [hVV1, hV, hsl1] at p0
          have HWV : Hid (V1 = ((wr.setCell ⟨z, L'.length, none⟩ (Value.slice (if lc = 1 then some ⟨b, off, none⟩ else some ⟨b, off + 4, none⟩) rest.length (lc - 1))).alloc (.cells #[.int .i64 kt, .string st, .int .i64 nt, .slice aot kst.length capt] 28)).alloc (.cells #[] 101)) := by rw [← hsl1, ← hV]; exact hVV1
          clear hV2 kV1 bV1 hVV1 hV hsl1 hsz0
          by_cases hk1 : kt = 1
          · subst hk1
            have hin : nt ∈ out := Classical.byContradiction fun h2 => hA ⟨rfl, h2⟩
            rw [decide_eq_true hin] at hlk
            clear hin hA
            go_upto_region 15 with fail
            obtain ⟨w5, hw5⟩ : ∃ w5, w5 = V1 := ⟨_, rfl⟩
            have HV5 := HV5'
            have HNX := HNX'
            rw [← HWV.out]
            rw [← hw5] at HV5 HNX ⊢
            clear hw5 HWV HV5' HNX' hlk n0 n2 n3 p0 HV1 HKX
            generalize (if lc = 1 then some (⟨b, off, none⟩ : Addr) else some ⟨b, off + 4, none⟩) = aox
            have hsz5 : wr.heap.size < w5.heap.size := (Array.getElem?_eq_some_iff.1 HNX.out).1
            by_cases hkk : kst.length = 0
            · obtain rfl : kst = [] := List.eq_nil_of_length_eq_zero hkk
              have HP : Hid (VI W0 X mT g wb0 FIN w5.drew (.slice a1 l1 c1) (.slice (some ⟨z, 0, none⟩) (L'.length + 1) c2) mo D out [] [] (L' ++ [⟨rest, sl1, R2⟩])) := by
                have h1 := HV5.out.below (Below.refl w5.heap.size w5).drew
                rw [HR1.out rfl] at h1
                exact h1
              have y3 : w5.drew.cell? ⟨wr.heap.size, 3, none⟩ = some (.slice aot 0 capt) := blk_cell (i := 3) (((Below.refl w5.heap.size w5).drew.block _ hsz5).trans HNX.out) (by simp)
              have HLT : Hid _ := HLT1.out rfl
              clear HV5 HNX HLT1 HLT2 HR1 HSRC hkk
              go_region
              go_wp2
              go_roundw
              case rel => exact ⟨_, _, _, _, _, _, rfl, rfl, _, _, _, _, _, HP.out, rfl, HLT.out.2⟩
              case measure => exact Nat.lt_of_le_of_lt (least_le ⟨_, _, _, _, HP.out, rfl, HLT.out.2⟩) HLT.out.1
            · obtain ⟨bk, csk, Rk, rfl, hrk, hR1k, hsk⟩ := HSRC.out (fun e => hkk (by rw [e]; rfl))
              subst hR1k
              have hkpos : 0 < kst.length := by omega
              have hkp : decide ((0 : Int) < (kst.length : Int)) = true := decide_eq_true (by omega)
              have h5d := HV5.out.below (Below.refl w5.heap.size w5).drew
              have hrb := h5d.rin (bk, kst.length, csk) (by simp)
              have hbkl : bk < W0.heap.size := row_lt0 hrk rfl
              have hlk2 : LvOk W0 X ⟨kst, .slice (some ⟨bk, 0, none⟩) kst.length capt, Rk⟩ := by
                have hcp : kst.length ≤ capt ∧ capt ≤ maxLen := by
                  rcases hrk.2 with ⟨h, _⟩ | ⟨_, _, _, h, _, _, h1, h2, _⟩
                  · cases h
                  · cases h; exact ⟨h1, h2⟩
                refine ⟨some ⟨bk, 0, none⟩, capt, rfl, hcp.1, hcp.2, fun h => ?_, fun _ => ⟨bk, 0, csk, rfl, hsk, hrb.2, hbkl, fun i hi => ?_⟩⟩
                · have h' : kst = [] := h
                  exact absurd (by rw [h']; rfl) hkk
                · rw [Nat.zero_add]
                  have hl1 := hrk.1
                  exact hrk.cellAt i (by omega)
              have hxs := h5d.xs
              have hpb : PB w5.drew ⟨bk, 0, none⟩ := by
                rcases hrk.2 with ⟨h, _⟩ | ⟨_, _, cur, h, _, hh, _⟩
                · cases h
                · cases h; exact ⟨cur, _, (h5d.out'.block bk hbkl hrb.2).trans hh⟩
              have hdp : DPB w5.drew D := fun d hd => by
                obtain ⟨h1, cur, T, h2⟩ := h5d.din d hd
                exact ⟨cur, T, (h5d.out'.block d (Array.getElem?_eq_some_iff.1 h2).1 h1).trans h2⟩
              have hbg : bk ≠ g := fun e => hrb.2 (by rw [hxs, e]; simp)
              have hbD : bk ∉ D := fun hd => by
                have := h5d.nd
                exact (List.nodup_append.1 this).2.2 bk hd bk (by simp) rfl
              have HGO : Hid (Calls Try.prog 79 #[.pointer (some ⟨g, 0, none⟩), .agg #[.pointer (some ⟨bk, 0, none⟩), .pointer none, .int .i64 (kst.length : Int)]] w5.drew fun e w6 => e = .returned (.bool true) ∧ Hid (∃ mo', MetC w6 g mo' (bk :: D) ∧ Out (metC g mo) w5.drew w6 ∧ (mo' = mo ∨ ∃ m, mo' = some m ∧ w5.drew.heap.size ≤ m))) := Calls.mono (go_fresh w5.drew g mo D h5d.met ⟨bk, 0, none⟩ (kst.length : Int) hpb hdp hbg hbD) (by rintro e w6 ⟨mo', rfl, h1, h2, h3⟩; exact ⟨rfl, mo', h1, h2, h3⟩)
              have y3 : w5.drew.cell? ⟨wr.heap.size, 3, none⟩ = some (.slice (some ⟨bk, 0, none⟩) kst.length capt) := blk_cell (i := 3) (((Below.refl w5.heap.size w5).drew.block _ hsz5).trans HNX.out) (by simp)
              have hsd : w5.heap.size ≤ w5.drew.heap.size := (Below.refl w5.heap.size w5).drew.size
              have HAF : Hid (∀ w6, Out (metC g mo) w5.drew w6 → w6.cell? ⟨wr.heap.size, 3, none⟩ = some (.slice (some ⟨bk, 0, none⟩) kst.length capt) ∧ (w6.alloc (.cells #[.slice (some ⟨bk, 0, none⟩) kst.length capt] 26)).ownsRow 0 26 1 (.slice (some ⟨z, 0, none⟩) (L'.length + 1) c2) (L'.length + 1) ((L' ++ [(⟨rest, sl1, R2⟩ : Lv)]).map Lv.sl)) := fun w6 ho => by
                refine ⟨?_, World.ownsRow.alloc (by simpa using h5d.way_into ho) _⟩
                have hnf : wr.heap.size ∉ metC g mo := fun hf => by
                  rcases mem_metC hf with e | e
                  · exact HMNX.out.2 e.symm
                  · exact HMNX.out.1 e
                exact (World.cell?_of_block (ho.block wr.heap.size (by omega) hnf)).trans y3
              have HLT : Hid _ := HLT2.out ⟨kst, .slice (some ⟨bk, 0, none⟩) kst.length capt, Rk⟩ rfl
              have HPU : Hid (∀ w6 mo' w9 vw', Out (metC g mo) w5.drew w6 → MetC w6 g mo' (bk :: D) → (mo' = mo ∨ ∃ m, mo' = some m ∧ w5.drew.heap.size ≤ m) → w9.ownsRow 0 26 1 vw' (L'.length + 1 + 1) ((L' ++ [(⟨rest, sl1, R2⟩ : Lv)]).map Lv.sl ++ [.slice (some ⟨bk, 0, none⟩) kst.length capt]) → (w6.alloc (.cells #[.slice (some ⟨bk, 0, none⟩) kst.length capt] 26)).grownBy w9 (Value.ownBlock (.slice (some ⟨z, 0, none⟩) (L'.length + 1) c2)) → (vw'.ownBlock = Value.ownBlock (.slice (some ⟨z, 0, none⟩) (L'.length + 1) c2) ∨ vw'.ownBlock = some (w6.alloc (.cells #[.slice (some ⟨bk, 0, none⟩) kst.length capt] 26)).heap.size) →
                  (∃ a' c', vw' = .slice a' (L'.length + 1 + 1) c') ∧ VI W0 X mT g wb0 FIN w9 (.slice a1 l1 c1) vw' mo' (bk :: D) out [] [] ((L' ++ [(⟨rest, sl1, R2⟩ : Lv)]) ++ [⟨kst, .slice (some ⟨bk, 0, none⟩) kst.length capt, Rk⟩])) := fun w6 mo' w9 vw' h1 h2 h3 h4 h5 h6 => by
                refine ⟨?_, h5d.push hlk2 h1 h2 h3 ((Below.refl _ _).alloc (Nat.le_refl _) _) (by simpa using h4) h5 h6⟩
                rcases h4.2 with h | ⟨_, _, _, rfl, _⟩
                · exact absurd h.2 (by omega)
                · exact ⟨_, _, rfl⟩
              obtain ⟨i0, hi, hz0, hz1, hz2⟩ := info_parts infoSl
              clear h5d hrb hbkl hlk2 hxs hpb hdp hbg hbD HV5 HNX HLT1 HLT2 HR1 HSRC hrk hsk hsd hkk
              go_region_with (go_at_call 79; refine (Calls.mono HGO.out ?_); rintro e w6 ⟨rfl, H6⟩)
              all_goals
                obtain ⟨mo', hme6, ho6, hmo6⟩ := H6.out
                have HME : Hid (MetC w6 g mo' (bk :: D)) := hme6
                have HOU : Hid (Out (metC g mo) w5.drew w6) := ho6
                have HMO : Hid (mo' = mo ∨ ∃ m, mo' = some m ∧ w5.drew.heap.size ≤ m) := hmo6
                clear hme6 ho6 hmo6 H6
                obtain ⟨y4, hown6⟩ := HAF.out w6 HOU.out
                replace hown6 : Hid _ := hown6
                have hnew : Hid _ := cell_one_new w6 (.slice (some ⟨bk, 0, none⟩) kst.length capt) 26
                clear y3
                go_wp2_with (at_builtin; go_loud (refine wpList_append_own_at _ rfl _ _ 81 rfl 0 26 i0 (.slice none 0 0) 1 24 Try.underlying81 hi hz0 hz1 hz2 rfl (by decide) _ _ _ rfl hown6.out ⟨w6.heap.size, 0, none⟩ 1 1 [.slice (some ⟨bk, 0, none⟩) kst.length capt] rfl rfl ?c1 ?c2 ?c3 ?c4 ?c5 ?_))
                case c1 => exact hnew.out
                case c2 => intro z hz; simp at hz; subst hz; rfl
                case c3 => unfold maxLen; omega
                case c4 => omega
                case c5 => omega
                intro v' w9 hown' hgrow _ hat
                obtain ⟨⟨a', c', rfl⟩, hvi⟩ := HPU.out w6 mo' w9 v' HOU.out HME.out HMO.out (by simpa using hown') hgrow (by simpa using hat)
                have HP : Hid _ := hvi
                clear hown' hgrow hat hvi
                go_wp2
                go_roundw
                case rel => exact ⟨_, _, _, _, _, _, rfl, rfl, _, _, _, _, _, HP.out, rfl, HLT.out.2⟩
                case measure => exact Nat.lt_of_le_of_lt (least_le ⟨_, _, _, _, HP.out, rfl, HLT.out.2⟩) HLT.out.1
          · have hkb1 : (kt == 1) = false := by simpa using hk1
            clear hA
            go_upto_region 15 with fail
            obtain ⟨w5, hw5⟩ : ∃ w5, w5 = V1 := ⟨_, rfl⟩
            have HV5 := HV5'
            have HNX := HNX'
            rw [← HWV.out]
            rw [← hw5] at HV5 HNX ⊢
            clear hw5 HWV HV5' HNX' hlk n0 n2 n3 p0 HV1 HKX
            generalize (if lc = 1 then some (⟨b, off, none⟩ : Addr) else some ⟨b, off + 4, none⟩) = aox
            have hsz5 : wr.heap.size < w5.heap.size := (Array.getElem?_eq_some_iff.1 HNX.out).1
            by_cases hkk : kst.length = 0
            · obtain rfl : kst = [] := List.eq_nil_of_length_eq_zero hkk
              have HP : Hid (VI W0 X mT g wb0 FIN w5.drew (.slice a1 l1 c1) (.slice (some ⟨z, 0, none⟩) (L'.length + 1) c2) mo D out [] [] (L' ++ [⟨rest, sl1, R2⟩])) := by
                have h1 := HV5.out.below (Below.refl w5.heap.size w5).drew
                rw [HR1.out rfl] at h1
                exact h1
              have y3 : w5.drew.cell? ⟨wr.heap.size, 3, none⟩ = some (.slice aot 0 capt) := blk_cell (i := 3) (((Below.refl w5.heap.size w5).drew.block _ hsz5).trans HNX.out) (by simp)
              have HLT : Hid _ := HLT1.out rfl
              clear HV5 HNX HLT1 HLT2 HR1 HSRC hkk
              go_region
              go_wp2
              go_roundw
              case rel => exact ⟨_, _, _, _, _, _, rfl, rfl, _, _, _, _, _, HP.out, rfl, HLT.out.2⟩
              case measure => exact Nat.lt_of_le_of_lt (least_le ⟨_, _, _, _, HP.out, rfl, HLT.out.2⟩) HLT.out.1
            · obtain ⟨bk, csk, Rk, rfl, hrk, hR1k, hsk⟩ := HSRC.out (fun e => hkk (by rw [e]; rfl))
              subst hR1k
              have hkpos : 0 < kst.length := by omega
              have hkp : decide ((0 : Int) < (kst.length : Int)) = true := decide_eq_true (by omega)
              have h5d := HV5.out.below (Below.refl w5.heap.size w5).drew
              have hrb := h5d.rin (bk, kst.length, csk) (by simp)
              have hbkl : bk < W0.heap.size := row_lt0 hrk rfl
              have hlk2 : LvOk W0 X ⟨kst, .slice (some ⟨bk, 0, none⟩) kst.length capt, Rk⟩ := by
                have hcp : kst.length ≤ capt ∧ capt ≤ maxLen := by
                  rcases hrk.2 with ⟨h, _⟩ | ⟨_, _, _, h, _, _, h1, h2, _⟩
                  · cases h
                  · cases h; exact ⟨h1, h2⟩
                refine ⟨some ⟨bk, 0, none⟩, capt, rfl, hcp.1, hcp.2, fun h => ?_, fun _ => ⟨bk, 0, csk, rfl, hsk, hrb.2, hbkl, fun i hi => ?_⟩⟩
                · have h' : kst = [] := h
                  exact absurd (by rw [h']; rfl) hkk
                · rw [Nat.zero_add]
                  have hl1 := hrk.1
                  exact hrk.cellAt i (by omega)
              have hxs := h5d.xs
              have hpb : PB w5.drew ⟨bk, 0, none⟩ := by
                rcases hrk.2 with ⟨h, _⟩ | ⟨_, _, cur, h, _, hh, _⟩
                · cases h
                · cases h; exact ⟨cur, _, (h5d.out'.block bk hbkl hrb.2).trans hh⟩
              have hdp : DPB w5.drew D := fun d hd => by
                obtain ⟨h1, cur, T, h2⟩ := h5d.din d hd
                exact ⟨cur, T, (h5d.out'.block d (Array.getElem?_eq_some_iff.1 h2).1 h1).trans h2⟩
              have hbg : bk ≠ g := fun e => hrb.2 (by rw [hxs, e]; simp)
              have hbD : bk ∉ D := fun hd => by
                have := h5d.nd
                exact (List.nodup_append.1 this).2.2 bk hd bk (by simp) rfl
              have HGO : Hid (Calls Try.prog 79 #[.pointer (some ⟨g, 0, none⟩), .agg #[.pointer (some ⟨bk, 0, none⟩), .pointer none, .int .i64 (kst.length : Int)]] w5.drew fun e w6 => e = .returned (.bool true) ∧ Hid (∃ mo', MetC w6 g mo' (bk :: D) ∧ Out (metC g mo) w5.drew w6 ∧ (mo' = mo ∨ ∃ m, mo' = some m ∧ w5.drew.heap.size ≤ m))) := Calls.mono (go_fresh w5.drew g mo D h5d.met ⟨bk, 0, none⟩ (kst.length : Int) hpb hdp hbg hbD) (by rintro e w6 ⟨mo', rfl, h1, h2, h3⟩; exact ⟨rfl, mo', h1, h2, h3⟩)
              have y3 : w5.drew.cell? ⟨wr.heap.size, 3, none⟩ = some (.slice (some ⟨bk, 0, none⟩) kst.length capt) := blk_cell (i := 3) (((Below.refl w5.heap.size w5).drew.block _ hsz5).trans HNX.out) (by simp)
              have hsd : w5.heap.size ≤ w5.drew.heap.size := (Below.refl w5.heap.size w5).drew.size
              have HAF : Hid (∀ w6, Out (metC g mo) w5.drew w6 → w6.cell? ⟨wr.heap.size, 3, none⟩ = some (.slice (some ⟨bk, 0, none⟩) kst.length capt) ∧ (w6.alloc (.cells #[.slice (some ⟨bk, 0, none⟩) kst.length capt] 26)).ownsRow 0 26 1 (.slice (some ⟨z, 0, none⟩) (L'.length + 1) c2) (L'.length + 1) ((L' ++ [(⟨rest, sl1, R2⟩ : Lv)]).map Lv.sl)) := fun w6 ho => by
                refine ⟨?_, World.ownsRow.alloc (by simpa using h5d.way_into ho) _⟩
                have hnf : wr.heap.size ∉ metC g mo := fun hf => by
                  rcases mem_metC hf with e | e
                  · exact HMNX.out.2 e.symm
                  · exact HMNX.out.1 e
                exact (World.cell?_of_block (ho.block wr.heap.size (by omega) hnf)).trans y3
              have HLT : Hid _ := HLT2.out ⟨kst, .slice (some ⟨bk, 0, none⟩) kst.length capt, Rk⟩ rfl
              have HPU : Hid (∀ w6 mo' w9 vw', Out (metC g mo) w5.drew w6 → MetC w6 g mo' (bk :: D) → (mo' = mo ∨ ∃ m, mo' = some m ∧ w5.drew.heap.size ≤ m) → w9.ownsRow 0 26 1 vw' (L'.length + 1 + 1) ((L' ++ [(⟨rest, sl1, R2⟩ : Lv)]).map Lv.sl ++ [.slice (some ⟨bk, 0, none⟩) kst.length capt]) → (w6.alloc (.cells #[.slice (some ⟨bk, 0, none⟩) kst.length capt] 26)).grownBy w9 (Value.ownBlock (.slice (some ⟨z, 0, none⟩) (L'.length + 1) c2)) → (vw'.ownBlock = Value.ownBlock (.slice (some ⟨z, 0, none⟩) (L'.length + 1) c2) ∨ vw'.ownBlock = some (w6.alloc (.cells #[.slice (some ⟨bk, 0, none⟩) kst.length capt] 26)).heap.size) →
                  (∃ a' c', vw' = .slice a' (L'.length + 1 + 1) c') ∧ VI W0 X mT g wb0 FIN w9 (.slice a1 l1 c1) vw' mo' (bk :: D) out [] [] ((L' ++ [(⟨rest, sl1, R2⟩ : Lv)]) ++ [⟨kst, .slice (some ⟨bk, 0, none⟩) kst.length capt, Rk⟩])) := fun w6 mo' w9 vw' h1 h2 h3 h4 h5 h6 => by
                refine ⟨?_, h5d.push hlk2 h1 h2 h3 ((Below.refl _ _).alloc (Nat.le_refl _) _) (by simpa using h4) h5 h6⟩
                rcases h4.2 with h | ⟨_, _, _, rfl, _⟩
                · exact absurd h.2 (by omega)
                · exact ⟨_, _, rfl⟩
              obtain ⟨i0, hi, hz0, hz1, hz2⟩ := info_parts infoSl
              clear h5d hrb hbkl hlk2 hxs hpb hdp hbg hbD HV5 HNX HLT1 HLT2 HR1 HSRC hrk hsk hsd hkk
              go_region_with (go_at_call 79; refine (Calls.mono HGO.out ?_); rintro e w6 ⟨rfl, H6⟩)
              all_goals
                obtain ⟨mo', hme6, ho6, hmo6⟩ := H6.out
                have HME : Hid (MetC w6 g mo' (bk :: D)) := hme6
                have HOU : Hid (Out (metC g mo) w5.drew w6) := ho6
                have HMO : Hid (mo' = mo ∨ ∃ m, mo' = some m ∧ w5.drew.heap.size ≤ m) := hmo6
                clear hme6 ho6 hmo6 H6
                obtain ⟨y4, hown6⟩ := HAF.out w6 HOU.out
                replace hown6 : Hid _ := hown6
                have hnew : Hid _ := cell_one_new w6 (.slice (some ⟨bk, 0, none⟩) kst.length capt) 26
                clear y3
                go_wp2_with (at_builtin; go_loud (refine wpList_append_own_at _ rfl _ _ 81 rfl 0 26 i0 (.slice none 0 0) 1 24 Try.underlying81 hi hz0 hz1 hz2 rfl (by decide) _ _ _ rfl hown6.out ⟨w6.heap.size, 0, none⟩ 1 1 [.slice (some ⟨bk, 0, none⟩) kst.length capt] rfl rfl ?c1 ?c2 ?c3 ?c4 ?c5 ?_))
                case c1 => exact hnew.out
                case c2 => intro z hz; simp at hz; subst hz; rfl
                case c3 => unfold maxLen; omega
                case c4 => omega
                case c5 => omega
                intro v' w9 hown' hgrow _ hat
                obtain ⟨⟨a', c', rfl⟩, hvi⟩ := HPU.out w6 mo' w9 v' HOU.out HME.out HMO.out (by simpa using hown') hgrow (by simpa using hat)
                have HP : Hid _ := hvi
                clear hown' hgrow hat hvi
                go_wp2
                go_roundw
                case rel => exact ⟨_, _, _, _, _, _, rfl, rfl, _, _, _, _, _, HP.out, rfl, HLT.out.2⟩
                case measure => exact Nat.lt_of_le_of_lt (least_le ⟨_, _, _, _, HP.out, rfl, HLT.out.2⟩) HLT.out.1
end Go.Proofs.Ytcmnjpoapcogham

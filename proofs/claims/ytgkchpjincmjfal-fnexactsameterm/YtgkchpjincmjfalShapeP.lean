/- Terms whose rows lie in blocks of a zone; what may be read at a place is one thing; the least number of a kind. Plain. -/
import Derived.Test.YtgkchpjincmjfalMetI
import Derived.Test.YtgkchpjincmjfalTmSame
import Derived.Test.YtgkchpjincmjfalTmN
namespace Go.Proofs.Ytgkchpjincmjfal
open Go.RowKit

mutual
def TmZ (Z : Nat → Prop) (w : World) : Tm → Value → Prop
  | .mk k s n ks, v => ∃ ao cap, v = .agg #[.int .i64 k, .string s, .int .i64 n, .slice ao ks.length cap] ∧ (-9223372036854775808 ≤ k ∧ k ≤ 9223372036854775807) ∧ (-9223372036854775808 ≤ n ∧ n ≤ 9223372036854775807) ∧
    s.size ≤ maxLen ∧ ks.length ≤ cap ∧ cap ≤ maxLen ∧ (ks ≠ [] → ∃ b off, ao = some ⟨b, off, none⟩ ∧ Z b ∧ PB w ⟨b, off, none⟩ ∧ TmsZ Z w ks b off)
def TmsZ (Z : Nat → Prop) (w : World) : List Tm → Nat → Nat → Prop
  | [], _, _ => True
  | t :: ts, b, off => (∃ c0 c1 c2 c3, w.cell? ⟨b, off, none⟩ = some c0 ∧ w.cell? ⟨b, off + 1, none⟩ = some c1 ∧ w.cell? ⟨b, off + 2, none⟩ = some c2 ∧ w.cell? ⟨b, off + 3, none⟩ = some c3 ∧ TmZ Z w t (.agg #[c0, c1, c2, c3])) ∧ TmsZ Z w ts b (off + 4)
end

theorem cell_turn {w w' : World} {a : Addr} {x : Value} (h : w.cell? a = some x) (hb : w'.heap[a.block]? = w.heap[a.block]?) : w'.cell? a = some x := by
  rw [World.cell?_of_block hb]; exact h

mutual
theorem TmZ.turn {Z : Nat → Prop} {w w' : World} (hz : ∀ k, Z k → w'.heap[k]? = w.heap[k]?) : ∀ (t : Tm) (v : Value), TmZ Z w t v → TmZ Z w' t v
  | .mk k s n ks, v, h => by
    unfold TmZ at h ⊢
    obtain ⟨ao, cap, rfl, h1, h2, h3, h4, h5, h6⟩ := h
    refine ⟨ao, cap, rfl, h1, h2, h3, h4, h5, fun h0 => ?_⟩
    obtain ⟨b, off, rfl, hb, ⟨c, T, hp⟩, h7⟩ := h6 h0
    exact ⟨b, off, rfl, hb, ⟨c, T, (hz b hb).trans hp⟩, TmsZ.turn hz ks b off hb h7⟩
theorem TmsZ.turn {Z : Nat → Prop} {w w' : World} (hz : ∀ k, Z k → w'.heap[k]? = w.heap[k]?) : ∀ (ks : List Tm) (b off : Nat), Z b → TmsZ Z w ks b off → TmsZ Z w' ks b off
  | [], _, _, _, _ => by unfold TmsZ; trivial
  | t :: ts, b, off, hb, h => by
    unfold TmsZ at h ⊢
    obtain ⟨⟨c0, c1, c2, c3, h0, h1, h2, h3, ht⟩, hr⟩ := h
    exact ⟨⟨c0, c1, c2, c3, cell_turn h0 (hz b hb), cell_turn h1 (hz b hb), cell_turn h2 (hz b hb), cell_turn h3 (hz b hb), TmZ.turn hz t _ ht⟩, TmsZ.turn hz ts b (off + 4) hb hr⟩
end

mutual
theorem TmZ.mono {Z Z' : Nat → Prop} {w : World} (hz : ∀ k, Z k → Z' k) : ∀ (t : Tm) (v : Value), TmZ Z w t v → TmZ Z' w t v
  | .mk k s n ks, v, h => by
    unfold TmZ at h ⊢
    obtain ⟨ao, cap, rfl, h1, h2, h3, h4, h5, h6⟩ := h
    refine ⟨ao, cap, rfl, h1, h2, h3, h4, h5, fun h0 => ?_⟩
    obtain ⟨b, off, rfl, hb, hp, h7⟩ := h6 h0
    exact ⟨b, off, rfl, hz b hb, hp, TmsZ.mono hz ks b off h7⟩
theorem TmsZ.mono {Z Z' : Nat → Prop} {w : World} (hz : ∀ k, Z k → Z' k) : ∀ (ks : List Tm) (b off : Nat), TmsZ Z w ks b off → TmsZ Z' w ks b off
  | [], _, _, _ => by unfold TmsZ; trivial
  | t :: ts, b, off, h => by
    unfold TmsZ at h ⊢
    obtain ⟨⟨c0, c1, c2, c3, h0, h1, h2, h3, ht⟩, hr⟩ := h
    exact ⟨⟨c0, c1, c2, c3, h0, h1, h2, h3, TmZ.mono hz t _ ht⟩, TmsZ.mono hz ts b (off + 4) hr⟩
end

mutual
theorem Own.toZ {e : TypeId} {w : World} : ∀ (t : Tm) (v : Value) (F : List Nat), Own e w t v F → TmZ (· < w.heap.size) w t v
  | .mk k s n ks, v, F, h => by
    unfold Own at h
    obtain ⟨sl, rfl, h1, h2, h3, h4⟩ := h
    unfold TmZ
    rcases h4 with ⟨rfl, rfl, _⟩ | ⟨g, cap, cs, F', rfl, h5, rfl, h6⟩
    · exact ⟨none, 0, rfl, h1, h2, h3, Nat.le_refl _, Nat.zero_le _, fun h => absurd rfl h⟩
    · have h5' := h5
      rcases h5.2 with ⟨h, _⟩ | ⟨g', cap', cur, hc, _, hh, hnc, hcm, hcs, htk⟩
      · cases h
      · cases hc
        refine ⟨_, cap, rfl, h1, h2, h3, hnc, hcm, fun _ => ⟨g, 0, rfl, (Array.getElem?_eq_some_iff.1 hh).1, ⟨cur, e, hh⟩, OwnRow.toZ ks cs F' g 0 h6 fun i hi => ?_⟩⟩
        have := h5'.cellAt i (by rw [← h5'.1]; exact hi)
        rw [Nat.zero_add]
        rw [this]
theorem OwnRow.toZ {e : TypeId} {w : World} : ∀ (ks : List Tm) (cs : List Value) (F : List Nat) (g off : Nat), OwnRow e w ks cs F → (∀ i, i < cs.length → w.cell? ⟨g, off + i, none⟩ = cs[i]?) → TmsZ (· < w.heap.size) w ks g off
  | [], _, _, _, _, _, _ => by unfold TmsZ; trivial
  | t :: ts, cs, F, g, off, h, hc => by
    unfold OwnRow at h
    obtain ⟨c0, c1, c2, c3, cs', F1, F2, rfl, rfl, h1, h2⟩ := h
    unfold TmsZ
    refine ⟨⟨c0, c1, c2, c3, hc 0 (by simp), hc 1 (by simp), hc 2 (by simp), hc 3 (by simp), Own.toZ t _ F1 h1⟩, OwnRow.toZ ts cs' F2 g (off + 4) h2 fun i hi => ?_⟩
    have := hc (i + 4) (by simp only [List.length_cons]; omega)
    rw [show off + (i + 4) = off + 4 + i by omega] at this
    rw [this]
    simp
end

theorem TmsZ.at {Z : Nat → Prop} {w : World} {b : Nat} : ∀ {ks : List Tm} {off : Nat}, TmsZ Z w ks b off → ∀ (j : Nat) (hj : j < ks.length),
    ∃ c0 c1 c2 c3, w.cell? ⟨b, off + j * 4, none⟩ = some c0 ∧ w.cell? ⟨b, off + j * 4 + 1, none⟩ = some c1 ∧ w.cell? ⟨b, off + j * 4 + 2, none⟩ = some c2 ∧ w.cell? ⟨b, off + j * 4 + 3, none⟩ = some c3 ∧ TmZ Z w ks[j] (.agg #[c0, c1, c2, c3])
  | [], _, _, j, hj => by simp at hj
  | t :: ts, off, h, 0, _ => by unfold TmsZ at h; simpa using h.1
  | t :: ts, off, h, j + 1, hj => by
    unfold TmsZ at h
    have := TmsZ.at h.2 j (by simpa using hj)
    rw [show off + 4 + j * 4 = off + (j + 1) * 4 by omega] at this
    exact this

/-- what may be read at a place is one thing -/
def DetOk (t : Tm) : Prop := ∀ (Z : Nat → Prop) (w : World) (u : Tm) (v : Value), TmZ Z w t v → TmZ Z w u v → t = u
theorem dets {Z : Nat → Prop} {w : World} {b : Nat} : ∀ (ks us : List Tm) (off : Nat), (∀ t ∈ ks, DetOk t) → ks.length = us.length → TmsZ Z w ks b off → TmsZ Z w us b off → ks = us
  | [], [], _, _, _, _, _ => rfl
  | [], _ :: _, _, _, h, _, _ => by simp at h
  | _ :: _, [], _, _, h, _, _ => by simp at h
  | t :: ts, u :: us, off, hd, hl, h, h' => by
    unfold TmsZ at h h'
    obtain ⟨⟨c0, c1, c2, c3, h0, h1, h2, h3, ht⟩, hr⟩ := h
    obtain ⟨⟨d0, d1, d2, d3, k0, k1, k2, k3, hu⟩, hr'⟩ := h'
    rw [h0] at k0; rw [h1] at k1; rw [h2] at k2; rw [h3] at k3
    cases k0; cases k1; cases k2; cases k3
    rw [hd t (by simp) Z w u _ ht hu, dets ts us (off + 4) (fun t' ht' => hd t' (by simp [ht'])) (by simpa using hl) hr hr']
theorem det (t : Tm) : DetOk t := by
  refine tm_ind (p := DetOk) ?_ t
  intro k s n ks hks Z w u v h h'
  obtain ⟨k', s', n', us⟩ := u
  unfold TmZ at h h'
  obtain ⟨ao, cap, rfl, h1, h2, h3, h4, h5, h6⟩ := h
  obtain ⟨ao', cap', he, _, _, _, _, _, h6'⟩ := h'
  obtain ⟨rfl, rfl, rfl, rfl, hl, rfl⟩ : k = k' ∧ s = s' ∧ n = n' ∧ ao = ao' ∧ ks.length = us.length ∧ cap = cap' := by simpa using he
  by_cases h0 : ks = []
  · subst h0
    have : us = [] := List.eq_nil_of_length_eq_zero (by simpa using hl.symm)
    rw [this]
  · obtain ⟨b, off, rfl, _, _, h7⟩ := h6 h0
    obtain ⟨b', off', e, _, _, h7'⟩ := h6' (by intro e; subst e; exact h0 (List.eq_nil_of_length_eq_zero (by simpa using hl)))
    cases e
    rw [dets ks us off hks hl h7 h7']

/-- a row's value: a list of terms -/
def RowZ (Z : Nat → Prop) (w : World) (ks : List Tm) (v : Value) : Prop :=
  ∃ ao cap, v = .slice ao ks.length cap ∧ ks.length ≤ cap ∧ cap ≤ maxLen ∧ (ks ≠ [] → ∃ b off, ao = some ⟨b, off, none⟩ ∧ Z b ∧ PB w ⟨b, off, none⟩ ∧ TmsZ Z w ks b off)
theorem RowZ.turn {Z : Nat → Prop} {w w' : World} (hz : ∀ k, Z k → w'.heap[k]? = w.heap[k]?) {ks : List Tm} {v : Value} (h : RowZ Z w ks v) : RowZ Z w' ks v := by
  obtain ⟨ao, cap, rfl, h4, h5, h6⟩ := h
  refine ⟨ao, cap, rfl, h4, h5, fun h0 => ?_⟩
  obtain ⟨b, off, rfl, hb, ⟨c, T, hp⟩, h7⟩ := h6 h0
  exact ⟨b, off, rfl, hb, ⟨c, T, (hz b hb).trans hp⟩, TmsZ.turn hz ks b off hb h7⟩

theorem least_ex (Q : Nat → Prop) (h : ∃ n, Q n) : ∃ n, Q n ∧ ∀ m, Q m → n ≤ m := by
  obtain ⟨n, hn⟩ := h
  induction n using Nat.strongRecOn with
  | ind n ih =>
    by_cases h : ∃ m, m < n ∧ Q m
    · obtain ⟨m, hm, hq⟩ := h
      exact ih m hm hq
    · exact ⟨n, hn, fun m hm => Nat.le_of_not_lt fun hl => h ⟨m, hl, hm⟩⟩
open Classical in
noncomputable def least (Q : Nat → Prop) : Nat := if h : ∃ n, Q n then Classical.choose (least_ex Q h) else 0
theorem least_le {Q : Nat → Prop} {n : Nat} (h : Q n) : least Q ≤ n := by
  unfold least
  rw [dif_pos ⟨n, h⟩]
  exact (Classical.choose_spec (least_ex Q ⟨n, h⟩)).2 n h
theorem least_is {Q : Nat → Prop} (h : ∃ n, Q n) : Q (least Q) := by
  unfold least
  rw [dif_pos h]
  exact (Classical.choose_spec (least_ex Q h)).1
end Go.Proofs.Ytgkchpjincmjfal

/- Four texts in one. -/
import Derived.Test.YtmhmlkdoaojimapDoorMrg1
import Derived.Laws.AppendOwn
import Derived.Maps.AppendAt
/- Decimal figures of a number, and a number of figures, as plain functions. -/
namespace Go.Proofs.YtmhmlkdoaojimapDoor

def decR (n : Nat) : List UInt8 := if _h : 0 < n then decR (n / 10) ++ [fig (n % 10)] else []
theorem decR_pos {n : Nat} (h : 0 < n) : decR n = decR (n / 10) ++ [fig (n % 10)] := by rw [decR]; simp [h]
theorem decR_zero : decR 0 = [] := by rw [decR]; simp
def decB (n : Nat) : List UInt8 := if n = 0 then [48] else decR n
def decI (n : Int) : List UInt8 := if n < 0 then 45 :: decR n.natAbs else decB n.toNat

theorem decR_len (k : Nat) : ∀ n, n < 10 ^ k → (decR n).length ≤ k := by
  induction k with
  | zero => intro n h; obtain rfl : n = 0 := by simpa using h
            rw [decR_zero]; simp
  | succ k ih =>
    intro n h
    by_cases hn : 0 < n
    · rw [decR_pos hn, List.length_append]
      have := ih (n / 10) (by rw [Nat.pow_succ] at h; omega)
      simp; omega
    · obtain rfl : n = 0 := by omega
      rw [decR_zero]; simp

theorem decR_ne {n : Nat} (h : 0 < n) : decR n ≠ [] := by rw [decR_pos h]; simp

theorem decR_head (n : Nat) (h : 0 < n) : (decR n).head? ≠ some 48 := by
  induction n using Nat.strongRecOn with
  | ind n ih =>
    rw [decR_pos h]
    by_cases h1 : 0 < n / 10
    · have := ih (n / 10) (by omega) h1
      cases hd : decR (n / 10) with
      | nil => exact absurd hd (decR_ne h1)
      | cons a r => rw [hd] at this; simpa using this
    · have e : n / 10 = 0 := by omega
      rw [e, decR_zero]
      simp only [List.nil_append, List.head?_cons, ne_eq, Option.some.injEq]
      intro e2
      have h2 := congrArg UInt8.toNat e2
      rw [fig_nat _ (by omega), if_pos (by omega)] at h2
      simp at h2
      omega

def digit (c : UInt8) : Prop := 48 ≤ c.toNat ∧ c.toNat ≤ 57
def numF (n : Nat) (l : List UInt8) : Nat := l.foldl (fun n c => 10 * n + (c.toNat - 48)) n
def numL (l : List UInt8) : Nat := numF 0 l
theorem numL_snoc (p : List UInt8) (c : UInt8) : numL (p ++ [c]) = 10 * numL p + (c.toNat - 48) := by simp [numL, numF]
theorem numF_ge (l : List UInt8) : ∀ n, n ≤ numF n l := by
  induction l with
  | nil => intro n; exact Nat.le_refl _
  | cons c r ih => intro n; have := ih (10 * n + (c.toNat - 48)); simp only [numF, List.foldl_cons] at *; omega
theorem numL_pre (p q : List UInt8) : numL p ≤ numL (p ++ q) := by
  have := numF_ge q (numF 0 p)
  simpa [numL, numF, List.foldl_append] using this
theorem numL_lt (l : List UInt8) (h : ∀ c ∈ l, digit c) : numL l < 10 ^ l.length := by
  rw [← List.reverse_reverse l] at *
  generalize l.reverse = r at *
  induction r with
  | nil => simp [numL, numF]
  | cons c r ih =>
    rw [List.reverse_cons] at *
    have h1 := ih (fun x hx => h x (by simp at hx; simp [hx]))
    have hc : digit c := h c (by simp)
    rw [numL_snoc, List.length_append, List.length_singleton, Nat.pow_succ]
    unfold digit at hc
    omega

/-- a number's figures: at least one, figures alone, no needless nought -/
def neat (l : List UInt8) : Prop := l ≠ [] ∧ (l.head? = some 48 → l.length = 1)

theorem head_snoc (p : List UInt8) (c : UInt8) (h : p ≠ []) : (p ++ [c]).head? = p.head? := by
  cases p with
  | nil => exact absurd rfl h
  | cons a r => rfl

theorem numL_big (r : List UInt8) : (∀ c ∈ r.reverse, digit c) → r ≠ [] → r.reverse.head? ≠ some 48 → 10 ^ (r.length - 1) ≤ numL r.reverse := by
  induction r with
  | nil => intro _ h; exact absurd rfl h
  | cons c r ih =>
    intro hd _ hh
    rw [List.reverse_cons] at *
    have hc : digit c := hd c (by simp)
    unfold digit at hc
    rw [numL_snoc]
    by_cases hr : r = []
    · subst hr
      simp only [List.reverse_nil, List.nil_append, List.head?_cons, ne_eq, Option.some.injEq] at hh
      have : c.toNat ≠ 48 := fun e => hh (UInt8.toNat_inj.1 (by simpa using e))
      simp [numL, numF]; omega
    · have hrr : r.reverse ≠ [] := by simpa using hr
      have h1 := ih (fun x hx => hd x (by simp at hx; simp [hx])) hr (by rw [head_snoc _ _ hrr] at hh; exact hh)
      have hl : 0 < r.length := List.length_pos_iff.2 hr
      have e : 10 ^ ((c :: r).length - 1) = 10 ^ (r.length - 1) * 10 := by
        rw [← Nat.pow_succ]; congr 1; simp; omega
      rw [e]; omega

theorem decB_num (r : List UInt8) : (∀ c ∈ r.reverse, digit c) → neat r.reverse → decB (numL r.reverse) = r.reverse := by
  induction r with
  | nil => intro _ h; exact absurd rfl h.1
  | cons c r ih =>
    intro hd hn
    rw [List.reverse_cons] at *
    have hc : digit c := hd c (by simp)
    unfold digit at hc
    have hf : fig (c.toNat - 48) = c := by
      unfold fig
      rw [if_pos (by omega), show 48 + (c.toNat - 48) = c.toNat by omega]
      simp
    by_cases hr : r = []
    · subst hr
      have e : numL ([] ++ [c]) = c.toNat - 48 := by simp [numL, numF]
      simp only [List.reverse_nil]
      rw [e]
      by_cases h0 : c.toNat - 48 = 0
      · have : c = 48 := UInt8.toNat_inj.1 (by simp; omega)
        subst this
        rfl
      · rw [decB, if_neg h0, decR_pos (by omega), show (c.toNat - 48) / 10 = 0 by omega, decR_zero, show (c.toNat - 48) % 10 = c.toNat - 48 by omega, hf]
    · have hrr : r.reverse ≠ [] := by simpa using hr
      have hh : r.reverse.head? ≠ some 48 := by
        intro e
        have := hn.2 (by rw [head_snoc _ _ hrr]; exact e)
        rw [List.length_append] at this
        have : r.reverse.length = 0 := by simp at this; simpa using this
        exact hrr (List.length_eq_zero_iff.1 this)
      have hdd : ∀ x ∈ r.reverse, digit x := fun x hx => hd x (by simp at hx; simp [hx])
      have h1 := ih hdd ⟨hrr, fun e => absurd e hh⟩
      have hpos : 0 < numL r.reverse := Nat.lt_of_lt_of_le (Nat.pow_pos (by omega)) (numL_big r hdd hr hh)
      rw [decB, if_neg (by omega)] at h1
      rw [numL_snoc, decB, if_neg (by omega), decR_pos (by omega), show (10 * numL r.reverse + (c.toNat - 48)) / 10 = numL r.reverse by omega,
        show (10 * numL r.reverse + (c.toNat - 48)) % 10 = c.toNat - 48 by omega, h1, hf]

theorem decB_neat (n : Nat) : neat (decB n) := by
  unfold decB
  split
  · exact ⟨by simp, fun _ => rfl⟩
  · rename_i h
    exact ⟨decR_ne (by omega), fun e => absurd e (decR_head n (by omega))⟩

def rdOk (l : List UInt8) : Prop := neat l ∧ (∀ c ∈ l, digit c) ∧ numL l ≤ 1000000000
def rdNo : Value := .tuple #[.int .i64 0, .bool false]

theorem dec_test (l : List UInt8) (h : ∀ c ∈ l, digit c) : (decB (numL l) == l) = true ↔ neat l := by
  constructor
  · intro e
    have e := beq_iff_eq.1 e
    rw [← e]; exact decB_neat _
  · intro hn
    have := decB_num l.reverse (by simpa using h) (by simpa using hn)
    simpa using this

theorem rdOk_len (l : List UInt8) (h : rdOk l) : l.length ≤ 10 := by
  obtain ⟨hn, hd, hb⟩ := h
  by_cases hh : l.head? = some 48
  · have := hn.2 hh; omega
  · have := numL_big l.reverse (by simpa using hd) (by simpa using hn.1) (by simpa using hh)
    rw [List.reverse_reverse, List.length_reverse] at this
    by_cases hl : l.length ≤ 10
    · exact hl
    · have : 10 ^ 10 ≤ 10 ^ (l.length - 1) := Nat.pow_le_pow_right (by omega) (by omega)
      omega
end Go.Proofs.YtmhmlkdoaojimapDoor

/- The predicates of Control, and the name of a term's predicate. Of no program. -/
namespace Go.Proofs.YtmhmlkdoaojimapDoor

def ctlL : List (List UInt8) := [[116, 114, 117, 101, 47, 48], [102, 97, 105, 108, 47, 48], [33, 47, 48], [44, 47, 50], [59, 47, 50], [45, 62, 47, 50], [92, 43, 47, 49], [99, 97, 108, 108, 47, 49], [99, 97, 108, 108, 47, 50], [99, 97, 108, 108, 47, 51], [99, 97, 116, 99, 104, 47, 51], [116, 104, 114, 111, 119, 47, 49], [61, 47, 50], [92, 61, 47, 50], [61, 61, 47, 50], [105, 115, 47, 50], [60, 47, 50], [61, 58, 61, 47, 50], [118, 97, 114, 47, 49], [97, 116, 111, 109, 47, 49], [119, 114, 105, 116, 101, 47, 49], [97, 115, 115, 101, 114, 116, 122, 47, 49], [114, 101, 116, 114, 97, 99, 116, 47, 49], [58, 45, 47, 50], [58, 45, 47, 49], [45, 45, 62, 47, 50]]
/-- one of the predicates of Control -/
def ctlB (s : ByteArray) : Bool := ctlL.any fun l => s.toList == l
theorem ctl_no {s : ByteArray} (e0 : (s.toList == [116, 114, 117, 101, 47, 48]) = false) (e1 : (s.toList == [102, 97, 105, 108, 47, 48]) = false) (e2 : (s.toList == [33, 47, 48]) = false) (e3 : (s.toList == [44, 47, 50]) = false) (e4 : (s.toList == [59, 47, 50]) = false) (e5 : (s.toList == [45, 62, 47, 50]) = false) (e6 : (s.toList == [92, 43, 47, 49]) = false) (e7 : (s.toList == [99, 97, 108, 108, 47, 49]) = false) (e8 : (s.toList == [99, 97, 108, 108, 47, 50]) = false) (e9 : (s.toList == [99, 97, 108, 108, 47, 51]) = false) (e10 : (s.toList == [99, 97, 116, 99, 104, 47, 51]) = false) (e11 : (s.toList == [116, 104, 114, 111, 119, 47, 49]) = false) (e12 : (s.toList == [61, 47, 50]) = false) (e13 : (s.toList == [92, 61, 47, 50]) = false) (e14 : (s.toList == [61, 61, 47, 50]) = false) (e15 : (s.toList == [105, 115, 47, 50]) = false) (e16 : (s.toList == [60, 47, 50]) = false) (e17 : (s.toList == [61, 58, 61, 47, 50]) = false) (e18 : (s.toList == [118, 97, 114, 47, 49]) = false) (e19 : (s.toList == [97, 116, 111, 109, 47, 49]) = false) (e20 : (s.toList == [119, 114, 105, 116, 101, 47, 49]) = false) (e21 : (s.toList == [97, 115, 115, 101, 114, 116, 122, 47, 49]) = false) (e22 : (s.toList == [114, 101, 116, 114, 97, 99, 116, 47, 49]) = false) (e23 : (s.toList == [58, 45, 47, 50]) = false) (e24 : (s.toList == [58, 45, 47, 49]) = false) (e25 : (s.toList == [45, 45, 62, 47, 50]) = false) : ctlB s = false := by
  unfold ctlB ctlL
  simp only [List.any_cons, List.any_nil, Bool.or_false, e0, e1, e2, e3, e4, e5, e6, e7, e8, e9, e10, e11, e12, e13, e14, e15, e16, e17, e18, e19, e20, e21, e22, e23, e24, e25]
/-- a text is no constant -/
theorem toL_neq {s : ByteArray} {l : List UInt8} (h : ¬ s = ⟨l.toArray⟩) : (s.toList == l) = false := by
  rw [beq_eq_false_iff_ne]
  intro e
  apply h
  rw [ByteArray.toList_eq] at e
  subst e
  simp
theorem decI_le (n : Int) (h : -999999999 ≤ n ∧ n ≤ 999999999) : (decI n).length ≤ 11 := by
  unfold decI
  split
  · have := decR_len 10 n.natAbs (by omega)
    simp only [List.length_cons]; omega
  · unfold decB
    split
    · decide
    · have := decR_len 10 n.toNat (by omega)
      omega
/-- the name of a term's predicate; empty of one that has none -/
def predB : Tm → ByteArray
  | .mk k s _ ks => if k = 2 ∨ k = 4 then s ++ ⟨#[47]⟩ ++ ⟨(decI (ks.length : Int)).toArray⟩ else ⟨#[]⟩
end Go.Proofs.YtmhmlkdoaojimapDoor

/- The clauses of one predicate. -/
namespace Go.Proofs.YtmhmlkdoaojimapDoor
open Go.RowKit

/-- those of one predicate -/
def ofPred (q : ByteArray) (cs : List Cla) : List Cla := cs.filter fun c => decide (predB c.h = q)
theorem ofPred_snoc (q : ByteArray) (cs : List Cla) (c : Cla) : ofPred q (cs ++ [c]) = if predB c.h = q then ofPred q cs ++ [c] else ofPred q cs := by
  unfold ofPred
  rw [List.filter_append]
  by_cases h : predB c.h = q
  · simp [h]
  · simp [h]

end Go.Proofs.YtmhmlkdoaojimapDoor

/- Terms whose rows of kids lie each in a block of its own: the blocks, and what stays where they stay. Of no program. -/
namespace Go.Proofs.YtmhmlkdoaojimapDoor
open Go.RowKit

mutual
/-- the value v is the term in w, its rows in the blocks F, in the order in which they are met -/
def Own (e : TypeId) (w : World) : Tm → Value → List Nat → Prop
  | .mk k s n ks, v, F => ∃ sl, v = .agg #[.int .i64 k, .string s, .int .i64 n, sl] ∧ (-9223372036854775808 ≤ k ∧ k ≤ 9223372036854775807) ∧ (-9223372036854775808 ≤ n ∧ n ≤ 9223372036854775807) ∧ s.size ≤ maxLen ∧
    ((sl = .slice none 0 0 ∧ ks = [] ∧ F = []) ∨ ∃ g cap cs F', sl = .slice (some ⟨g, 0, none⟩) ks.length cap ∧ w.ownsRow 0 e 4 sl ks.length cs ∧ F = g :: F' ∧ OwnRow e w ks cs F')
/-- .. the cells of a row, four each -/
def OwnRow (e : TypeId) (w : World) : List Tm → List Value → List Nat → Prop
  | [], cs, F => cs = [] ∧ F = []
  | t :: ts, cs, F => ∃ c0 c1 c2 c3 cs' F1 F2, cs = c0 :: c1 :: c2 :: c3 :: cs' ∧ F = F1 ++ F2 ∧ Own e w t (.agg #[c0, c1, c2, c3]) F1 ∧ OwnRow e w ts cs' F2
end

/-- a slice of terms, its own row and theirs -/
def OwnS (e : TypeId) (w : World) (ks : List Tm) (sl : Value) (F : List Nat) : Prop :=
  (sl = .slice none 0 0 ∧ ks = [] ∧ F = []) ∨ ∃ g cap cs F', sl = .slice (some ⟨g, 0, none⟩) ks.length cap ∧ w.ownsRow 0 e 4 sl ks.length cs ∧ F = g :: F' ∧ OwnRow e w ks cs F'

theorem own_mk {e : TypeId} {w : World} {k n : Int} {s : ByteArray} {ks : List Tm} {sl : Value} {F : List Nat} (h : OwnS e w ks sl F) (hk : -9223372036854775808 ≤ k ∧ k ≤ 9223372036854775807) (hn : -9223372036854775808 ≤ n ∧ n ≤ 9223372036854775807) (hs : s.size ≤ maxLen) :
    Own e w (.mk k s n ks) (.agg #[.int .i64 k, .string s, .int .i64 n, sl]) F := by
  unfold Own
  exact ⟨sl, rfl, hk, hn, hs, h⟩

theorem own_open {e : TypeId} {w : World} {k n : Int} {s : ByteArray} {ks : List Tm} {v : Value} {F : List Nat} (h : Own e w (.mk k s n ks) v F) :
    ∃ sl, v = .agg #[.int .i64 k, .string s, .int .i64 n, sl] ∧ OwnS e w ks sl F := by
  unfold Own at h
  obtain ⟨sl, rfl, _, _, _, h⟩ := h
  exact ⟨sl, rfl, h⟩

theorem row_keep {w w' : World} {B e size n g cap : Nat} {xs : List Value} (h : w.ownsRow B e size (.slice (some ⟨g, 0, none⟩) n cap) n xs) (hb : w'.heap[g]? = w.heap[g]?) : w'.ownsRow B e size (.slice (some ⟨g, 0, none⟩) n cap) n xs := by
  refine ⟨h.1, ?_⟩
  rcases h.2 with ⟨h, _⟩ | ⟨g', cap', cur, h1, h2, h3, h4⟩
  · cases h
  · cases h1
    exact Or.inr ⟨g, cap, cur, rfl, h2, hb.trans h3, h4⟩

mutual
theorem Own.keep {e : TypeId} {w w' : World} : ∀ (t : Tm) (v : Value) (F : List Nat), Own e w t v F → (∀ f ∈ F, w'.heap[f]? = w.heap[f]?) → Own e w' t v F
  | .mk k s n ks, v, F, h, hF => by
    unfold Own at h ⊢
    obtain ⟨sl, rfl, h1, h2, h3, h4⟩ := h
    refine ⟨sl, rfl, h1, h2, h3, ?_⟩
    rcases h4 with h4 | ⟨g, cap, cs, F', rfl, h5, rfl, h6⟩
    · exact Or.inl h4
    · exact Or.inr ⟨g, cap, cs, F', rfl, row_keep h5 (hF g (by simp)), rfl, OwnRow.keep ks cs F' h6 (fun f hf => hF f (by simp [hf]))⟩
theorem OwnRow.keep {e : TypeId} {w w' : World} : ∀ (ks : List Tm) (cs : List Value) (F : List Nat), OwnRow e w ks cs F → (∀ f ∈ F, w'.heap[f]? = w.heap[f]?) → OwnRow e w' ks cs F
  | [], _, _, h, _ => by unfold OwnRow at h ⊢; exact h
  | t :: ts, cs, F, h, hF => by
    unfold OwnRow at h ⊢
    obtain ⟨c0, c1, c2, c3, cs', F1, F2, rfl, rfl, h1, h2⟩ := h
    exact ⟨c0, c1, c2, c3, cs', F1, F2, rfl, rfl, Own.keep t _ F1 h1 (fun f hf => hF f (by simp [hf])), OwnRow.keep ts cs' F2 h2 (fun f hf => hF f (by simp [hf]))⟩
end

mutual
theorem Own.lt {e : TypeId} {w : World} : ∀ (t : Tm) (v : Value) (F : List Nat), Own e w t v F → ∀ f ∈ F, f < w.heap.size
  | .mk k s n ks, v, F, h => by
    unfold Own at h
    obtain ⟨sl, rfl, h1, h2, h3, h4⟩ := h
    rcases h4 with ⟨_, _, rfl⟩ | ⟨g, cap, cs, F', rfl, h5, rfl, h6⟩
    · intro f hf; cases hf
    · intro f hf
      rcases List.mem_cons.1 hf with rfl | hf
      · exact (h5.lt _ rfl).2
      · exact OwnRow.lt ks cs F' h6 f hf
theorem OwnRow.lt {e : TypeId} {w : World} : ∀ (ks : List Tm) (cs : List Value) (F : List Nat), OwnRow e w ks cs F → ∀ f ∈ F, f < w.heap.size
  | [], _, _, h => by unfold OwnRow at h; obtain ⟨_, rfl⟩ := h; intro f hf; cases hf
  | t :: ts, cs, F, h => by
    unfold OwnRow at h
    obtain ⟨c0, c1, c2, c3, cs', F1, F2, rfl, rfl, h1, h2⟩ := h
    intro f hf
    rcases List.mem_append.1 hf with hf | hf
    · exact Own.lt t _ F1 h1 f hf
    · exact OwnRow.lt ts cs' F2 h2 f hf
end

mutual
theorem Own.toIn {e : TypeId} {w : World} : ∀ (t : Tm) (v : Value) (F : List Nat), Own e w t v F → TmIn w t v
  | .mk k s n ks, v, F, h => by
    unfold Own at h
    obtain ⟨sl, rfl, h1, h2, h3, h4⟩ := h
    unfold TmIn
    rcases h4 with ⟨rfl, rfl, _⟩ | ⟨g, cap, cs, F', rfl, h5, rfl, h6⟩
    · exact ⟨none, 0, rfl, h1, h2, h3, Nat.le_refl _, Nat.zero_le _, fun h => absurd rfl h⟩
    · have h5' := h5
      rcases h5.2 with ⟨h, _⟩ | ⟨g', cap', cur, hc, _, hh, hnc, hcm, hcs, htk⟩
      · cases h
      · cases hc
        refine ⟨_, cap, rfl, h1, h2, h3, hnc, hcm, fun _ => ⟨g, 0, rfl, OwnRow.toIn ks cs F' g 0 h6 fun i hi => ?_⟩⟩
        have := h5'.cellAt i (by rw [← h5'.1]; exact hi)
        rw [Nat.zero_add]
        rw [this]
theorem OwnRow.toIn {e : TypeId} {w : World} : ∀ (ks : List Tm) (cs : List Value) (F : List Nat) (g off : Nat), OwnRow e w ks cs F → (∀ i, i < cs.length → w.cell? ⟨g, off + i, none⟩ = cs[i]?) → TmsIn w ks g off
  | [], _, _, _, _, _, _ => by unfold TmsIn; trivial
  | t :: ts, cs, F, g, off, h, hc => by
    unfold OwnRow at h
    obtain ⟨c0, c1, c2, c3, cs', F1, F2, rfl, rfl, h1, h2⟩ := h
    unfold TmsIn
    refine ⟨⟨c0, c1, c2, c3, hc 0 (by simp), hc 1 (by simp), hc 2 (by simp), hc 3 (by simp), Own.toIn t _ F1 h1⟩, OwnRow.toIn ts cs' F2 g (off + 4) h2 fun i hi => ?_⟩
    have := hc (i + 4) (by simp only [List.length_cons]; omega)
    rw [show off + (i + 4) = off + 4 + i by omega] at this
    rw [this]
    simp
end

theorem OwnS.keep {e : TypeId} {w w' : World} {ks : List Tm} {sl : Value} {F : List Nat} (h : OwnS e w ks sl F) (hF : ∀ f ∈ F, w'.heap[f]? = w.heap[f]?) : OwnS e w' ks sl F := by
  rcases h with h | ⟨g, cap, cs, F', rfl, h5, rfl, h6⟩
  · exact Or.inl h
  · exact Or.inr ⟨g, cap, cs, F', rfl, row_keep h5 (hF g (by simp)), rfl, OwnRow.keep ks cs F' h6 (fun f hf => hF f (by simp [hf]))⟩

theorem OwnRow.snoc {e : TypeId} {w : World} {t : Tm} {c0 c1 c2 c3 : Value} {F2 : List Nat} (h2 : Own e w t (.agg #[c0, c1, c2, c3]) F2) : ∀ (ks : List Tm) (cs : List Value) (F : List Nat), OwnRow e w ks cs F → OwnRow e w (ks ++ [t]) (cs ++ [c0, c1, c2, c3]) (F ++ F2)
  | [], _, _, h => by
    unfold OwnRow at h
    obtain ⟨rfl, rfl⟩ := h
    unfold OwnRow
    exact ⟨c0, c1, c2, c3, [], F2, [], rfl, by simp, h2, by unfold OwnRow; exact ⟨rfl, rfl⟩⟩
  | t' :: ts, cs, F, h => by
    unfold OwnRow at h
    obtain ⟨d0, d1, d2, d3, cs', F1, F3, rfl, rfl, h1, h3⟩ := h
    show OwnRow e w (t' :: (ts ++ [t])) _ _
    unfold OwnRow
    exact ⟨d0, d1, d2, d3, cs' ++ [c0, c1, c2, c3], F1, F3 ++ F2, by simp, by simp, h1, OwnRow.snoc h2 ts cs' F3 h3⟩

theorem OwnRow.len {e : TypeId} {w : World} : ∀ (ks : List Tm) (cs : List Value) (F : List Nat), OwnRow e w ks cs F → cs.length = ks.length * 4
  | [], _, _, h => by unfold OwnRow at h; obtain ⟨rfl, _⟩ := h; rfl
  | t :: ts, cs, F, h => by
    unfold OwnRow at h
    obtain ⟨c0, c1, c2, c3, cs', F1, F2, rfl, rfl, h1, h2⟩ := h
    have := OwnRow.len ts cs' F2 h2
    simp only [List.length_cons]
    omega

theorem own_shape {e : TypeId} {w : World} {t : Tm} {v : Value} {F : List Nat} (h : Own e w t v F) : ∃ k s n ao len cap, v = .agg #[.int .i64 k, .string s, .int .i64 n, .slice ao len cap] := by
  obtain ⟨k, s, n, ks⟩ := t
  obtain ⟨sl, rfl, h1⟩ := own_open h
  rcases h1 with ⟨rfl, _⟩ | ⟨g, cap, cs, F', rfl, _⟩
  · exact ⟨_, _, _, _, _, _, rfl⟩
  · exact ⟨_, _, _, _, _, _, rfl⟩

theorem blk_cell {w : World} {g i : Nat} {cur : Array Value} {T : TypeId} {fr : Nat × Nat} (h : w.heap[g]? = some (.cells cur T fr)) (hi : i < cur.size) : w.cell? ⟨g, i, none⟩ = some cur[i] := by
  unfold World.cell?; rw [h]; simp [hi]
theorem blk_frozen {w : World} {g : Nat} {cur : Array Value} {T : TypeId} (h : w.heap[g]? = some (.cells cur T (0, 0))) (i : Nat) : w.frozen? ⟨g, i, none⟩ = false := by
  unfold World.frozen?; rw [h]; simp
theorem blk_set {w : World} {g i : Nat} {cur : Array Value} {T : TypeId} {fr : Nat × Nat} (h : w.heap[g]? = some (.cells cur T fr)) (v : Value) : (w.setCell ⟨g, i, none⟩ v).heap[g]? = some (.cells (cur.setIfInBounds i v) T fr) := by
  simp [World.setCell, Array.getElem?_modify, h]
theorem blk_other {w : World} {g i f : Nat} (v : Value) (hf : f ≠ g) : (w.setCell ⟨g, i, none⟩ v).heap[f]? = w.heap[f]? := by
  simp [World.setCell, Array.getElem?_modify, Ne.symm hf]
theorem set4_take {cur : Array Value} {j : Nat} {d0 d1 d2 d3 : Value} (h : j * 4 + 3 < cur.size) :
    ((((cur.setIfInBounds (j * 4) d0).setIfInBounds (j * 4 + 1) d1).setIfInBounds (j * 4 + 2) d2).setIfInBounds (j * 4 + 3) d3).toList.take ((j + 1) * 4) = cur.toList.take (j * 4) ++ [d0, d1, d2, d3] := by
  apply List.ext_getElem?
  intro i
  have hl : cur.toList.length = cur.size := by simp
  simp only [Array.toList_setIfInBounds, List.getElem?_take, List.getElem?_set, List.length_set, List.getElem?_append, List.length_take, hl]
  have e1 : min (j * 4) cur.size = j * 4 := by omega
  rw [e1]
  by_cases h1 : i < j * 4
  · have a1 : i < (j + 1) * 4 := by omega
    have a2 : ¬ j * 4 = i := by omega
    have a3 : ¬ j * 4 + 1 = i := by omega
    have a4 : ¬ j * 4 + 2 = i := by omega
    have a5 : ¬ j * 4 + 3 = i := by omega
    simp [h1, a1, a2, a3, a4, a5]
  · by_cases h2 : i < (j + 1) * 4
    · have : i = j * 4 ∨ i = j * 4 + 1 ∨ i = j * 4 + 2 ∨ i = j * 4 + 3 := by omega
      rcases this with rfl | rfl | rfl | rfl
      · have b1 : j * 4 < cur.size := by omega
        simp [h2, b1]
      · have b1 : j * 4 + 1 < cur.size := by omega
        simp [h2, b1]
        omega
      · have b1 : j * 4 + 2 < cur.size := by omega
        simp [h2, b1]
        omega
      · simp [h2, h]
        omega
    · have : ¬ i - j * 4 < 4 := by omega
      have a6 : [d0, d1, d2, d3][i - j * 4]? = none := by
        rw [List.getElem?_eq_none]; simp; omega
      simp [h1, h2, a6]
end Go.Proofs.YtmhmlkdoaojimapDoor

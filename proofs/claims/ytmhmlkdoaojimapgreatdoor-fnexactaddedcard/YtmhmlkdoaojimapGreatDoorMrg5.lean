/- Four texts in one. -/
import Derived.Test.YtmhmlkdoaojimapGreatDoorMrg4
import Derived.Test.YtmhmlkdoaojimapGreatDoorRows
import Derived.Laws.Concat
import Derived.WalkKit
import Derived.WalkSpells
import Derived.ProofKit
import Derived.OpenShut
import Derived.Test.YtmhmlkdoaojimapGreatDoorMrg3
import Derived.BigQuiet
import Derived.Laws.OwnMore
/- Decimal figures of a number, and a number of figures, as plain functions. -/
namespace Go.Proofs.YtmhmlkdoaojimapGreatDoor

def decR (n : Nat) : List UInt8 := if _h : 0 < n then decR (n / 10) ++ [fig (n % 10)] else []
theorem decR_pos {n : Nat} (h : 0 < n) : decR n = decR (n / 10) ++ [fig (n % 10)] := by rw [decR]; simp [h]
theorem decR_zero : decR 0 = [] := by rw [decR]; simp
def decB (n : Nat) : List UInt8 := if n = 0 then [48] else decR n
def decI (n : Int) : List UInt8 := if n < 0 then 45 :: decR n.natAbs else decB n.toNat

theorem decR_len (k : Nat) : ∀ n, n < 10 ^ k → (decR n).length ≤ k := by
  induction k with
  | zero => intro n h; obtain rfl : n = 0 := by simpa using h
            rw [decR_zero]; simp
  | succ k ih =>
    intro n h
    by_cases hn : 0 < n
    · rw [decR_pos hn, List.length_append]
      have := ih (n / 10) (by rw [Nat.pow_succ] at h; omega)
      simp; omega
    · obtain rfl : n = 0 := by omega
      rw [decR_zero]; simp

theorem decR_ne {n : Nat} (h : 0 < n) : decR n ≠ [] := by rw [decR_pos h]; simp

theorem decR_head (n : Nat) (h : 0 < n) : (decR n).head? ≠ some 48 := by
  induction n using Nat.strongRecOn with
  | ind n ih =>
    rw [decR_pos h]
    by_cases h1 : 0 < n / 10
    · have := ih (n / 10) (by omega) h1
      cases hd : decR (n / 10) with
      | nil => exact absurd hd (decR_ne h1)
      | cons a r => rw [hd] at this; simpa using this
    · have e : n / 10 = 0 := by omega
      rw [e, decR_zero]
      simp only [List.nil_append, List.head?_cons, ne_eq, Option.some.injEq]
      intro e2
      have h2 := congrArg UInt8.toNat e2
      rw [fig_nat _ (by omega), if_pos (by omega)] at h2
      simp at h2
      omega

def digit (c : UInt8) : Prop := 48 ≤ c.toNat ∧ c.toNat ≤ 57
def numF (n : Nat) (l : List UInt8) : Nat := l.foldl (fun n c => 10 * n + (c.toNat - 48)) n
def numL (l : List UInt8) : Nat := numF 0 l
theorem numL_snoc (p : List UInt8) (c : UInt8) : numL (p ++ [c]) = 10 * numL p + (c.toNat - 48) := by simp [numL, numF]
theorem numF_ge (l : List UInt8) : ∀ n, n ≤ numF n l := by
  induction l with
  | nil => intro n; exact Nat.le_refl _
  | cons c r ih => intro n; have := ih (10 * n + (c.toNat - 48)); simp only [numF, List.foldl_cons] at *; omega
theorem numL_pre (p q : List UInt8) : numL p ≤ numL (p ++ q) := by
  have := numF_ge q (numF 0 p)
  simpa [numL, numF, List.foldl_append] using this
theorem numL_lt (l : List UInt8) (h : ∀ c ∈ l, digit c) : numL l < 10 ^ l.length := by
  rw [← List.reverse_reverse l] at *
  generalize l.reverse = r at *
  induction r with
  | nil => simp [numL, numF]
  | cons c r ih =>
    rw [List.reverse_cons] at *
    have h1 := ih (fun x hx => h x (by simp at hx; simp [hx]))
    have hc : digit c := h c (by simp)
    rw [numL_snoc, List.length_append, List.length_singleton, Nat.pow_succ]
    unfold digit at hc
    omega

/-- a number's figures: at least one, figures alone, no needless nought -/
def neat (l : List UInt8) : Prop := l ≠ [] ∧ (l.head? = some 48 → l.length = 1)

theorem head_snoc (p : List UInt8) (c : UInt8) (h : p ≠ []) : (p ++ [c]).head? = p.head? := by
  cases p with
  | nil => exact absurd rfl h
  | cons a r => rfl

theorem numL_big (r : List UInt8) : (∀ c ∈ r.reverse, digit c) → r ≠ [] → r.reverse.head? ≠ some 48 → 10 ^ (r.length - 1) ≤ numL r.reverse := by
  induction r with
  | nil => intro _ h; exact absurd rfl h
  | cons c r ih =>
    intro hd _ hh
    rw [List.reverse_cons] at *
    have hc : digit c := hd c (by simp)
    unfold digit at hc
    rw [numL_snoc]
    by_cases hr : r = []
    · subst hr
      simp only [List.reverse_nil, List.nil_append, List.head?_cons, ne_eq, Option.some.injEq] at hh
      have : c.toNat ≠ 48 := fun e => hh (UInt8.toNat_inj.1 (by simpa using e))
      simp [numL, numF]; omega
    · have hrr : r.reverse ≠ [] := by simpa using hr
      have h1 := ih (fun x hx => hd x (by simp at hx; simp [hx])) hr (by rw [head_snoc _ _ hrr] at hh; exact hh)
      have hl : 0 < r.length := List.length_pos_iff.2 hr
      have e : 10 ^ ((c :: r).length - 1) = 10 ^ (r.length - 1) * 10 := by
        rw [← Nat.pow_succ]; congr 1; simp; omega
      rw [e]; omega

theorem decB_num (r : List UInt8) : (∀ c ∈ r.reverse, digit c) → neat r.reverse → decB (numL r.reverse) = r.reverse := by
  induction r with
  | nil => intro _ h; exact absurd rfl h.1
  | cons c r ih =>
    intro hd hn
    rw [List.reverse_cons] at *
    have hc : digit c := hd c (by simp)
    unfold digit at hc
    have hf : fig (c.toNat - 48) = c := by
      unfold fig
      rw [if_pos (by omega), show 48 + (c.toNat - 48) = c.toNat by omega]
      simp
    by_cases hr : r = []
    · subst hr
      have e : numL ([] ++ [c]) = c.toNat - 48 := by simp [numL, numF]
      simp only [List.reverse_nil]
      rw [e]
      by_cases h0 : c.toNat - 48 = 0
      · have : c = 48 := UInt8.toNat_inj.1 (by simp; omega)
        subst this
        rfl
      · rw [decB, if_neg h0, decR_pos (by omega), show (c.toNat - 48) / 10 = 0 by omega, decR_zero, show (c.toNat - 48) % 10 = c.toNat - 48 by omega, hf]
    · have hrr : r.reverse ≠ [] := by simpa using hr
      have hh : r.reverse.head? ≠ some 48 := by
        intro e
        have := hn.2 (by rw [head_snoc _ _ hrr]; exact e)
        rw [List.length_append] at this
        have : r.reverse.length = 0 := by simp at this; simpa using this
        exact hrr (List.length_eq_zero_iff.1 this)
      have hdd : ∀ x ∈ r.reverse, digit x := fun x hx => hd x (by simp at hx; simp [hx])
      have h1 := ih hdd ⟨hrr, fun e => absurd e hh⟩
      have hpos : 0 < numL r.reverse := Nat.lt_of_lt_of_le (Nat.pow_pos (by omega)) (numL_big r hdd hr hh)
      rw [decB, if_neg (by omega)] at h1
      rw [numL_snoc, decB, if_neg (by omega), decR_pos (by omega), show (10 * numL r.reverse + (c.toNat - 48)) / 10 = numL r.reverse by omega,
        show (10 * numL r.reverse + (c.toNat - 48)) % 10 = c.toNat - 48 by omega, h1, hf]

theorem decB_neat (n : Nat) : neat (decB n) := by
  unfold decB
  split
  · exact ⟨by simp, fun _ => rfl⟩
  · rename_i h
    exact ⟨decR_ne (by omega), fun e => absurd e (decR_head n (by omega))⟩

def rdOk (l : List UInt8) : Prop := neat l ∧ (∀ c ∈ l, digit c) ∧ numL l ≤ 1000000000
def rdNo : Value := .tuple #[.int .i64 0, .bool false]

theorem dec_test (l : List UInt8) (h : ∀ c ∈ l, digit c) : (decB (numL l) == l) = true ↔ neat l := by
  constructor
  · intro e
    have e := beq_iff_eq.1 e
    rw [← e]; exact decB_neat _
  · intro hn
    have := decB_num l.reverse (by simpa using h) (by simpa using hn)
    simpa using this

theorem rdOk_len (l : List UInt8) (h : rdOk l) : l.length ≤ 10 := by
  obtain ⟨hn, hd, hb⟩ := h
  by_cases hh : l.head? = some 48
  · have := hn.2 hh; omega
  · have := numL_big l.reverse (by simpa using hd) (by simpa using hn.1) (by simpa using hh)
    rw [List.reverse_reverse, List.length_reverse] at this
    by_cases hl : l.length ≤ 10
    · exact hl
    · have : 10 ^ 10 ≤ 10 ^ (l.length - 1) := Nat.pow_le_pow_right (by omega) (by omega)
      omega
end Go.Proofs.YtmhmlkdoaojimapGreatDoor

/- One figure ahead of others: what the conversion and the joining of two texts give. -/
namespace Go.Proofs.YtmhmlkdoaojimapGreatDoor
open Go.RowKit

theorem conv_one (W : World) (b : UInt8) :
    (convert 90 9 (.slice (some ⟨W.heap.size, 0, none⟩) 1 1)).run Tryz.prog (W.alloc (.cells #[.int .u8 (b.toNat : Int)] 5)) = .ok (.string ⟨#[b]⟩) (W.alloc (.cells #[.int .u8 (b.toNat : Int)] 5)) := by
  refine run_convert_bytes_back (P := Tryz.prog) _ 90 9 5 ⟨W.heap.size, 0, none⟩ 1 [b] Tryz.underlying90 Tryz.underlying5 Tryz.underlying9 fun j hj => ?_
  match j, hj with
  | 0, _ => simp [Addr.add]

theorem add_one (b : UInt8) (q : List UInt8) (hq : q.length ≤ 30) (u : World) :
    (Op.stringOp .add ⟨#[b]⟩ ⟨q.toArray⟩).run Tryz.prog u = .ok (.string ⟨(b :: q).toArray⟩) u := by
  have h := run_string_add_sum (P := Tryz.prog) u ⟨#[b]⟩ ⟨q.toArray⟩ (by rw [size_mk, size_mk, List.length_singleton]; omega)
  have e : (⟨#[b]⟩ : ByteArray) ++ ⟨q.toArray⟩ = ⟨(b :: q).toArray⟩ := by rw [ByteArray.mk_append_mk]; congr 1
  rw [h, e]

theorem dec_step {m N : Nat} {q : List UInt8} (hm : 0 < m) (h : decR m ++ q = decR N) : decR (m / 10) ++ (fig (m % 10) :: q) = decR N := by
  rw [decR_pos hm] at h
  rw [← h]; simp
theorem dec_q {m N : Nat} {q : List UInt8} (hN : N ≤ 9223372036854775808) (h : decR m ++ q = decR N) : q.length ≤ 20 := by
  have h1 := decR_len 20 N (by omega)
  rw [← h, List.length_append] at h1
  omega

end Go.Proofs.YtmhmlkdoaojimapGreatDoor

/- The laws' markText writes a letter and decimal figures. -/
namespace Go.Proofs.YtmhmlkdoaojimapGreatDoor
open Go.RowKit

def mkS (k : Nat) : List UInt8 := 109 :: decR k

set_option maxHeartbeats 1000000 in
theorem mark_any (N : Nat) (w : World) (h0 : 0 < N) (hN : N ≤ 4611686018427387904) :
    Calls Tryz.prog 48 #[.int .i64 (N : Int)] w fun e w' => e = .returned (.string ⟨(mkS N).toArray⟩) ∧ Below w.heap.size w w' := by
  have hfin := add_one 109 (decR N) (by have := decR_len 20 N (by omega); omega)
  unfold mkS
  go_enter Tryz.func48, Tryz.ntmps48
  go_wp2
  go_loopw [0, 3] (fun vn vs wr => ∃ (m : Nat) (q : List UInt8), vn = .int .i64 m ∧ vs = .string ⟨q.toArray⟩ ∧ m ≤ N ∧ q.length ≤ 20 ∧ Hid (decR m ++ q = decR N) ∧ Below w.heap.size w wr)
    (fun vn _ _ => (intOf vn).toNat)
  case atStart => exact ⟨N, [], rfl, rfl, Nat.le_refl _, by simp, by show _ = _; simp, Below.refl _ _⟩
  case round =>
    obtain ⟨m, q, rfl, rfl, hmN, hql, hq, hb⟩ := hrel
    have hsz := hb.size
    by_cases hm : m = 0
    · subst hm
      have hf : q = decR N := by have := hq.out; rwa [decR_zero, List.nil_append] at this
      subst hf
      clear hq
      go_wp2
      go_ret
      exact ⟨rfl, hb⟩
    · have hmp : 0 < m := by omega
      have hadd := add_one (fig (m % 10)) q (by omega)
      have e : ((fig (m % 10)).toNat : Int) = 48 + (m : Int) % 10 := by rw [fig_nat _ (by omega), if_pos (by omega)]; omega
      have hcv : ∀ W : World, (convert 90 9 (.slice (some ⟨W.heap.size, 0, none⟩) 1 1)).run Tryz.prog (W.alloc (.cells #[.int .u8 (48 + (m : Int) % 10)] 5)) = .ok (.string ⟨#[fig (m % 10)]⟩) (W.alloc (.cells #[.int .u8 (48 + (m : Int) % 10)] 5)) := by
        intro W; have := conv_one W (fig (m % 10)); rwa [e] at this
      have hq' : Hid _ := dec_step hmp hq.out
      have hql' := dec_q (by omega) hq'.out
      clear hm hq hfin e
      go_wp2
      go_roundw
      case rel => exact ⟨m / 10, _, by go_num, rfl, by omega, hql', hq', hb.alloc hsz _⟩
      case measure => simp [intOf]; omega

theorem mark_int (n : Int) (w : World) (h0 : 0 < n) (hN : n ≤ 4611686018427387904) :
    Calls Tryz.prog 48 #[.int .i64 n] w fun e w' => e = .returned (.string ⟨(mkS n.toNat).toArray⟩) ∧ Below w.heap.size w w' := by
  have := mark_any n.toNat w (by omega) (by omega)
  rwa [show (n.toNat : Int) = n by omega] at this
end Go.Proofs.YtmhmlkdoaojimapGreatDoor

/- Rows of texts that a call owns, and the laws' three walks over them: held alike, marked, and found marked. -/
namespace Go.Proofs.YtmhmlkdoaojimapGreatDoor
open Go.RowKit Go.BigFrame

def strsV (xs : List (List UInt8)) : List Value := xs.map fun l => Value.string ⟨l.toArray⟩
theorem strsV_len (xs : List (List UInt8)) : (strsV xs).length = xs.length := by simp [strsV]
theorem strsV_get (xs : List (List UInt8)) (j : Nat) (h : j < xs.length) : (strsV xs)[j]? = some (Value.string ⟨xs[j].toArray⟩) := by simp [strsV, h]
theorem strsV_append (xs ys : List (List UInt8)) : strsV (xs ++ ys) = strsV xs ++ strsV ys := by simp [strsV]

theorem owns_base {w : World} {B B' e size n : Nat} {v : Value} {xs : List Value} (h : w.ownsRow B e size v n xs) (hB : B' ≤ B) : w.ownsRow B' e size v n xs := by
  refine ⟨h.1, ?_⟩
  rcases h.2 with h | ⟨g, cap, cur, h1, h2, h3⟩
  · exact Or.inl h
  · exact Or.inr ⟨g, cap, cur, h1, Nat.le_trans hB h2, h3⟩

theorem owns_below {w w' : World} {B e size n : Nat} {v : Value} {xs : List Value} (h : w.ownsRow B e size v n xs) (hb : Below w.heap.size w w') : w'.ownsRow B e size v n xs := by
  refine ⟨h.1, ?_⟩
  rcases h.2 with h | ⟨g, cap, cur, h1, h2, h3, h4⟩
  · exact Or.inl h
  · exact Or.inr ⟨g, cap, cur, h1, h2, (hb.block g (Array.getElem?_eq_some_iff.1 h3).1).trans h3, h4⟩

theorem below_draw (B : Nat) (w : World) (n : Nat) : Below B w (w.drewN n) := ⟨rfl, rfl, rfl, Nat.le_refl _, fun _ _ => rfl⟩

set_option maxHeartbeats 1000000 in
theorem eqS_same (xs : List (List UInt8)) (a b : Value) (w : World) (hl : xs.length ≤ 1100000) (ha : w.ownsRow 0 9 1 a xs.length (strsV xs)) (hb : w.ownsRow 0 9 1 b xs.length (strsV xs)) :
    Calls Tryz.prog 27 #[a, b] w fun e w' => e = .returned (.bool true) ∧ Below w.heap.size w w' := by
  by_cases h0 : xs = []
  · subst h0
    rcases ha.2 with ⟨rfl, _⟩ | ⟨g, cap, cur, rfl, _⟩
    all_goals
      rcases hb.2 with ⟨rfl, _⟩ | ⟨g', cap', cur', rfl, _⟩
      all_goals
        clear ha hb
        go_enter Tryz.func27, Tryz.ntmps27
        go_wp2
        refine wp_loop_rounds 1 ?_
        rw [rounds_succ]
        go_wp2
        go_ret
        exact ⟨rfl, Below.refl _ _⟩
  · have hpos : 0 < xs.length := List.length_pos_iff.2 h0
    have ha' := ha
    have hb' := hb
    rcases ha.2 with ⟨rfl, hz⟩ | ⟨g, cap, cur, rfl, _⟩
    · omega
    rcases hb.2 with ⟨rfl, hz⟩ | ⟨g', cap', cur', rfl, _⟩
    · omega
    clear ha hb h0
    have hne : ((xs.length : Int) != (xs.length : Int)) = false := by simp
    go_enter Tryz.func27, Tryz.ntmps27
    go_wp2
    go_loopw [5] (fun i wr => ∃ k : Nat, k ≤ xs.length ∧ i = .int .i64 k ∧ Below w.heap.size w wr) (fun i _ => xs.length - (intOf i).toNat)
    case atStart => exact ⟨0, Nat.zero_le _, rfl, Below.refl _ _⟩
    case round =>
      obtain ⟨k, hk, rfl, hbel⟩ := hrel
      have ra := owns_below ha' hbel
      have rb := owns_below hb' hbel
      by_cases hlt : k < xs.length
      · have ca : wr.cell? ⟨g, k, none⟩ = some (.string ⟨xs[k].toArray⟩) := (ra.cellAt k (by omega)).trans (strsV_get xs k hlt)
        have cb : wr.cell? ⟨g', k, none⟩ = some (.string ⟨xs[k].toArray⟩) := (rb.cellAt k (by omega)).trans (strsV_get xs k hlt)
        clear ra rb
        go_wp2
        go_quiet (fail)
        go_wp2
        go_roundw
        case rel => exact ⟨k + 1, by omega, by go_num, hbel.trans (below_draw _ _ _)⟩
        case measure => simp [intOf]; omega
      · clear ra rb
        go_wp2
        go_ret
        exact ⟨rfl, hbel⟩

def marks (n : Nat) : List (List UInt8) := (List.range n).map fun j => mkS (j + 1)
theorem marks_len (n : Nat) : (marks n).length = n := by simp [marks]
theorem marks_get (n j : Nat) (h : j < n) : (marks n)[j]? = some (mkS (j + 1)) := by simp [marks, h]
theorem marks_succ (n : Nat) : marks (n + 1) = marks n ++ [mkS (n + 1)] := by simp [marks, List.range_succ]

theorem strsV_set (xs : List (List UInt8)) (j : Nat) (l : List UInt8) : (strsV xs).set j (Value.string ⟨l.toArray⟩) = strsV (xs.set j l) := by
  simp [strsV, List.map_set]

theorem take_set (ys : List (List UInt8)) (i : Nat) (l : List UInt8) (h : i < ys.length) : (ys.set i l).take (i + 1) = ys.take i ++ [l] := by
  rw [List.take_succ_eq_append_getElem (by simpa using h), List.getElem_set_self, List.take_set_of_le (Nat.le_refl _)]

end Go.Proofs.YtmhmlkdoaojimapGreatDoor

/- Four texts in one. -/
import Derived.WalkKit
import Derived.WalkSpells
import Derived.Below
import Derived.ProofKit
import Derived.Laws.IdiomStrings
/- Terms as a tree, and where they lie in memory. Of no program. -/
namespace Go.Proofs.YtenmhpalpfppmaoDoor
open Go.RowKit

inductive Tm where
  | mk : Int → ByteArray → Int → List Tm → Tm

/-- bytes of names and kids, all together -/
def Tm.wt : Tm → Nat
  | .mk _ s _ ks => s.size + ks.length + wts ks
where wts : List Tm → Nat
  | [] => 0
  | t :: ts => t.wt + wts ts
abbrev wts := Tm.wt.wts

mutual
/-- the value v is the term in w -/
def TmIn (w : World) : Tm → Value → Prop
  | .mk k s n ks, v => ∃ ao cap, v = .agg #[.int .i64 k, .string s, .int .i64 n, .slice ao ks.length cap] ∧ (-9223372036854775808 ≤ k ∧ k ≤ 9223372036854775807) ∧ (-9223372036854775808 ≤ n ∧ n ≤ 9223372036854775807) ∧
    s.size ≤ maxLen ∧ ks.length ≤ cap ∧ cap ≤ maxLen ∧ (ks ≠ [] → ∃ b off, ao = some ⟨b, off, none⟩ ∧ TmsIn w ks b off)
/-- .. the terms lie in a row, four cells each -/
def TmsIn (w : World) : List Tm → Nat → Nat → Prop
  | [], _, _ => True
  | t :: ts, b, off => (∃ c0 c1 c2 c3, w.cell? ⟨b, off, none⟩ = some c0 ∧ w.cell? ⟨b, off + 1, none⟩ = some c1 ∧ w.cell? ⟨b, off + 2, none⟩ = some c2 ∧ w.cell? ⟨b, off + 3, none⟩ = some c3 ∧ TmIn w t (.agg #[c0, c1, c2, c3])) ∧ TmsIn w ts b (off + 4)
end

theorem cell_blk {w : World} {a : Addr} {x : Value} (h : w.cell? a = some x) : a.block < w.heap.size := by
  unfold World.cell? at h
  split at h
  · rename_i hb; exact (Array.getElem?_eq_some_iff.1 hb).1
  · cases h

theorem cell_keep {w w' : World} {a : Addr} {x : Value} (h : w.cell? a = some x) (hb : Below w.heap.size w w') : w'.cell? a = some x := by
  rw [World.cell?_of_block (hb.block a.block (cell_blk h))]; exact h

theorem below_set {B g i : Nat} {w w' : World} (h : Below B w w') (hg : B ≤ g) (v : Value) : Below B w (w'.setCell ⟨g, i, none⟩ v) :=
  ⟨h.os, h.tape, h.output, by simpa [World.setCell] using h.size, fun k hk => by
    have : g ≠ k := by omega
    rw [← h.block k hk]
    simp [World.setCell, Array.getElem?_modify, this]⟩

mutual
theorem TmIn.keep {w w' : World} (hb : Below w.heap.size w w') : ∀ (t : Tm) (v : Value), TmIn w t v → TmIn w' t v
  | .mk k s n ks, v, h => by
    obtain ⟨ao, cap, rfl, h1, h2, h3, h4, h5, h6⟩ := h
    refine ⟨ao, cap, rfl, h1, h2, h3, h4, h5, fun h0 => ?_⟩
    obtain ⟨b, off, rfl, h7⟩ := h6 h0
    exact ⟨b, off, rfl, TmsIn.keep hb ks b off h7⟩
theorem TmsIn.keep {w w' : World} (hb : Below w.heap.size w w') : ∀ (ks : List Tm) (b off : Nat), TmsIn w ks b off → TmsIn w' ks b off
  | [], _, _, _ => trivial
  | t :: ts, b, off, h => by
    obtain ⟨⟨c0, c1, c2, c3, h0, h1, h2, h3, ht⟩, hr⟩ := h
    exact ⟨⟨c0, c1, c2, c3, cell_keep h0 hb, cell_keep h1 hb, cell_keep h2 hb, cell_keep h3 hb, TmIn.keep hb t _ ht⟩, TmsIn.keep hb ts b (off + 4) hr⟩
end

theorem TmsIn.at {w : World} {b : Nat} : ∀ {ks : List Tm} {off : Nat}, TmsIn w ks b off → ∀ (j : Nat) (hj : j < ks.length),
    ∃ c0 c1 c2 c3, w.cell? ⟨b, off + j * 4, none⟩ = some c0 ∧ w.cell? ⟨b, off + j * 4 + 1, none⟩ = some c1 ∧ w.cell? ⟨b, off + j * 4 + 2, none⟩ = some c2 ∧ w.cell? ⟨b, off + j * 4 + 3, none⟩ = some c3 ∧ TmIn w ks[j] (.agg #[c0, c1, c2, c3])
  | [], _, _, j, hj => by simp at hj
  | t :: ts, off, h, 0, _ => by simpa using h.1
  | t :: ts, off, h, j + 1, hj => by
    have := TmsIn.at h.2 j (by simpa using hj)
    rw [show off + 4 + j * 4 = off + (j + 1) * 4 by omega] at this
    exact this

theorem tm_kid_lt {k n : Int} {s : ByteArray} {ks : List Tm} {t : Tm} (h : t ∈ ks) : SizeOf.sizeOf t < SizeOf.sizeOf (Tm.mk k s n ks) := by
  have := List.sizeOf_lt_of_mem h
  simp
  omega

/-- what is proved of a term where it is proved of its kids -/
theorem tm_ind {p : Tm → Prop} (h : ∀ k s n ks, (∀ t ∈ ks, p t) → p (.mk k s n ks)) (t : Tm) : p t := by
  have : ∀ m, ∀ t, SizeOf.sizeOf t < m → p t := by
    intro m
    induction m with
    | zero => intro t ht; omega
    | succ m ih =>
      intro t ht
      obtain ⟨k, s, n, ks⟩ := t
      exact h k s n ks fun t' h' => ih t' (by have := tm_kid_lt (k := k) (n := n) (s := s) h'; omega)
  exact this _ t (Nat.lt_succ_self _)

theorem wts_append (l m : List Tm) : wts (l ++ m) = wts l + wts m := by
  induction l with
  | nil => simp [wts, Tm.wt.wts]
  | cons t r ih => simp only [List.cons_append, wts, Tm.wt.wts] at *; omega
end Go.Proofs.YtenmhpalpfppmaoDoor

/- The bytes of a number, seven bits each, as a plain function, and what one round of the loop does to them. -/
namespace Go.Proofs.YtenmhpalpfppmaoDoor
open Go.RowKit

def varB (n : Nat) : List UInt8 := if h : 127 < n then UInt8.ofNat (n % 128 + 128) :: varB (n / 128) else [UInt8.ofNat n]

theorem varB_more {n : Nat} (h : 127 < n) : varB n = UInt8.ofNat (n % 128 + 128) :: varB (n / 128) := by
  rw [varB]; simp [h]
theorem varB_last {n : Nat} (h : ¬ 127 < n) : varB n = [UInt8.ofNat n] := by
  rw [varB]; simp [h]

theorem varB_len (n : Nat) : (varB n).length ≤ n + 1 := by
  induction n using Nat.strongRecOn with
  | ind n ih =>
    by_cases h : 127 < n
    · rw [varB_more h, List.length_cons]
      have := ih (n / 128) (by omega)
      omega
    · rw [varB_last h]; simp

theorem size_mk (l : List UInt8) : (⟨l.toArray⟩ : ByteArray).size = l.length := by simp [ByteArray.size]

def bytesV (l : List UInt8) : List Value := l.map fun b => Value.int .u8 (b.toNat : Int)

theorem bytesV_length (l : List UInt8) : (bytesV l).length = l.length := by simp [bytesV]
theorem bytesV_append (l m : List UInt8) : bytesV (l ++ m) = bytesV l ++ bytesV m := by simp [bytesV]
theorem bytesV_get (l : List UInt8) (j : Nat) (h : j < l.length) : (bytesV l)[j]? = some (Value.int .u8 (l[j].toNat : Int)) := by
  simp [bytesV, h]

/-- what an append of one byte leaves: the row that is owned, and that nothing below has turned -/
theorem own_push {w wr w1 : World} {B e : Nat} {v v' : Value} {p : List UInt8} {o : Obj} {x : Int} (b : UInt8) (hx : x = (b.toNat : Int)) (hb : Below B w wr) (hB : B ≤ wr.heap.size)
    (hown : wr.ownsRow B e 1 v p.length (bytesV p)) (hown' : w1.ownsRow B e 1 v' (p.length + 1) (bytesV p ++ [Value.int .u8 x])) (hg : (wr.alloc o).grownBy w1 v.ownBlock) :
    w1.ownsRow B e 1 v' (p ++ [b]).length (bytesV (p ++ [b])) ∧ Below B w w1 := by
  refine ⟨by rw [bytesV_append, List.length_append]; subst hx; exact hown', (hb.alloc hB o).grown hg (by simp; omega) ?_⟩
  intro k hk
  rcases hown.2 with ⟨rfl, _⟩ | ⟨g, cap, cur, rfl, hge, _⟩
  · cases hk
  · cases hk; exact hge

/-- what is owned, as the bytes of a string -/
theorem own_string {P : Program} {w : World} {B : Nat} {v : Value} {p : List UInt8} (src dst e : TypeId) (hs : P.underlying src = some (.slice e)) (he : P.underlying e = some (.int .u8)) (hd : P.underlying dst = some .string)
    (h : w.ownsRow B e 1 v p.length (bytesV p)) (hp : p ≠ []) : (convert src dst v).run P w = .ok (.string ⟨p.toArray⟩) w := by
  have h' := h
  rcases h.2 with ⟨rfl, h0⟩ | ⟨g, cap, cur, rfl, hg, hh, hnc, hcp, hcs, htake⟩
  · exact absurd (List.length_eq_zero_iff.1 h0) hp
  · refine run_convert_bytes_back w src dst e ⟨g, 0, none⟩ cap p hs he hd fun j hj => ?_
    rw [Addr.add_lit, Nat.zero_add, h'.cellAt j (by omega)]
    simp [bytesV, hj]

/-- .. of nothing -/
theorem own_string_nil {P : Program} {w : World} {B : Nat} {v : Value} (src dst e : TypeId) (hs : P.underlying src = some (.slice e)) (he : P.underlying e = some (.int .u8)) (hd : P.underlying dst = some .string)
    (h : w.ownsRow B e 1 v 0 (bytesV [])) : (convert src dst v).run P w = .ok (.string ⟨#[]⟩) w := by
  rcases h.2 with ⟨rfl, h0⟩ | ⟨g, cap, cur, rfl, hg, hh, hnc, hcp, hcs, htake⟩
  · rw [run_convert_bytes_string w src dst e none 0 0 hs he hd]; rfl
  · exact run_convert_bytes_back w src dst e ⟨g, 0, none⟩ cap [] hs he hd fun j hj => by simp at hj
end Go.Proofs.YtenmhpalpfppmaoDoor

/- The figures of a text, two a byte, as plain functions. -/
namespace Go.Proofs.YtenmhpalpfppmaoDoor

def fig (x : Nat) : UInt8 := if x < 10 then UInt8.ofNat (48 + x) else UInt8.ofNat (87 + x)
def hexL (l : List UInt8) : List UInt8 := l.flatMap fun c => [fig (c.toNat / 16), fig (c.toNat % 16)]

theorem hexL_len (l : List UInt8) : (hexL l).length = 2 * l.length := by
  induction l with
  | nil => rfl
  | cons c r ih =>
    show (fig (c.toNat / 16) :: fig (c.toNat % 16) :: hexL r).length = _
    rw [List.length_cons, List.length_cons, List.length_cons, ih]; omega

theorem hexL_snoc (l : List UInt8) (c : UInt8) : hexL (l ++ [c]) = hexL l ++ [fig (c.toNat / 16), fig (c.toNat % 16)] := by
  simp [hexL]

theorem take_snoc (s : ByteArray) (k : Nat) (h : k < s.size) : s.data.toList.take (k + 1) = s.data.toList.take k ++ [s[k]] := by
  rw [List.take_succ_eq_append_getElem (by simpa using h)]; rfl

theorem take_all (s : ByteArray) (k : Nat) (h : ¬ k < s.size) : s.data.toList.take k = s.data.toList := by
  rw [List.take_of_length_le]
  have hl : s.data.toList.length = s.size := by rw [Array.length_toList]; rfl
  omega

theorem fig_nat (x : Nat) (h : x < 16) : (fig x).toNat = if x < 10 then 48 + x else 87 + x := by
  unfold fig
  split <;> simp <;> omega

theorem wrap_in (n : Int) (h : -9223372036854775808 ≤ n ∧ n ≤ 9223372036854775807) : IntKind.i64.wrap n = n := by
  rw [IntKind.wrap_i64]; omega
theorem wrap_byte (c : UInt8) : IntKind.i64.wrap (c.toNat : Int) = (c.toNat : Int) := wrap_in _ (by have := UInt8.toNat_lt c; omega)
theorem wrap_div (c : UInt8) : IntKind.i64.wrap ((c.toNat : Int) / 16) = (c.toNat : Int) / 16 := wrap_in _ (by have := UInt8.toNat_lt c; omega)
theorem wrap_mod (c : UInt8) : (c.toNat : Int).tmod 16 = (c.toNat : Int) % 16 := Int.tmod_eq_emod_of_nonneg (by omega)

theorem wrap8_div (c : UInt8) : IntKind.u8.wrap ((c.toNat : Int) / 16) = (c.toNat : Int) / 16 := by
  have := UInt8.toNat_lt c
  rw [IntKind.wrap_u8]; omega
theorem hexL_take (s : ByteArray) (k : Nat) : (hexL (s.data.toList.take k)).length ≤ 2 * k := by
  rw [hexL_len]
  have := List.length_take_le k s.data.toList
  omega
theorem hexL_ne (l : List UInt8) (h : l ≠ []) : hexL l ≠ [] := by
  intro e
  have := hexL_len l
  rw [e] at this
  exact h (List.length_eq_zero_iff.1 (by simp at this; omega))

theorem two_new (w : World) (x y : Value) (e : TypeId) : ∀ (j : Nat) (u : Value), [x, y][j]? = some u → ((w.alloc (.cells #[x, y] e)).drew).cell? ((⟨w.heap.size, 0, none⟩ : Addr).add j) = some u
  | 0, u, h => by simp at h; subst h; simp [Addr.add]
  | 1, u, h => by simp at h; subst h; simp [Addr.add]
  | j + 2, u, h => by simp at h

/-- what an append of two bytes leaves -/
theorem own_push2 {w wr wr' w1 : World} {B e : Nat} {v v' : Value} {p : List UInt8} {x y : Int} (b c : UInt8) (hx : x = (b.toNat : Int)) (hy : y = (c.toNat : Int)) (hb : Go.RowKit.Below B w wr') (hB : B ≤ wr'.heap.size)
    (hown : wr.ownsRow B e 1 v p.length (bytesV p)) (hown' : w1.ownsRow B e 1 v' (p.length + 2) (bytesV p ++ [Value.int .u8 x, Value.int .u8 y])) (hg : wr'.grownBy w1 v.ownBlock) :
    w1.ownsRow B e 1 v' (p ++ [b, c]).length (bytesV (p ++ [b, c])) ∧ Go.RowKit.Below B w w1 := by
  refine ⟨by rw [bytesV_append, List.length_append]; subst hx hy; exact hown', hb.grown hg hB ?_⟩
  intro k hk
  rcases hown.2 with ⟨rfl, _⟩ | ⟨g, cap, cur, rfl, hge, _⟩
  · cases hk
  · cases hk; exact hge
end Go.Proofs.YtenmhpalpfppmaoDoor

/- Decimal figures of a number, and a number of figures, as plain functions. -/
namespace Go.Proofs.YtenmhpalpfppmaoDoor

def decR (n : Nat) : List UInt8 := if _h : 0 < n then decR (n / 10) ++ [fig (n % 10)] else []
theorem decR_pos {n : Nat} (h : 0 < n) : decR n = decR (n / 10) ++ [fig (n % 10)] := by rw [decR]; simp [h]
theorem decR_zero : decR 0 = [] := by rw [decR]; simp
def decB (n : Nat) : List UInt8 := if n = 0 then [48] else decR n
def decI (n : Int) : List UInt8 := if n < 0 then 45 :: decR n.natAbs else decB n.toNat

theorem decR_len (k : Nat) : ∀ n, n < 10 ^ k → (decR n).length ≤ k := by
  induction k with
  | zero => intro n h; obtain rfl : n = 0 := by simpa using h
            rw [decR_zero]; simp
  | succ k ih =>
    intro n h
    by_cases hn : 0 < n
    · rw [decR_pos hn, List.length_append]
      have := ih (n / 10) (by rw [Nat.pow_succ] at h; omega)
      simp; omega
    · obtain rfl : n = 0 := by omega
      rw [decR_zero]; simp

theorem decR_ne {n : Nat} (h : 0 < n) : decR n ≠ [] := by rw [decR_pos h]; simp

theorem decR_head (n : Nat) (h : 0 < n) : (decR n).head? ≠ some 48 := by
  induction n using Nat.strongRecOn with
  | ind n ih =>
    rw [decR_pos h]
    by_cases h1 : 0 < n / 10
    · have := ih (n / 10) (by omega) h1
      cases hd : decR (n / 10) with
      | nil => exact absurd hd (decR_ne h1)
      | cons a r => rw [hd] at this; simpa using this
    · have e : n / 10 = 0 := by omega
      rw [e, decR_zero]
      simp only [List.nil_append, List.head?_cons, ne_eq, Option.some.injEq]
      intro e2
      have h2 := congrArg UInt8.toNat e2
      rw [fig_nat _ (by omega), if_pos (by omega)] at h2
      simp at h2
      omega

def digit (c : UInt8) : Prop := 48 ≤ c.toNat ∧ c.toNat ≤ 57
def numF (n : Nat) (l : List UInt8) : Nat := l.foldl (fun n c => 10 * n + (c.toNat - 48)) n
def numL (l : List UInt8) : Nat := numF 0 l
theorem numL_snoc (p : List UInt8) (c : UInt8) : numL (p ++ [c]) = 10 * numL p + (c.toNat - 48) := by simp [numL, numF]
theorem numF_ge (l : List UInt8) : ∀ n, n ≤ numF n l := by
  induction l with
  | nil => intro n; exact Nat.le_refl _
  | cons c r ih => intro n; have := ih (10 * n + (c.toNat - 48)); simp only [numF, List.foldl_cons] at *; omega
theorem numL_pre (p q : List UInt8) : numL p ≤ numL (p ++ q) := by
  have := numF_ge q (numF 0 p)
  simpa [numL, numF, List.foldl_append] using this
theorem numL_lt (l : List UInt8) (h : ∀ c ∈ l, digit c) : numL l < 10 ^ l.length := by
  rw [← List.reverse_reverse l] at *
  generalize l.reverse = r at *
  induction r with
  | nil => simp [numL, numF]
  | cons c r ih =>
    rw [List.reverse_cons] at *
    have h1 := ih (fun x hx => h x (by simp at hx; simp [hx]))
    have hc : digit c := h c (by simp)
    rw [numL_snoc, List.length_append, List.length_singleton, Nat.pow_succ]
    unfold digit at hc
    omega

/-- a number's figures: at least one, figures alone, no needless nought -/
def neat (l : List UInt8) : Prop := l ≠ [] ∧ (l.head? = some 48 → l.length = 1)

theorem head_snoc (p : List UInt8) (c : UInt8) (h : p ≠ []) : (p ++ [c]).head? = p.head? := by
  cases p with
  | nil => exact absurd rfl h
  | cons a r => rfl

theorem numL_big (r : List UInt8) : (∀ c ∈ r.reverse, digit c) → r ≠ [] → r.reverse.head? ≠ some 48 → 10 ^ (r.length - 1) ≤ numL r.reverse := by
  induction r with
  | nil => intro _ h; exact absurd rfl h
  | cons c r ih =>
    intro hd _ hh
    rw [List.reverse_cons] at *
    have hc : digit c := hd c (by simp)
    unfold digit at hc
    rw [numL_snoc]
    by_cases hr : r = []
    · subst hr
      simp only [List.reverse_nil, List.nil_append, List.head?_cons, ne_eq, Option.some.injEq] at hh
      have : c.toNat ≠ 48 := fun e => hh (UInt8.toNat_inj.1 (by simpa using e))
      simp [numL, numF]; omega
    · have hrr : r.reverse ≠ [] := by simpa using hr
      have h1 := ih (fun x hx => hd x (by simp at hx; simp [hx])) hr (by rw [head_snoc _ _ hrr] at hh; exact hh)
      have hl : 0 < r.length := List.length_pos_iff.2 hr
      have e : 10 ^ ((c :: r).length - 1) = 10 ^ (r.length - 1) * 10 := by
        rw [← Nat.pow_succ]; congr 1; simp; omega
      rw [e]; omega

theorem decB_num (r : List UInt8) : (∀ c ∈ r.reverse, digit c) → neat r.reverse → decB (numL r.reverse) = r.reverse := by
  induction r with
  | nil => intro _ h; exact absurd rfl h.1
  | cons c r ih =>
    intro hd hn
    rw [List.reverse_cons] at *
    have hc : digit c := hd c (by simp)
    unfold digit at hc
    have hf : fig (c.toNat - 48) = c := by
      unfold fig
      rw [if_pos (by omega), show 48 + (c.toNat - 48) = c.toNat by omega]
      simp
    by_cases hr : r = []
    · subst hr
      have e : numL ([] ++ [c]) = c.toNat - 48 := by simp [numL, numF]
      simp only [List.reverse_nil]
      rw [e]
      by_cases h0 : c.toNat - 48 = 0
      · have : c = 48 := UInt8.toNat_inj.1 (by simp; omega)
        subst this
        rfl
      · rw [decB, if_neg h0, decR_pos (by omega), show (c.toNat - 48) / 10 = 0 by omega, decR_zero, show (c.toNat - 48) % 10 = c.toNat - 48 by omega, hf]
    · have hrr : r.reverse ≠ [] := by simpa using hr
      have hh : r.reverse.head? ≠ some 48 := by
        intro e
        have := hn.2 (by rw [head_snoc _ _ hrr]; exact e)
        rw [List.length_append] at this
        have : r.reverse.length = 0 := by simp at this; simpa using this
        exact hrr (List.length_eq_zero_iff.1 this)
      have hdd : ∀ x ∈ r.reverse, digit x := fun x hx => hd x (by simp at hx; simp [hx])
      have h1 := ih hdd ⟨hrr, fun e => absurd e hh⟩
      have hpos : 0 < numL r.reverse := Nat.lt_of_lt_of_le (Nat.pow_pos (by omega)) (numL_big r hdd hr hh)
      rw [decB, if_neg (by omega)] at h1
      rw [numL_snoc, decB, if_neg (by omega), decR_pos (by omega), show (10 * numL r.reverse + (c.toNat - 48)) / 10 = numL r.reverse by omega,
        show (10 * numL r.reverse + (c.toNat - 48)) % 10 = c.toNat - 48 by omega, h1, hf]

theorem decB_neat (n : Nat) : neat (decB n) := by
  unfold decB
  split
  · exact ⟨by simp, fun _ => rfl⟩
  · rename_i h
    exact ⟨decR_ne (by omega), fun e => absurd e (decR_head n (by omega))⟩

def rdOk (l : List UInt8) : Prop := neat l ∧ (∀ c ∈ l, digit c) ∧ numL l ≤ 1000000000
def rdNo : Value := .tuple #[.int .i64 0, .bool false]

theorem dec_test (l : List UInt8) (h : ∀ c ∈ l, digit c) : (decB (numL l) == l) = true ↔ neat l := by
  constructor
  · intro e
    have e := beq_iff_eq.1 e
    rw [← e]; exact decB_neat _
  · intro hn
    have := decB_num l.reverse (by simpa using h) (by simpa using hn)
    simpa using this

theorem rdOk_len (l : List UInt8) (h : rdOk l) : l.length ≤ 10 := by
  obtain ⟨hn, hd, hb⟩ := h
  by_cases hh : l.head? = some 48
  · have := hn.2 hh; omega
  · have := numL_big l.reverse (by simpa using hd) (by simpa using hn.1) (by simpa using hh)
    rw [List.reverse_reverse, List.length_reverse] at this
    by_cases hl : l.length ≤ 10
    · exact hl
    · have : 10 ^ 10 ≤ 10 ^ (l.length - 1) := Nat.pow_le_pow_right (by omega) (by omega)
      omega
end Go.Proofs.YtenmhpalpfppmaoDoor

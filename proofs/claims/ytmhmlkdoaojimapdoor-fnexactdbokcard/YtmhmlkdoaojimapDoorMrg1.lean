/- Four texts in one. -/
import Derived.WalkKit
import Derived.WalkSpells
import Derived.Below
import Derived.ProofKit
import Derived.Laws.IdiomStrings
/- Terms as a tree, and where they lie in memory. Of no program. -/
namespace Go.Proofs.YtmhmlkdoaojimapDoor
open Go.RowKit

inductive Tm where
  | mk : Int → ByteArray → Int → List Tm → Tm

/-- bytes of names and kids, all together -/
def Tm.wt : Tm → Nat
  | .mk _ s _ ks => s.size + ks.length + wts ks
where wts : List Tm → Nat
  | [] => 0
  | t :: ts => t.wt + wts ts
abbrev wts := Tm.wt.wts

mutual
/-- the value v is the term in w -/
def TmIn (w : World) : Tm → Value → Prop
  | .mk k s n ks, v => ∃ ao cap, v = .agg #[.int .i64 k, .string s, .int .i64 n, .slice ao ks.length cap] ∧ (-9223372036854775808 ≤ k ∧ k ≤ 9223372036854775807) ∧ (-9223372036854775808 ≤ n ∧ n ≤ 9223372036854775807) ∧
    s.size ≤ maxLen ∧ ks.length ≤ cap ∧ cap ≤ maxLen ∧ (ks ≠ [] → ∃ b off, ao = some ⟨b, off, none⟩ ∧ TmsIn w ks b off)
/-- .. the terms lie in a row, four cells each -/
def TmsIn (w : World) : List Tm → Nat → Nat → Prop
  | [], _, _ => True
  | t :: ts, b, off => (∃ c0 c1 c2 c3, w.cell? ⟨b, off, none⟩ = some c0 ∧ w.cell? ⟨b, off + 1, none⟩ = some c1 ∧ w.cell? ⟨b, off + 2, none⟩ = some c2 ∧ w.cell? ⟨b, off + 3, none⟩ = some c3 ∧ TmIn w t (.agg #[c0, c1, c2, c3])) ∧ TmsIn w ts b (off + 4)
end

theorem cell_blk {w : World} {a : Addr} {x : Value} (h : w.cell? a = some x) : a.block < w.heap.size := by
  unfold World.cell? at h
  split at h
  · rename_i hb; exact (Array.getElem?_eq_some_iff.1 hb).1
  · cases h

theorem cell_keep {w w' : World} {a : Addr} {x : Value} (h : w.cell? a = some x) (hb : Below w.heap.size w w') : w'.cell? a = some x := by
  rw [World.cell?_of_block (hb.block a.block (cell_blk h))]; exact h

theorem below_set {B g i : Nat} {w w' : World} (h : Below B w w') (hg : B ≤ g) (v : Value) : Below B w (w'.setCell ⟨g, i, none⟩ v) :=
  ⟨h.os, h.tape, h.output, by simpa [World.setCell] using h.size, fun k hk => by
    have : g ≠ k := by omega
    rw [← h.block k hk]
    simp [World.setCell, Array.getElem?_modify, this]⟩

mutual
theorem TmIn.keep {w w' : World} (hb : Below w.heap.size w w') : ∀ (t : Tm) (v : Value), TmIn w t v → TmIn w' t v
  | .mk k s n ks, v, h => by
    obtain ⟨ao, cap, rfl, h1, h2, h3, h4, h5, h6⟩ := h
    refine ⟨ao, cap, rfl, h1, h2, h3, h4, h5, fun h0 => ?_⟩
    obtain ⟨b, off, rfl, h7⟩ := h6 h0
    exact ⟨b, off, rfl, TmsIn.keep hb ks b off h7⟩
theorem TmsIn.keep {w w' : World} (hb : Below w.heap.size w w') : ∀ (ks : List Tm) (b off : Nat), TmsIn w ks b off → TmsIn w' ks b off
  | [], _, _, _ => trivial
  | t :: ts, b, off, h => by
    obtain ⟨⟨c0, c1, c2, c3, h0, h1, h2, h3, ht⟩, hr⟩ := h
    exact ⟨⟨c0, c1, c2, c3, cell_keep h0 hb, cell_keep h1 hb, cell_keep h2 hb, cell_keep h3 hb, TmIn.keep hb t _ ht⟩, TmsIn.keep hb ts b (off + 4) hr⟩
end

theorem TmsIn.at {w : World} {b : Nat} : ∀ {ks : List Tm} {off : Nat}, TmsIn w ks b off → ∀ (j : Nat) (hj : j < ks.length),
    ∃ c0 c1 c2 c3, w.cell? ⟨b, off + j * 4, none⟩ = some c0 ∧ w.cell? ⟨b, off + j * 4 + 1, none⟩ = some c1 ∧ w.cell? ⟨b, off + j * 4 + 2, none⟩ = some c2 ∧ w.cell? ⟨b, off + j * 4 + 3, none⟩ = some c3 ∧ TmIn w ks[j] (.agg #[c0, c1, c2, c3])
  | [], _, _, j, hj => by simp at hj
  | t :: ts, off, h, 0, _ => by simpa using h.1
  | t :: ts, off, h, j + 1, hj => by
    have := TmsIn.at h.2 j (by simpa using hj)
    rw [show off + 4 + j * 4 = off + (j + 1) * 4 by omega] at this
    exact this

theorem tm_kid_lt {k n : Int} {s : ByteArray} {ks : List Tm} {t : Tm} (h : t ∈ ks) : SizeOf.sizeOf t < SizeOf.sizeOf (Tm.mk k s n ks) := by
  have := List.sizeOf_lt_of_mem h
  simp
  omega

/-- what is proved of a term where it is proved of its kids -/
theorem tm_ind {p : Tm → Prop} (h : ∀ k s n ks, (∀ t ∈ ks, p t) → p (.mk k s n ks)) (t : Tm) : p t := by
  have : ∀ m, ∀ t, SizeOf.sizeOf t < m → p t := by
    intro m
    induction m with
    | zero => intro t ht; omega
    | succ m ih =>
      intro t ht
      obtain ⟨k, s, n, ks⟩ := t
      exact h k s n ks fun t' h' => ih t' (by have := tm_kid_lt (k := k) (n := n) (s := s) h'; omega)
  exact this _ t (Nat.lt_succ_self _)

theorem wts_append (l m : List Tm) : wts (l ++ m) = wts l + wts m := by
  induction l with
  | nil => simp [wts, Tm.wt.wts]
  | cons t r ih => simp only [List.cons_append, wts, Tm.wt.wts] at *; omega
end Go.Proofs.YtmhmlkdoaojimapDoor

/- A row of clauses in memory, and a row of strings. -/
namespace Go.Proofs.YtmhmlkdoaojimapDoor
open Go.RowKit

/-- a clause: two terms and a text -/
structure Cla where
  h : Tm
  b : Tm
  f : ByteArray
def Cla.wt (c : Cla) : Nat := c.h.wt + c.b.wt + c.f.size
def claWts : List Cla → Nat
  | [] => 0
  | c :: cs => c.wt + claWts cs
theorem claWts_append (a b : List Cla) : claWts (a ++ b) = claWts a + claWts b := by
  induction a with
  | nil => simp [claWts]
  | cons c cs ih => simp only [List.cons_append, claWts, ih]; omega

/-- a clause lies at a place, nine cells -/
def ClaAt (w : World) (c : Cla) (b off : Nat) : Prop :=
  ∃ k1 s1 n1 a1 l1 m1 k2 s2 n2 a2 l2 m2, w.cell? ⟨b, off, none⟩ = some (.int .i64 k1) ∧ w.cell? ⟨b, off + 1, none⟩ = some (.string s1) ∧ w.cell? ⟨b, off + 2, none⟩ = some (.int .i64 n1) ∧ w.cell? ⟨b, off + 3, none⟩ = some (.slice a1 l1 m1) ∧
    w.cell? ⟨b, off + 4, none⟩ = some (.int .i64 k2) ∧ w.cell? ⟨b, off + 5, none⟩ = some (.string s2) ∧ w.cell? ⟨b, off + 6, none⟩ = some (.int .i64 n2) ∧ w.cell? ⟨b, off + 7, none⟩ = some (.slice a2 l2 m2) ∧ w.cell? ⟨b, off + 8, none⟩ = some (.string c.f) ∧
    c.f.size ≤ maxLen ∧ TmIn w c.h (.agg #[.int .i64 k1, .string s1, .int .i64 n1, .slice a1 l1 m1]) ∧ TmIn w c.b (.agg #[.int .i64 k2, .string s2, .int .i64 n2, .slice a2 l2 m2])
theorem ClaAt.keep {w w' : World} {c : Cla} {b off : Nat} (h : ClaAt w c b off) (hb : Below w.heap.size w w') : ClaAt w' c b off := by
  obtain ⟨k1, s1, n1, a1, l1, m1, k2, s2, n2, a2, l2, m2, h0, h1, h2, h3, h4, h5, h6, h7, h8, hf, i1, i2⟩ := h
  exact ⟨k1, s1, n1, a1, l1, m1, k2, s2, n2, a2, l2, m2, cell_keep h0 hb, cell_keep h1 hb, cell_keep h2 hb, cell_keep h3 hb, cell_keep h4 hb, cell_keep h5 hb, cell_keep h6 hb, cell_keep h7 hb, cell_keep h8 hb, hf, TmIn.keep hb _ _ i1, TmIn.keep hb _ _ i2⟩

/-- a slice of clauses -/
def ClsIn (w : World) (cs : List Cla) (v : Value) : Prop :=
  ∃ ao cap, v = .slice ao cs.length cap ∧ cs.length ≤ cap ∧ cap ≤ maxLen ∧ (cs ≠ [] → ∃ b off, ao = some ⟨b, off, none⟩ ∧ ∀ j (hj : j < cs.length), ClaAt w cs[j] b (off + j * 9))
theorem ClsIn.keep {w w' : World} {cs : List Cla} {v : Value} (h : ClsIn w cs v) (hb : Below w.heap.size w w') : ClsIn w' cs v := by
  obtain ⟨ao, cap, rfl, h1, h2, h3⟩ := h
  refine ⟨ao, cap, rfl, h1, h2, fun hne => ?_⟩
  obtain ⟨b, off, e, hr⟩ := h3 hne
  exact ⟨b, off, e, fun j hj => (hr j hj).keep hb⟩

/-- a slice of strings -/
def SsIn (w : World) (xs : List ByteArray) (v : Value) : Prop :=
  ∃ ao cap, v = .slice ao xs.length cap ∧ xs.length ≤ cap ∧ cap ≤ maxLen ∧ (xs ≠ [] → ∃ b off, ao = some ⟨b, off, none⟩ ∧ ∀ j (hj : j < xs.length), w.cell? ⟨b, off + j, none⟩ = some (.string xs[j]) ∧ xs[j].size ≤ maxLen)
theorem SsIn.keep {w w' : World} {xs : List ByteArray} {v : Value} (h : SsIn w xs v) (hb : Below w.heap.size w w') : SsIn w' xs v := by
  obtain ⟨ao, cap, rfl, h1, h2, h3⟩ := h
  refine ⟨ao, cap, rfl, h1, h2, fun hne => ?_⟩
  obtain ⟨b, off, e, hr⟩ := h3 hne
  exact ⟨b, off, e, fun j hj => ⟨cell_keep (hr j hj).1 hb, (hr j hj).2⟩⟩
def strWts : List ByteArray → Nat
  | [] => 0
  | x :: xs => x.size + strWts xs
theorem strWts_append (a b : List ByteArray) : strWts (a ++ b) = strWts a + strWts b := by
  induction a with
  | nil => simp [strWts]
  | cons c cs ih => simp only [List.cons_append, strWts, ih]; omega
end Go.Proofs.YtmhmlkdoaojimapDoor

/- The bytes of a number, seven bits each, as a plain function, and what one round of the loop does to them. -/
namespace Go.Proofs.YtmhmlkdoaojimapDoor
open Go.RowKit

def varB (n : Nat) : List UInt8 := if h : 127 < n then UInt8.ofNat (n % 128 + 128) :: varB (n / 128) else [UInt8.ofNat n]

theorem varB_more {n : Nat} (h : 127 < n) : varB n = UInt8.ofNat (n % 128 + 128) :: varB (n / 128) := by
  rw [varB]; simp [h]
theorem varB_last {n : Nat} (h : ¬ 127 < n) : varB n = [UInt8.ofNat n] := by
  rw [varB]; simp [h]

theorem varB_len (n : Nat) : (varB n).length ≤ n + 1 := by
  induction n using Nat.strongRecOn with
  | ind n ih =>
    by_cases h : 127 < n
    · rw [varB_more h, List.length_cons]
      have := ih (n / 128) (by omega)
      omega
    · rw [varB_last h]; simp

theorem size_mk (l : List UInt8) : (⟨l.toArray⟩ : ByteArray).size = l.length := by simp [ByteArray.size]

def bytesV (l : List UInt8) : List Value := l.map fun b => Value.int .u8 (b.toNat : Int)

theorem bytesV_length (l : List UInt8) : (bytesV l).length = l.length := by simp [bytesV]
theorem bytesV_append (l m : List UInt8) : bytesV (l ++ m) = bytesV l ++ bytesV m := by simp [bytesV]
theorem bytesV_get (l : List UInt8) (j : Nat) (h : j < l.length) : (bytesV l)[j]? = some (Value.int .u8 (l[j].toNat : Int)) := by
  simp [bytesV, h]

/-- what an append of one byte leaves: the row that is owned, and that nothing below has turned -/
theorem own_push {w wr w1 : World} {B e : Nat} {v v' : Value} {p : List UInt8} {o : Obj} {x : Int} (b : UInt8) (hx : x = (b.toNat : Int)) (hb : Below B w wr) (hB : B ≤ wr.heap.size)
    (hown : wr.ownsRow B e 1 v p.length (bytesV p)) (hown' : w1.ownsRow B e 1 v' (p.length + 1) (bytesV p ++ [Value.int .u8 x])) (hg : (wr.alloc o).grownBy w1 v.ownBlock) :
    w1.ownsRow B e 1 v' (p ++ [b]).length (bytesV (p ++ [b])) ∧ Below B w w1 := by
  refine ⟨by rw [bytesV_append, List.length_append]; subst hx; exact hown', (hb.alloc hB o).grown hg (by simp; omega) ?_⟩
  intro k hk
  rcases hown.2 with ⟨rfl, _⟩ | ⟨g, cap, cur, rfl, hge, _⟩
  · cases hk
  · cases hk; exact hge

/-- what is owned, as the bytes of a string -/
theorem own_string {P : Program} {w : World} {B : Nat} {v : Value} {p : List UInt8} (src dst e : TypeId) (hs : P.underlying src = some (.slice e)) (he : P.underlying e = some (.int .u8)) (hd : P.underlying dst = some .string)
    (h : w.ownsRow B e 1 v p.length (bytesV p)) (hp : p ≠ []) : (convert src dst v).run P w = .ok (.string ⟨p.toArray⟩) w := by
  have h' := h
  rcases h.2 with ⟨rfl, h0⟩ | ⟨g, cap, cur, rfl, hg, hh, hnc, hcp, hcs, htake⟩
  · exact absurd (List.length_eq_zero_iff.1 h0) hp
  · refine run_convert_bytes_back w src dst e ⟨g, 0, none⟩ cap p hs he hd fun j hj => ?_
    rw [Addr.add_lit, Nat.zero_add, h'.cellAt j (by omega)]
    simp [bytesV, hj]

/-- .. of nothing -/
theorem own_string_nil {P : Program} {w : World} {B : Nat} {v : Value} (src dst e : TypeId) (hs : P.underlying src = some (.slice e)) (he : P.underlying e = some (.int .u8)) (hd : P.underlying dst = some .string)
    (h : w.ownsRow B e 1 v 0 (bytesV [])) : (convert src dst v).run P w = .ok (.string ⟨#[]⟩) w := by
  rcases h.2 with ⟨rfl, h0⟩ | ⟨g, cap, cur, rfl, hg, hh, hnc, hcp, hcs, htake⟩
  · rw [run_convert_bytes_string w src dst e none 0 0 hs he hd]; rfl
  · exact run_convert_bytes_back w src dst e ⟨g, 0, none⟩ cap [] hs he hd fun j hj => by simp at hj
end Go.Proofs.YtmhmlkdoaojimapDoor

/- The figures of a text, two a byte, as plain functions. -/
namespace Go.Proofs.YtmhmlkdoaojimapDoor

def fig (x : Nat) : UInt8 := if x < 10 then UInt8.ofNat (48 + x) else UInt8.ofNat (87 + x)
def hexL (l : List UInt8) : List UInt8 := l.flatMap fun c => [fig (c.toNat / 16), fig (c.toNat % 16)]

theorem hexL_len (l : List UInt8) : (hexL l).length = 2 * l.length := by
  induction l with
  | nil => rfl
  | cons c r ih =>
    show (fig (c.toNat / 16) :: fig (c.toNat % 16) :: hexL r).length = _
    rw [List.length_cons, List.length_cons, List.length_cons, ih]; omega

theorem hexL_snoc (l : List UInt8) (c : UInt8) : hexL (l ++ [c]) = hexL l ++ [fig (c.toNat / 16), fig (c.toNat % 16)] := by
  simp [hexL]

theorem take_snoc (s : ByteArray) (k : Nat) (h : k < s.size) : s.data.toList.take (k + 1) = s.data.toList.take k ++ [s[k]] := by
  rw [List.take_succ_eq_append_getElem (by simpa using h)]; rfl

theorem take_all (s : ByteArray) (k : Nat) (h : ¬ k < s.size) : s.data.toList.take k = s.data.toList := by
  rw [List.take_of_length_le]
  have hl : s.data.toList.length = s.size := by rw [Array.length_toList]; rfl
  omega

theorem fig_nat (x : Nat) (h : x < 16) : (fig x).toNat = if x < 10 then 48 + x else 87 + x := by
  unfold fig
  split <;> simp <;> omega

theorem wrap_in (n : Int) (h : -9223372036854775808 ≤ n ∧ n ≤ 9223372036854775807) : IntKind.i64.wrap n = n := by
  rw [IntKind.wrap_i64]; omega
theorem wrap_byte (c : UInt8) : IntKind.i64.wrap (c.toNat : Int) = (c.toNat : Int) := wrap_in _ (by have := UInt8.toNat_lt c; omega)
theorem wrap_div (c : UInt8) : IntKind.i64.wrap ((c.toNat : Int) / 16) = (c.toNat : Int) / 16 := wrap_in _ (by have := UInt8.toNat_lt c; omega)
theorem wrap_mod (c : UInt8) : (c.toNat : Int).tmod 16 = (c.toNat : Int) % 16 := Int.tmod_eq_emod_of_nonneg (by omega)

theorem wrap8_div (c : UInt8) : IntKind.u8.wrap ((c.toNat : Int) / 16) = (c.toNat : Int) / 16 := by
  have := UInt8.toNat_lt c
  rw [IntKind.wrap_u8]; omega
theorem hexL_take (s : ByteArray) (k : Nat) : (hexL (s.data.toList.take k)).length ≤ 2 * k := by
  rw [hexL_len]
  have := List.length_take_le k s.data.toList
  omega
theorem hexL_ne (l : List UInt8) (h : l ≠ []) : hexL l ≠ [] := by
  intro e
  have := hexL_len l
  rw [e] at this
  exact h (List.length_eq_zero_iff.1 (by simp at this; omega))

theorem two_new (w : World) (x y : Value) (e : TypeId) : ∀ (j : Nat) (u : Value), [x, y][j]? = some u → ((w.alloc (.cells #[x, y] e)).drew).cell? ((⟨w.heap.size, 0, none⟩ : Addr).add j) = some u
  | 0, u, h => by simp at h; subst h; simp [Addr.add]
  | 1, u, h => by simp at h; subst h; simp [Addr.add]
  | j + 2, u, h => by simp at h

/-- what an append of two bytes leaves -/
theorem own_push2 {w wr wr' w1 : World} {B e : Nat} {v v' : Value} {p : List UInt8} {x y : Int} (b c : UInt8) (hx : x = (b.toNat : Int)) (hy : y = (c.toNat : Int)) (hb : Go.RowKit.Below B w wr') (hB : B ≤ wr'.heap.size)
    (hown : wr.ownsRow B e 1 v p.length (bytesV p)) (hown' : w1.ownsRow B e 1 v' (p.length + 2) (bytesV p ++ [Value.int .u8 x, Value.int .u8 y])) (hg : wr'.grownBy w1 v.ownBlock) :
    w1.ownsRow B e 1 v' (p ++ [b, c]).length (bytesV (p ++ [b, c])) ∧ Go.RowKit.Below B w w1 := by
  refine ⟨by rw [bytesV_append, List.length_append]; subst hx hy; exact hown', hb.grown hg hB ?_⟩
  intro k hk
  rcases hown.2 with ⟨rfl, _⟩ | ⟨g, cap, cur, rfl, hge, _⟩
  · cases hk
  · cases hk; exact hge
end Go.Proofs.YtmhmlkdoaojimapDoor

/- The figures of a text, two a byte, as plain functions. -/
import Derived.Test.YtmhmlkdoaojimaqVarPlain
namespace Go.Proofs.Ytmhmlkdoaojimaq

def fig (x : Nat) : UInt8 := if x < 10 then UInt8.ofNat (48 + x) else UInt8.ofNat (87 + x)
def hexL (l : List UInt8) : List UInt8 := l.flatMap fun c => [fig (c.toNat / 16), fig (c.toNat % 16)]

theorem hexL_len (l : List UInt8) : (hexL l).length = 2 * l.length := by
  induction l with
  | nil => rfl
  | cons c r ih =>
    show (fig (c.toNat / 16) :: fig (c.toNat % 16) :: hexL r).length = _
    rw [List.length_cons, List.length_cons, List.length_cons, ih]; omega

theorem hexL_snoc (l : List UInt8) (c : UInt8) : hexL (l ++ [c]) = hexL l ++ [fig (c.toNat / 16), fig (c.toNat % 16)] := by
  simp [hexL]

theorem take_snoc (s : ByteArray) (k : Nat) (h : k < s.size) : s.data.toList.take (k + 1) = s.data.toList.take k ++ [s[k]] := by
  rw [List.take_succ_eq_append_getElem (by simpa using h)]; rfl

theorem take_all (s : ByteArray) (k : Nat) (h : ¬ k < s.size) : s.data.toList.take k = s.data.toList := by
  rw [List.take_of_length_le]
  have hl : s.data.toList.length = s.size := by rw [Array.length_toList]; rfl
  omega

theorem fig_nat (x : Nat) (h : x < 16) : (fig x).toNat = if x < 10 then 48 + x else 87 + x := by
  unfold fig
  split <;> simp <;> omega

theorem wrap_in (n : Int) (h : -9223372036854775808 ≤ n ∧ n ≤ 9223372036854775807) : IntKind.i64.wrap n = n := by
  rw [IntKind.wrap_i64]; omega
theorem wrap_byte (c : UInt8) : IntKind.i64.wrap (c.toNat : Int) = (c.toNat : Int) := wrap_in _ (by have := UInt8.toNat_lt c; omega)
theorem wrap_div (c : UInt8) : IntKind.i64.wrap ((c.toNat : Int) / 16) = (c.toNat : Int) / 16 := wrap_in _ (by have := UInt8.toNat_lt c; omega)
theorem wrap_mod (c : UInt8) : (c.toNat : Int).tmod 16 = (c.toNat : Int) % 16 := Int.tmod_eq_emod_of_nonneg (by omega)

theorem wrap8_div (c : UInt8) : IntKind.u8.wrap ((c.toNat : Int) / 16) = (c.toNat : Int) / 16 := by
  have := UInt8.toNat_lt c
  rw [IntKind.wrap_u8]; omega
theorem hexL_take (s : ByteArray) (k : Nat) : (hexL (s.data.toList.take k)).length ≤ 2 * k := by
  rw [hexL_len]
  have := List.length_take_le k s.data.toList
  omega
theorem hexL_ne (l : List UInt8) (h : l ≠ []) : hexL l ≠ [] := by
  intro e
  have := hexL_len l
  rw [e] at this
  exact h (List.length_eq_zero_iff.1 (by simp at this; omega))

theorem two_new (w : World) (x y : Value) (e : TypeId) : ∀ (j : Nat) (u : Value), [x, y][j]? = some u → ((w.alloc (.cells #[x, y] e)).drew).cell? ((⟨w.heap.size, 0, none⟩ : Addr).add j) = some u
  | 0, u, h => by simp at h; subst h; simp [Addr.add]
  | 1, u, h => by simp at h; subst h; simp [Addr.add]
  | j + 2, u, h => by simp at h

/-- what an append of two bytes leaves -/
theorem own_push2 {w wr wr' w1 : World} {B e : Nat} {v v' : Value} {p : List UInt8} {x y : Int} (b c : UInt8) (hx : x = (b.toNat : Int)) (hy : y = (c.toNat : Int)) (hb : Go.RowKit.Below B w wr') (hB : B ≤ wr'.heap.size)
    (hown : wr.ownsRow B e 1 v p.length (bytesV p)) (hown' : w1.ownsRow B e 1 v' (p.length + 2) (bytesV p ++ [Value.int .u8 x, Value.int .u8 y])) (hg : wr'.grownBy w1 v.ownBlock) :
    w1.ownsRow B e 1 v' (p ++ [b, c]).length (bytesV (p ++ [b, c])) ∧ Go.RowKit.Below B w w1 := by
  refine ⟨by rw [bytesV_append, List.length_append]; subst hx hy; exact hown', hb.grown hg hB ?_⟩
  intro k hk
  rcases hown.2 with ⟨rfl, _⟩ | ⟨g, cap, cur, rfl, hge, _⟩
  · cases hk
  · cases hk; exact hge
end Go.Proofs.Ytmhmlkdoaojimaq

/- The bytes of a number, seven bits each, as a plain function, and what one round of the loop does to them. -/
import Derived.WalkKit
import Derived.WalkSpells
import Derived.ProofKit
import Derived.Laws.IdiomStrings
namespace Go.Proofs.Ytmhmlkdoaojimaq
open Go.RowKit

def varB (n : Nat) : List UInt8 := if h : 127 < n then UInt8.ofNat (n % 128 + 128) :: varB (n / 128) else [UInt8.ofNat n]

theorem varB_more {n : Nat} (h : 127 < n) : varB n = UInt8.ofNat (n % 128 + 128) :: varB (n / 128) := by
  rw [varB]; simp [h]
theorem varB_last {n : Nat} (h : ¬ 127 < n) : varB n = [UInt8.ofNat n] := by
  rw [varB]; simp [h]

theorem varB_len (n : Nat) : (varB n).length ≤ n + 1 := by
  induction n using Nat.strongRecOn with
  | ind n ih =>
    by_cases h : 127 < n
    · rw [varB_more h, List.length_cons]
      have := ih (n / 128) (by omega)
      omega
    · rw [varB_last h]; simp

theorem size_mk (l : List UInt8) : (⟨l.toArray⟩ : ByteArray).size = l.length := by simp [ByteArray.size]

def bytesV (l : List UInt8) : List Value := l.map fun b => Value.int .u8 (b.toNat : Int)

theorem bytesV_length (l : List UInt8) : (bytesV l).length = l.length := by simp [bytesV]
theorem bytesV_append (l m : List UInt8) : bytesV (l ++ m) = bytesV l ++ bytesV m := by simp [bytesV]
theorem bytesV_get (l : List UInt8) (j : Nat) (h : j < l.length) : (bytesV l)[j]? = some (Value.int .u8 (l[j].toNat : Int)) := by
  simp [bytesV, h]

/-- what an append of one byte leaves: the row that is owned, and that nothing below has turned -/
theorem own_push {w wr w1 : World} {B e : Nat} {v v' : Value} {p : List UInt8} {o : Obj} {x : Int} (b : UInt8) (hx : x = (b.toNat : Int)) (hb : Below B w wr) (hB : B ≤ wr.heap.size)
    (hown : wr.ownsRow B e 1 v p.length (bytesV p)) (hown' : w1.ownsRow B e 1 v' (p.length + 1) (bytesV p ++ [Value.int .u8 x])) (hg : (wr.alloc o).grownBy w1 v.ownBlock) :
    w1.ownsRow B e 1 v' (p ++ [b]).length (bytesV (p ++ [b])) ∧ Below B w w1 := by
  refine ⟨by rw [bytesV_append, List.length_append]; subst hx; exact hown', (hb.alloc hB o).grown hg (by simp; omega) ?_⟩
  intro k hk
  rcases hown.2 with ⟨rfl, _⟩ | ⟨g, cap, cur, rfl, hge, _⟩
  · cases hk
  · cases hk; exact hge

/-- what is owned, as the bytes of a string -/
theorem own_string {P : Program} {w : World} {B : Nat} {v : Value} {p : List UInt8} (src dst e : TypeId) (hs : P.underlying src = some (.slice e)) (he : P.underlying e = some (.int .u8)) (hd : P.underlying dst = some .string)
    (h : w.ownsRow B e 1 v p.length (bytesV p)) (hp : p ≠ []) : (convert src dst v).run P w = .ok (.string ⟨p.toArray⟩) w := by
  have h' := h
  rcases h.2 with ⟨rfl, h0⟩ | ⟨g, cap, cur, rfl, hg, hh, hnc, hcp, hcs, htake⟩
  · exact absurd (List.length_eq_zero_iff.1 h0) hp
  · refine run_convert_bytes_back w src dst e ⟨g, 0, none⟩ cap p hs he hd fun j hj => ?_
    rw [Addr.add_lit, Nat.zero_add, h'.cellAt j (by omega)]
    simp [bytesV, hj]

/-- .. of nothing -/
theorem own_string_nil {P : Program} {w : World} {B : Nat} {v : Value} (src dst e : TypeId) (hs : P.underlying src = some (.slice e)) (he : P.underlying e = some (.int .u8)) (hd : P.underlying dst = some .string)
    (h : w.ownsRow B e 1 v 0 (bytesV [])) : (convert src dst v).run P w = .ok (.string ⟨#[]⟩) w := by
  rcases h.2 with ⟨rfl, h0⟩ | ⟨g, cap, cur, rfl, hg, hh, hnc, hcp, hcs, htake⟩
  · rw [run_convert_bytes_string w src dst e none 0 0 hs he hd]; rfl
  · exact run_convert_bytes_back w src dst e ⟨g, 0, none⟩ cap [] hs he hd fun j hj => by simp at hj
end Go.Proofs.Ytmhmlkdoaojimaq

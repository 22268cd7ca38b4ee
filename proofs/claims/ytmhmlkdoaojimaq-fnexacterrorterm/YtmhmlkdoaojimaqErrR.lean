/- ErrorTerm's answer as a term in memory of its own, both sides. -/
import Derived.Test.YtmhmlkdoaojimaqErrS
import Derived.Test.YtmhmlkdoaojimaqErrI
namespace Go.Proofs.Ytmhmlkdoaojimaq
open Go.RowKit

theorem own_leaf {w : World} {s : ByteArray} (h : s.size ≤ maxLen) : Own 24 w (leafA s) (.agg #[.int .i64 2, .string s, .int .i64 0, .slice none 0 0]) [] :=
  own_mk (Or.inl ⟨rfl, rfl, rfl⟩) (by omega) (by omega) h
theorem own_err {w : World} {b : Nat} {c : Int} {p : ByteArray} (hp : p.size ≤ 1048576) (hk : w.heap[b]? = some (.cells #[.int .i64 2, .string (errName c), .int .i64 0, .slice none 0 0, .int .i64 2, .string (errPred p), .int .i64 0, .slice none 0 0] 24 (0, 0))) :
    Own 24 w (errT c p) (.agg #[.int .i64 4, .string cError, .int .i64 0, .slice (some ⟨b, 0, none⟩) 2 2]) [b] :=
  own_two (F := []) (G := []) hk (own_leaf (by have := errName_size c; unfold maxLen; omega)) (own_leaf (by have := errPred_size p hp; unfold maxLen; omega)) (by decide)
theorem s_err (c : Int) (hc : -9223372036854775808 ≤ c ∧ c ≤ 9223372036854775807) (p : ByteArray) (hp : p.size ≤ 1048576) (w : World) :
    Calls Try.prog 5 #[.int .i64 c, .string p] w fun e w' => ∃ v F, e = .returned v ∧ Own 24 w' (errT c p) v F ∧ (∀ x ∈ F, w.heap.size ≤ x) ∧ F.Nodup ∧ Below w.heap.size w w' := by
  refine Calls.mono (s_errorTerm c hc p hp w) ?_
  rintro e w' ⟨b, rfl, hb, hk, hbl⟩
  exact ⟨_, [b], rfl, own_err hp hk, by simpa using hb, by simp, hbl⟩
theorem i_err (c : Int) (hc : -9223372036854775808 ≤ c ∧ c ≤ 9223372036854775807) (p : ByteArray) (hp : p.size ≤ 1048576) (w : World) :
    Calls Try.prog 6 #[.int .i64 c, .string p] w fun e w' => ∃ v F, e = .returned v ∧ Own 24 w' (errT c p) v F ∧ (∀ x ∈ F, w.heap.size ≤ x) ∧ F.Nodup ∧ Below w.heap.size w w' := by
  refine Calls.mono (i_errorTerm c hc p hp w) ?_
  rintro e w' ⟨b, rfl, hb, hk, hbl⟩
  exact ⟨_, [b], rfl, own_err hp hk, by simpa using hb, by simp, hbl⟩
end Go.Proofs.Ytmhmlkdoaojimaq

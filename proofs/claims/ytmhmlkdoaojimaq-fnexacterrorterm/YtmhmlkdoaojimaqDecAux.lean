/- One figure ahead of others: what the conversion and the joining of two texts give. -/
import Derived.Test.YtmhmlkdoaojimaqRows
import Derived.Test.YtmhmlkdoaojimaqDecPlain
import Derived.Laws.Concat
import Derived.WalkKit
import Derived.WalkSpells
import Derived.ProofKit
import Derived.OpenShut
namespace Go.Proofs.Ytmhmlkdoaojimaq
open Go.RowKit

theorem conv_one (W : World) (b : UInt8) :
    (convert 76 9 (.slice (some ⟨W.heap.size, 0, none⟩) 1 1)).run Try.prog (W.alloc (.cells #[.int .u8 (b.toNat : Int)] 5)) = .ok (.string ⟨#[b]⟩) (W.alloc (.cells #[.int .u8 (b.toNat : Int)] 5)) := by
  refine run_convert_bytes_back (P := Try.prog) _ 76 9 5 ⟨W.heap.size, 0, none⟩ 1 [b] Try.underlying76 Try.underlying5 Try.underlying9 fun j hj => ?_
  match j, hj with
  | 0, _ => simp [Addr.add]

theorem add_one (b : UInt8) (q : List UInt8) (hq : q.length ≤ 30) (u : World) :
    (Op.stringOp .add ⟨#[b]⟩ ⟨q.toArray⟩).run Try.prog u = .ok (.string ⟨(b :: q).toArray⟩) u := by
  have h := run_string_add_sum (P := Try.prog) u ⟨#[b]⟩ ⟨q.toArray⟩ (by rw [size_mk, size_mk, List.length_singleton]; omega)
  have e : (⟨#[b]⟩ : ByteArray) ++ ⟨q.toArray⟩ = ⟨(b :: q).toArray⟩ := by rw [ByteArray.mk_append_mk]; congr 1
  rw [h, e]

theorem dec_step {m N : Nat} {q : List UInt8} (hm : 0 < m) (h : decR m ++ q = decR N) : decR (m / 10) ++ (fig (m % 10) :: q) = decR N := by
  rw [decR_pos hm] at h
  rw [← h]; simp
theorem dec_q {m N : Nat} {q : List UInt8} (hN : N ≤ 9223372036854775808) (h : decR m ++ q = decR N) : q.length ≤ 20 := by
  have h1 := decR_len 20 N (by omega)
  rw [← h, List.length_append] at h1
  omega

end Go.Proofs.Ytmhmlkdoaojimaq

/- A Db marked, for the laws' frames. -/
import Derived.Test.YtmhmlkdoaojimapGreatDoorMrg30
import Derived.Test.YtmhmlkdoaojimapGreatDoorDbMk
import Derived.Test.YtmhmlkdoaojimapGreatDoorMrg9
namespace Go.Proofs.YtmhmlkdoaojimapGreatDoor
open Go.RowKit

theorem claNs_le (cs : List Cla) : claNs cs ≤ 4 * (cs.length + claWts cs) + 4 * cs.length := by
  induction cs with
  | nil => simp [claNs]
  | cons c cs ih =>
    have h1 := n_le_wt c.h
    have h2 := n_le_wt c.b
    have e : c.n = 3 * c.h.n + 3 * c.b.n + 1 := by first | rfl | (unfold Cla.n; omega)
    simp only [claNs, claWts, List.length_cons, Cla.wt] at *
    omega
/-- as it is when it is marked -/
def DbMarked (w : World) (cs : List Cla) (n : Nat) (c0 c1 : Value) : Prop := ClsIn w (markCs cs 1) c0 ∧ w.ownsRow 0 9 1 c1 n (strsV (marksC (1 + claNs cs) n))
theorem DbMarked.keep {w w' : World} {cs : List Cla} {n : Nat} {c0 c1 : Value} (h : DbMarked w cs n c0 c1) (hb : Below w.heap.size w w') : DbMarked w' cs n c0 c1 := ⟨h.1.keep hb, owns_below h.2 hb⟩
theorem mark_dbO (cs : List Cla) (xs : List ByteArray) (w : World) (c0 c1 : Value) (F : List Nat) (h : DbOwn w cs xs c0 c1 F) (hcm : 1 + claNs cs ≤ 1000000000) (hl : xs.length ≤ 1100000) :
    Calls Tryz.prog 12 #[.agg #[c0, c1], .int .i64 1] w fun e w' => e = .returned (.int .i64 ((1 + claNs cs + xs.length : Nat) : Int)) ∧ DbMarked w' cs xs.length c0 c1 ∧ Out F w w' := by
  obtain ⟨a, p, g, k, F0, rfl, rfl, h1, h2, rfl, h3⟩ := h
  have q1 := h2
  rw [← strL_v, ← strL_len xs] at q1
  obtain ⟨n1, _, n3⟩ := List.nodup_append.1 h3
  have := mark_db cs (strL xs) w _ _ F0 1 h1 n1 q1 (fun f hf => by simp [Value.ownBlock]; exact fun e => n3 f hf g (by simp) (by first | exact e | exact e.symm)) (by omega) hcm (by rw [strL_len]; exact hl)
  rw [strL_len] at this
  refine Calls.mono this ?_
  rintro e w' ⟨rfl, m1, m2, m3⟩
  exact ⟨rfl, ⟨m1.toIn, m2⟩, m3.mono (by simp [Value.ownBlock])⟩
end Go.Proofs.YtmhmlkdoaojimapGreatDoor

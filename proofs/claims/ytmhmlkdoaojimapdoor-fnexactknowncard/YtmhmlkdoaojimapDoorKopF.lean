/- What copyOf leaves, told from an earlier world. -/
import Derived.Test.YtmhmlkdoaojimapDoorKopE
namespace Go.Proofs.YtmhmlkdoaojimapDoor
open Go.RowKit

theorem KPost.base {T0 : Nat} {D0 : List Nat} {osl : Value} {gc m : Nat} {t : Tm} {F : List Nat} {w u w' : World} {e : Ending} (hb : Below w.heap.size w u) (h : KPost T0 D0 osl gc m t F u e w') : KPost T0 D0 osl gc m t F w e w' := by
  obtain ⟨v', F', T1, D1, osl', h1, h2, h3, h4, h5, h6, h7, h8, h9⟩ := h
  have hs := hb.size
  exact ⟨v', F', T1, D1, osl', h1, h2, fun f hf => ⟨by have := (h3 f hf).1; omega, (h3 f hf).2⟩, h4, (Out.of_below hb).trans h5, h6, h7, fun d hd => (h8 d hd).imp id fun h => h.imp id fun h => by omega, fun z hz => (h9 z hz).imp id fun h => by omega⟩
end Go.Proofs.YtmhmlkdoaojimapDoor

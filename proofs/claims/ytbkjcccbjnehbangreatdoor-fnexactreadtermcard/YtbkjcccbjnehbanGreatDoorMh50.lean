import Derived.Test.YtbkjcccbjnehbanGreatDoorMh23
namespace Go.Proofs.YtbkjcccbjnehbanGreatDoor
def fig (x : Nat) : UInt8 := if x < 10 then UInt8.ofNat (48 + x) else UInt8.ofNat (87 + x)
def hexL (l : List UInt8) : List UInt8 := l.flatMap fun c => [fig (c.toNat / 16), fig (c.toNat % 16)]
theorem fig_nat (x : Nat) (h : x < 16) : (fig x).toNat = if x < 10 then 48 + x else 87 + x := by
 unfold fig
 split <;> simp <;> omega
end Go.Proofs.YtbkjcccbjnehbanGreatDoor

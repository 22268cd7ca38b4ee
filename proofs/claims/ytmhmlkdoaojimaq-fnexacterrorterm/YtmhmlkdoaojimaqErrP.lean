/- What ErrorTerm answers. Plain. -/
import Derived.Test.YtmhmlkdoaojimaqTmPlain
import Derived.Test.YtmhmlkdoaojimaqNameP
namespace Go.Proofs.Ytmhmlkdoaojimaq
open Go.RowKit

def cInst : ByteArray := ⟨#[105, 110, 115, 116]⟩
def cType : ByteArray := ⟨#[116, 121, 112, 101]⟩
def cRange : ByteArray := ⟨#[114, 97, 110, 103, 101]⟩
def cZero : ByteArray := ⟨#[122, 101, 114, 111]⟩
def cUnknown : ByteArray := ⟨#[117, 110, 107, 110, 111, 119, 110]⟩
def cError : ByteArray := ⟨#[101, 114, 114, 111, 114]⟩
def cNone : ByteArray := ⟨#[110, 111, 110, 101]⟩
/-- the name of a code -/
def errName (c : Int) : ByteArray := if c = 1 then cInst else if c = 2 then cType else if c = 3 then cRange else if c = 4 then cZero else cUnknown
/-- the name of what is asked, or none -/
def errPred (p : ByteArray) : ByteArray := if nameOk p then p else cNone
def leafA (s : ByteArray) : Tm := .mk 2 s 0 []
def errT (c : Int) (p : ByteArray) : Tm := .mk 4 cError 0 [leafA (errName c), leafA (errPred p)]
theorem errName_size (c : Int) : (errName c).size ≤ 7 := by
  unfold errName
  split
  · decide
  · split
    · decide
    · split
      · decide
      · split <;> decide
theorem errPred_size (p : ByteArray) (h : p.size ≤ 1048576) : (errPred p).size ≤ 1048576 := by
  unfold errPred
  split
  · exact h
  · decide
end Go.Proofs.Ytmhmlkdoaojimaq

/-
  The program's store: Set, Torn, Down, Calls, Fork.
-/
import Derived.Test.YtepmhgkegfpmjaaLsKit
import Derived.Laws.Externs
import Derived.Shelf.SlMaps.Clone
namespace Go.Proofs.Ytepmhgkegfpmjaa
open Go.RowKit Go.Lib Go.Maps

/-- What is there behind a Set. -/
def setL (n d : ByteArray) (L : List OB) : List OB := if fcode n d = 0 then layL L n d else L
/-- What Torn answers, and leaves. -/
def tcode (k : Int) (n d : ByteArray) : Int := if k = 1 then fcode n d else 3
def tornL (k : Int) (n d : ByteArray) (kp : Int) (L : List OB) : List OB := if tcode k n d = 0 ∧ 0 ≤ kp then layL L n (d.extract 0 (min kp d.size).toNat) else L
theorem fcode_zero {n d : ByteArray} (h : fcode n d = 0) : mayB n = true ∧ d.size ≤ 131072 := by
  unfold fcode at h
  split at h
  · split at h
    · constructor <;> assumption
    · omega
  · omega
section
variable {w : World} {b mb : Nat} {q f : Int} {dn : Bool} {cl : Int} {L : List OB}

end
end Go.Proofs.Ytepmhgkegfpmjaa

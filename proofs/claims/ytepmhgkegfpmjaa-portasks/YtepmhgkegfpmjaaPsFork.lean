/-
  The program's store: Fork.
-/
import Derived.Test.YtepmhgkegfpmjaaPsRest
namespace Go.Proofs.Ytepmhgkegfpmjaa
open Go.RowKit Go.Lib Go.Maps

section
variable {w : World} {b mb : Nat} {q f : Int} {dn : Bool} {cl : Int} {L : List OB}
theorem PS.five (h : PS w b mb q f dn cl L) : w.cell? ⟨b, 0, none⟩ = some (.map (some mb)) ∧ w.cell? ⟨b, 1, none⟩ = some (.int .i64 ((usedL L : Nat) : Int)) ∧ w.cell? ⟨b, 2, none⟩ = some (.int .i64 q) ∧ w.cell? ⟨b, 3, none⟩ = some (.int .i64 f) ∧ w.cell? ⟨b, 4, none⟩ = some (.bool dn) := ⟨h.cell0, h.cell1, h.cell2, h.cell3, h.cell4⟩

end
end Go.Proofs.Ytepmhgkegfpmjaa

/-
  ShRefHex: texts of earlier layers, laid over this program.
-/
import Derived.Test.YtcidfkkgpehodaaDoorBHex
namespace Go.Proofs.YtcidfkkgpehodaaDoor.Zq.Sh
open Go.RowKit Go.Lib

theorem tdiv_hi (y : UInt8) : Int.tdiv (y.toNat : Int) 16 = (y.toNat : Int) / 16 := Int.tdiv_eq_ediv_of_nonneg (by omega)
theorem wrap_hi (y : UInt8) : IntKind.u8.wrap ((y.toNat : Int) / 16) = (y.toNat : Int) / 16 := by
  have h := y.toNat_lt
  exact wraps_u8 _ (by omega) (by omega)
theorem wrap_lo (y : UInt8) : IntKind.u8.wrap ((y.toNat : Int) % 16) = (y.toNat : Int) % 16 := by
  have h := y.toNat_lt
  exact wraps_u8 _ (by omega) (by omega)
theorem tmod_lo (y : UInt8) : Int.tmod (y.toNat : Int) 16 = (y.toNat : Int) % 16 := Int.tmod_eq_emod_of_nonneg (by omega)

/-- What the document's digit stands for; -1: it is none. -/
def digI (c : Nat) : Int := if digV c = 16 then -1 else ((digV c : Nat) : Int)

theorem isIdB_any (u : ByteArray) (w : World) : Calls Tryd.prog 50 #[.string u] w fun e w' => e = .returned (.bool ((u.size : Int) == 32)) ∧ w' = w := by
  go_enter Tryd.func50, Tryd.ntmps50
  go_wp2
  go_ret
  exact ⟨rfl, rfl⟩
end Go.Proofs.YtcidfkkgpehodaaDoor.Zq.Sh


/-
  The contracts of the two functions that turn a word.
-/
import Derived.Test.YtgpdmboeompncaaDoorRows
import Derived.Test.YtgpdmboeompncaaDoorMath
import Derived.ProofKit
import Derived.WalkKit
import Derived.WalkSpells
import Derived.WalkLawsBesides
import Derived.Deep.QuietTactic
import Derived.BigQuiet
import Derived.Laws.Unary
namespace Go.Proofs.YtgpdmboeompncaaDoor
open Go.RowKit Go.Lib

theorem or_comm (a b : Int) : bits .or .u32 a b = bits .or .u32 b a := by
  simp only [bits, BitVec.or_comm]

theorem turn_arg (n : Nat) (hn : 1 ≤ n) (hn2 : n ≤ 31) : bits .and .u64 (IntKind.u64.wrap (-(n : Int))) 31 = 32 - (n : Int) :=
  (show ∀ n : Nat, n < 32 → 1 ≤ n → bits .and .u64 (IntKind.u64.wrap (-(n : Int))) 31 = 32 - (n : Int) by decide) n (by omega) hn

set_option maxRecDepth 10000 in
theorem turned_any (x : Int) (n : Nat) (hn : 1 ≤ n) (hn2 : n ≤ 31) (w : World) :
    Calls Tryd.prog 44 #[.int .u32 x, .int .i64 n] w fun e w' => e = .returned (.int .u32 (rotr x n)) ∧ w' = w := by
  have ha := turn_arg n hn hn2
  go_enter Tryd.func44, Tryd.ntmps44
  go_wp2
  go_ret
  refine ⟨?_, rfl⟩
  show Ending.returned (.int .u32 (bits .or .u32 (x * 2 ^ (32 - n) % 4294967296) (x / 2 ^ (32 - (32 - n))))) = _
  rw [show 32 - (32 - n) = n from by omega, or_comm]
  rfl
theorem turned_int (x z : Int) (h1 : 1 ≤ z) (h2 : z ≤ 31) (w : World) :
    Calls Tryd.prog 44 #[.int .u32 x, .int .i64 z] w fun e w' => e = .returned (.int .u32 (rotr x z.toNat)) ∧ w' = w := by
  have := turned_any x z.toNat (by omega) (by omega) w
  rwa [Int.toNat_of_nonneg (by omega)] at this

theorem refTurn_any (x : Int) (n : Nat) (hn : 1 ≤ n) (hn2 : n ≤ 31) (w : World) :
    Calls Tryd.prog 42 #[.int .u32 x, .int .i64 n] w fun e w' => e = .returned (.int .u32 (rotr x n)) ∧ ∃ m, w' = w.drewN m := by
  go_enter Tryd.func42, Tryd.ntmps42
  go_wp2
  go_quiet (fail)
  go_wp2
  go_ret
  exact ⟨rfl, _, rfl⟩
theorem refTurn_int (x z : Int) (h1 : 1 ≤ z) (h2 : z ≤ 31) (w : World) :
    Calls Tryd.prog 42 #[.int .u32 x, .int .i64 z] w fun e w' => e = .returned (.int .u32 (rotr x z.toNat)) ∧ ∃ m, w' = w.drewN m := by
  have := refTurn_any x z.toNat (by omega) (by omega) w
  rwa [Int.toNat_of_nonneg (by omega)] at this
end Go.Proofs.YtgpdmboeompncaaDoor

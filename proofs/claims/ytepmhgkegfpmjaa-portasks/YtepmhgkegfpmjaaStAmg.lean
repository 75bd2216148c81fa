/-
  A number from 0 to n - 1 (for the play).
-/
import Derived.Test.YtepmhgkegfpmjaaStKit
namespace Go.Proofs.Ytepmhgkegfpmjaa
open Go.RowKit Go.Lib

def amg (x : Int) (n : Nat) : Nat := ((x.tmod n + n).tmod n).toNat
theorem amg_spec (x : Int) (n : Nat) (hn : 0 < n) : (x.tmod n + n).tmod n = (amg x n : Int) ∧ amg x n < n ∧ 0 ≤ x.tmod n + n ∧ x.tmod n + n < 2 * n := by
  have hp : (0 : Int) < n := by omega
  have h2 : -(n : Int) < x.tmod n ∧ x.tmod n < n := by
    rcases Int.le_total 0 x with h | h
    · have a := Int.tmod_nonneg (n : Int) h
      have b := Int.tmod_lt_of_pos x hp
      omega
    · have a := Int.tmod_nonneg (n : Int) (show 0 ≤ -x by omega)
      have b := Int.tmod_lt_of_pos (-x) hp
      rw [Int.neg_tmod] at a b
      omega
  have h3 : 0 ≤ x.tmod n + n := by omega
  have h4 : 0 ≤ (x.tmod n + n).tmod n := Int.tmod_nonneg _ h3
  have h5 := Int.tmod_lt_of_pos (x.tmod n + n) (show (0 : Int) < n by omega)
  refine ⟨by rw [amg]; omega, by rw [amg]; omega, h3, by omega⟩
end Go.Proofs.Ytepmhgkegfpmjaa

/-
  A number from 0 to n - 1 (for the play).
-/
import Derived.Test.YtkcefdiiibbflaaStKit
namespace Go.Proofs.Ytkcefdiiibbflaa
open Go.RowKit Go.Lib

def amg (x : Int) (n : Nat) : Nat := ((x.tmod n + n).tmod n).toNat
theorem amg_spec (x : Int) (n : Nat) (hn : 0 < n) : (x.tmod n + n).tmod n = (amg x n : Int) ∧ amg x n < n ∧ 0 ≤ x.tmod n + n ∧ x.tmod n + n < 2 * n := by
  have hp : (0 : Int) < n := by omega
  have h2 : -(n : Int) < x.tmod n ∧ x.tmod n < n := by
    rcases Int.le_total 0 x with h | h
    · have a := Int.tmod_nonneg (n : Int) h
      have b := Int.tmod_lt_of_pos x hp
      omega
    · have a := Int.tmod_nonneg (n : Int) (show 0 ≤ -x by omega)
      have b := Int.tmod_lt_of_pos (-x) hp
      rw [Int.neg_tmod] at a b
      omega
  have h3 : 0 ≤ x.tmod n + n := by omega
  have h4 : 0 ≤ (x.tmod n + n).tmod n := Int.tmod_nonneg _ h3
  have h5 := Int.tmod_lt_of_pos (x.tmod n + n) (show (0 : Int) < n by omega)
  refine ⟨by rw [amg]; omega, by rw [amg]; omega, h3, by omega⟩
set_option maxRecDepth 100000 in
theorem among_any (w : World) (x : Int) (n : Nat) (hn : 0 < n) (hn2 : n < 100000) : Calls Try.prog 26 #[.int .i64 x, .int .i64 n] w fun e w' => e = .returned (.int .i64 ((amg x n : Nat) : Int)) ∧ w' = w := by
  obtain ⟨h1, h2, h3, h4⟩ := amg_spec x n hn
  have hb := IntKind.i64.wrap
  generalize amg x n = r at *
  have h0 : ((n : Int) == 0) = false := by simp; omega
  have h0' : ¬ ((n : Int) = 0) := by omega
  have hm1 : ¬ ((n : Int) = -1) := by omega
  obtain ⟨y, hy⟩ : ∃ y, y = x.tmod n := ⟨_, rfl⟩
  rw [← hy] at h1 h3 h4
  have hy' := hy.symm
  clear hy hb
  go_enter Try.func26, Try.ntmps26
  go_wp2
  go_ret
  exact ⟨rfl, rfl⟩
end Go.Proofs.Ytkcefdiiibbflaa

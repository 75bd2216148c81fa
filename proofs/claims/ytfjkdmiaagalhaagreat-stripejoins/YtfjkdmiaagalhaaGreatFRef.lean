/-
  The contracts of the document's own Mul, Div, Pow and Log.
-/
import Derived.Test.YtfjkdmiaagalhaaGreatTimes
import Derived.Test.YtfjkdmiaagalhaaGreatReckon
namespace Go.Proofs.YtfjkdmiaagalhaaGreat.Fd
open Go.RowKit Go.Lib

theorem refTimes_any (a b : Nat) (ha : a < 256) (hb : b < 256) (w : World) :
    Calls Tryz.prog 58 #[.int .i64 a, .int .i64 b] w fun e w' => e = .returned (.int .i64 ((prod a b : Nat) : Int)) ∧ w' = w := by
  rw [← times_eq a b ha hb]
  exact times_any a b ha hb w

theorem is_any (a : Int) (w : World) : Calls Tryz.prog 47 #[.int .i64 a] w fun e w' => e = .returned (.bool (isEl a)) ∧ w' = w := by
  by_cases h : 0 ≤ a
  · rw [isEl, show decide (0 ≤ a) = true from decide_eq_true h, Bool.true_and]
    go_enter Tryz.func47, Tryz.ntmps47
    go_wp2
    go_ret
    exact ⟨rfl, rfl⟩
  · rw [isEl, show decide (0 ≤ a) = false from decide_eq_false h, Bool.false_and]
    go_enter Tryz.func47, Tryz.ntmps47
    go_wp2
    go_ret
    exact ⟨rfl, rfl⟩

section
variable {w : World}
set_option maxRecDepth 100000 in
theorem over_any (a b : Nat) (ha : a < 256) (hb : b < 256) (h0 : b ≠ 0) (w : World) :
    Calls Tryz.prog 33 #[.int .i64 a, .int .i64 b] w fun e w' => e = .returned (.int .i64 ((quot a b : Nat) : Int)) ∧ w' = w := by
  have hq := quot_prod a b ha hb h0
  have hql := quot_lt a b
  obtain ⟨q, hqe⟩ : ∃ q, q = quot a b := ⟨_, rfl⟩
  rw [← hqe] at hq hql ⊢
  clear hqe
  go_enter Tryz.func33, Tryz.ntmps33
  go_wp2
  go_loop [5] (fun i => ∃ j : Nat, j ≤ q ∧ i = .int .i64 j) (fun i => 256 - (intOf i).toNat)
  case atStart => exact ⟨0, by omega, rfl⟩
  case round =>
    obtain ⟨j, hj, rfl⟩ := hrel
    have hT := refTimes_any j b (by omega) hb
    by_cases hjq : j = q
    · subst hjq
      rw [hq] at hT
      go_wp2_with fail
      refine (hT _).mono ?_
      rintro e w1 ⟨rfl, rfl⟩
      go_wp2
      go_ret
      exact ⟨rfl, rfl⟩
    · have hne : prod j b ≠ a := fun h => hjq (prod_cancel j b q (by omega) hql hb h0 (h.trans hq.symm))
      have HT : Hid _ := hT
      clear hT hq
      generalize prod j b = p at *
      have hne' : ((p : Int) == (a : Int)) = false := by simp; omega
      go_wp2_with fail
      refine (HT.out _).mono ?_
      rintro e w1 ⟨rfl, rfl⟩
      go_wp2
      exact ⟨⟨j + 1, by omega, by go_num⟩, by simp [intOf]; omega⟩

end
end Go.Proofs.YtfjkdmiaagalhaaGreat.Fd

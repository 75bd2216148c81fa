/-
  The contracts of Mul, Div, Pow and Log, and of what they call.
-/
import Derived.Test.YtfjkdmiaagalhaaGreatSlow
namespace Go.Proofs.YtfjkdmiaagalhaaGreat
open Go.RowKit Go.Lib

theorem new_any (w : World) :
    Calls Tryz.prog 15 #[] w fun e w' => e = .returned (.pointer (some ⟨w.heap.size, 0, none⟩)) ∧ F w' w.heap.size ∧ Below w.heap.size w w' := by
  go_enter Tryz.func15, Tryz.ntmps15
  go_wp2
  go_ret
  exact ⟨rfl, .inl (heap_alloc_new w _), (Below.refl _ _).alloc (Nat.le_refl _) _⟩

def isEl (a : Int) : Bool := decide (0 ≤ a) && decide (a < 256)
theorem isElement_any (a : Int) (w : World) : Calls Tryz.prog 55 #[.int .i64 a] w fun e w' => e = .returned (.bool (isEl a)) ∧ w' = w := by
  by_cases h : 0 ≤ a
  · rw [isEl, show decide (0 ≤ a) = true from decide_eq_true h, Bool.true_and]
    go_enter Tryz.func55, Tryz.ntmps55
    go_wp2
    go_ret
    exact ⟨rfl, rfl⟩
  · rw [isEl, show decide (0 ≤ a) = false from decide_eq_false h, Bool.false_and]
    go_enter Tryz.func55, Tryz.ntmps55
    go_wp2
    go_ret
    exact ⟨rfl, rfl⟩
theorem isEl_nat (a : Nat) (h : a < 256) : isEl (a : Int) = true := by simp [isEl]; omega
theorem isEl_out (a : Int) (h : isEl a = true) : ∃ n : Nat, a = n ∧ n < 256 := by
  simp [isEl] at h
  exact ⟨a.toNat, by omega, by omega⟩

set_option maxRecDepth 100000 in
theorem product_any {w : World} {t : Nat} (hT : TB w t) (a b : Nat) (ha : a < 256) (hb : b < 256) :
    Calls Tryz.prog 88 #[.pointer (some ⟨t, 0, none⟩), .int .i64 a, .int .i64 b] w fun e w' => e = .returned (.int .i64 ((prod a b : Nat) : Int)) ∧ ∃ m, w' = w.drewN m := by
  by_cases h1 : a = 0
  · subst h1
    rw [zero_prod]
    go_enter Tryz.func88, Tryz.ntmps88
    go_wp2
    go_ret
    exact ⟨rfl, 0, rfl⟩
  by_cases h2 : b = 0
  · subst h2
    rw [prod_zero]
    have h1' : ((a : Int) == 0) = false := by simp; omega
    go_enter Tryz.func88, Tryz.ntmps88
    go_wp2
    go_ret
    exact ⟨rfl, 0, rfl⟩
  have ca := hT.lg a ha
  have cb := hT.lg b hb
  have la := lg_lt a ha
  have lb := lg_lt b hb
  have cp := hT.pw (lg a + lg b) (by omega)
  have hp := pw_lt ((lg a + lg b) % 255)
  rw [prod_ne a b h1 h2]
  generalize pw ((lg a + lg b) % 255) = p at *
  generalize lg a = x at *
  generalize lg b = y at *
  have h1' : ((a : Int) == 0) = false := by simp; omega
  have h2' : ((b : Int) == 0) = false := by simp; omega
  have b0 : (0 : Int) ≤ (a : Int) := by omega
  have b1 : (a : Int) < 256 := by omega
  have b2 : (0 : Int) ≤ (b : Int) := by omega
  have b3 : (b : Int) < 256 := by omega
  have b4 : (0 : Int) ≤ (x : Int) + (y : Int) := by omega
  have b5 : (x : Int) + (y : Int) < 510 := by omega
  clear hT
  go_enter Tryz.func88, Tryz.ntmps88
  go_wp2
  go_quiet (fail)
  go_wp2
  go_ret
  exact ⟨by go_num, _, rfl⟩
end Go.Proofs.YtfjkdmiaagalhaaGreat

/-
  The contracts of quotient, and of Mul and Div.
-/
import Derived.Test.YtfjkdmiaagalhaaGreatReckon
namespace Go.Proofs.YtfjkdmiaagalhaaGreat
open Go.RowKit Go.Lib

set_option maxRecDepth 100000 in
theorem quotient_any {w : World} {t : Nat} (hT : TB w t) (a b : Nat) (ha : a < 256) (hb : b < 256) :
    Calls Tryz.prog 57 #[.pointer (some ⟨t, 0, none⟩), .int .i64 a, .int .i64 b] w fun e w' => e = .returned (.int .i64 ((quot a b : Nat) : Int)) ∧ ∃ m, w' = w.drewN m := by
  by_cases h1 : a = 0
  · subst h1
    rw [quot, if_pos rfl]
    go_enter Tryz.func57, Tryz.ntmps57
    go_wp2
    go_ret
    exact ⟨rfl, 0, rfl⟩
  have ca := hT.lg a ha
  have cb := hT.lg b hb
  have la := lg_lt a ha
  have lb := lg_lt b hb
  have cp := hT.pw (255 + lg a - lg b) (by omega)
  have hp := pw_lt ((255 + lg a - lg b) % 255)
  rw [quot, if_neg h1]
  generalize pw ((255 + lg a - lg b) % 255) = p at *
  generalize lg a = x at *
  generalize lg b = y at *
  obtain ⟨z, hz⟩ : ∃ z, z = 255 + x - y := ⟨_, rfl⟩
  rw [← hz] at cp
  have hzi : (255 : Int) + (x : Int) - (y : Int) = (z : Int) := by omega
  have hz1 : z < 510 := by omega
  clear hz
  have h1' : ((a : Int) == 0) = false := by simp; omega
  have b0 : (0 : Int) ≤ (a : Int) := by omega
  have b1 : (a : Int) < 256 := by omega
  have b2 : (0 : Int) ≤ (b : Int) := by omega
  have b3 : (b : Int) < 256 := by omega
  have b4 : (0 : Int) ≤ (z : Int) := by omega
  have b5 : (z : Int) < 510 := by omega
  have hw : IntKind.i64.wrap ((255 : Int) + (x : Int) - (y : Int)) = (z : Int) := by rw [hzi]; exact wraps_i64 _ (by omega) (by omega)
  have hw2 : IntKind.i64.wrap ((255 : Int) + (x : Int)) = 255 + (x : Int) := wraps_i64 _ (by omega) (by omega)
  clear hT
  go_enter Tryz.func57, Tryz.ntmps57
  go_wp2
  go_quiet (fail)
  go_wp2
  go_ret
  exact ⟨by go_num, _, rfl⟩

/-! ### The methods -/
section
variable {w : World} {f : Nat}
theorem F.tabled {w' : World} (h : F w f) (n : Nat) (hg : w'.grownBy w (some f)) : F (w.drewN n) f ∧ w'.grownBy (w.drewN n) (some f) := ⟨h, gb_drewN hg n⟩

theorem mul_ok (hF : F w f) (a b : Nat) (ha : a < 256) (hb : b < 256) :
    Calls Tryz.prog 103 #[.pointer (some ⟨f, 0, none⟩), .int .i64 a, .int .i64 b] w fun e w' => e = .returned (.tuple #[.int .i64 ((prod a b : Nat) : Int), .int .i64 0]) ∧ F w' f ∧ w.grownBy w' (some f) := by
  have ea := isEl_nat a ha
  have eb := isEl_nat b hb
  go_enter Tryz.func103, Tryz.ntmps103
  go_wp2_with (go_at_call 55; refine (isElement_any _ _).mono ?_; rintro e w1 ⟨rfl, rfl⟩)
  go_wp2_with fail
  refine (tables_any hF).mono ?_
  rintro e w1 ⟨t, rfl, hT, hF1, hg⟩
  go_wp2_with fail
  refine (product_any hT a b ha hb).mono ?_
  rintro e w1 ⟨rfl, m, rfl⟩
  go_wp2
  go_ret2
  exact ⟨rfl, hF1.tabled m hg⟩

theorem div_ok (hF : F w f) (a b : Nat) (ha : a < 256) (hb : b < 256) (h0 : b ≠ 0) :
    Calls Tryz.prog 30 #[.pointer (some ⟨f, 0, none⟩), .int .i64 a, .int .i64 b] w fun e w' => e = .returned (.tuple #[.int .i64 ((quot a b : Nat) : Int), .int .i64 0]) ∧ F w' f ∧ w.grownBy w' (some f) := by
  have ea := isEl_nat a ha
  have eb := isEl_nat b hb
  have h0' : ((b : Int) == 0) = false := by simp; omega
  go_enter Tryz.func30, Tryz.ntmps30
  go_wp2_with (go_at_call 55; refine (isElement_any _ _).mono ?_; rintro e w1 ⟨rfl, rfl⟩)
  go_wp2_with fail
  refine (tables_any hF).mono ?_
  rintro e w1 ⟨t, rfl, hT, hF1, hg⟩
  go_wp2_with fail
  refine (quotient_any hT a b ha hb).mono ?_
  rintro e w1 ⟨rfl, m, rfl⟩
  go_wp2
  go_ret2
  exact ⟨rfl, hF1.tabled m hg⟩
end
end Go.Proofs.YtfjkdmiaagalhaaGreat

/-
  The contracts of Div, Pow and Log, of what is refused, and of the chapter's example.
-/
import Derived.Test.YtcgiolehlokpnaaReckon2
namespace Go.Proofs.Ytcgiolehlokpnaa
open Go.RowKit Go.Lib

section
variable {w : World} {f : Nat}
theorem mul_bad (a b : Int) (h : isEl a = false ∨ isEl b = false) (fv : Value) :
    Calls Try.prog 10 #[fv, .int .i64 a, .int .i64 b] w fun e w' => e = .returned (.tuple #[.int .i64 0, .int .i64 1]) ∧ w' = w := by
  cases ea : isEl a
  · go_enter Try.func10, Try.ntmps10
    go_wp2_with (go_at_call 29; refine (isElement_any _ _).mono ?_; rintro e w1 ⟨rfl, rfl⟩)
    go_wp2
    go_ret2
    exact ⟨rfl, rfl⟩
  · have eb : isEl b = false := h.resolve_left (by simp [ea])
    clear h
    go_enter Try.func10, Try.ntmps10
    go_wp2_with (go_at_call 29; refine (isElement_any _ _).mono ?_; rintro e w1 ⟨rfl, rfl⟩)
    go_wp2
    go_ret2
    exact ⟨rfl, rfl⟩

theorem div_ok (hF : F w f) (a b : Nat) (ha : a < 256) (hb : b < 256) (h0 : b ≠ 0) :
    Calls Try.prog 12 #[.pointer (some ⟨f, 0, none⟩), .int .i64 a, .int .i64 b] w fun e w' => e = .returned (.tuple #[.int .i64 ((quot a b : Nat) : Int), .int .i64 0]) ∧ F w' f ∧ w.grownBy w' (some f) := by
  have ea := isEl_nat a ha
  have eb := isEl_nat b hb
  have h0' : ((b : Int) == 0) = false := by simp; omega
  go_enter Try.func12, Try.ntmps12
  go_wp2_with (go_at_call 29; refine (isElement_any _ _).mono ?_; rintro e w1 ⟨rfl, rfl⟩)
  go_wp2_with fail
  refine (tables_any hF).mono ?_
  rintro e w1 ⟨t, rfl, hT, hF1, hg⟩
  go_wp2_with fail
  refine (quotient_any hT a b ha hb).mono ?_
  rintro e w1 ⟨rfl, m, rfl⟩
  go_wp2
  go_ret2
  exact ⟨rfl, hF1.tabled m hg⟩
theorem div_zero (a : Nat) (ha : a < 256) (fv : Value) :
    Calls Try.prog 12 #[fv, .int .i64 a, .int .i64 0] w fun e w' => e = .returned (.tuple #[.int .i64 0, .int .i64 30]) ∧ w' = w := by
  have ea := isEl_nat a ha
  have eb : isEl 0 = true := rfl
  go_enter Try.func12, Try.ntmps12
  go_wp2_with (go_at_call 29; refine (isElement_any _ _).mono ?_; rintro e w1 ⟨rfl, rfl⟩)
  go_wp2
  go_ret2
  exact ⟨rfl, rfl⟩
theorem div_bad (a b : Int) (h : isEl a = false ∨ isEl b = false) (fv : Value) :
    Calls Try.prog 12 #[fv, .int .i64 a, .int .i64 b] w fun e w' => e = .returned (.tuple #[.int .i64 0, .int .i64 1]) ∧ w' = w := by
  cases ea : isEl a
  · go_enter Try.func12, Try.ntmps12
    go_wp2_with (go_at_call 29; refine (isElement_any _ _).mono ?_; rintro e w1 ⟨rfl, rfl⟩)
    go_wp2
    go_ret2
    exact ⟨rfl, rfl⟩
  · have eb : isEl b = false := h.resolve_left (by simp [ea])
    clear h
    go_enter Try.func12, Try.ntmps12
    go_wp2_with (go_at_call 29; refine (isElement_any _ _).mono ?_; rintro e w1 ⟨rfl, rfl⟩)
    go_wp2
    go_ret2
    exact ⟨rfl, rfl⟩

theorem pow_ok (hF : F w f) (a n : Nat) (ha : a < 256) (hn : n ≤ 9223372036854775807) :
    Calls Try.prog 14 #[.pointer (some ⟨f, 0, none⟩), .int .i64 a, .int .i64 n] w fun e w' => e = .returned (.tuple #[.int .i64 ((power a n : Nat) : Int), .int .i64 0]) ∧ F w' f ∧ w.grownBy w' (some f) := by
  have ea := isEl_nat a ha
  have h0 : decide ((n : Int) < 0) = false := by simp
  go_enter Try.func14, Try.ntmps14
  go_wp2_with (go_at_call 29; refine (isElement_any _ _).mono ?_; rintro e w1 ⟨rfl, rfl⟩)
  go_wp2_with fail
  refine (tables_any hF).mono ?_
  rintro e w1 ⟨t, rfl, hT, hF1, hg⟩
  go_wp2_with fail
  refine (power_any hT a n ha hn).mono ?_
  rintro e w1 ⟨rfl, m, rfl⟩
  go_wp2
  go_ret2
  exact ⟨rfl, hF1.tabled m hg⟩
theorem pow_bad (a n : Int) (h : isEl a = false ∨ n < 0) (fv : Value) :
    Calls Try.prog 14 #[fv, .int .i64 a, .int .i64 n] w fun e w' => e = .returned (.tuple #[.int .i64 0, .int .i64 1]) ∧ w' = w := by
  cases ea : isEl a
  · go_enter Try.func14, Try.ntmps14
    go_wp2_with (go_at_call 29; refine (isElement_any _ _).mono ?_; rintro e w1 ⟨rfl, rfl⟩)
    go_wp2
    go_ret2
    exact ⟨rfl, rfl⟩
  · have hn : n < 0 := h.resolve_left (by simp [ea])
    clear h
    go_enter Try.func14, Try.ntmps14
    go_wp2_with (go_at_call 29; refine (isElement_any _ _).mono ?_; rintro e w1 ⟨rfl, rfl⟩)
    go_wp2
    go_ret2
    exact ⟨rfl, rfl⟩

theorem log_ok (hF : F w f) (a : Nat) (ha : a < 256) (h0 : a ≠ 0) :
    Calls Try.prog 16 #[.pointer (some ⟨f, 0, none⟩), .int .i64 a] w fun e w' => e = .returned (.tuple #[.int .i64 ((lg a : Nat) : Int), .int .i64 0]) ∧ F w' f ∧ w.grownBy w' (some f) := by
  have ea := isEl_nat a ha
  have h0' : ((a : Int) == 0) = false := by simp; omega
  obtain ⟨x, hx⟩ : ∃ x, x = lg a := ⟨_, rfl⟩
  rw [← hx]
  go_enter Try.func16, Try.ntmps16
  go_wp2_with (go_at_call 29; refine (isElement_any _ _).mono ?_; rintro e w1 ⟨rfl, rfl⟩)
  go_wp2_with fail
  refine (tables_any hF).mono ?_
  rintro e w1 ⟨t, rfl, hT, hF1, hg⟩
  have ca := hT.lg a ha
  have la := lg_lt a ha
  rw [← hx] at ca la
  clear hx
  have b0 : (0 : Int) ≤ (a : Int) := by omega
  have b1 : (a : Int) < 256 := by omega
  go_wp2
  go_ret2
  exact ⟨rfl, hF1, hg⟩
theorem log_zero (fv : Value) :
    Calls Try.prog 16 #[fv, .int .i64 0] w fun e w' => e = .returned (.tuple #[.int .i64 0, .int .i64 30]) ∧ w' = w := by
  have eb : isEl 0 = true := rfl
  go_enter Try.func16, Try.ntmps16
  go_wp2_with (go_at_call 29; refine (isElement_any _ _).mono ?_; rintro e w1 ⟨rfl, rfl⟩)
  go_wp2
  go_ret2
  exact ⟨rfl, rfl⟩
theorem log_bad (a : Int) (h : isEl a = false) (fv : Value) :
    Calls Try.prog 16 #[fv, .int .i64 a] w fun e w' => e = .returned (.tuple #[.int .i64 0, .int .i64 1]) ∧ w' = w := by
  go_enter Try.func16, Try.ntmps16
  go_wp2_with (go_at_call 29; refine (isElement_any _ _).mono ?_; rintro e w1 ⟨rfl, rfl⟩)
  go_wp2
  go_ret2
  exact ⟨rfl, rfl⟩
end

theorem prod_2_128 : prod 2 128 = 135 := by decide +kernel
theorem power_2_8 : power 2 8 = 135 := by decide +kernel

set_option maxRecDepth 100000 in
theorem works_any (w : World) : Calls Try.prog 9 #[] w fun e w' => e = .returned (.bool true) ∧ Below w.heap.size w w' := by
  go_enter Try.func9, Try.ntmps9
  go_wp2_with fail
  refine (new_any _).mono ?_
  rintro e w1 ⟨rfl, hF, hb⟩
  go_wp2_with fail
  refine (mul_ok hF 2 128 (by decide) (by decide)).mono ?_
  rw [prod_2_128]
  rintro e w2 ⟨rfl, hF2, hg2⟩
  go_wp2_with fail
  refine (pow_ok hF2 2 8 (by decide) (by decide)).mono ?_
  rw [power_2_8]
  rintro e w3 ⟨rfl, hF3, hg3⟩
  go_wp2
  go_ret
  exact ⟨rfl, below_gb hb (gb_trans hg2 hg3) (Nat.le_refl _) hb.size⟩
end Go.Proofs.Ytcgiolehlokpnaa

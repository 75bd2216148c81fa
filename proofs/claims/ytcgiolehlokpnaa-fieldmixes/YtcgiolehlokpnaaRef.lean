/-
  The contracts of the document's own Mul, Div, Pow and Log.
-/
import Derived.Test.YtcgiolehlokpnaaTimes
import Derived.Test.YtcgiolehlokpnaaReckon
namespace Go.Proofs.Ytcgiolehlokpnaa
open Go.RowKit Go.Lib

theorem refTimes_any (a b : Nat) (ha : a < 256) (hb : b < 256) (w : World) :
    Calls Try.prog 33 #[.int .i64 a, .int .i64 b] w fun e w' => e = .returned (.int .i64 ((prod a b : Nat) : Int)) ∧ w' = w := by
  rw [← times_eq a b ha hb]
  exact times_any a b ha hb w

theorem is_any (a : Int) (w : World) : Calls Try.prog 32 #[.int .i64 a] w fun e w' => e = .returned (.bool (isEl a)) ∧ w' = w := by
  by_cases h : 0 ≤ a
  · rw [isEl, show decide (0 ≤ a) = true from decide_eq_true h, Bool.true_and]
    go_enter Try.func32, Try.ntmps32
    go_wp2
    go_ret
    exact ⟨rfl, rfl⟩
  · rw [isEl, show decide (0 ≤ a) = false from decide_eq_false h, Bool.false_and]
    go_enter Try.func32, Try.ntmps32
    go_wp2
    go_ret
    exact ⟨rfl, rfl⟩

section
variable {w : World}
theorem refMul_ok (a b : Nat) (ha : a < 256) (hb : b < 256) :
    Calls Try.prog 11 #[.int .i64 a, .int .i64 b] w fun e w' => e = .returned (.tuple #[.int .i64 ((prod a b : Nat) : Int), .int .i64 0]) ∧ w' = w := by
  have ea := isEl_nat a ha
  have eb := isEl_nat b hb
  go_enter Try.func11, Try.ntmps11
  go_wp2_with (go_at_call 32; refine (is_any _ _).mono ?_; rintro e w1 ⟨rfl, rfl⟩)
  go_wp2_with fail
  refine (refTimes_any a b ha hb _).mono ?_
  rintro e w1 ⟨rfl, rfl⟩
  go_wp2
  go_ret2
  exact ⟨rfl, rfl⟩
theorem refMul_bad (a b : Int) (h : isEl a = false ∨ isEl b = false) :
    Calls Try.prog 11 #[.int .i64 a, .int .i64 b] w fun e w' => e = .returned (.tuple #[.int .i64 0, .int .i64 1]) ∧ w' = w := by
  cases ea : isEl a
  · go_enter Try.func11, Try.ntmps11
    go_wp2_with (go_at_call 32; refine (is_any _ _).mono ?_; rintro e w1 ⟨rfl, rfl⟩)
    go_wp2
    go_ret2
    exact ⟨rfl, rfl⟩
  · have eb : isEl b = false := h.resolve_left (by simp [ea])
    clear h
    go_enter Try.func11, Try.ntmps11
    go_wp2_with (go_at_call 32; refine (is_any _ _).mono ?_; rintro e w1 ⟨rfl, rfl⟩)
    go_wp2
    go_ret2
    exact ⟨rfl, rfl⟩

set_option maxRecDepth 100000 in
theorem over_any (a b : Nat) (ha : a < 256) (hb : b < 256) (h0 : b ≠ 0) (w : World) :
    Calls Try.prog 35 #[.int .i64 a, .int .i64 b] w fun e w' => e = .returned (.int .i64 ((quot a b : Nat) : Int)) ∧ w' = w := by
  have hq := quot_prod a b ha hb h0
  have hql := quot_lt a b
  obtain ⟨q, hqe⟩ : ∃ q, q = quot a b := ⟨_, rfl⟩
  rw [← hqe] at hq hql ⊢
  clear hqe
  go_enter Try.func35, Try.ntmps35
  go_wp2
  go_loop [5] (fun i => ∃ j : Nat, j ≤ q ∧ i = .int .i64 j) (fun i => 256 - (intOf i).toNat)
  case atStart => exact ⟨0, by omega, rfl⟩
  case round =>
    obtain ⟨j, hj, rfl⟩ := hrel
    have hT := refTimes_any j b (by omega) hb
    by_cases hjq : j = q
    · subst hjq
      rw [hq] at hT
      go_wp2_with fail
      refine (hT _).mono ?_
      rintro e w1 ⟨rfl, rfl⟩
      go_wp2
      go_ret
      exact ⟨rfl, rfl⟩
    · have hne : prod j b ≠ a := fun h => hjq (prod_cancel j b q (by omega) hql hb h0 (h.trans hq.symm))
      have HT : Hid _ := hT
      clear hT hq
      generalize prod j b = p at *
      have hne' : ((p : Int) == (a : Int)) = false := by simp; omega
      go_wp2_with fail
      refine (HT.out _).mono ?_
      rintro e w1 ⟨rfl, rfl⟩
      go_wp2
      exact ⟨⟨j + 1, by omega, by go_num⟩, by simp [intOf]; omega⟩

theorem refDiv_ok (a b : Nat) (ha : a < 256) (hb : b < 256) (h0 : b ≠ 0) :
    Calls Try.prog 13 #[.int .i64 a, .int .i64 b] w fun e w' => e = .returned (.tuple #[.int .i64 ((quot a b : Nat) : Int), .int .i64 0]) ∧ w' = w := by
  have ea := isEl_nat a ha
  have eb := isEl_nat b hb
  have h0' : ((b : Int) == 0) = false := by simp; omega
  go_enter Try.func13, Try.ntmps13
  go_wp2_with (go_at_call 32; refine (is_any _ _).mono ?_; rintro e w1 ⟨rfl, rfl⟩)
  go_wp2_with fail
  refine (over_any a b ha hb h0 _).mono ?_
  rintro e w1 ⟨rfl, rfl⟩
  go_wp2
  go_ret2
  exact ⟨rfl, rfl⟩
theorem refDiv_zero (a : Nat) (ha : a < 256) :
    Calls Try.prog 13 #[.int .i64 a, .int .i64 0] w fun e w' => e = .returned (.tuple #[.int .i64 0, .int .i64 30]) ∧ w' = w := by
  have ea := isEl_nat a ha
  have eb : isEl 0 = true := rfl
  go_enter Try.func13, Try.ntmps13
  go_wp2_with (go_at_call 32; refine (is_any _ _).mono ?_; rintro e w1 ⟨rfl, rfl⟩)
  go_wp2
  go_ret2
  exact ⟨rfl, rfl⟩
theorem refDiv_bad (a b : Int) (h : isEl a = false ∨ isEl b = false) :
    Calls Try.prog 13 #[.int .i64 a, .int .i64 b] w fun e w' => e = .returned (.tuple #[.int .i64 0, .int .i64 1]) ∧ w' = w := by
  cases ea : isEl a
  · go_enter Try.func13, Try.ntmps13
    go_wp2_with (go_at_call 32; refine (is_any _ _).mono ?_; rintro e w1 ⟨rfl, rfl⟩)
    go_wp2
    go_ret2
    exact ⟨rfl, rfl⟩
  · have eb : isEl b = false := h.resolve_left (by simp [ea])
    clear h
    go_enter Try.func13, Try.ntmps13
    go_wp2_with (go_at_call 32; refine (is_any _ _).mono ?_; rintro e w1 ⟨rfl, rfl⟩)
    go_wp2
    go_ret2
    exact ⟨rfl, rfl⟩

set_option maxRecDepth 100000 in
theorem refLog_ok (a : Nat) (ha : a < 256) (h0 : a ≠ 0) :
    Calls Try.prog 17 #[.int .i64 a] w fun e w' => e = .returned (.tuple #[.int .i64 ((lg a : Nat) : Int), .int .i64 0]) ∧ w' = w := by
  have ea := isEl_nat a ha
  have h0' : ((a : Int) == 0) = false := by simp; omega
  have hl := lg_lt a ha
  have hpl := pw_lg a h0 ha
  obtain ⟨x, hx⟩ : ∃ x, x = lg a := ⟨_, rfl⟩
  rw [← hx] at hl hpl ⊢
  have HX : Hid _ := hx
  clear hx
  go_enter Try.func17, Try.ntmps17
  go_wp2_with (go_at_call 32; refine (is_any _ _).mono ?_; rintro e w1 ⟨rfl, rfl⟩)
  go_wp2
  go_loop [4, 5] (fun v i => ∃ j : Nat, j ≤ x ∧ v = .int .i64 ((pw j : Nat) : Int) ∧ i = .int .i64 j) (fun _ i => 256 - (intOf i).toNat)
  case atStart => exact ⟨0, by omega, by rw [pw_zero]; rfl, rfl⟩
  case round =>
    obtain ⟨j, hj, rfl, rfl⟩ := hrel
    by_cases hjx : j = x
    · subst hjx
      rw [hpl]
      go_wp2
      go_ret2
      exact ⟨rfl, rfl⟩
    · have hT : ∀ w : World, Calls Try.prog 33 #[.int .i64 ((pw j : Nat) : Int), .int .i64 2] w fun e w' => e = .returned (.int .i64 ((pw (j + 1) : Nat) : Int)) ∧ w' = w := fun w => by
        have := refTimes_any (pw j) 2 (pw_lt j) (by decide) w
        rw [prod_ne _ 2 (Nat.pos_iff_ne_zero.1 (pw_pos j (by omega))) (by decide), lg_pw j (by omega), show lg 2 = 1 by decide +kernel, Nat.mod_eq_of_lt (show j + 1 < 255 by omega)] at this
        exact this
      have hne : pw j ≠ a := fun h => hjx (by rw [HX.out, ← h, lg_pw j (by omega)])
      have HT : Hid _ := hT
      clear hT hpl
      generalize pw j = p at *
      have hne' : ((p : Int) == (a : Int)) = false := by simp; omega
      go_wp2_with fail
      refine (HT.out _).mono ?_
      rintro e w1 ⟨rfl, rfl⟩
      go_wp2
      exact ⟨⟨j + 1, by omega, rfl, by go_num⟩, by simp [intOf]; omega⟩
theorem refLog_zero :
    Calls Try.prog 17 #[.int .i64 0] w fun e w' => e = .returned (.tuple #[.int .i64 0, .int .i64 30]) ∧ w' = w := by
  have eb : isEl 0 = true := rfl
  go_enter Try.func17, Try.ntmps17
  go_wp2_with (go_at_call 32; refine (is_any _ _).mono ?_; rintro e w1 ⟨rfl, rfl⟩)
  go_wp2
  go_ret2
  exact ⟨rfl, rfl⟩
theorem refLog_bad (a : Int) (h : isEl a = false) :
    Calls Try.prog 17 #[.int .i64 a] w fun e w' => e = .returned (.tuple #[.int .i64 0, .int .i64 1]) ∧ w' = w := by
  go_enter Try.func17, Try.ntmps17
  go_wp2_with (go_at_call 32; refine (is_any _ _).mono ?_; rintro e w1 ⟨rfl, rfl⟩)
  go_wp2
  go_ret2
  exact ⟨rfl, rfl⟩

set_option maxRecDepth 100000 in
theorem refPow_ok (a n : Nat) (ha : a < 256) (hn : n ≤ 9223372036854775807) :
    Calls Try.prog 15 #[.int .i64 a, .int .i64 n] w fun e w' => e = .returned (.tuple #[.int .i64 ((power a n : Nat) : Int), .int .i64 0]) ∧ w' = w := by
  have ea := isEl_nat a ha
  have h0 : decide ((n : Int) < 0) = false := by simp
  have hp : prod 1 (power a n) = power a n := by rw [prod_comm, prod_one _ (power_lt a n)]
  obtain ⟨r, hr⟩ : ∃ r, r = power a n := ⟨_, rfl⟩
  rw [← hr]
  rw [← hr] at hp
  have HP : Hid (prod 1 (power a n) = r) := by show _ = _; rw [← hr]; exact hp
  clear hr hp
  go_enter Try.func15, Try.ntmps15
  go_wp2_with (go_at_call 32; refine (is_any _ _).mono ?_; rintro e w1 ⟨rfl, rfl⟩)
  go_wp2
  go_loop [0, 1, 6] (fun va vn vo => ∃ b m o : Nat, va = .int .i64 b ∧ vn = .int .i64 m ∧ vo = .int .i64 o ∧ b < 256 ∧ o < 256 ∧ m ≤ 9223372036854775807 ∧ prod o (power b m) = r) (fun _ vn _ => (intOf vn).toNat)
  case atStart => exact ⟨a, n, 1, rfl, rfl, rfl, ha, by decide, hn, HP.out⟩
  case round =>
    obtain ⟨b, m, o, rfl, rfl, rfl, hb, ho, hm, hr⟩ := hrel
    clear HP ha ea h0 hn
    by_cases h0 : m = 0
    · subst h0
      rw [power_zero, prod_one o ho] at hr
      subst hr
      go_wp2
      go_ret2
      exact ⟨rfl, rfl⟩
    · have hpos : (0 : Int) < (m : Int) := by omega
      have hh := power_half b m hb
      have hsq : ∀ w : World, Calls Try.prog 33 #[.int .i64 b, .int .i64 b] w fun e w' => e = .returned (.int .i64 ((prod b b : Nat) : Int)) ∧ w' = w := refTimes_any b b hb hb
      have hob : ∀ w : World, Calls Try.prog 33 #[.int .i64 o, .int .i64 b] w fun e w' => e = .returned (.int .i64 ((prod o b : Nat) : Int)) ∧ w' = w := refTimes_any o b ho hb
      have hrem : (m : Int).tmod 2 = ((m % 2 : Nat) : Int) := by rw [Int.tmod_eq_emod_of_nonneg (by omega)]; rfl
      have hquo : (m : Int).tdiv 2 = ((m / 2 : Nat) : Int) := by rw [Int.tdiv_eq_ediv_of_nonneg (by omega)]; rfl
      have HS : Hid _ := hsq
      have HO : Hid _ := hob
      have HR : Hid _ := hr
      have HH : Hid _ := hh
      clear hsq hob hr hh
      rcases Nat.mod_two_eq_zero_or_one m with h1 | h1
      · rw [h1] at hrem
        go_wp2_with fail
        refine (HS.out _).mono ?_
        rintro e w1 ⟨rfl, rfl⟩
        go_wp2
        refine ⟨⟨prod b b, m / 2, o, rfl, by go_num, rfl, prod_lt _ _, ho, by omega, ?_⟩, by simp [intOf]; omega⟩
        have := HH.out
        rw [if_neg (by omega)] at this
        rw [← this]
        exact HR.out
      · rw [h1] at hrem
        go_wp2_with fail
        refine (HO.out _).mono ?_
        rintro e w1 ⟨rfl, rfl⟩
        go_wp2_with fail
        refine (HS.out _).mono ?_
        rintro e w1 ⟨rfl, rfl⟩
        go_wp2
        refine ⟨⟨prod b b, m / 2, prod o b, rfl, by go_num, rfl, prod_lt _ _, prod_lt _ _, by omega, ?_⟩, by simp [intOf]; omega⟩
        have := HH.out
        rw [if_pos h1] at this
        rw [prod_assoc, ← this]
        exact HR.out
theorem refPow_bad (a n : Int) (h : isEl a = false ∨ n < 0) :
    Calls Try.prog 15 #[.int .i64 a, .int .i64 n] w fun e w' => e = .returned (.tuple #[.int .i64 0, .int .i64 1]) ∧ w' = w := by
  cases ea : isEl a
  · go_enter Try.func15, Try.ntmps15
    go_wp2_with (go_at_call 32; refine (is_any _ _).mono ?_; rintro e w1 ⟨rfl, rfl⟩)
    go_wp2
    go_ret2
    exact ⟨rfl, rfl⟩
  · have hn : n < 0 := h.resolve_left (by simp [ea])
    clear h
    go_enter Try.func15, Try.ntmps15
    go_wp2_with (go_at_call 32; refine (is_any _ _).mono ?_; rintro e w1 ⟨rfl, rfl⟩)
    go_wp2
    go_ret2
    exact ⟨rfl, rfl⟩
end
end Go.Proofs.Ytcgiolehlokpnaa

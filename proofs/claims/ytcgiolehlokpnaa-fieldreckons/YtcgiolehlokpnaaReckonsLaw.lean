/-
  The walk of the statement that products, quotients, powers and logarithms are the document's.
-/
import Derived.Test.YtcgiolehlokpnaaMethods
import Derived.Test.YtcgiolehlokpnaaRef
namespace Go.Proofs.Ytcgiolehlokpnaa
open Go.RowKit Go.Lib

/-- What a call of a field's method leaves. -/
def After (f : Nat) (w w' : World) : Prop := F w' f ∧ w.grownBy w' (some f)
theorem After.same {f : Nat} {w : World} (h : F w f) : After f w w := ⟨h, gb_refl w _⟩

theorem After.same' {f : Nat} {w w' : World} (h : F w f) (e : w' = w) : After f w w' := by subst e; exact After.same h

theorem isEl_cases (a : Int) : isEl a = false ∨ ∃ n : Nat, a = n ∧ n < 256 := by
  cases h : isEl a
  · exact .inl rfl
  · exact .inr (isEl_out a h)

theorem mul_both (a b : Int) : ∃ V C : Int,
    (∀ (f : Nat) (w : World), F w f → Calls Try.prog 10 #[.pointer (some ⟨f, 0, none⟩), .int .i64 a, .int .i64 b] w fun e w' => e = .returned (.tuple #[.int .i64 V, .int .i64 C]) ∧ After f w w') ∧
    (∀ w : World, Calls Try.prog 11 #[.int .i64 a, .int .i64 b] w fun e w' => e = .returned (.tuple #[.int .i64 V, .int .i64 C]) ∧ w' = w) := by
  rcases isEl_cases a with ha | ⟨x, rfl, hx⟩
  · exact ⟨_, _, fun f w hF => (mul_bad a b (.inl ha) _).mono fun e w' ⟨he, hw⟩ => ⟨he, After.same' hF hw⟩, fun w => refMul_bad a b (.inl ha)⟩
  rcases isEl_cases b with hb | ⟨y, rfl, hy⟩
  · exact ⟨_, _, fun f w hF => (mul_bad x b (.inr hb) _).mono fun e w' ⟨he, hw⟩ => ⟨he, After.same' hF hw⟩, fun w => refMul_bad x b (.inr hb)⟩
  exact ⟨_, _, fun f w hF => mul_ok hF x y hx hy, fun w => refMul_ok x y hx hy⟩

theorem div_both (a b : Int) : ∃ V C : Int,
    (∀ (f : Nat) (w : World), F w f → Calls Try.prog 12 #[.pointer (some ⟨f, 0, none⟩), .int .i64 a, .int .i64 b] w fun e w' => e = .returned (.tuple #[.int .i64 V, .int .i64 C]) ∧ After f w w') ∧
    (∀ w : World, Calls Try.prog 13 #[.int .i64 a, .int .i64 b] w fun e w' => e = .returned (.tuple #[.int .i64 V, .int .i64 C]) ∧ w' = w) := by
  rcases isEl_cases a with ha | ⟨x, rfl, hx⟩
  · exact ⟨_, _, fun f w hF => (div_bad a b (.inl ha) _).mono fun e w' ⟨he, hw⟩ => ⟨he, After.same' hF hw⟩, fun w => refDiv_bad a b (.inl ha)⟩
  rcases isEl_cases b with hb | ⟨y, rfl, hy⟩
  · exact ⟨_, _, fun f w hF => (div_bad x b (.inr hb) _).mono fun e w' ⟨he, hw⟩ => ⟨he, After.same' hF hw⟩, fun w => refDiv_bad x b (.inr hb)⟩
  by_cases h0 : y = 0
  · subst h0
    exact ⟨_, _, fun f w hF => (div_zero x hx _).mono fun e w' ⟨he, hw⟩ => ⟨he, After.same' hF hw⟩, fun w => refDiv_zero x hx⟩
  exact ⟨_, _, fun f w hF => div_ok hF x y hx hy h0, fun w => refDiv_ok x y hx hy h0⟩

theorem pow_both (a n : Int) (hn : n ≤ 9223372036854775807) : ∃ V C : Int,
    (∀ (f : Nat) (w : World), F w f → Calls Try.prog 14 #[.pointer (some ⟨f, 0, none⟩), .int .i64 a, .int .i64 n] w fun e w' => e = .returned (.tuple #[.int .i64 V, .int .i64 C]) ∧ After f w w') ∧
    (∀ w : World, Calls Try.prog 15 #[.int .i64 a, .int .i64 n] w fun e w' => e = .returned (.tuple #[.int .i64 V, .int .i64 C]) ∧ w' = w) := by
  rcases isEl_cases a with ha | ⟨x, rfl, hx⟩
  · exact ⟨_, _, fun f w hF => (pow_bad a n (.inl ha) _).mono fun e w' ⟨he, hw⟩ => ⟨he, After.same' hF hw⟩, fun w => refPow_bad a n (.inl ha)⟩
  by_cases h0 : n < 0
  · exact ⟨_, _, fun f w hF => (pow_bad x n (.inr h0) _).mono fun e w' ⟨he, hw⟩ => ⟨he, After.same' hF hw⟩, fun w => refPow_bad x n (.inr h0)⟩
  obtain ⟨m, rfl⟩ := Int.eq_ofNat_of_zero_le (show 0 ≤ n by omega)
  exact ⟨_, _, fun f w hF => pow_ok hF x m hx (by omega), fun w => refPow_ok x m hx (by omega)⟩

theorem log_both (a : Int) : ∃ V C : Int,
    (∀ (f : Nat) (w : World), F w f → Calls Try.prog 16 #[.pointer (some ⟨f, 0, none⟩), .int .i64 a] w fun e w' => e = .returned (.tuple #[.int .i64 V, .int .i64 C]) ∧ After f w w') ∧
    (∀ w : World, Calls Try.prog 17 #[.int .i64 a] w fun e w' => e = .returned (.tuple #[.int .i64 V, .int .i64 C]) ∧ w' = w) := by
  rcases isEl_cases a with ha | ⟨x, rfl, hx⟩
  · exact ⟨_, _, fun f w hF => (log_bad a ha _).mono fun e w' ⟨he, hw⟩ => ⟨he, After.same' hF hw⟩, fun w => refLog_bad a ha⟩
  by_cases h0 : x = 0
  · subst h0
    exact ⟨_, _, fun f w hF => (log_zero _).mono fun e w' ⟨he, hw⟩ => ⟨he, After.same' hF hw⟩, fun w => refLog_zero⟩
  exact ⟨_, _, fun f w hF => log_ok hF x hx h0, fun w => refLog_ok x hx h0⟩

set_option maxHeartbeats 800000 in
set_option maxRecDepth 100000 in
theorem reckons_walk (a b n : Int) (w : World) (hn : n ≤ 9223372036854775807) :
    Calls Try.prog 3 #[.int .i64 a, .int .i64 b, .int .i64 n] w fun e w' => e = .returned (.bool true) ∧ Below w.heap.size w w' := by
  obtain ⟨V1, D1, h1, k1⟩ := mul_both a b
  obtain ⟨V2, D2, h2, k2⟩ := div_both a b
  obtain ⟨V3, D3, h3, k3⟩ := pow_both a n hn
  obtain ⟨V4, D4, h4, k4⟩ := log_both a
  have H1 : Hid _ := h1
  have K1 : Hid _ := k1
  have H2 : Hid _ := h2
  have K2 : Hid _ := k2
  have H3 : Hid _ := h3
  have K3 : Hid _ := k3
  have H4 : Hid _ := h4
  have K4 : Hid _ := k4
  clear h1 k1 h2 k2 h3 k3 h4 k4 hn
  go_enter Try.func3, Try.ntmps3
  go_wp2_with fail
  refine (new_any _).mono ?_
  rintro e w1 ⟨rfl, hF, hb⟩
  go_wp2_with fail
  refine (works_any _).mono ?_
  rintro e w2 ⟨rfl, hb2⟩
  have hF2 := hF.below hb2 (Nat.le_refl _)
  go_wp2_with fail
  refine (H1.out _ _ hF2).mono ?_
  rintro e w3 ⟨rfl, hF3, hg3⟩
  go_wp2_with fail
  refine (K1.out _).mono ?_
  rintro e w9 ⟨rfl, rfl⟩
  go_wp2_with fail
  refine (H2.out _ _ hF3).mono ?_
  rintro e w4 ⟨rfl, hF4, hg4⟩
  go_wp2_with fail
  refine (K2.out _).mono ?_
  rintro e w9 ⟨rfl, rfl⟩
  go_wp2_with fail
  refine (H3.out _ _ hF4).mono ?_
  rintro e w5 ⟨rfl, hF5, hg5⟩
  go_wp2_with fail
  refine (K3.out _).mono ?_
  rintro e w9 ⟨rfl, rfl⟩
  go_wp2_with fail
  refine (H4.out _ _ hF5).mono ?_
  rintro e w6 ⟨rfl, hF6, hg6⟩
  go_wp2_with fail
  refine (K4.out _).mono ?_
  rintro e w9 ⟨rfl, rfl⟩
  go_wp2
  go_ret
  refine ⟨rfl, ?_⟩
  exact below_gb (hb.trans (hb2.mono hb.size)) (gb_trans (gb_trans (gb_trans hg3 hg4) hg5) hg6) (Nat.le_refl _) (Nat.le_trans hb.size hb2.size)
end Go.Proofs.Ytcgiolehlokpnaa

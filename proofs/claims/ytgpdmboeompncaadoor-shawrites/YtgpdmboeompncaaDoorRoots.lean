/-
  The contracts of what the statement of the third roots calls.
-/
import Derived.Test.YtgpdmboeompncaaDoorHex
namespace Go.Proofs.YtgpdmboeompncaaDoor
open Go.RowKit Go.Lib

def mHi (x y : Int) : Int :=
  IntKind.u64.wrap
    (IntKind.u64.wrap
        (IntKind.u64.wrap (x / 4294967296 * (y / 4294967296)) +
          IntKind.u64.wrap
              (IntKind.u64.wrap (x / 4294967296 * bits .and .u64 y 4294967295) +
                IntKind.u64.wrap (bits .and .u64 x 4294967295 * bits .and .u64 y 4294967295) / 4294967296) / 4294967296) +
      IntKind.u64.wrap
          (bits .and .u64
              (IntKind.u64.wrap
                (IntKind.u64.wrap (x / 4294967296 * bits .and .u64 y 4294967295) +
                  IntKind.u64.wrap (bits .and .u64 x 4294967295 * bits .and .u64 y 4294967295) / 4294967296)) 4294967295 +
            IntKind.u64.wrap (bits .and .u64 x 4294967295 * (y / 4294967296))) / 4294967296)
def mLo (x y : Int) : Int := IntKind.u64.wrap (x * y)

set_option maxRecDepth 100000 in
theorem mul64_any (x y : Int) (w : World) :
    Calls Tryd.prog 39 #[.int .u64 x, .int .u64 y] w fun e w' => e = .returned (.tuple #[.int .u64 (mHi x y), .int .u64 (mLo x y)]) ∧ w' = w := by
  go_enter Tryd.func39, Tryd.ntmps39
  go_wp2
  go_ret2
  exact ⟨rfl, rfl⟩

/-- Is the third power of n above p times 2^96, as the statement reckons it? -/
def topOf (n : Int) : Int := IntKind.u64.wrap (mHi (mLo n n) n + mLo (mHi n n) n)
def aboveB (n p : Int) : Bool :=
  if topOf n ≤ IntKind.u64.wrap (p * 4294967296) then (if topOf n = IntKind.u64.wrap (p * 4294967296) then decide (0 < mLo (mLo n n) n) else false) else true

set_option maxRecDepth 100000 in
theorem above_any (n p : Int) (w : World) :
    Calls Tryd.prog 30 #[.int .u64 n, .int .u64 p] w fun e w' => e = .returned (.bool (aboveB n p)) ∧ w' = w := by
  by_cases h1 : IntKind.u64.wrap (mHi (mLo n n) n + mLo (mHi n n) n) ≤ IntKind.u64.wrap (p * 4294967296)
  · by_cases h2 : IntKind.u64.wrap (mHi (mLo n n) n + mLo (mHi n n) n) = IntKind.u64.wrap (p * 4294967296)
    · have e : aboveB n p = decide (0 < mLo (mLo n n) n) := by rw [aboveB, topOf, if_pos h1, if_pos h2]
      rw [e]
      go_enter Tryd.func30, Tryd.ntmps30
      go_wp2_with (go_at_call 39; refine (mul64_any _ _ _).mono ?_; rintro e w1 ⟨rfl, rfl⟩)
      go_ret
      exact ⟨rfl, rfl⟩
    · have e : aboveB n p = false := by rw [aboveB, topOf, if_pos h1, if_neg h2]
      rw [e]
      have h3 : decide (IntKind.u64.wrap (p * 4294967296) < IntKind.u64.wrap (mHi (mLo n n) n + mLo (mHi n n) n)) = false := by simp; omega
      go_enter Tryd.func30, Tryd.ntmps30
      go_wp2_with (go_at_call 39; refine (mul64_any _ _ _).mono ?_; rintro e w1 ⟨rfl, rfl⟩)
      go_ret
      exact ⟨by simp, rfl⟩
  · have e : aboveB n p = true := by rw [aboveB, topOf, if_neg h1]
    rw [e]
    go_enter Tryd.func30, Tryd.ntmps30
    go_wp2_with (go_at_call 39; refine (mul64_any _ _ _).mono ?_; rintro e w1 ⟨rfl, rfl⟩)
    go_ret
    exact ⟨rfl, rfl⟩

theorem const_any {w : World} (hL : Laid w) (i : Nat) (hi : i < 64) :
    Calls Tryd.prog 10 #[.int .i64 i] w fun e w' => e = .returned (.tuple #[.int .i64 (K i), .int .i64 0]) ∧ w' = w := by
  have ck := hL.const i hi
  have b0 : (0 : Int) ≤ (i : Int) := by omega
  have b1 : (i : Int) < 64 := by omega
  have hk : 0 ≤ K i ∧ K i < 4294967296 := (show ∀ i, i < 64 → 0 ≤ K i ∧ K i < 4294967296 by decide) i hi
  obtain ⟨hk0, hk1⟩ := hk
  generalize K i = k at *
  go_enter Tryd.func10, Tryd.ntmps10
  go_wp2
  go_ret2
  exact ⟨rfl, rfl⟩
theorem const_bad {w : World} (i : Int) (hi : i < 0 ∨ 64 ≤ i) :
    Calls Tryd.prog 10 #[.int .i64 i] w fun e w' => e = .returned (.tuple #[.int .i64 0, .int .i64 1]) ∧ w' = w := by
  rcases hi with h | h
  · go_enter Tryd.func10, Tryd.ntmps10
    go_wp2
    go_ret2
    exact ⟨rfl, rfl⟩
  · have h0 : ¬ i < 0 := by omega
    go_enter Tryd.func10, Tryd.ntmps10
    go_wp2
    go_ret2
    exact ⟨rfl, rfl⟩

theorem tmod_any (k n : Int) (hk : -9223372036854775808 ≤ k ∧ k ≤ 9223372036854775807) (hn : 1 ≤ n ∧ n ≤ 1000000) : (wrap64 (k.tmod n + n)).tmod n = k % n := by
  obtain ⟨h1, h2⟩ := hk
  obtain ⟨h3, h4⟩ := hn
  by_cases h : 0 ≤ k
  · have e1 := Int.emod_nonneg k (show n ≠ 0 by omega)
    have e2 := Int.emod_lt_of_pos k (show 0 < n by omega)
    rw [Int.tmod_eq_emod_of_nonneg h, IntWalk.wrap64_in _ ⟨by omega, by omega⟩, Int.tmod_eq_emod_of_nonneg (by omega)]
    rw [Int.add_emod_right, Int.emod_emod_of_dvd _ (Int.dvd_refl n)]
  · obtain ⟨m, rfl⟩ : ∃ m, k = -m := ⟨-k, by omega⟩
    have e1 := Int.emod_nonneg m (show n ≠ 0 by omega)
    have e2 := Int.emod_lt_of_pos m (show 0 < n by omega)
    rw [Int.neg_tmod, Int.tmod_eq_emod_of_nonneg (show 0 ≤ m by omega), IntWalk.wrap64_in _ ⟨by omega, by omega⟩, Int.tmod_eq_emod_of_nonneg (by omega), Int.add_emod_right]
    have e3 : -m = -(m % n) + n * (-(m / n)) := by
      have := Int.emod_add_mul_ediv m n
      rw [Int.mul_neg]
      omega
    rw [e3, Int.add_mul_emod_self_left]
theorem among_any (x n : Int) (w : World) (hx : -9223372036854775808 ≤ x ∧ x ≤ 9223372036854775807) (hn : 1 ≤ n ∧ n ≤ 1000000) :
    Calls Tryd.prog 28 #[.int .i64 x, .int .i64 n] w fun e w' => e = .returned (.int .i64 (x % n)) ∧ w' = w := by
  have HM : Hid _ := tmod_any x n hx hn
  have h1 := hn.1
  have h2 := hn.2
  clear hx hn
  go_enter Tryd.func28, Tryd.ntmps28
  go_wp2
  go_ret
  exact ⟨congrArg (fun z => Ending.returned (Value.int IntKind.i64 z)) HM.out, rfl⟩

def primes : List Nat := [2, 3, 5, 7, 11, 13, 17, 19, 23, 29, 31, 37, 41, 43, 47, 53, 59, 61, 67, 71, 73, 79, 83, 89, 97, 101, 103, 107, 109, 113, 127, 131, 137, 139, 149, 151, 157, 163, 167, 173, 179, 181, 191, 193, 197, 199, 211, 223, 227, 229, 233, 239, 241, 251, 257, 263, 269, 271, 277, 281, 283, 293, 307, 311, 313, 317, 331, 337, 347, 349, 353, 359, 367, 373, 379, 383, 389, 397]
def cnt (p : Nat) : Nat := (primes.filter (· < p)).length
def isUpto (p k : Nat) : Bool := (List.range (k - 2)).all fun e => p % (e + 2) != 0
theorem isUpto_succ (p k : Nat) (h : 2 ≤ k) : isUpto p (k + 1) = (isUpto p k && (p % k != 0)) := by
  rw [isUpto, show k + 1 - 2 = (k - 2) + 1 by omega, List.range_succ, List.all_append]
  simp [isUpto, show k - 2 + 2 = k by omega]
def chk1 : Bool := (List.range 22).all fun k => (List.range 400).all fun p => !(decide (2 ≤ p) && decide (2 ≤ k) && decide (p < k * k) && (k == 2 || decide ((k - 1) * (k - 1) ≤ p))) || (isUpto p k == primes.contains p)
theorem chk1_ok : chk1 = true := by kernel_rfl
theorem isUpto_all (k p : Nat) (hk : k < 22) (hp : p < 400) (h1 : 2 ≤ p) (h2 : 2 ≤ k) (h3 : p < k * k) (h4 : k = 2 ∨ (k - 1) * (k - 1) ≤ p) : isUpto p k = primes.contains p := by
  have h := List.all_eq_true.1 (List.all_eq_true.1 chk1_ok k (List.mem_range.2 hk)) p (List.mem_range.2 hp)
  simp only [h1, h2, h3, decide_true, Bool.true_and, Bool.or_eq_true, Bool.not_eq_true', beq_iff_eq] at h
  rcases h with h | h
  · rcases h4 with h4 | h4 <;> simp [h4] at h
  · exact h
set_option maxRecDepth 100000 in
theorem cnt_succ : ∀ p, p < 400 → cnt (p + 1) = if primes.contains p then cnt p + 1 else cnt p := by decide +kernel
def chk2 : Bool := (List.range 400).all fun p => !(primes.contains p && decide (cnt p < 64)) || (List.range 8).all fun k => !(decide (k * k * k ≤ p) && decide (p < (k + 1) * (k + 1) * (k + 1))) ||
  (!(aboveB ((k : Int) * 4294967296 + K (cnt p)) p) && aboveB ((k : Int) * 4294967296 + K (cnt p) + 1) p)
theorem chk2_ok : chk2 = true := by kernel_rfl
theorem roots_all (p k : Nat) (hp : p < 400) (h1 : primes.contains p = true) (h2 : cnt p < 64) (hk : k < 8) (h3 : k * k * k ≤ p) (h4 : p < (k + 1) * (k + 1) * (k + 1)) :
    aboveB ((k : Int) * 4294967296 + K (cnt p)) p = false ∧ aboveB ((k : Int) * 4294967296 + K (cnt p) + 1) p = true := by
  have h := List.all_eq_true.1 chk2_ok p (List.mem_range.2 hp)
  simp only [h1, h2, decide_true, Bool.and_self, Bool.not_true, Bool.false_or] at h
  have h := List.all_eq_true.1 h k (List.mem_range.2 hk)
  simp only [h3, h4, decide_true, Bool.and_self, Bool.not_true, Bool.false_or, Bool.and_eq_true, Bool.not_eq_true'] at h
  exact h

end Go.Proofs.YtgpdmboeompncaaDoor

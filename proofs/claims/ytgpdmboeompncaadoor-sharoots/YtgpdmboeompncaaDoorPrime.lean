/-
  The contract of the function that tells the i-th prime.
-/
import Derived.Test.YtgpdmboeompncaaDoorRoots
namespace Go.Proofs.YtgpdmboeompncaaDoor
open Go.RowKit Go.Lib

theorem sq_le {k n : Nat} (h : k ≤ n) : (k : Int) * k ≤ n * n := by
  have := Nat.mul_le_mul h h
  exact_mod_cast this

theorem neq_cast (p k : Nat) : (((p : Int) % (k : Int)) != 0) = (p % k != 0) := by
  rw [← Int.natCast_emod]
  cases h : p % k <;> rfl

set_option maxHeartbeats 800000 in
set_option maxRecDepth 100000 in
theorem prime_any (i : Nat) (hi : i < 64) (w : World) :
    Calls Tryd.prog 29 #[.int .i64 i] w fun e w' => (∃ p : Nat, p < 400 ∧ primes.contains p = true ∧ cnt p = i ∧ e = .returned (.int .i64 p)) ∧ w' = w := by
  go_enter Tryd.func29, Tryd.ntmps29
  go_wp2
  go_loop [3, 4, 5, 6] (fun m p _ _ => ∃ P : Nat, 2 ≤ P ∧ P ≤ 400 ∧ p = .int .i64 P ∧ m = .int .i64 (cnt P : Nat) ∧ cnt P ≤ i) (fun _ p _ _ => 400 - (intOf p).toNat)
  case atStart => exact ⟨2, by omega, by omega, rfl, rfl, Nat.zero_le _⟩
  case round =>
    obtain ⟨P, hP2, hP, rfl, rfl, hci⟩ := hrel
    by_cases hlt : P < 400
    · go_wp2
      go_loop [5, 6] (fun s d => ∃ k : Nat, 2 ≤ k ∧ k ≤ 21 ∧ d = .int .i64 k ∧ s = .bool (isUpto P k) ∧ (k = 2 ∨ (k - 1) * (k - 1) ≤ P)) (fun _ d => 22 - (intOf d).toNat)
      case atStart => exact ⟨2, by omega, by omega, rfl, rfl, .inl rfl⟩
      case round =>
        obtain ⟨k, hk2, hk, rfl, rfl, hor⟩ := hrel
        have HO : Hid _ := hor
        clear hor
        have q0 : (0 : Int) ≤ (k : Int) * k := Int.mul_nonneg (by omega) (by omega)
        have q1 : (k : Int) * k ≤ 441 := sq_le hk
        by_cases hkk : k * k ≤ P
        · have hkk' : (k : Int) * k ≤ (P : Int) := by exact_mod_cast hkk
          have hk20 : k < 20 := by
            rcases Nat.lt_or_ge k 20 with h | h
            · exact h
            · have := Nat.mul_le_mul h h
              omega
          have hmod : Int.tmod (P : Int) (k : Int) = ((P % k : Nat) : Int) := by rw [Int.tmod_eq_emod_of_nonneg (by omega)]; simp
          have HU : Hid _ := isUpto_succ P k hk2
          by_cases hb : isUpto P k = true
          · rw [hb]
            go_wp2
            exact ⟨⟨k + 1, by omega, by omega, by go_num, by rw [HU.out, hb, neq_cast]; rfl, .inr (by simpa using hkk)⟩, by simp [intOf]; omega⟩
          · rw [Bool.not_eq_true] at hb
            rw [hb]
            go_wp2
            exact ⟨⟨k + 1, by omega, by omega, by go_num, by rw [HU.out, hb]; rfl, .inr (by simpa using hkk)⟩, by simp [intOf]; omega⟩
        · have hkk' : ¬ (k : Int) * k ≤ (P : Int) := fun h => hkk (by exact_mod_cast h)
          have hU := isUpto_all k P (by omega) hlt hP2 hk2 (by omega) HO.out
          have HS : Hid _ := cnt_succ P hlt
          rw [hU]
          clear hU
          cases hc : primes.contains P
          · rw [hc] at HS
            go_wp2
            exact ⟨⟨P + 1, by omega, by omega, by go_num, by rw [HS.out]; rfl, by rw [HS.out]; exact hci⟩, by simp [intOf]; omega⟩
          · rw [hc] at HS
            by_cases hci2 : cnt P = i
            · have HC : Hid _ := hci2
              have hI : ((cnt P : Nat) : Int) = (i : Int) := by omega
              clear hci2
              go_wp2
              go_ret
              exact ⟨⟨P, hlt, by simpa using hc, HC.out, rfl⟩, rfl⟩
            · have hI : (((cnt P : Nat) : Int) == (i : Int)) = false := by simp; omega
              have hle : cnt P ≤ 64 := by omega
              go_wp2
              exact ⟨⟨P + 1, by omega, by omega, by go_num, by rw [HS.out]; rfl, by rw [HS.out]; show cnt P + 1 ≤ i; omega⟩, by simp [intOf]; omega⟩
    · obtain rfl : P = 400 := by omega
      have : cnt 400 = 78 := by kernel_rfl
      omega
end Go.Proofs.YtgpdmboeompncaaDoor

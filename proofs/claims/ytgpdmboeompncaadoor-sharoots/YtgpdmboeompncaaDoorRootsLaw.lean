/-
  The walk of the statement on the third roots.
-/
import Derived.Test.YtgpdmboeompncaaDoorPrime
import Derived.Test.YtgpdmboeompncaaDoorWorks
namespace Go.Proofs.YtgpdmboeompncaaDoor
open Go.RowKit Go.Lib

def cube (n : Nat) : Nat := n * n * n

set_option maxHeartbeats 800000 in
set_option maxRecDepth 100000 in
theorem roots_walk (i : Int) {w : World} (hL : Laid w) (hi : -9223372036854775808 ≤ i ∧ i ≤ 9223372036854775807) :
    Calls Tryd.prog 7 #[.int .i64 i] w fun e w' => e = .returned (.bool true) ∧ Below w.heap.size w w' := by
  obtain ⟨j, hj, hj64⟩ : ∃ j : Nat, i % 64 = (j : Int) ∧ j < 64 := ⟨(i % 64).toNat, by omega, by omega⟩
  have hsz := hL.size
  go_enter Tryd.func7, Tryd.ntmps7
  go_wp2_with fail
  refine (works_any hL).mono ?_
  rintro e w1 ⟨rfl, hb1⟩
  have hL1 := hL.below hb1 hsz
  go_wp2_with fail
  refine (among_any i 64 w1 hi (by decide)).mono ?_
  rw [hj]
  rintro e w2 ⟨rfl, rfl⟩
  clear hj hi
  go_wp2_with fail
  refine (const_any hL1 j hj64).mono ?_
  rintro e w2 ⟨rfl, rfl⟩
  go_wp2_with fail
  refine (prime_any j hj64 _).mono ?_
  rintro e w3 ⟨⟨p, hp, hpc, hcnt, rfl⟩, rfl⟩
  have HR : Hid _ := fun k hk h3 h4 => roots_all p k hp hpc (by rw [hcnt]; exact hj64) hk h3 h4
  rw [hcnt] at HR
  have hK : 0 ≤ K j ∧ K j < 4294967296 := (show ∀ i, i < 64 → 0 ≤ K i ∧ K i < 4294967296 by decide) j hj64
  obtain ⟨hK0, hK1⟩ := hK
  clear hpc hcnt
  generalize K j = c at *
  go_wp2
  go_loop [6] (fun x => ∃ k : Nat, k ≤ 7 ∧ x = .int .i64 k ∧ cube k ≤ p) (fun x => 8 - (intOf x).toNat)
  case atStart => exact ⟨0, by omega, rfl, Nat.zero_le _⟩
  case round =>
    obtain ⟨k, hk, rfl, hkp⟩ := hrel
    have e1 : ((k : Int) + 1) * ((k : Int) + 1) = (((k + 1) * (k + 1) : Nat) : Int) := by simp
    have e2 : (((k + 1) * (k + 1) : Nat) : Int) * ((k : Int) + 1) = (((k + 1) * (k + 1) * (k + 1) : Nat) : Int) := by simp
    have l1 : (k + 1) * (k + 1) ≤ 64 := Nat.mul_le_mul (show k + 1 ≤ 8 by omega) (show k + 1 ≤ 8 by omega)
    have l2 : (k + 1) * (k + 1) * (k + 1) ≤ 512 := Nat.mul_le_mul l1 (show k + 1 ≤ 8 by omega)
    by_cases hle : (k + 1) * (k + 1) * (k + 1) ≤ p
    · have hk7 : k < 7 := by
        rcases Nat.lt_or_ge k 7 with h | h
        · exact h
        · have := Nat.mul_le_mul (Nat.mul_le_mul (show 8 ≤ k + 1 by omega) (show 8 ≤ k + 1 by omega)) (show 8 ≤ k + 1 by omega)
          omega
      have HL : cube (k + 1) ≤ p := hle
      have hle' : ((((k + 1) * (k + 1) * (k + 1) : Nat)) : Int) ≤ (p : Int) := by exact_mod_cast hle
      generalize (k + 1) * (k + 1) * (k + 1) = q3 at *
      generalize (k + 1) * (k + 1) = q2 at *
      go_wp2
      exact ⟨⟨k + 1, by omega, by go_num, HL⟩, by simp [intOf]; omega⟩
    · have hle' : ¬ ((((k + 1) * (k + 1) * (k + 1) : Nat)) : Int) ≤ (p : Int) := fun h => hle (by exact_mod_cast h)
      obtain ⟨r1, r2⟩ := HR.out k (by omega) hkp (by omega)
      generalize (k + 1) * (k + 1) * (k + 1) = q3 at *
      generalize (k + 1) * (k + 1) = q2 at *
      clear HR
      go_wp2_with fail
      refine (above_any _ _ _).mono ?_
      rw [r1]
      rintro e w5 ⟨rfl, rfl⟩
      go_wp2_with fail
      refine (above_any _ _ _).mono ?_
      rw [r2]
      rintro e w5 ⟨rfl, rfl⟩
      go_wp2
      go_ret
      exact ⟨rfl, hb1⟩
end Go.Proofs.YtgpdmboeompncaaDoor

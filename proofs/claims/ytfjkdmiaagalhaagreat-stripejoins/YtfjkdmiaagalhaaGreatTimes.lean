/-
  The contract of the document's own product.
-/
import Derived.Test.YtfjkdmiaagalhaaGreatKit
namespace Go.Proofs.YtfjkdmiaagalhaaGreat
open Go.RowKit Go.Lib

theorem part_lt (a b : Nat) (ha : a < 256) : ∀ i, part a b i < 2 ^ (8 + i)
  | 0 => by simp [part]
  | i + 1 => by
    have ih := part_lt a b ha i
    have h1 : part a b i < 2 ^ (8 + (i + 1)) := Nat.lt_of_lt_of_le ih (Nat.pow_le_pow_right (by decide) (by omega))
    rw [part]
    split
    · refine Nat.xor_lt_two_pow h1 ?_
      rw [Nat.shiftLeft_eq, show 8 + (i + 1) = 8 + 1 + i by omega, Nat.pow_add]
      exact Nat.mul_lt_mul_of_pos_right (by omega) (Nat.two_pow_pos i)
    · exact h1
theorem part_small (a b : Nat) (ha : a < 256) (i : Nat) (hi : i ≤ 8) : part a b i < 65536 :=
  Nat.lt_of_lt_of_le (part_lt a b ha i) (show 2 ^ (8 + i) ≤ 2 ^ 16 from Nat.pow_le_pow_right (by decide) (by omega))

theorem bit_and (b j : Nat) (hb : b < 2 ^ 62) : bits .and .i64 ((b : Int) / 2 ^ j) 1 = if b.testBit j then 1 else 0 := by
  have e : (b : Int) / 2 ^ j = ((b >>> j : Nat) : Int) := by rw [Nat.shiftRight_eq_div_pow, Int.natCast_ediv, Int.natCast_pow]; rfl
  have hlt : b >>> j < 2 ^ 62 := by rw [Nat.shiftRight_eq_div_pow]; exact Nat.lt_of_le_of_lt (Nat.div_le_self _ _) hb
  rw [e, show (1 : Int) = ((1 : Nat) : Int) from rfl, (bits_nat .i64 62 (by decide) wraps_i64 _ 1 hlt (by decide)).1, Nat.testBit]
  rw [Nat.and_comm 1, Nat.and_one_is_mod]
  rcases Nat.mod_two_eq_zero_or_one (b >>> j) with h | h <;> simp [h]

theorem xor_shl (x a j : Nat) (hx : x < 2 ^ 62) (ha : a < 512) (hj : j ≤ 8) : bits .xor .i64 (x : Int) (wrap64 ((a : Int) * 2 ^ j)) = ((x ^^^ (a <<< j) : Nat) : Int) := by
  have h2 : 2 ^ j ≤ 2 ^ 8 := Nat.pow_le_pow_right (by decide) hj
  have h1 : a * 2 ^ j < 512 * 2 ^ 8 := Nat.lt_of_le_of_lt (Nat.mul_le_mul_left a h2) (Nat.mul_lt_mul_of_pos_right ha (by decide))
  have e : (a : Int) * 2 ^ j = ((a <<< j : Nat) : Int) := by rw [Nat.shiftLeft_eq, Int.natCast_mul, Int.natCast_pow]; rfl
  rw [e, IntWalk.wrap64_in _ ⟨by omega, by rw [Nat.shiftLeft_eq]; omega⟩]
  exact xor_i64 _ _ hx (by rw [Nat.shiftLeft_eq]; omega)

set_option maxRecDepth 100000 in
set_option maxHeartbeats 400000 in
theorem times_any (a b : Nat) (ha : a < 256) (hb : b < 256) (w : World) :
    Calls Tryz.prog 58 #[.int .i64 a, .int .i64 b] w fun e w' => e = .returned (.int .i64 ((times a b : Nat) : Int)) ∧ w' = w := by
  obtain ⟨r, hr0⟩ : ∃ r, r = times a b := ⟨_, rfl⟩
  rw [← hr0]
  go_enter Tryz.func58, Tryz.ntmps58
  go_wp2
  go_loop [5, 6] (fun n i => ∃ j : Nat, j ≤ 8 ∧ n = .int .i64 ((part a b j : Nat) : Int) ∧ i = .int .i64 j) (fun _ i => 8 - (intOf i).toNat)
  case atStart => exact ⟨0, by omega, rfl, rfl⟩
  case round =>
    obtain ⟨j, hj, rfl, rfl⟩ := hrel
    by_cases hlt : j < 8
    · have hp := part_small a b ha j hj
      have hbit := bit_and b j (by omega)
      have hshl := xor_shl (part a b j) a j (by omega) (by omega) (by omega)
      cases hbt : b.testBit j
      · rw [hbt] at hbit
        have e : part a b (j + 1) = part a b j := by rw [part, hbt]; rfl
        go_wp2
        exact ⟨⟨j + 1, by omega, by rw [e], by go_num⟩, by simp [intOf]; omega⟩
      · rw [hbt] at hbit
        have e : part a b (j + 1) = part a b j ^^^ (a <<< j) := by rw [part, hbt]; rfl
        go_wp2
        exact ⟨⟨j + 1, by omega, by rw [e, ← hshl], by go_num⟩, by simp [intOf]; omega⟩
    · obtain rfl : j = 8 := by omega
      rw [show ((8 : Nat) : Int) = 8 from rfl]
      have hp := part_small a b ha 8 (by omega)
      have hred : red 8 (part a b 8) = r := hr0.symm
      clear hr0
      generalize part a b 8 = x0 at *
      go_wp2
      go_loop [5, 7] (fun n i => ∃ x t : Nat, 7 ≤ t ∧ t ≤ 15 ∧ x < 65536 ∧ red (t - 7) x = r ∧ n = .int .i64 (x : Int) ∧ i = .int .i64 (t : Int)) (fun _ i => (intOf i).toNat)
      case atStart => exact ⟨x0, 15, by omega, by omega, hp, hred, rfl, rfl⟩
      case round =>
        clear hp hred
        obtain ⟨x, t, ht7, ht15, hx, hr, rfl, rfl⟩ := hrel
        by_cases h8 : 8 ≤ t
        · obtain ⟨s, rfl⟩ : ∃ s, t = s + 8 := ⟨t - 8, by omega⟩
          have hbit := bit_and x (s + 8) (by omega)
          have hshl := xor_shl x 391 s (by omega) (by omega) (by omega)
          have hs8 : ((s + 8 : Nat) : Int) - 8 = (s : Int) := by omega
          have hlt2 : x ^^^ (391 <<< s) < 65536 := by
            refine Nat.xor_lt_two_pow (n := 16) hx ?_
            rw [Nat.shiftLeft_eq]
            have : 2 ^ s ≤ 2 ^ 7 := Nat.pow_le_pow_right (by decide) (by omega)
            omega
          rw [show s + 8 - 7 = s + 1 by omega, red] at hr
          cases hbt : x.testBit (s + 8)
          · rw [hbt] at hbit hr
            generalize hT : s + 8 = T at *
            go_wp2
            exact ⟨⟨x, T - 1, by omega, by omega, hx, by rw [show T - 1 - 7 = s by omega]; exact hr, rfl, by rw [← hT]; go_num⟩, by simp [intOf]; omega⟩
          · rw [hbt] at hbit hr
            generalize hT : s + 8 = T at *
            go_wp2
            exact ⟨⟨x ^^^ (391 <<< s), T - 1, by omega, by omega, hlt2, by rw [show T - 1 - 7 = s by omega]; exact hr, by rw [← hshl]; rfl, by rw [← hT]; go_num⟩, by simp [intOf]; omega⟩
        · obtain rfl : t = 7 := by omega
          rw [show ((7 : Nat) : Int) = 7 from rfl]
          have hr' : x = r := hr
          go_wp2
          go_ret
          exact ⟨by rw [← hr']; rfl, rfl⟩
end Go.Proofs.YtfjkdmiaagalhaaGreat

/-
  The check of bytes: the program's loop.
-/
import Derived.Test.YtklaeocnimkboaaGreatDoorBCrc
import Derived.Test.YtklaeocnimkboaaGreatDoorBNum
namespace Go.Proofs.YtklaeocnimkboaaGreatDoor
open Go.RowKit Go.Lib

theorem wraps_u32' (n : Int) (h₀ : 0 ≤ n) (h₁ : n < 2 ^ 32) : IntKind.u32.wrap n = n := by rw [IntKind.wrap_u32]; omega
theorem xor_u32' (a b : Nat) (ha : a < 2 ^ 32) (hb : b < 2 ^ 32) : bits .xor .u32 (a : Int) (b : Int) = ((a ^^^ b : Nat) : Int) := xor_nat .u32 32 (by decide) wraps_u32' a b ha hb
theorem and_u32' (a b : Nat) (ha : a < 2 ^ 32) (hb : b < 2 ^ 32) : bits .and .u32 (a : Int) (b : Int) = ((a &&& b : Nat) : Int) := (bits_nat .u32 32 (by decide) wraps_u32' a b ha hb).1
theorem tN_snoc (n r : Nat) : tN (n + 1) r = tS (tN n r) := by rw [tN_add n 1]; rfl
/-- One bit's step, as the program reckons it. -/
theorem crc_step {y : Nat} (hy : y < 4294967296) : bits .xor .u32 ((y : Int) / 2) (bits .and .u32 (-(bits .and .u32 (y : Int) 1) % 4294967296) 2197175160) = ((tS y : Nat) : Int) := by
  have h1 : bits .and .u32 (y : Int) 1 = ((y % 2 : Nat) : Int) := by
    rw [show (1 : Int) = ((1 : Nat) : Int) from rfl, and_u32' y 1 hy (by decide), Nat.and_one_is_mod]
  have h2 : (y : Int) / 2 = ((y / 2 : Nat) : Int) := by omega
  rw [h1, h2, tS]
  by_cases h : y % 2 = 1
  · rw [if_pos h, h]
    rw [show (-((1 : Nat) : Int) % 4294967296) = ((4294967295 : Nat) : Int) from rfl, show (2197175160 : Int) = ((2197175160 : Nat) : Int) from rfl, and_u32' _ _ (by decide) (by decide),
      show (4294967295 &&& 2197175160 : Nat) = crcP from rfl, xor_u32' _ _ (by omega) (by decide)]
  · rw [if_neg h, show y % 2 = 0 by omega]
    rw [show (-((0 : Nat) : Int) % 4294967296) = ((0 : Nat) : Int) from rfl, show (2197175160 : Int) = ((2197175160 : Nat) : Int) from rfl, and_u32' _ _ (by decide) (by decide),
      show (0 &&& 2197175160 : Nat) = 0 from rfl, xor_u32' _ _ (by omega) (by decide), Nat.xor_zero]
theorem crcS_take {s : ByteArray} {j : Nat} (h : j < s.size) : crcS 4294967295 (s.data.toList.take (j + 1)) = tN 8 (crcS 4294967295 (s.data.toList.take j) ^^^ s[j].toNat) := by
  rw [Nm.take_snoc s j h, crcS_append]
  rfl

set_option maxRecDepth 100000 in
theorem crc_any (s : ByteArray) (w : World) (hs : s.size ≤ 140737488355328) :
    Calls Tryz.prog 19 #[.string s] w fun e w' => e = .returned (.int .i64 ((crcV s.data.toList : Nat) : Int)) ∧ w' = w := by
  obtain ⟨V, hV⟩ : ∃ V, V = crcV s.data.toList := ⟨_, rfl⟩
  rw [← hV]
  have HV : Hid (V = crcS 4294967295 s.data.toList ^^^ 4294967295) := by rw [hV]; rfl
  clear hV
  go_enter Tryz.func19, Tryz.ntmps19
  go_wp2
  go_loop [3, 7] (fun r i => ∃ j : Nat, j ≤ s.size ∧ i = .int .i64 j ∧ r = .int .u32 ((crcS 4294967295 (s.data.toList.take j) : Nat) : Int)) (fun _ i => s.size - (intOf i).toNat)
  case atStart => exact ⟨0, Nat.zero_le _, rfl, rfl⟩
  case round =>
    obtain ⟨j, hj, rfl, rfl⟩ := hrel
    by_cases hlt : j < s.size
    · obtain ⟨r0, hr0⟩ : ∃ r, r = crcS 4294967295 (s.data.toList.take j) := ⟨_, rfl⟩
      have hrl : r0 < 4294967296 := by rw [hr0]; exact crcS_lt _ (by decide)
      have HE : Hid (crcS 4294967295 (s.data.toList.take (j + 1)) = tN 8 (r0 ^^^ s[j].toNat)) := by rw [hr0]; exact crcS_take hlt
      rw [← hr0]
      have hx : bits .xor .u32 (r0 : Int) ((s[j].toNat : Int) % 4294967296) = ((r0 ^^^ s[j].toNat : Nat) : Int) := by
        have := s[j].toNat_lt
        rw [show ((s[j].toNat : Int) % 4294967296) = ((s[j].toNat : Nat) : Int) by omega, xor_u32' _ _ hrl (by omega)]
      have hxl : r0 ^^^ s[j].toNat < 4294967296 := Nat.xor_lt_two_pow (n := 32) hrl (by have := s[j].toNat_lt; omega)
      clear hr0
      go_wp2
      generalize r0 ^^^ s[j].toNat = x at *
      go_loop [3, 16] (fun r i => ∃ t : Nat, t ≤ 8 ∧ i = .int .i64 t ∧ r = .int .u32 ((tN t x : Nat) : Int)) (fun _ i => 8 - (intOf i).toNat)
      case atStart => exact ⟨0, Nat.zero_le _, rfl, rfl⟩
      case round =>
        obtain ⟨t, ht, rfl, rfl⟩ := hrel
        by_cases hlt2 : t < 8
        · have hy : tN t x < 4294967296 := tN_lt t hxl
          have HS : Hid (tN (t + 1) x = tS (tN t x)) := tN_snoc t x
          generalize tN t x = y at *
          have hst := crc_step hy
          go_wp2
          go_round
          case rel => exact ⟨t + 1, by omega, by go_num, by rw [HS.out]⟩
          case measure => simp [intOf]; omega
        · have : t = 8 := by omega
          subst this
          rw [← HE.out]
          go_wp2
          go_round
          case rel => exact ⟨j + 1, by omega, by go_num, rfl⟩
          case measure => simp [intOf]; omega
    · have hjn : j = s.size := by omega
      subst hjn
      rw [Nm.take_all s _ rfl]
      have hc : crcS 4294967295 s.data.toList < 4294967296 := crcS_lt _ (by decide)
      generalize crcS 4294967295 s.data.toList = y at *
      have hv := HV.out
      clear HV
      have HF : Hid (wrap64 (bits .xor .u32 IntKind.u32.max (y : Int)) = ((y ^^^ 4294967295 : Nat) : Int)) := by
        have hl : 4294967295 ^^^ y < 4294967296 := Nat.xor_lt_two_pow (n := 32) (by decide) hc
        rw [show IntKind.u32.max = ((4294967295 : Nat) : Int) from rfl, xor_u32' _ _ (by decide) hc, Nat.xor_comm] at *
        exact IntWalk.wrap64_in _ ⟨by omega, by omega⟩
      go_wp2
      go_ret
      refine ⟨?_, rfl⟩
      show Ending.returned (Value.int IntKind.i64 (wrap64 (bits .xor .u32 IntKind.u32.max (y : Int)))) = _
      rw [HF.out]
end Go.Proofs.YtklaeocnimkboaaGreatDoor

/-
  SdRefCrc: texts of earlier layers, laid over this program.
-/
import Derived.Test.YtklaeocnimkboaaGreatDoorSdText
namespace Go.Proofs.YtklaeocnimkboaaGreatDoor
open Go.RowKit Go.Lib

set_option maxRecDepth 100000 in
theorem refCrc_any (s : ByteArray) (w : World) (hs : s.size ≤ 140737488355328) :
    Calls Tryz.prog 47 #[.string s] w fun e w' => e = .returned (.int .i64 ((crcV s.data.toList : Nat) : Int)) ∧ w' = w := by
  obtain ⟨V, hV⟩ : ∃ V, V = crcV s.data.toList := ⟨_, rfl⟩
  rw [← hV]
  have HV : Hid (V = crcS 4294967295 s.data.toList ^^^ 4294967295) := by rw [hV]; rfl
  clear hV
  go_enter Tryz.func47, Tryz.ntmps47
  go_wp2
  go_loop [3, 4] (fun r i => ∃ j : Nat, j ≤ s.size ∧ i = .int .i64 j ∧ r = .int .i64 ((crcS 4294967295 (s.data.toList.take j) : Nat) : Int)) (fun _ i => s.size - (intOf i).toNat)
  case atStart => exact ⟨0, Nat.zero_le _, rfl, rfl⟩
  case round =>
    obtain ⟨j, hj, rfl, rfl⟩ := hrel
    by_cases hlt : j < s.size
    · obtain ⟨r0, hr0⟩ : ∃ r, r = crcS 4294967295 (s.data.toList.take j) := ⟨_, rfl⟩
      have hrl : r0 < 4294967296 := by rw [hr0]; exact crcS_lt _ (by decide)
      have HE : Hid (crcS 4294967295 (s.data.toList.take (j + 1)) = tN 8 (r0 ^^^ s[j].toNat)) := by rw [hr0]; exact crcS_take hlt
      rw [← hr0]
      have hx : bits .xor .i64 (r0 : Int) (s[j].toNat : Int) = ((r0 ^^^ s[j].toNat : Nat) : Int) := xor_i64 _ _ (by omega) (by have := s[j].toNat_lt; omega)
      have hxl : r0 ^^^ s[j].toNat < 4294967296 := Nat.xor_lt_two_pow (n := 32) hrl (by have := s[j].toNat_lt; omega)
      have hby := s[j].toNat_lt
      clear hr0
      go_wp2
      generalize r0 ^^^ s[j].toNat = x at *
      go_loop [3, 5] (fun r i => ∃ t : Nat, t ≤ 8 ∧ i = .int .i64 t ∧ r = .int .i64 ((tN t x : Nat) : Int)) (fun _ i => 8 - (intOf i).toNat)
      case atStart => exact ⟨0, Nat.zero_le _, rfl, rfl⟩
      case round =>
        obtain ⟨t, ht, rfl, rfl⟩ := hrel
        by_cases hlt2 : t < 8
        · have hy : tN t x < 4294967296 := tN_lt t hxl
          have HS : Hid (tN (t + 1) x = tS (tN t x)) := tN_snoc t x
          generalize tN t x = y at *
          have hq : (y : Int) / 2 = ((y / 2 : Nat) : Int) := by omega
          by_cases ho : y % 2 = 1
          · have hr : ((y : Int) % 2 == 1) = true := by simp; omega
            have hst : bits .xor .i64 ((y : Int) / 2) 2197175160 = ((tS y : Nat) : Int) := by
              rw [tS, if_pos ho, hq]
              exact xor_i64 (y / 2) 2197175160 (by omega) (by decide)
            clear ho hq
            go_wp2
            go_round
            case rel => exact ⟨t + 1, by omega, by go_num, by rw [HS.out]⟩
            case measure => simp [intOf]; omega
          · have hr : ((y : Int) % 2 == 1) = false := by simp; omega
            have hst : tS y = y / 2 := by rw [tS, if_neg ho]
            rw [hst] at HS
            have HQ := hide hq
            clear ho hst hq
            go_wp2
            go_round
            case rel => exact ⟨t + 1, by omega, by go_num, by rw [HS.out, ← HQ.out]⟩
            case measure => simp [intOf]; omega
        · have : t = 8 := by omega
          subst this
          rw [← HE.out]
          go_wp2
          go_round
          case rel => exact ⟨j + 1, by omega, by go_num, rfl⟩
          case measure => simp [intOf]; omega
    · have hjn : j = s.size := by omega
      subst hjn
      rw [Nm.take_all s _ rfl]
      have hc : crcS 4294967295 s.data.toList < 4294967296 := crcS_lt _ (by decide)
      generalize crcS 4294967295 s.data.toList = y at *
      have hv := HV.out
      have hx : bits .xor .i64 (y : Int) 4294967295 = (V : Int) := by rw [hv]; exact xor_i64 y 4294967295 (by omega) (by decide)
      clear HV hv
      go_wp2
      go_ret
      exact ⟨rfl, rfl⟩

set_option maxRecDepth 100000 in
theorem refNum_any (s : ByteArray) (w : World) (hs : s.size ≤ 6) :
    Calls Tryz.prog 112 #[.string s] w fun e w' => e = .returned (.int .i64 ((Nm.numOf s.data.toList : Nat) : Int)) ∧ w' = w := by
  obtain ⟨V, hV⟩ : ∃ V, V = Nm.numOf s.data.toList := ⟨_, rfl⟩
  rw [← hV]
  have HV := hide hV
  clear hV
  go_enter Tryz.func112, Tryz.ntmps112
  go_wp2
  go_loop [3, 4] (fun r i => ∃ j : Nat, j ≤ s.size ∧ i = .int .i64 j ∧ r = .int .i64 ((Nm.numOf (s.data.toList.take j) : Nat) : Int)) (fun _ i => s.size - (intOf i).toNat)
  case atStart => exact ⟨0, Nat.zero_le _, rfl, rfl⟩
  case round =>
    obtain ⟨j, hj, rfl, rfl⟩ := hrel
    by_cases hlt : j < s.size
    · have hb := Nm.numOf_take_lt s j 6 (by omega)
      have HE := hide (Nm.numOf_take s j hlt)
      have hby := s[j].toNat_lt
      have hb' : Nm.numOf (s.data.toList.take j) < 281474976710656 := hb
      clear hb
      generalize Nm.numOf (s.data.toList.take j) = y at *
      go_wp2
      go_round
      case rel => exact ⟨j + 1, by omega, by go_num, by rw [HE.out]; go_num⟩
      case measure => simp [intOf]; omega
    · have hjn : j = s.size := by omega
      subst hjn
      rw [Nm.take_all s _ rfl, ← HV.out]
      go_wp2
      go_ret
      exact ⟨rfl, rfl⟩

theorem refMust_any (n k : Nat) (w : World) (hn : n ≤ 9223372036854775807) (hk1 : 1 ≤ k) (hk8 : k ≤ 8) (hr : n < 256 ^ k) :
    Calls Tryz.prog 45 #[.int .i64 n, .int .i64 k] w fun e w' => e = .returned (.string (bs (Nm.fixedOf n k))) ∧ Below w.heap.size w w' := by
  have HC : Hid _ := Nm.refFixed_any n k w hn hk1 hk8 hr
  clear hr
  go_enter Tryz.func45, Tryz.ntmps45
  go_wp2_with fail
  refine Calls.mono HC.out ?_
  rintro e w1 ⟨rfl, hb⟩
  go_wp2
  go_ret
  exact ⟨rfl, hb⟩
end Go.Proofs.YtklaeocnimkboaaGreatDoor


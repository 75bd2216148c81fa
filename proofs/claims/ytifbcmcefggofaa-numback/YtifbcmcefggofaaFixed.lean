/-
  The contracts of the two functions that write fixed numbers.
-/
import Derived.Test.YtifbcmcefggofaaShort
namespace Go.Proofs.Ytifbcmcefggofaa
open Go.RowKit Go.Lib

theorem pow_256 (k : Nat) : (256 : Nat) ^ k = 2 ^ (8 * k) := by
  rw [show (256 : Nat) = 2 ^ 8 from rfl, ← Nat.pow_mul]
theorem shr_zero (n k : Nat) (hr : n < 256 ^ k) : ((n : Int) / 2 ^ (8 * k) != 0) = false := by
  rw [pow_256] at hr
  have : (n : Int) / 2 ^ (8 * k) = 0 := by
    have h2 : ((n / 2 ^ (8 * k) : Nat) : Int) = (n : Int) / 2 ^ (8 * k) := by simp
    rw [← h2, Nat.div_eq_of_lt hr]; rfl
  rw [this]; rfl

theorem set_zeros (x : UInt8) (F : List UInt8) (m : Nat) : (List.replicate (m + 1) 0 ++ F).set m x = List.replicate m 0 ++ x :: F := by
  rw [List.replicate_succ', List.append_assoc, List.set_append_right _ _ (by simp)]
  simp

theorem zero_at (F : List UInt8) (m : Nat) : (byteCells (List.replicate (m + 1) 0 ++ F))[m]? = some (.int .u8 0) := by
  simp [byteCells, List.getElem?_append]

/-- One byte more of a fixed number, laid into its row. -/
theorem rel_fix {B : Nat} {w wr : World} {n k j : Nat} {x : Int} (hlt : j < k) (hx : x = ((n / 256 ^ j % 256 : Nat) : Int)) (hown : wr.ownsRow B 5 1 (.slice (some ⟨B, 0, none⟩) k k) k (byteCells (List.replicate (k - j) 0 ++ fixedOf n j))) (hb : Below B w wr) :
    (wr.setCell ⟨B, k - 1 - j, none⟩ (.int .u8 x)).ownsRow B 5 1 (.slice (some ⟨B, 0, none⟩) k k) k (byteCells (List.replicate (k - (j + 1)) 0 ++ fixedOf n (j + 1))) ∧
    Below B w (wr.setCell ⟨B, k - 1 - j, none⟩ (.int .u8 x)) := by
  refine ⟨?_, hb.setCell (Nat.le_refl _) _⟩
  have h := (hown.stored (k - 1 - j) (.int .u8 x)).1
  have e : (byteCells (List.replicate (k - j) 0 ++ fixedOf n j)).set (k - 1 - j) (.int .u8 x) = byteCells (List.replicate (k - (j + 1)) 0 ++ fixedOf n (j + 1)) := by
    have hk : k - j = (k - 1 - j) + 1 := by omega
    have hx2 : Value.int .u8 x = (fun b : UInt8 => Value.int .u8 b.toNat) (n / 256 ^ j % 256).toUInt8 := by
      show _ = Value.int .u8 ((n / 256 ^ j % 256).toUInt8.toNat : Int)
      rw [toUInt8_toNat (by omega), hx]
    rw [hk, hx2, byteCells, ← List.map_set, set_zeros, fixedOf, show k - (j + 1) = k - 1 - j from by omega]
    rfl
  rw [e] at h
  exact h

set_option maxHeartbeats 400000 in
set_option maxRecDepth 100000 in
theorem fixed_any (n k : Nat) (w : World) (hn : n ≤ 9223372036854775807) (hk1 : 1 ≤ k) (hk8 : k ≤ 8) (hr : n < 256 ^ k) :
    Calls Try.prog 8 #[.int .i64 n, .int .i64 k] w fun e w' => e = .returned (.tuple #[.string (strOf (fixedOf n k)), .int .i64 0]) ∧ Below w.heap.size w w' := by
  obtain ⟨i0, hi, hz0, hz1, hz2⟩ := info_parts Try.info5
  have hsh := shr_zero n k hr
  clear hr
  go_enter Try.func8, Try.ntmps8
  go_wp2_with (at_make; refine wpList_make_full _ rfl _ _ 49 rfl w.heap.size 5 i0 (.int .u8 0) 1 Try.underlying49 hi hz0 hz1 _ _ _ _ k rfl rfl rfl rfl (by rw [hz2]; omega) (by unfold maxLen; omega) (Nat.le_refl _) ?_)
  intro w0 hown0 hgrow0
  have hb0 : Below w.heap.size w w0 := (Below.refl _ _).grown hgrow0 (Nat.le_refl _) (fun k hk => by cases hk)
  have hz : w.heap.size < w0.heap.size := (hown0.lt w.heap.size rfl).2
  clear hgrow0 hz0 hz1 hz2 hi
  go_wp2
  go_loopw [7, 29] (fun _ i wr => ∃ j : Nat, j ≤ k ∧ i = .int .i64 j ∧ wr.ownsRow w.heap.size 5 1 (.slice (some ⟨w.heap.size, 0, none⟩) k k) k (byteCells (List.replicate (k - j) 0 ++ fixedOf n j)) ∧ Below w.heap.size w wr)
    (fun _ i _ => k - (intOf i).toNat)
  case atStart => exact ⟨0, Nat.zero_le _, rfl, by simpa [fixedOf, byteCells, toList_madeCells_one] using hown0, hb0⟩
  case round =>
    obtain ⟨j, hj, rfl, hown, hb⟩ := hrel
    by_cases hlt : j < k
    · have hc : wr.cell? ⟨w.heap.size, k - 1 - j, none⟩ = some (.int .u8 0) := by
        rw [hown.cellAt (k - 1 - j) (by omega), show k - j = (k - 1 - j) + 1 from by omega, zero_at]
      have hf := hown.frozenAt (k - 1 - j)
      have R := rel_fix hlt (x := (n : Int) / 2 ^ (8 * j) % 256) (by rw [pow_256]; simp) hown hb
      clear hown hb
      go_wp2
      go_roundw
      case rel => exact ⟨j + 1, by omega, by go_num, R.1, R.2⟩
      case measure => simp [intOf]; omega
    · have hjk : j = k := by omega
      subst hjk
      rw [Nat.sub_self, List.replicate_zero, List.nil_append] at hown
      have hs := run_string_of_own (l := fixedOf n j) (by rw [fixedOf_length]; exact hown)
      go_wp2
      go_ret2
      exact ⟨rfl, hb⟩

theorem shr_some (n k : Nat) (hr : ¬ n < 256 ^ k) : ((n : Int) / 2 ^ (8 * k) != 0) = true := by
  rw [pow_256] at hr
  have h2 : ((n / 2 ^ (8 * k) : Nat) : Int) = (n : Int) / 2 ^ (8 * k) := by simp
  have h3 : 0 < n / 2 ^ (8 * k) := Nat.div_pos (by omega) (Nat.two_pow_pos _)
  rw [← h2, bne_iff_ne]
  omega

/-- Whether a fixed number can be written. -/
def fixOk (n b : Int) : Prop := 0 ≤ n ∧ 1 ≤ b ∧ b ≤ 8 ∧ n.toNat < 256 ^ b.toNat

set_option maxHeartbeats 400000 in
theorem fixed_bad (n b : Int) (w : World) (hn : n ≤ 9223372036854775807) (h : ¬ fixOk n b) :
    Calls Try.prog 8 #[.int .i64 n, .int .i64 b] w fun e w' => e = .returned (.tuple #[.string ⟨#[]⟩, .int .i64 1]) ∧ w' = w := by
  by_cases h1 : n < 0
  · clear h
    go_enter Try.func8, Try.ntmps8
    go_wp2
    go_ret2
    exact ⟨rfl, rfl⟩
  by_cases h2 : b < 1
  · clear h
    go_enter Try.func8, Try.ntmps8
    go_wp2
    go_ret2
    exact ⟨rfl, rfl⟩
  by_cases h3 : 8 < b
  · clear h
    go_enter Try.func8, Try.ntmps8
    go_wp2
    go_ret2
    exact ⟨rfl, rfl⟩
  obtain ⟨x, rfl⟩ := Int.eq_ofNat_of_zero_le (show 0 ≤ n by omega)
  obtain ⟨k, rfl⟩ := Int.eq_ofNat_of_zero_le (show 0 ≤ b by omega)
  have hs := shr_some x k (fun hx => h ⟨by omega, by omega, by omega, by simpa using hx⟩)
  clear h
  go_enter Try.func8, Try.ntmps8
  go_wp2
  go_ret2
  exact ⟨rfl, rfl⟩

set_option maxHeartbeats 400000 in
theorem refFixed_bad (n b : Int) (w : World) (hn : n ≤ 9223372036854775807) (h : ¬ fixOk n b) :
    Calls Try.prog 9 #[.int .i64 n, .int .i64 b] w fun e w' => e = .returned (.tuple #[.string ⟨#[]⟩, .int .i64 1]) ∧ w' = w := by
  by_cases h2 : b < 1
  · clear h
    go_enter Try.func9, Try.ntmps9
    go_wp2
    go_ret2
    exact ⟨rfl, rfl⟩
  by_cases h3 : 8 < b
  · clear h
    go_enter Try.func9, Try.ntmps9
    go_wp2
    go_ret2
    exact ⟨rfl, rfl⟩
  by_cases h1 : n < 0
  · clear h
    go_enter Try.func9, Try.ntmps9
    go_wp2
    go_ret2
    exact ⟨rfl, rfl⟩
  obtain ⟨x, rfl⟩ := Int.eq_ofNat_of_zero_le (show 0 ≤ n by omega)
  obtain ⟨k, rfl⟩ := Int.eq_ofNat_of_zero_le (show 0 ≤ b by omega)
  have hk : k < 8 := by
    rcases Nat.lt_or_ge k 8 with hk | hk
    · exact hk
    · exfalso
      have : k = 8 := by omega
      subst this
      exact h ⟨by omega, by omega, by omega, Nat.lt_of_le_of_lt (show x ≤ 9223372036854775807 by omega) (by decide)⟩
  have hs := shr_some x k (fun hx => h ⟨by omega, by omega, by omega, by simpa using hx⟩)
  clear h
  go_enter Try.func9, Try.ntmps9
  go_wp2
  go_ret2
  exact ⟨rfl, rfl⟩

set_option maxHeartbeats 400000 in
set_option maxRecDepth 100000 in
theorem refFixed_any (n k : Nat) (w : World) (hn : n ≤ 9223372036854775807) (hk1 : 1 ≤ k) (hk8 : k ≤ 8) (hr : n < 256 ^ k) :
    Calls Try.prog 9 #[.int .i64 n, .int .i64 k] w fun e w' => e = .returned (.tuple #[.string (strOf (fixedOf n k)), .int .i64 0]) ∧ Below w.heap.size w w' := by
  obtain ⟨i0, hi, hz0, hz1, hz2⟩ := info_parts Try.info5
  have hsh := shr_zero n k hr
  clear hr
  go_enter Try.func9, Try.ntmps9
  go_wp2_with (at_make; refine wpList_make_full _ rfl _ _ 49 rfl w.heap.size 5 i0 (.int .u8 0) 1 Try.underlying49 hi hz0 hz1 _ _ _ _ k rfl rfl rfl rfl (by rw [hz2]; omega) (by unfold maxLen; omega) (Nat.le_refl _) ?_)
  all_goals
  intro w0 hown0 hgrow0
  have hb0 : Below w.heap.size w w0 := (Below.refl _ _).grown hgrow0 (Nat.le_refl _) (fun k hk => by cases hk)
  clear hgrow0 hz0 hz1 hz2 hi
  go_wp2
  go_loopw [0, 7] (fun x i wr => ∃ j : Nat, j ≤ k ∧ i = .int .i64 ((k : Int) - 1 - j) ∧ x = .int .i64 (n / 256 ^ j : Nat) ∧ wr.ownsRow w.heap.size 5 1 (.slice (some ⟨w.heap.size, 0, none⟩) k k) k (byteCells (List.replicate (k - j) 0 ++ fixedOf n j)) ∧ Below w.heap.size w wr)
    (fun _ i _ => (intOf i + 1).toNat)
  case atStart => exact ⟨0, Nat.zero_le _, by go_num, by simp, by simpa [fixedOf, byteCells, toList_madeCells_one] using hown0, hb0⟩
  case round =>
    obtain ⟨j, hj, rfl, rfl, hown, hb⟩ := hrel
    have hxle : n / 256 ^ j ≤ n := Nat.div_le_self _ _
    by_cases hlt : j < k
    · have hc : wr.cell? ⟨w.heap.size, k - 1 - j, none⟩ = some (.int .u8 0) := by
        rw [hown.cellAt (k - 1 - j) (by omega), show k - j = (k - 1 - j) + 1 from by omega, zero_at]
      have hf := hown.frozenAt (k - 1 - j)
      have R := rel_fix hlt (x := ((n / 256 ^ j : Nat) : Int) % 256) (by simp) hown hb
      have HD : Hid (n / 256 ^ j / 256 = n / 256 ^ (j + 1)) := by
        show n / 256 ^ j / 256 = n / 256 ^ (j + 1)
        rw [Nat.div_div_eq_div_mul, ← Nat.pow_succ]
      clear hown hb
      generalize n / 256 ^ j = y at *
      go_wp2
      go_roundw
      case rel => exact ⟨j + 1, by omega, by go_num, by rw [← HD.out]; go_num, R.1, R.2⟩
      case measure => simp [intOf]; omega
    · have hjk : j = k := by omega
      subst hjk
      rw [Nat.sub_self, List.replicate_zero, List.nil_append] at hown
      have hs := run_string_of_own (l := fixedOf n j) (by rw [fixedOf_length]; exact hown)
      generalize n / 256 ^ j = y at *
      go_wp2
      go_ret2
      exact ⟨rfl, hb⟩

end Go.Proofs.Ytifbcmcefggofaa

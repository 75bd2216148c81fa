/-
  The contracts of the document's numbers: Fixed, Must, Num; and of its list of constants.
-/
import Derived.Test.YtgpdmboeompncaaDoorSum
namespace Go.Proofs.YtgpdmboeompncaaDoor
open Go.RowKit Go.Lib

theorem pow_256 (k : Nat) : (256 : Nat) ^ k = 2 ^ (8 * k) := by
  rw [show (256 : Nat) = 2 ^ 8 from rfl, ← Nat.pow_mul]
theorem shr_zero (n k : Nat) (hr : n < 256 ^ k) : ((n : Int) / 2 ^ (8 * k) != 0) = false := by
  rw [pow_256] at hr
  have : (n : Int) / 2 ^ (8 * k) = 0 := by
    have h2 : ((n / 2 ^ (8 * k) : Nat) : Int) = (n : Int) / 2 ^ (8 * k) := by simp
    rw [← h2, Nat.div_eq_of_lt hr]; rfl
  rw [this]; rfl

theorem set_zeros (x : UInt8) (F : List UInt8) (m : Nat) : (List.replicate (m + 1) 0 ++ F).set m x = List.replicate m 0 ++ x :: F := by
  rw [List.replicate_succ', List.append_assoc, List.set_append_right _ _ (by simp)]
  simp

theorem zero_at (F : List UInt8) (m : Nat) : (byteCells (List.replicate (m + 1) 0 ++ F))[m]? = some (.int .u8 0) := by
  simp [byteCells, List.getElem?_append]

/-- One byte more of a fixed number, laid into its row. -/
theorem rel_fix {B : Nat} {w wr : World} {n k j : Nat} {x : Int} (hlt : j < k) (hx : x = ((n / 256 ^ j % 256 : Nat) : Int)) (hown : wr.ownsRow B 5 1 (.slice (some ⟨B, 0, none⟩) k k) k (byteCells (List.replicate (k - j) 0 ++ fixedOf n j))) (hb : Below B w wr) :
    (wr.setCell ⟨B, k - 1 - j, none⟩ (.int .u8 x)).ownsRow B 5 1 (.slice (some ⟨B, 0, none⟩) k k) k (byteCells (List.replicate (k - (j + 1)) 0 ++ fixedOf n (j + 1))) ∧
    Below B w (wr.setCell ⟨B, k - 1 - j, none⟩ (.int .u8 x)) := by
  refine ⟨?_, hb.setCell (Nat.le_refl _) _⟩
  have h := (hown.stored (k - 1 - j) (.int .u8 x)).1
  have e : (byteCells (List.replicate (k - j) 0 ++ fixedOf n j)).set (k - 1 - j) (.int .u8 x) = byteCells (List.replicate (k - (j + 1)) 0 ++ fixedOf n (j + 1)) := by
    have hk : k - j = (k - 1 - j) + 1 := by omega
    have hx2 : Value.int .u8 x = (fun b : UInt8 => Value.int .u8 b.toNat) (n / 256 ^ j % 256).toUInt8 := by
      show _ = Value.int .u8 ((n / 256 ^ j % 256).toUInt8.toNat : Int)
      rw [toUInt8_toNat (by omega), hx]
    rw [hk, hx2, byteCells, ← List.map_set, set_zeros, fixedOf, show k - (j + 1) = k - 1 - j from by omega]
    rfl
  rw [e] at h
  exact h

set_option maxHeartbeats 400000 in
set_option maxRecDepth 100000 in
theorem refFixed_any (n k : Nat) (w : World) (hn : n ≤ 9223372036854775807) (hk1 : 1 ≤ k) (hk8 : k ≤ 8) (hr : n < 256 ^ k) :
    Calls Tryd.prog 40 #[.int .i64 n, .int .i64 k] w fun e w' => e = .returned (.tuple #[.string (strOf (fixedOf n k)), .int .i64 0]) ∧ Below w.heap.size w w' := by
  obtain ⟨i0, hi, hz0, hz1, hz2⟩ := info_parts Tryd.info5
  have hsh := shr_zero n k hr
  clear hr
  go_enter Tryd.func40, Tryd.ntmps40
  go_wp2_with (at_make; refine wpList_make_full _ rfl _ _ 50 rfl w.heap.size 5 i0 (.int .u8 0) 1 Tryd.underlying50 hi hz0 hz1 _ _ _ _ k rfl rfl rfl rfl (by rw [hz2]; omega) (by unfold maxLen; omega) (Nat.le_refl _) ?_)
  all_goals
  intro w0 hown0 hgrow0
  have hb0 : Below w.heap.size w w0 := (Below.refl _ _).grown hgrow0 (Nat.le_refl _) (fun k hk => by cases hk)
  clear hgrow0 hz0 hz1 hz2 hi
  go_wp2
  go_loopw [0, 7] (fun x i wr => ∃ j : Nat, j ≤ k ∧ i = .int .i64 ((k : Int) - 1 - j) ∧ x = .int .i64 (n / 256 ^ j : Nat) ∧ wr.ownsRow w.heap.size 5 1 (.slice (some ⟨w.heap.size, 0, none⟩) k k) k (byteCells (List.replicate (k - j) 0 ++ fixedOf n j)) ∧ Below w.heap.size w wr)
    (fun _ i _ => (intOf i + 1).toNat)
  case atStart => exact ⟨0, Nat.zero_le _, by go_num, by simp, by simpa [fixedOf, byteCells, toList_madeCells_one] using hown0, hb0⟩
  case round =>
    obtain ⟨j, hj, rfl, rfl, hown, hb⟩ := hrel
    have hxle : n / 256 ^ j ≤ n := Nat.div_le_self _ _
    by_cases hlt : j < k
    · have hc : wr.cell? ⟨w.heap.size, k - 1 - j, none⟩ = some (.int .u8 0) := by
        rw [hown.cellAt (k - 1 - j) (by omega), show k - j = (k - 1 - j) + 1 from by omega, zero_at]
      have hf := hown.frozenAt (k - 1 - j)
      have R := rel_fix hlt (x := ((n / 256 ^ j : Nat) : Int) % 256) (by simp) hown hb
      have HD : Hid (n / 256 ^ j / 256 = n / 256 ^ (j + 1)) := by
        show n / 256 ^ j / 256 = n / 256 ^ (j + 1)
        rw [Nat.div_div_eq_div_mul, ← Nat.pow_succ]
      clear hown hb
      generalize n / 256 ^ j = y at *
      go_wp2
      go_roundw
      case rel => exact ⟨j + 1, by omega, by go_num, by rw [← HD.out]; go_num, R.1, R.2⟩
      case measure => simp [intOf]; omega
    · have hjk : j = k := by omega
      subst hjk
      rw [Nat.sub_self, List.replicate_zero, List.nil_append] at hown
      have hs := run_string_of_own (l := fixedOf n j) (by rw [fixedOf_length]; exact hown)
      generalize n / 256 ^ j = y at *
      go_wp2
      go_ret2
      exact ⟨rfl, hb⟩


/-- Bytes as a number, the highest first. -/
def numOf (l : List UInt8) : Nat := l.foldl (fun a c => a * 256 + c.toNat) 0
theorem numOf_snoc (l : List UInt8) (c : UInt8) : numOf (l ++ [c]) = numOf l * 256 + c.toNat := by simp [numOf]
theorem numOf_lt_rev : ∀ l : List UInt8, numOf l.reverse < 256 ^ l.length
  | [] => by simp [numOf]
  | c :: l => by
    rw [List.reverse_cons, numOf_snoc, List.length_cons, Nat.pow_succ]
    have h1 := numOf_lt_rev l
    have h2 := c.toNat_lt
    omega
theorem numOf_lt (l : List UInt8) : numOf l < 256 ^ l.length := by
  have h := numOf_lt_rev l.reverse
  rwa [List.reverse_reverse, List.length_reverse] at h
theorem take_snoc (s : ByteArray) (k : Nat) (h : k < s.size) : s.data.toList.take (k + 1) = s.data.toList.take k ++ [s[k]] := by
  rw [List.take_succ_eq_append_getElem (by simpa using h)]; rfl
theorem numOf_take (t : ByteArray) (j : Nat) (h : j < t.size) : numOf (t.data.toList.take (j + 1)) = numOf (t.data.toList.take j) * 256 + t[j].toNat := by
  rw [take_snoc t j h, numOf_snoc]
theorem numOf_take_lt (t : ByteArray) (j k : Nat) (h : j ≤ k) : numOf (t.data.toList.take j) < 256 ^ k :=
  Nat.lt_of_lt_of_le (numOf_lt _) (Nat.pow_le_pow_right (by decide) (Nat.le_trans (List.length_take_le _ _) h))

theorem take_all (t : ByteArray) (j : Nat) (h : t.size = j) : t.data.toList.take j = t.data.toList :=
  List.take_of_length_le (by rw [← h]; exact Nat.le_of_eq (by simp))



set_option maxRecDepth 100000 in
theorem num_any (t : ByteArray) (w : World) (ht : t.size ≤ 7) :
    Calls Tryd.prog 45 #[.string t] w fun e w' => e = .returned (.int .i64 (numOf t.data.toList : Nat)) ∧ w' = w := by
  go_enter Tryd.func45, Tryd.ntmps45
  go_wp2
  go_loop [3, 4] (fun n i => ∃ j : Nat, j ≤ t.size ∧ i = .int .i64 j ∧ n = .int .i64 (numOf (t.data.toList.take j) : Nat)) (fun _ i => t.size - (intOf i).toNat)
  case atStart => exact ⟨0, Nat.zero_le _, rfl, rfl⟩
  case round =>
    obtain ⟨j, hj, rfl, rfl⟩ := hrel
    by_cases hlt : j < t.size
    · have hb : numOf (t.data.toList.take j) < 281474976710656 := numOf_take_lt t j 6 (by omega)
      have hc : t[j].toNat < 256 := t[j].toNat_lt
      have HN : Hid (numOf (t.data.toList.take (j + 1)) = numOf (t.data.toList.take j) * 256 + t[j].toNat) := numOf_take t j hlt
      go_wp2
      go_round
      case rel => exact ⟨j + 1, by omega, by go_num, by rw [HN.out]; simp⟩
      case measure => simp [intOf]; omega
    · have hjk : j = t.size := by omega
      have hN : numOf (t.data.toList.take j) = numOf t.data.toList := by rw [take_all t j hjk.symm]
      rw [hN]
      clear hN hjk
      go_wp2
      go_ret
      exact ⟨rfl, rfl⟩

theorem must_any (n k : Nat) (w : World) (hn : n ≤ 9223372036854775807) (hk1 : 1 ≤ k) (hk8 : k ≤ 8) (hr : n < 256 ^ k) :
    Calls Tryd.prog 32 #[.int .i64 n, .int .i64 k] w fun e w' => e = .returned (.string (strOf (fixedOf n k))) ∧ Below w.heap.size w w' := by
  have HF : Hid _ := refFixed_any n k w hn hk1 hk8 hr
  clear hr
  go_enter Tryd.func32, Tryd.ntmps32
  go_wp2_with fail
  refine Calls.mono HF.out ?_
  rintro e w1 ⟨rfl, hb⟩
  go_wp2
  go_ret
  exact ⟨rfl, hb⟩

theorem Ks_info : (Tryd.prog.info? 53).map (·.size) = some (Ks.map word).toArray.size := by kernel_rfl
set_option maxRecDepth 100000 in
theorem consts_any (w : World) :
    Calls Tryd.prog 31 #[] w fun e w' => e = .returned (.agg (Ks.map word).toArray) ∧ Below w.heap.size w w' := by
  go_enter Tryd.func31, Tryd.ntmps31
  go_wp2_with (refine wpList_alloc_any rfl 53 rfl _ zero53 ?_)
  intro w0 hc0 hs0 hb0
  go_wp2_with (first | refine wpList_buildTo rfl 53 _ rfl _ rfl (Ks.map word).toArray (by kernel_rfl) ?_ | refine wpList_store_row rfl 53 _ _ rfl _ _ rfl rfl 53 _ hc0 Ks_info (by kernel_rfl) (by kernel_rfl) ?_)
  refine bodyPost_ret (results_cell_row Tryd.results31 _ _ w.heap.size 53 _ (0, 0) _ rfl (setRow_heap w0 _ _ _ 53 (0, 0) hc0) Tryd.underlying53 rfl Ks_info) rfl ⟨rfl, ?_⟩
  exact below_gb hb0 (gb_setRow w0 _ _) (Nat.le_refl _) (by omega)

end Go.Proofs.YtgpdmboeompncaaDoor

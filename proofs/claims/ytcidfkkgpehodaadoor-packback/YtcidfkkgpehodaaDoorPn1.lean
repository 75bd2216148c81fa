/-
  Contracts of the program and of the statements (part 1 of 12).
-/
import Derived.Test.YtcidfkkgpehodaaDoorRows
import Derived.Test.YtcidfkkgpehodaaDoorBNum
import Derived.Test.YtcidfkkgpehodaaDoorBSha
import Derived.Test.YtcidfkkgpehodaaDoorBHex
import Derived.Test.YtcidfkkgpehodaaDoorBHexB
import Derived.Test.YtcidfkkgpehodaaDoorBHexR
import Derived.Deep.RegionWith
import Derived.Maps.Views
import Derived.WalkKit
import Derived.WalkSpells
import Derived.WalkLawsBesides
import Derived.Below
import Derived.Laws.OwnMore
import Derived.Laws.LoneSync
import Derived.Lib.VarintMem
import Derived.Lib.SliceRun
import Derived.Lib.AppendZeros
import Derived.BigRegion
import Derived.Maps.AppendAt
import Derived.Maps.RangeWalk
import Derived.Maps.OwnSet
import Derived.Deep.RegionHeld3
import Derived.Deep.RegionHeldLaw
import Derived.Deep.DeepCutAuto
import Derived.Deep.CutBlock

namespace Go.Proofs.YtcidfkkgpehodaaDoor.Zq.Sh
open Go.RowKit Go.Lib

theorem pow_256 (k : Nat) : (256 : Nat) ^ k = 2 ^ (8 * k) := by
  rw [show (256 : Nat) = 2 ^ 8 from rfl, ← Nat.pow_mul]
theorem shr_zero (n k : Nat) (hr : n < 256 ^ k) : ((n : Int) / 2 ^ (8 * k) != 0) = false := by
  rw [pow_256] at hr
  have : (n : Int) / 2 ^ (8 * k) = 0 := by
    have h2 : ((n / 2 ^ (8 * k) : Nat) : Int) = (n : Int) / 2 ^ (8 * k) := by simp
    rw [← h2, Nat.div_eq_of_lt hr]; rfl
  rw [this]; rfl

theorem set_zeros (x : UInt8) (F : List UInt8) (m : Nat) : (List.replicate (m + 1) 0 ++ F).set m x = List.replicate m 0 ++ x :: F := by
  rw [List.replicate_succ', List.append_assoc, List.set_append_right _ _ (by simp)]
  simp

theorem zero_at (F : List UInt8) (m : Nat) : (byteCells (List.replicate (m + 1) 0 ++ F))[m]? = some (.int .u8 0) := by
  simp [byteCells, List.getElem?_append]

/-- One byte more of a fixed number, laid into its row. -/
theorem rel_fix {B : Nat} {w wr : World} {n k j : Nat} {x : Int} (hlt : j < k) (hx : x = ((n / 256 ^ j % 256 : Nat) : Int)) (hown : wr.ownsRow B 5 1 (.slice (some ⟨B, 0, none⟩) k k) k (byteCells (List.replicate (k - j) 0 ++ fixedOf n j))) (hb : Below B w wr) :
    (wr.setCell ⟨B, k - 1 - j, none⟩ (.int .u8 x)).ownsRow B 5 1 (.slice (some ⟨B, 0, none⟩) k k) k (byteCells (List.replicate (k - (j + 1)) 0 ++ fixedOf n (j + 1))) ∧
    Below B w (wr.setCell ⟨B, k - 1 - j, none⟩ (.int .u8 x)) := by
  refine ⟨?_, hb.setCell (Nat.le_refl _) _⟩
  have h := (hown.stored (k - 1 - j) (.int .u8 x)).1
  have e : (byteCells (List.replicate (k - j) 0 ++ fixedOf n j)).set (k - 1 - j) (.int .u8 x) = byteCells (List.replicate (k - (j + 1)) 0 ++ fixedOf n (j + 1)) := by
    have hk : k - j = (k - 1 - j) + 1 := by omega
    have hx2 : Value.int .u8 x = (fun b : UInt8 => Value.int .u8 b.toNat) (n / 256 ^ j % 256).toUInt8 := by
      show _ = Value.int .u8 ((n / 256 ^ j % 256).toUInt8.toNat : Int)
      rw [toUInt8_toNat (by omega), hx]
    rw [hk, hx2, byteCells, ← List.map_set, set_zeros, fixedOf, show k - (j + 1) = k - 1 - j from by omega]
    rfl
  rw [e] at h
  exact h

set_option maxHeartbeats 400000 in
set_option maxRecDepth 100000 in
theorem refFixed_any (n k : Nat) (w : World) (hn : n ≤ 9223372036854775807) (hk1 : 1 ≤ k) (hk8 : k ≤ 8) (hr : n < 256 ^ k) :
    Calls Tryd.prog 56 #[.int .i64 n, .int .i64 k] w fun e w' => e = .returned (.tuple #[.string (strOf (fixedOf n k)), .int .i64 0]) ∧ Below w.heap.size w w' := by
  obtain ⟨i0, hi, hz0, hz1, hz2⟩ := info_parts Tryd.info5
  have hsh := shr_zero n k hr
  clear hr
  go_enter Tryd.func56, Tryd.ntmps56
  go_wp2_with (at_make; refine wpList_make_full _ rfl _ _ 58 rfl w.heap.size 5 i0 (.int .u8 0) 1 Tryd.underlying58 hi hz0 hz1 _ _ _ _ k rfl rfl rfl rfl (by rw [hz2]; omega) (by unfold maxLen; omega) (Nat.le_refl _) ?_)
  all_goals
  intro w0 hown0 hgrow0
  have hb0 : Below w.heap.size w w0 := (Below.refl _ _).grown hgrow0 (Nat.le_refl _) (fun k hk => by cases hk)
  clear hgrow0 hz0 hz1 hz2 hi
  go_wp2
  go_loopw [0, 7] (fun x i wr => ∃ j : Nat, j ≤ k ∧ i = .int .i64 ((k : Int) - 1 - j) ∧ x = .int .i64 (n / 256 ^ j : Nat) ∧ wr.ownsRow w.heap.size 5 1 (.slice (some ⟨w.heap.size, 0, none⟩) k k) k (byteCells (List.replicate (k - j) 0 ++ fixedOf n j)) ∧ Below w.heap.size w wr)
    (fun _ i _ => (RowKit.intOf i + 1).toNat)
  case atStart => exact ⟨0, Nat.zero_le _, by go_num, by simp, by simpa [fixedOf, byteCells, toList_madeCells_one] using hown0, hb0⟩
  case round =>
    obtain ⟨j, hj, rfl, rfl, hown, hb⟩ := hrel
    have hxle : n / 256 ^ j ≤ n := Nat.div_le_self _ _
    by_cases hlt : j < k
    · have hc : wr.cell? ⟨w.heap.size, k - 1 - j, none⟩ = some (.int .u8 0) := by
        rw [hown.cellAt (k - 1 - j) (by omega), show k - j = (k - 1 - j) + 1 from by omega, zero_at]
      have hf := hown.frozenAt (k - 1 - j)
      have R := rel_fix hlt (x := ((n / 256 ^ j : Nat) : Int) % 256) (by simp) hown hb
      have HD : Hid (n / 256 ^ j / 256 = n / 256 ^ (j + 1)) := by
        show n / 256 ^ j / 256 = n / 256 ^ (j + 1)
        rw [Nat.div_div_eq_div_mul, ← Nat.pow_succ]
      clear hown hb
      generalize n / 256 ^ j = y at *
      go_wp2
      go_roundw
      case rel => exact ⟨j + 1, by omega, by go_num, by rw [← HD.out]; go_num, R.1, R.2⟩
      case measure => simp [RowKit.intOf]; omega
    · have hjk : j = k := by omega
      subst hjk
      rw [Nat.sub_self, List.replicate_zero, List.nil_append] at hown
      have hs := run_string_of_own (l := fixedOf n j) (by rw [fixedOf_length]; exact hown)
      generalize n / 256 ^ j = y at *
      go_wp2
      go_ret2
      exact ⟨rfl, hb⟩


/-- Bytes as a number, the highest first. -/
def numOf (l : List UInt8) : Nat := l.foldl (fun a c => a * 256 + c.toNat) 0
theorem numOf_snoc (l : List UInt8) (c : UInt8) : numOf (l ++ [c]) = numOf l * 256 + c.toNat := by simp [numOf]
theorem numOf_lt_rev : ∀ l : List UInt8, numOf l.reverse < 256 ^ l.length
  | [] => by simp [numOf]
  | c :: l => by
    rw [List.reverse_cons, numOf_snoc, List.length_cons, Nat.pow_succ]
    have h1 := numOf_lt_rev l
    have h2 := c.toNat_lt
    omega
theorem numOf_lt (l : List UInt8) : numOf l < 256 ^ l.length := by
  have h := numOf_lt_rev l.reverse
  rwa [List.reverse_reverse, List.length_reverse] at h
theorem take_snoc (s : ByteArray) (k : Nat) (h : k < s.size) : s.data.toList.take (k + 1) = s.data.toList.take k ++ [s[k]] := by
  rw [List.take_succ_eq_append_getElem (by simpa using h)]; rfl
theorem numOf_take (t : ByteArray) (j : Nat) (h : j < t.size) : numOf (t.data.toList.take (j + 1)) = numOf (t.data.toList.take j) * 256 + t[j].toNat := by
  rw [take_snoc t j h, numOf_snoc]
theorem numOf_take_lt (t : ByteArray) (j k : Nat) (h : j ≤ k) : numOf (t.data.toList.take j) < 256 ^ k :=
  Nat.lt_of_lt_of_le (numOf_lt _) (Nat.pow_le_pow_right (by decide) (Nat.le_trans (List.length_take_le _ _) h))

theorem take_all (t : ByteArray) (j : Nat) (h : t.size = j) : t.data.toList.take j = t.data.toList :=
  List.take_of_length_le (by rw [← h]; exact Nat.le_of_eq (by simp))



set_option maxRecDepth 100000 in
theorem num_any (t : ByteArray) (w : World) (ht : t.size ≤ 7) :
    Calls Tryd.prog 97 #[.string t] w fun e w' => e = .returned (.int .i64 (numOf t.data.toList : Nat)) ∧ w' = w := by
  go_enter Tryd.func97, Tryd.ntmps97
  go_wp2
  go_loop [3, 4] (fun n i => ∃ j : Nat, j ≤ t.size ∧ i = .int .i64 j ∧ n = .int .i64 (numOf (t.data.toList.take j) : Nat)) (fun _ i => t.size - (RowKit.intOf i).toNat)
  case atStart => exact ⟨0, Nat.zero_le _, rfl, rfl⟩
  case round =>
    obtain ⟨j, hj, rfl, rfl⟩ := hrel
    by_cases hlt : j < t.size
    · have hb : numOf (t.data.toList.take j) < 281474976710656 := numOf_take_lt t j 6 (by omega)
      have hc : t[j].toNat < 256 := t[j].toNat_lt
      have HN : Hid (numOf (t.data.toList.take (j + 1)) = numOf (t.data.toList.take j) * 256 + t[j].toNat) := numOf_take t j hlt
      go_wp2
      go_round
      case rel => exact ⟨j + 1, by omega, by go_num, by rw [HN.out]; simp⟩
      case measure => simp [RowKit.intOf]; omega
    · have hjk : j = t.size := by omega
      have hN : numOf (t.data.toList.take j) = numOf t.data.toList := by rw [take_all t j hjk.symm]
      rw [hN]
      clear hN hjk
      go_wp2
      go_ret
      exact ⟨rfl, rfl⟩

theorem must_any (n k : Nat) (w : World) (hn : n ≤ 9223372036854775807) (hk1 : 1 ≤ k) (hk8 : k ≤ 8) (hr : n < 256 ^ k) :
    Calls Tryd.prog 34 #[.int .i64 n, .int .i64 k] w fun e w' => e = .returned (.string (strOf (fixedOf n k))) ∧ Below w.heap.size w w' := by
  have HF : Hid _ := refFixed_any n k w hn hk1 hk8 hr
  clear hr
  go_enter Tryd.func34, Tryd.ntmps34
  go_wp2_with fail
  refine Calls.mono HF.out ?_
  rintro e w1 ⟨rfl, hb⟩
  go_wp2
  go_ret
  exact ⟨rfl, hb⟩

theorem Ks_info : (Tryd.prog.info? 126).map (·.size) = some (Ks.map word).toArray.size := by kernel_rfl
set_option maxRecDepth 100000 in
theorem consts_any (w : World) :
    Calls Tryd.prog 79 #[] w fun e w' => e = .returned (.agg (Ks.map word).toArray) ∧ Below w.heap.size w w' := by
  go_enter Tryd.func79, Tryd.ntmps79
  go_wp2_with (refine wpList_alloc_any rfl 126 rfl _ zero53 ?_)
  intro w0 hc0 hs0 hb0
  go_wp2_with (first | refine wpList_buildTo rfl 126 _ rfl _ rfl (Ks.map word).toArray (by kernel_rfl) ?_ | refine wpList_store_row rfl 126 _ _ rfl _ _ rfl rfl 126 _ hc0 Ks_info (by kernel_rfl) (by kernel_rfl) ?_)
  refine bodyPost_ret (results_cell_row Tryd.results79 _ _ w.heap.size 126 _ (0, 0) _ rfl (setRow_heap w0 _ _ _ 126 (0, 0) hc0) Tryd.underlying126 rfl Ks_info) rfl ⟨rfl, ?_⟩
  exact below_gb hb0 (gb_setRow w0 _ _) (Nat.le_refl _) (by omega)

end Go.Proofs.YtcidfkkgpehodaaDoor.Zq.Sh

namespace Go.Proofs.YtcidfkkgpehodaaDoor.Zq.Sh
open Go.RowKit Go.Lib

theorem below_same {B : Nat} {w w' w'' : World} (h : Below B w w') (h1 : w''.os = w'.os) (h2 : w''.tape = w'.tape) (h3 : w''.output = w'.output) (h4 : w''.heap = w'.heap) : Below B w w'' :=
  ⟨h1.trans h.os, h2.trans h.tape, h3.trans h.output, by rw [h4]; exact h.size, fun k hk => by rw [h4]; exact h.block k hk⟩

theorem four_at (bl : List UInt8) (i : Nat) (h : i + 3 < bl.length) : (bl.drop i).take 4 = [bl.getD i 0, bl.getD (i + 1) 0, bl.getD (i + 2) 0, bl.getD (i + 3) 0] := by
  rw [List.drop_eq_getElem_cons (by omega), List.drop_eq_getElem_cons (by omega), List.drop_eq_getElem_cons (by omega), List.drop_eq_getElem_cons (by omega)]
  simp only [List.getD_eq_getElem?_getD, List.getElem?_eq_getElem (show i < bl.length by omega), List.getElem?_eq_getElem (show i + 1 < bl.length by omega), List.getElem?_eq_getElem (show i + 2 < bl.length by omega), List.getElem?_eq_getElem (show i + 3 < bl.length by omega)]
  rfl

theorem num_word (s : ByteArray) (j : Nat) (hl : s.data.toList.length = 64) (hj : j < 16) : ((numOf (s.extract (4 * j) (4 * j + 4)).data.toList : Nat) : Int) = W s.data.toList j := by
  rw [W_own _ j hj, ByteArray.data_extract, Array.toList_extract, List.extract_eq_take_drop, show 4 * j + 4 - 4 * j = 4 by omega, four_at _ _ (by omega)]
  simp only [numOf, ownW, List.foldl_cons, List.foldl_nil]
  omega

set_option maxHeartbeats 800000 in
set_option maxRecDepth 100000 in
theorem refWords_any (s : ByteArray) (w : World) (hl : s.data.toList.length = 64) :
    Calls Tryd.prog 78 #[.string s] w fun e w' => e = .returned (.agg (allW s.data.toList).toArray) ∧ Below w.heap.size w w' := by
  have hz : s.size = 64 := by rw [Lib.size_eq]; exact hl
  obtain ⟨bl, hbl⟩ : ∃ bl, bl = s.data.toList := ⟨_, rfl⟩
  have HN : Hid (∀ j, j < 16 → ((numOf (s.extract (4 * j) (4 * j + 4)).data.toList : Nat) : Int) = W bl j) := fun j hj => by rw [hbl]; exact num_word s j hl hj
  rw [← hbl]
  clear hl hbl
  go_enter Tryd.func78, Tryd.ntmps78
  go_wp2_with (refine wpList_alloc_any rfl 126 rfl _ zero53 ?_)
  intro w0 hc0 hs0 hb0
  go_wp2_with (refine wpList_alloc_any rfl 126 rfl _ zero53 ?_)
  intro w1 hc1 hs1 hb1
  have hres : w1.heap[w.heap.size]? = some (.cells zeros64 126 (0, 0)) := (hb1.block _ (by omega)).trans hc0
  have hbel : Below w.heap.size w w1 := hb0.trans (hb1.mono (by omega))
  have hbig : w.heap.size + 2 ≤ w1.heap.size := by omega
  rw [wc0 bl] at hc1
  clear hb0 hb1 hc0 hs0 hs1
  go_wp2
  go_loopw [4] (fun i wr => ∃ j : Nat, j ≤ 16 ∧ i = .int .i64 j ∧ wr.heap[w.heap.size + 1]? = some (.cells (wCells bl j).toArray 126 (0, 0)) ∧ wr.heap[w.heap.size]? = some (.cells zeros64 126 (0, 0)) ∧ Below w.heap.size w wr ∧ w.heap.size + 2 ≤ wr.heap.size)
    (fun i _ => 16 - (RowKit.intOf i).toNat)
  case atStart => exact ⟨0, by omega, rfl, hc1, hres, hbel, hbig⟩
  case round =>
    clear hc1 hres hbel hbig
    obtain ⟨j, hj, rfl, hc, hres, hbel, hbig⟩ := hrel
    by_cases hlt : j < 16
    · have hcz : wr.cell? ⟨w.heap.size + 1, j, none⟩ = some (.int .u32 0) := by
        rw [cell_of_row wr _ j _ _ _ hc]
        simpa using wCells_zero bl j j (Nat.lt_irrefl j) (by omega)
      have hf := frozen_of_row wr _ j _ _ hc
      go_wp2_with fail
      have hx4 : (s.extract (4 * j) (4 * j + 4)).size = 4 := by rw [ByteArray.size_extract]; omega
      have hN := numOf_lt (s.extract (4 * j) (4 * j + 4)).data.toList
      rw [← Lib.size_eq, hx4] at hN
      have R := wc_put (by omega) (HN.out j hlt) hc hres hbel hbig
      refine (num_any _ _ (by omega)).mono ?_
      rintro e w2 ⟨rfl, rfl⟩
      clear hc hres hbel hx4
      have HR : Hid _ := R
      clear R
      generalize numOf (s.extract (4 * j) (4 * j + 4)).data.toList = N at *
      have hN2 : (N : Int) < 4294967296 := by omega
      go_wp2
      go_roundw
      case rel => exact ⟨j + 1, by omega, by go_num, HR.out.1, HR.out.2.1, HR.out.2.2.1, HR.out.2.2.2⟩
      case measure => simp [RowKit.intOf]; omega
    · obtain rfl : j = 16 := by omega
      clear hlt HN
      rw [show (((16 : Nat) : Int)) = (16 : Int) from rfl]
      go_wp2
      go_loopw [5, 6, 7] (fun i _ _ wq => ∃ j : Nat, j ≤ 48 ∧ i = .int .i64 (j + 16 : Nat) ∧ wq.heap[w.heap.size + 1]? = some (.cells (wCells bl (j + 16)).toArray 126 (0, 0)) ∧ wq.heap[w.heap.size]? = some (.cells zeros64 126 (0, 0)) ∧ Below w.heap.size w wq ∧ w.heap.size + 2 ≤ wq.heap.size)
        (fun i _ _ _ => 64 - (RowKit.intOf i).toNat)
      case atStart => exact ⟨0, by omega, rfl, hc, hres, hbel, hbig⟩
      case round =>
        clear hc hres hbel hbig
        obtain ⟨j, hj, rfl, hc, hres, hbel, hbig⟩ := hrel
        by_cases hlt : j < 48
        · have cell : ∀ k, k < j + 16 → wr.cell? ⟨w.heap.size + 1, k, none⟩ = some (.int .u32 (W bl k)) := fun k hk => by
            rw [cell_of_row wr _ k _ _ _ hc]
            simpa using wCells_get bl (j + 16) k hk (by omega)
          have ca := cell j (by omega)
          have cb := cell (j + 9) (by omega)
          have cx := cell (j + 1) (by omega)
          have cy := cell (j + 14) (by omega)
          have hz : wr.cell? ⟨w.heap.size + 1, j + 16, none⟩ = some (.int .u32 0) := by
            rw [cell_of_row wr _ _ _ _ _ hc]
            simpa using wCells_zero bl (j + 16) (j + 16) (Nat.lt_irrefl _) (by omega)
          have hf := frozen_of_row wr _ (j + 16) _ _ hc
          have R := wc_put (by omega) (W_mix bl j hlt).symm hc hres hbel hbig
          have HR : Hid _ := R
          have hw0 : IntKind.i64.wrap (j : Int) = j := wraps_small _ (by omega) (by omega)
          have hw9 : IntKind.i64.wrap ((j : Int) + 16 - 7) = (j : Int) + 9 := (wraps_small _ (by omega) (by omega)).trans (by omega)
          have b0 : (0 : Int) ≤ (j : Int) := by omega
          have b1 : (j : Int) < 64 := by omega
          have b2 : (0 : Int) ≤ (j : Int) + 9 := by omega
          have b3 : (j : Int) + 9 < 64 := by omega
          have b4 : ((j : Int) + 9).toNat = j + 9 := by omega
          have b5 : (0 : Int) ≤ (j : Int) + 16 := by omega
          have b6 : (j : Int) + 16 < 64 := by omega
          have b7 : ((j : Int) + 16).toNat = j + 16 := by omega
          have k1 : ∀ M u, ((wr.drewN M).setCell ⟨w.heap.size + 1, j + 16, none⟩ u).cell? ⟨w.heap.size + 1, j, none⟩ = some (.int .u32 (W bl j)) := fun M u => (cell_ne (wr.drewN M) _ _ _ u (by omega)).trans ca
          have k2 : ∀ M u, ((wr.drewN M).setCell ⟨w.heap.size + 1, j + 16, none⟩ u).cell? ⟨w.heap.size + 1, j + 9, none⟩ = some (.int .u32 (W bl (j + 9))) := fun M u => (cell_ne (wr.drewN M) _ _ _ u (by omega)).trans cb
          generalize W bl j = A at *
          generalize W bl (j + 9) = B at *
          generalize W bl (j + 1) = X at *
          generalize W bl (j + 14) = Y at *
          clear R cell hc hres hbel
          go_wp2
          go_region
          go_wp2
          go_region_held3 (fun w' => w'.cell? ⟨w.heap.size + 1, j, none⟩ = some (.int .u32 A) ∧ w'.cell? ⟨w.heap.size + 1, j + 9, none⟩ = some (.int .u32 B)) (go_keep)
            (first | (go_at_call 80; refine (refTurn_int _ _ (by decide) (by decide) _).mono ?_; rintro e w2 ⟨rfl, m2, rfl⟩))
          go_wp2
          go_roundw
          case rel => exact ⟨j + 1, by omega, by go_num, HR.out.1, HR.out.2.1, below_same HR.out.2.2.1 rfl rfl rfl rfl, HR.out.2.2.2⟩
          case measure => simp [RowKit.intOf]; omega
        · obtain rfl : j = 48 := by omega
          rw [show 48 + 16 = 64 from rfl, wCells_all] at hc
          have hall : (Tryd.prog.info? 126).map (·.size) = some (allW bl).toArray.size := by
            rw [List.size_toArray, allW_length]
            kernel_rfl
          have hone : (allW bl).toArray.all (·.oneCell') = true := by
            rw [← wCells_all]
            exact all_oneCell_toArray (fun v hv => by obtain ⟨_, _, rfl⟩ := List.mem_map.1 hv; rfl)
          have hold : zeros64.size = (allW bl).toArray.size := by
            rw [show zeros64.size = 64 from rfl, List.size_toArray, allW_length]
          go_wp2_with (refine wpList_load_row rfl 126 _ rfl _ rfl 126 _ (0, 0) _ hc Tryd.underlying126 rfl hall ?_; refine wpList_store_row rfl 126 _ _ rfl _ _ rfl rfl 126 _ hres hall hold hone ?_)
          refine bodyPost_ret (results_cell_row Tryd.results78 _ _ w.heap.size 126 _ (0, 0) _ rfl (setRow_heap wr _ _ _ 126 (0, 0) hres) Tryd.underlying126 rfl hall) rfl ⟨rfl, ?_⟩
          exact below_gb hbel (gb_setRow wr _ _) (Nat.le_refl _) (by omega)
end Go.Proofs.YtcidfkkgpehodaaDoor.Zq.Sh

namespace Go.Proofs.YtcidfkkgpehodaaDoor.Zq.Sh
open Go.RowKit Go.Lib

/-- A value laid into a block of its own. -/
theorem wpList_box_any {P : Program} {ops : Array Oper} {rest : List Oper} {o : Oper} {a : Act} {w : World} {Q : Exit → Act → World → Prop} (hgd : o.guard = none) (t : TypeId) (x : Operand) (ho : o.op = .box t x)
    (c : Array Value) (hx : a.eval x = .agg c)
    (h : ∀ w0 : World, w0.heap[w.heap.size]? = some (.cells c t (0, 0)) → w0.heap.size = w.heap.size + 1 → Below w.heap.size w w0 → wpList P ops Q rest (a.put o.dst (.pointer (some ⟨w.heap.size, 0, none⟩))) w0) : wpList P ops Q (o :: rest) a w :=
  wpList_plain hgd fun K hK => by
    unfold Oper.wp execOp
    simp [ho, hx, Instr.box, newVar, newRow, Value.cells]
    exact hK _ _ (h _ (heap_alloc_new w _) (by simp) ((Below.refl _ _).alloc (Nat.le_refl _) _))

def v8Cells (v : V8) : Array Value := (v.list.map word).toArray
theorem v8_info (v : V8) : (Tryd.prog.info? 102).map (·.size) = some (v8Cells v).size := by kernel_rfl
theorem v8_one (v : V8) : (v8Cells v).all (·.oneCell') = true := by kernel_rfl
theorem v8_old (v : V8) : zeros8.size = (v8Cells v).size := rfl

theorem wpList_store_v8 {ops : Array Oper} {rest : List Oper} {o : Oper} {a : Act} {w : World} {Q : Exit → Act → World → Prop} (hgd : o.guard = none) (x y : Operand) (ho : o.op = .store 102 x y)
    (g : Nat) (a0 a1 a2 a3 a4 a5 a6 a7 : Int) (hx : a.eval x = .pointer (some ⟨g, 0, none⟩)) (hy : a.eval y = .agg #[.int .u32 a0, .int .u32 a1, .int .u32 a2, .int .u32 a3, .int .u32 a4, .int .u32 a5, .int .u32 a6, .int .u32 a7])
    (old : V8) (hg : w.heap[g]? = some (.cells (v8Cells old) 102 (0, 0)))
    (h : wpList Tryd.prog ops Q rest (a.put o.dst undef) (w.setRow g (v8Cells ⟨a0, a1, a2, a3, a4, a5, a6, a7⟩))) : wpList Tryd.prog ops Q (o :: rest) a w :=
  wpList_store_row hgd 102 x y ho g (v8Cells ⟨a0, a1, a2, a3, a4, a5, a6, a7⟩) hx hy 102 _ hg (v8_info _) rfl (v8_one _) h

/-- What lies about, while a block is taken in. -/
structure TS (w : World) (v : V8) (bl : List UInt8) (Wb Kb : Nat) (wr : World) : Prop where
  fl : wr.heap[w.heap.size]? = some (.cells (v8Cells v) 102 (0, 0))
  fr : wr.heap[w.heap.size + 1]? = some (.cells zeros8 102 (0, 0))
  fw : wr.heap[Wb]? = some (.cells (allW bl).toArray 126 (0, 0))
  fk : wr.heap[Kb]? = some (.cells (Ks.map word).toArray 126 (0, 0))
  below : Below w.heap.size w wr
theorem TS.same {w : World} {v : V8} {bl : List UInt8} {Wb Kb : Nat} {wr wq : World} (h : TS w v bl Wb Kb wr) (h1 : wq.os = wr.os) (h2 : wq.tape = wr.tape) (h3 : wq.output = wr.output) (h4 : wq.heap = wr.heap) : TS w v bl Wb Kb wq :=
  ⟨by rw [h4]; exact h.fl, by rw [h4]; exact h.fr, by rw [h4]; exact h.fw, by rw [h4]; exact h.fk, below_same h.below h1 h2 h3 h4⟩
theorem TS.setRow {w : World} {v : V8} {bl : List UInt8} {Wb Kb : Nat} {wr : World} (h : TS w v bl Wb Kb wr) (Vb : Nat) (cs : Array Value) (hL : w.heap.size + 1 < Vb) (hW : Wb < Vb) (hK : Kb < Vb) : TS w v bl Wb Kb (wr.setRow Vb cs) :=
  ⟨(setRow_other _ _ _ _ (by omega)).trans h.fl, (setRow_other _ _ _ _ (by omega)).trans h.fr, (setRow_other _ _ _ _ (by omega)).trans h.fw, (setRow_other _ _ _ _ (by omega)).trans h.fk,
   below_gb h.below (gb_setRow _ _ _) (by omega) h.below.size⟩

/-- One word more is added. -/
theorem take_put {w wr : World} {Vb j : Nat} {v x : V8} (hj : j < 8) (hl : wr.heap[w.heap.size]? = some (.cells ((addTo v x j).map word).toArray 102 (0, 0))) (hr : wr.heap[w.heap.size + 1]? = some (.cells zeros8 102 (0, 0))) (hv : wr.heap[Vb]? = some (.cells (v8Cells x) 102 (0, 0))) (hb : Below w.heap.size w wr) (hV : w.heap.size < Vb) :
    (wr.setCell ⟨w.heap.size, j, none⟩ (.int .u32 ((v.list.getD j 0 + x.list.getD j 0) % 4294967296))).heap[w.heap.size]? = some (.cells ((addTo v x (j + 1)).map word).toArray 102 (0, 0)) ∧
    (wr.setCell ⟨w.heap.size, j, none⟩ (.int .u32 ((v.list.getD j 0 + x.list.getD j 0) % 4294967296))).heap[w.heap.size + 1]? = some (.cells zeros8 102 (0, 0)) ∧
    (wr.setCell ⟨w.heap.size, j, none⟩ (.int .u32 ((v.list.getD j 0 + x.list.getD j 0) % 4294967296))).heap[Vb]? = some (.cells (v8Cells x) 102 (0, 0)) ∧
    Below w.heap.size w (wr.setCell ⟨w.heap.size, j, none⟩ (.int .u32 ((v.list.getD j 0 + x.list.getD j 0) % 4294967296))) := by
  refine ⟨?_, (heap_setCell_other _ _ _ _ (by simp)).trans hr, (heap_setCell_other _ _ _ _ (by simp; omega)).trans hv, hb.setCell (Nat.le_refl _) _⟩
  rw [heap_set_list _ hl]
  have e : ((addTo v x j).map word).set j (.int .u32 ((v.list.getD j 0 + x.list.getD j 0) % 4294967296)) = (addTo v x (j + 1)).map word := by
    rw [← addTo_set v x j hj, List.map_set]
    rfl
  rw [e]

set_option maxHeartbeats 1600000 in
set_option maxRecDepth 100000 in
theorem refTake_any (v : V8) (s : ByteArray) (w : World) (hl : s.data.toList.length = 64) :
    Calls Tryd.prog 60 #[.agg (v8Cells v), .string s] w fun e w' => e = .returned (.agg (v8Cells (takeV v s.data.toList))) ∧ Below w.heap.size w w' := by
  obtain ⟨bl, hbl⟩ : ∃ bl, bl = s.data.toList := ⟨_, rfl⟩
  have HW : Hid (∀ w', Calls Tryd.prog 78 #[.string s] w' fun e w'' => e = .returned (.agg (allW bl).toArray) ∧ Below w'.heap.size w' w'') := fun w' => by rw [hbl]; exact refWords_any s w' hl
  rw [← hbl]
  clear hbl hl
  have hall : (Tryd.prog.info? 126).map (·.size) = some (allW bl).toArray.size := by
    rw [List.size_toArray, allW_length]
    kernel_rfl
  have hone : (allW bl).toArray.all (·.oneCell') = true := by
    rw [← wCells_all]
    exact all_oneCell_toArray (fun v hv => by obtain ⟨_, _, rfl⟩ := List.mem_map.1 hv; rfl)
  have hold : zeros64.size = (allW bl).toArray.size := by
    rw [show zeros64.size = 64 from rfl, List.size_toArray, allW_length]
  go_enter Tryd.func60, Tryd.ntmps60
  go_wp2_with (refine wpList_box_any rfl 102 _ rfl _ rfl ?_)
  intro w0 hc0 hs0 hb0
  go_wp2_with (refine wpList_alloc_any rfl 102 rfl _ zero56 ?_)
  intro w1 hc1 hs1 hb1
  go_wp2_with fail
  refine (HW.out _).mono ?_
  rintro e w2 ⟨rfl, hb2⟩
  have z2 := hb2.size
  go_wp2_with (refine wpList_alloc_any rfl 126 rfl _ zero53 ?_)
  intro w3 hc3 hs3 hb3
  go_wp2_with (first | refine wpList_store_row rfl 126 _ _ rfl _ _ rfl rfl 126 _ hc3 hall hold hone ?_ | fail)
  have fl3 : (w3.setRow w2.heap.size (allW bl).toArray).heap[w.heap.size]? = some (.cells (v8Cells v) 102 (0, 0)) :=
    (setRow_other _ _ _ _ (by omega)).trans ((hb3.block _ (by omega)).trans ((hb2.block _ (by omega)).trans ((hb1.block _ (by omega)).trans hc0)))
  have fr3 : (w3.setRow w2.heap.size (allW bl).toArray).heap[w.heap.size + 1]? = some (.cells zeros8 102 (0, 0)) :=
    (setRow_other _ _ _ _ (by omega)).trans ((hb3.block _ (by omega)).trans ((hb2.block _ (by omega)).trans hc1))
  have fw3 : (w3.setRow w2.heap.size (allW bl).toArray).heap[w2.heap.size]? = some (.cells (allW bl).toArray 126 (0, 0)) := setRow_heap w3 _ _ _ 126 (0, 0) hc3
  have bl3 : Below w.heap.size w (w3.setRow w2.heap.size (allW bl).toArray) := below_gb (((hb0.trans (hb1.mono (by omega))).trans (hb2.mono (by omega))).trans (hb3.mono (by omega))) (gb_setRow _ _ _) (by omega) (by omega)
  have sz3 : (w3.setRow w2.heap.size (allW bl).toArray).heap.size = w2.heap.size + 1 := by rw [setRow_size]; exact hs3
  generalize w3.setRow w2.heap.size (allW bl).toArray = x3 at *
  have hWb : w.heap.size + 2 ≤ w2.heap.size := by omega
  generalize w2.heap.size = Wb at *
  clear hc0 hc1 hc3 hb0 hb1 hb2 hb3 hs0 hs1 hs3 z2 hall hone hold HW
  refine (consts_any x3).mono ?_
  rintro e w4 ⟨rfl, hb4⟩
  have z4 := hb4.size
  go_wp2_with (refine wpList_alloc_any rfl 126 rfl _ zero53 ?_)
  intro w5 hc5 hs5 hb5
  have hT5 : TS w v bl Wb w4.heap.size (w5.setRow w4.heap.size (Ks.map word).toArray) :=
    ⟨(setRow_other _ _ _ _ (by omega)).trans ((hb5.block _ (by omega)).trans ((hb4.block _ (by omega)).trans fl3)),
     (setRow_other _ _ _ _ (by omega)).trans ((hb5.block _ (by omega)).trans ((hb4.block _ (by omega)).trans fr3)),
     (setRow_other _ _ _ _ (by omega)).trans ((hb5.block _ (by omega)).trans ((hb4.block _ (by omega)).trans fw3)),
     setRow_heap w5 _ _ _ 126 (0, 0) hc5,
     below_gb ((bl3.trans (hb4.mono (by omega))).trans (hb5.mono (by omega))) (gb_setRow _ _ _) (by omega) (by omega)⟩
  have sz5 : (w5.setRow w4.heap.size (Ks.map word).toArray).heap.size = w4.heap.size + 1 := by rw [setRow_size]; exact hs5
  go_wp2_with (first | refine wpList_store_row rfl 126 _ _ rfl _ _ rfl rfl 126 _ hc5 Ks_info (by kernel_rfl) (by kernel_rfl) ?_ | refine wpList_load_row rfl 102 _ rfl _ rfl 102 _ (0, 0) _ hT5.fl Tryd.underlying102 rfl (v8_info v) ?_ | refine wpList_alloc_any rfl 102 rfl _ zero56 ?_)
  intro w6 hc6 hs6 hb6
  generalize w5.setRow w4.heap.size (Ks.map word).toArray = x5 at *
  have hKb : Wb + 1 ≤ w4.heap.size := by omega
  generalize w4.heap.size = Kb at *
  have hT6 : TS w v bl Wb Kb (w6.setRow (Kb + 1) (v8Cells v)) :=
    ⟨(setRow_other _ _ _ _ (by omega)).trans ((hb6.block _ (by omega)).trans hT5.fl),
     (setRow_other _ _ _ _ (by omega)).trans ((hb6.block _ (by omega)).trans hT5.fr),
     (setRow_other _ _ _ _ (by omega)).trans ((hb6.block _ (by omega)).trans hT5.fw),
     (setRow_other _ _ _ _ (by omega)).trans ((hb6.block _ (by omega)).trans hT5.fk),
     below_gb (hT5.below.trans (hb6.mono (by omega))) (gb_setRow _ _ _) (by omega) (by omega)⟩
  have fv6 : (w6.setRow (Kb + 1) (v8Cells v)).heap[Kb + 1]? = some (.cells (v8Cells v) 102 (0, 0)) := setRow_heap w6 _ _ _ 102 (0, 0) hc6
  go_wp2_with (refine wpList_store_row rfl 102 _ _ rfl _ _ rfl rfl 102 _ hc6 (v8_info v) (v8_old v) (v8_one v) ?_)
  generalize w6.setRow (Kb + 1) (v8Cells v) = x6 at *
  obtain ⟨Vb, hVb⟩ : ∃ Vb, Vb = Kb + 1 := ⟨_, rfl⟩
  rw [← hVb] at fv6 ⊢
  have hV1 : w.heap.size + 1 < Vb := by omega
  have hV2 : Wb < Vb := by omega
  have hV3 : Kb < Vb := by omega
  clear hc6 hs6 hb6 hT5 sz5 hKb hc5 hs5 hb5 hb4 z4 fl3 fr3 fw3 bl3 sz3 hWb hVb
  go_loopw [8, 9, 10, 11, 12, 13, 14, 15, 16] (fun i _ _ _ _ _ _ _ _ wr => ∃ (j : Nat) (x : V8), j ≤ 64 ∧ i = .int .i64 j ∧ x = rounds (W bl) j v ∧ TS w v bl Wb Kb wr ∧ wr.heap[Vb]? = some (.cells (v8Cells x) 102 (0, 0)))
    (fun i _ _ _ _ _ _ _ _ _ => 64 - (RowKit.intOf i).toNat)
  case atStart => exact ⟨0, v, by omega, rfl, rfl, hT6, fv6⟩
  case round =>
    clear hT6 fv6
    obtain ⟨j, x, hj, rfl, hx, hT, hv⟩ := hrel
    by_cases hlt : j < 64
    · have ck : wr.cell? ⟨Kb, j, none⟩ = some (.int .u32 (K j)) := by
        rw [cell_of_row _ _ j _ _ _ hT.fk]
        have hl : j < Ks.length := hlt
        simp [K, word, List.getElem?_eq_getElem hl]
      have cw : wr.cell? ⟨Wb, j, none⟩ = some (.int .u32 (W bl j)) := by
        rw [cell_of_row _ _ j _ _ _ hT.fw]
        simpa using allW_get bl j hlt
      have p0 : wr.cell? ⟨Vb, 0, none⟩ = some (.int .u32 x.a) := by rw [cell_of_row _ _ _ _ _ _ hv]; rfl
      have p1 : wr.cell? ⟨Vb, 1, none⟩ = some (.int .u32 x.b) := by rw [cell_of_row _ _ _ _ _ _ hv]; rfl
      have p2 : wr.cell? ⟨Vb, 2, none⟩ = some (.int .u32 x.c) := by rw [cell_of_row _ _ _ _ _ _ hv]; rfl
      have p3 : wr.cell? ⟨Vb, 3, none⟩ = some (.int .u32 x.d) := by rw [cell_of_row _ _ _ _ _ _ hv]; rfl
      have p4 : wr.cell? ⟨Vb, 4, none⟩ = some (.int .u32 x.e) := by rw [cell_of_row _ _ _ _ _ _ hv]; rfl
      have p5 : wr.cell? ⟨Vb, 5, none⟩ = some (.int .u32 x.f) := by rw [cell_of_row _ _ _ _ _ _ hv]; rfl
      have p6 : wr.cell? ⟨Vb, 6, none⟩ = some (.int .u32 x.g) := by rw [cell_of_row _ _ _ _ _ _ hv]; rfl
      have p7 : wr.cell? ⟨Vb, 7, none⟩ = some (.int .u32 x.h) := by rw [cell_of_row _ _ _ _ _ _ hv]; rfl
      have HX : Hid (stepV (K j) (W bl j) x = rounds (W bl) (j + 1) v) := by rw [hx]; rfl
      clear hx
      generalize K j = k at *
      generalize W bl j = y at *
      have b0 : (0 : Int) ≤ (j : Int) := by omega
      have b1 : (j : Int) < 64 := by omega
      go_wp2
      go_quiet (fail)
      have ck1 : (wr.drewN nq).cell? ⟨Kb, j, none⟩ = some (.int .u32 k) := ck
      have cw1 : (wr.drewN nq).cell? ⟨Wb, j, none⟩ = some (.int .u32 y) := cw
      have q3 : (wr.drewN nq).cell? ⟨Vb, 3, none⟩ = some (.int .u32 x.d) := p3
      have q7 : (wr.drewN nq).cell? ⟨Vb, 7, none⟩ = some (.int .u32 x.h) := p7
      have hv1 : (wr.drewN nq).heap[Vb]? = some (.cells (v8Cells x) 102 (0, 0)) := hv
      have hT1 : TS w v bl Wb Kb (wr.drewN nq) := hT.same rfl rfl rfl rfl
      clear ck cw p0 p1 p2 p3 p4 p5 p6 p7 hv hT
      generalize wr.drewN nq = w1 at *
      go_wp2
      go_quiet (first | (go_at_call 80; exact Calls.quiet_of (refTurn_int _ _ (by decide) (by decide) _)))
      have q31 : (w1.drewN nq).cell? ⟨Vb, 3, none⟩ = some (.int .u32 x.d) := q3
      have hv2 : (w1.drewN nq).heap[Vb]? = some (.cells (v8Cells x) 102 (0, 0)) := hv1
      have hT2 : TS w v bl Wb Kb (w1.drewN nq) := hT1.same rfl rfl rfl rfl
      clear ck1 cw1 q3 q7 hv1 hT1
      generalize w1.drewN nq = w2' at *
      go_wp2_with (first | (go_at_call 80; refine (refTurn_int _ _ (by decide) (by decide) _).mono ?_; rintro e w4 ⟨rfl, m4, rfl⟩) | refine wpList_store_v8 rfl _ _ rfl Vb _ _ _ _ _ _ _ _ rfl rfl x (by exact hv2) ?_)
      go_roundw
      case rel =>
        refine ⟨j + 1, _, by omega, by go_num, ?_, ((hT2.setRow Vb _ hV1 hV2 hV3).same rfl rfl rfl rfl), setRow_heap _ _ _ _ 102 (0, 0) (by exact hv2)⟩
        rw [← HX.out]
        simp only [stepV, tOf, uOf, Int.emod_add_emod, Int.add_emod_emod]
      case measure => simp [RowKit.intOf]; omega
    · obtain rfl : j = 64 := by omega
      rw [show (((64 : Nat) : Int)) = (64 : Int) from rfl]
      have HX : Hid (x = rounds (W bl) 64 v) := hx
      have hl0 : wr.heap[w.heap.size]? = some (.cells ((addTo v x 0).map word).toArray 102 (0, 0)) := hT.fl
      have hr0 := hT.fr
      have hb0 := hT.below
      clear hx hT
      go_wp2
      go_loopw [17] (fun i wq => ∃ j : Nat, j ≤ 8 ∧ i = .int .i64 j ∧ wq.heap[w.heap.size]? = some (.cells ((addTo v x j).map word).toArray 102 (0, 0)) ∧ wq.heap[w.heap.size + 1]? = some (.cells zeros8 102 (0, 0)) ∧ wq.heap[Vb]? = some (.cells (v8Cells x) 102 (0, 0)) ∧ Below w.heap.size w wq)
        (fun i _ => 8 - (RowKit.intOf i).toNat)
      case atStart => exact ⟨0, by omega, rfl, hl0, hr0, hv, hb0⟩
      case round =>
        clear hl0 hr0 hv hb0
        obtain ⟨j, hj, rfl, hl1, hr1, hv1, hb1⟩ := hrel
        by_cases hlt : j < 8
        · have ch : wr.cell? ⟨w.heap.size, j, none⟩ = some (.int .u32 (v.list.getD j 0)) := by
            rw [cell_of_row _ _ j _ _ _ hl1]
            simp only [List.getElem?_toArray, List.getElem?_map, addTo_get v x j hlt]
            rfl
          have cx : wr.cell? ⟨Vb, j, none⟩ = some (.int .u32 (x.list.getD j 0)) := by
            rw [cell_of_row _ _ j _ _ _ hv1]
            simp only [v8Cells, List.getElem?_toArray, List.getElem?_map, List.getD_eq_getElem?_getD, List.getElem?_eq_getElem (show j < x.list.length from hlt)]
            rfl
          have hf := frozen_of_row wr _ j _ _ hl1
          have b0 : (0 : Int) ≤ (j : Int) := by omega
          have b1 : (j : Int) < 8 := by omega
          have R : Hid _ := take_put (w := w) hlt hl1 hr1 hv1 hb1 (by omega)
          clear hl1 hr1 hv1 hb1
          generalize v.list.getD j 0 = p at *
          generalize x.list.getD j 0 = q at *
          go_wp2
          go_region
          go_wp2
          go_roundw
          case rel => exact ⟨j + 1, by omega, by go_num, R.out.1, R.out.2.1, R.out.2.2.1, R.out.2.2.2.drew⟩
          case measure => simp [RowKit.intOf]; omega
        · obtain rfl : j = 8 := by omega
          have hl8 : wr.heap[w.heap.size]? = some (.cells (v8Cells (addV v x)) 102 (0, 0)) := hl1
          go_wp2_with (first | refine wpList_load_row rfl 102 _ rfl _ rfl 102 _ (0, 0) _ hl8 Tryd.underlying102 rfl (v8_info _) ?_ | refine wpList_store_row rfl 102 _ _ rfl _ _ rfl rfl 102 _ hr1 (v8_info _) (v8_old _) (v8_one _) ?_)
          refine bodyPost_ret (results_cell_row Tryd.results60 _ _ (w.heap.size + 1) 102 _ (0, 0) _ rfl (setRow_heap wr _ _ _ 102 (0, 0) hr1) Tryd.underlying102 rfl (v8_info _)) rfl ⟨?_, ?_⟩
          · rw [takeV, HX.out]
          · exact below_gb hb1 (gb_setRow wr _ _) (by omega) hb1.size

end Go.Proofs.YtcidfkkgpehodaaDoor.Zq.Sh

namespace Go.Proofs.YtcidfkkgpehodaaDoor.Zq.Sh
open Go.RowKit Go.Lib

theorem strOf_append (a b : List UInt8) : strOf a ++ strOf b = strOf (a ++ b) := by
  simp [strOf, ByteArray.ext_iff]
theorem strOf_self' (s : ByteArray) : strOf s.data.toList = s := by simp [strOf]

theorem must_int (N k' : Int) (n k : Nat) (w : World) (hN : N = (n : Int)) (hk : k' = (k : Int)) (hn : n ≤ 9223372036854775807) (hk1 : 1 ≤ k) (hk8 : k ≤ 8) (hr : n < 256 ^ k) :
    Calls Tryd.prog 34 #[.int .i64 N, .int .i64 k'] w fun e w' => e = .returned (.string (strOf (fixedOf n k))) ∧ Below w.heap.size w w' := by
  subst hN hk
  exact must_any n k w hn hk1 hk8 hr

theorem digestV_lt (s : List UInt8) (j : Nat) (h : j < 8) : (digestV s).list.getD j 0 < 4294967296 := by
  have : ∃ v bl, digestV s = takeV v bl := by
    by_cases h : s.length % 64 ≤ 55
    · exact ⟨_, _, digest_low s h⟩
    · exact ⟨_, _, digest_high s h⟩
  obtain ⟨v, bl, e⟩ := this
  rw [e, takeV, addV]
  match j, h with
  | 0, _ | 1, _ | 2, _ | 3, _ | 4, _ | 5, _ | 6, _ | 7, _ => exact Int.emod_lt_of_pos _ (by decide)

theorem padded_length (l : List UInt8) : (padded l).length % 64 = 0 ∧ l.length ≤ (padded l).length ∧ (padded l).length ≤ l.length + 128 := by
  rw [padded, pad, List.length_append, List.length_cons, List.length_append, List.length_replicate, fixedOf_length]
  omega

theorem v8_lit (y : V8) : v8Cells y = #[.int .u32 y.a, .int .u32 y.b, .int .u32 y.c, .int .u32 y.d, .int .u32 y.e, .int .u32 y.f, .int .u32 y.g, .int .u32 y.h] := rfl
theorem v8_cell {w : World} {b : Nat} {x : V8} (h : w.heap[b]? = some (.cells (v8Cells x) 102 (0, 0))) (j : Nat) (hj : j < 8) : w.cell? ⟨b, j, none⟩ = some (.int .u32 (x.list.getD j 0)) := by
  rw [cell_of_row _ _ j _ _ _ h]
  simp only [v8Cells, List.getElem?_toArray, List.getElem?_map, List.getD_eq_getElem?_getD, List.getElem?_eq_getElem (show j < x.list.length from hj)]
  rfl

theorem v8_put {w9 : World} {b : Nat} {x : V8} (y : V8) (h : w9.heap[b]? = some (.cells (v8Cells x) 102 (0, 0))) :
    ((((((((w9.setCell ⟨b, 0, none⟩ (.int .u32 y.a)).setCell ⟨b, 1, none⟩ (.int .u32 y.b)).setCell ⟨b, 2, none⟩ (.int .u32 y.c)).setCell ⟨b, 3, none⟩ (.int .u32 y.d)).setCell ⟨b, 4, none⟩ (.int .u32 y.e)).setCell ⟨b, 5, none⟩ (.int .u32 y.f)).setCell ⟨b, 6, none⟩ (.int .u32 y.g)).setCell ⟨b, 7, none⟩ (.int .u32 y.h)).heap[b]? = some (.cells (v8Cells y) 102 (0, 0)) ∧ w9.grownBy ((((((((w9.setCell ⟨b, 0, none⟩ (.int .u32 y.a)).setCell ⟨b, 1, none⟩ (.int .u32 y.b)).setCell ⟨b, 2, none⟩ (.int .u32 y.c)).setCell ⟨b, 3, none⟩ (.int .u32 y.d)).setCell ⟨b, 4, none⟩ (.int .u32 y.e)).setCell ⟨b, 5, none⟩ (.int .u32 y.f)).setCell ⟨b, 6, none⟩ (.int .u32 y.g)).setCell ⟨b, 7, none⟩ (.int .u32 y.h)) (some b) := by
  refine ⟨?_, gb_setCells w9 b 0 (y.list.map word)⟩
  have := heap_setCells_list (y.list.map word) w9 0 (x.list.map word) h
  exact this

set_option maxHeartbeats 1600000 in
set_option maxRecDepth 100000 in
theorem refDigest_any (l : List UInt8) (w : World) (hl : l.length ≤ 200000000000000) :
    Calls Tryd.prog 38 #[.string (strOf l)] w fun e w' => e = .returned (.string (strOf (digest l))) ∧ Below w.heap.size w w' := by
  have hz : (strOf l).size = l.length := strOf_size l
  go_enter Tryd.func38, Tryd.ntmps38
  go_wp2
  rw [show strOf l ++ { data := #[128] } = strOf (l ++ 128 :: List.replicate 0 0) from strOf_append l [128]]
  go_loopw [0] (fun x wr => ∃ k : Nat, k ≤ (119 - l.length % 64) % 64 ∧ x = .string (strOf (l ++ 128 :: List.replicate k 0)) ∧ wr = w)
    (fun x _ => (l.length + 65) - strSize x)
  case atStart => exact ⟨0, Nat.zero_le _, rfl, rfl⟩
  case round =>
    obtain ⟨k, hk, rfl, rfl⟩ := hrel
    have hs : (strOf (l ++ 128 :: List.replicate k 0)).size = l.length + 1 + k := by rw [strOf_size, List.length_append, List.length_cons, List.length_replicate]; omega
    have hs2 : (strOf (l ++ 128 :: List.replicate (k + 1) 0)).size = l.length + 1 + (k + 1) := by rw [strOf_size, List.length_append, List.length_cons, List.length_replicate]; omega
    have happ : strOf (l ++ 128 :: List.replicate k 0) ++ { data := #[0] } = strOf (l ++ 128 :: List.replicate (k + 1) 0) := by
      rw [show ({ data := #[0] } : ByteArray) = strOf [0] from rfl, strOf_append, List.append_assoc, List.cons_append, ← List.replicate_succ']
    by_cases hne : (l.length + 1 + k) % 64 = 56
    · have hk0 : k = (119 - l.length % 64) % 64 := by omega
      have hq : ((((l.length + 1 + k : Nat) : Int) % 64) != 56) = false := by simp; omega
      have hpad : strOf (l ++ 128 :: List.replicate k 0) ++ strOf (fixedOf (8 * l.length) 8) = strOf (padded l) := by
        rw [strOf_append, hk0, padded, pad]
        simp
      have HP : Hid _ := hpad
      clear hk0 happ hs2 hpad
      generalize strOf (l ++ 128 :: List.replicate k 0) = u at *
      go_wp2_with fail
      refine (must_int _ _ (8 * l.length) 8 wr (by omega) rfl (by omega) (by decide) (by decide) (Nat.lt_of_le_of_lt (show 8 * l.length ≤ 1600000000000000 by omega) (by decide))).mono ?_
      rintro e w1 ⟨rfl, hb1⟩
      have hpp := padded_length l
      have hps : (strOf (padded l)).size = (padded l).length := strOf_size _
      obtain ⟨Q, hQ⟩ : ∃ Q, (padded l).length = 64 * Q := ⟨(padded l).length / 64, by omega⟩
      have hF : (strOf (fixedOf (8 * l.length) 8)).size = 8 := by rw [strOf_size, fixedOf_length]
      have hP := HP.out
      have HPL : Hid _ := strOf_toList (padded l)
      generalize strOf (fixedOf (8 * l.length) 8) = F at *
      generalize strOf (padded l) = P at *
      go_wp2_with (first | refine wpList_buildTo rfl 102 _ rfl _ rfl (v8Cells first) (by kernel_rfl) ?_ | refine wpList_alloc_any rfl 102 rfl _ zero56 ?_)
      intro w2 hc2 hs2 hb2
      have hz1 := hb1.size
      have fl : (w2.setRow w1.heap.size (v8Cells first)).heap[w1.heap.size]? = some (.cells (v8Cells first) 102 (0, 0)) := setRow_heap w2 _ _ _ 102 (0, 0) hc2
      have bel : Below wr.heap.size wr (w2.setRow w1.heap.size (v8Cells first)) := below_gb (hb1.trans (hb2.mono hz1)) (gb_setRow _ _ _) hz1 (by omega)
      go_wp2_with (refine wpList_store_row rfl 102 _ _ rfl _ _ rfl rfl 102 _ hc2 (v8_info first) (v8_old first) (v8_one first) ?_)
      generalize w2.setRow w1.heap.size (v8Cells first) = x2 at *
      generalize w1.heap.size = Lb at *
      clear hc2 hs2 hb2 hb1 hs hF hP HP hne hq hk hz
      have hPs : P.size = 64 * Q := by rw [hps, hQ]
      have HB : Hid (∀ q, q < Q → (P.extract (64 * q) (64 * q + 64)).data.toList = block (padded l) q ∧ (P.extract (64 * q) (64 * q + 64)).data.toList.length = 64) := fun q hq => by
        have e : (P.extract (64 * q) (64 * q + 64)).data.toList = block (padded l) q := by
          rw [ByteArray.data_extract, Array.toList_extract, List.extract_eq_take_drop, HPL.out, show 64 * q + 64 - 64 * q = 64 by omega]
          rfl
        refine ⟨e, ?_⟩
        rw [e, block, List.length_take, List.length_drop, hQ]
        omega
      have hQ2 : Q ≤ 4000000000000 := by omega
      have HV : Hid (blocks (padded l) Q = digestV l) := by
        show blocks (padded l) Q = digestV l
        rw [digestV, hQ, Nat.mul_div_cancel_left _ (by decide)]
      clear hps hQ hpp HPL
      go_loopw [5] (fun i wq => ∃ q : Nat, q ≤ Q ∧ i = .int .i64 (64 * q : Nat) ∧ wq.heap[Lb]? = some (.cells (v8Cells (blocks (padded l) q)) 102 (0, 0)) ∧ Below wr.heap.size wr wq)
        (fun i _ => 64 * Q - (RowKit.intOf i).toNat)
      case atStart => exact ⟨0, Nat.zero_le _, rfl, fl, bel⟩
      case round =>
        clear fl bel
        obtain ⟨q, hq, rfl, fl, bel⟩ := hrel
        by_cases hlt : q < Q
        · obtain ⟨e1, e2⟩ := HB.out q hlt
          have E1 : Hid _ := e1
          have E2 : Hid _ := e2
          have hLb := lt_of_block fl
          obtain ⟨y, hy⟩ : ∃ y, y = takeV (blocks (padded l) q) (block (padded l) q) := ⟨_, rfl⟩
          have HX : Hid (y = blocks (padded l) (q + 1)) := hy
          have HY : Hid _ := hy
          clear hy
          clear e1 e2
          generalize blocks (padded l) q = x at *
          have p0 : wr.cell? ⟨Lb, 0, none⟩ = some (.int .u32 x.a) := v8_cell fl 0 (by decide)
          have p1 : wr.cell? ⟨Lb, 1, none⟩ = some (.int .u32 x.b) := v8_cell fl 1 (by decide)
          have p2 : wr.cell? ⟨Lb, 2, none⟩ = some (.int .u32 x.c) := v8_cell fl 2 (by decide)
          have p3 : wr.cell? ⟨Lb, 3, none⟩ = some (.int .u32 x.d) := v8_cell fl 3 (by decide)
          have p4 : wr.cell? ⟨Lb, 4, none⟩ = some (.int .u32 x.e) := v8_cell fl 4 (by decide)
          have p5 : wr.cell? ⟨Lb, 5, none⟩ = some (.int .u32 x.f) := v8_cell fl 5 (by decide)
          have p6 : wr.cell? ⟨Lb, 6, none⟩ = some (.int .u32 x.g) := v8_cell fl 6 (by decide)
          have p7 : wr.cell? ⟨Lb, 7, none⟩ = some (.int .u32 x.h) := v8_cell fl 7 (by decide)
          have b0 : (0 : Int) ≤ 64 * (q : Int) := by omega
          have b1 : (0 : Int) ≤ 64 * (q : Int) + 64 := by omega
          have b2 : 64 * (q : Int) ≤ 64 * (q : Int) + 64 := by omega
          have b3 : 64 * (q : Int) + 64 ≤ 64 * (Q : Int) := by omega
          have b4 : (64 * (q : Int)).toNat = 64 * q := by omega
          have b5 : (64 * (q : Int) + 64).toNat = 64 * q + 64 := by omega
          have b6 : IntKind.i64.wrap (64 * (q : Int) + 64) = 64 * (q : Int) + 64 := by rw [IntKind.wrap_i64]; omega
          go_wp2
          go_region_with (first
            | (go_at_call 60; refine (refTake_any x _ _ E2.out).mono ?_; rw [E1.out, ← HY.out, v8_lit]; rintro e w9 ⟨rfl, hb9⟩; have fl9 := (hb9.block Lb hLb).trans fl; have c0 := v8_cell fl9 0 (by decide); have g0 := frozen_of_row w9 Lb 0 _ _ fl9; have c1 := v8_cell fl9 1 (by decide); have g1 := frozen_of_row w9 Lb 1 _ _ fl9; have c2 := v8_cell fl9 2 (by decide); have g2 := frozen_of_row w9 Lb 2 _ _ fl9; have c3 := v8_cell fl9 3 (by decide); have g3 := frozen_of_row w9 Lb 3 _ _ fl9; have c4 := v8_cell fl9 4 (by decide); have g4 := frozen_of_row w9 Lb 4 _ _ fl9; have c5 := v8_cell fl9 5 (by decide); have g5 := frozen_of_row w9 Lb 5 _ _ fl9; have c6 := v8_cell fl9 6 (by decide); have g6 := frozen_of_row w9 Lb 6 _ _ fl9; have c7 := v8_cell fl9 7 (by decide); have g7 := frozen_of_row w9 Lb 7 _ _ fl9; simp only [V8.list, List.getD_cons_zero, List.getD_cons_succ] at c0 c1 c2 c3 c4 c5 c6 c7))
          all_goals
            have bel9 := bel.drew.trans (hb9.mono bel.size)
            have RF := v8_put y fl9
            have RB := below_gb bel9 RF.2 hz1 bel9.size
            have RF1 := RF.1
            clear RF
            rw [show v8Cells y = v8Cells (blocks (padded l) (q + 1)) by rw [HX.out]] at RF1
            clear fl9 hb9 bel9 c0 g0 p0 c1 g1 p1 c2 g2 p2 c3 g3 p3 c4 g4 p4 c5 g5 p5 c6 g6 p6 c7 g7 p7
            go_wp2
            go_roundw
            case rel => exact ⟨q + 1, by omega, by go_num, RF1, RB⟩
            case measure => simp [RowKit.intOf]; omega
        · obtain rfl : q = Q := by omega
          rw [HV.out] at fl
          rw [show ((64 * q : Nat) : Int) = 64 * (q : Int) by omega]
          have hN := digestV_nonneg l
          have hM := digestV_lt l
          have hD := digest_eq l
          have HN : Hid _ := hN
          have HM : Hid _ := hM
          clear hN hM HB hlt hq HV
          obtain ⟨V, hV⟩ : ∃ V, V = digestV l := ⟨_, rfl⟩
          rw [← hV] at fl HN HM hD
          clear hV
          go_wp2
          go_loopw [6, 7] (fun o i wq => ∃ j : Nat, j ≤ 8 ∧ i = .int .i64 j ∧ o = .string (strOf (sumPre V j)) ∧ wq.heap[Lb]? = some (.cells (v8Cells V) 102 (0, 0)) ∧ Below _ _ wq)
            (fun _ i _ => 8 - (RowKit.intOf i).toNat)
          case atStart => exact ⟨0, by omega, rfl, rfl, fl, bel⟩
          case round =>
            clear fl bel
            obtain ⟨j, hj, rfl, rfl, fl, bel⟩ := hrel
            by_cases hlt : j < 8
            · have cj := v8_cell fl j hlt
              have hx0 := HN.out j hlt
              have hx1 := HM.out j hlt
              have HSp : Hid _ := sumPre_succ V j hlt
              have hsp : (strOf (sumPre V j)).size ≤ 32 := by rw [strOf_size, sumPre_length V j hj]; omega
              have hw4 : (strOf (wordBytes (V.list.getD j 0))).size = 4 := by rw [strOf_size, wordBytes_length]
              have happ : strOf (sumPre V j) ++ strOf (wordBytes (V.list.getD j 0)) = strOf (sumPre V (j + 1)) := by rw [strOf_append, ← HSp.out]
              have b0 : (0 : Int) ≤ (j : Int) := by omega
              have b1 : (j : Int) < 8 := by omega
              generalize strOf (sumPre V j) = S at *
              generalize V.list.getD j 0 = x at *
              go_wp2_with fail
              refine (must_int _ _ x.toNat 4 _ (by omega) rfl (by omega) (by decide) (by decide) (Nat.lt_of_lt_of_le (show x.toNat < 4294967296 by omega) (by decide))).mono ?_
              rintro e w9 ⟨rfl, hb9⟩
              have hL9 := (hb9.block Lb (lt_of_block fl)).trans fl
              have bel9 := bel.trans (hb9.mono bel.size)
              rw [show strOf (fixedOf x.toNat 4) = strOf (wordBytes x) from rfl]
              generalize strOf (wordBytes x) = X at *
              go_wp2
              exact ⟨⟨j + 1, by omega, by go_num, rfl, hL9, bel9⟩, by simp [RowKit.intOf]; omega⟩
            · obtain rfl : j = 8 := by omega
              rw [hD]
              go_wp2
              go_ret
              exact ⟨rfl, bel⟩
    · have hq : ((((l.length + 1 + k : Nat) : Int) % 64) != 56) = true := by simp; omega
      generalize strOf (l ++ 128 :: List.replicate k 0) = u at *
      go_wp2
      exact ⟨⟨k + 1, by omega, rfl, trivial⟩, by simp only [strSize, hs, hs2]; omega⟩

end Go.Proofs.YtcidfkkgpehodaaDoor.Zq.Sh


namespace Go.Proofs.YtcidfkkgpehodaaDoor
open Go.WideShapes

/-- An object: name and data. -/
structure OB where
  n : ByteArray
  d : ByteArray
def bl (x y : ByteArray) : Bool := bytesBefore x.data.toList y.data.toList
theorem less_before : ∀ x y : List UInt8, Op.bytesLess x y = bytesBefore x y
  | [], [] => rfl
  | [], _ :: _ => rfl
  | _ :: _, [] => rfl
  | a :: x, b :: y => by rw [Op.bytesLess, bytesBefore, less_before x y]
theorem bl_irrefl (x : ByteArray) : bl x x = false := WideAt.bytes_irrefl _
theorem bl_trans {x y z : ByteArray} (h : bl x y = true) (h' : bl y z = true) : bl x z = true := bytes_trans _ _ _ h h'
theorem list_ne {x y : ByteArray} (h : x ≠ y) : x.data.toList ≠ y.data.toList := fun e => h (ByteArray.ext (Array.toList_inj.1 e))
theorem bl_total {x y : ByteArray} (h : x ≠ y) : bl x y = true ∨ bl y x = true := WideAt.bytes_total _ _ (list_ne h)
theorem bl_asymm {x y : ByteArray} (h : bl x y = true) : bl y x = false := by
  cases e : bl y x
  · rfl
  · exact absurd (bl_trans h e) (by rw [bl_irrefl]; decide)
theorem bl_ne {x y : ByteArray} (h : bl x y = true) : x ≠ y := fun e => by subst e; rw [bl_irrefl] at h; cases h
theorem bl_not {x y : ByteArray} (h : bl x y = false) (h' : bl y x = false) : x = y := Classical.byContradiction fun e => by
  rcases bl_total e with h1 | h1
  · rw [h1] at h; cases h
  · rw [h1] at h'; cases h'

/-- Names rise. -/
def Ris (L : List OB) : Prop := L.Pairwise (fun p q => bl p.n q.n = true)
/-- The data under a name. -/
def thr : List OB → ByteArray → Option ByteArray
  | [], _ => none
  | p :: r, n => if p.n = n then some p.d else thr r n
/-- An object is laid. -/
def layL : List OB → ByteArray → ByteArray → List OB
  | [], n, d => [⟨n, d⟩]
  | p :: r, n, d => if bl p.n n = true then p :: layL r n d else if p.n = n then ⟨n, d⟩ :: r else ⟨n, d⟩ :: p :: r
/-- An object goes. -/
def delL : List OB → ByteArray → List OB
  | [], _ => []
  | p :: r, n => if p.n = n then r else p :: delL r n
/-- How many names stand ahead. -/
def pos : List OB → ByteArray → Nat
  | [], _ => 0
  | p :: r, n => if bl p.n n = true then pos r n + 1 else 0
/-- What is used. -/
def usedL : List OB → Nat
  | [] => 0
  | p :: r => p.n.size + p.d.size + usedL r
/-- Begins a name so? -/
def begins (b n : ByteArray) : Bool := decide (b.size ≤ n.size) && decide (n.extract 0 b.size = b)
def namesL (L : List OB) (b : ByteArray) : List ByteArray := (L.filter (fun p => begins b p.n)).map (·.n)

theorem thr_none {L : List OB} {n : ByteArray} : thr L n = none ↔ ∀ p ∈ L, p.n ≠ n := by
  induction L with
  | nil => simp [thr]
  | cons p r ih =>
    by_cases e : p.n = n
    · simp [thr, e]
    · simp [thr, e, ih]
theorem ris_tail {p : OB} {L : List OB} (h : Ris (p :: L)) : Ris L := (List.pairwise_cons.1 h).2
theorem ris_head {p : OB} {L : List OB} (h : Ris (p :: L)) : ∀ q ∈ L, bl p.n q.n = true := (List.pairwise_cons.1 h).1
theorem thr_ahead {p : OB} {L : List OB} {n : ByteArray} (h : Ris (p :: L)) (hn : bl n p.n = true ∨ n = p.n) : thr L n = none := by
  rw [thr_none]
  intro q hq e
  have h1 := ris_head h q hq
  rw [e] at h1
  rcases hn with h2 | h2
  · exact absurd (bl_trans h1 h2) (by rw [bl_irrefl]; decide)
  · rw [h2, bl_irrefl] at h1; cases h1
theorem mem_lay {L : List OB} {n d : ByteArray} : ∀ {q : OB}, q ∈ layL L n d → q = ⟨n, d⟩ ∨ q ∈ L := by
  induction L with
  | nil => intro q h; simp [layL] at h; exact .inl h
  | cons p r ih =>
    intro q h
    rw [layL] at h
    split at h
    · rcases List.mem_cons.1 h with h | h
      · exact .inr (by rw [h]; exact List.mem_cons_self)
      · rcases ih h with h | h
        · exact .inl h
        · exact .inr (List.mem_cons_of_mem _ h)
    split at h
    · rcases List.mem_cons.1 h with h | h
      · exact .inl h
      · exact .inr (List.mem_cons_of_mem _ h)
    · rcases List.mem_cons.1 h with h | h
      · exact .inl h
      · exact .inr h
theorem mem_del {L : List OB} {n : ByteArray} : ∀ {q : OB}, q ∈ delL L n → q ∈ L := by
  induction L with
  | nil => intro q h; exact h
  | cons p r ih =>
    intro q h
    rw [delL] at h
    split at h
    · exact List.mem_cons_of_mem _ h
    · rcases List.mem_cons.1 h with h | h
      · rw [h]; exact List.mem_cons_self
      · exact List.mem_cons_of_mem _ (ih h)
theorem ris_lay {L : List OB} (h : Ris L) (n d : ByteArray) : Ris (layL L n d) := by
  induction L with
  | nil => simp [layL, Ris]
  | cons p r ih =>
    rw [layL]
    split
    · rename_i hb
      refine List.pairwise_cons.2 ⟨fun q hq => ?_, ih (ris_tail h)⟩
      rcases mem_lay hq with e | e
      · rw [e]; exact hb
      · exact ris_head h q e
    · rename_i hb
      split
      · rename_i e
        refine List.pairwise_cons.2 ⟨fun q hq => ?_, ris_tail h⟩
        rw [← e]; exact ris_head h q hq
      · rename_i e
        have hn : bl n p.n = true := by
          rcases bl_total e with h1 | h1
          · exact absurd h1 hb
          · exact h1
        refine List.pairwise_cons.2 ⟨fun q hq => ?_, h⟩
        rcases List.mem_cons.1 hq with e2 | e2
        · rw [e2]; exact hn
        · exact bl_trans hn (ris_head h q e2)
theorem ris_del {L : List OB} (h : Ris L) (n : ByteArray) : Ris (delL L n) := by
  induction L with
  | nil => exact h
  | cons p r ih =>
    rw [delL]
    split
    · exact ris_tail h
    · exact List.pairwise_cons.2 ⟨fun q hq => ris_head h q (mem_del hq), ih (ris_tail h)⟩
theorem thr_lay {L : List OB} (h : Ris L) (n d m : ByteArray) : thr (layL L n d) m = if n = m then some d else thr L m := by
  induction L with
  | nil => simp [layL, thr]
  | cons p r ih =>
    rw [layL]
    split
    · rename_i hb
      rw [thr, ih (ris_tail h), thr]
      by_cases e : p.n = m
      · have : n ≠ m := fun e2 => by rw [← e2] at e; exact bl_ne hb e
        simp [e, this]
      · simp [e]
    · split
      · rename_i e
        rw [thr, thr]
        by_cases e2 : n = m
        · simp [e2]
        · simp [e2, e]
      · rw [thr]
theorem thr_del {L : List OB} (h : Ris L) (n m : ByteArray) : thr (delL L n) m = if n = m then none else thr L m := by
  induction L with
  | nil => simp [delL, thr]
  | cons p r ih =>
    rw [delL]
    split
    · rename_i e
      rw [thr]
      by_cases e2 : n = m
      · subst e2
        simp [thr_ahead h (.inr e.symm)]
      · simp [e2, e]
    · rename_i e
      rw [thr, ih (ris_tail h), thr]
      by_cases e2 : n = m
      · subst e2; simp [e]
      · simp [e2]
def szO (n : ByteArray) : Option ByteArray → Nat
  | some d => n.size + d.size
  | none => 0
theorem used_del (L : List OB) (n : ByteArray) : usedL L = usedL (delL L n) + szO n (thr L n) := by
  induction L with
  | nil => rfl
  | cons p r ih =>
    by_cases e : p.n = n
    · subst e
      simp only [delL, thr, usedL, if_true, szO]
      omega
    · simp only [delL, thr, usedL, if_neg e]
      omega
theorem used_lay {L : List OB} (h : Ris L) (n d : ByteArray) : usedL (layL L n d) + szO n (thr L n) = usedL L + n.size + d.size := by
  induction L with
  | nil => simp only [layL, thr, usedL, szO]; omega
  | cons p r ih =>
    rw [layL]
    split
    · rename_i hb
      have := ih (ris_tail h)
      simp only [thr, if_neg (bl_ne hb), usedL]
      omega
    · rename_i hb
      split
      · rename_i e
        subst e
        simp only [thr, if_true, usedL, szO]
        omega
      · rename_i e
        have hn : bl n p.n = true := by
          rcases bl_total e with h1 | h1
          · exact absurd h1 hb
          · exact h1
        rw [thr, if_neg e, thr_ahead h (.inl hn)]
        simp only [usedL, szO]
        omega
/-- The place of a name. -/
theorem pos_le (L : List OB) (n : ByteArray) : pos L n ≤ L.length := by
  induction L with
  | nil => exact Nat.le_refl _
  | cons p r ih =>
    rw [pos]
    split
    · simp; exact ih
    · exact Nat.zero_le _
theorem pos_before {L : List OB} {n : ByteArray} : ∀ {i : Nat} {p : OB}, i < pos L n → L[i]? = some p → bl p.n n = true := by
  induction L with
  | nil => intro i p h; simp [pos] at h
  | cons q r ih =>
    intro i p h hp
    rw [pos] at h
    split at h
    · rename_i hb
      cases i with
      | zero => simp at hp; rw [← hp]; exact hb
      | succ i => exact ih (i := i) (by omega) (by simpa using hp)
    · omega
theorem pos_at {L : List OB} {n : ByteArray} {p : OB} (hp : L[pos L n]? = some p) : bl p.n n = false := by
  induction L with
  | nil => simp at hp
  | cons q r ih =>
    rw [pos] at hp
    split at hp
    · exact ih (by simpa using hp)
    · rename_i hb
      simp at hp
      rw [← hp]
      simpa using hb
theorem pos_thr {L : List OB} (h : Ris L) (n : ByteArray) : thr L n = match L[pos L n]? with | some p => (if p.n = n then some p.d else none) | none => none := by
  induction L with
  | nil => rfl
  | cons q r ih =>
    by_cases hb : bl q.n n = true
    · rw [pos, if_pos hb, thr, if_neg (bl_ne hb), ih (ris_tail h), List.getElem?_cons_succ]
    · rw [pos, if_neg hb, thr, List.getElem?_cons_zero]
      by_cases e : q.n = n
      · rw [if_pos e]
        dsimp only
        rw [if_pos e]
      · have hn : bl n q.n = true := by
          rcases bl_total e with h1 | h1
          · exact absurd h1 hb
          · exact h1
        rw [if_neg e, thr_ahead h (.inl hn)]
        dsimp only
        rw [if_neg e]
theorem lay_take {L : List OB} (h : Ris L) (n d : ByteArray) : layL L n d = L.take (pos L n) ++ ⟨n, d⟩ :: L.drop (if (thr L n).isSome then pos L n + 1 else pos L n) := by
  induction L with
  | nil => rfl
  | cons q r ih =>
    rw [layL, pos]
    split
    · rename_i hb
      rw [ih (ris_tail h), thr, if_neg (bl_ne hb)]
      split <;> simp
    · rename_i hb
      split
      · rename_i e
        simp [thr, e]
      · rename_i e
        have hn : bl n q.n = true := by
          rcases bl_total e with h1 | h1
          · exact absurd h1 hb
          · exact h1
        rw [thr, if_neg e, thr_ahead h (.inl hn)]
        simp
theorem del_take {L : List OB} (h : Ris L) {n : ByteArray} (ht : (thr L n).isSome = true) : delL L n = L.take (pos L n) ++ L.drop (pos L n + 1) := by
  induction L with
  | nil => simp [thr] at ht
  | cons q r ih =>
    rw [delL, pos]
    split
    · rename_i e
      rw [if_neg (by rw [e, bl_irrefl]; decide)]
      simp
    · rename_i e
      rw [thr, if_neg e] at ht
      have hb : bl q.n n = true := by
        rcases bl_total e with h1 | h1
        · exact h1
        · rw [thr_ahead h (.inl h1)] at ht; cases ht
      rw [if_pos hb, ih (ris_tail h) ht]
      simp
theorem del_none {L : List OB} {n : ByteArray} (ht : thr L n = none) : delL L n = L := by
  induction L with
  | nil => rfl
  | cons q r ih =>
    rw [thr] at ht
    split at ht
    · cases ht
    · rename_i e
      rw [delL, if_neg e, ih ht]

/-! ### As a map reads -/
section
variable {H : Type} (E : ByteArray → DataW H)
/-- An object as an entry; E: how its data read. -/
def entr (p : OB) : Lit × DataW H := (.string p.n.data.toList, E p.d)
def datL (L : List OB) : DataW H := .map (L.map (entr E))
theorem same_name (x y : ByteArray) : (Lit.string x.data.toList).sameKey (.string y.data.toList) = decide (x = y) := by
  by_cases e : x = y
  · subst e; simp [Lit.sameKey]
  · rw [decide_eq_false e, Lit.sameKey, beq_eq_false_iff_ne]
    exact list_ne e
theorem dat_del {L : List OB} (h : Ris L) (n : ByteArray) : (datL E L).del (.string n.data.toList) = datL E (delL L n) := by
  show DataW.map ((L.map (entr E)).filter _) = DataW.map _
  congr 1
  induction L with
  | nil => rfl
  | cons p r ih =>
    rw [List.map_cons, List.filter_cons, delL]
    simp only [entr, same_name]
    by_cases e : p.n = n
    · simp only [e, decide_true, Bool.not_true, if_true]
      rw [if_neg (by decide)]
      refine List.filter_eq_self.2 fun q hq => ?_
      obtain ⟨x, hx, rfl⟩ := List.mem_map.1 hq
      have h1 := ris_head h x hx
      rw [e] at h1
      show (!(Lit.string x.n.data.toList).sameKey (.string n.data.toList)) = true
      rw [same_name, decide_eq_false (bl_ne h1).symm]
      rfl
    · simp only [e, decide_false, Bool.not_false, if_true, if_false]
      rw [List.map_cons]
      exact congrArg _ (ih (ris_tail h))
theorem dat_has (L : List OB) (n : ByteArray) : Maps.has (datL E L) (.string n.data.toList) = (thr L n).isSome := by
  show (L.map (entr E)).any _ = _
  induction L with
  | nil => rfl
  | cons p r ih =>
    rw [List.map_cons, List.any_cons, ih, thr]
    simp only [entr, same_name]
    by_cases e : p.n = n
    · simp [e]
    · simp [e]
theorem dat_at (L : List OB) (n : ByteArray) (z : DataW H) : (datL E L).atKey (.string n.data.toList) z = match thr L n with | some d => E d | none => z := by
  show (match (L.map (entr E)).find? _ with | some p => p.2 | none => z) = _
  induction L with
  | nil => rfl
  | cons p r ih =>
    rw [List.map_cons, List.find?_cons, thr]
    simp only [entr, same_name]
    by_cases e : p.n = n
    · simp [e]
    · simp only [e, decide_false, if_false]
      exact ih
theorem dat_size (L : List OB) : Maps.size (datL E L) = L.length := by
  show (L.map (entr E)).length = _
  simp
theorem dat_put {L : List OB} (h : Ris L) (n d : ByteArray) : (datL E L).put (.string n.data.toList) (E d) = datL E (layL L n d) := by
  have e0 : (datL E L).put (.string n.data.toList) (E d) = .map (DataW.insert (entr E ⟨n, d⟩) ((delL L n).map (entr E))) := by
    have := dat_del E h n
    simp only [datL, DataW.del, DataW.map.injEq] at this
    show DataW.map (DataW.insert _ _) = _
    rw [this]
    rfl
  rw [e0]
  show DataW.map _ = DataW.map _
  congr 1
  clear e0
  induction L with
  | nil => rfl
  | cons p r ih =>
    rw [delL, layL]
    by_cases e : p.n = n
    · have hb : ¬ bl p.n n = true := by rw [e, bl_irrefl]; decide
      rw [if_pos e, if_neg hb, if_pos e]
      cases r with
      | nil => rfl
      | cons q s =>
        have h1 := ris_head h q List.mem_cons_self
        rw [e] at h1
        rw [List.map_cons, DataW.insert]
        exact if_pos (show (Lit.string n.data.toList).before (.string q.n.data.toList) = true from h1)
    · rw [if_neg e, List.map_cons, DataW.insert]
      by_cases hb : bl p.n n = true
      · have hx : ¬ (entr E ⟨n, d⟩).1.before (entr E p).1 = true := by
          show ¬ bl n p.n = true
          rw [bl_asymm hb]; decide
        rw [if_pos hb, if_neg hx, ih (ris_tail h), List.map_cons]
      · have hn : bl n p.n = true := by
          rcases bl_total e with h1 | h1
          · exact absurd h1 hb
          · exact h1
        have hx : (entr E ⟨n, d⟩).1.before (entr E p).1 = true := hn
        rw [if_neg hb, if_neg e, if_pos hx, del_none (thr_ahead h (.inl hn))]
        rfl
end
end Go.Proofs.YtcidfkkgpehodaaDoor

namespace Go.Proofs.YtcidfkkgpehodaaDoor
open Go.RowKit Go.Lib Go.Maps

theorem hide {p : Prop} (h : p) : Hid p := h
theorem take_snoc (s : ByteArray) (k : Nat) (h : k < s.size) : s.data.toList.take (k + 1) = s.data.toList.take k ++ [s[k]] := by
  have hk : k < s.data.toList.length := by simpa using h
  rw [List.take_add_one, List.getElem?_eq_getElem hk]
  rfl
theorem bytes_list (x : ByteArray) : x.toList = x.data.toList := ByteArray.toList_eq x
theorem test_eq (x y : ByteArray) : (x.toList == y.toList) = decide (x = y) := by
  by_cases e : x = y
  · subst e; simp
  · rw [decide_eq_false e, bytes_list, bytes_list, beq_eq_false_iff_ne]
    exact list_ne e
theorem test_less (x y : ByteArray) : Op.bytesLess x.toList y.toList = bl x y := by
  rw [bytes_list, bytes_list, less_before]; rfl

theorem less_fact {x y : ByteArray} {t : Bool} (h : bl x y = t) : Op.bytesLess x.toList y.toList = t := (test_less x y).trans h
/-- A byte that a name may have. -/
def okB (x : UInt8) : Bool := decide (32 < x.toNat) && decide (x.toNat < 127)
/-- May a name be? -/
def mayB (n : ByteArray) : Bool := decide (1 ≤ n.size) && decide (n.size ≤ 96) && n.data.toList.all okB

theorem below_step {w9 w' w'' : World} (h : Below w9.heap.size w9 w') (k : Below w'.heap.size w' w'') : Below w9.heap.size w9 w'' := h.trans (k.mono h.size)

theorem used_snoc (L : List OB) (p : OB) : usedL (L ++ [p]) = usedL L + (p.n.size + p.d.size) := by
  induction L with
  | nil => simp [usedL]
  | cons q r ih => simp only [List.cons_append, usedL, ih]; omega
theorem used_take_le : ∀ (L : List OB) (j : Nat), usedL (L.take j) ≤ usedL L
  | [], _ => by simp [usedL]
  | _ :: _, 0 => Nat.zero_le _
  | p :: r, j + 1 => by
    have := used_take_le r j
    rw [List.take_succ_cons, usedL, usedL]
    omega
theorem used_take {L : List OB} {j : Nat} {p : OB} (hp : L[j]? = some p) : usedL (L.take (j + 1)) = usedL (L.take j) + (p.n.size + p.d.size) := by
  rw [List.take_add_one, hp]
  exact used_snoc _ _

theorem Tryd.infoTx : (Tryd.prog.info? 9).map (fun i => (i.zero, i.size, i.bytes)) = some (some (.string ⟨#[]⟩), 1, 16) := by kernel_rfl
theorem info_parts {o : Option TypeInfo} {z : Option Value} {s b : Nat} (h : o.map (fun i => (i.zero, i.size, i.bytes)) = some (z, s, b)) : ∃ i, o = some i ∧ i.zero = z ∧ i.size = s ∧ i.bytes = b := by
  cases o with
  | none => cases h
  | some i =>
    simp only [Option.map_some, Option.some.injEq, Prod.mk.injEq] at h
    exact ⟨i, rfl, h⟩
def tc (l : List ByteArray) : List Value := l.map .string
/-- A list of texts in a block of one's own. -/
structure TS (B : Nat) (v : Value) (l : List ByteArray) (w : World) : Prop where
  own : w.ownsRow B 9 1 v l.length (tc l)
section
variable {B : Nat} {v : Value} {l : List ByteArray} {w w' : World}
theorem TS.nil (B : Nat) (w : World) : TS B (.slice none 0 0) [] w := ⟨World.ownsRow_nil w B 9 1⟩
theorem TS.shp (h : TS B v l w) : ∃ a c, v = .slice a l.length c := by
  obtain ⟨h1, ⟨rfl, h2⟩ | ⟨g, cap, cur, rfl, _⟩⟩ := h.own
  · rw [h2]; exact ⟨_, _, rfl⟩
  · exact ⟨_, _, rfl⟩
theorem TS.keep (h : TS B v l w) (hb : Below w.heap.size w w') : TS B v l w' := by
  refine ⟨h.own.1, ?_⟩
  rcases h.own.2 with h2 | ⟨g, cap, cur, e, hB, hg, r⟩
  · exact .inl h2
  · exact .inr ⟨g, cap, cur, e, hB, (hb.block g (lt_of_block hg)).trans hg, r⟩
theorem TS.lt (h : TS B v l w) (b : Nat) (hb : v.ownBlock = some b) : B ≤ b ∧ b < w.heap.size := by
  obtain ⟨h1, ⟨rfl, h2⟩ | ⟨g, cap, cur, rfl, hB, hg, _⟩⟩ := h.own
  · simp [Value.ownBlock] at hb
  · simp only [Value.ownBlock, Option.some.injEq] at hb
    subst hb
    exact ⟨hB, lt_of_block hg⟩
/-- One text more. -/
theorem TS.one (h : TS B v l w) (x : ByteArray) (hb : l.length + 1 ≤ 1000001) (hB : B ≤ w.heap.size) :
    ∃ v' w', (Builtin.append_ #[30, 30] 30 #[v, .slice (some ⟨w.heap.size, 0, none⟩) 1 1]).run Tryd.prog (w.alloc (.cells #[.string x] 9)) = .ok v' w' ∧ TS B v' (l ++ [x]) w' ∧ (∀ w0, Below B w0 w → Below B w0 w') ∧ (w.alloc (.cells #[.string x] 9)).grownBy w' v.ownBlock := by
  have hal : Below w.heap.size w (w.alloc (.cells #[.string x] 9)) := (Below.refl _ _).alloc (Nat.le_refl _) _
  have h' := h.keep hal
  obtain ⟨i0, hi, hz0, hz1, hz2⟩ := info_parts Tryd.infoTx
  obtain ⟨v', w', h1, h2, h3, _⟩ := run_append_own_at (P := Tryd.prog) (w.alloc (.cells #[.string x] 9)) B 30 30 9 i0 (.string ⟨#[]⟩) 1 16 Tryd.underlying30 hi hz0 hz1 hz2 rfl (by decide) v l.length (tc l) h'.own ⟨w.heap.size, 0, none⟩ 1 1 [.string x] rfl (fun j u hj => by
      rw [Addr.add_mid, Nat.zero_add, cell_of_row _ _ _ _ _ _ (heap_alloc_new w _)]
      simpa using hj) (by simp [Value.oneCell']) (by unfold maxLen; omega) (by omega) (by simp; omega)
  refine ⟨v', w', h1, ⟨by rw [List.length_append, tc, List.map_append]; exact h2⟩, fun w0 hb0 => ?_, h3⟩
  exact (hb0.trans (hal.mono hB)).grown h3 (by simp; omega) (fun k hk => (h'.lt k hk).1)
end
theorem heap_set_self {T : TypeId} {w : World} {b j : Nat} {u : Value} {c : Array Value} {fr : Nat × Nat} (h : w.heap[b]? = some (.cells c T fr)) : (w.setCell ⟨b, j, none⟩ u).heap[b]? = some (.cells (c.setIfInBounds j u) T fr) := by
  have hlt := lt_of_block h
  have h' : w.heap[b] = .cells c T fr := by simpa [Array.getElem?_eq_getElem hlt] using h
  show (w.heap.modify b _)[b]? = _
  rw [Array.getElem?_eq_getElem (by simpa using hlt), Array.getElem_modify_self, h']
  rfl
/-- Only these blocks are turned, and new memory. -/
structure Gs (p : Nat → Prop) (w w' : World) : Prop where
  os : w'.os = w.os
  tape : w'.tape = w.tape
  output : w'.output = w.output
  size : w.heap.size ≤ w'.heap.size
  block : ∀ i, i < w.heap.size → ¬ p i → w'.heap[i]? = w.heap[i]?
section
variable {p : Nat → Prop} {w w1 w' : World}
theorem Gs.refl (p : Nat → Prop) (w : World) : Gs p w w := ⟨rfl, rfl, rfl, Nat.le_refl _, fun _ _ _ => rfl⟩
theorem Gs.trans (h : Gs p w w1) (k : Gs p w1 w') : Gs p w w' :=
  ⟨k.os.trans h.os, k.tape.trans h.tape, k.output.trans h.output, Nat.le_trans h.size k.size, fun i hi hp => (k.block i (Nat.lt_of_lt_of_le hi h.size) hp).trans (h.block i hi hp)⟩
theorem Gs.gb {b : Nat} (h : Gs p w w1) (k : w1.grownBy w' (some b)) (hb : p b ∨ w.heap.size ≤ b) : Gs p w w' :=
  ⟨k.os.trans h.os, k.tape.trans h.tape, k.output.trans h.output, Nat.le_trans h.size k.size, fun i hi hp => (k.block i (Nat.lt_of_lt_of_le hi h.size) (by
    intro e
    cases e
    rcases hb with hb | hb
    · exact hp hb
    · omega)).trans (h.block i hi hp)⟩
theorem Gs.bel (h : Gs p w w1) (k : Below w1.heap.size w1 w') : Gs p w w' :=
  ⟨k.os.trans h.os, k.tape.trans h.tape, k.output.trans h.output, Nat.le_trans h.size k.size, fun i hi hp => (k.block i (Nat.lt_of_lt_of_le hi h.size)).trans (h.block i hi hp)⟩
theorem Gs.of_below (p : Nat → Prop) (k : Below w.heap.size w w') : Gs p w w' := (Gs.refl p w).bel k
theorem Gs.below (h : Gs p w w') {B : Nat} {w0 : World} (h0 : Below B w0 w) (hB : B ≤ w.heap.size) (hp : ∀ i, p i → B ≤ i) : Below B w0 w' :=
  ⟨h.os.trans h0.os, h.tape.trans h0.tape, h.output.trans h0.output, Nat.le_trans h0.size h.size, fun i hi => (h.block i (by omega) (fun e => by have := hp i e; omega)).trans (h0.block i hi)⟩
theorem Gs.mono {q : Nat → Prop} (h : Gs p w w') (hq : ∀ i, i < w.heap.size → p i → q i) : Gs q w w' := ⟨h.os, h.tape, h.output, h.size, fun i hi hn => h.block i hi (fun e => hn (hq i hi e))⟩
end
theorem names_take {L : List OB} {j : Nat} {p : OB} (b : ByteArray) (hp : L[j]? = some p) : namesL (L.take (j + 1)) b = namesL (L.take j) b ++ (if begins b p.n = true then [p.n] else []) := by
  rw [List.take_add_one, hp, namesL, namesL, Option.toList_some, List.filter_append, List.map_append]
  congr 1
  by_cases h : begins b p.n = true <;> simp [h]
theorem names_len (L : List OB) (b : ByteArray) : (namesL L b).length ≤ L.length := by
  rw [namesL, List.length_map]
  exact List.length_filter_le _ _
end Go.Proofs.YtcidfkkgpehodaaDoor

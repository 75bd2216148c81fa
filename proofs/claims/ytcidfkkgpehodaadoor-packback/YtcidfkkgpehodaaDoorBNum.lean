/-
  NmMath, NmShort, NmFixed, NmReader, NmSpec, NmAhead, NmAhead2, NmAsk, NmAsk2, NmRef3: texts of earlier layers, laid over this program.
-/
import Derived.Lib.VarintMem
import Derived.Test.YtcidfkkgpehodaaDoorRows
import Derived.WalkKit
import Derived.WalkSpells
import Derived.WalkLawsBesides
import Derived.Deep.QuietTactic
import Derived.BigQuiet
namespace Go.Proofs.YtcidfkkgpehodaaDoor.Zq.Nm
open Go.Lib

theorem uvarint_nine {x : Nat} (h : x ≤ 9223372036854775807) : (uvarint x).length ≤ 9 :=
  uvarint_length 8 x (Nat.lt_of_le_of_lt h (by decide))

/-- The bytes of a fixed number: the highest first. -/
def fixedOf (x : Nat) : Nat → List UInt8
  | 0 => []
  | k + 1 => (x / 256 ^ k % 256).toUInt8 :: fixedOf x k

theorem fixedOf_length (x : Nat) : ∀ k, (fixedOf x k).length = k
  | 0 => rfl
  | k + 1 => by simp [fixedOf, fixedOf_length x k]

theorem fixedOf_snoc : ∀ (k x : Nat), fixedOf x (k + 1) = fixedOf (x / 256) k ++ [(x % 256).toUInt8]
  | 0, x => by simp [fixedOf]
  | k + 1, x => by
    rw [fixedOf, fixedOf_snoc k x]
    have h1 : x / 256 ^ (k + 1) = x / 256 / 256 ^ k := by rw [Nat.div_div_eq_div_mul, Nat.pow_succ, Nat.mul_comm]
    rw [h1, fixedOf]
    rfl

/-- A string of bytes. -/
def strOf (l : List UInt8) : ByteArray := ⟨l.toArray⟩
theorem strOf_size (l : List UInt8) : (strOf l).size = l.length := by simp [strOf, ByteArray.size]
theorem strOf_toList (l : List UInt8) : (strOf l).data.toList = l := by simp [strOf]

theorem byteCells_one (l : List UInt8) : ∀ u ∈ byteCells l, u.oneCell' = true := by
  intro u hu
  obtain ⟨_, _, rfl⟩ := List.mem_map.1 hu
  rfl

end Go.Proofs.YtcidfkkgpehodaaDoor.Zq.Nm

namespace Go.Proofs.YtcidfkkgpehodaaDoor.Zq.Nm
open Go.RowKit Go.Lib

theorem Tryd.info5 : (Tryd.prog.info? 5).map (fun i => (i.zero, i.size, i.bytes)) = some (some (.int .u8 0), 1, 1) := by kernel_rfl

/-- An owned row of bytes, turned into a string. -/
theorem run_string_of_own {w : World} {base : Nat} {v : Value} {l : List UInt8} (h : w.ownsRow base 5 1 v l.length (byteCells l)) :
    (convert 58 9 v).run Tryd.prog w = .ok (.string (strOf l)) w := by
  rcases h.2 with ⟨hv, hn⟩ | ⟨g, cap, cur, hv, _⟩
  · subst hv
    have hl : l = [] := List.eq_nil_of_length_eq_zero hn
    subst hl
    exact run_convert_bytes_nil w 58 5 Tryd.underlying58 Tryd.underlying5 0 0 9 Tryd.underlying9
  · subst hv
    have hc := fun j (hj : j < l.length) => h.cellAt j (by omega)
    have := run_convert_bytes_arg w 58 5 Tryd.underlying58 Tryd.underlying5 g 0 l.length cap (l.map fun b => (b.toNat : Int)) (by simp)
      (fun i hi => by
        rw [Nat.zero_add, hc i hi]
        simp [byteCells, hi]) 9 Tryd.underlying9
    rw [this]
    have e : (l.map fun b => (b.toNat : Int)).map (fun n => UInt8.ofNat n.toNat) = l := by
      rw [List.map_map]
      exact (List.map_congr_left fun a _ => by simp).trans (List.map_id l)
    simp only [strOfNums, strOf, e]

/-- One byte more behind an owned row. -/
theorem rel_app {B : Nat} {w wr w1 : World} {v v' : Value} {pre : List UInt8} {o : Obj} {a : Nat} (ha : a < 256) (hown : wr.ownsRow B 5 1 v pre.length (byteCells pre)) (hb : Below B w wr) (hB : B ≤ wr.heap.size)
    (hown' : w1.ownsRow B 5 1 v' (pre.length + 1) (byteCells pre ++ [.int .u8 (a : Int)])) (hgrow : (wr.alloc o).grownBy w1 v.ownBlock) :
    w1.ownsRow B 5 1 v' (pre ++ [a.toUInt8]).length (byteCells (pre ++ [a.toUInt8])) ∧ Below B w w1 := by
  rw [byteCells_snoc pre ha, List.length_append]
  exact ⟨hown', (hb.alloc hB o).grown hgrow (by simp; omega) (fun j hj => (hown.lt j hj).1)⟩

set_option maxHeartbeats 400000 in
set_option maxRecDepth 100000 in
theorem small_any (n : Nat) (w : World) (hn : n ≤ 9223372036854775807) :
    Calls Tryd.prog 32 #[.int .i64 n] w fun e w' => e = .returned (.string (strOf (uvarint n))) ∧ Below w.heap.size w w' := by
  obtain ⟨i0, hi, hz0, hz1, hz2⟩ := info_parts Tryd.info5
  go_enter Tryd.func32, Tryd.ntmps32
  go_wp2
  go_loopw [0, 3] (fun x v wr => ∃ (m : Nat) (pre : List UInt8), x = .int .i64 m ∧ m ≤ 9223372036854775807 ∧ pre ++ uvarint m = uvarint n ∧ wr.ownsRow w.heap.size 5 1 v pre.length (byteCells pre) ∧ Below w.heap.size w wr)
    (fun x _ _ => (intOf x).toNat)
  case atStart => exact ⟨n, [], rfl, hn, rfl, World.ownsRow_nil _ _ _ _, Below.refl _ _⟩
  case round =>
    obtain ⟨m, pre, rfl, hm, heq, hown, hb⟩ := hrel
    have HE : Hid (pre ++ uvarint m = uvarint n) := heq
    clear heq
    have hpl : pre.length ≤ 9 := by
      have h1 := uvarint_nine hn
      have h2 := congrArg List.length HE.out
      rw [List.length_append] at h2
      omega
    by_cases hlt : 128 ≤ m
    · go_wp2_with (first | (at_builtin; refine wpList_append_own _ rfl (.tmp 6) (.tmp 11) 58 rfl w.heap.size 5 i0 (.int .u8 0) 1 1 Tryd.underlying58 hi hz0 hz1 hz2 rfl (by decide) _ _ _ rfl (hown.alloc _) ⟨wr.heap.size, 0, none⟩ 1 1 [.int .u8 (128 + (m : Int) % 128)] rfl rfl (cell_one_new _ _ _) (by intro u hu; simp at hu; subst hu; rfl) (by unfold maxLen; omega) (by omega) (by have := hb.size; simp; omega) ?_))
      intro v' w1 hown' hgrow _
      have R := rel_app (a := m % 128 + 128) (by omega) hown hb hb.size (by rw [show ((m % 128 + 128 : Nat) : Int) = 128 + (m : Int) % 128 from by omega]; exact hown') hgrow
      clear hown' hgrow hown
      go_wp2
      go_roundw
      case rel => exact ⟨m / 128, pre ++ [(m % 128 + 128).toUInt8], by go_num, by omega, by rw [← HE.out, uvarint_big hlt]; simp, R.1, R.2⟩
      case measure => simp [intOf]; omega
    · go_wp2_with (first | (at_builtin; refine wpList_append_own _ rfl (.tmp 15) (.tmp 18) 58 rfl w.heap.size 5 i0 (.int .u8 0) 1 1 Tryd.underlying58 hi hz0 hz1 hz2 rfl (by decide) _ _ _ rfl (hown.alloc _) ⟨wr.heap.size, 0, none⟩ 1 1 [.int .u8 (m : Int)] rfl rfl (cell_one_new _ _ _) (by intro u hu; simp at hu; subst hu; rfl) (by unfold maxLen; omega) (by omega) (by have := hb.size; simp; omega) ?_))
      intro v' w1 hown' hgrow _
      have R := rel_app (a := m) (by omega) hown hb hb.size hown' hgrow
      clear hown' hgrow hown
      have hs := run_string_of_own R.1
      rw [show pre ++ [m.toUInt8] = uvarint n from by rw [← HE.out, uvarint_small (by omega)]] at hs
      go_wp2
      go_ret
      exact ⟨rfl, R.2⟩

theorem or128_of (m : Nat) : bits .or .u8 ((m : Int) % 256) 128 = ((m % 128 + 128 : Nat) : Int) := by
  rw [u8_or128_any _ (by omega) (by omega)]; omega

set_option maxHeartbeats 400000 in
set_option maxRecDepth 100000 in
theorem short_any (n : Nat) (w : World) (hn : n ≤ 9223372036854775807) :
    Calls Tryd.prog 53 #[.int .i64 n] w fun e w' => e = .returned (.tuple #[.string (strOf (uvarint n)), .int .i64 0]) ∧ Below w.heap.size w w' := by
  obtain ⟨i0, hi, hz0, hz1, hz2⟩ := info_parts Tryd.info5
  go_enter Tryd.func53, Tryd.ntmps53
  go_wp2_with (at_make; refine wpList_make_own _ rfl _ _ 58 rfl w.heap.size 5 i0 (.int .u8 0) 1 Tryd.underlying58 hi hz0 hz1 _ _ _ 9 rfl rfl rfl (by omega) (by unfold maxLen; omega) (Nat.le_refl _) ?_)
  intro w0 hown0 hgrow0
  have hb0 : Below w.heap.size w w0 := (Below.refl _ _).grown hgrow0 (Nat.le_refl _) (fun k hk => by cases hk)
  clear hgrow0
  go_wp2
  go_loopw [0, 4] (fun x v wr => ∃ (m : Nat) (pre : List UInt8), x = .int .i64 m ∧ m ≤ 9223372036854775807 ∧ pre ++ uvarint m = uvarint n ∧ wr.ownsRow w.heap.size 5 1 v pre.length (byteCells pre) ∧ Below w.heap.size w wr)
    (fun x _ _ => (intOf x).toNat)
  case atStart => exact ⟨n, [], rfl, hn, rfl, hown0, hb0⟩
  case round =>
    clear hown0 hb0
    obtain ⟨m, pre, rfl, hm, heq, hown, hb⟩ := hrel
    have HE : Hid (pre ++ uvarint m = uvarint n) := heq
    clear heq
    have hpl : pre.length ≤ 9 := by
      have h1 := uvarint_nine hn
      have h2 := congrArg List.length HE.out
      rw [List.length_append] at h2
      omega
    by_cases hlt : 128 ≤ m
    · have hor := or128_of m
      go_wp2_with (first | (at_builtin; refine wpList_append_own _ rfl (.tmp 10) (.tmp 14) 58 rfl w.heap.size 5 i0 (.int .u8 0) 1 1 Tryd.underlying58 hi hz0 hz1 hz2 rfl (by decide) _ _ _ rfl (hown.alloc _) ⟨wr.heap.size, 0, none⟩ 1 1 [.int .u8 ((m % 128 + 128 : Nat) : Int)] rfl rfl (cell_one_new _ _ _) (by intro u hu; simp at hu; subst hu; rfl) (by unfold maxLen; omega) (by omega) (by have := hb.size; simp; omega) ?_))
      intro v' w1 hown' hgrow _
      have R := rel_app (a := m % 128 + 128) (by omega) hown hb hb.size hown' hgrow
      clear hown' hgrow hown hor
      go_wp2
      go_roundw
      case rel => exact ⟨m / 128, pre ++ [(m % 128 + 128).toUInt8], by go_num, by omega, by rw [← HE.out, uvarint_big hlt]; simp, R.1, R.2⟩
      case measure => simp [intOf]; omega
    · go_wp2_with (first | (at_builtin; refine wpList_append_own _ rfl (.tmp 18) (.tmp 21) 58 rfl w.heap.size 5 i0 (.int .u8 0) 1 1 Tryd.underlying58 hi hz0 hz1 hz2 rfl (by decide) _ _ _ rfl (hown.alloc _) ⟨wr.heap.size, 0, none⟩ 1 1 [.int .u8 (m : Int)] rfl rfl (cell_one_new _ _ _) (by intro u hu; simp at hu; subst hu; rfl) (by unfold maxLen; omega) (by omega) (by have := hb.size; simp; omega) ?_))
      intro v' w1 hown' hgrow _
      have R := rel_app (a := m) (by omega) hown hb hb.size hown' hgrow
      clear hown' hgrow hown
      have hs := run_string_of_own R.1
      rw [show pre ++ [m.toUInt8] = uvarint n from by rw [← HE.out, uvarint_small (by omega)]] at hs
      go_wp2
      go_ret2
      exact ⟨rfl, R.2⟩

theorem short_neg (n : Int) (w : World) (hn : n < 0) :
    Calls Tryd.prog 53 #[.int .i64 n] w fun e w' => e = .returned (.tuple #[.string ⟨#[]⟩, .int .i64 1]) ∧ w' = w := by
  go_enter Tryd.func53, Tryd.ntmps53
  go_wp2
  go_ret2
  exact ⟨rfl, rfl⟩

/-- A text's bytes: its length as a short number, then the text. -/
def textOf (s : ByteArray) : ByteArray := strOf (uvarint s.size ++ s.data.toList)

theorem textOf_eq (s : ByteArray) : strOf (uvarint s.size) ++ s = textOf s := by
  apply ByteArray.ext
  simp [textOf, strOf, ByteArray.data_append]

theorem short_300 : strOf (uvarint 300) = ⟨#[172, 2]⟩ := by
  rw [uvarint_big (by omega), uvarint_small (by omega)]; rfl
theorem text_ab : textOf ⟨#[97, 98]⟩ = ⟨#[2, 97, 98]⟩ := by
  unfold textOf
  rw [show (⟨#[97, 98]⟩ : ByteArray).size = 2 from rfl, uvarint_small (by omega)]; rfl

end Go.Proofs.YtcidfkkgpehodaaDoor.Zq.Nm

namespace Go.Proofs.YtcidfkkgpehodaaDoor.Zq.Nm
open Go.RowKit Go.Lib

theorem pow_256 (k : Nat) : (256 : Nat) ^ k = 2 ^ (8 * k) := by
  rw [show (256 : Nat) = 2 ^ 8 from rfl, ← Nat.pow_mul]
theorem shr_zero (n k : Nat) (hr : n < 256 ^ k) : ((n : Int) / 2 ^ (8 * k) != 0) = false := by
  rw [pow_256] at hr
  have : (n : Int) / 2 ^ (8 * k) = 0 := by
    have h2 : ((n / 2 ^ (8 * k) : Nat) : Int) = (n : Int) / 2 ^ (8 * k) := by simp
    rw [← h2, Nat.div_eq_of_lt hr]; rfl
  rw [this]; rfl

theorem set_zeros (x : UInt8) (F : List UInt8) (m : Nat) : (List.replicate (m + 1) 0 ++ F).set m x = List.replicate m 0 ++ x :: F := by
  rw [List.replicate_succ', List.append_assoc, List.set_append_right _ _ (by simp)]
  simp

theorem zero_at (F : List UInt8) (m : Nat) : (byteCells (List.replicate (m + 1) 0 ++ F))[m]? = some (.int .u8 0) := by
  simp [byteCells, List.getElem?_append]

/-- One byte more of a fixed number, laid into its row. -/
theorem rel_fix {B : Nat} {w wr : World} {n k j : Nat} {x : Int} (hlt : j < k) (hx : x = ((n / 256 ^ j % 256 : Nat) : Int)) (hown : wr.ownsRow B 5 1 (.slice (some ⟨B, 0, none⟩) k k) k (byteCells (List.replicate (k - j) 0 ++ fixedOf n j))) (hb : Below B w wr) :
    (wr.setCell ⟨B, k - 1 - j, none⟩ (.int .u8 x)).ownsRow B 5 1 (.slice (some ⟨B, 0, none⟩) k k) k (byteCells (List.replicate (k - (j + 1)) 0 ++ fixedOf n (j + 1))) ∧
    Below B w (wr.setCell ⟨B, k - 1 - j, none⟩ (.int .u8 x)) := by
  refine ⟨?_, hb.setCell (Nat.le_refl _) _⟩
  have h := (hown.stored (k - 1 - j) (.int .u8 x)).1
  have e : (byteCells (List.replicate (k - j) 0 ++ fixedOf n j)).set (k - 1 - j) (.int .u8 x) = byteCells (List.replicate (k - (j + 1)) 0 ++ fixedOf n (j + 1)) := by
    have hk : k - j = (k - 1 - j) + 1 := by omega
    have hx2 : Value.int .u8 x = (fun b : UInt8 => Value.int .u8 b.toNat) (n / 256 ^ j % 256).toUInt8 := by
      show _ = Value.int .u8 ((n / 256 ^ j % 256).toUInt8.toNat : Int)
      rw [toUInt8_toNat (by omega), hx]
    rw [hk, hx2, byteCells, ← List.map_set, set_zeros, fixedOf, show k - (j + 1) = k - 1 - j from by omega]
    rfl
  rw [e] at h
  exact h

set_option maxHeartbeats 400000 in
set_option maxRecDepth 100000 in
theorem fixed_any (n k : Nat) (w : World) (hn : n ≤ 9223372036854775807) (hk1 : 1 ≤ k) (hk8 : k ≤ 8) (hr : n < 256 ^ k) :
    Calls Tryd.prog 40 #[.int .i64 n, .int .i64 k] w fun e w' => e = .returned (.tuple #[.string (strOf (fixedOf n k)), .int .i64 0]) ∧ Below w.heap.size w w' := by
  obtain ⟨i0, hi, hz0, hz1, hz2⟩ := info_parts Tryd.info5
  have hsh := shr_zero n k hr
  clear hr
  go_enter Tryd.func40, Tryd.ntmps40
  go_wp2_with (at_make; refine wpList_make_full _ rfl _ _ 58 rfl w.heap.size 5 i0 (.int .u8 0) 1 Tryd.underlying58 hi hz0 hz1 _ _ _ _ k rfl rfl rfl rfl (by rw [hz2]; omega) (by unfold maxLen; omega) (Nat.le_refl _) ?_)
  intro w0 hown0 hgrow0
  have hb0 : Below w.heap.size w w0 := (Below.refl _ _).grown hgrow0 (Nat.le_refl _) (fun k hk => by cases hk)
  have hz : w.heap.size < w0.heap.size := (hown0.lt w.heap.size rfl).2
  clear hgrow0 hz0 hz1 hz2 hi
  go_wp2
  go_loopw [7, 29] (fun _ i wr => ∃ j : Nat, j ≤ k ∧ i = .int .i64 j ∧ wr.ownsRow w.heap.size 5 1 (.slice (some ⟨w.heap.size, 0, none⟩) k k) k (byteCells (List.replicate (k - j) 0 ++ fixedOf n j)) ∧ Below w.heap.size w wr)
    (fun _ i _ => k - (intOf i).toNat)
  case atStart => exact ⟨0, Nat.zero_le _, rfl, by simpa [fixedOf, byteCells, toList_madeCells_one] using hown0, hb0⟩
  case round =>
    obtain ⟨j, hj, rfl, hown, hb⟩ := hrel
    by_cases hlt : j < k
    · have hc : wr.cell? ⟨w.heap.size, k - 1 - j, none⟩ = some (.int .u8 0) := by
        rw [hown.cellAt (k - 1 - j) (by omega), show k - j = (k - 1 - j) + 1 from by omega, zero_at]
      have hf := hown.frozenAt (k - 1 - j)
      have R := rel_fix hlt (x := (n : Int) / 2 ^ (8 * j) % 256) (by rw [pow_256]; simp) hown hb
      clear hown hb
      go_wp2
      go_roundw
      case rel => exact ⟨j + 1, by omega, by go_num, R.1, R.2⟩
      case measure => simp [intOf]; omega
    · have hjk : j = k := by omega
      subst hjk
      rw [Nat.sub_self, List.replicate_zero, List.nil_append] at hown
      have hs := run_string_of_own (l := fixedOf n j) (by rw [fixedOf_length]; exact hown)
      go_wp2
      go_ret2
      exact ⟨rfl, hb⟩

theorem shr_some (n k : Nat) (hr : ¬ n < 256 ^ k) : ((n : Int) / 2 ^ (8 * k) != 0) = true := by
  rw [pow_256] at hr
  have h2 : ((n / 2 ^ (8 * k) : Nat) : Int) = (n : Int) / 2 ^ (8 * k) := by simp
  have h3 : 0 < n / 2 ^ (8 * k) := Nat.div_pos (by omega) (Nat.two_pow_pos _)
  rw [← h2, bne_iff_ne]
  omega

/-- Whether a fixed number can be written. -/
def fixOk (n b : Int) : Prop := 0 ≤ n ∧ 1 ≤ b ∧ b ≤ 8 ∧ n.toNat < 256 ^ b.toNat

set_option maxHeartbeats 400000 in
theorem fixed_bad (n b : Int) (w : World) (hn : n ≤ 9223372036854775807) (h : ¬ fixOk n b) :
    Calls Tryd.prog 40 #[.int .i64 n, .int .i64 b] w fun e w' => e = .returned (.tuple #[.string ⟨#[]⟩, .int .i64 1]) ∧ w' = w := by
  by_cases h1 : n < 0
  · clear h
    go_enter Tryd.func40, Tryd.ntmps40
    go_wp2
    go_ret2
    exact ⟨rfl, rfl⟩
  by_cases h2 : b < 1
  · clear h
    go_enter Tryd.func40, Tryd.ntmps40
    go_wp2
    go_ret2
    exact ⟨rfl, rfl⟩
  by_cases h3 : 8 < b
  · clear h
    go_enter Tryd.func40, Tryd.ntmps40
    go_wp2
    go_ret2
    exact ⟨rfl, rfl⟩
  obtain ⟨x, rfl⟩ := Int.eq_ofNat_of_zero_le (show 0 ≤ n by omega)
  obtain ⟨k, rfl⟩ := Int.eq_ofNat_of_zero_le (show 0 ≤ b by omega)
  have hs := shr_some x k (fun hx => h ⟨by omega, by omega, by omega, by simpa using hx⟩)
  clear h
  go_enter Tryd.func40, Tryd.ntmps40
  go_wp2
  go_ret2
  exact ⟨rfl, rfl⟩

set_option maxHeartbeats 400000 in
theorem refFixed_bad (n b : Int) (w : World) (hn : n ≤ 9223372036854775807) (h : ¬ fixOk n b) :
    Calls Tryd.prog 56 #[.int .i64 n, .int .i64 b] w fun e w' => e = .returned (.tuple #[.string ⟨#[]⟩, .int .i64 1]) ∧ w' = w := by
  by_cases h2 : b < 1
  · clear h
    go_enter Tryd.func56, Tryd.ntmps56
    go_wp2
    go_ret2
    exact ⟨rfl, rfl⟩
  by_cases h3 : 8 < b
  · clear h
    go_enter Tryd.func56, Tryd.ntmps56
    go_wp2
    go_ret2
    exact ⟨rfl, rfl⟩
  by_cases h1 : n < 0
  · clear h
    go_enter Tryd.func56, Tryd.ntmps56
    go_wp2
    go_ret2
    exact ⟨rfl, rfl⟩
  obtain ⟨x, rfl⟩ := Int.eq_ofNat_of_zero_le (show 0 ≤ n by omega)
  obtain ⟨k, rfl⟩ := Int.eq_ofNat_of_zero_le (show 0 ≤ b by omega)
  have hk : k < 8 := by
    rcases Nat.lt_or_ge k 8 with hk | hk
    · exact hk
    · exfalso
      have : k = 8 := by omega
      subst this
      exact h ⟨by omega, by omega, by omega, Nat.lt_of_le_of_lt (show x ≤ 9223372036854775807 by omega) (by decide)⟩
  have hs := shr_some x k (fun hx => h ⟨by omega, by omega, by omega, by simpa using hx⟩)
  clear h
  go_enter Tryd.func56, Tryd.ntmps56
  go_wp2
  go_ret2
  exact ⟨rfl, rfl⟩

set_option maxHeartbeats 400000 in
set_option maxRecDepth 100000 in
theorem refFixed_any (n k : Nat) (w : World) (hn : n ≤ 9223372036854775807) (hk1 : 1 ≤ k) (hk8 : k ≤ 8) (hr : n < 256 ^ k) :
    Calls Tryd.prog 56 #[.int .i64 n, .int .i64 k] w fun e w' => e = .returned (.tuple #[.string (strOf (fixedOf n k)), .int .i64 0]) ∧ Below w.heap.size w w' := by
  obtain ⟨i0, hi, hz0, hz1, hz2⟩ := info_parts Tryd.info5
  have hsh := shr_zero n k hr
  clear hr
  go_enter Tryd.func56, Tryd.ntmps56
  go_wp2_with (at_make; refine wpList_make_full _ rfl _ _ 58 rfl w.heap.size 5 i0 (.int .u8 0) 1 Tryd.underlying58 hi hz0 hz1 _ _ _ _ k rfl rfl rfl rfl (by rw [hz2]; omega) (by unfold maxLen; omega) (Nat.le_refl _) ?_)
  all_goals
  intro w0 hown0 hgrow0
  have hb0 : Below w.heap.size w w0 := (Below.refl _ _).grown hgrow0 (Nat.le_refl _) (fun k hk => by cases hk)
  clear hgrow0 hz0 hz1 hz2 hi
  go_wp2
  go_loopw [0, 7] (fun x i wr => ∃ j : Nat, j ≤ k ∧ i = .int .i64 ((k : Int) - 1 - j) ∧ x = .int .i64 (n / 256 ^ j : Nat) ∧ wr.ownsRow w.heap.size 5 1 (.slice (some ⟨w.heap.size, 0, none⟩) k k) k (byteCells (List.replicate (k - j) 0 ++ fixedOf n j)) ∧ Below w.heap.size w wr)
    (fun _ i _ => (intOf i + 1).toNat)
  case atStart => exact ⟨0, Nat.zero_le _, by go_num, by simp, by simpa [fixedOf, byteCells, toList_madeCells_one] using hown0, hb0⟩
  case round =>
    obtain ⟨j, hj, rfl, rfl, hown, hb⟩ := hrel
    have hxle : n / 256 ^ j ≤ n := Nat.div_le_self _ _
    by_cases hlt : j < k
    · have hc : wr.cell? ⟨w.heap.size, k - 1 - j, none⟩ = some (.int .u8 0) := by
        rw [hown.cellAt (k - 1 - j) (by omega), show k - j = (k - 1 - j) + 1 from by omega, zero_at]
      have hf := hown.frozenAt (k - 1 - j)
      have R := rel_fix hlt (x := ((n / 256 ^ j : Nat) : Int) % 256) (by simp) hown hb
      have HD : Hid (n / 256 ^ j / 256 = n / 256 ^ (j + 1)) := by
        show n / 256 ^ j / 256 = n / 256 ^ (j + 1)
        rw [Nat.div_div_eq_div_mul, ← Nat.pow_succ]
      clear hown hb
      generalize n / 256 ^ j = y at *
      go_wp2
      go_roundw
      case rel => exact ⟨j + 1, by omega, by go_num, by rw [← HD.out]; go_num, R.1, R.2⟩
      case measure => simp [intOf]; omega
    · have hjk : j = k := by omega
      subst hjk
      rw [Nat.sub_self, List.replicate_zero, List.nil_append] at hown
      have hs := run_string_of_own (l := fixedOf n j) (by rw [fixedOf_length]; exact hown)
      generalize n / 256 ^ j = y at *
      go_wp2
      go_ret2
      exact ⟨rfl, hb⟩

end Go.Proofs.YtcidfkkgpehodaaDoor.Zq.Nm

namespace Go.Proofs.YtcidfkkgpehodaaDoor.Zq.Nm
open Go.RowKit Go.Lib

/-- A reader lies at block b: its text, its place, its error (T: 52 the program's, 34 the document's). -/
def Rd (T : TypeId) (w : World) (b : Nat) (s : ByteArray) (p : Nat) (x : Int) : Prop :=
  w.heap[b]? = some (.cells #[.string s, .int .i64 p, .int .i64 x] T (0, 0))

section
variable {T : TypeId} {w w' : World} {b : Nat} {s : ByteArray} {p : Nat} {x : Int}

theorem Rd.lt (h : Rd T w b s p x) : b < w.heap.size := lt_of_block h
theorem Rd.cell0 (h : Rd T w b s p x) : w.cell? ⟨b, 0, none⟩ = some (.string s) := by simp [World.cell?, show w.heap[b]? = _ from h]
theorem Rd.cell1 (h : Rd T w b s p x) : w.cell? ⟨b, 1, none⟩ = some (.int .i64 p) := by simp [World.cell?, show w.heap[b]? = _ from h]
theorem Rd.cell2 (h : Rd T w b s p x) : w.cell? ⟨b, 2, none⟩ = some (.int .i64 x) := by simp [World.cell?, show w.heap[b]? = _ from h]
theorem Rd.free (h : Rd T w b s p x) (j : Nat) : w.frozen? ⟨b, j, none⟩ = false := by simp [World.frozen?, show w.heap[b]? = _ from h]
theorem Rd.of_block (h : Rd T w b s p x) (hb : w'.heap[b]? = w.heap[b]?) : Rd T w' b s p x := hb.trans h
theorem Rd.below (h : Rd T w b s p x) {B : Nat} (hb : Below B w w') (hB : b < B) : Rd T w' b s p x := h.of_block (hb.block b hB)
theorem Rd.grown (h : Rd T w b s p x) {row : Option Nat} (hg : w.grownBy w' row) (hne : some b ≠ row) : Rd T w' b s p x := h.of_block (hg.block b h.lt hne)
theorem Rd.drewN (h : Rd T w b s p x) (n : Nat) : Rd T (w.drewN n) b s p x := h
theorem heap_set_self {w : World} {b j : Nat} {u : Value} {c : Array Value} {fr : Nat × Nat} (h : w.heap[b]? = some (.cells c T fr)) : (w.setCell ⟨b, j, none⟩ u).heap[b]? = some (.cells (c.setIfInBounds j u) T fr) := by
  have hlt := lt_of_block h
  have h' : w.heap[b] = .cells c T fr := by simpa [Array.getElem?_eq_getElem hlt] using h
  show (w.heap.modify b _)[b]? = _
  rw [Array.getElem?_eq_getElem (by simpa using hlt), Array.getElem_modify_self, h']
  rfl
theorem Rd.set1 (h : Rd T w b s p x) (p' : Nat) : Rd T (w.setCell ⟨b, 1, none⟩ (.int .i64 p')) b s p' x := heap_set_self (u := .int .i64 p') h
theorem Rd.set2 (h : Rd T w b s p x) (x' : Int) : Rd T (w.setCell ⟨b, 2, none⟩ (.int .i64 x')) b s p x' := heap_set_self (u := .int .i64 x') h

theorem gb_set (w : World) (b j : Nat) (u : Value) : w.grownBy (w.setCell ⟨b, j, none⟩ u) (some b) :=
  ⟨rfl, rfl, rfl, by simp, fun k _ hk => heap_setCell_other w ⟨b, j, none⟩ k u (fun e => hk (by simp [e]))⟩
theorem gb_below (h : Below w.heap.size w w') (row : Option Nat) : w.grownBy w' row := ⟨h.os, h.tape, h.output, h.size, fun k hk _ => h.block k hk⟩
theorem gb_trans {w1 w2 : World} {row : Option Nat} (h : w.grownBy w1 row) (k : w1.grownBy w2 row) : w.grownBy w2 row :=
  ⟨k.os.trans h.os, k.tape.trans h.tape, k.output.trans h.output, Nat.le_trans h.size k.size, fun i hi hne => (k.block i (Nat.lt_of_lt_of_le hi h.size) hne).trans (h.block i hi hne)⟩
theorem gb_drewN {w1 : World} {row : Option Nat} (h : w.grownBy w1 row) (n : Nat) : w.grownBy (w1.drewN n) row := ⟨h.os, h.tape, h.output, h.size, h.block⟩
theorem below_drew {B : Nat} (h : Below B w w') (n : Nat) : Below B w (w'.drewN n) := ⟨h.os, h.tape, h.output, h.size, h.block⟩
end

theorem read_any (s : ByteArray) (w : World) :
    Calls Tryd.prog 62 #[.string s] w fun e w' => e = .returned (.pointer (some ⟨w.heap.size, 0, none⟩)) ∧ Rd 131 w' w.heap.size s 0 0 ∧ Below w.heap.size w w' := by
  go_enter Tryd.func62, Tryd.ntmps62
  go_wp2
  go_ret
  exact ⟨rfl, heap_alloc_new w _, (Below.refl _ _).alloc (Nat.le_refl _) _⟩

theorem left_any {w : World} {b : Nat} {s : ByteArray} {p : Nat} {x : Int} (h : Rd 131 w b s p x) (hp : p ≤ s.size) (hs : s.size ≤ 140737488355328) :
    Calls Tryd.prog 75 #[.pointer (some ⟨b, 0, none⟩)] w fun e w' => e = .returned (.int .i64 ((s.size : Int) - p)) ∧ ∃ n, w' = w.drewN n := by
  have c0 := h.cell0
  have c1 := h.cell1
  go_enter Tryd.func75, Tryd.ntmps75
  go_wp2
  go_quiet (fail)
  go_wp2
  go_ret
  exact ⟨rfl, _, rfl⟩

theorem err_any {w : World} {b : Nat} {s : ByteArray} {p : Nat} {x : Int} (h : Rd 131 w b s p x) :
    Calls Tryd.prog 65 #[.pointer (some ⟨b, 0, none⟩)] w fun e w' => e = .returned (.int .i64 x) ∧ w' = w := by
  have c2 := h.cell2
  go_enter Tryd.func65, Tryd.ntmps65
  go_wp2
  go_ret
  exact ⟨rfl, rfl⟩

/-- The error behind a refusal: the first one stays. -/
def failed (x y : Int) : Int := if x = 0 then y else x
theorem failed_zero (y : Int) : failed 0 y = y := rfl
theorem failed_some {x : Int} (h : ¬ x = 0) (y : Int) : failed x y = x := if_neg h

theorem fail_any {w : World} {b : Nat} {s : ByteArray} {p : Nat} {x : Int} (y : Int) (hr : Rd 131 w b s p x) :
    Calls Tryd.prog 85 #[.pointer (some ⟨b, 0, none⟩), .int .i64 y] w fun e w' => e = .returned (.tuple #[]) ∧ Rd 131 w' b s p (failed x y) ∧ w.grownBy w' (some b) := by
  have c2 := hr.cell2
  have f2 := hr.free 2
  by_cases hx : x = 0
  · subst hx
    have R := hr.set2 y
    clear hr
    go_enter Tryd.func85, Tryd.ntmps85
    go_wp2
    go_end0
    exact ⟨rfl, R, gb_set _ _ _ _⟩
  · have hb : (x == 0) = false := by simpa using hx
    have R : Rd 131 w b s p (failed x y) := by rw [failed_some hx]; exact hr
    clear hx hr
    go_enter Tryd.func85, Tryd.ntmps85
    go_wp2
    go_end0
    exact ⟨rfl, R, World.grownBy.refl _ _⟩

/-- The error behind End. -/
def ended (s : ByteArray) (p : Nat) (x : Int) : Int := if p < s.size then failed x 3 else x

theorem end_any {w : World} {b : Nat} {s : ByteArray} {p : Nat} {x : Int} (hr : Rd 131 w b s p x) (hp : p ≤ s.size) (hs : s.size ≤ 140737488355328) :
    Calls Tryd.prog 67 #[.pointer (some ⟨b, 0, none⟩)] w fun e w' => e = .returned (.int .i64 (ended s p x)) ∧ Rd 131 w' b s p (ended s p x) ∧ w.grownBy w' (some b) := by
  by_cases hlt : p < s.size
  · have he : ended s p x = failed x 3 := if_pos hlt
    rw [he]
    clear he
    go_enter Tryd.func67, Tryd.ntmps67
    go_wp2_with fail
    refine (left_any hr hp hs).mono ?_
    rintro e w1 ⟨rfl, n, rfl⟩
    go_wp2_with fail
    refine (fail_any 3 (hr.drewN n)).mono ?_
    rintro e w2 ⟨rfl, hr2, hg⟩
    have c2 := hr2.cell2
    go_wp2
    go_ret
    exact ⟨rfl, hr2, gb_trans (gb_drewN (World.grownBy.refl _ _) n) hg⟩
  · have he : ended s p x = x := if_neg hlt
    rw [he]
    clear he
    have c2 := hr.cell2
    go_enter Tryd.func67, Tryd.ntmps67
    go_wp2_with fail
    refine (left_any hr hp hs).mono ?_
    rintro e w1 ⟨rfl, n, rfl⟩
    go_wp2
    go_ret
    exact ⟨rfl, hr.drewN n, gb_drewN (World.grownBy.refl _ _) n⟩

end Go.Proofs.YtcidfkkgpehodaaDoor.Zq.Nm

namespace Go.Proofs.YtcidfkkgpehodaaDoor.Zq.Nm
open Go.Lib

/-- What a look ahead finds: a number or a text, how many bytes it takes, and a code (0: it is right). -/
structure Ah where
  num : Nat
  txt : ByteArray
  long : Nat
  code : Int

def Ah.bad (c : Int) : Ah := ⟨0, ⟨#[]⟩, 0, c⟩

def bytesA (s : ByteArray) (p : Nat) (n : Int) : Ah :=
  if n < 0 then .bad 1 else if (s.size : Int) - p < n then .bad 10 else ⟨0, s.extract p (p + n.toNat), n.toNat, 0⟩

def numOf (l : List UInt8) : Nat := l.foldl (fun a c => a * 256 + c.toNat) 0

def fixedA (s : ByteArray) (p : Nat) (n : Int) : Ah :=
  if n < 1 ∨ 7 < n then .bad 1 else if (s.size : Int) - p < n then .bad 10 else ⟨numOf (s.extract p (p + n.toNat)).data.toList, ⟨#[]⟩, n.toNat, 0⟩

/-- A short number read from place i on, n read so far; at most 'fuel' bytes more. -/
def shortGo (most : Int) : Nat → Nat → Nat → List UInt8 → Ah
  | 0, _, _, _ => .bad 3
  | _ + 1, _, _, [] => .bad 10
  | f + 1, i, n, c :: r =>
    if 128 ≤ c.toNat then shortGo most f (i + 1) (n + c.toNat % 128 * 2 ^ (7 * i)) r
    else if c.toNat = 0 ∧ 0 < i then .bad 3
    else if most < (n + c.toNat % 128 * 2 ^ (7 * i) : Nat) then .bad 2
    else ⟨n + c.toNat % 128 * 2 ^ (7 * i), ⟨#[]⟩, i + 1, 0⟩

def shortA (s : ByteArray) (p : Nat) (most : Int) : Ah := shortGo most 9 0 0 (s.data.toList.drop p)

def textA (s : ByteArray) (p : Nat) (most : Int) : Ah :=
  if (shortA s p most).code ≠ 0 then .bad (shortA s p most).code
  else if (s.size : Int) - p - (shortA s p most).long < (shortA s p most).num then .bad 10
  else ⟨0, s.extract (p + (shortA s p most).long) (p + (shortA s p most).long + (shortA s p most).num), (shortA s p most).long + (shortA s p most).num, 0⟩

theorem numOf_snoc (l : List UInt8) (c : UInt8) : numOf (l ++ [c]) = numOf l * 256 + c.toNat := by simp [numOf]
theorem numOf_lt_rev : ∀ l : List UInt8, numOf l.reverse < 256 ^ l.length
  | [] => by simp [numOf]
  | c :: l => by
    rw [List.reverse_cons, numOf_snoc, List.length_cons, Nat.pow_succ]
    have h1 := numOf_lt_rev l
    have h2 := c.toNat_lt
    omega
theorem numOf_lt (l : List UInt8) : numOf l < 256 ^ l.length := by
  have h := numOf_lt_rev l.reverse
  rwa [List.reverse_reverse, List.length_reverse] at h
theorem take_snoc (s : ByteArray) (k : Nat) (h : k < s.size) : s.data.toList.take (k + 1) = s.data.toList.take k ++ [s[k]] := by
  rw [List.take_succ_eq_append_getElem (by simpa using h)]; rfl
theorem drop_cons (s : ByteArray) (k : Nat) (h : k < s.size) : s.data.toList.drop k = s[k] :: s.data.toList.drop (k + 1) := by
  rw [List.drop_eq_getElem_cons (by simpa using h)]; rfl
theorem numOf_take (t : ByteArray) (j : Nat) (h : j < t.size) : numOf (t.data.toList.take (j + 1)) = numOf (t.data.toList.take j) * 256 + t[j].toNat := by
  rw [take_snoc t j h, numOf_snoc]
theorem numOf_take_lt (t : ByteArray) (j k : Nat) (h : j ≤ k) : numOf (t.data.toList.take j) < 256 ^ k :=
  Nat.lt_of_lt_of_le (numOf_lt _) (Nat.pow_le_pow_right (by decide) (Nat.le_trans (List.length_take_le _ _) h))

theorem take_all (t : ByteArray) (j : Nat) (h : t.size = j) : t.data.toList.take j = t.data.toList :=
  List.take_of_length_le (by rw [← h]; exact Nat.le_of_eq (by simp))

theorem wraps_i64 (n : Int) (h₀ : 0 ≤ n) (h₁ : n < 2 ^ 63) : IntKind.i64.wrap n = n := by rw [IntKind.wrap_i64]; omega
theorem or_i64 (a b : Nat) (ha : a < 2 ^ 63) (hb : b < 2 ^ 63) : bits .or .i64 (a : Int) (b : Int) = ((a ||| b : Nat) : Int) :=
  (bits_nat .i64 63 (by decide) wraps_i64 a b ha hb).2
theorem or_high (a c i : Nat) (hc : c < 2 ^ i) (ha : a * 2 ^ i < 2 ^ 63) (hc63 : c < 2 ^ 63) : bits .or .i64 ((a * 2 ^ i : Nat) : Int) (c : Int) = ((a * 2 ^ i + c : Nat) : Int) := by
  rw [or_i64 _ _ ha hc63, Nat.mul_comm, Nat.two_pow_add_eq_or_of_lt hc]
theorem or_low (a c i : Nat) (hc : c < 2 ^ i) (ha : a * 2 ^ i < 2 ^ 63) (hc63 : c < 2 ^ 63) : bits .or .i64 (c : Int) ((a * 2 ^ i : Nat) : Int) = ((c + a * 2 ^ i : Nat) : Int) := by
  rw [or_i64 _ _ hc63 ha, Nat.or_comm, Nat.mul_comm, ← Nat.two_pow_add_eq_or_of_lt hc, Nat.add_comm]

set_option maxRecDepth 100000 in
theorem andNot_fin : ∀ a : Fin 256, bits .andNot .u8 (a.val : Int) 128 = ((a.val % 128 : Nat) : Int) := by decide +kernel
set_option maxRecDepth 100000 in
theorem and_fin : ∀ a : Fin 256, (bits .and .u8 (a.val : Int) 128 != 0) = decide (128 ≤ a.val) := by decide +kernel
theorem andNot_byte (c : UInt8) : bits .andNot .u8 (c.toNat : Int) 128 = ((c.toNat % 128 : Nat) : Int) := andNot_fin ⟨c.toNat, c.toNat_lt⟩
theorem and_byte (c : UInt8) : (bits .and .u8 (c.toNat : Int) 128 != 0) = decide (128 ≤ c.toNat) := and_fin ⟨c.toNat, c.toNat_lt⟩

/-- What one byte of a short number does: its seven bits, at their place, and with what was read ahead of it. -/
theorem short_byte (c : UInt8) (j m : Nat) (hj : j < 9) (hm : m < 2 ^ (7 * j)) : ∃ v y z : Nat, v = c.toNat % 128 ∧ v < 128 ∧ y = v * 2 ^ (7 * j) ∧ y ≤ 9223372036854775807 ∧ z = m + c.toNat % 128 * 2 ^ (7 * j) ∧ z = m + y ∧
    z < 2 ^ (7 * (j + 1)) ∧ z ≤ 9223372036854775807 ∧ bits .or .i64 (m : Int) (y : Int) = (z : Int) := by
  have hv : c.toNat % 128 < 128 := Nat.mod_lt _ (by decide)
  have hp : 2 ^ (7 * (j + 1)) = 128 * 2 ^ (7 * j) := by rw [Nat.mul_add, Nat.pow_add, Nat.mul_comm]
  have hle : 2 ^ (7 * (j + 1)) ≤ 2 ^ 63 := Nat.pow_le_pow_right (by decide) (by omega)
  have hy : c.toNat % 128 * 2 ^ (7 * j) + 2 ^ (7 * j) ≤ 128 * 2 ^ (7 * j) := by
    have := Nat.mul_le_mul_right (2 ^ (7 * j)) (show c.toNat % 128 + 1 ≤ 128 by omega)
    rw [Nat.add_mul] at this
    omega
  have h0 : 0 < 2 ^ (7 * j) := Nat.two_pow_pos _
  refine ⟨_, _, _, rfl, hv, rfl, ?_, rfl, rfl, ?_, ?_, ?_⟩
  · omega
  · omega
  · omega
  · rw [or_low _ _ (7 * j) hm (by omega) (by omega)]

/-- A short number ahead: it is refused, or it is found, within the bytes that are there. -/
theorem shortGo_cases (most : Int) : ∀ (f i n : Nat) (l : List UInt8), i + f = 9 → n < 2 ^ (7 * i) →
    (∃ c : Int, c ≠ 0 ∧ shortGo most f i n l = .bad c) ∨ (∃ num long : Nat, shortGo most f i n l = ⟨num, ⟨#[]⟩, long, 0⟩ ∧ i + 1 ≤ long ∧ long ≤ i + l.length ∧ num ≤ 9223372036854775807 ∧ (num : Int) ≤ most)
  | 0, _, _, _, _, _ => .inl ⟨3, by decide, rfl⟩
  | _ + 1, _, _, [], _, _ => .inl ⟨10, by decide, rfl⟩
  | f + 1, i, n, c :: r, hi, hn => by
    obtain ⟨_, _, z, _, _, _, _, hz, _, hlt, hmax, _⟩ := short_byte c i n (by omega) hn
    rw [shortGo, ← hz]
    by_cases h1 : 128 ≤ c.toNat
    · rw [if_pos h1]
      rcases shortGo_cases most f (i + 1) z r (by omega) hlt with h | ⟨num, long, h, h2, h3, h4⟩
      · exact .inl h
      · exact .inr ⟨num, long, h, by omega, by simp only [List.length_cons]; omega, h4⟩
    rw [if_neg h1]
    by_cases h2 : c.toNat = 0 ∧ 0 < i
    · rw [if_pos h2]; exact .inl ⟨3, by decide, rfl⟩
    rw [if_neg h2]
    by_cases h3 : most < (z : Int)
    · rw [if_pos h3]; exact .inl ⟨2, by decide, rfl⟩
    rw [if_neg h3]
    exact .inr ⟨z, i + 1, rfl, Nat.le_refl _, by simp only [List.length_cons]; omega, hmax, by omega⟩

theorem shortA_cases (s : ByteArray) (p : Nat) (most : Int) (hp : p ≤ s.size) :
    (∃ c : Int, c ≠ 0 ∧ shortA s p most = .bad c) ∨ (∃ num long : Nat, shortA s p most = ⟨num, ⟨#[]⟩, long, 0⟩ ∧ p + long ≤ s.size ∧ num ≤ 9223372036854775807 ∧ (num : Int) ≤ most) := by
  rcases shortGo_cases most 9 0 0 (s.data.toList.drop p) rfl (by decide) with h | ⟨num, long, h, _, h3, h4⟩
  · exact .inl h
  · refine .inr ⟨num, long, h, ?_, h4⟩
    have : (s.data.toList.drop p).length = s.size - p := by simp
    omega

/-- What a look ahead may answer: something within the bytes that are there, or a refusal with nothing found. -/
def AhOk (s : ByteArray) (p : Nat) (A : Ah) : Prop := (A.code = 0 ∧ p + A.long ≤ s.size) ∨ ∃ c : Int, c ≠ 0 ∧ A = .bad c

theorem bytesA_ok (s : ByteArray) (p : Nat) (n : Int) : AhOk s p (bytesA s p n) := by
  unfold bytesA
  by_cases h1 : n < 0
  · rw [if_pos h1]; exact .inr ⟨1, by decide, rfl⟩
  rw [if_neg h1]
  by_cases h2 : (s.size : Int) - p < n
  · rw [if_pos h2]; exact .inr ⟨10, by decide, rfl⟩
  rw [if_neg h2]
  exact .inl ⟨rfl, by show p + n.toNat ≤ _; omega⟩
theorem fixedA_ok (s : ByteArray) (p : Nat) (n : Int) : AhOk s p (fixedA s p n) := by
  unfold fixedA
  by_cases h1 : n < 1 ∨ 7 < n
  · rw [if_pos h1]; exact .inr ⟨1, by decide, rfl⟩
  rw [if_neg h1]
  by_cases h2 : (s.size : Int) - p < n
  · rw [if_pos h2]; exact .inr ⟨10, by decide, rfl⟩
  rw [if_neg h2]
  exact .inl ⟨rfl, by show p + n.toNat ≤ _; omega⟩
theorem shortA_ok (s : ByteArray) (p : Nat) (most : Int) (hp : p ≤ s.size) : AhOk s p (shortA s p most) := by
  rcases shortA_cases s p most hp with h | ⟨num, long, h, h2, _⟩
  · exact .inr h
  · rw [h]; exact .inl ⟨rfl, h2⟩
theorem textA_ok (s : ByteArray) (p : Nat) (most : Int) (hp : p ≤ s.size) : AhOk s p (textA s p most) := by
  unfold textA
  rcases shortA_cases s p most hp with ⟨c, hc, h⟩ | ⟨num, long, h, h2, _⟩
  · rw [h, if_pos (show (Ah.bad c).code ≠ 0 from hc)]; exact .inr ⟨c, hc, rfl⟩
  · rw [h, if_neg (by simp)]
    by_cases h3 : (s.size : Int) - p - long < num
    · rw [if_pos h3]; exact .inr ⟨10, by decide, rfl⟩
    · rw [if_neg h3]; exact .inl ⟨rfl, by show p + (long + num) ≤ _; omega⟩

/-- What a reader with an error tells: nothing, and the error stays. -/
def asked (x : Int) (A : Ah) : Ah := if x = 0 then A else .bad x
theorem asked_zero (A : Ah) : asked 0 A = A := rfl
theorem asked_some {x : Int} (h : ¬ x = 0) (A : Ah) : asked x A = .bad x := if_neg h

end Go.Proofs.YtcidfkkgpehodaaDoor.Zq.Nm

namespace Go.Proofs.YtcidfkkgpehodaaDoor.Zq.Nm
open Go.RowKit Go.Lib

/-- What was found lies at block g. -/
def Fd (w : World) (g : Nat) (n : Int) (t : ByteArray) (l : Int) : Prop :=
  w.heap[g]? = some (.cells #[.int .i64 n, .string t, .int .i64 l] 133 (0, 0))

section
variable {w w' : World} {g : Nat} {n : Int} {t : ByteArray} {l : Int}
theorem Fd.lt (h : Fd w g n t l) : g < w.heap.size := lt_of_block h
theorem Fd.cell0 (h : Fd w g n t l) : w.cell? ⟨g, 0, none⟩ = some (.int .i64 n) := by simp [World.cell?, show w.heap[g]? = _ from h]
theorem Fd.cell1 (h : Fd w g n t l) : w.cell? ⟨g, 1, none⟩ = some (.string t) := by simp [World.cell?, show w.heap[g]? = _ from h]
theorem Fd.cell2 (h : Fd w g n t l) : w.cell? ⟨g, 2, none⟩ = some (.int .i64 l) := by simp [World.cell?, show w.heap[g]? = _ from h]
theorem Fd.free (h : Fd w g n t l) (j : Nat) : w.frozen? ⟨g, j, none⟩ = false := by simp [World.frozen?, show w.heap[g]? = _ from h]
theorem Fd.below (h : Fd w g n t l) {B : Nat} (hb : Below B w w') (hB : g < B) : Fd w' g n t l := (hb.block g hB).trans h
theorem Fd.grown (h : Fd w g n t l) {row : Option Nat} (hg : w.grownBy w' row) (hne : some g ≠ row) : Fd w' g n t l := (hg.block g h.lt hne).trans h
theorem Fd.drewN (h : Fd w g n t l) (k : Nat) : Fd (w.drewN k) g n t l := h
theorem Fd.put (h : Fd w g n t l) (n' : Int) (t' : ByteArray) (l' : Int) :
    Fd (((w.setCell ⟨g, 0, none⟩ (.int .i64 n')).setCell ⟨g, 1, none⟩ (.string t')).setCell ⟨g, 2, none⟩ (.int .i64 l')) g n' t' l' :=
  heap_set_self (u := .int .i64 l') (heap_set_self (u := .string t') (heap_set_self (u := .int .i64 n') h))
theorem Fd.alloc (h : Fd w g n t l) (o : Obj) : Fd (w.alloc o) g n t l := (Below.heap_alloc w o g h.lt).trans h
theorem Fd.new (w : World) (n : Int) (t : ByteArray) (l : Int) : Fd (w.alloc (.cells #[.int .i64 n, .string t, .int .i64 l] 133)) w.heap.size n t l := heap_alloc_new w _
end

theorem below_put {B : Nat} {w w1 : World} (hb : Below B w w1) {g : Nat} (hg : B ≤ g) (u0 u1 u2 : Value) :
    Below B w (((w1.setCell ⟨g, 0, none⟩ u0).setCell ⟨g, 1, none⟩ u1).setCell ⟨g, 2, none⟩ u2) := ((hb.setCell (p := ⟨g, 0, none⟩) hg u0).setCell (p := ⟨g, 1, none⟩) hg u1).setCell (p := ⟨g, 2, none⟩) hg u2

set_option maxRecDepth 100000 in
set_option maxHeartbeats 400000 in
theorem bytesAhead_any {w : World} {b : Nat} {s : ByteArray} {p : Nat} {x : Int} (n : Int) (hr : Rd 131 w b s p x) (hp : p ≤ s.size) (hs : s.size ≤ 140737488355328) (hn : n ≤ 9223372036854775807) :
    Calls Tryd.prog 91 #[.pointer (some ⟨b, 0, none⟩), .int .i64 n] w fun e w' =>
      e = .returned (.tuple #[.agg #[.int .i64 (bytesA s p n).num, .string (bytesA s p n).txt, .int .i64 (bytesA s p n).long], .int .i64 (bytesA s p n).code]) ∧ Below w.heap.size w w' := by
  by_cases h1 : n < 0
  · rw [show bytesA s p n = .bad 1 from if_pos h1]
    show Calls _ _ _ _ fun e w' => e = .returned (.tuple #[.agg #[.int .i64 0, .string ⟨#[]⟩, .int .i64 0], .int .i64 1]) ∧ _
    go_enter Tryd.func91, Tryd.ntmps91
    go_wp2
    exact bodyPost_ret (v := .tuple #[.agg #[.int .i64 0, .string ⟨#[]⟩, .int .i64 0], .int .i64 1]) (by simp [results, Tryd.results91, go_sem]) rfl ⟨rfl, (Below.refl _ _).alloc (Nat.le_refl _) _⟩
  obtain ⟨k, rfl⟩ := Int.eq_ofNat_of_zero_le (show 0 ≤ n by omega)
  have hl := hr.lt
  have hr1 : Rd 131 (w.alloc (.cells #[.int .i64 0, .string ⟨#[]⟩, .int .i64 0] 133)) b s p x := hr.below ((Below.refl _ _).alloc (Nat.le_refl _) _) hl
  by_cases h2 : (s.size : Int) - p < k
  · rw [show bytesA s p k = .bad 10 from by unfold bytesA; rw [if_neg h1, if_pos h2]]
    show Calls _ _ _ _ fun e w' => e = .returned (.tuple #[.agg #[.int .i64 0, .string ⟨#[]⟩, .int .i64 0], .int .i64 10]) ∧ _
    go_enter Tryd.func91, Tryd.ntmps91
    go_wp2_with fail
    refine (left_any hr1 hp hs).mono ?_
    rintro e w1 ⟨rfl, nd, rfl⟩
    go_wp2
    have F := ((Fd.new w 0 ⟨#[]⟩ 0).drewN nd).put 0 ⟨#[]⟩ 0
    exact bodyPost_ret (v := .tuple #[.agg #[.int .i64 0, .string ⟨#[]⟩, .int .i64 0], .int .i64 10]) (by simp [results, Tryd.results91, go_sem, F.cell0, F.cell1, F.cell2]) rfl ⟨rfl, below_put (below_drew ((Below.refl _ _).alloc (Nat.le_refl _) _) nd) (Nat.le_refl _) _ _ _⟩
  · have hk : ((p : Int) + k) ≤ s.size := by omega
    rw [show bytesA s p k = ⟨0, s.extract p (p + k), k, 0⟩ from by unfold bytesA; rw [if_neg h1, if_neg h2]; simp]
    show Calls _ _ _ _ fun e w' => e = .returned (.tuple #[.agg #[.int .i64 0, .string (s.extract p (p + k)), .int .i64 k], .int .i64 0]) ∧ _
    have c0 := hr.cell0
    have c1 := hr.cell1
    go_enter Tryd.func91, Tryd.ntmps91
    go_wp2_with fail
    refine (left_any hr1 hp hs).mono ?_
    rintro e w1 ⟨rfl, nd, rfl⟩
    go_wp2
    go_region
    go_wp2
    have F := ((Fd.new w 0 ⟨#[]⟩ 0).drewN (nd + 1)).put 0 (s.extract p (p + k)) k
    exact bodyPost_ret (v := .tuple #[.agg #[.int .i64 0, .string (s.extract p (p + k)), .int .i64 k], .int .i64 0]) (by simp [results, Tryd.results91, go_sem, F.cell0, F.cell1, F.cell2]) rfl ⟨rfl, below_put (below_drew ((Below.refl _ _).alloc (Nat.le_refl _) _) (nd + 1)) (Nat.le_refl _) _ _ _⟩

theorem bytesAhead_short {w : World} {b : Nat} {s : ByteArray} {p : Nat} {x : Int} (k : Nat) (hr : Rd 131 w b s p x) (hp : p ≤ s.size) (hs : s.size ≤ 140737488355328) (hn : (k : Int) ≤ 9223372036854775807) (h : (s.size : Int) - p < k) :
    Calls Tryd.prog 91 #[.pointer (some ⟨b, 0, none⟩), .int .i64 k] w fun e w' =>
      e = .returned (.tuple #[.agg #[.int .i64 0, .string ⟨#[]⟩, .int .i64 0], .int .i64 10]) ∧ Below w.heap.size w w' := by
  have hc := bytesAhead_any k hr hp hs hn
  rw [show bytesA s p k = .bad 10 from by unfold bytesA; rw [if_neg (by omega), if_pos h]] at hc
  exact hc
theorem bytesAhead_ok {w : World} {b : Nat} {s : ByteArray} {p : Nat} {x : Int} (k : Nat) (hr : Rd 131 w b s p x) (hp : p + k ≤ s.size) (hs : s.size ≤ 140737488355328) :
    Calls Tryd.prog 91 #[.pointer (some ⟨b, 0, none⟩), .int .i64 k] w fun e w' =>
      e = .returned (.tuple #[.agg #[.int .i64 0, .string (s.extract p (p + k)), .int .i64 k], .int .i64 0]) ∧ Below w.heap.size w w' := by
  have hc := bytesAhead_any k hr (by omega) hs (by omega)
  rw [show bytesA s p k = ⟨0, s.extract p (p + k), k, 0⟩ from by unfold bytesA; rw [if_neg (by omega), if_neg (by omega)]; simp] at hc
  exact hc

set_option maxRecDepth 100000 in
set_option maxHeartbeats 400000 in
theorem fixedAhead_any {w : World} {b : Nat} {s : ByteArray} {p : Nat} {x : Int} (n : Int) (hr : Rd 131 w b s p x) (hp : p ≤ s.size) (hs : s.size ≤ 140737488355328) (hn : n ≤ 9223372036854775807) :
    Calls Tryd.prog 83 #[.pointer (some ⟨b, 0, none⟩), .int .i64 n] w fun e w' =>
      e = .returned (.tuple #[.agg #[.int .i64 (fixedA s p n).num, .string (fixedA s p n).txt, .int .i64 (fixedA s p n).long], .int .i64 (fixedA s p n).code]) ∧ Below w.heap.size w w' := by
  by_cases h1 : n < 1
  · rw [show fixedA s p n = .bad 1 from if_pos (.inl h1)]
    show Calls _ _ _ _ fun e w' => e = .returned (.tuple #[.agg #[.int .i64 0, .string ⟨#[]⟩, .int .i64 0], .int .i64 1]) ∧ _
    go_enter Tryd.func83, Tryd.ntmps83
    go_wp2
    exact bodyPost_ret (v := .tuple #[.agg #[.int .i64 0, .string ⟨#[]⟩, .int .i64 0], .int .i64 1]) (by simp [results, Tryd.results83, go_sem]) rfl ⟨rfl, (Below.refl _ _).alloc (Nat.le_refl _) _⟩
  by_cases h7 : 7 < n
  · rw [show fixedA s p n = .bad 1 from if_pos (.inr h7)]
    show Calls _ _ _ _ fun e w' => e = .returned (.tuple #[.agg #[.int .i64 0, .string ⟨#[]⟩, .int .i64 0], .int .i64 1]) ∧ _
    go_enter Tryd.func83, Tryd.ntmps83
    go_wp2
    exact bodyPost_ret (v := .tuple #[.agg #[.int .i64 0, .string ⟨#[]⟩, .int .i64 0], .int .i64 1]) (by simp [results, Tryd.results83, go_sem]) rfl ⟨rfl, (Below.refl _ _).alloc (Nat.le_refl _) _⟩
  obtain ⟨k, rfl⟩ := Int.eq_ofNat_of_zero_le (show 0 ≤ n by omega)
  have hl := hr.lt
  have hr1 : Rd 131 (w.alloc (.cells #[.int .i64 0, .string ⟨#[]⟩, .int .i64 0] 133)) b s p x := hr.below ((Below.refl _ _).alloc (Nat.le_refl _) _) hl
  by_cases h2 : (s.size : Int) - p < k
  · rw [show fixedA s p k = .bad 10 from by unfold fixedA; rw [if_neg (by omega), if_pos h2]]
    show Calls _ _ _ _ fun e w' => e = .returned (.tuple #[.agg #[.int .i64 0, .string ⟨#[]⟩, .int .i64 0], .int .i64 10]) ∧ _
    go_enter Tryd.func83, Tryd.ntmps83
    go_wp2_with fail
    refine (bytesAhead_short k hr1 hp hs hn h2).mono ?_
    rintro e w1 ⟨rfl, hb1⟩
    have z1 : w.heap.size < w1.heap.size := by have := hb1.size; simp only [World.size_alloc] at this; omega
    have F := (Fd.new w 0 ⟨#[]⟩ 0).below hb1 (by simp)
    have a0 := F.cell0
    have a1 := F.cell1
    have a2 := F.cell2
    have f0 := F.free 0
    have f1 := F.free 1
    have f2 := F.free 2
    go_wp2
    have G := (F.put 0 ⟨#[]⟩ 0).alloc (.cells #[.int .i64 0, .string ⟨#[]⟩, .int .i64 0] 133)
    exact bodyPost_ret (v := .tuple #[.agg #[.int .i64 0, .string ⟨#[]⟩, .int .i64 0], .int .i64 10]) (by simp [results, Tryd.results83, go_sem, G.cell0, G.cell1, G.cell2]) rfl
      ⟨rfl, (below_put (((Below.refl _ _).alloc (Nat.le_refl _) _).trans (hb1.mono (by simp))) (Nat.le_refl _) _ _ _).alloc (by simp; omega) _⟩
  · have hk : p + k ≤ s.size := by omega
    rw [show fixedA s p k = ⟨numOf (s.extract p (p + k)).data.toList, ⟨#[]⟩, k, 0⟩ from by unfold fixedA; rw [if_neg (by omega), if_neg h2]; simp]
    show Calls _ _ _ _ fun e w' => e = .returned (.tuple #[.agg #[.int .i64 (numOf (s.extract p (p + k)).data.toList), .string ⟨#[]⟩, .int .i64 k], .int .i64 0]) ∧ _
    have ht : (s.extract p (p + k)).size = k := by simp; omega
    generalize hN : numOf (s.extract p (p + k)).data.toList = N
    have HN : Hid (numOf (s.extract p (p + k)).data.toList = N) := hN
    clear hN
    go_enter Tryd.func83, Tryd.ntmps83
    go_wp2_with fail
    refine (bytesAhead_ok k hr1 hk hs).mono ?_
    rintro e w1 ⟨rfl, hb1⟩
    generalize s.extract p (p + k) = t at *
    have z1 : w.heap.size < w1.heap.size := by have := hb1.size; simp only [World.size_alloc] at this; omega
    have F := (Fd.new w 0 ⟨#[]⟩ 0).below hb1 (by simp)
    have a0 := F.cell0
    have a1 := F.cell1
    have a2 := F.cell2
    have f0 := F.free 0
    have f1 := F.free 1
    have f2 := F.free 2
    have HT : Hid (t.size = k) := ht
    clear ht
    go_wp2
    go_loop [8, 28] (fun n i => ∃ j : Nat, j ≤ k ∧ i = .int .i64 j ∧ n = .int .i64 (numOf (t.data.toList.take j) : Nat)) (fun _ i => k - (intOf i).toNat)
    case atStart => exact ⟨0, Nat.zero_le _, rfl, rfl⟩
    case round =>
      obtain ⟨j, hj, rfl, rfl⟩ := hrel
      by_cases hlt : j < k
      · have hjt : j < t.size := by rw [HT.out]; exact hlt
        have R : Hid (wrap64 ((numOf (t.data.toList.take j) : Nat) * 256) = ((numOf (t.data.toList.take j) * 2 ^ 8 : Nat) : Int) ∧ wrap64 (t[j].toNat : Int) = t[j].toNat ∧
            bits .or .i64 ((numOf (t.data.toList.take j) * 2 ^ 8 : Nat) : Int) (t[j].toNat : Int) = ((numOf (t.data.toList.take (j + 1)) : Nat) : Int)) := by
          have hb := numOf_take_lt t j 6 (by omega)
          have hb' : numOf (t.data.toList.take j) < 281474976710656 := hb
          have hc := t[j].toNat_lt
          refine ⟨?_, IntWalk.wrap64_in _ ⟨by omega, by omega⟩, ?_⟩
          · rw [IntWalk.wrap64_in _ ⟨by omega, by omega⟩]; omega
          · rw [or_high _ _ 8 (by simpa using hc) (by omega) (by omega), numOf_take t j hjt]
        go_wp2
        go_round
        case rel => exact ⟨j + 1, by omega, by go_num, by rw [R.out.1, R.out.2.1, R.out.2.2]⟩
        case measure => simp [intOf]; omega
      · have hjk : j = k := by omega
        subst hjk
        have hNt : numOf (t.data.toList.take j) = N := by
          rw [take_all t j HT.out]; exact HN.out
        rw [hNt]
        clear hNt
        go_wp2
        have G := (F.put N ⟨#[]⟩ j).alloc (.cells #[.int .i64 0, .string t, .int .i64 j] 133)
        exact bodyPost_ret (v := .tuple #[.agg #[.int .i64 N, .string ⟨#[]⟩, .int .i64 j], .int .i64 0]) (by simp [results, Tryd.results83, go_sem, G.cell0, G.cell1, G.cell2]) rfl
          ⟨rfl, (below_put (((Below.refl _ _).alloc (Nat.le_refl _) _).trans (hb1.mono (by simp))) (Nat.le_refl _) _ _ _).alloc (by simp; omega) _⟩

end Go.Proofs.YtcidfkkgpehodaaDoor.Zq.Nm

namespace Go.Proofs.YtcidfkkgpehodaaDoor.Zq.Nm
open Go.RowKit Go.Lib

/-- A byte of a string, at a place that is a sum. -/
theorem run_index_sum (s : ByteArray) (p j : Nat) (h : p + j < s.size) (w : World) :
    (Instr.index 9 (.string s) (.int .i64 ((p : Int) + j))).run Tryd.prog w = .ok (.int .u8 (s[p + j].toNat : Int)) w := by
  rw [run_index_string _ _ _ _ _ Tryd.underlying9, dif_pos ⟨by omega, by omega⟩]
  simp only [show ((p : Int) + j).toNat = p + j from by omega]

set_option maxRecDepth 100000 in
set_option maxHeartbeats 400000 in
theorem shortAhead_any {w : World} {b : Nat} {s : ByteArray} {p : Nat} {x : Int} (most : Int) (hr : Rd 131 w b s p x) (hp : p ≤ s.size) (hs : s.size ≤ 140737488355328) :
    Calls Tryd.prog 84 #[.pointer (some ⟨b, 0, none⟩), .int .i64 most] w fun e w' =>
      e = .returned (.tuple #[.agg #[.int .i64 (shortA s p most).num, .string (shortA s p most).txt, .int .i64 (shortA s p most).long], .int .i64 (shortA s p most).code]) ∧ Below w.heap.size w w' := by
  have hA : shortGo most (9 - 0) 0 0 (s.data.toList.drop (p + 0)) = shortA s p most := rfl
  generalize shortA s p most = A at *
  have HA : Hid (shortGo most (9 - 0) 0 0 (s.data.toList.drop (p + 0)) = A) := hA
  clear hA
  have hl := hr.lt
  have hr1 : Rd 131 (w.alloc (.cells #[.int .i64 0, .string ⟨#[]⟩, .int .i64 0] 133)) b s p x := hr.below ((Below.refl _ _).alloc (Nat.le_refl _) _) hl
  have c0 := hr.cell0
  have c1 := hr.cell1
  go_enter Tryd.func84, Tryd.ntmps84
  go_wp2
  go_loopw [6, 9] (fun n i wr => ∃ j m nd : Nat, j ≤ 9 ∧ i = .int .i64 j ∧ n = .int .i64 m ∧ m < 2 ^ (7 * j) ∧ p + j ≤ s.size ∧ shortGo most (9 - j) j m (s.data.toList.drop (p + j)) = A ∧ wr = (w.alloc (.cells #[.int .i64 0, .string ⟨#[]⟩, .int .i64 0] 133)).drewN nd)
    (fun _ i _ => 9 - (intOf i).toNat)
  case atStart => exact ⟨0, 0, 0, by omega, rfl, rfl, by decide, hp, HA.out, rfl⟩
  case round =>
    clear HA
    obtain ⟨j, m, nd, hj, rfl, rfl, hm, hpj, hA, rfl⟩ := hrel
    have HA : Hid (shortGo most (9 - j) j m (s.data.toList.drop (p + j)) = A) := hA
    have HM : Hid (m < 2 ^ (7 * j)) := hm
    clear hA hm
    by_cases h9 : j = 9
    · have hA : A = .bad 3 := by rw [← HA.out, h9]; rfl
      subst hA
      subst h9
      clear HA HM
      go_wp2
      have F := ((Fd.new w 0 ⟨#[]⟩ 0).drewN nd).put 0 ⟨#[]⟩ 0
      exact bodyPost_ret (v := .tuple #[.agg #[.int .i64 0, .string ⟨#[]⟩, .int .i64 0], .int .i64 3]) (by simp [results, Tryd.results84, go_sem, F.cell0, F.cell1, F.cell2]) rfl ⟨rfl, below_put (below_drew ((Below.refl _ _).alloc (Nat.le_refl _) _) nd) (Nat.le_refl _) _ _ _⟩
    have hj8 : j < 9 := by omega
    clear h9
    by_cases he : p + j = s.size
    · have hA : A = .bad 10 := by
        rw [← HA.out, List.drop_eq_nil_of_le (by simp; omega), show 9 - j = (8 - j) + 1 from by omega]; rfl
      subst hA
      clear HA HM
      have hd : ((j : Int) == (s.size : Int) - p) = true := by simp; omega
      clear he
      go_wp2_with fail
      refine (left_any (hr1.drewN nd) hp hs).mono ?_
      rintro e w1 ⟨rfl, nd1, rfl⟩
      go_wp2
      have F := ((Fd.new w 0 ⟨#[]⟩ 0).drewN (nd + nd1)).put 0 ⟨#[]⟩ 0
      exact bodyPost_ret (v := .tuple #[.agg #[.int .i64 0, .string ⟨#[]⟩, .int .i64 0], .int .i64 10]) (by simp [results, Tryd.results84, go_sem, F.cell0, F.cell1, F.cell2]) rfl ⟨rfl, below_put (below_drew ((Below.refl _ _).alloc (Nat.le_refl _) _) (nd + nd1)) (Nat.le_refl _) _ _ _⟩
    have hlt : p + j < s.size := by omega
    have hd : ((j : Int) == (s.size : Int) - p) = false := by simp; omega
    clear he
    have hix := run_index_sum s p j hlt
    have hand := and_byte s[p + j]
    have hnot := andNot_byte s[p + j]
    have hA := HA.out
    rw [drop_cons s (p + j) hlt, show 9 - j = (8 - j) + 1 from by omega] at hA
    obtain ⟨v, y, z, hv, hv128, hy, hymax, hz, hzy, hzlt, hzmax, hor⟩ := short_byte s[p + j] j m hj8 HM.out
    rw [← hv] at hnot
    have hwr : wrap64 ((v : Int) * 2 ^ (7 * j)) = (y : Int) := by
      rw [show (v : Int) * 2 ^ (7 * j) = ((v * 2 ^ (7 * j) : Nat) : Int) from by simp, ← hy]
      exact IntWalk.wrap64_in _ ⟨by omega, by omega⟩
    simp only [shortGo] at hA
    rw [← hz] at hA
    have HZ : Hid (z < 2 ^ (7 * (j + 1))) := hzlt
    clear hzlt hz hy hv HA HM hzy
    have hc := s[p + j].toNat_lt
    generalize s[p + j] = c at *
    by_cases hbig : 128 ≤ c.toNat
    · rw [if_pos hbig] at hA
      rw [decide_eq_true hbig] at hand
      have HA : Hid (shortGo most (8 - j) (j + 1) z (s.data.toList.drop (p + j + 1)) = A) := hA
      clear hA
      go_wp2_with fail
      refine (left_any (hr1.drewN nd) hp hs).mono ?_
      rintro e w1 ⟨rfl, nd1, rfl⟩
      go_wp2
      go_region
      go_wp2
      go_roundw
      case rel => exact ⟨j + 1, z, _, by omega, by go_num, rfl, HZ.out, by omega, by rw [show 9 - (j + 1) = 8 - j from by omega]; exact HA.out, rfl⟩
      case measure => simp [intOf]; omega
    · rw [if_neg hbig] at hA
      rw [decide_eq_false hbig] at hand
      by_cases hzero : c.toNat = 0 ∧ 0 < j
      · rw [if_pos hzero] at hA
        subst hA
        obtain ⟨hc0, hj0⟩ := hzero
        go_wp2_with fail
        refine (left_any (hr1.drewN nd) hp hs).mono ?_
        rintro e w1 ⟨rfl, nd1, rfl⟩
        go_wp2
        go_region
        go_wp2
        have F := ((Fd.new w 0 ⟨#[]⟩ 0).drewN (nd + nd1 + 1)).put 0 ⟨#[]⟩ 0
        exact bodyPost_ret (v := .tuple #[.agg #[.int .i64 0, .string ⟨#[]⟩, .int .i64 0], .int .i64 3]) (by simp [results, Tryd.results84, go_sem, F.cell0, F.cell1, F.cell2]) rfl ⟨rfl, below_put (below_drew ((Below.refl _ _).alloc (Nat.le_refl _) _) (nd + nd1 + 1)) (Nat.le_refl _) _ _ _⟩
      · rw [if_neg hzero] at hA
        have hg : ((c.toNat : Int) == 0) = false ∨ (((c.toNat : Int) == 0) = true ∧ (j : Int) < 1) := by
          by_cases hc0 : c.toNat = 0
          · right; exact ⟨by simp; omega, by omega⟩
          · left; simp; omega
        clear hzero
        by_cases hmost : most < (z : Int)
        · rw [if_pos hmost] at hA
          subst hA
          rcases hg with hg | hg
          · go_wp2_with fail
            refine (left_any (hr1.drewN nd) hp hs).mono ?_
            rintro e w1 ⟨rfl, nd1, rfl⟩
            go_wp2
            go_region
            go_wp2
            have F := ((Fd.new w 0 ⟨#[]⟩ 0).drewN (nd + nd1 + 1)).put 0 ⟨#[]⟩ 0
            exact bodyPost_ret (v := .tuple #[.agg #[.int .i64 0, .string ⟨#[]⟩, .int .i64 0], .int .i64 2]) (by simp [results, Tryd.results84, go_sem, F.cell0, F.cell1, F.cell2]) rfl ⟨rfl, below_put (below_drew ((Below.refl _ _).alloc (Nat.le_refl _) _) (nd + nd1 + 1)) (Nat.le_refl _) _ _ _⟩
          · obtain ⟨hg, hj1⟩ := hg
            go_wp2_with fail
            refine (left_any (hr1.drewN nd) hp hs).mono ?_
            rintro e w1 ⟨rfl, nd1, rfl⟩
            go_wp2
            go_region
            go_wp2
            have F := ((Fd.new w 0 ⟨#[]⟩ 0).drewN (nd + nd1 + 1)).put 0 ⟨#[]⟩ 0
            exact bodyPost_ret (v := .tuple #[.agg #[.int .i64 0, .string ⟨#[]⟩, .int .i64 0], .int .i64 2]) (by simp [results, Tryd.results84, go_sem, F.cell0, F.cell1, F.cell2]) rfl ⟨rfl, below_put (below_drew ((Below.refl _ _).alloc (Nat.le_refl _) _) (nd + nd1 + 1)) (Nat.le_refl _) _ _ _⟩
        · rw [if_neg hmost] at hA
          subst hA
          rcases hg with hg | hg
          · go_wp2_with fail
            refine (left_any (hr1.drewN nd) hp hs).mono ?_
            rintro e w1 ⟨rfl, nd1, rfl⟩
            go_wp2
            go_region
            go_wp2
            have F := ((Fd.new w 0 ⟨#[]⟩ 0).drewN (nd + nd1 + 1)).put z ⟨#[]⟩ ((j : Int) + 1)
            exact bodyPost_ret (v := .tuple #[.agg #[.int .i64 z, .string ⟨#[]⟩, .int .i64 ((j : Int) + 1)], .int .i64 0]) (by simp [results, Tryd.results84, go_sem, F.cell0, F.cell1, F.cell2]) rfl ⟨rfl, below_put (below_drew ((Below.refl _ _).alloc (Nat.le_refl _) _) (nd + nd1 + 1)) (Nat.le_refl _) _ _ _⟩
          · obtain ⟨hg, hj1⟩ := hg
            go_wp2_with fail
            refine (left_any (hr1.drewN nd) hp hs).mono ?_
            rintro e w1 ⟨rfl, nd1, rfl⟩
            go_wp2
            go_region
            go_wp2
            have F := ((Fd.new w 0 ⟨#[]⟩ 0).drewN (nd + nd1 + 1)).put z ⟨#[]⟩ ((j : Int) + 1)
            exact bodyPost_ret (v := .tuple #[.agg #[.int .i64 z, .string ⟨#[]⟩, .int .i64 ((j : Int) + 1)], .int .i64 0]) (by simp [results, Tryd.results84, go_sem, F.cell0, F.cell1, F.cell2]) rfl ⟨rfl, below_put (below_drew ((Below.refl _ _).alloc (Nat.le_refl _) _) (nd + nd1 + 1)) (Nat.le_refl _) _ _ _⟩

theorem shortAhead_ok {w : World} {b : Nat} {s : ByteArray} {p : Nat} {x : Int} (most : Int) (hr : Rd 131 w b s p x) (hp : p ≤ s.size) (hs : s.size ≤ 140737488355328) (num long : Nat) (h : shortA s p most = ⟨num, ⟨#[]⟩, long, 0⟩) :
    Calls Tryd.prog 84 #[.pointer (some ⟨b, 0, none⟩), .int .i64 most] w fun e w' =>
      e = .returned (.tuple #[.agg #[.int .i64 num, .string ⟨#[]⟩, .int .i64 long], .int .i64 0]) ∧ Below w.heap.size w w' := by
  have hc := shortAhead_any most hr hp hs
  rw [h] at hc
  exact hc
theorem shortAhead_bad {w : World} {b : Nat} {s : ByteArray} {p : Nat} {x : Int} (most : Int) (hr : Rd 131 w b s p x) (hp : p ≤ s.size) (hs : s.size ≤ 140737488355328) (c : Int) (h : shortA s p most = .bad c) :
    Calls Tryd.prog 84 #[.pointer (some ⟨b, 0, none⟩), .int .i64 most] w fun e w' =>
      e = .returned (.tuple #[.agg #[.int .i64 0, .string ⟨#[]⟩, .int .i64 0], .int .i64 c]) ∧ Below w.heap.size w w' := by
  have hc := shortAhead_any most hr hp hs
  rw [h] at hc
  exact hc

end Go.Proofs.YtcidfkkgpehodaaDoor.Zq.Nm

namespace Go.Proofs.YtcidfkkgpehodaaDoor.Zq.Nm
open Go.RowKit Go.Lib

section
variable {w w1 w' : World} {g b : Nat} {n : Int} {t : ByteArray} {l : Int} {T : TypeId} {s : ByteArray} {p : Nat} {x : Int} {row : Option Nat}
theorem Fd.drew (h : Fd w g n t l) : Fd w.drew g n t l := h
theorem Fd.other (h : Fd w g n t l) (hne : g ≠ b) (j : Nat) (u : Value) : Fd (w.setCell ⟨b, j, none⟩ u) g n t l := h.grown (gb_set w b j u) (by simpa using hne)
theorem Rd.drew (h : Rd T w b s p x) : Rd T w.drew b s p x := h
theorem Rd.alloc (h : Rd T w b s p x) (o : Obj) : Rd T (w.alloc o) b s p x := h.of_block (Below.heap_alloc w o b h.lt)
theorem Rd.other (h : Rd T w b s p x) (hne : b ≠ g) (j : Nat) (u : Value) : Rd T (w.setCell ⟨g, j, none⟩ u) b s p x := h.grown (gb_set w g j u) (by simpa using hne)
theorem Rd.others (h : Rd T w b s p x) (hne : b ≠ g) (u0 u1 u2 : Value) : Rd T (((w.setCell ⟨g, 0, none⟩ u0).setCell ⟨g, 1, none⟩ u1).setCell ⟨g, 2, none⟩ u2) b s p x := ((h.other hne 0 u0).other hne 1 u1).other hne 2 u2
theorem Rd.set1' (h : Rd T w b s p x) {y : Int} {p' : Nat} (hy : y = (p' : Int)) : Rd T (w.setCell ⟨b, 1, none⟩ (.int .i64 y)) b s p' x := by subst hy; exact h.set1 p'
theorem gb_alloc (h : w.grownBy w1 row) (o : Obj) : w.grownBy (w1.alloc o) row := gb_trans h (World.grownBy_alloc w1 o row)
theorem gb_drew (h : w.grownBy w1 row) : w.grownBy w1.drew row := ⟨h.os, h.tape, h.output, h.size, h.block⟩
theorem gb_new (h : w.grownBy w1 row) (hg : w.heap.size ≤ g) (j : Nat) (u : Value) : w.grownBy (w1.setCell ⟨g, j, none⟩ u) row :=
  ⟨h.os, h.tape, h.output, by simpa using h.size, fun k hk hne => (heap_setCell_other w1 ⟨g, j, none⟩ k u (fun e => by simp at e; omega)).trans (h.block k hk hne)⟩
theorem gb_puts (h : w.grownBy w1 row) (hg : w.heap.size ≤ g) (u0 u1 u2 : Value) : w.grownBy (((w1.setCell ⟨g, 0, none⟩ u0).setCell ⟨g, 1, none⟩ u1).setCell ⟨g, 2, none⟩ u2) row := gb_new (gb_new (gb_new h hg 0 u0) hg 1 u1) hg 2 u2
end

set_option maxRecDepth 100000 in
set_option maxHeartbeats 400000 in
theorem ask_35 {w : World} {b : Nat} {s : ByteArray} {p : Nat} {x : Int} (n : Int) (A : Ah) (hr : Rd 131 w b s p x) (hs : s.size ≤ 140737488355328) (hok : AhOk s p A)
    (hc : ∀ w1, Rd 131 w1 b s p x → Calls Tryd.prog 83 #[.pointer (some ⟨b, 0, none⟩), .int .i64 n] w1 fun e w' => e = .returned (.tuple #[.agg #[.int .i64 A.num, .string A.txt, .int .i64 A.long], .int .i64 A.code]) ∧ Below w1.heap.size w1 w') :
    Calls Tryd.prog 82 #[.pointer (some ⟨b, 0, none⟩), .func (.func 83) #[.pointer (some ⟨b, 0, none⟩)] #[], .int .i64 n] w fun e w' =>
      e = .returned (.agg #[.int .i64 (asked x A).num, .string (asked x A).txt, .int .i64 (asked x A).long]) ∧ Rd 131 w' b s (p + (asked x A).long) (asked x A).code ∧ w.grownBy w' (some b) := by
  have hl := hr.lt
  have hr1 : Rd 131 (w.alloc (.cells #[.int .i64 0, .string ⟨#[]⟩, .int .i64 0] 133)) b s p x := hr.below ((Below.refl _ _).alloc (Nat.le_refl _) _) hl
  have c2 := hr.cell2
  by_cases hx : x = 0
  · subst hx
    rw [asked_zero]
    have HC := hc _ hr1
    clear hc
    rcases hok with ⟨hcode, hlong⟩ | ⟨c, hc0, rfl⟩
    · obtain ⟨num, txt, long, code⟩ := A
      simp only at hcode hlong HC ⊢
      subst hcode
      have HC' : Hid (Calls Tryd.prog 83 #[.pointer (some ⟨b, 0, none⟩), .int .i64 n] (w.alloc (.cells #[.int .i64 0, .string ⟨#[]⟩, .int .i64 0] 133)) fun e w' => e = .returned (.tuple #[.agg #[.int .i64 num, .string txt, .int .i64 long], .int .i64 0]) ∧ Below (w.alloc (.cells #[.int .i64 0, .string ⟨#[]⟩, .int .i64 0] 133)).heap.size (w.alloc (.cells #[.int .i64 0, .string ⟨#[]⟩, .int .i64 0] 133)) w') := HC
      clear HC
      go_enter Tryd.func82, Tryd.ntmps82
      go_wp2_with fail
      refine (Calls.mono HC'.out ?_)
      rintro e w1 ⟨rfl, hb1⟩
      have z1 : w.heap.size < w1.heap.size := by have := hb1.size; simp only [World.size_alloc] at this; omega
      have F := (Fd.new w 0 ⟨#[]⟩ 0).below hb1 (by simp)
      have hr2 := hr1.below hb1 (by simp; omega)
      have hl1 := hr2.lt
      have d1 := hr2.cell1
      have e1 := hr2.free 1
      have a0 := F.cell0
      have a1 := F.cell1
      have a2 := F.cell2
      have f0 := F.free 0
      have f1 := F.free 1
      have f2 := F.free 2
      clear HC'
      go_wp2
      go_region
      go_wp2
      have G := (((F.other (show w.heap.size ≠ b by omega) 1 (.int .i64 ((p : Int) + long))).put num txt long).alloc (.cells #[.int .i64 num, .string txt, .int .i64 long] 133)).drew
      have R := ((hr2.set1' (show (p : Int) + long = ((p + long : Nat) : Int) by omega)).others (show b ≠ w.heap.size by omega) (.int .i64 num) (.string txt) (.int .i64 long)).alloc (.cells #[.int .i64 num, .string txt, .int .i64 long] 133)
      have B := gb_alloc (gb_puts (gb_trans (gb_below (((Below.refl _ _).alloc (Nat.le_refl _) _).trans (hb1.mono (by simp))) (some b)) (gb_set w1 b 1 (.int .i64 ((p : Int) + long)))) (Nat.le_refl _) (.int .i64 num) (.string txt) (.int .i64 long)) (.cells #[.int .i64 num, .string txt, .int .i64 long] 133)
      exact bodyPost_ret (v := .agg #[.int .i64 num, .string txt, .int .i64 long]) (by simp [results, Tryd.results82, go_sem, G.cell0, G.cell1, G.cell2]) rfl ⟨rfl, R.drew, gb_drew B⟩
    · have HC' : Hid (Calls Tryd.prog 83 #[.pointer (some ⟨b, 0, none⟩), .int .i64 n] (w.alloc (.cells #[.int .i64 0, .string ⟨#[]⟩, .int .i64 0] 133)) fun e w' => e = .returned (.tuple #[.agg #[.int .i64 0, .string ⟨#[]⟩, .int .i64 0], .int .i64 c]) ∧ Below (w.alloc (.cells #[.int .i64 0, .string ⟨#[]⟩, .int .i64 0] 133)).heap.size (w.alloc (.cells #[.int .i64 0, .string ⟨#[]⟩, .int .i64 0] 133)) w') := HC
      clear HC
      have hcb : (c != 0) = true := by simpa using hc0
      clear hc0
      show Calls _ _ _ _ fun e w' => e = .returned (.agg #[.int .i64 0, .string ⟨#[]⟩, .int .i64 0]) ∧ Rd 131 w' b s p c ∧ _
      go_enter Tryd.func82, Tryd.ntmps82
      go_wp2_with fail
      refine (Calls.mono HC'.out ?_)
      rintro e w1 ⟨rfl, hb1⟩
      have z1 : w.heap.size < w1.heap.size := by have := hb1.size; simp only [World.size_alloc] at this; omega
      have F := (Fd.new w 0 ⟨#[]⟩ 0).below hb1 (by simp)
      have hr2 := (hr1.below hb1 (by simp; omega)).alloc (.cells #[.int .i64 0, .string ⟨#[]⟩, .int .i64 0] 133)
      clear HC'
      go_wp2_with fail
      refine (fail_any c hr2).mono ?_
      rintro e w2 ⟨rfl, hr3, hg3⟩
      have F2 := (F.alloc (.cells #[.int .i64 0, .string ⟨#[]⟩, .int .i64 0] 133)).grown hg3 (by simp; omega)
      rw [failed_zero] at hr3
      have a0 := F2.cell0
      have a1 := F2.cell1
      have a2 := F2.cell2
      have f0 := F2.free 0
      have f1 := F2.free 1
      have f2 := F2.free 2
      go_wp2
      have G := F2.put 0 ⟨#[]⟩ 0
      have R := hr3.others (show b ≠ w.heap.size by omega) (.int .i64 0) (.string ⟨#[]⟩) (.int .i64 0)
      have B := gb_puts (gb_trans (gb_alloc (gb_below (((Below.refl _ _).alloc (Nat.le_refl _) _).trans (hb1.mono (by simp))) (some b)) (.cells #[.int .i64 0, .string ⟨#[]⟩, .int .i64 0] 133)) hg3) (Nat.le_refl _) (.int .i64 0) (.string ⟨#[]⟩) (.int .i64 0)
      exact bodyPost_ret (v := .agg #[.int .i64 0, .string ⟨#[]⟩, .int .i64 0]) (by simp [results, Tryd.results82, go_sem, G.cell0, G.cell1, G.cell2]) rfl ⟨rfl, R, B⟩
  · rw [asked_some hx]
    show Calls _ _ _ _ fun e w' => e = .returned (.agg #[.int .i64 0, .string ⟨#[]⟩, .int .i64 0]) ∧ Rd 131 w' b s p x ∧ _
    have hcb : (x != 0) = true := by simpa using hx
    clear hx hc
    go_enter Tryd.func82, Tryd.ntmps82
    go_wp2
    exact bodyPost_ret (v := .agg #[.int .i64 0, .string ⟨#[]⟩, .int .i64 0]) (by simp [results, Tryd.results82, go_sem]) rfl ⟨rfl, hr1, gb_alloc (World.grownBy.refl _ _) _⟩

set_option maxRecDepth 100000 in
set_option maxHeartbeats 400000 in
theorem ask_36 {w : World} {b : Nat} {s : ByteArray} {p : Nat} {x : Int} (n : Int) (A : Ah) (hr : Rd 131 w b s p x) (hs : s.size ≤ 140737488355328) (hok : AhOk s p A)
    (hc : ∀ w1, Rd 131 w1 b s p x → Calls Tryd.prog 84 #[.pointer (some ⟨b, 0, none⟩), .int .i64 n] w1 fun e w' => e = .returned (.tuple #[.agg #[.int .i64 A.num, .string A.txt, .int .i64 A.long], .int .i64 A.code]) ∧ Below w1.heap.size w1 w') :
    Calls Tryd.prog 82 #[.pointer (some ⟨b, 0, none⟩), .func (.func 84) #[.pointer (some ⟨b, 0, none⟩)] #[], .int .i64 n] w fun e w' =>
      e = .returned (.agg #[.int .i64 (asked x A).num, .string (asked x A).txt, .int .i64 (asked x A).long]) ∧ Rd 131 w' b s (p + (asked x A).long) (asked x A).code ∧ w.grownBy w' (some b) := by
  have hl := hr.lt
  have hr1 : Rd 131 (w.alloc (.cells #[.int .i64 0, .string ⟨#[]⟩, .int .i64 0] 133)) b s p x := hr.below ((Below.refl _ _).alloc (Nat.le_refl _) _) hl
  have c2 := hr.cell2
  by_cases hx : x = 0
  · subst hx
    rw [asked_zero]
    have HC := hc _ hr1
    clear hc
    rcases hok with ⟨hcode, hlong⟩ | ⟨c, hc0, rfl⟩
    · obtain ⟨num, txt, long, code⟩ := A
      simp only at hcode hlong HC ⊢
      subst hcode
      have HC' : Hid (Calls Tryd.prog 84 #[.pointer (some ⟨b, 0, none⟩), .int .i64 n] (w.alloc (.cells #[.int .i64 0, .string ⟨#[]⟩, .int .i64 0] 133)) fun e w' => e = .returned (.tuple #[.agg #[.int .i64 num, .string txt, .int .i64 long], .int .i64 0]) ∧ Below (w.alloc (.cells #[.int .i64 0, .string ⟨#[]⟩, .int .i64 0] 133)).heap.size (w.alloc (.cells #[.int .i64 0, .string ⟨#[]⟩, .int .i64 0] 133)) w') := HC
      clear HC
      go_enter Tryd.func82, Tryd.ntmps82
      go_wp2_with fail
      refine (Calls.mono HC'.out ?_)
      rintro e w1 ⟨rfl, hb1⟩
      have z1 : w.heap.size < w1.heap.size := by have := hb1.size; simp only [World.size_alloc] at this; omega
      have F := (Fd.new w 0 ⟨#[]⟩ 0).below hb1 (by simp)
      have hr2 := hr1.below hb1 (by simp; omega)
      have hl1 := hr2.lt
      have d1 := hr2.cell1
      have e1 := hr2.free 1
      have a0 := F.cell0
      have a1 := F.cell1
      have a2 := F.cell2
      have f0 := F.free 0
      have f1 := F.free 1
      have f2 := F.free 2
      clear HC'
      go_wp2
      go_region
      go_wp2
      have G := (((F.other (show w.heap.size ≠ b by omega) 1 (.int .i64 ((p : Int) + long))).put num txt long).alloc (.cells #[.int .i64 num, .string txt, .int .i64 long] 133)).drew
      have R := ((hr2.set1' (show (p : Int) + long = ((p + long : Nat) : Int) by omega)).others (show b ≠ w.heap.size by omega) (.int .i64 num) (.string txt) (.int .i64 long)).alloc (.cells #[.int .i64 num, .string txt, .int .i64 long] 133)
      have B := gb_alloc (gb_puts (gb_trans (gb_below (((Below.refl _ _).alloc (Nat.le_refl _) _).trans (hb1.mono (by simp))) (some b)) (gb_set w1 b 1 (.int .i64 ((p : Int) + long)))) (Nat.le_refl _) (.int .i64 num) (.string txt) (.int .i64 long)) (.cells #[.int .i64 num, .string txt, .int .i64 long] 133)
      exact bodyPost_ret (v := .agg #[.int .i64 num, .string txt, .int .i64 long]) (by simp [results, Tryd.results82, go_sem, G.cell0, G.cell1, G.cell2]) rfl ⟨rfl, R.drew, gb_drew B⟩
    · have HC' : Hid (Calls Tryd.prog 84 #[.pointer (some ⟨b, 0, none⟩), .int .i64 n] (w.alloc (.cells #[.int .i64 0, .string ⟨#[]⟩, .int .i64 0] 133)) fun e w' => e = .returned (.tuple #[.agg #[.int .i64 0, .string ⟨#[]⟩, .int .i64 0], .int .i64 c]) ∧ Below (w.alloc (.cells #[.int .i64 0, .string ⟨#[]⟩, .int .i64 0] 133)).heap.size (w.alloc (.cells #[.int .i64 0, .string ⟨#[]⟩, .int .i64 0] 133)) w') := HC
      clear HC
      have hcb : (c != 0) = true := by simpa using hc0
      clear hc0
      show Calls _ _ _ _ fun e w' => e = .returned (.agg #[.int .i64 0, .string ⟨#[]⟩, .int .i64 0]) ∧ Rd 131 w' b s p c ∧ _
      go_enter Tryd.func82, Tryd.ntmps82
      go_wp2_with fail
      refine (Calls.mono HC'.out ?_)
      rintro e w1 ⟨rfl, hb1⟩
      have z1 : w.heap.size < w1.heap.size := by have := hb1.size; simp only [World.size_alloc] at this; omega
      have F := (Fd.new w 0 ⟨#[]⟩ 0).below hb1 (by simp)
      have hr2 := (hr1.below hb1 (by simp; omega)).alloc (.cells #[.int .i64 0, .string ⟨#[]⟩, .int .i64 0] 133)
      clear HC'
      go_wp2_with fail
      refine (fail_any c hr2).mono ?_
      rintro e w2 ⟨rfl, hr3, hg3⟩
      have F2 := (F.alloc (.cells #[.int .i64 0, .string ⟨#[]⟩, .int .i64 0] 133)).grown hg3 (by simp; omega)
      rw [failed_zero] at hr3
      have a0 := F2.cell0
      have a1 := F2.cell1
      have a2 := F2.cell2
      have f0 := F2.free 0
      have f1 := F2.free 1
      have f2 := F2.free 2
      go_wp2
      have G := F2.put 0 ⟨#[]⟩ 0
      have R := hr3.others (show b ≠ w.heap.size by omega) (.int .i64 0) (.string ⟨#[]⟩) (.int .i64 0)
      have B := gb_puts (gb_trans (gb_alloc (gb_below (((Below.refl _ _).alloc (Nat.le_refl _) _).trans (hb1.mono (by simp))) (some b)) (.cells #[.int .i64 0, .string ⟨#[]⟩, .int .i64 0] 133)) hg3) (Nat.le_refl _) (.int .i64 0) (.string ⟨#[]⟩) (.int .i64 0)
      exact bodyPost_ret (v := .agg #[.int .i64 0, .string ⟨#[]⟩, .int .i64 0]) (by simp [results, Tryd.results82, go_sem, G.cell0, G.cell1, G.cell2]) rfl ⟨rfl, R, B⟩
  · rw [asked_some hx]
    show Calls _ _ _ _ fun e w' => e = .returned (.agg #[.int .i64 0, .string ⟨#[]⟩, .int .i64 0]) ∧ Rd 131 w' b s p x ∧ _
    have hcb : (x != 0) = true := by simpa using hx
    clear hx hc
    go_enter Tryd.func82, Tryd.ntmps82
    go_wp2
    exact bodyPost_ret (v := .agg #[.int .i64 0, .string ⟨#[]⟩, .int .i64 0]) (by simp [results, Tryd.results82, go_sem]) rfl ⟨rfl, hr1, gb_alloc (World.grownBy.refl _ _) _⟩

set_option maxRecDepth 100000 in
set_option maxHeartbeats 400000 in
theorem ask_38 {w : World} {b : Nat} {s : ByteArray} {p : Nat} {x : Int} (n : Int) (A : Ah) (hr : Rd 131 w b s p x) (hs : s.size ≤ 140737488355328) (hok : AhOk s p A)
    (hc : ∀ w1, Rd 131 w1 b s p x → Calls Tryd.prog 91 #[.pointer (some ⟨b, 0, none⟩), .int .i64 n] w1 fun e w' => e = .returned (.tuple #[.agg #[.int .i64 A.num, .string A.txt, .int .i64 A.long], .int .i64 A.code]) ∧ Below w1.heap.size w1 w') :
    Calls Tryd.prog 82 #[.pointer (some ⟨b, 0, none⟩), .func (.func 91) #[.pointer (some ⟨b, 0, none⟩)] #[], .int .i64 n] w fun e w' =>
      e = .returned (.agg #[.int .i64 (asked x A).num, .string (asked x A).txt, .int .i64 (asked x A).long]) ∧ Rd 131 w' b s (p + (asked x A).long) (asked x A).code ∧ w.grownBy w' (some b) := by
  have hl := hr.lt
  have hr1 : Rd 131 (w.alloc (.cells #[.int .i64 0, .string ⟨#[]⟩, .int .i64 0] 133)) b s p x := hr.below ((Below.refl _ _).alloc (Nat.le_refl _) _) hl
  have c2 := hr.cell2
  by_cases hx : x = 0
  · subst hx
    rw [asked_zero]
    have HC := hc _ hr1
    clear hc
    rcases hok with ⟨hcode, hlong⟩ | ⟨c, hc0, rfl⟩
    · obtain ⟨num, txt, long, code⟩ := A
      simp only at hcode hlong HC ⊢
      subst hcode
      have HC' : Hid (Calls Tryd.prog 91 #[.pointer (some ⟨b, 0, none⟩), .int .i64 n] (w.alloc (.cells #[.int .i64 0, .string ⟨#[]⟩, .int .i64 0] 133)) fun e w' => e = .returned (.tuple #[.agg #[.int .i64 num, .string txt, .int .i64 long], .int .i64 0]) ∧ Below (w.alloc (.cells #[.int .i64 0, .string ⟨#[]⟩, .int .i64 0] 133)).heap.size (w.alloc (.cells #[.int .i64 0, .string ⟨#[]⟩, .int .i64 0] 133)) w') := HC
      clear HC
      go_enter Tryd.func82, Tryd.ntmps82
      go_wp2_with fail
      refine (Calls.mono HC'.out ?_)
      rintro e w1 ⟨rfl, hb1⟩
      have z1 : w.heap.size < w1.heap.size := by have := hb1.size; simp only [World.size_alloc] at this; omega
      have F := (Fd.new w 0 ⟨#[]⟩ 0).below hb1 (by simp)
      have hr2 := hr1.below hb1 (by simp; omega)
      have hl1 := hr2.lt
      have d1 := hr2.cell1
      have e1 := hr2.free 1
      have a0 := F.cell0
      have a1 := F.cell1
      have a2 := F.cell2
      have f0 := F.free 0
      have f1 := F.free 1
      have f2 := F.free 2
      clear HC'
      go_wp2
      go_region
      go_wp2
      have G := (((F.other (show w.heap.size ≠ b by omega) 1 (.int .i64 ((p : Int) + long))).put num txt long).alloc (.cells #[.int .i64 num, .string txt, .int .i64 long] 133)).drew
      have R := ((hr2.set1' (show (p : Int) + long = ((p + long : Nat) : Int) by omega)).others (show b ≠ w.heap.size by omega) (.int .i64 num) (.string txt) (.int .i64 long)).alloc (.cells #[.int .i64 num, .string txt, .int .i64 long] 133)
      have B := gb_alloc (gb_puts (gb_trans (gb_below (((Below.refl _ _).alloc (Nat.le_refl _) _).trans (hb1.mono (by simp))) (some b)) (gb_set w1 b 1 (.int .i64 ((p : Int) + long)))) (Nat.le_refl _) (.int .i64 num) (.string txt) (.int .i64 long)) (.cells #[.int .i64 num, .string txt, .int .i64 long] 133)
      exact bodyPost_ret (v := .agg #[.int .i64 num, .string txt, .int .i64 long]) (by simp [results, Tryd.results82, go_sem, G.cell0, G.cell1, G.cell2]) rfl ⟨rfl, R.drew, gb_drew B⟩
    · have HC' : Hid (Calls Tryd.prog 91 #[.pointer (some ⟨b, 0, none⟩), .int .i64 n] (w.alloc (.cells #[.int .i64 0, .string ⟨#[]⟩, .int .i64 0] 133)) fun e w' => e = .returned (.tuple #[.agg #[.int .i64 0, .string ⟨#[]⟩, .int .i64 0], .int .i64 c]) ∧ Below (w.alloc (.cells #[.int .i64 0, .string ⟨#[]⟩, .int .i64 0] 133)).heap.size (w.alloc (.cells #[.int .i64 0, .string ⟨#[]⟩, .int .i64 0] 133)) w') := HC
      clear HC
      have hcb : (c != 0) = true := by simpa using hc0
      clear hc0
      show Calls _ _ _ _ fun e w' => e = .returned (.agg #[.int .i64 0, .string ⟨#[]⟩, .int .i64 0]) ∧ Rd 131 w' b s p c ∧ _
      go_enter Tryd.func82, Tryd.ntmps82
      go_wp2_with fail
      refine (Calls.mono HC'.out ?_)
      rintro e w1 ⟨rfl, hb1⟩
      have z1 : w.heap.size < w1.heap.size := by have := hb1.size; simp only [World.size_alloc] at this; omega
      have F := (Fd.new w 0 ⟨#[]⟩ 0).below hb1 (by simp)
      have hr2 := (hr1.below hb1 (by simp; omega)).alloc (.cells #[.int .i64 0, .string ⟨#[]⟩, .int .i64 0] 133)
      clear HC'
      go_wp2_with fail
      refine (fail_any c hr2).mono ?_
      rintro e w2 ⟨rfl, hr3, hg3⟩
      have F2 := (F.alloc (.cells #[.int .i64 0, .string ⟨#[]⟩, .int .i64 0] 133)).grown hg3 (by simp; omega)
      rw [failed_zero] at hr3
      have a0 := F2.cell0
      have a1 := F2.cell1
      have a2 := F2.cell2
      have f0 := F2.free 0
      have f1 := F2.free 1
      have f2 := F2.free 2
      go_wp2
      have G := F2.put 0 ⟨#[]⟩ 0
      have R := hr3.others (show b ≠ w.heap.size by omega) (.int .i64 0) (.string ⟨#[]⟩) (.int .i64 0)
      have B := gb_puts (gb_trans (gb_alloc (gb_below (((Below.refl _ _).alloc (Nat.le_refl _) _).trans (hb1.mono (by simp))) (some b)) (.cells #[.int .i64 0, .string ⟨#[]⟩, .int .i64 0] 133)) hg3) (Nat.le_refl _) (.int .i64 0) (.string ⟨#[]⟩) (.int .i64 0)
      exact bodyPost_ret (v := .agg #[.int .i64 0, .string ⟨#[]⟩, .int .i64 0]) (by simp [results, Tryd.results82, go_sem, G.cell0, G.cell1, G.cell2]) rfl ⟨rfl, R, B⟩
  · rw [asked_some hx]
    show Calls _ _ _ _ fun e w' => e = .returned (.agg #[.int .i64 0, .string ⟨#[]⟩, .int .i64 0]) ∧ Rd 131 w' b s p x ∧ _
    have hcb : (x != 0) = true := by simpa using hx
    clear hx hc
    go_enter Tryd.func82, Tryd.ntmps82
    go_wp2
    exact bodyPost_ret (v := .agg #[.int .i64 0, .string ⟨#[]⟩, .int .i64 0]) (by simp [results, Tryd.results82, go_sem]) rfl ⟨rfl, hr1, gb_alloc (World.grownBy.refl _ _) _⟩

end Go.Proofs.YtcidfkkgpehodaaDoor.Zq.Nm

namespace Go.Proofs.YtcidfkkgpehodaaDoor.Zq.Nm
open Go.RowKit Go.Lib

theorem run_field0 (n : Int) (t : ByteArray) (l : Int) (w : World) : (Instr.field 133 (.agg #[.int .i64 n, .string t, .int .i64 l]) 0).run Tryd.prog w = .ok (.int .i64 n) w := by kernel_rfl
theorem run_field1 (n : Int) (t : ByteArray) (l : Int) (w : World) : (Instr.field 133 (.agg #[.int .i64 n, .string t, .int .i64 l]) 1).run Tryd.prog w = .ok (.string t) w := by kernel_rfl

theorem rFixed_any {w : World} {b : Nat} {s : ByteArray} {p : Nat} {x : Int} (n : Int) (hr : Rd 131 w b s p x) (hp : p ≤ s.size) (hs : s.size ≤ 140737488355328) (hn : n ≤ 9223372036854775807) :
    Calls Tryd.prog 63 #[.pointer (some ⟨b, 0, none⟩), .int .i64 n] w fun e w' => e = .returned (.int .i64 (asked x (fixedA s p n)).num) ∧ Rd 131 w' b s (p + (asked x (fixedA s p n)).long) (asked x (fixedA s p n)).code ∧ w.grownBy w' (some b) := by
  have hc := ask_35 n (fixedA s p n) hr hs (fixedA_ok s p n) (fun w1 h1 => fixedAhead_any n h1 hp hs hn)
  generalize asked x (fixedA s p n) = A at *
  have HC : Hid (Calls Tryd.prog 82 #[.pointer (some ⟨b, 0, none⟩), .func (.func 83) #[.pointer (some ⟨b, 0, none⟩)] #[], .int .i64 n] w fun e w' => e = .returned (.agg #[.int .i64 A.num, .string A.txt, .int .i64 A.long]) ∧ Rd 131 w' b s (p + A.long) A.code ∧ w.grownBy w' (some b)) := hc
  clear hc
  go_enter Tryd.func63, Tryd.ntmps63
  go_wp2_with fail
  refine Calls.mono HC.out ?_
  rintro e w1 ⟨rfl, hr1, hg1⟩
  clear HC
  have hf0 := run_field0
  have hf1 := run_field1
  go_wp2
  go_ret
  exact ⟨rfl, hr1, hg1⟩

theorem rShort_any {w : World} {b : Nat} {s : ByteArray} {p : Nat} {x : Int} (n : Int) (hr : Rd 131 w b s p x) (hp : p ≤ s.size) (hs : s.size ≤ 140737488355328) :
    Calls Tryd.prog 64 #[.pointer (some ⟨b, 0, none⟩), .int .i64 n] w fun e w' => e = .returned (.int .i64 (asked x (shortA s p n)).num) ∧ Rd 131 w' b s (p + (asked x (shortA s p n)).long) (asked x (shortA s p n)).code ∧ w.grownBy w' (some b) := by
  have hc := ask_36 n (shortA s p n) hr hs (shortA_ok s p n hp) (fun w1 h1 => shortAhead_any n h1 hp hs)
  generalize asked x (shortA s p n) = A at *
  have HC : Hid (Calls Tryd.prog 82 #[.pointer (some ⟨b, 0, none⟩), .func (.func 84) #[.pointer (some ⟨b, 0, none⟩)] #[], .int .i64 n] w fun e w' => e = .returned (.agg #[.int .i64 A.num, .string A.txt, .int .i64 A.long]) ∧ Rd 131 w' b s (p + A.long) A.code ∧ w.grownBy w' (some b)) := hc
  clear hc
  go_enter Tryd.func64, Tryd.ntmps64
  go_wp2_with fail
  refine Calls.mono HC.out ?_
  rintro e w1 ⟨rfl, hr1, hg1⟩
  clear HC
  have hf0 := run_field0
  have hf1 := run_field1
  go_wp2
  go_ret
  exact ⟨rfl, hr1, hg1⟩

theorem rBytes_any {w : World} {b : Nat} {s : ByteArray} {p : Nat} {x : Int} (n : Int) (hr : Rd 131 w b s p x) (hp : p ≤ s.size) (hs : s.size ≤ 140737488355328) (hn : n ≤ 9223372036854775807) :
    Calls Tryd.prog 74 #[.pointer (some ⟨b, 0, none⟩), .int .i64 n] w fun e w' => e = .returned (.string (asked x (bytesA s p n)).txt) ∧ Rd 131 w' b s (p + (asked x (bytesA s p n)).long) (asked x (bytesA s p n)).code ∧ w.grownBy w' (some b) := by
  have hc := ask_38 n (bytesA s p n) hr hs (bytesA_ok s p n) (fun w1 h1 => bytesAhead_any n h1 hp hs hn)
  generalize asked x (bytesA s p n) = A at *
  have HC : Hid (Calls Tryd.prog 82 #[.pointer (some ⟨b, 0, none⟩), .func (.func 91) #[.pointer (some ⟨b, 0, none⟩)] #[], .int .i64 n] w fun e w' => e = .returned (.agg #[.int .i64 A.num, .string A.txt, .int .i64 A.long]) ∧ Rd 131 w' b s (p + A.long) A.code ∧ w.grownBy w' (some b)) := hc
  clear hc
  go_enter Tryd.func74, Tryd.ntmps74
  go_wp2_with fail
  refine Calls.mono HC.out ?_
  rintro e w1 ⟨rfl, hr1, hg1⟩
  clear HC
  have hf0 := run_field0
  have hf1 := run_field1
  go_wp2
  go_ret
  exact ⟨rfl, hr1, hg1⟩

end Go.Proofs.YtcidfkkgpehodaaDoor.Zq.Nm

namespace Go.Proofs.YtcidfkkgpehodaaDoor.Zq.Nm
open Go.RowKit Go.Lib

end Go.Proofs.YtcidfkkgpehodaaDoor.Zq.Nm


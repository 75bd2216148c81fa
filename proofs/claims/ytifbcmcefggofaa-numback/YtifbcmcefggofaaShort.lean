/-
  The contracts of the functions that write short numbers and texts.
-/
import Derived.Test.YtifbcmcefggofaaRows
import Derived.Test.YtifbcmcefggofaaMath
import Derived.WalkKit
import Derived.WalkSpells
import Derived.WalkLawsBesides
namespace Go.Proofs.Ytifbcmcefggofaa
open Go.RowKit Go.Lib

theorem Try.info5 : (Try.prog.info? 5).map (fun i => (i.zero, i.size, i.bytes)) = some (some (.int .u8 0), 1, 1) := by kernel_rfl

/-- An owned row of bytes, turned into a string. -/
theorem run_string_of_own {w : World} {base : Nat} {v : Value} {l : List UInt8} (h : w.ownsRow base 5 1 v l.length (byteCells l)) :
    (convert 49 9 v).run Try.prog w = .ok (.string (strOf l)) w := by
  rcases h.2 with ⟨hv, hn⟩ | ⟨g, cap, cur, hv, _⟩
  · subst hv
    have hl : l = [] := List.eq_nil_of_length_eq_zero hn
    subst hl
    exact run_convert_bytes_nil w 49 5 Try.underlying49 Try.underlying5 0 0 9 Try.underlying9
  · subst hv
    have hc := fun j (hj : j < l.length) => h.cellAt j (by omega)
    have := run_convert_bytes_arg w 49 5 Try.underlying49 Try.underlying5 g 0 l.length cap (l.map fun b => (b.toNat : Int)) (by simp)
      (fun i hi => by
        rw [Nat.zero_add, hc i hi]
        simp [byteCells, hi]) 9 Try.underlying9
    rw [this]
    have e : (l.map fun b => (b.toNat : Int)).map (fun n => UInt8.ofNat n.toNat) = l := by
      rw [List.map_map]
      exact (List.map_congr_left fun a _ => by simp).trans (List.map_id l)
    simp only [strOfNums, strOf, e]

/-- One byte more behind an owned row. -/
theorem rel_app {B : Nat} {w wr w1 : World} {v v' : Value} {pre : List UInt8} {o : Obj} {a : Nat} (ha : a < 256) (hown : wr.ownsRow B 5 1 v pre.length (byteCells pre)) (hb : Below B w wr) (hB : B ≤ wr.heap.size)
    (hown' : w1.ownsRow B 5 1 v' (pre.length + 1) (byteCells pre ++ [.int .u8 (a : Int)])) (hgrow : (wr.alloc o).grownBy w1 v.ownBlock) :
    w1.ownsRow B 5 1 v' (pre ++ [a.toUInt8]).length (byteCells (pre ++ [a.toUInt8])) ∧ Below B w w1 := by
  rw [byteCells_snoc pre ha, List.length_append]
  exact ⟨hown', (hb.alloc hB o).grown hgrow (by simp; omega) (fun j hj => (hown.lt j hj).1)⟩

set_option maxHeartbeats 400000 in
set_option maxRecDepth 100000 in
theorem small_any (n : Nat) (w : World) (hn : n ≤ 9223372036854775807) :
    Calls Try.prog 27 #[.int .i64 n] w fun e w' => e = .returned (.string (strOf (uvarint n))) ∧ Below w.heap.size w w' := by
  obtain ⟨i0, hi, hz0, hz1, hz2⟩ := info_parts Try.info5
  go_enter Try.func27, Try.ntmps27
  go_wp2
  go_loopw [0, 3] (fun x v wr => ∃ (m : Nat) (pre : List UInt8), x = .int .i64 m ∧ m ≤ 9223372036854775807 ∧ pre ++ uvarint m = uvarint n ∧ wr.ownsRow w.heap.size 5 1 v pre.length (byteCells pre) ∧ Below w.heap.size w wr)
    (fun x _ _ => (intOf x).toNat)
  case atStart => exact ⟨n, [], rfl, hn, rfl, World.ownsRow_nil _ _ _ _, Below.refl _ _⟩
  case round =>
    obtain ⟨m, pre, rfl, hm, heq, hown, hb⟩ := hrel
    have HE : Hid (pre ++ uvarint m = uvarint n) := heq
    clear heq
    have hpl : pre.length ≤ 9 := by
      have h1 := uvarint_nine hn
      have h2 := congrArg List.length HE.out
      rw [List.length_append] at h2
      omega
    by_cases hlt : 128 ≤ m
    · go_wp2_with (first | (at_builtin; refine wpList_append_own _ rfl (.tmp 6) (.tmp 11) 49 rfl w.heap.size 5 i0 (.int .u8 0) 1 1 Try.underlying49 hi hz0 hz1 hz2 rfl (by decide) _ _ _ rfl (hown.alloc _) ⟨wr.heap.size, 0, none⟩ 1 1 [.int .u8 (128 + (m : Int) % 128)] rfl rfl (cell_one_new _ _ _) (by intro u hu; simp at hu; subst hu; rfl) (by unfold maxLen; omega) (by omega) (by have := hb.size; simp; omega) ?_))
      intro v' w1 hown' hgrow _
      have R := rel_app (a := m % 128 + 128) (by omega) hown hb hb.size (by rw [show ((m % 128 + 128 : Nat) : Int) = 128 + (m : Int) % 128 from by omega]; exact hown') hgrow
      clear hown' hgrow hown
      go_wp2
      go_roundw
      case rel => exact ⟨m / 128, pre ++ [(m % 128 + 128).toUInt8], by go_num, by omega, by rw [← HE.out, uvarint_big hlt]; simp, R.1, R.2⟩
      case measure => simp [intOf]; omega
    · go_wp2_with (first | (at_builtin; refine wpList_append_own _ rfl (.tmp 15) (.tmp 18) 49 rfl w.heap.size 5 i0 (.int .u8 0) 1 1 Try.underlying49 hi hz0 hz1 hz2 rfl (by decide) _ _ _ rfl (hown.alloc _) ⟨wr.heap.size, 0, none⟩ 1 1 [.int .u8 (m : Int)] rfl rfl (cell_one_new _ _ _) (by intro u hu; simp at hu; subst hu; rfl) (by unfold maxLen; omega) (by omega) (by have := hb.size; simp; omega) ?_))
      intro v' w1 hown' hgrow _
      have R := rel_app (a := m) (by omega) hown hb hb.size hown' hgrow
      clear hown' hgrow hown
      have hs := run_string_of_own R.1
      rw [show pre ++ [m.toUInt8] = uvarint n from by rw [← HE.out, uvarint_small (by omega)]] at hs
      go_wp2
      go_ret
      exact ⟨rfl, R.2⟩

theorem or128_of (m : Nat) : bits .or .u8 ((m : Int) % 256) 128 = ((m % 128 + 128 : Nat) : Int) := by
  rw [u8_or128_any _ (by omega) (by omega)]; omega

set_option maxHeartbeats 400000 in
set_option maxRecDepth 100000 in
theorem short_any (n : Nat) (w : World) (hn : n ≤ 9223372036854775807) :
    Calls Try.prog 10 #[.int .i64 n] w fun e w' => e = .returned (.tuple #[.string (strOf (uvarint n)), .int .i64 0]) ∧ Below w.heap.size w w' := by
  obtain ⟨i0, hi, hz0, hz1, hz2⟩ := info_parts Try.info5
  go_enter Try.func10, Try.ntmps10
  go_wp2_with (at_make; refine wpList_make_own _ rfl _ _ 49 rfl w.heap.size 5 i0 (.int .u8 0) 1 Try.underlying49 hi hz0 hz1 _ _ _ 9 rfl rfl rfl (by omega) (by unfold maxLen; omega) (Nat.le_refl _) ?_)
  intro w0 hown0 hgrow0
  have hb0 : Below w.heap.size w w0 := (Below.refl _ _).grown hgrow0 (Nat.le_refl _) (fun k hk => by cases hk)
  clear hgrow0
  go_wp2
  go_loopw [0, 4] (fun x v wr => ∃ (m : Nat) (pre : List UInt8), x = .int .i64 m ∧ m ≤ 9223372036854775807 ∧ pre ++ uvarint m = uvarint n ∧ wr.ownsRow w.heap.size 5 1 v pre.length (byteCells pre) ∧ Below w.heap.size w wr)
    (fun x _ _ => (intOf x).toNat)
  case atStart => exact ⟨n, [], rfl, hn, rfl, hown0, hb0⟩
  case round =>
    clear hown0 hb0
    obtain ⟨m, pre, rfl, hm, heq, hown, hb⟩ := hrel
    have HE : Hid (pre ++ uvarint m = uvarint n) := heq
    clear heq
    have hpl : pre.length ≤ 9 := by
      have h1 := uvarint_nine hn
      have h2 := congrArg List.length HE.out
      rw [List.length_append] at h2
      omega
    by_cases hlt : 128 ≤ m
    · have hor := or128_of m
      go_wp2_with (first | (at_builtin; refine wpList_append_own _ rfl (.tmp 10) (.tmp 14) 49 rfl w.heap.size 5 i0 (.int .u8 0) 1 1 Try.underlying49 hi hz0 hz1 hz2 rfl (by decide) _ _ _ rfl (hown.alloc _) ⟨wr.heap.size, 0, none⟩ 1 1 [.int .u8 ((m % 128 + 128 : Nat) : Int)] rfl rfl (cell_one_new _ _ _) (by intro u hu; simp at hu; subst hu; rfl) (by unfold maxLen; omega) (by omega) (by have := hb.size; simp; omega) ?_))
      intro v' w1 hown' hgrow _
      have R := rel_app (a := m % 128 + 128) (by omega) hown hb hb.size hown' hgrow
      clear hown' hgrow hown hor
      go_wp2
      go_roundw
      case rel => exact ⟨m / 128, pre ++ [(m % 128 + 128).toUInt8], by go_num, by omega, by rw [← HE.out, uvarint_big hlt]; simp, R.1, R.2⟩
      case measure => simp [intOf]; omega
    · go_wp2_with (first | (at_builtin; refine wpList_append_own _ rfl (.tmp 18) (.tmp 21) 49 rfl w.heap.size 5 i0 (.int .u8 0) 1 1 Try.underlying49 hi hz0 hz1 hz2 rfl (by decide) _ _ _ rfl (hown.alloc _) ⟨wr.heap.size, 0, none⟩ 1 1 [.int .u8 (m : Int)] rfl rfl (cell_one_new _ _ _) (by intro u hu; simp at hu; subst hu; rfl) (by unfold maxLen; omega) (by omega) (by have := hb.size; simp; omega) ?_))
      intro v' w1 hown' hgrow _
      have R := rel_app (a := m) (by omega) hown hb hb.size hown' hgrow
      clear hown' hgrow hown
      have hs := run_string_of_own R.1
      rw [show pre ++ [m.toUInt8] = uvarint n from by rw [← HE.out, uvarint_small (by omega)]] at hs
      go_wp2
      go_ret2
      exact ⟨rfl, R.2⟩

theorem short_neg (n : Int) (w : World) (hn : n < 0) :
    Calls Try.prog 10 #[.int .i64 n] w fun e w' => e = .returned (.tuple #[.string ⟨#[]⟩, .int .i64 1]) ∧ w' = w := by
  go_enter Try.func10, Try.ntmps10
  go_wp2
  go_ret2
  exact ⟨rfl, rfl⟩

theorem refShort_neg (n : Int) (w : World) (hn : n < 0) :
    Calls Try.prog 11 #[.int .i64 n] w fun e w' => e = .returned (.tuple #[.string ⟨#[]⟩, .int .i64 1]) ∧ w' = w := by
  go_enter Try.func11, Try.ntmps11
  go_wp2
  go_ret2
  exact ⟨rfl, rfl⟩

theorem refShort_any (n : Nat) (w : World) (hn : n ≤ 9223372036854775807) :
    Calls Try.prog 11 #[.int .i64 n] w fun e w' => e = .returned (.tuple #[.string (strOf (uvarint n)), .int .i64 0]) ∧ Below w.heap.size w w' := by
  go_enter Try.func11, Try.ntmps11
  go_wp2_with (go_at_call 27; refine (small_any n _ hn).mono ?_; rintro e w1 ⟨rfl, hb⟩)
  go_ret2
  exact ⟨rfl, hb⟩

/-- A text's bytes: its length as a short number, then the text. -/
def textOf (s : ByteArray) : ByteArray := strOf (uvarint s.size ++ s.data.toList)

theorem textOf_eq (s : ByteArray) : strOf (uvarint s.size) ++ s = textOf s := by
  apply ByteArray.ext
  simp [textOf, strOf, ByteArray.data_append]

set_option maxRecDepth 100000 in
theorem text_any (s : ByteArray) (w : World) (hs : s.size ≤ 140737488355328) :
    Calls Try.prog 12 #[.string s] w fun e w' => e = .returned (.string (textOf s)) ∧ Below w.heap.size w w' := by
  have hl := uvarint_nine (x := s.size) (by omega)
  have hz : (strOf (uvarint s.size)).size ≤ 9 := by rw [strOf_size]; exact hl
  clear hl
  go_enter Try.func12, Try.ntmps12
  go_wp2_with (go_at_call 10; refine (short_any s.size _ (by omega)).mono ?_; rintro e w1 ⟨rfl, hb⟩)
  go_ret
  exact ⟨by rw [← textOf_eq]; rfl, hb⟩

set_option maxRecDepth 100000 in
theorem refText_any (s : ByteArray) (w : World) (hs : s.size ≤ 140737488355328) :
    Calls Try.prog 13 #[.string s] w fun e w' => e = .returned (.string (textOf s)) ∧ Below w.heap.size w w' := by
  have hl := uvarint_nine (x := s.size) (by omega)
  have hz : (strOf (uvarint s.size)).size ≤ 9 := by rw [strOf_size]; exact hl
  clear hl
  go_enter Try.func13, Try.ntmps13
  go_wp2_with (go_at_call 27; refine (small_any s.size _ (by omega)).mono ?_; rintro e w1 ⟨rfl, hb⟩)
  go_ret
  exact ⟨by rw [← textOf_eq]; rfl, hb⟩

theorem short_300 : strOf (uvarint 300) = ⟨#[172, 2]⟩ := by
  rw [uvarint_big (by omega), uvarint_small (by omega)]; rfl
theorem text_ab : textOf ⟨#[97, 98]⟩ = ⟨#[2, 97, 98]⟩ := by
  unfold textOf
  rw [show (⟨#[97, 98]⟩ : ByteArray).size = 2 from rfl, uvarint_small (by omega)]; rfl

set_option maxRecDepth 100000 in
theorem works_any (w : World) :
    Calls Try.prog 14 #[] w fun e w' => e = .returned (.bool true) ∧ Below w.heap.size w w' := by
  go_enter Try.func14, Try.ntmps14
  go_wp2_with fail
  refine (short_any 300 _ (by omega)).mono ?_
  rintro e w1 ⟨rfl, hb⟩
  rw [short_300]
  go_wp2_with fail
  refine (text_any ⟨#[97, 98]⟩ _ (by decide)).mono ?_
  rintro e w2 ⟨rfl, hb2⟩
  rw [text_ab]
  go_wp2
  go_ret
  exact ⟨rfl, hb.trans (hb2.mono hb.size)⟩

end Go.Proofs.Ytifbcmcefggofaa

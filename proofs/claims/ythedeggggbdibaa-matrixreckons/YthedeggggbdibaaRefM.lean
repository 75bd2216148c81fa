/-
  What is refused: Mul, Inverse, Rank, Turn and Pick, of the program and of the document.
-/
import Derived.Test.YthedeggggbdibaaRefL
namespace Go.Proofs.Ythedeggggbdibaa
open Go.RowKit Go.Lib

set_option maxRecDepth 100000 in
theorem inverse_bad {w : World} {f n : Nat} {va : Value} {Z : Nat → Int} {r c : Int} {sb : Nat} (h : NX w f va n Z) (hn : n ≤ 140737488355328) (h0 : chk r c n Z ≠ 0) :
    Calls Try.prog 15 #[.pointer (some ⟨sb, 0, none⟩), .agg #[.int .i64 r, .int .i64 c, va]] w fun e w' => e = .returned (.tuple #[.agg #[.int .i64 0, .int .i64 0, .slice none 0 0], .int .i64 (chk r c n Z)]) ∧ Below w.heap.size w w' := by
  obtain ⟨aa, cp, rfl⟩ := (show ∃ a c, va = .slice a n c from by obtain ⟨a, c, e, _⟩ := h; exact ⟨a, c, e⟩)
  obtain ⟨oA, hoA⟩ : ∃ o, o = Obj.cells #[.int .i64 r, .int .i64 c, .slice aa n cp] 24 := ⟨_, rfl⟩
  obtain ⟨oR, hoR⟩ : ∃ o, o = Obj.cells #[.int .i64 0, .int .i64 0, .slice none 0 0] 24 := ⟨_, rfl⟩
  have L2 := below_alloc (below_alloc (Below.refl w.heap.size w) oA) oR
  have A2 := (h.alloc oA).alloc oR
  have X1 := (show Bx (w.alloc oA) w.heap.size r c (.slice aa n cp) by rw [hoA]; exact Bx.new _ _ _ _).alloc oR
  have X2 := show Bx ((w.alloc oA).alloc oR) (w.alloc oA).heap.size 0 0 (.slice none 0 0) by rw [hoR]; exact Bx.new _ _ _ _
  rw [show (w.alloc oA).heap.size = w.heap.size + 1 by simp] at X2
  rw [hoA, hoR] at L2 A2 X1 X2
  have HX2 := hide X2
  have HA := hide A2
  have HL := hide L2
  have HX1 := hide X1
  clear h A2 L2 X1 hoA X2 hoR
  go_enter Try.func15, Try.ntmps15
  go_wp2_with fail
  refine (check_any HA.out hn).mono ?_
  rintro e w1 ⟨rfl, k1⟩
  have L1 := below_step HL.out k1
  have X1 := HX1.out.below k1 (Nat.le_refl _)
  have m0 := X1.cell0
  have m1 := X1.cell1
  have HL1 := hide L1
  have Y := HX2.out.below k1 (Nat.le_refl _)
  have z0 := Y.cell0
  have z1 := Y.cell1
  have z2 := Y.cell2
  have zf := Y.free
  have HY := hide Y
  clear HX2 Y
  clear HA HL HX1 X1 L1 k1
  obtain ⟨e0, he⟩ : ∃ e0, e0 = chk r c n Z := ⟨_, rfl⟩
  rw [← he] at h0 ⊢
  have HE := hide he
  clear he
  have hb : (e0 != 0) = true := by simpa using h0
  go_wp2
  obtain ⟨hX5, g5⟩ := HY.out.put (0 : Int) (0 : Int) (.slice none 0 0)
  exact bodyPost_ret (v := .tuple #[.agg #[.int .i64 0, .int .i64 0, .slice none 0 0], .int .i64 (e0)]) (by simp [results, Try.results15, go_sem, hX5.cell0, hX5.cell1, hX5.cell2]) rfl ⟨by rw [HE.out], below_gb HL1.out g5 (by omega) HL1.out.size⟩

set_option maxRecDepth 100000 in
theorem refInverse_bad {w : World} {f n : Nat} {va : Value} {Z : Nat → Int} {r c : Int}  (h : NX w f va n Z) (hn : n ≤ 140737488355328) (h0 : chk r c n Z ≠ 0) :
    Calls Try.prog 16 #[.agg #[.int .i64 r, .int .i64 c, va]] w fun e w' => e = .returned (.tuple #[.agg #[.int .i64 0, .int .i64 0, .slice none 0 0], .int .i64 (chk r c n Z)]) ∧ Below w.heap.size w w' := by
  obtain ⟨aa, cp, rfl⟩ := (show ∃ a c, va = .slice a n c from by obtain ⟨a, c, e, _⟩ := h; exact ⟨a, c, e⟩)
  obtain ⟨oA, hoA⟩ : ∃ o, o = Obj.cells #[.int .i64 r, .int .i64 c, .slice aa n cp] 29 := ⟨_, rfl⟩
  obtain ⟨oR, hoR⟩ : ∃ o, o = Obj.cells #[.int .i64 0, .int .i64 0, .slice none 0 0] 29 := ⟨_, rfl⟩
  have L2 := below_alloc (below_alloc (Below.refl w.heap.size w) oA) oR
  have A2 := (h.alloc oA).alloc oR
  have X1 := (show Br (w.alloc oA) w.heap.size r c (.slice aa n cp) by rw [hoA]; exact Br.new _ _ _ _).alloc oR
  have X2 := show Br ((w.alloc oA).alloc oR) (w.alloc oA).heap.size 0 0 (.slice none 0 0) by rw [hoR]; exact Br.new _ _ _ _
  rw [show (w.alloc oA).heap.size = w.heap.size + 1 by simp] at X2
  rw [hoA, hoR] at L2 A2 X1 X2
  have HX2 := hide X2
  have HA := hide A2
  have HL := hide L2
  have HX1 := hide X1
  clear h A2 L2 X1 hoA X2 hoR
  go_enter Try.func16, Try.ntmps16
  go_wp2_with fail
  refine (refCheck_any HA.out hn).mono ?_
  rintro e w1 ⟨rfl, k1⟩
  have L1 := below_step HL.out k1
  have X1 := HX1.out.below k1 (Nat.le_refl _)
  have m0 := X1.cell0
  have m1 := X1.cell1
  have HL1 := hide L1
  have Y := HX2.out.below k1 (Nat.le_refl _)
  have z0 := Y.cell0
  have z1 := Y.cell1
  have z2 := Y.cell2
  have zf := Y.free
  have HY := hide Y
  clear HX2 Y
  clear HA HL HX1 X1 L1 k1
  obtain ⟨e0, he⟩ : ∃ e0, e0 = chk r c n Z := ⟨_, rfl⟩
  rw [← he] at h0 ⊢
  have HE := hide he
  clear he
  have hb : (e0 != 0) = true := by simpa using h0
  go_wp2
  obtain ⟨hX5, g5⟩ := HY.out.put (0 : Int) (0 : Int) (.slice none 0 0)
  exact bodyPost_ret (v := .tuple #[.agg #[.int .i64 0, .int .i64 0, .slice none 0 0], .int .i64 (e0)]) (by simp [results, Try.results16, go_sem, hX5.cell0, hX5.cell1, hX5.cell2]) rfl ⟨by rw [HE.out], below_gb HL1.out g5 (by omega) HL1.out.size⟩

set_option maxRecDepth 100000 in
theorem inverse_bad2 {w : World} {f n : Nat} {va : Value} {Z : Nat → Int} {r c : Int} {sb : Nat} (h : NX w f va n Z) (hn : n ≤ 140737488355328) (h0 : chk r c n Z = 0) (hrc : r ≠ c) :
    Calls Try.prog 15 #[.pointer (some ⟨sb, 0, none⟩), .agg #[.int .i64 r, .int .i64 c, va]] w fun e w' => e = .returned (.tuple #[.agg #[.int .i64 0, .int .i64 0, .slice none 0 0], .int .i64 (4)]) ∧ Below w.heap.size w w' := by
  obtain ⟨aa, cp, rfl⟩ := (show ∃ a c, va = .slice a n c from by obtain ⟨a, c, e, _⟩ := h; exact ⟨a, c, e⟩)
  obtain ⟨oA, hoA⟩ : ∃ o, o = Obj.cells #[.int .i64 r, .int .i64 c, .slice aa n cp] 24 := ⟨_, rfl⟩
  obtain ⟨oR, hoR⟩ : ∃ o, o = Obj.cells #[.int .i64 0, .int .i64 0, .slice none 0 0] 24 := ⟨_, rfl⟩
  have L2 := below_alloc (below_alloc (Below.refl w.heap.size w) oA) oR
  have A2 := (h.alloc oA).alloc oR
  have X1 := (show Bx (w.alloc oA) w.heap.size r c (.slice aa n cp) by rw [hoA]; exact Bx.new _ _ _ _).alloc oR
  have X2 := show Bx ((w.alloc oA).alloc oR) (w.alloc oA).heap.size 0 0 (.slice none 0 0) by rw [hoR]; exact Bx.new _ _ _ _
  rw [show (w.alloc oA).heap.size = w.heap.size + 1 by simp] at X2
  rw [hoA, hoR] at L2 A2 X1 X2
  have HX2 := hide X2
  have HA := hide A2
  have HL := hide L2
  have HX1 := hide X1
  clear h A2 L2 X1 hoA X2 hoR
  go_enter Try.func15, Try.ntmps15
  go_wp2_with fail
  refine (check_any HA.out hn).mono ?_
  rintro e w1 ⟨rfl, k1⟩
  have L1 := below_step HL.out k1
  have X1 := HX1.out.below k1 (Nat.le_refl _)
  have m0 := X1.cell0
  have m1 := X1.cell1
  have HL1 := hide L1
  have Y := HX2.out.below k1 (Nat.le_refl _)
  have z0 := Y.cell0
  have z1 := Y.cell1
  have z2 := Y.cell2
  have zf := Y.free
  have HY := hide Y
  clear HX2 Y
  clear HA HL HX1 X1 L1 k1
  rw [h0]
  have hb : (r != c) = true := by simpa using hrc
  go_wp2
  obtain ⟨hX5, g5⟩ := HY.out.put (0 : Int) (0 : Int) (.slice none 0 0)
  exact bodyPost_ret (v := .tuple #[.agg #[.int .i64 0, .int .i64 0, .slice none 0 0], .int .i64 (4)]) (by simp [results, Try.results15, go_sem, hX5.cell0, hX5.cell1, hX5.cell2]) rfl ⟨rfl, below_gb HL1.out g5 (by omega) HL1.out.size⟩

set_option maxRecDepth 100000 in
theorem refInverse_bad2 {w : World} {f n : Nat} {va : Value} {Z : Nat → Int} {r c : Int}  (h : NX w f va n Z) (hn : n ≤ 140737488355328) (h0 : chk r c n Z = 0) (hrc : r ≠ c) :
    Calls Try.prog 16 #[.agg #[.int .i64 r, .int .i64 c, va]] w fun e w' => e = .returned (.tuple #[.agg #[.int .i64 0, .int .i64 0, .slice none 0 0], .int .i64 (4)]) ∧ Below w.heap.size w w' := by
  obtain ⟨aa, cp, rfl⟩ := (show ∃ a c, va = .slice a n c from by obtain ⟨a, c, e, _⟩ := h; exact ⟨a, c, e⟩)
  obtain ⟨oA, hoA⟩ : ∃ o, o = Obj.cells #[.int .i64 r, .int .i64 c, .slice aa n cp] 29 := ⟨_, rfl⟩
  obtain ⟨oR, hoR⟩ : ∃ o, o = Obj.cells #[.int .i64 0, .int .i64 0, .slice none 0 0] 29 := ⟨_, rfl⟩
  have L2 := below_alloc (below_alloc (Below.refl w.heap.size w) oA) oR
  have A2 := (h.alloc oA).alloc oR
  have X1 := (show Br (w.alloc oA) w.heap.size r c (.slice aa n cp) by rw [hoA]; exact Br.new _ _ _ _).alloc oR
  have X2 := show Br ((w.alloc oA).alloc oR) (w.alloc oA).heap.size 0 0 (.slice none 0 0) by rw [hoR]; exact Br.new _ _ _ _
  rw [show (w.alloc oA).heap.size = w.heap.size + 1 by simp] at X2
  rw [hoA, hoR] at L2 A2 X1 X2
  have HX2 := hide X2
  have HA := hide A2
  have HL := hide L2
  have HX1 := hide X1
  clear h A2 L2 X1 hoA X2 hoR
  go_enter Try.func16, Try.ntmps16
  go_wp2_with fail
  refine (refCheck_any HA.out hn).mono ?_
  rintro e w1 ⟨rfl, k1⟩
  have L1 := below_step HL.out k1
  have X1 := HX1.out.below k1 (Nat.le_refl _)
  have m0 := X1.cell0
  have m1 := X1.cell1
  have HL1 := hide L1
  have Y := HX2.out.below k1 (Nat.le_refl _)
  have z0 := Y.cell0
  have z1 := Y.cell1
  have z2 := Y.cell2
  have zf := Y.free
  have HY := hide Y
  clear HX2 Y
  clear HA HL HX1 X1 L1 k1
  rw [h0]
  have hb : (r != c) = true := by simpa using hrc
  go_wp2
  obtain ⟨hX5, g5⟩ := HY.out.put (0 : Int) (0 : Int) (.slice none 0 0)
  exact bodyPost_ret (v := .tuple #[.agg #[.int .i64 0, .int .i64 0, .slice none 0 0], .int .i64 (4)]) (by simp [results, Try.results16, go_sem, hX5.cell0, hX5.cell1, hX5.cell2]) rfl ⟨rfl, below_gb HL1.out g5 (by omega) HL1.out.size⟩

set_option maxRecDepth 100000 in
theorem rank_bad {w : World} {f n : Nat} {va : Value} {Z : Nat → Int} {r c : Int} {sb : Nat} (h : NX w f va n Z) (hn : n ≤ 140737488355328) (h0 : chk r c n Z ≠ 0) :
    Calls Try.prog 17 #[.pointer (some ⟨sb, 0, none⟩), .agg #[.int .i64 r, .int .i64 c, va]] w fun e w' => e = .returned (.tuple #[.int .i64 0, .int .i64 (chk r c n Z)]) ∧ Below w.heap.size w w' := by
  obtain ⟨aa, cp, rfl⟩ := (show ∃ a c, va = .slice a n c from by obtain ⟨a, c, e, _⟩ := h; exact ⟨a, c, e⟩)
  obtain ⟨oA, hoA⟩ : ∃ o, o = Obj.cells #[.int .i64 r, .int .i64 c, .slice aa n cp] 24 := ⟨_, rfl⟩
  obtain ⟨oR, hoR⟩ : ∃ o, o = Obj.cells #[.int .i64 0, .int .i64 0, .slice none 0 0] 24 := ⟨_, rfl⟩
  have L2 := below_alloc (Below.refl w.heap.size w) oA
  have A2 := h.alloc oA
  have X1 := show Bx (w.alloc oA) w.heap.size r c (.slice aa n cp) by rw [hoA]; exact Bx.new _ _ _ _
  rw [hoA] at L2 A2 X1
  clear hoR
  have HA := hide A2
  have HL := hide L2
  have HX1 := hide X1
  clear h A2 L2 X1 hoA
  go_enter Try.func17, Try.ntmps17
  go_wp2_with fail
  refine (check_any HA.out hn).mono ?_
  rintro e w1 ⟨rfl, k1⟩
  have L1 := below_step HL.out k1
  have X1 := HX1.out.below k1 (Nat.le_refl _)
  have m0 := X1.cell0
  have m1 := X1.cell1
  have HL1 := hide L1
  clear HA HL HX1 X1 L1 k1
  obtain ⟨e0, he⟩ : ∃ e0, e0 = chk r c n Z := ⟨_, rfl⟩
  rw [← he] at h0 ⊢
  have HE := hide he
  clear he
  have hb : (e0 != 0) = true := by simpa using h0
  go_wp2
  exact bodyPost_ret (v := .tuple #[.int .i64 0, .int .i64 e0]) (by simp [results, Try.results17, go_sem]) rfl ⟨by rw [HE.out], HL1.out⟩

set_option maxRecDepth 100000 in
theorem refRank_bad {w : World} {f n : Nat} {va : Value} {Z : Nat → Int} {r c : Int}  (h : NX w f va n Z) (hn : n ≤ 140737488355328) (h0 : chk r c n Z ≠ 0) :
    Calls Try.prog 18 #[.agg #[.int .i64 r, .int .i64 c, va]] w fun e w' => e = .returned (.tuple #[.int .i64 0, .int .i64 (chk r c n Z)]) ∧ Below w.heap.size w w' := by
  obtain ⟨aa, cp, rfl⟩ := (show ∃ a c, va = .slice a n c from by obtain ⟨a, c, e, _⟩ := h; exact ⟨a, c, e⟩)
  obtain ⟨oA, hoA⟩ : ∃ o, o = Obj.cells #[.int .i64 r, .int .i64 c, .slice aa n cp] 29 := ⟨_, rfl⟩
  obtain ⟨oR, hoR⟩ : ∃ o, o = Obj.cells #[.int .i64 0, .int .i64 0, .slice none 0 0] 29 := ⟨_, rfl⟩
  have L2 := below_alloc (Below.refl w.heap.size w) oA
  have A2 := h.alloc oA
  have X1 := show Br (w.alloc oA) w.heap.size r c (.slice aa n cp) by rw [hoA]; exact Br.new _ _ _ _
  rw [hoA] at L2 A2 X1
  clear hoR
  have HA := hide A2
  have HL := hide L2
  have HX1 := hide X1
  clear h A2 L2 X1 hoA
  go_enter Try.func18, Try.ntmps18
  go_wp2_with fail
  refine (refCheck_any HA.out hn).mono ?_
  rintro e w1 ⟨rfl, k1⟩
  have L1 := below_step HL.out k1
  have X1 := HX1.out.below k1 (Nat.le_refl _)
  have m0 := X1.cell0
  have m1 := X1.cell1
  have HL1 := hide L1
  clear HA HL HX1 X1 L1 k1
  obtain ⟨e0, he⟩ : ∃ e0, e0 = chk r c n Z := ⟨_, rfl⟩
  rw [← he] at h0 ⊢
  have HE := hide he
  clear he
  have hb : (e0 != 0) = true := by simpa using h0
  go_wp2
  exact bodyPost_ret (v := .tuple #[.int .i64 0, .int .i64 e0]) (by simp [results, Try.results18, go_sem]) rfl ⟨by rw [HE.out], HL1.out⟩

set_option maxRecDepth 100000 in
theorem turn_bad {w : World} {f n : Nat} {va : Value} {Z : Nat → Int} {r c : Int}  (h : NX w f va n Z) (hn : n ≤ 140737488355328) (h0 : chk r c n Z ≠ 0) :
    Calls Try.prog 21 #[.agg #[.int .i64 r, .int .i64 c, va]] w fun e w' => e = .returned (.tuple #[.agg #[.int .i64 0, .int .i64 0, .slice none 0 0], .int .i64 (chk r c n Z)]) ∧ Below w.heap.size w w' := by
  obtain ⟨aa, cp, rfl⟩ := (show ∃ a c, va = .slice a n c from by obtain ⟨a, c, e, _⟩ := h; exact ⟨a, c, e⟩)
  obtain ⟨oA, hoA⟩ : ∃ o, o = Obj.cells #[.int .i64 r, .int .i64 c, .slice aa n cp] 24 := ⟨_, rfl⟩
  obtain ⟨oR, hoR⟩ : ∃ o, o = Obj.cells #[.int .i64 0, .int .i64 0, .slice none 0 0] 24 := ⟨_, rfl⟩
  have L2 := below_alloc (below_alloc (Below.refl w.heap.size w) oA) oR
  have A2 := (h.alloc oA).alloc oR
  have X1 := (show Bx (w.alloc oA) w.heap.size r c (.slice aa n cp) by rw [hoA]; exact Bx.new _ _ _ _).alloc oR
  have X2 := show Bx ((w.alloc oA).alloc oR) (w.alloc oA).heap.size 0 0 (.slice none 0 0) by rw [hoR]; exact Bx.new _ _ _ _
  rw [show (w.alloc oA).heap.size = w.heap.size + 1 by simp] at X2
  rw [hoA, hoR] at L2 A2 X1 X2
  have HX2 := hide X2
  have HA := hide A2
  have HL := hide L2
  have HX1 := hide X1
  clear h A2 L2 X1 hoA X2 hoR
  go_enter Try.func21, Try.ntmps21
  go_wp2_with fail
  refine (check_any HA.out hn).mono ?_
  rintro e w1 ⟨rfl, k1⟩
  have L1 := below_step HL.out k1
  have X1 := HX1.out.below k1 (Nat.le_refl _)
  have m0 := X1.cell0
  have m1 := X1.cell1
  have HL1 := hide L1
  have Y := HX2.out.below k1 (Nat.le_refl _)
  have z0 := Y.cell0
  have z1 := Y.cell1
  have z2 := Y.cell2
  have zf := Y.free
  have HY := hide Y
  clear HX2 Y
  clear HA HL HX1 X1 L1 k1
  obtain ⟨e0, he⟩ : ∃ e0, e0 = chk r c n Z := ⟨_, rfl⟩
  rw [← he] at h0 ⊢
  have HE := hide he
  clear he
  have hb : (e0 != 0) = true := by simpa using h0
  go_wp2
  obtain ⟨hX5, g5⟩ := HY.out.put (0 : Int) (0 : Int) (.slice none 0 0)
  exact bodyPost_ret (v := .tuple #[.agg #[.int .i64 0, .int .i64 0, .slice none 0 0], .int .i64 (e0)]) (by simp [results, Try.results21, go_sem, hX5.cell0, hX5.cell1, hX5.cell2]) rfl ⟨by rw [HE.out], below_gb HL1.out g5 (by omega) HL1.out.size⟩

set_option maxRecDepth 100000 in
theorem refTurn_bad {w : World} {f n : Nat} {va : Value} {Z : Nat → Int} {r c : Int}  (h : NX w f va n Z) (hn : n ≤ 140737488355328) (h0 : chk r c n Z ≠ 0) :
    Calls Try.prog 22 #[.agg #[.int .i64 r, .int .i64 c, va]] w fun e w' => e = .returned (.tuple #[.agg #[.int .i64 0, .int .i64 0, .slice none 0 0], .int .i64 (chk r c n Z)]) ∧ Below w.heap.size w w' := by
  obtain ⟨aa, cp, rfl⟩ := (show ∃ a c, va = .slice a n c from by obtain ⟨a, c, e, _⟩ := h; exact ⟨a, c, e⟩)
  obtain ⟨oA, hoA⟩ : ∃ o, o = Obj.cells #[.int .i64 r, .int .i64 c, .slice aa n cp] 29 := ⟨_, rfl⟩
  obtain ⟨oR, hoR⟩ : ∃ o, o = Obj.cells #[.int .i64 0, .int .i64 0, .slice none 0 0] 29 := ⟨_, rfl⟩
  have L2 := below_alloc (below_alloc (Below.refl w.heap.size w) oA) oR
  have A2 := (h.alloc oA).alloc oR
  have X1 := (show Br (w.alloc oA) w.heap.size r c (.slice aa n cp) by rw [hoA]; exact Br.new _ _ _ _).alloc oR
  have X2 := show Br ((w.alloc oA).alloc oR) (w.alloc oA).heap.size 0 0 (.slice none 0 0) by rw [hoR]; exact Br.new _ _ _ _
  rw [show (w.alloc oA).heap.size = w.heap.size + 1 by simp] at X2
  rw [hoA, hoR] at L2 A2 X1 X2
  have HX2 := hide X2
  have HA := hide A2
  have HL := hide L2
  have HX1 := hide X1
  clear h A2 L2 X1 hoA X2 hoR
  go_enter Try.func22, Try.ntmps22
  go_wp2_with fail
  refine (refCheck_any HA.out hn).mono ?_
  rintro e w1 ⟨rfl, k1⟩
  have L1 := below_step HL.out k1
  have X1 := HX1.out.below k1 (Nat.le_refl _)
  have m0 := X1.cell0
  have m1 := X1.cell1
  have HL1 := hide L1
  have Y := HX2.out.below k1 (Nat.le_refl _)
  have z0 := Y.cell0
  have z1 := Y.cell1
  have z2 := Y.cell2
  have zf := Y.free
  have HY := hide Y
  clear HX2 Y
  clear HA HL HX1 X1 L1 k1
  obtain ⟨e0, he⟩ : ∃ e0, e0 = chk r c n Z := ⟨_, rfl⟩
  rw [← he] at h0 ⊢
  have HE := hide he
  clear he
  have hb : (e0 != 0) = true := by simpa using h0
  go_wp2
  obtain ⟨hX5, g5⟩ := HY.out.put (0 : Int) (0 : Int) (.slice none 0 0)
  exact bodyPost_ret (v := .tuple #[.agg #[.int .i64 0, .int .i64 0, .slice none 0 0], .int .i64 (e0)]) (by simp [results, Try.results22, go_sem, hX5.cell0, hX5.cell1, hX5.cell2]) rfl ⟨by rw [HE.out], below_gb HL1.out g5 (by omega) HL1.out.size⟩

set_option maxRecDepth 100000 in
theorem pick_bad {w : World} {f n : Nat} {va : Value} {Z : Nat → Int} {r c : Int} {vr : Value} (h : NX w f va n Z) (hn : n ≤ 140737488355328) (h0 : chk r c n Z ≠ 0) :
    Calls Try.prog 23 #[.agg #[.int .i64 r, .int .i64 c, va], vr] w fun e w' => e = .returned (.tuple #[.agg #[.int .i64 0, .int .i64 0, .slice none 0 0], .int .i64 (chk r c n Z)]) ∧ Below w.heap.size w w' := by
  obtain ⟨aa, cp, rfl⟩ := (show ∃ a c, va = .slice a n c from by obtain ⟨a, c, e, _⟩ := h; exact ⟨a, c, e⟩)
  obtain ⟨oA, hoA⟩ : ∃ o, o = Obj.cells #[.int .i64 r, .int .i64 c, .slice aa n cp] 24 := ⟨_, rfl⟩
  obtain ⟨oR, hoR⟩ : ∃ o, o = Obj.cells #[.int .i64 0, .int .i64 0, .slice none 0 0] 24 := ⟨_, rfl⟩
  have L2 := below_alloc (below_alloc (Below.refl w.heap.size w) oA) oR
  have A2 := (h.alloc oA).alloc oR
  have X1 := (show Bx (w.alloc oA) w.heap.size r c (.slice aa n cp) by rw [hoA]; exact Bx.new _ _ _ _).alloc oR
  have X2 := show Bx ((w.alloc oA).alloc oR) (w.alloc oA).heap.size 0 0 (.slice none 0 0) by rw [hoR]; exact Bx.new _ _ _ _
  rw [show (w.alloc oA).heap.size = w.heap.size + 1 by simp] at X2
  rw [hoA, hoR] at L2 A2 X1 X2
  have HX2 := hide X2
  have HA := hide A2
  have HL := hide L2
  have HX1 := hide X1
  clear h A2 L2 X1 hoA X2 hoR
  go_enter Try.func23, Try.ntmps23
  go_wp2_with fail
  refine (check_any HA.out hn).mono ?_
  rintro e w1 ⟨rfl, k1⟩
  have L1 := below_step HL.out k1
  have X1 := HX1.out.below k1 (Nat.le_refl _)
  have m0 := X1.cell0
  have m1 := X1.cell1
  have HL1 := hide L1
  have Y := HX2.out.below k1 (Nat.le_refl _)
  have z0 := Y.cell0
  have z1 := Y.cell1
  have z2 := Y.cell2
  have zf := Y.free
  have HY := hide Y
  clear HX2 Y
  clear HA HL HX1 X1 L1 k1
  obtain ⟨e0, he⟩ : ∃ e0, e0 = chk r c n Z := ⟨_, rfl⟩
  rw [← he] at h0 ⊢
  have HE := hide he
  clear he
  have hb : (e0 != 0) = true := by simpa using h0
  go_wp2
  obtain ⟨hX5, g5⟩ := HY.out.put (0 : Int) (0 : Int) (.slice none 0 0)
  exact bodyPost_ret (v := .tuple #[.agg #[.int .i64 0, .int .i64 0, .slice none 0 0], .int .i64 (e0)]) (by simp [results, Try.results23, go_sem, hX5.cell0, hX5.cell1, hX5.cell2]) rfl ⟨by rw [HE.out], below_gb HL1.out g5 (by omega) HL1.out.size⟩

set_option maxRecDepth 100000 in
theorem refPick_bad {w : World} {f n : Nat} {va : Value} {Z : Nat → Int} {r c : Int} {vr : Value} (h : NX w f va n Z) (hn : n ≤ 140737488355328) (h0 : chk r c n Z ≠ 0) :
    Calls Try.prog 24 #[.agg #[.int .i64 r, .int .i64 c, va], vr] w fun e w' => e = .returned (.tuple #[.agg #[.int .i64 0, .int .i64 0, .slice none 0 0], .int .i64 (chk r c n Z)]) ∧ Below w.heap.size w w' := by
  obtain ⟨aa, cp, rfl⟩ := (show ∃ a c, va = .slice a n c from by obtain ⟨a, c, e, _⟩ := h; exact ⟨a, c, e⟩)
  obtain ⟨oA, hoA⟩ : ∃ o, o = Obj.cells #[.int .i64 r, .int .i64 c, .slice aa n cp] 29 := ⟨_, rfl⟩
  obtain ⟨oR, hoR⟩ : ∃ o, o = Obj.cells #[.int .i64 0, .int .i64 0, .slice none 0 0] 29 := ⟨_, rfl⟩
  have L2 := below_alloc (below_alloc (Below.refl w.heap.size w) oA) oR
  have A2 := (h.alloc oA).alloc oR
  have X1 := (show Br (w.alloc oA) w.heap.size r c (.slice aa n cp) by rw [hoA]; exact Br.new _ _ _ _).alloc oR
  have X2 := show Br ((w.alloc oA).alloc oR) (w.alloc oA).heap.size 0 0 (.slice none 0 0) by rw [hoR]; exact Br.new _ _ _ _
  rw [show (w.alloc oA).heap.size = w.heap.size + 1 by simp] at X2
  rw [hoA, hoR] at L2 A2 X1 X2
  have HX2 := hide X2
  have HA := hide A2
  have HL := hide L2
  have HX1 := hide X1
  clear h A2 L2 X1 hoA X2 hoR
  go_enter Try.func24, Try.ntmps24
  go_wp2_with fail
  refine (refCheck_any HA.out hn).mono ?_
  rintro e w1 ⟨rfl, k1⟩
  have L1 := below_step HL.out k1
  have X1 := HX1.out.below k1 (Nat.le_refl _)
  have m0 := X1.cell0
  have m1 := X1.cell1
  have HL1 := hide L1
  have Y := HX2.out.below k1 (Nat.le_refl _)
  have z0 := Y.cell0
  have z1 := Y.cell1
  have z2 := Y.cell2
  have zf := Y.free
  have HY := hide Y
  clear HX2 Y
  clear HA HL HX1 X1 L1 k1
  obtain ⟨e0, he⟩ : ∃ e0, e0 = chk r c n Z := ⟨_, rfl⟩
  rw [← he] at h0 ⊢
  have HE := hide he
  clear he
  have hb : (e0 != 0) = true := by simpa using h0
  go_wp2
  obtain ⟨hX5, g5⟩ := HY.out.put (0 : Int) (0 : Int) (.slice none 0 0)
  exact bodyPost_ret (v := .tuple #[.agg #[.int .i64 0, .int .i64 0, .slice none 0 0], .int .i64 (e0)]) (by simp [results, Try.results24, go_sem, hX5.cell0, hX5.cell1, hX5.cell2]) rfl ⟨by rw [HE.out], below_gb HL1.out g5 (by omega) HL1.out.size⟩
end Go.Proofs.Ythedeggggbdibaa

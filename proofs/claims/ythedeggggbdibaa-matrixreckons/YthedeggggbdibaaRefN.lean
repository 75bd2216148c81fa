/-
  What is refused: Mul, Pick, of the program and of the document.
-/
import Derived.Test.YthedeggggbdibaaRefM
namespace Go.Proofs.Ythedeggggbdibaa
open Go.RowKit Go.Lib
theorem NX.shp {w : World} {f n : Nat} {v : Value} {Z : Nat → Int} (h : NX w f v n Z) : ∃ a c, v = .slice a n c := by obtain ⟨a, c, e, _⟩ := h; exact ⟨a, c, e⟩

set_option maxRecDepth 100000 in
theorem mul_bad1 {w : World} {f f' na nb sb : Nat} {va vb : Value} {Za Zb : Nat → Int} {ra ca rb cb : Int} (ha : NX w f va na Za) (hb : NX w f' vb nb Zb) (hna : na ≤ 140737488355328) (_hnb : nb ≤ 140737488355328) (h0 : chk ra ca na Za ≠ 0) :
    Calls Try.prog 12 #[.pointer (some ⟨sb, 0, none⟩), .agg #[.int .i64 ra, .int .i64 ca, va], .agg #[.int .i64 rb, .int .i64 cb, vb]] w fun e w' => e = .returned (.tuple #[.agg #[.int .i64 0, .int .i64 0, .slice none 0 0], .int .i64 (chk ra ca na Za)]) ∧ Below w.heap.size w w' := by
  obtain ⟨aa, cpa, rfl⟩ := ha.shp
  obtain ⟨ab, cpb, rfl⟩ := hb.shp
  obtain ⟨oA, hoA⟩ : ∃ o, o = Obj.cells #[.int .i64 ra, .int .i64 ca, .slice aa na cpa] 24 := ⟨_, rfl⟩
  obtain ⟨oB, hoB⟩ : ∃ o, o = Obj.cells #[.int .i64 rb, .int .i64 cb, .slice ab nb cpb] 24 := ⟨_, rfl⟩
  obtain ⟨oR, hoR⟩ : ∃ o, o = Obj.cells #[.int .i64 0, .int .i64 0, .slice none 0 0] 24 := ⟨_, rfl⟩
  have A3 := ((ha.alloc oA).alloc oB).alloc oR
  have B3 := ((hb.alloc oA).alloc oB).alloc oR
  have X4 := ((show Bx (w.alloc oA) w.heap.size ra ca (.slice aa na cpa) by rw [hoA]; exact Bx.new _ _ _ _).alloc oB).alloc oR
  have X5 := (show Bx ((w.alloc oA).alloc oB) (w.alloc oA).heap.size rb cb (.slice ab nb cpb) by rw [hoB]; exact Bx.new _ _ _ _).alloc oR
  have X6 := show Bx (((w.alloc oA).alloc oB).alloc oR) ((w.alloc oA).alloc oB).heap.size 0 0 (.slice none 0 0) by rw [hoR]; exact Bx.new _ _ _ _
  rw [show (w.alloc oA).heap.size = w.heap.size + 1 by simp] at X5
  rw [show ((w.alloc oA).alloc oB).heap.size = w.heap.size + 2 by simp] at X6
  have L3 := below_alloc (below_alloc (below_alloc (Below.refl w.heap.size w) oA) oB) oR
  rw [hoA, hoB, hoR] at A3 B3 X4 X5 X6 L3
  have HA := hide A3
  have HB := hide B3
  have HX4 := hide X4
  have HX5 := hide X5
  have HX6 := hide X6
  have HL := hide L3
  clear A3 B3 X4 X5 X6 L3 ha hb hoA hoB hoR
  go_enter Try.func12, Try.ntmps12
  go_wp2_with fail
  refine (check_any HA.out hna).mono ?_
  rintro e w1 ⟨rfl, k1⟩
  have HB1 := hide (HB.out.below k1)
  have HX41 := hide (HX4.out.below k1 (Nat.le_refl _))
  have HX51 := hide (HX5.out.below k1 (Nat.le_refl _))
  have HR1 := hide (HX6.out.below k1 (Nat.le_refl _))
  have HL1 := hide (below_step HL.out k1)
  clear HA HB HX4 HX5 HX6 HL k1
  have z0 := HR1.out.cell0
  have z1 := HR1.out.cell1
  have z2 := HR1.out.cell2
  have zf := HR1.out.free
  obtain ⟨e0, he⟩ : ∃ e0, e0 = chk ra ca na Za := ⟨_, rfl⟩
  rw [← he] at h0 ⊢
  have HE := hide he
  clear he
  have hb : (e0 != 0) = true := by simpa using h0
  go_wp2
  obtain ⟨hX5, g5⟩ := HR1.out.put (0 : Int) (0 : Int) (.slice none 0 0)
  exact bodyPost_ret (v := .tuple #[.agg #[.int .i64 0, .int .i64 0, .slice none 0 0], .int .i64 (e0)]) (by simp [results, Try.results12, go_sem, hX5.cell0, hX5.cell1, hX5.cell2]) rfl ⟨by rw [HE.out], below_gb HL1.out g5 (by omega) HL1.out.size⟩

set_option maxRecDepth 100000 in
theorem refMul_bad1 {w : World} {f f' na nb : Nat} {va vb : Value} {Za Zb : Nat → Int} {ra ca rb cb : Int} (ha : NX w f va na Za) (hb : NX w f' vb nb Zb) (hna : na ≤ 140737488355328) (_hnb : nb ≤ 140737488355328) (h0 : chk ra ca na Za ≠ 0) :
    Calls Try.prog 13 #[.agg #[.int .i64 ra, .int .i64 ca, va], .agg #[.int .i64 rb, .int .i64 cb, vb]] w fun e w' => e = .returned (.tuple #[.agg #[.int .i64 0, .int .i64 0, .slice none 0 0], .int .i64 (chk ra ca na Za)]) ∧ Below w.heap.size w w' := by
  obtain ⟨aa, cpa, rfl⟩ := ha.shp
  obtain ⟨ab, cpb, rfl⟩ := hb.shp
  obtain ⟨oA, hoA⟩ : ∃ o, o = Obj.cells #[.int .i64 ra, .int .i64 ca, .slice aa na cpa] 29 := ⟨_, rfl⟩
  obtain ⟨oB, hoB⟩ : ∃ o, o = Obj.cells #[.int .i64 rb, .int .i64 cb, .slice ab nb cpb] 29 := ⟨_, rfl⟩
  obtain ⟨oR, hoR⟩ : ∃ o, o = Obj.cells #[.int .i64 0, .int .i64 0, .slice none 0 0] 29 := ⟨_, rfl⟩
  have A3 := ((ha.alloc oA).alloc oB).alloc oR
  have B3 := ((hb.alloc oA).alloc oB).alloc oR
  have X4 := ((show Br (w.alloc oA) w.heap.size ra ca (.slice aa na cpa) by rw [hoA]; exact Br.new _ _ _ _).alloc oB).alloc oR
  have X5 := (show Br ((w.alloc oA).alloc oB) (w.alloc oA).heap.size rb cb (.slice ab nb cpb) by rw [hoB]; exact Br.new _ _ _ _).alloc oR
  have X6 := show Br (((w.alloc oA).alloc oB).alloc oR) ((w.alloc oA).alloc oB).heap.size 0 0 (.slice none 0 0) by rw [hoR]; exact Br.new _ _ _ _
  rw [show (w.alloc oA).heap.size = w.heap.size + 1 by simp] at X5
  rw [show ((w.alloc oA).alloc oB).heap.size = w.heap.size + 2 by simp] at X6
  have L3 := below_alloc (below_alloc (below_alloc (Below.refl w.heap.size w) oA) oB) oR
  rw [hoA, hoB, hoR] at A3 B3 X4 X5 X6 L3
  have HA := hide A3
  have HB := hide B3
  have HX4 := hide X4
  have HX5 := hide X5
  have HX6 := hide X6
  have HL := hide L3
  clear A3 B3 X4 X5 X6 L3 ha hb hoA hoB hoR
  go_enter Try.func13, Try.ntmps13
  go_wp2_with fail
  refine (refCheck_any HA.out hna).mono ?_
  rintro e w1 ⟨rfl, k1⟩
  have HB1 := hide (HB.out.below k1)
  have HX41 := hide (HX4.out.below k1 (Nat.le_refl _))
  have HX51 := hide (HX5.out.below k1 (Nat.le_refl _))
  have HR1 := hide (HX6.out.below k1 (Nat.le_refl _))
  have HL1 := hide (below_step HL.out k1)
  clear HA HB HX4 HX5 HX6 HL k1
  have z0 := HR1.out.cell0
  have z1 := HR1.out.cell1
  have z2 := HR1.out.cell2
  have zf := HR1.out.free
  obtain ⟨e0, he⟩ : ∃ e0, e0 = chk ra ca na Za := ⟨_, rfl⟩
  rw [← he] at h0 ⊢
  have HE := hide he
  clear he
  have hb : (e0 != 0) = true := by simpa using h0
  go_wp2
  obtain ⟨hX5, g5⟩ := HR1.out.put (0 : Int) (0 : Int) (.slice none 0 0)
  exact bodyPost_ret (v := .tuple #[.agg #[.int .i64 0, .int .i64 0, .slice none 0 0], .int .i64 (e0)]) (by simp [results, Try.results13, go_sem, hX5.cell0, hX5.cell1, hX5.cell2]) rfl ⟨by rw [HE.out], below_gb HL1.out g5 (by omega) HL1.out.size⟩

set_option maxRecDepth 100000 in
theorem mul_bad2 {w : World} {f f' na nb sb : Nat} {va vb : Value} {Za Zb : Nat → Int} {ra ca rb cb : Int} (ha : NX w f va na Za) (hb : NX w f' vb nb Zb) (hna : na ≤ 140737488355328) (hnb : nb ≤ 140737488355328) (h1 : chk ra ca na Za = 0) (h0 : chk rb cb nb Zb ≠ 0) :
    Calls Try.prog 12 #[.pointer (some ⟨sb, 0, none⟩), .agg #[.int .i64 ra, .int .i64 ca, va], .agg #[.int .i64 rb, .int .i64 cb, vb]] w fun e w' => e = .returned (.tuple #[.agg #[.int .i64 0, .int .i64 0, .slice none 0 0], .int .i64 (chk rb cb nb Zb)]) ∧ Below w.heap.size w w' := by
  obtain ⟨aa, cpa, rfl⟩ := ha.shp
  obtain ⟨ab, cpb, rfl⟩ := hb.shp
  obtain ⟨oA, hoA⟩ : ∃ o, o = Obj.cells #[.int .i64 ra, .int .i64 ca, .slice aa na cpa] 24 := ⟨_, rfl⟩
  obtain ⟨oB, hoB⟩ : ∃ o, o = Obj.cells #[.int .i64 rb, .int .i64 cb, .slice ab nb cpb] 24 := ⟨_, rfl⟩
  obtain ⟨oR, hoR⟩ : ∃ o, o = Obj.cells #[.int .i64 0, .int .i64 0, .slice none 0 0] 24 := ⟨_, rfl⟩
  have A3 := ((ha.alloc oA).alloc oB).alloc oR
  have B3 := ((hb.alloc oA).alloc oB).alloc oR
  have X4 := ((show Bx (w.alloc oA) w.heap.size ra ca (.slice aa na cpa) by rw [hoA]; exact Bx.new _ _ _ _).alloc oB).alloc oR
  have X5 := (show Bx ((w.alloc oA).alloc oB) (w.alloc oA).heap.size rb cb (.slice ab nb cpb) by rw [hoB]; exact Bx.new _ _ _ _).alloc oR
  have X6 := show Bx (((w.alloc oA).alloc oB).alloc oR) ((w.alloc oA).alloc oB).heap.size 0 0 (.slice none 0 0) by rw [hoR]; exact Bx.new _ _ _ _
  rw [show (w.alloc oA).heap.size = w.heap.size + 1 by simp] at X5
  rw [show ((w.alloc oA).alloc oB).heap.size = w.heap.size + 2 by simp] at X6
  have L3 := below_alloc (below_alloc (below_alloc (Below.refl w.heap.size w) oA) oB) oR
  rw [hoA, hoB, hoR] at A3 B3 X4 X5 X6 L3
  have HA := hide A3
  have HB := hide B3
  have HX4 := hide X4
  have HX5 := hide X5
  have HX6 := hide X6
  have HL := hide L3
  clear A3 B3 X4 X5 X6 L3 ha hb hoA hoB hoR
  go_enter Try.func12, Try.ntmps12
  go_wp2_with fail
  refine (check_any HA.out hna).mono ?_
  rintro e w1 ⟨rfl, k1⟩
  have HB1 := hide (HB.out.below k1)
  have HX41 := hide (HX4.out.below k1 (Nat.le_refl _))
  have HX51 := hide (HX5.out.below k1 (Nat.le_refl _))
  have HR1 := hide (HX6.out.below k1 (Nat.le_refl _))
  have HL1 := hide (below_step HL.out k1)
  clear HA HB HX4 HX5 HX6 HL k1
  rw [h1]
  have p0 := HX51.out.cell0
  have p1 := HX51.out.cell1
  have p2 := HX51.out.cell2
  go_wp2_with fail
  refine (check_any HB1.out hnb).mono ?_
  rintro e w2 ⟨rfl, k2⟩
  have HX4 := hide (HX41.out.below k2 (Nat.le_refl _))
  have HX5 := hide (HX51.out.below k2 (Nat.le_refl _))
  have HR2 := hide (HR1.out.below k2 (Nat.le_refl _))
  have HL2 := hide (below_step HL1.out k2)
  clear HB1 HX41 HX51 HR1 HL1 k2 p0 p1 p2
  have HR1 := HR2
  have HL1 := HL2
  clear HR2 HL2
  have z0 := HR1.out.cell0
  have z1 := HR1.out.cell1
  have z2 := HR1.out.cell2
  have zf := HR1.out.free
  obtain ⟨e0, he⟩ : ∃ e0, e0 = chk rb cb nb Zb := ⟨_, rfl⟩
  rw [← he] at h0 ⊢
  have HE := hide he
  clear he
  have hb : (e0 != 0) = true := by simpa using h0
  go_wp2
  obtain ⟨hX5, g5⟩ := HR1.out.put (0 : Int) (0 : Int) (.slice none 0 0)
  exact bodyPost_ret (v := .tuple #[.agg #[.int .i64 0, .int .i64 0, .slice none 0 0], .int .i64 (e0)]) (by simp [results, Try.results12, go_sem, hX5.cell0, hX5.cell1, hX5.cell2]) rfl ⟨by rw [HE.out], below_gb HL1.out g5 (by omega) HL1.out.size⟩

set_option maxRecDepth 100000 in
theorem refMul_bad2 {w : World} {f f' na nb : Nat} {va vb : Value} {Za Zb : Nat → Int} {ra ca rb cb : Int} (ha : NX w f va na Za) (hb : NX w f' vb nb Zb) (hna : na ≤ 140737488355328) (hnb : nb ≤ 140737488355328) (h1 : chk ra ca na Za = 0) (h0 : chk rb cb nb Zb ≠ 0) :
    Calls Try.prog 13 #[.agg #[.int .i64 ra, .int .i64 ca, va], .agg #[.int .i64 rb, .int .i64 cb, vb]] w fun e w' => e = .returned (.tuple #[.agg #[.int .i64 0, .int .i64 0, .slice none 0 0], .int .i64 (chk rb cb nb Zb)]) ∧ Below w.heap.size w w' := by
  obtain ⟨aa, cpa, rfl⟩ := ha.shp
  obtain ⟨ab, cpb, rfl⟩ := hb.shp
  obtain ⟨oA, hoA⟩ : ∃ o, o = Obj.cells #[.int .i64 ra, .int .i64 ca, .slice aa na cpa] 29 := ⟨_, rfl⟩
  obtain ⟨oB, hoB⟩ : ∃ o, o = Obj.cells #[.int .i64 rb, .int .i64 cb, .slice ab nb cpb] 29 := ⟨_, rfl⟩
  obtain ⟨oR, hoR⟩ : ∃ o, o = Obj.cells #[.int .i64 0, .int .i64 0, .slice none 0 0] 29 := ⟨_, rfl⟩
  have A3 := ((ha.alloc oA).alloc oB).alloc oR
  have B3 := ((hb.alloc oA).alloc oB).alloc oR
  have X4 := ((show Br (w.alloc oA) w.heap.size ra ca (.slice aa na cpa) by rw [hoA]; exact Br.new _ _ _ _).alloc oB).alloc oR
  have X5 := (show Br ((w.alloc oA).alloc oB) (w.alloc oA).heap.size rb cb (.slice ab nb cpb) by rw [hoB]; exact Br.new _ _ _ _).alloc oR
  have X6 := show Br (((w.alloc oA).alloc oB).alloc oR) ((w.alloc oA).alloc oB).heap.size 0 0 (.slice none 0 0) by rw [hoR]; exact Br.new _ _ _ _
  rw [show (w.alloc oA).heap.size = w.heap.size + 1 by simp] at X5
  rw [show ((w.alloc oA).alloc oB).heap.size = w.heap.size + 2 by simp] at X6
  have L3 := below_alloc (below_alloc (below_alloc (Below.refl w.heap.size w) oA) oB) oR
  rw [hoA, hoB, hoR] at A3 B3 X4 X5 X6 L3
  have HA := hide A3
  have HB := hide B3
  have HX4 := hide X4
  have HX5 := hide X5
  have HX6 := hide X6
  have HL := hide L3
  clear A3 B3 X4 X5 X6 L3 ha hb hoA hoB hoR
  go_enter Try.func13, Try.ntmps13
  go_wp2_with fail
  refine (refCheck_any HA.out hna).mono ?_
  rintro e w1 ⟨rfl, k1⟩
  have HB1 := hide (HB.out.below k1)
  have HX41 := hide (HX4.out.below k1 (Nat.le_refl _))
  have HX51 := hide (HX5.out.below k1 (Nat.le_refl _))
  have HR1 := hide (HX6.out.below k1 (Nat.le_refl _))
  have HL1 := hide (below_step HL.out k1)
  clear HA HB HX4 HX5 HX6 HL k1
  rw [h1]
  have p0 := HX51.out.cell0
  have p1 := HX51.out.cell1
  have p2 := HX51.out.cell2
  go_wp2_with fail
  refine (refCheck_any HB1.out hnb).mono ?_
  rintro e w2 ⟨rfl, k2⟩
  have HX4 := hide (HX41.out.below k2 (Nat.le_refl _))
  have HX5 := hide (HX51.out.below k2 (Nat.le_refl _))
  have HR2 := hide (HR1.out.below k2 (Nat.le_refl _))
  have HL2 := hide (below_step HL1.out k2)
  clear HB1 HX41 HX51 HR1 HL1 k2 p0 p1 p2
  have HR1 := HR2
  have HL1 := HL2
  clear HR2 HL2
  have z0 := HR1.out.cell0
  have z1 := HR1.out.cell1
  have z2 := HR1.out.cell2
  have zf := HR1.out.free
  obtain ⟨e0, he⟩ : ∃ e0, e0 = chk rb cb nb Zb := ⟨_, rfl⟩
  rw [← he] at h0 ⊢
  have HE := hide he
  clear he
  have hb : (e0 != 0) = true := by simpa using h0
  go_wp2
  obtain ⟨hX5, g5⟩ := HR1.out.put (0 : Int) (0 : Int) (.slice none 0 0)
  exact bodyPost_ret (v := .tuple #[.agg #[.int .i64 0, .int .i64 0, .slice none 0 0], .int .i64 (e0)]) (by simp [results, Try.results13, go_sem, hX5.cell0, hX5.cell1, hX5.cell2]) rfl ⟨by rw [HE.out], below_gb HL1.out g5 (by omega) HL1.out.size⟩

set_option maxRecDepth 100000 in
theorem mul_bad3 {w : World} {f f' na nb sb : Nat} {va vb : Value} {Za Zb : Nat → Int} {ra ca rb cb : Int} (ha : NX w f va na Za) (hb : NX w f' vb nb Zb) (hna : na ≤ 140737488355328) (hnb : nb ≤ 140737488355328) (h1 : chk ra ca na Za = 0) (h2 : chk rb cb nb Zb = 0) (h0 : ca ≠ rb) :
    Calls Try.prog 12 #[.pointer (some ⟨sb, 0, none⟩), .agg #[.int .i64 ra, .int .i64 ca, va], .agg #[.int .i64 rb, .int .i64 cb, vb]] w fun e w' => e = .returned (.tuple #[.agg #[.int .i64 0, .int .i64 0, .slice none 0 0], .int .i64 (4)]) ∧ Below w.heap.size w w' := by
  obtain ⟨aa, cpa, rfl⟩ := ha.shp
  obtain ⟨ab, cpb, rfl⟩ := hb.shp
  obtain ⟨oA, hoA⟩ : ∃ o, o = Obj.cells #[.int .i64 ra, .int .i64 ca, .slice aa na cpa] 24 := ⟨_, rfl⟩
  obtain ⟨oB, hoB⟩ : ∃ o, o = Obj.cells #[.int .i64 rb, .int .i64 cb, .slice ab nb cpb] 24 := ⟨_, rfl⟩
  obtain ⟨oR, hoR⟩ : ∃ o, o = Obj.cells #[.int .i64 0, .int .i64 0, .slice none 0 0] 24 := ⟨_, rfl⟩
  have A3 := ((ha.alloc oA).alloc oB).alloc oR
  have B3 := ((hb.alloc oA).alloc oB).alloc oR
  have X4 := ((show Bx (w.alloc oA) w.heap.size ra ca (.slice aa na cpa) by rw [hoA]; exact Bx.new _ _ _ _).alloc oB).alloc oR
  have X5 := (show Bx ((w.alloc oA).alloc oB) (w.alloc oA).heap.size rb cb (.slice ab nb cpb) by rw [hoB]; exact Bx.new _ _ _ _).alloc oR
  have X6 := show Bx (((w.alloc oA).alloc oB).alloc oR) ((w.alloc oA).alloc oB).heap.size 0 0 (.slice none 0 0) by rw [hoR]; exact Bx.new _ _ _ _
  rw [show (w.alloc oA).heap.size = w.heap.size + 1 by simp] at X5
  rw [show ((w.alloc oA).alloc oB).heap.size = w.heap.size + 2 by simp] at X6
  have L3 := below_alloc (below_alloc (below_alloc (Below.refl w.heap.size w) oA) oB) oR
  rw [hoA, hoB, hoR] at A3 B3 X4 X5 X6 L3
  have HA := hide A3
  have HB := hide B3
  have HX4 := hide X4
  have HX5 := hide X5
  have HX6 := hide X6
  have HL := hide L3
  clear A3 B3 X4 X5 X6 L3 ha hb hoA hoB hoR
  go_enter Try.func12, Try.ntmps12
  go_wp2_with fail
  refine (check_any HA.out hna).mono ?_
  rintro e w1 ⟨rfl, k1⟩
  have HB1 := hide (HB.out.below k1)
  have HX41 := hide (HX4.out.below k1 (Nat.le_refl _))
  have HX51 := hide (HX5.out.below k1 (Nat.le_refl _))
  have HR1 := hide (HX6.out.below k1 (Nat.le_refl _))
  have HL1 := hide (below_step HL.out k1)
  clear HA HB HX4 HX5 HX6 HL k1
  rw [h1]
  have p0 := HX51.out.cell0
  have p1 := HX51.out.cell1
  have p2 := HX51.out.cell2
  go_wp2_with fail
  refine (check_any HB1.out hnb).mono ?_
  rintro e w2 ⟨rfl, k2⟩
  have HX4 := hide (HX41.out.below k2 (Nat.le_refl _))
  have HX5 := hide (HX51.out.below k2 (Nat.le_refl _))
  have HR2 := hide (HR1.out.below k2 (Nat.le_refl _))
  have HL2 := hide (below_step HL1.out k2)
  clear HB1 HX41 HX51 HR1 HL1 k2 p0 p1 p2
  have HR1 := HR2
  have HL1 := HL2
  clear HR2 HL2
  have z0 := HR1.out.cell0
  have z1 := HR1.out.cell1
  have z2 := HR1.out.cell2
  have zf := HR1.out.free
  rw [h2]
  have p1 := HX4.out.cell1
  have p0 := HX5.out.cell0
  have hb : (ca != rb) = true := by simpa using h0
  go_wp2
  obtain ⟨hX5, g5⟩ := HR1.out.put (0 : Int) (0 : Int) (.slice none 0 0)
  exact bodyPost_ret (v := .tuple #[.agg #[.int .i64 0, .int .i64 0, .slice none 0 0], .int .i64 (4)]) (by simp [results, Try.results12, go_sem, hX5.cell0, hX5.cell1, hX5.cell2]) rfl ⟨rfl, below_gb HL1.out g5 (by omega) HL1.out.size⟩

set_option maxRecDepth 100000 in
theorem refMul_bad3 {w : World} {f f' na nb : Nat} {va vb : Value} {Za Zb : Nat → Int} {ra ca rb cb : Int} (ha : NX w f va na Za) (hb : NX w f' vb nb Zb) (hna : na ≤ 140737488355328) (hnb : nb ≤ 140737488355328) (h1 : chk ra ca na Za = 0) (h2 : chk rb cb nb Zb = 0) (h0 : ca ≠ rb) :
    Calls Try.prog 13 #[.agg #[.int .i64 ra, .int .i64 ca, va], .agg #[.int .i64 rb, .int .i64 cb, vb]] w fun e w' => e = .returned (.tuple #[.agg #[.int .i64 0, .int .i64 0, .slice none 0 0], .int .i64 (4)]) ∧ Below w.heap.size w w' := by
  obtain ⟨aa, cpa, rfl⟩ := ha.shp
  obtain ⟨ab, cpb, rfl⟩ := hb.shp
  obtain ⟨oA, hoA⟩ : ∃ o, o = Obj.cells #[.int .i64 ra, .int .i64 ca, .slice aa na cpa] 29 := ⟨_, rfl⟩
  obtain ⟨oB, hoB⟩ : ∃ o, o = Obj.cells #[.int .i64 rb, .int .i64 cb, .slice ab nb cpb] 29 := ⟨_, rfl⟩
  obtain ⟨oR, hoR⟩ : ∃ o, o = Obj.cells #[.int .i64 0, .int .i64 0, .slice none 0 0] 29 := ⟨_, rfl⟩
  have A3 := ((ha.alloc oA).alloc oB).alloc oR
  have B3 := ((hb.alloc oA).alloc oB).alloc oR
  have X4 := ((show Br (w.alloc oA) w.heap.size ra ca (.slice aa na cpa) by rw [hoA]; exact Br.new _ _ _ _).alloc oB).alloc oR
  have X5 := (show Br ((w.alloc oA).alloc oB) (w.alloc oA).heap.size rb cb (.slice ab nb cpb) by rw [hoB]; exact Br.new _ _ _ _).alloc oR
  have X6 := show Br (((w.alloc oA).alloc oB).alloc oR) ((w.alloc oA).alloc oB).heap.size 0 0 (.slice none 0 0) by rw [hoR]; exact Br.new _ _ _ _
  rw [show (w.alloc oA).heap.size = w.heap.size + 1 by simp] at X5
  rw [show ((w.alloc oA).alloc oB).heap.size = w.heap.size + 2 by simp] at X6
  have L3 := below_alloc (below_alloc (below_alloc (Below.refl w.heap.size w) oA) oB) oR
  rw [hoA, hoB, hoR] at A3 B3 X4 X5 X6 L3
  have HA := hide A3
  have HB := hide B3
  have HX4 := hide X4
  have HX5 := hide X5
  have HX6 := hide X6
  have HL := hide L3
  clear A3 B3 X4 X5 X6 L3 ha hb hoA hoB hoR
  go_enter Try.func13, Try.ntmps13
  go_wp2_with fail
  refine (refCheck_any HA.out hna).mono ?_
  rintro e w1 ⟨rfl, k1⟩
  have HB1 := hide (HB.out.below k1)
  have HX41 := hide (HX4.out.below k1 (Nat.le_refl _))
  have HX51 := hide (HX5.out.below k1 (Nat.le_refl _))
  have HR1 := hide (HX6.out.below k1 (Nat.le_refl _))
  have HL1 := hide (below_step HL.out k1)
  clear HA HB HX4 HX5 HX6 HL k1
  rw [h1]
  have p0 := HX51.out.cell0
  have p1 := HX51.out.cell1
  have p2 := HX51.out.cell2
  go_wp2_with fail
  refine (refCheck_any HB1.out hnb).mono ?_
  rintro e w2 ⟨rfl, k2⟩
  have HX4 := hide (HX41.out.below k2 (Nat.le_refl _))
  have HX5 := hide (HX51.out.below k2 (Nat.le_refl _))
  have HR2 := hide (HR1.out.below k2 (Nat.le_refl _))
  have HL2 := hide (below_step HL1.out k2)
  clear HB1 HX41 HX51 HR1 HL1 k2 p0 p1 p2
  have HR1 := HR2
  have HL1 := HL2
  clear HR2 HL2
  have z0 := HR1.out.cell0
  have z1 := HR1.out.cell1
  have z2 := HR1.out.cell2
  have zf := HR1.out.free
  rw [h2]
  have p1 := HX4.out.cell1
  have p0 := HX5.out.cell0
  have hb : (ca != rb) = true := by simpa using h0
  go_wp2
  obtain ⟨hX5, g5⟩ := HR1.out.put (0 : Int) (0 : Int) (.slice none 0 0)
  exact bodyPost_ret (v := .tuple #[.agg #[.int .i64 0, .int .i64 0, .slice none 0 0], .int .i64 (4)]) (by simp [results, Try.results13, go_sem, hX5.cell0, hX5.cell1, hX5.cell2]) rfl ⟨rfl, below_gb HL1.out g5 (by omega) HL1.out.size⟩

set_option maxRecDepth 100000 in
theorem pick_bad2 {w : World} {f f' n k : Nat} {va vr : Value} {Z Zr : Nat → Int} {r c : Int} (h : NX w f va n Z) (hr : NX w f' vr k Zr) (hn : n ≤ 140737488355328) (_hk : k ≤ 140737488355328) (h0 : chk r c n Z = 0) (hrs : isSd r = true) (h1 : isSd (k : Int) = false) :
    Calls Try.prog 23 #[.agg #[.int .i64 r, .int .i64 c, va], vr] w fun e w' => e = .returned (.tuple #[.agg #[.int .i64 0, .int .i64 0, .slice none 0 0], .int .i64 1]) ∧ Below w.heap.size w w' := by
  obtain ⟨aa, cp, rfl⟩ := h.shp
  obtain ⟨ar, cr, rfl⟩ := hr.shp
  obtain ⟨r', rfl, hr1, hr2⟩ := isSd_out hrs
  obtain ⟨oA, hoA⟩ : ∃ o, o = Obj.cells #[.int .i64 (r' : Int), .int .i64 c, .slice aa n cp] 24 := ⟨_, rfl⟩
  obtain ⟨oR, hoR⟩ : ∃ o, o = Obj.cells #[.int .i64 0, .int .i64 0, .slice none 0 0] 24 := ⟨_, rfl⟩
  have L2 := below_alloc (below_alloc (Below.refl w.heap.size w) oA) oR
  have A2 := (h.alloc oA).alloc oR
  have R2 := (hr.alloc oA).alloc oR
  have X1 := (show Bx (w.alloc oA) w.heap.size r' c (.slice aa n cp) by rw [hoA]; exact Bx.new _ _ _ _).alloc oR
  have X2 := show Bx ((w.alloc oA).alloc oR) (w.alloc oA).heap.size 0 0 (.slice none 0 0) by rw [hoR]; exact Bx.new _ _ _ _
  rw [show (w.alloc oA).heap.size = w.heap.size + 1 by simp] at X2
  rw [hoA, hoR] at L2 A2 X1 X2 R2
  have HX2 := hide X2
  have HA := hide A2
  have HR := hide R2
  have HL := hide L2
  have HX1 := hide X1
  clear h hr A2 L2 X1 hoA X2 hoR R2 hrs
  go_enter Try.func23, Try.ntmps23
  go_wp2_with fail
  refine (check_any HA.out hn).mono ?_
  rintro e w1 ⟨rfl, k1⟩
  have L1 := below_step HL.out k1
  have R1 := HR.out.below k1
  have X1 := HX1.out.below k1 (Nat.le_refl _)
  have m0 := X1.cell0
  have m1 := X1.cell1
  have HL1 := hide L1
  have HR1 := hide R1
  have Y := HX2.out.below k1 (Nat.le_refl _)
  have z0 := Y.cell0
  have z1 := Y.cell1
  have z2 := Y.cell2
  have zf := Y.free
  have HY := hide Y
  clear HX2 Y HA HL HX1 X1 L1 R1 HR k1
  rw [h0]
  go_wp2_with (first | (go_at_call 49; refine (isSide_any _ _).mono ?_; rintro e w9 ⟨rfl, rfl⟩; rw [h1]) | fail)
  obtain ⟨hX5, g5⟩ := HY.out.put (0 : Int) (0 : Int) (.slice none 0 0)
  exact bodyPost_ret (v := .tuple #[.agg #[.int .i64 0, .int .i64 0, .slice none 0 0], .int .i64 1]) (by simp [results, Try.results23, go_sem, hX5.cell0, hX5.cell1, hX5.cell2]) rfl ⟨rfl, below_gb HL1.out g5 (by omega) HL1.out.size⟩

set_option maxRecDepth 100000 in
theorem pick_bad3 {w : World} {f f' n k : Nat} {va vr : Value} {Z Zr : Nat → Int} {r c : Int} (h : NX w f va n Z) (hr : NX w f' vr k Zr) (hn : n ≤ 140737488355328) (hk : k ≤ 140737488355328) (h0 : chk r c n Z = 0) (hrs : isSd r = true) (h1 : isSd (k : Int) = true) (h2 : upB (r - 1) Zr k = false) :
    Calls Try.prog 23 #[.agg #[.int .i64 r, .int .i64 c, va], vr] w fun e w' => e = .returned (.tuple #[.agg #[.int .i64 0, .int .i64 0, .slice none 0 0], .int .i64 1]) ∧ Below w.heap.size w w' := by
  obtain ⟨aa, cp, rfl⟩ := h.shp
  obtain ⟨ar, cr, rfl⟩ := hr.shp
  obtain ⟨r', rfl, hr1, hr2⟩ := isSd_out hrs
  obtain ⟨oA, hoA⟩ : ∃ o, o = Obj.cells #[.int .i64 (r' : Int), .int .i64 c, .slice aa n cp] 24 := ⟨_, rfl⟩
  obtain ⟨oR, hoR⟩ : ∃ o, o = Obj.cells #[.int .i64 0, .int .i64 0, .slice none 0 0] 24 := ⟨_, rfl⟩
  have L2 := below_alloc (below_alloc (Below.refl w.heap.size w) oA) oR
  have A2 := (h.alloc oA).alloc oR
  have R2 := (hr.alloc oA).alloc oR
  have X1 := (show Bx (w.alloc oA) w.heap.size r' c (.slice aa n cp) by rw [hoA]; exact Bx.new _ _ _ _).alloc oR
  have X2 := show Bx ((w.alloc oA).alloc oR) (w.alloc oA).heap.size 0 0 (.slice none 0 0) by rw [hoR]; exact Bx.new _ _ _ _
  rw [show (w.alloc oA).heap.size = w.heap.size + 1 by simp] at X2
  rw [hoA, hoR] at L2 A2 X1 X2 R2
  have HX2 := hide X2
  have HA := hide A2
  have HR := hide R2
  have HL := hide L2
  have HX1 := hide X1
  clear h hr A2 L2 X1 hoA X2 hoR R2 hrs
  go_enter Try.func23, Try.ntmps23
  go_wp2_with fail
  refine (check_any HA.out hn).mono ?_
  rintro e w1 ⟨rfl, k1⟩
  have L1 := below_step HL.out k1
  have R1 := HR.out.below k1
  have X1 := HX1.out.below k1 (Nat.le_refl _)
  have m0 := X1.cell0
  have m1 := X1.cell1
  have HL1 := hide L1
  have HR1 := hide R1
  have Y := HX2.out.below k1 (Nat.le_refl _)
  have z0 := Y.cell0
  have z1 := Y.cell1
  have z2 := Y.cell2
  have zf := Y.free
  have HY := hide Y
  clear HX2 Y HA HL HX1 X1 L1 R1 HR k1
  rw [h0]
  go_wp2_with (first | (go_at_call 49; refine (isSide_any _ _).mono ?_; rintro e w9 ⟨rfl, rfl⟩; rw [h1]) | fail)
  refine (allUp_any HR1.out hk).mono ?_
  rintro e w2 ⟨rfl, k2⟩
  rw [h2]
  have L3 := below_step HL1.out k2
  have Y := HY.out.below k2 (Nat.le_refl _)
  clear z0 z1 z2 zf HY HL1 m0 m1 HR1 k2
  have z0 := Y.cell0
  have z1 := Y.cell1
  have z2 := Y.cell2
  have zf := Y.free
  have HY := hide Y
  have HL1 := hide L3
  clear Y L3
  go_wp2
  obtain ⟨hX5, g5⟩ := HY.out.put (0 : Int) (0 : Int) (.slice none 0 0)
  exact bodyPost_ret (v := .tuple #[.agg #[.int .i64 0, .int .i64 0, .slice none 0 0], .int .i64 1]) (by simp [results, Try.results23, go_sem, hX5.cell0, hX5.cell1, hX5.cell2]) rfl ⟨rfl, below_gb HL1.out g5 (by omega) HL1.out.size⟩

set_option maxRecDepth 100000 in
theorem refPick_bad2 {w : World} {f f' n k : Nat} {va vr : Value} {Z Zr : Nat → Int} {r c : Int} (h : NX w f va n Z) (hr : NX w f' vr k Zr) (hn : n ≤ 140737488355328) (hk : k ≤ 140737488355328) (h0 : chk r c n Z = 0) (hrs : isSd r = true) (h1 : isSd (k : Int) = false) :
    Calls Try.prog 24 #[.agg #[.int .i64 r, .int .i64 c, va], vr] w fun e w' => e = .returned (.tuple #[.agg #[.int .i64 0, .int .i64 0, .slice none 0 0], .int .i64 1]) ∧ Below w.heap.size w w' := by
  obtain ⟨aa, cp, rfl⟩ := h.shp
  obtain ⟨ar, cr, rfl⟩ := hr.shp
  obtain ⟨r', rfl, hr1, hr2⟩ := isSd_out hrs
  obtain ⟨oA, hoA⟩ : ∃ o, o = Obj.cells #[.int .i64 (r' : Int), .int .i64 c, .slice aa n cp] 29 := ⟨_, rfl⟩
  obtain ⟨oR, hoR⟩ : ∃ o, o = Obj.cells #[.int .i64 0, .int .i64 0, .slice none 0 0] 29 := ⟨_, rfl⟩
  have L2 := below_alloc (below_alloc (Below.refl w.heap.size w) oA) oR
  have A2 := (h.alloc oA).alloc oR
  have R2 := (hr.alloc oA).alloc oR
  have X1 := (show Br (w.alloc oA) w.heap.size r' c (.slice aa n cp) by rw [hoA]; exact Br.new _ _ _ _).alloc oR
  have X2 := show Br ((w.alloc oA).alloc oR) (w.alloc oA).heap.size 0 0 (.slice none 0 0) by rw [hoR]; exact Br.new _ _ _ _
  rw [show (w.alloc oA).heap.size = w.heap.size + 1 by simp] at X2
  rw [hoA, hoR] at L2 A2 X1 X2 R2
  have HX2 := hide X2
  have HA := hide A2
  have HR := hide R2
  have HL := hide L2
  have HX1 := hide X1
  clear h hr A2 L2 X1 hoA X2 hoR R2 hrs
  have h' : (k : Int) < 1 ∨ (255 : Int) < (k : Int) := by simp [isSd] at h1; omega
  clear h1
  rcases h' with h1 | h1
  · go_enter Try.func24, Try.ntmps24
    go_wp2_with fail
    refine (refCheck_any HA.out hn).mono ?_
    rintro e w1 ⟨rfl, k1⟩
    have L1 := below_step HL.out k1
    have R1 := HR.out.below k1
    have X1 := HX1.out.below k1 (Nat.le_refl _)
    have m0 := X1.cell0
    have m1 := X1.cell1
    have HL1 := hide L1
    have HR1 := hide R1
    have Y := HX2.out.below k1 (Nat.le_refl _)
    have z0 := Y.cell0
    have z1 := Y.cell1
    have z2 := Y.cell2
    have zf := Y.free
    have HY := hide Y
    clear HX2 Y HA HL HX1 X1 L1 R1 HR k1
    rw [h0]
    go_wp2
    obtain ⟨hX5, g5⟩ := HY.out.put (0 : Int) (0 : Int) (.slice none 0 0)
    exact bodyPost_ret (v := .tuple #[.agg #[.int .i64 0, .int .i64 0, .slice none 0 0], .int .i64 1]) (by simp [results, Try.results24, go_sem, hX5.cell0, hX5.cell1, hX5.cell2]) rfl ⟨rfl, below_gb HL1.out g5 (by omega) HL1.out.size⟩
  · have h3 : ¬ (k : Int) < 1 := by omega
    go_enter Try.func24, Try.ntmps24
    go_wp2_with fail
    refine (refCheck_any HA.out hn).mono ?_
    rintro e w1 ⟨rfl, k1⟩
    have L1 := below_step HL.out k1
    have R1 := HR.out.below k1
    have X1 := HX1.out.below k1 (Nat.le_refl _)
    have m0 := X1.cell0
    have m1 := X1.cell1
    have HL1 := hide L1
    have HR1 := hide R1
    have Y := HX2.out.below k1 (Nat.le_refl _)
    have z0 := Y.cell0
    have z1 := Y.cell1
    have z2 := Y.cell2
    have zf := Y.free
    have HY := hide Y
    clear HX2 Y HA HL HX1 X1 L1 R1 HR k1
    rw [h0]
    go_wp2
    obtain ⟨hX5, g5⟩ := HY.out.put (0 : Int) (0 : Int) (.slice none 0 0)
    exact bodyPost_ret (v := .tuple #[.agg #[.int .i64 0, .int .i64 0, .slice none 0 0], .int .i64 1]) (by simp [results, Try.results24, go_sem, hX5.cell0, hX5.cell1, hX5.cell2]) rfl ⟨rfl, below_gb HL1.out g5 (by omega) HL1.out.size⟩
end Go.Proofs.Ythedeggggbdibaa

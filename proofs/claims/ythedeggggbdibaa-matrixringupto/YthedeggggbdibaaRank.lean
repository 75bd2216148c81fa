/-
  The contract of Rank.
-/
import Derived.Test.YthedeggggbdibaaApp
namespace Go.Proofs.Ythedeggggbdibaa
open Go.RowKit Go.Lib

set_option maxRecDepth 100000 in
set_option maxHeartbeats 1600000 in
theorem rank_ok {w : World} {sb f r c : Nat} {va : Value} {A : Nat → K} (hS : SP w sb f) (a1 : 1 ≤ r) (a2 : r ≤ 255) (c1 : 1 ≤ c) (c2 : c ≤ 255)
    (hA : NX w f va (r * c) (fun k => (((A k).v : Nat) : Int))) :
    Calls Try.prog 17 #[.pointer (some ⟨sb, 0, none⟩), .agg #[.int .i64 r, .int .i64 c, va]] w fun e w' =>
      e = .returned (.tuple #[.int .i64 (((redu r (mt c A) c).2 : Nat) : Int), .int .i64 0]) ∧ SP w' sb f ∧ w.grownBy w' (some f) := by
  have hNA : r * c ≤ 255 * 255 := Nat.mul_le_mul a2 c2
  have hA0 : r * c ≠ 0 := Nat.mul_ne_zero (by omega) (by omega)
  obtain ⟨ba, oa, cpa, rfl, ha3, ha4, ha5⟩ := hA.at hA0
  have EA := chk_ok a1 a2 c1 c2 A
  have QA : Hid (∀ i, i < r → (i + 1) * c ≤ r * c) := fun i hi => row_in hi
  generalize r * c = NA at *
  have hlt := hS.lt
  have hltf := hS.ltf
  have S1 := hide (hS.alloc (.cells #[.int .i64 r, .int .i64 c, .slice (some ⟨ba, oa, none⟩) NA cpa] 24))
  have A1 := hide (hA.alloc (.cells #[.int .i64 r, .int .i64 c, .slice (some ⟨ba, oa, none⟩) NA cpa] 24))
  have X1 := hide (Bx.new w r c (.slice (some ⟨ba, oa, none⟩) NA cpa))
  have L1 := hide (below_alloc (Below.refl w.heap.size w) (.cells #[.int .i64 r, .int .i64 c, .slice (some ⟨ba, oa, none⟩) NA cpa] 24))
  have HA := hide hA
  have hmk : ∀ w : World, _ := fun w => run_make_row' (P := Try.prog) 70 22 (.slice none 0 0) 24 Try.underlying70 Try.info22 rfl .i64 .i64 r (by omega) (by omega) w
  clear hS hA
  go_enter Try.func17, Try.ntmps17
  go_wp2_with fail
  refine (check_any A1.out (by omega)).mono ?_
  rintro e w1 ⟨rfl, k1⟩
  rw [EA]
  have X2 := X1.out.below k1 (Nat.le_refl _)
  have x0 := X2.cell0
  have I : ∃ q cp, Bd w.heap.size sb f w1.heap.size r c 0 q cp (mt c A) (w1.alloc (.cells (madeCells #[.slice none 0 0] r) 22)) := by
    have sz := L1.out.size
    have sz2 := k1.size
    refine ⟨fun _ => 0, fun _ => 0, (S1.out.below k1 (Nat.le_refl _)).alloc _, hlt, hltf, ?_, Nat.le_trans sz sz2, ?_, fun t ht => absurd ht (Nat.not_lt_zero t), fun t ht => absurd ht (Nat.not_lt_zero t), fun t _ ht => absurd ht (Nat.not_lt_zero t), fun t ht => absurd ht (Nat.not_lt_zero t)⟩
    · simp; omega
    · rw [made_rows r c (fun _ => 0) (fun _ => 0)]; exact heap_alloc_new w1 _
  have HI := hide I
  have HX := hide (X2.alloc (.cells (madeCells #[.slice none 0 0] r) 22))
  have HL := hide (below_alloc (below_step L1.out k1) (.cells (madeCells #[.slice none 0 0] r) 22))
  clear I X2 k1 S1 A1 X1 L1 EA
  go_wp2
  go_loopw [19] (fun z wr => ∃ i : Nat, i ≤ r ∧ z = .int .i64 i ∧ (∃ q cp, Bd w.heap.size sb f w1.heap.size r c i q cp (mt c A) wr) ∧ Bx wr w.heap.size r c (.slice (some ⟨ba, oa, none⟩) NA cpa) ∧ Below w.heap.size w wr) (fun z _ => r - (intOf z).toNat)
  case atStart => exact ⟨0, Nat.zero_le _, rfl, HI.out, HX.out, HL.out⟩
  case round =>
    obtain ⟨i, hi, rfl, ⟨q, cp, hB⟩, hX, hL⟩ := hrel
    clear HI HX HL x0
    by_cases hlt1 : i < r
    · have p0 := hX.cell0
      have p1 := hX.cell1
      have p2 := hX.cell2
      obtain ⟨x, hx⟩ : ∃ x, x = oa + i * c := ⟨_, rfl⟩
      have HR : Hid _ := fun w => row_at w i (r := r) (c := c) (b := ba) (k := oa) (cp := cpa) (n := NA) (x := x) hx (by omega) c1 c2 (QA.out i hlt1) ha3
      have HQ := hide hx
      have HB := hide hB
      have HX := hide hX
      have HL := hide hL
      clear hB hX hL hx
      have b0 : (0 : Int) ≤ (i : Int) := by omega
      have b1 : (i : Int) < (r : Int) := by omega
      go_wp2_with fail
      refine Calls.mono (HR.out _) ?_
      rintro e w2 ⟨rfl, k2⟩
      have B2 := HB.out.below k2
      have L2 := below_step HL.out k2
      have X2 := HX.out.below k2 (Nat.le_refl _)
      have hrd : RD w2 ba x c (mt c A i) := fun l hl => by
        have := (HA.out.grown (gb_below L2 (some f))).cell_at (i * c + l) (Nat.lt_of_lt_of_le (by rw [Nat.add_mul, Nat.one_mul]; omega) (QA.out i hlt1))
        rw [show x + l = oa + (i * c + l) by rw [HQ.out]; omega]
        exact this
      have HC : Hid _ := clone_any (cc := c) hrd (Nat.lt_of_lt_of_le ha4 L2.size) c1 (by omega)
      have HB2 := hide B2
      have HX2 := hide X2
      have HL2 := hide L2
      clear hrd B2 L2 X2 HB HX HL HR p0 p1 p2 k2
      go_wp2_with fail
      refine Calls.mono HC.out ?_
      rintro e w3 ⟨g, cap, rfl, hK, hcap, hgs, k3⟩
      have B3 := HB2.out.below k3
      have z1 := B3.cell i hlt1
      rw [if_neg (Nat.lt_irrefl i)] at z1
      have z2 := B3.free i
      have hq : ∀ t, t < i → q t < g := fun t ht => Nat.lt_of_lt_of_le (HB2.out.each t ht).lt hgs
      have P3 := B3.put hK (Nat.le_trans HB2.out.ltB hgs) hq hcap
      have gs := gb_set w3 w1.heap.size i (.slice (some ⟨g, 0, none⟩) c cap)
      have X3 := HX2.out.below k3 (Nat.le_refl _)
      have hne : w.heap.size ≠ w1.heap.size := by
        intro e
        have h1 := B3.rows
        have h2 := X3
        unfold Bx at h2
        rw [← e, h2] at h1
        simp at h1
      have X4 := X3.of_block (gs.block _ X3.lt (by simp; exact hne))
      have L4 := below_gb (below_step HL2.out k3) gs B3.rge (Nat.le_trans HL2.out.size k3.size)
      have HP := hide P3
      have HX4 := hide X4
      have HL4 := hide L4
      clear B3 P3 gs X3 X4 L4 hK hgs k3 hq HB2 HX2 HL2 HC
      go_wp2
      exact ⟨⟨i + 1, by omega, by go_num, ⟨_, _, HP.out⟩, HX4.out, HL4.out⟩, by simp [intOf]; omega⟩
    · obtain rfl : i = r := by omega
      have p1 := hX.cell1
      have HR : Hid _ := reduce_any hB.all (cols := c) (Nat.le_refl _) (by omega) (by omega)
      have HL := hide hL
      clear hB hX hL
      go_wp2_with fail
      refine Calls.mono HR.out ?_
      rintro e w2 ⟨rfl, ⟨q', cp', hR⟩, hF⟩
      have HQ : Hid (SP w2 sb f ∧ w.grownBy w2 (some f)) := ⟨hR.S, hF.grown (gb_below HL.out _)⟩
      clear hR hF HR
      go_wp2
      go_ret2
      exact ⟨rfl, HQ.out.1, HQ.out.2⟩
end Go.Proofs.Ythedeggggbdibaa

/-
  A made matrix, in a block of its own.
-/
import Derived.Test.YthedeggggbdibaaPairB
namespace Go.Proofs.Ythedeggggbdibaa
open Go.RowKit Go.Lib

set_option maxRecDepth 100000 in
set_option maxHeartbeats 1600000 in
theorem made_il {w : World} (rows cols : Int) {vl : Value} {n : Nat} {Z : Nat → Int} (hl : NX w w.heap.size vl n Z) (hn : n ≤ 140737488355328) :
    Calls Try.prog 32 #[.int .i64 rows, .int .i64 cols, vl] w fun e w' =>
      ∃ v, e = .returned (.agg #[.int .i64 ((1 + amg rows 5 : Nat) : Int), .int .i64 ((1 + amg cols 5 : Nat) : Int), v]) ∧ IL w.heap.size v (ml n Z ((1 + amg rows 5) * (1 + amg cols 5))) w' ∧ Below w.heap.size w w' := by
  obtain ⟨al, cl, rfl, _⟩ := id hl
  obtain ⟨_, r2, _, _⟩ := amg_spec rows 5 (by decide)
  obtain ⟨_, c2, _, _⟩ := amg_spec cols 5 (by decide)
  have AR : Hid _ := fun w => among_any w rows 5 (by decide) (by decide)
  have AC : Hid _ := fun w => among_any w cols 5 (by decide) (by decide)
  generalize amg rows 5 = ra at *
  generalize amg cols 5 = ca at *
  obtain ⟨r, hr⟩ : ∃ r, r = 1 + ra := ⟨_, rfl⟩
  obtain ⟨c, hc⟩ : ∃ c, c = 1 + ca := ⟨_, rfl⟩
  rw [← hr, ← hc]
  have hri : (1 : Int) + (ra : Int) = (r : Int) := by omega
  have hci : (1 : Int) + (ca : Int) = (c : Int) := by omega
  have hrc : r * c ≤ 5 * 5 := Nat.mul_le_mul (by omega) (by omega)
  obtain ⟨N, hN⟩ : ∃ N, N = r * c := ⟨_, rfl⟩
  rw [← hN] at hrc ⊢
  have hNi : (r : Int) * (c : Int) = (N : Int) := by rw [hN, Int.natCast_mul]
  have r5 : r ≤ 5 := by omega
  have c5 : c ≤ 5 := by omega
  have HL := hide hl
  clear hl hr hc hN r2 c2
  have X0 := hide (Bx.new w 0 0 (.slice none 0 0))
  have L0 := hide (below_alloc (Below.refl w.heap.size w) (.cells #[.int .i64 0, .int .i64 0, .slice none 0 0] 24))
  go_enter Try.func32, Try.ntmps32
  go_wp2_with fail
  refine Calls.mono (AR.out _) ?_
  rintro e w9 ⟨rfl, hw9⟩
  subst w9
  go_wp2_with fail
  refine Calls.mono (AC.out _) ?_
  rintro e w9 ⟨rfl, hw9⟩
  subst w9
  have X1 := X0.out.alloc (.cells #[.int .i64 r, .int .i64 c, .slice none 0 0] 24)
  have Y1 := Bx.new (w.alloc (.cells #[.int .i64 0, .int .i64 0, .slice none 0 0] 24)) r c (.slice none 0 0)
  rw [show (w.alloc (.cells #[.int .i64 0, .int .i64 0, .slice none 0 0] 24)).heap.size = w.heap.size + 1 by simp] at Y1
  have L1 := below_alloc L0.out (.cells #[.int .i64 r, .int .i64 c, .slice none 0 0] 24)
  have HX1 := hide X1
  have HY1 := hide Y1
  have HL1 := hide L1
  clear X0 L0 X1 Y1 L1 AR AC
  go_wp2
  go_loopw [22] (fun z wr => ∃ (i : Nat) (v : Value), i ≤ N ∧ z = .int .i64 i ∧ IL w.heap.size v (ml n Z i) wr ∧ Bx wr (w.heap.size + 1) r c v ∧ Bx wr w.heap.size 0 0 (.slice none 0 0) ∧ Below w.heap.size w wr) (fun z _ => N - (intOf z).toNat)
  case atStart => exact ⟨0, _, Nat.zero_le _, rfl, IL.nil _ _, HY1.out, HX1.out, HL1.out⟩
  case round =>
    obtain ⟨i, v, hi, rfl, hI, hY, hX, hB⟩ := hrel
    clear HX1 HY1 HL1
    obtain ⟨ao, cap, rfl⟩ := hI.shape
    rw [ml_length] at hI hY
    by_cases hlt : i < N
    · obtain ⟨xb1, xb2⟩ := xm_bound n Z i (by omega)
      have AX : Hid (∀ w : World, Calls Try.prog 30 #[.int .i64 (xm n Z i), .int .i64 256] w fun e w' => e = .returned (.int .i64 ((mv n Z i : Nat) : Int)) ∧ w' = w) := fun w => among_any w (xm n Z i) 256 (by decide) (by decide)
      have KEY : Hid (∀ q : Nat, ∃ ao' cap' w', (Builtin.append_ #[22, 22] 22 #[.slice ao i cap, .slice (some ⟨wr.heap.size, 0, none⟩) 1 1]).run Try.prog ((wr.drewN q).alloc (.cells #[.int .i64 ((mv n Z i : Nat) : Int)] 3)) = .ok (.slice ao' (i + 1) cap') w' ∧
          w'.cell? ⟨w.heap.size + 1, 2, none⟩ = some (.slice ao i cap) ∧ w'.frozen? ⟨w.heap.size + 1, 2, none⟩ = false ∧
          (IL w.heap.size (.slice ao' (i + 1) cap') (ml n Z (i + 1)) (w'.setCell ⟨w.heap.size + 1, 2, none⟩ (.slice ao' (i + 1) cap')) ∧ Bx (w'.setCell ⟨w.heap.size + 1, 2, none⟩ (.slice ao' (i + 1) cap')) (w.heap.size + 1) r c (.slice ao' (i + 1) cap') ∧ Bx (w'.setCell ⟨w.heap.size + 1, 2, none⟩ (.slice ao' (i + 1) cap')) w.heap.size 0 0 (.slice none 0 0) ∧ Below w.heap.size w (w'.setCell ⟨w.heap.size + 1, 2, none⟩ (.slice ao' (i + 1) cap')))) := by
        intro q
        have hIq : IL w.heap.size (.slice ao i cap) (ml n Z i) (wr.drewN q) := ⟨hI.own⟩
        obtain ⟨v', w', hr, hI', hg', hn'⟩ := hIq.one (mv n Z i) (by rw [ml_length]; omega) (show w.heap.size ≤ wr.heap.size from hB.size)
        rw [ml_succ] at hI'
        obtain ⟨ao', cap', rfl⟩ := hI'.shape
        rw [ml_length] at hI' hr
        have hal : Below wr.heap.size wr ((wr.drewN q).alloc (.cells #[.int .i64 ((mv n Z i : Nat) : Int)] 3)) := (below_drew (Below.refl wr.heap.size wr) q).alloc (Nat.le_refl _) _
        have Y1 := hY.below hal (Nat.le_refl _)
        have X1 := hX.below hal (Nat.le_refl _)
        have I1 := hIq.keep (show Below (wr.drewN q).heap.size (wr.drewN q) ((wr.drewN q).alloc (.cells #[.int .i64 ((mv n Z i : Nat) : Int)] 3)) from (Below.refl _ _).alloc (Nat.le_refl _) _)
        have Y2 := Y1.of_block (hg'.block _ Y1.lt (Y1.neo I1).symm)
        have X2 := X1.of_block (hg'.block _ X1.lt (X1.neo I1).symm)
        have B2 := I1.below (below_step hB hal) hg' (Nat.le_trans hB.size hal.size)
        have gs := gb_set w' (w.heap.size + 1) 2 (.slice ao' (i + 1) cap')
        refine ⟨ao', cap', w', hr, Y2.cell2, Y2.free 2, hI'.apart gs (fun b hb e => Y2.neo hI' (hb.trans e.symm)), Y2.set2 _, X2.of_block (gs.block _ X2.lt (by simp)), below_gb B2 gs (by omega) B2.size⟩
      have m2 := hY.cell2
      have m3 := (hY.alloc (.cells #[.int .i64 ((mv n Z i : Nat) : Int)] 3)).cell2
      have m4 : ∀ q, ((wr.drewN q).alloc (.cells #[.int .i64 ((mv n Z i : Nat) : Int)] 3)).cell? ⟨w.heap.size + 1, 2, none⟩ = some (.slice ao i cap) := fun q => (show Bx ((wr.drewN q).alloc (.cells #[.int .i64 ((mv n Z i : Nat) : Int)] 3)) (w.heap.size + 1) r c (.slice ao i cap) from Bx.alloc (w := wr.drewN q) hY _).cell2
      have NL := hide (HL.out.below hB)
      clear hI hY hX hB
      have b1 : (i : Int) < (N : Int) := by omega
      by_cases h0 : n = 0
      · obtain ⟨ao', cap', w', hr, y1, y2, fin⟩ := KEY.out 1
        have hxi : (i : Int) * (i : Int) = xm n Z i := by rw [xm, if_pos h0, Int.natCast_mul]
        have HF := hide fin
        clear fin KEY
        subst h0
        generalize xm 0 Z i = xx at *
        generalize mv 0 Z i = mm at *
        go_wp2
        go_region_law (first | (refine step_append_run rfl _ _ 22 22 rfl _ _ rfl rfl _ _ hr ?_) | (go_simp; go_at_call 30; refine Calls.mono (AX.out _) ?_; rintro e wz ⟨rfl, hwz⟩; subst wz; dsimp only))
        all_goals
          go_wp2
          exact ⟨⟨i + 1, _, by omega, by go_num, HF.out⟩, by simp [intOf]; omega⟩
      · obtain ⟨bl, off, cl', he, _, _, _⟩ := NL.out.at h0
        simp only [Value.slice.injEq, true_and] at he
        obtain ⟨rfl, rfl⟩ := he
        obtain ⟨im, him⟩ : ∃ im, im = i % n := ⟨_, rfl⟩
        obtain ⟨iq, hiq⟩ : ∃ iq, iq = i / n := ⟨_, rfl⟩
        have him1 : im < n := by rw [him]; exact Nat.mod_lt _ (by omega)
        have hiq1 : iq ≤ i := by rw [hiq]; exact Nat.div_le_self _ _
        have c1 := NL.out.cell_at im him1
        have hx : xm n Z i = (Z im).tmod 256 * ((1 + iq : Nat) : Int) := by rw [xm, if_neg h0, ← him, ← hiq]
        obtain ⟨y, hy⟩ : ∃ y, y = (Z im).tmod 256 := ⟨_, rfl⟩
        obtain ⟨zi, hzi⟩ : ∃ zi, zi = Z im := ⟨_, rfl⟩
        rw [← hy] at hx
        rw [← hzi] at hy c1
        have f1 : (i : Int).tmod (n : Int) = (im : Int) := by rw [him, Int.tmod_eq_emod_of_nonneg (by omega)]; rfl
        have f2 : (i : Int).tdiv (n : Int) = (iq : Int) := by rw [hiq, Int.tdiv_eq_ediv_of_nonneg (by omega)]; rfl
        have f3 : zi.tmod 256 = y := hy.symm
        obtain ⟨q1, hq1⟩ : ∃ q1, q1 = 1 + iq := ⟨_, rfl⟩
        have f4 : (1 : Int) + (iq : Int) = (q1 : Int) := by omega
        rw [← hq1] at hx
        have f5 : y * (q1 : Int) = xm n Z i := hx.symm
        have g1 : ((n : Int) == 0) = false := by simp; omega
        have g2 : ¬ ((n : Int) = 0) := by omega
        have g3 : (0 : Int) ≤ (im : Int) := by omega
        have g4 : (im : Int) < (n : Int) := by omega
        have g5 : (0 : Int) < (n : Int) := by omega
        have g6 : IntKind.i64.wrap ((1 : Int) + (iq : Int)) = (q1 : Int) := by rw [f4]; exact wraps_i64 _ (by omega) (by omega)
        have g7 : IntKind.i64.wrap (xm n Z i) = xm n Z i := by rw [IntKind.wrap_i64]; omega
        have HQ : Hid _ := KEY.out
        clear him hiq hx hy hzi hq1 KEY h0
        generalize xm n Z i = xx at *
        generalize mv n Z i = mm at *
        go_wp2
        go_quiet (fail)
        obtain ⟨ao', cap', w', hr, y1, y2, fin⟩ := HQ.out (nq + 1)
        have HF := hide fin
        clear fin HQ
        go_wp2
        go_region_law (first | (refine step_append_run rfl _ _ 22 22 rfl _ _ rfl rfl _ _ hr ?_) | (go_simp; go_at_call 30; refine Calls.mono (AX.out _) ?_; rintro e wz ⟨rfl, hwz⟩; subst wz; dsimp only))
        all_goals
          go_wp2
          exact ⟨⟨i + 1, _, by omega, by go_num, HF.out⟩, by simp [intOf]; omega⟩
    · obtain rfl : i = N := by omega
      have p0 := hY.cell0
      have p1 := hY.cell1
      have p2 := hY.cell2
      have q0 := hX.cell0
      have q1 := hX.cell1
      have q2 := hX.cell2
      have f2 := hX.free
      have HX := hide hX
      have HI := hide hI
      have HB := hide hB
      clear hI hY hX hB
      go_wp2
      obtain ⟨hX5, g5⟩ := HX.out.put (r : Int) (c : Int) (.slice ao i cap)
      have hI5 := HI.out.apart g5 (fun b hb e => HX.out.neo HI.out (hb.trans e.symm))
      refine bodyPost_ret (v := .agg #[.int .i64 r, .int .i64 c, .slice ao i cap]) (by simp [results, Try.results32, go_sem, hX5.cell0, hX5.cell1, hX5.cell2]) rfl ⟨_, rfl, hI5, below_gb HB.out g5 (Nat.le_refl _) HB.out.size⟩

theorem ml_vals (n : Nat) (Z : Nat → Int) (i : Nat) : ml n Z i = vals i (mk n Z) := rfl
/-- A made matrix, as it lies. -/
theorem il_gx {B f n N : Nat} {Z : Nat → Int} {r c : Int} {v : Value} {w : World} (h : IL B v (ml n Z N) w) (hf : f < B) : GX f r c N (fun t => (((mk n Z t).v : Nat) : Int)) (.agg #[.int .i64 r, .int .i64 c, v]) w := by
  have nx := IL.knx (A := mk n Z) (ml_vals n Z N ▸ h) hf
  obtain ⟨ao, cap, rfl⟩ := nx.shp
  refine ⟨ao, cap, rfl, nx, ?_⟩
  obtain ⟨_, ⟨e, e2⟩ | ⟨g, cap', cur, e, _, hg, _⟩⟩ := h.own
  · left
    simp only [Value.slice.injEq] at e
    exact e.2.1
  · right
    simp only [Value.slice.injEq] at e
    exact ⟨g, _, e.1, hg⟩
end Go.Proofs.Ythedeggggbdibaa

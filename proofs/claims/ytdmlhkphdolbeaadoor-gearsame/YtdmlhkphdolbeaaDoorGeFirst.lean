/-
  Gear: how long the first chunk is: the program's and the document's.
-/
import Derived.Test.YtdmlhkphdolbeaaDoorGeMix
namespace Go.Proofs.YtdmlhkphdolbeaaDoor
open Go.RowKit Go.Lib
theorem cut_test {H B : Nat} {r : Bool} (h : decide (H / 2 ^ (64 - B) = 0) = r) : ((H : Int) / 2 ^ (64 - B) == 0) = r := by
  rw [← h]
  have e : (H : Int) / 2 ^ (64 - B) = ((H / 2 ^ (64 - B) : Nat) : Int) := by
    rw [Int.natCast_ediv, Int.natCast_pow]; rfl
  rw [e]
  by_cases hz : H / 2 ^ (64 - B) = 0
  · rw [hz]; rfl
  · rw [decide_eq_false hz, beq_eq_false_iff_ne]; omega
section
variable {w : World} {L B M : Nat} {s : ByteArray}
set_option maxRecDepth 100000 in
set_option maxHeartbeats 800000 in
theorem first1_any (o : OkX L B M) (hl : Lm w) (hs : s.size ≤ 4611686018427387904) : Calls Tryd.prog 24 #[.agg #[.int .i64 (L : Int), .int .i64 (B : Int), .int .i64 (M : Int)], .string s] w fun e w' => e = .returned (.int .i64 ((fl L B M s : Nat) : Int)) ∧ Below w.heap.size w w' := by
  have HB : Hid (Below w.heap.size w (w.alloc (.cells #[.int .i64 L, .int .i64 B, .int .i64 M] 23))) := (Below.refl _ _).alloc (Nat.le_refl _) _
  by_cases h1 : s.size ≤ L
  · rw [fl, if_pos h1]
    have c1 : (s.size : Int) ≤ (L : Int) := by omega
    go_enter Tryd.func24, Tryd.ntmps24
    go_wp2
    go_ret
    exact ⟨rfl, HB.out⟩
  have c1 : ¬ (s.size : Int) ≤ (L : Int) := by omega
  obtain ⟨E, hE⟩ : ∃ E, E = min s.size M := ⟨_, rfl⟩
  obtain ⟨F, hF⟩ : ∃ F, F = fl L B M s := ⟨_, rfl⟩
  rw [← hF]
  rw [fl, if_neg h1, ← hE] at hF
  have hEs : E ≤ s.size ∧ E ≤ M ∧ (E = s.size ∨ E = M) := by omega
  have HF := hide hF
  have hL1 := o.l1
  have hL2 := o.l2
  have hB1 := o.b1
  have hB2 := o.b2
  have hEL : L ≤ E := by have := o.m1; omega
  clear hF o
  obtain ⟨w1, hw1⟩ : ∃ w1, w1 = w.alloc (.cells #[.int .i64 L, .int .i64 B, .int .i64 M] 23) := ⟨_, rfl⟩
  have HW : Hid (Below w.heap.size w w1 ∧ Lm w1 ∧ w1.heap[w.heap.size]? = some (.cells #[.int .i64 L, .int .i64 B, .int .i64 M] 23 (0, 0)) ∧ w1.heap.size = w.heap.size + 1) := by
    rw [hw1]
    exact ⟨HB.out, hl.bel HB.out, heap_alloc_new w _, by simp⟩
  have hw1' := hw1.symm
  obtain ⟨_, _, hW3, _⟩ := HW.out
  have x0 : w1.cell? ⟨w.heap.size, 0, none⟩ = some (.int .i64 (L : Int)) := by simp [World.cell?, hW3]
  have x1 : w1.cell? ⟨w.heap.size, 1, none⟩ = some (.int .i64 (B : Int)) := by simp [World.cell?, hW3]
  have x2 : w1.cell? ⟨w.heap.size, 2, none⟩ = some (.int .i64 (M : Int)) := by simp [World.cell?, hW3]
  clear hw1 hl hW3
  by_cases hm : (M : Int) < (s.size : Int)
  · have eE : E = M := by omega
    go_enter Tryd.func24, Tryd.ntmps24
    go_wp2
    go_loopw [6, 7] (fun h i wr => ∃ (H j : Nat), h = .int .u64 (H : Int) ∧ i = .int .i64 (j : Int) ∧ L ≤ j + 1 ∧ j ≤ E ∧ H < 18446744073709551616 ∧ lp (gs s) B (E - j) j H = F ∧ Below w1.heap.size w1 wr) (fun _ i _ => E - (intOf i).toNat)
    case atStart => exact ⟨0, L - 1, rfl, by go_num, by omega, by omega, by decide, HF.out.symm, Below.refl _ _⟩
    case round =>
      obtain ⟨H, j, rfl, rfl, hj1, hj2, hH, hlp, hb⟩ := hrel
      obtain ⟨hW1, hW2, hW3, hW4⟩ := HW.out
      have u2 : wr.cell? ⟨w.heap.size, 2, none⟩ = some (.int .i64 (M : Int)) := by rw [hb.cell (p := ⟨w.heap.size, 2, none⟩) (by show w.heap.size < _; omega)]; simp [World.cell?, hW3]
      by_cases hlt : j < E
      · have d1 : (j : Int) < (M : Int) := by omega
        have d2 : (j : Int) < (s.size : Int) := by omega
        have d0 : (0 : Int) ≤ (j : Int) := by omega
        have hjs : j < s.size := by omega
        have hLr := hW2.bel hb
        obtain ⟨n, hn⟩ : ∃ n, E - j = n + 1 := ⟨E - j - 1, by omega⟩
        rw [hn, lp, gs_at hjs] at hlp
        obtain ⟨G, hG⟩ : ∃ G, G = gm (s[j]'hjs).toNat := ⟨_, rfl⟩
        have hGl : G < 18446744073709551616 := by rw [hG]; exact gm_lt _
        rw [← hG] at hlp
        obtain ⟨H2, hH2⟩ : ∃ H2, H2 = (2 * H + G) % 18446744073709551616 := ⟨_, rfl⟩
        rw [← hH2] at hlp
        have HC := hide (mixed_any hLr (s[j]'hjs).toNat (by have := (s[j]'hjs).toNat_lt; omega))
        rw [← hG] at HC
        have hH2l : H2 < 18446744073709551616 := by rw [hH2]; exact Nat.mod_lt _ (by decide)
        have hHi : IntKind.u64.wrap (IntKind.u64.wrap ((H : Int) * 2) + (G : Int)) = (H2 : Int) := by rw [hH2, IntKind.wrap_u64, IntKind.wrap_u64]; omega
        have HJ := hide (And.intro hlp (And.intro hb (And.intro hW4 (And.intro hn (And.intro hW3 hW1)))))
        clear hlp hb hW1 hW2 hW3 hLr hH2 hG hn hW4
        go_wp2_with fail
        refine HC.out.mono ?_
        rintro _ w2 ⟨rfl, hb2⟩
        obtain ⟨hlp, hb, hW4, hn, hW3, hW1⟩ := HJ.out
        have hb3 := below_step hb hb2
        have y1 : w2.cell? ⟨w.heap.size, 1, none⟩ = some (.int .i64 (B : Int)) := by rw [hb3.cell (p := ⟨w.heap.size, 1, none⟩) (by show w.heap.size < _; omega)]; simp [World.cell?, hW3]
        have HJ2 := hide (And.intro hb3 (And.intro hn (below_step hW1 hb3)))
        have HLP := hide hlp
        clear hlp hb hW4 hn hW3 hW1 hb2 hb3 HJ HC
        by_cases hc : H2 / 2 ^ (64 - B) = 0
        · have hci := cut_test (decide_eq_true hc)
          have HE : Hid ((j : Int) + 1 = (F : Int)) := by have := HLP.out; rw [if_pos hc] at this; show (j : Int) + 1 = F; omega
          go_wp2
          go_ret
          exact ⟨by rw [HE.out]; rfl, HJ2.out.2.2⟩
        · have hci := cut_test (decide_eq_false hc)
          have HE : Hid (lp (gs s) B n (j + 1) H2 = F) := by have := HLP.out; rwa [if_neg hc] at this
          go_wp2
          refine ⟨⟨H2, j + 1, rfl, by go_num, by omega, by omega, hH2l, ?_, HJ2.out.1⟩, by simp [intOf]; omega⟩
          have := HJ2.out.2.1
          rw [show E - (j + 1) = n by omega]
          exact HE.out
      · obtain rfl : j = E := by omega
        have e : j = F := by rw [← hlp, Nat.sub_self]; rfl
        have d1 : ¬ (j : Int) < (M : Int) := by omega
        have HZ := hide (And.intro e (below_step hW1 hb))
        clear hlp hb hW1 hW2 hW3 hW4 e hE
        go_wp2
        go_ret
        exact ⟨by have := HZ.out.1; rw [show ((M : Nat) : Int) = (F : Int) by omega]; rfl, HZ.out.2⟩
  · have eE : E = s.size := by omega
    go_enter Tryd.func24, Tryd.ntmps24
    go_wp2
    go_loopw [6, 7] (fun h i wr => ∃ (H j : Nat), h = .int .u64 (H : Int) ∧ i = .int .i64 (j : Int) ∧ L ≤ j + 1 ∧ j ≤ E ∧ H < 18446744073709551616 ∧ lp (gs s) B (E - j) j H = F ∧ Below w1.heap.size w1 wr) (fun _ i _ => E - (intOf i).toNat)
    case atStart => exact ⟨0, L - 1, rfl, by go_num, by omega, by omega, by decide, HF.out.symm, Below.refl _ _⟩
    case round =>
      obtain ⟨H, j, rfl, rfl, hj1, hj2, hH, hlp, hb⟩ := hrel
      obtain ⟨hW1, hW2, hW3, hW4⟩ := HW.out
      have u2 : wr.cell? ⟨w.heap.size, 2, none⟩ = some (.int .i64 (M : Int)) := by rw [hb.cell (p := ⟨w.heap.size, 2, none⟩) (by show w.heap.size < _; omega)]; simp [World.cell?, hW3]
      by_cases hlt : j < E
      · have d1 : (j : Int) < (M : Int) := by omega
        have d2 : (j : Int) < (s.size : Int) := by omega
        have d0 : (0 : Int) ≤ (j : Int) := by omega
        have hjs : j < s.size := by omega
        have hLr := hW2.bel hb
        obtain ⟨n, hn⟩ : ∃ n, E - j = n + 1 := ⟨E - j - 1, by omega⟩
        rw [hn, lp, gs_at hjs] at hlp
        obtain ⟨G, hG⟩ : ∃ G, G = gm (s[j]'hjs).toNat := ⟨_, rfl⟩
        have hGl : G < 18446744073709551616 := by rw [hG]; exact gm_lt _
        rw [← hG] at hlp
        obtain ⟨H2, hH2⟩ : ∃ H2, H2 = (2 * H + G) % 18446744073709551616 := ⟨_, rfl⟩
        rw [← hH2] at hlp
        have HC := hide (mixed_any hLr (s[j]'hjs).toNat (by have := (s[j]'hjs).toNat_lt; omega))
        rw [← hG] at HC
        have hH2l : H2 < 18446744073709551616 := by rw [hH2]; exact Nat.mod_lt _ (by decide)
        have hHi : IntKind.u64.wrap (IntKind.u64.wrap ((H : Int) * 2) + (G : Int)) = (H2 : Int) := by rw [hH2, IntKind.wrap_u64, IntKind.wrap_u64]; omega
        have HJ := hide (And.intro hlp (And.intro hb (And.intro hW4 (And.intro hn (And.intro hW3 hW1)))))
        clear hlp hb hW1 hW2 hW3 hLr hH2 hG hn hW4
        go_wp2_with fail
        refine HC.out.mono ?_
        rintro _ w2 ⟨rfl, hb2⟩
        obtain ⟨hlp, hb, hW4, hn, hW3, hW1⟩ := HJ.out
        have hb3 := below_step hb hb2
        have y1 : w2.cell? ⟨w.heap.size, 1, none⟩ = some (.int .i64 (B : Int)) := by rw [hb3.cell (p := ⟨w.heap.size, 1, none⟩) (by show w.heap.size < _; omega)]; simp [World.cell?, hW3]
        have HJ2 := hide (And.intro hb3 (And.intro hn (below_step hW1 hb3)))
        have HLP := hide hlp
        clear hlp hb hW4 hn hW3 hW1 hb2 hb3 HJ HC
        by_cases hc : H2 / 2 ^ (64 - B) = 0
        · have hci := cut_test (decide_eq_true hc)
          have HE : Hid ((j : Int) + 1 = (F : Int)) := by have := HLP.out; rw [if_pos hc] at this; show (j : Int) + 1 = F; omega
          go_wp2
          go_ret
          exact ⟨by rw [HE.out]; rfl, HJ2.out.2.2⟩
        · have hci := cut_test (decide_eq_false hc)
          have HE : Hid (lp (gs s) B n (j + 1) H2 = F) := by have := HLP.out; rwa [if_neg hc] at this
          go_wp2
          refine ⟨⟨H2, j + 1, rfl, by go_num, by omega, by omega, hH2l, ?_, HJ2.out.1⟩, by simp [intOf]; omega⟩
          have := HJ2.out.2.1
          rw [show E - (j + 1) = n by omega]
          exact HE.out
      · obtain rfl : j = E := by omega
        have e : j = F := by rw [← hlp, Nat.sub_self]; rfl
        have d1 : ¬ (j : Int) < (s.size : Int) := by omega
        have HZ := hide (And.intro e (below_step hW1 hb))
        clear hlp hb hW1 hW2 hW3 hW4 e hE
        go_wp2
        go_ret
        exact ⟨by have := HZ.out.1; rw [show ((s.size : Nat) : Int) = (F : Int) by omega]; rfl, HZ.out.2⟩
set_option maxRecDepth 100000 in
set_option maxHeartbeats 800000 in
theorem rlong_any (o : OkX L B M) (hs : s.size ≤ 4611686018427387904) : Calls Tryd.prog 25 #[.agg #[.int .i64 (L : Int), .int .i64 (B : Int), .int .i64 (M : Int)], .string s] w fun e w' => e = .returned (.int .i64 ((fl L B M s : Nat) : Int)) ∧ Below w.heap.size w w' := by
  have HB : Hid (Below w.heap.size w (w.alloc (.cells #[.int .i64 L, .int .i64 B, .int .i64 M] 25))) := (Below.refl _ _).alloc (Nat.le_refl _) _
  by_cases h1 : s.size ≤ L
  · rw [fl, if_pos h1]
    have c1 : (s.size : Int) ≤ (L : Int) := by omega
    go_enter Tryd.func25, Tryd.ntmps25
    go_wp2
    go_ret
    exact ⟨rfl, HB.out⟩
  have c1 : ¬ (s.size : Int) ≤ (L : Int) := by omega
  obtain ⟨E, hE⟩ : ∃ E, E = min s.size M := ⟨_, rfl⟩
  obtain ⟨F, hF⟩ : ∃ F, F = fl L B M s := ⟨_, rfl⟩
  rw [← hF]
  rw [fl, if_neg h1, ← hE] at hF
  have hEs : E ≤ s.size ∧ E ≤ M ∧ (E = s.size ∨ E = M) := by omega
  have HF := hide hF
  have hL1 := o.l1
  have hL2 := o.l2
  have hB1 := o.b1
  have hB2 := o.b2
  have hEL : L ≤ E := by have := o.m1; omega
  clear hF o
  obtain ⟨w1, hw1⟩ : ∃ w1, w1 = w.alloc (.cells #[.int .i64 L, .int .i64 B, .int .i64 M] 25) := ⟨_, rfl⟩
  have HW : Hid (Below w.heap.size w w1 ∧ True ∧ w1.heap[w.heap.size]? = some (.cells #[.int .i64 L, .int .i64 B, .int .i64 M] 25 (0, 0)) ∧ w1.heap.size = w.heap.size + 1) := by
    rw [hw1]
    exact ⟨HB.out, trivial, heap_alloc_new w _, by simp⟩
  have hw1' := hw1.symm
  obtain ⟨_, _, hW3, _⟩ := HW.out
  have x0 : w1.cell? ⟨w.heap.size, 0, none⟩ = some (.int .i64 (L : Int)) := by simp [World.cell?, hW3]
  have x1 : w1.cell? ⟨w.heap.size, 1, none⟩ = some (.int .i64 (B : Int)) := by simp [World.cell?, hW3]
  have x2 : w1.cell? ⟨w.heap.size, 2, none⟩ = some (.int .i64 (M : Int)) := by simp [World.cell?, hW3]
  clear hw1 hW3
  by_cases hm : (M : Int) < (s.size : Int)
  · have eE : E = M := by omega
    go_enter Tryd.func25, Tryd.ntmps25
    go_wp2
    go_loopw [5, 6] (fun h i wr => ∃ (H j : Nat), h = .int .u64 (H : Int) ∧ i = .int .i64 (j : Int) ∧ L ≤ j + 1 ∧ j ≤ E ∧ H < 18446744073709551616 ∧ lp (gs s) B (E - j) j H = F ∧ Below w1.heap.size w1 wr) (fun _ i _ => E - (intOf i).toNat)
    case atStart => exact ⟨0, L - 1, rfl, by go_num, by omega, by omega, by decide, HF.out.symm, Below.refl _ _⟩
    case round =>
      obtain ⟨H, j, rfl, rfl, hj1, hj2, hH, hlp, hb⟩ := hrel
      obtain ⟨hW1, hW2, hW3, hW4⟩ := HW.out
      have u2 : wr.cell? ⟨w.heap.size, 2, none⟩ = some (.int .i64 (M : Int)) := by rw [hb.cell (p := ⟨w.heap.size, 2, none⟩) (by show w.heap.size < _; omega)]; simp [World.cell?, hW3]
      by_cases hlt : j < E
      · have d1 : (j : Int) < (M : Int) := by omega
        have d2 : (j : Int) < (s.size : Int) := by omega
        have d0 : (0 : Int) ≤ (j : Int) := by omega
        have hjs : j < s.size := by omega
        obtain ⟨n, hn⟩ : ∃ n, E - j = n + 1 := ⟨E - j - 1, by omega⟩
        rw [hn, lp, gs_at hjs] at hlp
        obtain ⟨G, hG⟩ : ∃ G, G = gm (s[j]'hjs).toNat := ⟨_, rfl⟩
        have hGl : G < 18446744073709551616 := by rw [hG]; exact gm_lt _
        rw [← hG] at hlp
        obtain ⟨H2, hH2⟩ : ∃ H2, H2 = (2 * H + G) % 18446744073709551616 := ⟨_, rfl⟩
        rw [← hH2] at hlp
        have HC := hide (rof_any wr (s[j]'hjs).toNat (by have := (s[j]'hjs).toNat_lt; omega))
        rw [← hG] at HC
        have hH2l : H2 < 18446744073709551616 := by rw [hH2]; exact Nat.mod_lt _ (by decide)
        have hHi : IntKind.u64.wrap (IntKind.u64.wrap (2 * (H : Int)) + (G : Int)) = (H2 : Int) := by rw [hH2, IntKind.wrap_u64, IntKind.wrap_u64]; omega
        have HJ := hide (And.intro hlp (And.intro hb (And.intro hW4 (And.intro hn (And.intro hW3 hW1)))))
        clear hlp hb hW1 hW2 hW3 hH2 hG hn hW4
        go_wp2_with fail
        refine HC.out.mono ?_
        rintro _ w2 ⟨rfl, hb2⟩
        obtain ⟨hlp, hb, hW4, hn, hW3, hW1⟩ := HJ.out
        subst hb2
        have hb3 := hb
        have y1 : w2.cell? ⟨w.heap.size, 1, none⟩ = some (.int .i64 (B : Int)) := by rw [hb3.cell (p := ⟨w.heap.size, 1, none⟩) (by show w.heap.size < _; omega)]; simp [World.cell?, hW3]
        have HJ2 := hide (And.intro hb3 (And.intro hn (below_step hW1 hb3)))
        have HLP := hide hlp
        clear hlp hb hW4 hn hW3 hW1 hb3 HJ HC
        by_cases hc : H2 / 2 ^ (64 - B) = 0
        · have hci := cut_test (decide_eq_true hc)
          have HE : Hid ((j : Int) + 1 = (F : Int)) := by have := HLP.out; rw [if_pos hc] at this; show (j : Int) + 1 = F; omega
          go_wp2
          go_ret
          exact ⟨by rw [HE.out]; rfl, HJ2.out.2.2⟩
        · have hci := cut_test (decide_eq_false hc)
          have HE : Hid (lp (gs s) B n (j + 1) H2 = F) := by have := HLP.out; rwa [if_neg hc] at this
          go_wp2
          refine ⟨⟨H2, j + 1, rfl, by go_num, by omega, by omega, hH2l, ?_, HJ2.out.1⟩, by simp [intOf]; omega⟩
          have := HJ2.out.2.1
          rw [show E - (j + 1) = n by omega]
          exact HE.out
      · obtain rfl : j = E := by omega
        have e : j = F := by rw [← hlp, Nat.sub_self]; rfl
        have d1 : ¬ (j : Int) < (M : Int) := by omega
        have HZ := hide (And.intro e (below_step hW1 hb))
        clear hlp hb hW1 hW2 hW3 hW4 e hE
        go_wp2
        go_ret
        exact ⟨by have := HZ.out.1; rw [show ((M : Nat) : Int) = (F : Int) by omega]; rfl, HZ.out.2⟩
  · have eE : E = s.size := by omega
    go_enter Tryd.func25, Tryd.ntmps25
    go_wp2
    go_loopw [5, 6] (fun h i wr => ∃ (H j : Nat), h = .int .u64 (H : Int) ∧ i = .int .i64 (j : Int) ∧ L ≤ j + 1 ∧ j ≤ E ∧ H < 18446744073709551616 ∧ lp (gs s) B (E - j) j H = F ∧ Below w1.heap.size w1 wr) (fun _ i _ => E - (intOf i).toNat)
    case atStart => exact ⟨0, L - 1, rfl, by go_num, by omega, by omega, by decide, HF.out.symm, Below.refl _ _⟩
    case round =>
      obtain ⟨H, j, rfl, rfl, hj1, hj2, hH, hlp, hb⟩ := hrel
      obtain ⟨hW1, hW2, hW3, hW4⟩ := HW.out
      have u2 : wr.cell? ⟨w.heap.size, 2, none⟩ = some (.int .i64 (M : Int)) := by rw [hb.cell (p := ⟨w.heap.size, 2, none⟩) (by show w.heap.size < _; omega)]; simp [World.cell?, hW3]
      by_cases hlt : j < E
      · have d1 : (j : Int) < (M : Int) := by omega
        have d2 : (j : Int) < (s.size : Int) := by omega
        have d0 : (0 : Int) ≤ (j : Int) := by omega
        have hjs : j < s.size := by omega
        obtain ⟨n, hn⟩ : ∃ n, E - j = n + 1 := ⟨E - j - 1, by omega⟩
        rw [hn, lp, gs_at hjs] at hlp
        obtain ⟨G, hG⟩ : ∃ G, G = gm (s[j]'hjs).toNat := ⟨_, rfl⟩
        have hGl : G < 18446744073709551616 := by rw [hG]; exact gm_lt _
        rw [← hG] at hlp
        obtain ⟨H2, hH2⟩ : ∃ H2, H2 = (2 * H + G) % 18446744073709551616 := ⟨_, rfl⟩
        rw [← hH2] at hlp
        have HC := hide (rof_any wr (s[j]'hjs).toNat (by have := (s[j]'hjs).toNat_lt; omega))
        rw [← hG] at HC
        have hH2l : H2 < 18446744073709551616 := by rw [hH2]; exact Nat.mod_lt _ (by decide)
        have hHi : IntKind.u64.wrap (IntKind.u64.wrap (2 * (H : Int)) + (G : Int)) = (H2 : Int) := by rw [hH2, IntKind.wrap_u64, IntKind.wrap_u64]; omega
        have HJ := hide (And.intro hlp (And.intro hb (And.intro hW4 (And.intro hn (And.intro hW3 hW1)))))
        clear hlp hb hW1 hW2 hW3 hH2 hG hn hW4
        go_wp2_with fail
        refine HC.out.mono ?_
        rintro _ w2 ⟨rfl, hb2⟩
        obtain ⟨hlp, hb, hW4, hn, hW3, hW1⟩ := HJ.out
        subst hb2
        have hb3 := hb
        have y1 : w2.cell? ⟨w.heap.size, 1, none⟩ = some (.int .i64 (B : Int)) := by rw [hb3.cell (p := ⟨w.heap.size, 1, none⟩) (by show w.heap.size < _; omega)]; simp [World.cell?, hW3]
        have HJ2 := hide (And.intro hb3 (And.intro hn (below_step hW1 hb3)))
        have HLP := hide hlp
        clear hlp hb hW4 hn hW3 hW1 hb3 HJ HC
        by_cases hc : H2 / 2 ^ (64 - B) = 0
        · have hci := cut_test (decide_eq_true hc)
          have HE : Hid ((j : Int) + 1 = (F : Int)) := by have := HLP.out; rw [if_pos hc] at this; show (j : Int) + 1 = F; omega
          go_wp2
          go_ret
          exact ⟨by rw [HE.out]; rfl, HJ2.out.2.2⟩
        · have hci := cut_test (decide_eq_false hc)
          have HE : Hid (lp (gs s) B n (j + 1) H2 = F) := by have := HLP.out; rwa [if_neg hc] at this
          go_wp2
          refine ⟨⟨H2, j + 1, rfl, by go_num, by omega, by omega, hH2l, ?_, HJ2.out.1⟩, by simp [intOf]; omega⟩
          have := HJ2.out.2.1
          rw [show E - (j + 1) = n by omega]
          exact HE.out
      · obtain rfl : j = E := by omega
        have e : j = F := by rw [← hlp, Nat.sub_self]; rfl
        have d1 : ¬ (j : Int) < (s.size : Int) := by omega
        have HZ := hide (And.intro e (below_step hW1 hb))
        clear hlp hb hW1 hW2 hW3 hW4 e hE
        go_wp2
        go_ret
        exact ⟨by have := HZ.out.1; rw [show ((s.size : Nat) : Int) = (F : Int) by omega]; rfl, HZ.out.2⟩
end
/-- First's answer. -/
def firstA (L B M : Int) (s : ByteArray) : Value := .tuple #[.int .i64 (if ckC L B M = 0 then ((fl L.toNat B.toNat M.toNat s : Nat) : Int) else 0), .int .i64 (ckC L B M)]
set_option maxRecDepth 100000 in
theorem first_any {w : World} (hl : Lm w) (L B M : Int) (s : ByteArray) (hs : s.size ≤ 4611686018427387904) : Calls Tryd.prog 10 #[.agg #[.int .i64 L, .int .i64 B, .int .i64 M], .string s] w fun e w' => e = .returned (firstA L B M s) ∧ Below w.heap.size w w' := by
  obtain ⟨w1, hw1⟩ : ∃ w1, w1 = w.alloc (.cells #[.int .i64 L, .int .i64 B, .int .i64 M] 23) := ⟨_, rfl⟩
  have hB1 : Below w.heap.size w w1 := by rw [hw1]; exact (Below.refl _ _).alloc (Nat.le_refl _) _
  have hW3 : w1.heap[w.heap.size]? = some (.cells #[.int .i64 L, .int .i64 B, .int .i64 M] 23 (0, 0)) := by rw [hw1]; exact heap_alloc_new w _
  have hW4 : w1.heap.size = w.heap.size + 1 := by rw [hw1]; simp
  have hw1' := hw1.symm
  have cl : ∀ w2 : World, Below w1.heap.size w1 w2 → w2.cell? ⟨w.heap.size, 0, none⟩ = some (.int .i64 L) ∧ w2.cell? ⟨w.heap.size, 1, none⟩ = some (.int .i64 B) ∧ w2.cell? ⟨w.heap.size, 2, none⟩ = some (.int .i64 M) := fun w2 hb => by
    refine ⟨?_, ?_, ?_⟩ <;> rw [hb.cell (p := ⟨w.heap.size, _, none⟩) (by show w.heap.size < _; omega)] <;> simp [World.cell?, hW3]
  have CL := hide cl
  obtain ⟨a0, a1, a2⟩ := cl w1 (Below.refl _ _)
  have HB := hide hB1
  clear hw1 hW3 hB1 cl
  rw [firstA]
  obtain ⟨c, hc⟩ : ∃ c, c = ckC L B M := ⟨_, rfl⟩
  rw [← hc]
  have HC : Hid (∀ w : World, Calls Tryd.prog 14 #[.agg #[.int .i64 L, .int .i64 B, .int .i64 M]] w fun e w' => e = .returned (.int .i64 c) ∧ Below w.heap.size w w') := by rw [hc]; exact fun w => check_any w L B M
  rcases ck_01 L B M with h0 | h0
  · obtain ⟨l, b, m, rfl, rfl, rfl, ok⟩ := ck_nat h0
    rw [h0] at hc
    subst hc
    rw [if_pos rfl]
    have OK := hide ok
    clear ok h0
    go_enter Tryd.func10, Tryd.ntmps10
    go_wp2_with fail
    refine (HC.out w1).mono ?_
    rintro _ w2 ⟨rfl, hb2⟩
    obtain ⟨b0, b1, b2⟩ := CL.out w2 hb2
    have HB2 := hide (below_step HB.out hb2)
    clear hb2
    go_wp2_with fail
    refine (first1_any OK.out (hl.bel HB2.out) hs).mono ?_
    rintro _ w3 ⟨rfl, hb3⟩
    have HB3 := hide (below_step HB2.out hb3)
    clear hb3
    go_wp2
    go_ret2
    exact ⟨rfl, HB3.out⟩
  · rw [h0] at hc
    subst hc
    rw [if_neg (by decide)]
    clear h0
    go_enter Tryd.func10, Tryd.ntmps10
    go_wp2_with fail
    refine (HC.out w1).mono ?_
    rintro _ w2 ⟨rfl, hb2⟩
    have HB2 := hide (below_step HB.out hb2)
    clear hb2
    go_wp2
    go_ret2
    exact ⟨rfl, HB2.out⟩
set_option maxRecDepth 100000 in
theorem rfirst_any {w : World} (L B M : Int) (s : ByteArray) (hs : s.size ≤ 4611686018427387904) : Calls Tryd.prog 11 #[.agg #[.int .i64 L, .int .i64 B, .int .i64 M], .string s] w fun e w' => e = .returned (firstA L B M s) ∧ Below w.heap.size w w' := by
  obtain ⟨w1, hw1⟩ : ∃ w1, w1 = w.alloc (.cells #[.int .i64 L, .int .i64 B, .int .i64 M] 25) := ⟨_, rfl⟩
  have hB1 : Below w.heap.size w w1 := by rw [hw1]; exact (Below.refl _ _).alloc (Nat.le_refl _) _
  have hW3 : w1.heap[w.heap.size]? = some (.cells #[.int .i64 L, .int .i64 B, .int .i64 M] 25 (0, 0)) := by rw [hw1]; exact heap_alloc_new w _
  have hW4 : w1.heap.size = w.heap.size + 1 := by rw [hw1]; simp
  have hw1' := hw1.symm
  have cl : ∀ w2 : World, Below w1.heap.size w1 w2 → w2.cell? ⟨w.heap.size, 0, none⟩ = some (.int .i64 L) ∧ w2.cell? ⟨w.heap.size, 1, none⟩ = some (.int .i64 B) ∧ w2.cell? ⟨w.heap.size, 2, none⟩ = some (.int .i64 M) := fun w2 hb => by
    refine ⟨?_, ?_, ?_⟩ <;> rw [hb.cell (p := ⟨w.heap.size, _, none⟩) (by show w.heap.size < _; omega)] <;> simp [World.cell?, hW3]
  have CL := hide cl
  obtain ⟨a0, a1, a2⟩ := cl w1 (Below.refl _ _)
  have HB := hide hB1
  clear hw1 hW3 hB1 cl
  rw [firstA]
  obtain ⟨c, hc⟩ : ∃ c, c = ckC L B M := ⟨_, rfl⟩
  rw [← hc]
  have HC : Hid (∀ w : World, Calls Tryd.prog 15 #[.agg #[.int .i64 L, .int .i64 B, .int .i64 M]] w fun e w' => e = .returned (.int .i64 c) ∧ Below w.heap.size w w') := by rw [hc]; exact fun w => rcheck_any w L B M
  rcases ck_01 L B M with h0 | h0
  · obtain ⟨l, b, m, rfl, rfl, rfl, ok⟩ := ck_nat h0
    rw [h0] at hc
    subst hc
    rw [if_pos rfl]
    have OK := hide ok
    clear ok h0
    go_enter Tryd.func11, Tryd.ntmps11
    go_wp2_with fail
    refine (HC.out w1).mono ?_
    rintro _ w2 ⟨rfl, hb2⟩
    obtain ⟨b0, b1, b2⟩ := CL.out w2 hb2
    have HB2 := hide (below_step HB.out hb2)
    clear hb2
    go_wp2_with fail
    refine (rlong_any OK.out hs).mono ?_
    rintro _ w3 ⟨rfl, hb3⟩
    have HB3 := hide (below_step HB2.out hb3)
    clear hb3
    go_wp2
    go_ret2
    exact ⟨rfl, HB3.out⟩
  · rw [h0] at hc
    subst hc
    rw [if_neg (by decide)]
    clear h0
    go_enter Tryd.func11, Tryd.ntmps11
    go_wp2_with fail
    refine (HC.out w1).mono ?_
    rintro _ w2 ⟨rfl, hb2⟩
    have HB2 := hide (below_step HB.out hb2)
    clear hb2
    go_wp2
    go_ret2
    exact ⟨rfl, HB2.out⟩
end Go.Proofs.YtdmlhkphdolbeaaDoor

/-
  The walk of the statement on powers and logarithms.
-/
import Derived.Test.YtcgiolehlokpnaaIsLaw
namespace Go.Proofs.Ytcgiolehlokpnaa
open Go.RowKit Go.Lib

theorem lg_two : lg 2 = 1 := by decide +kernel
theorem lg_power2 (n : Nat) : lg (power 2 n) = n % 255 := by rw [lg_power 2 n (by decide), lg_two, Nat.one_mul]

def eight : Array Value := #[.int .i64 0, .int .i64 0, .int .i64 0, .int .i64 0, .int .i64 0, .int .i64 0, .int .i64 0, .int .i64 0]
theorem eight_cell (w : World) (j : Nat) (h : j < 8) : (w.alloc (.cells eight 25)).cell? ⟨w.heap.size, j, none⟩ = some (.int .i64 0) := by
  rw [World.cell?_alloc_at _ _ _ _ rfl]
  rcases j with _ | _ | _ | _ | _ | _ | _ | _ | j
  all_goals first | rfl | omega

section
variable {w : World} {f l : Nat}
theorem SQ.pow (hfl : f < l) (hwf : w.heap.size ≤ f) (a n : Nat) (ha : a < 256) (hn : n ≤ 9223372036854775807) (w' : World) (h : SQ w f l w') :
    Calls Try.prog 14 #[.pointer (some ⟨f, 0, none⟩), .int .i64 a, .int .i64 n] w' fun e w'' => e = .returned (.tuple #[.int .i64 ((power a n : Nat) : Int), .int .i64 0]) ∧ SQ w f l w'' := by
  refine (pow_ok h.1 a n ha hn).mono ?_
  rintro e w'' ⟨rfl, hF, hg⟩
  exact ⟨rfl, h.step hfl hwf hF hg⟩
theorem SQ.log (hfl : f < l) (hwf : w.heap.size ≤ f) (a : Nat) (ha : a < 256) (h0 : a ≠ 0) (w' : World) (h : SQ w f l w') :
    Calls Try.prog 16 #[.pointer (some ⟨f, 0, none⟩), .int .i64 a] w' fun e w'' => e = .returned (.tuple #[.int .i64 ((lg a : Nat) : Int), .int .i64 0]) ∧ SQ w f l w'' ∧ w''.cell? ⟨l, 0, none⟩ = some (.pointer (some ⟨f, 0, none⟩)) := by
  refine (log_ok h.1 a ha h0).mono ?_
  rintro e w'' ⟨rfl, hF, hg⟩
  have R := h.step hfl hwf hF hg
  exact ⟨rfl, R, R.cell⟩
end

set_option maxHeartbeats 1600000 in
set_option maxRecDepth 100000 in
theorem pow_walk (a b n0 n1 : Int) (w : World) (ha : -9223372036854775808 ≤ a ∧ a ≤ 9223372036854775807) (hb : -9223372036854775808 ≤ b ∧ b ≤ 9223372036854775807)
    (h0 : -9223372036854775808 ≤ n0 ∧ n0 ≤ 9223372036854775807) (h1 : -9223372036854775808 ≤ n1 ∧ n1 ≤ 9223372036854775807) :
    Calls Try.prog 6 #[.int .i64 a, .int .i64 b, .agg #[.int .i64 n0, .int .i64 n1]] w fun e w' => e = .returned (.bool true) ∧ Below w.heap.size w w' := by
  obtain ⟨x, hx, hA⟩ := among_any a 255 ha (by decide)
  obtain ⟨y, hy, hB⟩ := among_any b 255 hb (by decide)
  obtain ⟨n, hn, hN⟩ := among_any n0 100000 h0 (by decide)
  obtain ⟨m, hm, hM⟩ := among_any n1 100000 h1 (by decide)
  have HA : Hid _ := hA
  have HB : Hid _ := hB
  have HN : Hid (∀ (v : Value) (w : World), v = .int .i64 n0 → Calls Try.prog 27 #[v, .int .i64 100000] w fun e w' => e = .returned (.int .i64 n) ∧ w' = w) := fun v w e => by subst e; exact hN w
  have HM : Hid (∀ (v : Value) (w : World), v = .int .i64 n1 → Calls Try.prog 27 #[v, .int .i64 100000] w fun e w' => e = .returned (.int .i64 m) ∧ w' = w) := fun v w e => by subst e; exact hM w
  clear hA hB hN hM ha hb h0 h1
  obtain ⟨X, hX⟩ : ∃ X, X = 1 + x := ⟨_, rfl⟩
  obtain ⟨Y, hY⟩ : ∃ Y, Y = 1 + y := ⟨_, rfl⟩
  have hX1 : (1 : Int) + (x : Int) = (X : Int) := by omega
  have hX2 : IntKind.i64.wrap (1 + (x : Int)) = (X : Int) := by rw [hX1]; exact wraps_i64 _ (by omega) (by omega)
  have hX3 : X < 256 := by omega
  have hX4 : X ≠ 0 := by omega
  have hY1 : (1 : Int) + (y : Int) = (Y : Int) := by omega
  have hY2 : IntKind.i64.wrap (1 + (y : Int)) = (Y : Int) := by rw [hY1]; exact wraps_i64 _ (by omega) (by omega)
  have hY3 : Y < 256 := by omega
  have hY4 : Y ≠ 0 := by omega
  clear hX hY
  go_enter Try.func6, Try.ntmps6
  go_wp2_with fail
  have hb0 : Below w.heap.size w (w.alloc (.cells #[.int .i64 n0, .int .i64 n1] 43)) := (Below.refl _ _).alloc (Nat.le_refl _) _
  have hc0 : (w.alloc (.cells #[.int .i64 n0, .int .i64 n1] 43)).heap[w.heap.size]? = some (.cells #[.int .i64 n0, .int .i64 n1] 43 (0, 0)) := heap_alloc_new w _
  refine (new_any _).mono ?_
  rintro e w1 ⟨rfl, hF, hbel⟩
  have hc1 := (hbel.block w.heap.size (by simp)).trans hc0
  have hb1 : Below w.heap.size w w1 := hb0.trans (hbel.mono (by simp))
  have hs : (w.alloc (.cells #[.int .i64 n0, .int .i64 n1] 43)).heap.size = w.heap.size + 1 := by simp
  rw [hs] at hF
  clear hbel hb0 hc0
  go_wp2_with fail
  have hbw : Below w.heap.size w (w1.alloc (.cells #[.pointer (some ⟨w.heap.size + 1, 0, none⟩)] 41)) := hb1.alloc hb1.size _
  have hba : Below w1.heap.size w1 (w1.alloc (.cells #[.pointer (some ⟨w.heap.size + 1, 0, none⟩)] 41)) := (Below.refl _ _).alloc (Nat.le_refl _) _
  have hFa : F (w1.alloc (.cells #[.pointer (some ⟨w.heap.size + 1, 0, none⟩)] 41)) (w.heap.size + 1) := hF.below hba (Nat.le_refl _)
  have hca : (w1.alloc (.cells #[.pointer (some ⟨w.heap.size + 1, 0, none⟩)] 41)).heap[w1.heap.size]? = some (.cells #[.pointer (some ⟨w.heap.size + 1, 0, none⟩)] 41 (0, 0)) := heap_alloc_new w1 _
  have hcb := (hba.block w.heap.size (lt_of_block hc1)).trans hc1
  refine (works_any _).mono ?_
  rintro e w2 ⟨rfl, hb2⟩
  have R2 : SQ w (w.heap.size + 1) w1.heap.size w2 := ⟨hFa.below hb2 (Nat.le_refl _), (hb2.block _ (by simp)).trans hca, hbw.trans (hb2.mono hbw.size)⟩
  have hc2 := (hb2.block w.heap.size (by have := lt_of_block hc1; simp; omega)).trans hcb
  have hfl : w.heap.size + 1 < w1.heap.size := hF.lt
  have k0 : w2.cell? ⟨w.heap.size, 0, none⟩ = some (.int .i64 n0) := by rw [cell_of_row w2 _ 0 _ _ _ hc2]; rfl
  have k1 : w2.cell? ⟨w.heap.size, 1, none⟩ = some (.int .i64 n1) := by rw [cell_of_row w2 _ 1 _ _ _ hc2]; rfl
  clear hbw hFa hca hb2 hF hba hcb hc1 hc2 hb1 hs
  generalize w1.heap.size = l at *
  have hwf : w.heap.size ≤ w.heap.size + 1 := by omega
  go_wp2_with fail
  refine (HA.out _).mono ?_
  rintro e w3 ⟨rfl, rfl⟩
  go_wp2_with fail
  refine (HB.out _).mono ?_
  rintro e w3 ⟨rfl, rfl⟩
  clear HA HB
  go_wp2_with fail
  go_region_held3 (fun w' => w' = w3.drew ∧ w'.cell? ⟨w.heap.size, 0, none⟩ = some (.int .i64 n0) ∧ w'.cell? ⟨w.heap.size, 1, none⟩ = some (.int .i64 n1)) (first | assumption | exact ⟨rfl, k0, k1⟩)
    (first
      | (go_at_call 27; refine (HN.out _ _ (by with_reducible rfl)).mono ?_; rintro e wa ⟨rfl, rfl⟩)
      | (go_at_call 27; refine (HM.out _ _ (by with_reducible rfl)).mono ?_; rintro e wa ⟨rfl, rfl⟩))
  have R3 := R2.drew
  clear R2 k0 k1 HN HM
  have c3 := R3.cell
  generalize w3.drew = w4 at *
  have hnm : IntKind.i64.wrap ((n : Int) + (m : Int)) = ((n + m : Nat) : Int) := by rw [wraps_i64 _ (by omega) (by omega)]; rfl
  have hnm2 : (n : Int) + (m : Int) = ((n + m : Nat) : Int) := rfl
  have q1 := power_add X n m hX4
  have q2 := lg_prod X Y hX4 hY4
  have q3 := lg_power2 n
  have q4 := prod_lt X Y
  have q5 := prod_pos X Y hX4 hY4
  have q6 := power_pos 2 n (by decide)
  have l1 := lg_lt X hX3
  have l2 := lg_lt Y hY3
  have P1 : Hid _ := SQ.pow (w := w) hfl hwf X n hX3 (by omega)
  have P2 : Hid _ := SQ.pow (w := w) hfl hwf X m hX3 (by omega)
  have P3 : Hid _ := SQ.pow (w := w) hfl hwf X (n + m) hX3 (by omega)
  have P4 : Hid _ := SQ.pow (w := w) hfl hwf 2 n (by decide) (by omega)
  have L1 : Hid _ := SQ.log (w := w) hfl hwf X hX3 hX4
  have L2 : Hid _ := SQ.log (w := w) hfl hwf Y hY3 hY4
  have L3 : Hid _ := SQ.log (w := w) hfl hwf (prod X Y) q4 q5
  have L4 : Hid _ := SQ.log (w := w) hfl hwf (power 2 n) (power_lt _ _) q6
  have C1 : Hid _ := SQ.mul (w := w) hfl hwf X Y _ hX3 hY3 rfl
  have C2 : Hid _ := SQ.mul (w := w) hfl hwf (power X n) (power X m) _ (power_lt _ _) (power_lt _ _) q1
  rw [q2] at L3
  rw [q3] at L4
  have t1 : ((lg X : Nat) : Int) + ((lg Y : Nat) : Int) = ((lg X + lg Y : Nat) : Int) := rfl
  have t2 : IntKind.i64.wrap (((lg X : Nat) : Int) + ((lg Y : Nat) : Int)) = ((lg X + lg Y : Nat) : Int) := by rw [wraps_i64 _ (by omega) (by omega)]; rfl
  have t3 : ((lg X + lg Y : Nat) : Int).tmod 255 = (((lg X + lg Y) % 255 : Nat) : Int) := by rw [Int.tmod_eq_emod_of_nonneg (by omega)]; rfl
  have t4 : (n : Int).tmod 255 = ((n % 255 : Nat) : Int) := by rw [Int.tmod_eq_emod_of_nonneg (by omega)]; rfl
  clear q1 q2 q3 q4 q5 q6
  generalize (lg X + lg Y) % 255 = lxy at *
  generalize lg X + lg Y = sxy at *
  generalize n % 255 = nr at *
  generalize power X (n + m) = pnm at *
  generalize n + m = nm at *
  generalize power X n = pn at *
  generalize power X m = pm at *
  generalize power 2 n = p2 at *
  generalize prod X Y = pxy at *
  generalize lg X = lx at *
  generalize lg Y = ly at *
  go_wp2_with fail
  refine (P1.out _ R3).mono ?_
  rintro e w5 ⟨rfl, R5⟩
  have c5 := R5.cell
  clear R3 c3
  go_wp2_with fail
  refine (P2.out _ R5).mono ?_
  rintro e w6 ⟨rfl, R6⟩
  have c6 := R6.cell
  clear R5 c5
  go_wp2_with fail
  refine (P3.out _ R6).mono ?_
  rintro e w7 ⟨rfl, R7⟩
  have c7 := R7.cell
  clear R6 c6
  go_wp2_with fail
  refine (L1.out _ R7).mono ?_
  rintro e w8 ⟨rfl, R8, c8⟩
  clear R7 c7
  go_wp2_with fail
  refine (L2.out _ R8).mono ?_
  rintro e w9 ⟨rfl, R9, c9⟩
  clear R8 c8
  go_wp2_with fail
  go_region_held3 (fun w' => SQ w (w.heap.size + 1) l w' ∧ w'.cell? ⟨l, 0, none⟩ = some (.pointer (some ⟨w.heap.size + 1, 0, none⟩))) (first | assumption | exact ⟨by assumption, by assumption⟩ | exact ⟨R9.drew, c9⟩)
    (first
      | (go_at_call 28; refine (C1.out _ _ _ (by with_reducible rfl) (by with_reducible rfl) (by first | assumption | exact ⟨by assumption, by assumption⟩)).mono ?_; rintro e wa ⟨rfl, ka, ka2⟩)
      | (go_at_call 16; refine (L3.out _ (by assumption)).mono ?_; rintro e wb ⟨rfl, kb, kb2⟩))
  clear R9 c9
  go_wp2_with fail
  refine (P4.out _ kb).mono ?_
  rintro e wc ⟨rfl, kc⟩
  have kc2 := kc.cell
  clear kb kb2
  go_wp2_with fail
  refine (L4.out _ kc).mono ?_
  rintro e wd ⟨rfl, kd, kd2⟩
  clear kc kc2
  have ke : SQ w (w.heap.size + 1) l (wd.alloc (.cells eight 25)) := ⟨kd.1.below ((Below.refl _ _).alloc (Nat.le_refl _) _) (Nat.le_refl _), ((Below.refl wd.heap.size wd).alloc (Nat.le_refl _) _ |>.block l (lt_of_block kd.2.1)).trans kd.2.1, kd.2.2.alloc kd.2.2.size _⟩
  have hz := eight_cell wd
  have ke2 := ke.cell
  go_wp2
  rw [show #[Value.int IntKind.i64 0, .int .i64 0, .int .i64 0, .int .i64 0, .int .i64 0, .int .i64 0, .int .i64 0, .int .i64 0] = eight from rfl]
  clear kd kd2
  generalize wd.alloc (.cells eight 25) = we at *
  generalize wd.heap.size = bb at *
  go_loop [123] (fun i => ∃ j : Nat, j ≤ 8 ∧ i = .int .i64 j) (fun i => 8 - (intOf i).toNat)
  case atStart => exact ⟨0, by omega, rfl⟩
  case round =>
    obtain ⟨j, hj, rfl⟩ := hrel
    by_cases hlt : j < 8
    · have cj := hz j hlt
      clear hz
      have b0 : (0 : Int) ≤ (j : Int) := by omega
      have b1 : (j : Int) < 8 := by omega
      go_wp2
      exact ⟨⟨j + 1, by omega, by go_num⟩, by simp [intOf]; omega⟩
    · obtain rfl : j = 8 := by omega
      clear hz
      rw [show ((8 : Nat) : Int) = 8 from rfl]
      go_wp2_with fail
      refine (C2.out _ _ _ rfl rfl ⟨ke, ke2⟩).mono ?_
      rintro e wf ⟨rfl, kf, kf2⟩
      go_wp2
      go_ret
      exact ⟨rfl, kf.2.2⟩
end Go.Proofs.Ytcgiolehlokpnaa

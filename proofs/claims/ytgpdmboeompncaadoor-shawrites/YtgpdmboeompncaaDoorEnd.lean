/-
  The contract of the method that ends a hash.
-/
import Derived.Test.YtgpdmboeompncaaDoorPad
namespace Go.Proofs.YtgpdmboeompncaaDoor
open Go.RowKit Go.Lib

theorem zero5 (w : World) : (zeroValue 5).run Tryd.prog w = .ok (.int .u8 0) w :=
  (zero_of_info (P := Tryd.prog) (t := 5) (v := .int .u8 0) (n := 1) (by kernel_rfl)).1 w

/-- A part of the block is cleared. -/
theorem clear_part {w : World} {b : Nat} {v : V8} {bl : List UInt8} {n : Nat} (h : HB w b v bl n) (j k c : Nat) (hk : 0 < k) (hj : j + k ≤ 64) (ty : TypeId) :
    (Builtin.clear_ #[50] ty #[.slice (some ⟨b, 8 + j, none⟩) k c]).run Tryd.prog w = .ok (.tuple #[]) (w.setCells b (8 + j) (byteCells (List.replicate k 0))) := by
  have := run_clear_slice (P := Tryd.prog) w 50 5 ty (.int .u8 0) und50 zero5 rfl rfl b (8 + j) k c hk (fun i hi => by rw [Nat.add_assoc, h.byte (j + i) (by omega)]; rfl) (fun i _ => h.free _)
  rw [this, byteCells, List.map_replicate]
  rfl
theorem clear_none (w : World) (b o : Nat) (ty : TypeId) : (Builtin.clear_ #[50] ty #[.slice (some ⟨b, o, none⟩) 0 0]).run Tryd.prog w = .ok (.tuple #[]) w := by
  simp [Builtin.clear_, run_underlying und50]

/-- The mark, and zeros behind it. -/
theorem marked (bl : List UInt8) (a : Nat) (h : bl.length = 64) (ha : a < 64) : setRange (bl.set a 128) (a + 1) (List.replicate (63 - a) 0) = bl.take a ++ (128 :: List.replicate (63 - a) 0) := by
  rw [setRange_eq _ _ _ (by rw [List.length_replicate, List.length_set]; omega), List.drop_of_length_le (by rw [List.length_replicate, List.length_set]; omega), List.append_nil]
  rw [List.take_add_one, List.take_set_of_le (Nat.le_refl _), List.getElem?_set_self (by omega)]
  simp

theorem mark_tail {w : World} {b : Nat} {v : V8} {bl : List UInt8} {n : Nat} (h : HB w b v bl n) (a : Nat) (ha : a < 64) :
    ∃ x w2, (∀ w', (Instr.sliceAt 58 (.pointer (some ⟨b, 8, none⟩)) (some (.int .i64 ((a : Int) + 1))) none none).run Tryd.prog w' = .ok x w') ∧
      (∀ ty, (Builtin.clear_ #[50] ty #[x]).run Tryd.prog (w.setCell ⟨b, 8 + a, none⟩ (.int .u8 128)) = .ok (.tuple #[]) w2) ∧
      HB w2 b v (bl.take a ++ (128 :: List.replicate (63 - a) 0)) n ∧ w.grownBy w2 (some b) := by
  have h1 := h.setByte a 128 ha
  rw [show (((128 : UInt8).toNat : Nat) : Int) = 128 from rfl] at h1
  have h2 := h1.range (a + 1) (List.replicate (63 - a) 0) (by rw [List.length_replicate]; omega)
  rw [marked bl a h.1 ha] at h2
  have hg := gb_trans (gb_set w b (8 + a) (.int .u8 128)) (gb_setCells (w.setCell ⟨b, 8 + a, none⟩ (.int .u8 128)) b (8 + (a + 1)) (byteCells (List.replicate (63 - a) 0)))
  by_cases h63 : a + 1 < 64
  · refine ⟨_, _, fun w' => slice58_l w' b 8 (a + 1) h63, fun ty => clear_part h1 (a + 1) _ _ (by omega) (by omega) ty, ?_, ?_⟩
    · rw [show 64 - (a + 1) = 63 - a by omega]; exact h2
    · rw [show 64 - (a + 1) = 63 - a by omega]; exact hg
  · obtain rfl : a = 63 := by omega
    exact ⟨_, _, fun w' => slice58_end w' b 8, fun ty => clear_none _ _ _ ty, h2, hg⟩

theorem clear_all (bl : List UInt8) (h : bl.length = 64) : setRange bl 0 (List.replicate 64 0) = zeroBl := by
  rw [setRange_eq _ _ _ (by rw [h]; decide), List.take_zero, List.drop_of_length_le (by rw [h]; decide), List.nil_append, List.append_nil]
  rfl
theorem mark_take (l : List UInt8) (a : Nat) (h : l.length = a) (ha : a ≤ 55) : (l ++ (128 :: List.replicate (63 - a) 0)).take (64 - 8) = l ++ (128 :: List.replicate (55 - a) 0) := by
  rw [List.take_append, List.take_of_length_le (by omega), h, show 64 - 8 - a = (55 - a) + 1 by omega, List.take_succ_cons, List.take_replicate, Nat.min_eq_left (by omega)]

/-- One byte more of the number. -/
theorem end_put {w wr : World} {b n N j : Nat} {V : V8} {base : List UInt8} (h : HB wr b V (endBl base N j) n) (hb : base.length = 64) (hj : j < 8) (hL : Laid wr) (hg : w.grownBy wr (some b)) (hb2 : 2 ≤ b) :
    HB (wr.setCell ⟨b, 8 + (63 - j), none⟩ (.int .u8 ((N : Int) / 2 ^ (8 * j) % 256))) b V (endBl base N (j + 1)) n ∧ Laid (wr.setCell ⟨b, 8 + (63 - j), none⟩ (.int .u8 ((N : Int) / 2 ^ (8 * j) % 256))) ∧ w.grownBy (wr.setCell ⟨b, 8 + (63 - j), none⟩ (.int .u8 ((N : Int) / 2 ^ (8 * j) % 256))) (some b) := by
  have h1 := h.setByte (63 - j) (N / 256 ^ j % 256).toUInt8 (by omega)
  rw [endBl_set base N j hb (by omega)] at h1
  have e : (((N / 256 ^ j % 256).toUInt8.toNat : Nat) : Int) = (N : Int) / 2 ^ (8 * j) % 256 := by
    rw [toUInt8_toNat (Nat.mod_lt _ (by decide)), show (256 : Nat) = 2 ^ 8 from rfl, ← Nat.pow_mul]
    simp
  rw [e] at h1
  exact ⟨h1, hL.grown (gb_set _ _ _ _) hb2, gb_trans hg (gb_set _ _ _ _)⟩

theorem u64_small (n : Nat) (h : n ≤ 1000000000000) : (n : Int) * 8 % 18446744073709551616 = ((8 * n : Nat) : Int) := by omega

set_option maxHeartbeats 1600000 in
set_option maxRecDepth 100000 in
theorem end_any {w : World} {b : Nat} {s : List UInt8} (hL : Laid w) (h : HS w b s) (hb2 : 2 ≤ b) (hs : s.length ≤ 1000000000000) :
    Calls Tryd.prog 35 #[.pointer (some ⟨b, 0, none⟩)] w fun e w' => e = .returned (.tuple #[]) ∧ (∃ bl, HB w' b (digestV s) bl s.length) ∧ w.grownBy w' (some b) := by
  obtain ⟨bl, hr, hbl⟩ := h
  have cl := hr.long
  obtain ⟨a, ha⟩ : ∃ a, a = s.length % 64 := ⟨_, rfl⟩
  have ha64 : a < 64 := by omega
  have hmod : (s.length : Int) % 64 = (a : Int) := by omega
  have c1 := hr.byte a ha64
  have f1 := hr.free (8 + a)
  obtain ⟨x, w2, hx1, hx2, hr2, hg2⟩ := mark_tail hr a ha64
  have hL2 := hL.grown hg2 hb2
  have hbase : (bl.take a ++ (128 :: List.replicate (63 - a) 0)).length = 64 := hr2.1
  rw [ha, hbl, ← ha] at hr2 hbase
  have HA : Hid _ := ha
  by_cases hlow : a ≤ 55
  · have HF : Hid (digestV s = takeV (blocks s (s.length / 64)) (endBl (s.drop (64 * (s.length / 64)) ++ (128 :: List.replicate (63 - a) 0)) (8 * s.length) 8)) := by
      show digestV s = _
      rw [digest_low s (by omega), endBl, ← ha, mark_take _ a (by rw [List.length_drop]; omega) (by omega)]
    clear ha
    have cl2 := hr2.long
    obtain ⟨V, base, hr3, HG⟩ : ∃ V base, HB w2 b V base s.length ∧ Hid (digestV s = takeV V (endBl base (8 * s.length) 8)) := ⟨_, _, hr2, HF⟩
    clear HF hr2 hbase
    go_enter Tryd.func35, Tryd.ntmps35
    go_wp2
    clear c1 f1 cl cl2 hx1 hx2 hr
    go_loopw [4, 36] (fun _ i wr => ∃ j : Nat, j ≤ 8 ∧ i = .int .i64 j ∧ HB wr b V (endBl base (8 * s.length) j) s.length ∧ Laid wr ∧ w.grownBy wr (some b))
      (fun _ i _ => 8 - (intOf i).toNat)
    case atStart => exact ⟨0, by omega, rfl, by simpa [endBl, fixedOf, List.take_of_length_le (Nat.le_of_eq hr3.1)] using hr3, hL2, hg2⟩
    case round =>
      have hb64 := hr3.1
      clear hr3 hL2 hg2
      obtain ⟨j, hj, rfl, hr3, hL2, hg2⟩ := hrel
      by_cases hlt : j < 8
      · have c1 := hr3.byte (63 - j) (by omega)
        have f1 := hr3.free (8 + (63 - j))
        have R := end_put hr3 hb64 hlt hL2 hg2 hb2
        rw [show ((8 * s.length : Nat) : Int) = (s.length : Int) * 8 from by omega] at R
        clear hr3 hL2 hg2
        go_wp2
        go_region
        go_wp2
        go_roundw
        case rel => exact ⟨j + 1, by omega, by go_num, R.1, R.2.1, gb_drewN R.2.2 1⟩
        case measure => simp [intOf]; omega
      · obtain rfl : j = 8 := by omega
        go_wp2_with fail
        refine (takeIn_any hL2 hr3 hb2).mono ?_
        rintro e w9 ⟨rfl, hr9, hg9⟩
        go_wp2
        go_end0
        exact ⟨rfl, ⟨_, by rw [HG.out]; exact hr9⟩, gb_trans hg2 hg9⟩
  · have HF : Hid (digestV s = takeV (takeV (blocks s (s.length / 64)) (s.drop (64 * (s.length / 64)) ++ (128 :: List.replicate (63 - a) 0))) (endBl zeroBl (8 * s.length) 8)) := by
      show digestV s = _
      rw [digest_high s (by omega), ← ha]
      rfl
    clear ha
    have cl2 := hr2.long
    go_enter Tryd.func35, Tryd.ntmps35
    go_wp2_with fail
    refine (takeIn_any hL2 hr2 hb2).mono ?_
    rintro e w3 ⟨rfl, hr4, hg4⟩
    have hsl := fun w' => slice58_all w' b 8
    have hcl := clear_part hr4 0 64 64 (by decide) (by decide)
    have hr5 := hr4.range 0 (List.replicate 64 0) (by decide)
    have hg5 := gb_trans hg2 (gb_trans hg4 (gb_setCells w3 b (8 + 0) (byteCells (List.replicate 64 0))))
    have hL5 := hL.grown hg5 hb2
    rw [clear_all _ hr4.1] at hr5
    rw [Nat.add_zero] at hcl hr5 hg5 hL5
    generalize w3.setCells b 8 (byteCells (List.replicate 64 0)) = w4 at *
    have cl5 := hr5.long
    go_wp2
    clear hL2 hg2 hr2 hr4 hg4 hsl hcl cl5 cl2 hx1 hx2 hr
    obtain ⟨V, base, hr3, HG⟩ : ∃ V base, HB w4 b V base s.length ∧ Hid (digestV s = takeV V (endBl base (8 * s.length) 8)) := ⟨_, _, hr5, HF⟩
    have hL2 := hL5
    have hg2 := hg5
    clear hL5 hg5 hr5 HF
    go_loopw [4, 36] (fun _ i wr => ∃ j : Nat, j ≤ 8 ∧ i = .int .i64 j ∧ HB wr b V (endBl base (8 * s.length) j) s.length ∧ Laid wr ∧ w.grownBy wr (some b))
      (fun _ i _ => 8 - (intOf i).toNat)
    case atStart => exact ⟨0, by omega, rfl, by simpa [endBl, fixedOf, List.take_of_length_le (Nat.le_of_eq hr3.1)] using hr3, hL2, hg2⟩
    case round =>
      have hb64 := hr3.1
      clear hr3 hL2 hg2
      obtain ⟨j, hj, rfl, hr3, hL2, hg2⟩ := hrel
      by_cases hlt : j < 8
      · have c1 := hr3.byte (63 - j) (by omega)
        have f1 := hr3.free (8 + (63 - j))
        have R := end_put hr3 hb64 hlt hL2 hg2 hb2
        rw [show ((8 * s.length : Nat) : Int) = (s.length : Int) * 8 from by omega] at R
        clear hr3 hL2 hg2
        go_wp2
        go_region
        go_wp2
        go_roundw
        case rel => exact ⟨j + 1, by omega, by go_num, R.1, R.2.1, gb_drewN R.2.2 1⟩
        case measure => simp [intOf]; omega
      · obtain rfl : j = 8 := by omega
        go_wp2_with fail
        refine (takeIn_any hL2 hr3 hb2).mono ?_
        rintro e w9 ⟨rfl, hr9, hg9⟩
        go_wp2
        go_end0
        exact ⟨rfl, ⟨_, by rw [HG.out]; exact hr9⟩, gb_trans hg2 hg9⟩

end Go.Proofs.YtgpdmboeompncaaDoor

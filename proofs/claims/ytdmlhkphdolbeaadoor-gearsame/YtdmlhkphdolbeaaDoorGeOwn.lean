/-
  Gear: parts of a list of texts; the statement GearOwn, walked.
-/
import Derived.Test.YtdmlhkphdolbeaaDoorGeSet
import Derived.Test.YtdmlhkphdolbeaaDoorGeLaw1
import Derived.Deep.RegionHeldLaw
namespace Go.Proofs.YtdmlhkphdolbeaaDoor
open Go.RowKit Go.Lib
theorem Tryd.sizeElT (w : World) : (Go.sizeOf (Tryd.prog.elem 33)).run Tryd.prog w = .ok 1 w := by kernel_rfl
theorem add_run {a b c : ByteArray} (h : a ++ b = c) (hz : a.size + b.size ≤ 9223372036854775807) (w : World) : (Op.stringOp .add a b).run Tryd.prog w = .ok (.string c) w := by
  rw [run_string_add_sum w a b hz, h]
theorem add_run2 {a b c : ByteArray} (h : a ++ b = c) (hz : a.size + b.size ≤ 9223372036854775807) (w : World) : (binOp .add 9 (.string a) (.string b)).run Tryd.prog w = .ok (.string c) w := by
  rw [binOp_string_add, add_run h hz]
section
variable {w w' : World} {v : Value} {l : List ByteArray} {B k : Nat}
theorem ts_take (h : TS B v l w) (hk : k ≤ l.length) : ∃ v', (∀ wx, (Instr.slice 33 v none (some (.int .i64 (k : Int))) none).run Tryd.prog wx = .ok v' wx) ∧ TR w v' (l.take k) := by
  obtain ⟨a, c, e, hA⟩ := h.tr
  have hc : l.length ≤ c := by
    obtain ⟨_, ⟨rfl, h2⟩ | ⟨g, cap, cur, rfl, _, _, hn, _⟩⟩ := h.own
    · omega
    · cases e; exact hn
  subst e
  refine ⟨sliced a 0 k c 1, fun wx => ?_, ?_⟩
  · rw [run_slice_h wx 33 a l.length c Tryd.underlying33 .i64 (k : Int) (by omega) (by omega), Tryd.sizeElT]
    simp [Result.andThen]
  · rcases hA with rfl | ⟨g, o, rfl, hg, hC⟩
    · obtain rfl : k = 0 := by simpa using hk
      exact ⟨_, _, rfl, .inl rfl⟩
    · refine ⟨some ⟨g, o, none⟩, c, ?_, .inr ⟨g, o, rfl, hg, fun i x hx => hC i x ?_⟩⟩
      · simp [sliced, Addr.add, Nat.min_eq_left hk]
      · rw [List.getElem?_take] at hx
        split at hx
        · exact hx
        · cases hx
theorem ts_drop (h : TS B v l w) (hk : k ≤ l.length) : ∃ v', (∀ wx, (Instr.slice 33 v (some (.int .i64 (k : Int))) none none).run Tryd.prog wx = .ok v' wx) ∧ TR w v' (l.drop k) := by
  obtain ⟨a, c, e, hA⟩ := h.tr
  have hc : l.length ≤ c := by
    obtain ⟨_, ⟨rfl, h2⟩ | ⟨g, cap, cur, rfl, _, _, hn, _⟩⟩ := h.own
    · omega
    · cases e; exact hn
  subst e
  refine ⟨sliced a k l.length c 1, fun wx => ?_, ?_⟩
  · rw [run_slice_l wx 33 a l.length c Tryd.underlying33 .i64 (k : Int) (by omega) (by omega), Tryd.sizeElT]
    simp [Result.andThen]
  · by_cases hkn : k = l.length
    · exact ⟨if c = k then a else a.map (·.add (k * 1)), c - k, by rw [sliced, List.length_drop], .inl (List.drop_eq_nil_of_le (by omega))⟩
    · rcases hA with rfl | ⟨g, o, rfl, hg, hC⟩
      · simp at hk hkn; omega
      · refine ⟨some ⟨g, o + k, none⟩, c - k, ?_, .inr ⟨g, o + k, rfl, hg, fun i x hx => ?_⟩⟩
        · simp [sliced, Addr.add, show c ≠ k by omega]
        · rw [List.getElem?_drop] at hx
          rw [Nat.add_assoc]
          exact hC _ x hx
theorem setup_ok (x y z : Int) : OkX (1 + amg x 30) (1 + amg y 8) (1 + amg x 30 + amg z 100) := by
  obtain ⟨_, r2, _, _⟩ := amg_spec x 30 (by decide)
  obtain ⟨_, c2, _, _⟩ := amg_spec y 8 (by decide)
  obtain ⟨_, f2, _, _⟩ := amg_spec z 100 (by decide)
  constructor <;> omega
end
set_option maxRecDepth 100000 in
set_option maxHeartbeats 3200000 in
theorem own11 {w : World} (hl : Lm w) (b x y z : Int) (s : ByteArray) (hs : s.size ≤ 4611686018427387904) : Calls Tryd.prog 6 #[.int .i64 b, .agg #[.int .i64 x, .int .i64 y, .int .i64 z], .string s] w fun e w' => e = .returned (.bool true) ∧ Below w.heap.size w w' := by
  obtain ⟨w1, hw1⟩ : ∃ w1, w.alloc (.cells #[.int .i64 x, .int .i64 y, .int .i64 z] 42) = w1 := ⟨_, rfl⟩
  have hb1 : Below w.heap.size w w1 := by rw [← hw1]; exact (Below.refl _ _).alloc (Nat.le_refl _) _
  have k1 : w1.heap[w.heap.size]? = some (.cells #[.int .i64 x, .int .i64 y, .int .i64 z] 42 (0, 0)) := by rw [← hw1]; exact heap_alloc_new w _
  obtain ⟨_, cb, _, _⟩ := amg_spec b 256 (by decide)
  have HA : Hid (∀ wx, Calls Tryd.prog 20 #[.int .i64 b, .int .i64 256] wx fun e w' => e = .returned (.int .i64 ((amg b 256 : Nat) : Int)) ∧ w' = wx) := fun wx => among_any wx b 256 (by decide) (by decide)
  have HG : Hid (∀ (c : Nat) wx, c < 256 → Lm wx → Calls Tryd.prog 8 #[.int .i64 (c : Int)] wx fun e w' => e = .returned (.tuple #[.int .u64 (gm c : Int), .int .i64 0]) ∧ Below wx.heap.size wx w') := fun c wx hc h => by
    have := gear_any h (c : Int)
    rw [gearA, if_pos (by omega), Int.toNat_natCast] at this
    exact this
  have HSU : Hid (∀ wx, Calls Tryd.prog 18 #[.agg #[.int .i64 x, .int .i64 y, .int .i64 z]] wx fun e w' => e = .returned (.agg #[.int .i64 ((1 + amg x 30 : Nat) : Int), .int .i64 ((1 + amg y 8 : Nat) : Int), .int .i64 ((1 + amg x 30 + amg z 100 : Nat) : Int)]) ∧ Below wx.heap.size wx w') := fun wx => setup_any x y z
  have HO := hide (setup_ok x y z)
  generalize amg b 256 = c at *
  generalize 1 + amg x 30 + amg z 100 = M at *
  generalize 1 + amg x 30 = L at *
  generalize 1 + amg y 8 = Bi at *
  have HL1 := hide (hl.bel hb1)
  have H1 := hide (And.intro hb1 k1)
  clear hl hb1 k1
  go_enter Tryd.func6, Tryd.ntmps6
  go_wp2_with fail
  refine (works11 HL1.out).mono ?_
  rintro _ w2 ⟨rfl, hb2⟩
  have HB2 := hide hb2
  clear hb2
  go_wp2_with fail
  refine (HA.out w2).mono ?_
  rintro _ w2' ⟨rfl, hw2⟩
  subst hw2
  go_wp2_with fail
  refine (HG.out c w2' cb (HL1.out.bel HB2.out)).mono ?_
  rintro _ w3 ⟨rfl, hb3⟩
  have HB3 := hide (below_step HB2.out hb3)
  clear hb3
  obtain ⟨G, hG⟩ : ∃ G, gm c = G := ⟨_, rfl⟩
  rw [hG]
  go_wp2
  go_loopw [25] (fun i wr => ∃ j : Nat, j ≤ 256 ∧ i = .int .i64 j ∧ Below w1.heap.size w1 wr) (fun i _ => 256 - (intOf i).toNat)
  case atStart => exact ⟨0, by omega, rfl, HB3.out⟩
  case round =>
    obtain ⟨j, hj, rfl, hb⟩ := hrel
    have HB := hide hb
    clear hb
    by_cases hlt : j < 256
    · have b1 : (j : Int) < 256 := by omega
      go_wp2_with fail
      refine (HG.out j wr hlt (HL1.out.bel HB.out)).mono ?_
      rintro _ w4 ⟨rfl, hb4⟩
      have HB4 := hide (below_step HB.out hb4)
      clear hb4
      obtain ⟨F, hF⟩ : ∃ F, gm j = F := ⟨_, rfl⟩
      rw [hF]
      by_cases hjc : j = c
      · have e1 : (j : Int) = (c : Int) := by omega
        have e2 : F = G := by rw [← hF, ← hG, hjc]
        have e3 : (F : Int) = (G : Int) := by omega
        clear hF hG
        go_wp2
        exact ⟨⟨j + 1, by omega, by go_num, HB4.out⟩, by simp [intOf]; omega⟩
      · have e1 : ¬ (j : Int) = (c : Int) := by omega
        have e2 : ¬ F = G := by rw [← hF, ← hG]; exact fun e => hjc (gm_inj hlt cb e)
        have e3 : ¬ (F : Int) = (G : Int) := by omega
        have d1 : ((F : Int) == (G : Int)) = false := by simpa using e3
        have d2 : ((j : Int) == (c : Int)) = false := by simpa using e1
        clear hF hG
        go_wp2
        exact ⟨⟨j + 1, by omega, by go_num, HB4.out⟩, by simp [intOf]; omega⟩
    · obtain rfl : j = 256 := by omega
      by_cases h1k : 1000 < s.size
      · have x1 : (1000 : Int) < (s.size : Int) := by omega
        go_wp2
        go_ret
        exact ⟨rfl, below_step H1.out.1 HB.out⟩
      have x1 : ¬ (1000 : Int) < (s.size : Int) := by omega
      have k4 := (HB.out.block _ (lt_of_block H1.out.2)).trans H1.out.2
      obtain ⟨y0, y1, y2⟩ := cell3 k4
      clear k4
      go_wp2_with fail
      refine (HSU.out wr).mono ?_
      rintro _ w5 ⟨rfl, hb5⟩
      obtain ⟨w6, hw6⟩ : ∃ w6, w5.alloc (.cells #[.int .i64 (L : Int), .int .i64 (Bi : Int), .int .i64 (M : Int)] 23) = w6 := ⟨_, rfl⟩
      have hb6 : Below w5.heap.size w5 w6 := by rw [← hw6]; exact (Below.refl _ _).alloc (Nat.le_refl _) _
      have k6 : w6.heap[w5.heap.size]? = some (.cells #[.int .i64 (L : Int), .int .i64 (Bi : Int), .int .i64 (M : Int)] 23 (0, 0)) := by rw [← hw6]; exact heap_alloc_new w5 _
      obtain ⟨z0, z1, z2⟩ := cell3 k6
      have hb16 := below_step HB.out (below_step hb5 hb6)
      have HB6 := hide (And.intro hb16 (And.intro (HL1.out.bel hb16) k6))
      clear hb5 hb6 k6 hb16
      go_wp2_with fail
      refine (chunks_ok HO.out HB6.out.2.1 (s := s) (by omega)).mono ?_
      rintro _ w7 ⟨lv, rfl, hT7, hb7⟩
      obtain ⟨u0, u1, u2⟩ := cell3 ((hb7.block _ (lt_of_block HB6.out.2.2)).trans HB6.out.2.2)
      have HB7 := hide (And.intro hb7 hT7)
      clear hb7 hT7
      obtain ⟨sm, hsm⟩ : ∃ sm, s ++ (⟨#[109, 111, 114, 101]⟩ : ByteArray) = sm := ⟨_, rfl⟩
      have a1 := add_run hsm (show s.size + 4 ≤ 9223372036854775807 by omega)
      have a2 := add_run2 hsm (show s.size + 4 ≤ 9223372036854775807 by omega)
      have hsz : sm.size ≤ 10000 := by rw [← hsm, ByteArray.size_append]; show s.size + 4 ≤ 10000; omega
      have HSM := hide (And.intro hsz hsm)
      clear hsm hsz
      go_wp2_with fail
      refine (chunks_ok HO.out (HB6.out.2.1.bel HB7.out.1) (s := sm) HSM.out.1).mono ?_
      rintro _ w8 ⟨mv, rfl, hT8, hb8⟩
      have hC := cuts_app HO.out (⟨#[109, 111, 114, 101]⟩ : ByteArray) (by decide) s.size s (Nat.le_refl _)
      rw [HSM.out.2] at hC
      have hT78 := HB7.out.2.keep hb8
      obtain ⟨n, hn⟩ : ∃ n, (cuts L Bi M s).length = n := ⟨_, rfl⟩
      obtain ⟨m, hm⟩ : ∃ m, (cuts L Bi M sm).length = m := ⟨_, rfl⟩
      obtain ⟨la, lc, hlv⟩ := hT78.shp
      obtain ⟨ma, mc, hmv⟩ := hT8.shp
      have hns : n ≤ 1000 := by rw [← hn]; exact Nat.le_trans (cuts_len _) (by omega)
      have HB8 := hide (below_step (below_step H1.out.1 (below_step HB6.out.1 HB7.out.1)) hb8)
      rw [hn] at hlv
      rw [hm] at hmv
      by_cases hn0 : n = 0
      · subst hn0
        subst hlv hmv
        clear hT78 hT8 hC hn hm
        go_upto_region 17 with fail
        go_region
        go_wp2
        go_ret
        exact ⟨rfl, HB8.out.drew⟩
      · obtain ⟨k, hk⟩ : ∃ k, n = k + 1 := ⟨n - 1, by omega⟩
        obtain ⟨lv', hr1, ht1⟩ := ts_take hT78 (k := k) (by omega)
        obtain ⟨mv', hr2, ht2⟩ := ts_take hT8 (k := k) (by omega)
        have HST : Hid (∀ (u v : Value) wx, u = lv' → v = mv' → Below w8.heap.size w8 wx → Calls Tryd.prog 16 #[u, v] wx fun e wy => e = .returned (.bool true) ∧ Below w8.heap.size w8 wy) := fun u v wx hu hv h => by
          subst hu hv
          rw [hn, show n - 1 = k by omega] at hC
          rw [← hC.2] at ht2
          exact (sameTexts_big (ht1.bel h) (ht2.bel h) (by rw [List.length_take]; omega)).mono fun _ _ ⟨he, hh⟩ => ⟨he, below_step h hh⟩
        have c1 : (n : Int) ≤ (m : Int) := by have := hC.1; rw [hn, hm] at this; omega
        have c2 : ¬ (n : Int) = 0 := by omega
        have c3 : (n : Int) - 1 = (k : Int) := by omega
        have d1 : ((n : Int) == 0) = false := by simpa using hn0
        have d2 : decide ((n : Int) ≤ (m : Int)) = true := by simpa using c1
        have c4 : IntKind.i64.wrap (k : Int) = (k : Int) := by rw [IntKind.wrap_i64]; omega
        have HR := hide (And.intro (Below.refl w8.heap.size w8) (Below.refl w8.heap.size w8).drew)
        subst hlv hmv
        clear hT78 hT8 hC hn hm hk ht1 ht2 hb8
        go_upto_region 17 with fail
        go_region_held_law (fun wx => Below w8.heap.size w8 wx) (first | assumption | with_reducible exact HR.out.1 | with_reducible exact HR.out.2)
          (first | (go_at_call 16; refine Calls.mono (HST.out _ _ _ (by with_reducible rfl) (by with_reducible rfl) (by assumption)) ?_; rintro e w9 ⟨rfl, hw9⟩))
        go_wp2
        go_ret
        exact ⟨rfl, below_step HB8.out (by assumption)⟩
end Go.Proofs.YtdmlhkphdolbeaaDoor

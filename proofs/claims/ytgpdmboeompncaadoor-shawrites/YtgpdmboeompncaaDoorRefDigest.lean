/-
  The contract of the document's sum of a text.
-/
import Derived.Test.YtgpdmboeompncaaDoorRefTake
import Derived.Deep.RegionWith
namespace Go.Proofs.YtgpdmboeompncaaDoor
open Go.RowKit Go.Lib

theorem strOf_append (a b : List UInt8) : strOf a ++ strOf b = strOf (a ++ b) := by
  simp [strOf, ByteArray.ext_iff]
theorem strOf_self' (s : ByteArray) : strOf s.data.toList = s := by simp [strOf]

theorem must_int (N k' : Int) (n k : Nat) (w : World) (hN : N = (n : Int)) (hk : k' = (k : Int)) (hn : n ≤ 9223372036854775807) (hk1 : 1 ≤ k) (hk8 : k ≤ 8) (hr : n < 256 ^ k) :
    Calls Tryd.prog 32 #[.int .i64 N, .int .i64 k'] w fun e w' => e = .returned (.string (strOf (fixedOf n k))) ∧ Below w.heap.size w w' := by
  subst hN hk
  exact must_any n k w hn hk1 hk8 hr

theorem digestV_lt (s : List UInt8) (j : Nat) (h : j < 8) : (digestV s).list.getD j 0 < 4294967296 := by
  have : ∃ v bl, digestV s = takeV v bl := by
    by_cases h : s.length % 64 ≤ 55
    · exact ⟨_, _, digest_low s h⟩
    · exact ⟨_, _, digest_high s h⟩
  obtain ⟨v, bl, e⟩ := this
  rw [e, takeV, addV]
  match j, h with
  | 0, _ | 1, _ | 2, _ | 3, _ | 4, _ | 5, _ | 6, _ | 7, _ => exact Int.emod_lt_of_pos _ (by decide)

theorem padded_length (l : List UInt8) : (padded l).length % 64 = 0 ∧ l.length ≤ (padded l).length ∧ (padded l).length ≤ l.length + 128 := by
  rw [padded, pad, List.length_append, List.length_cons, List.length_append, List.length_replicate, fixedOf_length]
  omega

theorem v8_lit (y : V8) : v8Cells y = #[.int .u32 y.a, .int .u32 y.b, .int .u32 y.c, .int .u32 y.d, .int .u32 y.e, .int .u32 y.f, .int .u32 y.g, .int .u32 y.h] := rfl
theorem v8_cell {w : World} {b : Nat} {x : V8} (h : w.heap[b]? = some (.cells (v8Cells x) 56 (0, 0))) (j : Nat) (hj : j < 8) : w.cell? ⟨b, j, none⟩ = some (.int .u32 (x.list.getD j 0)) := by
  rw [cell_of_row _ _ j _ _ _ h]
  simp only [v8Cells, List.getElem?_toArray, List.getElem?_map, List.getD_eq_getElem?_getD, List.getElem?_eq_getElem (show j < x.list.length from hj)]
  rfl

theorem v8_put {w9 : World} {b : Nat} {x : V8} (y : V8) (h : w9.heap[b]? = some (.cells (v8Cells x) 56 (0, 0))) :
    ((((((((w9.setCell ⟨b, 0, none⟩ (.int .u32 y.a)).setCell ⟨b, 1, none⟩ (.int .u32 y.b)).setCell ⟨b, 2, none⟩ (.int .u32 y.c)).setCell ⟨b, 3, none⟩ (.int .u32 y.d)).setCell ⟨b, 4, none⟩ (.int .u32 y.e)).setCell ⟨b, 5, none⟩ (.int .u32 y.f)).setCell ⟨b, 6, none⟩ (.int .u32 y.g)).setCell ⟨b, 7, none⟩ (.int .u32 y.h)).heap[b]? = some (.cells (v8Cells y) 56 (0, 0)) ∧ w9.grownBy ((((((((w9.setCell ⟨b, 0, none⟩ (.int .u32 y.a)).setCell ⟨b, 1, none⟩ (.int .u32 y.b)).setCell ⟨b, 2, none⟩ (.int .u32 y.c)).setCell ⟨b, 3, none⟩ (.int .u32 y.d)).setCell ⟨b, 4, none⟩ (.int .u32 y.e)).setCell ⟨b, 5, none⟩ (.int .u32 y.f)).setCell ⟨b, 6, none⟩ (.int .u32 y.g)).setCell ⟨b, 7, none⟩ (.int .u32 y.h)) (some b) := by
  refine ⟨?_, gb_setCells w9 b 0 (y.list.map word)⟩
  have := heap_setCells_list (y.list.map word) w9 0 (x.list.map word) h
  exact this

set_option maxHeartbeats 1600000 in
set_option maxRecDepth 100000 in
theorem refDigest_any (l : List UInt8) (w : World) (hl : l.length ≤ 100000) :
    Calls Tryd.prog 13 #[.string (strOf l)] w fun e w' => e = .returned (.string (strOf (digest l))) ∧ Below w.heap.size w w' := by
  have hz : (strOf l).size = l.length := strOf_size l
  go_enter Tryd.func13, Tryd.ntmps13
  go_wp2
  rw [show strOf l ++ { data := #[128] } = strOf (l ++ 128 :: List.replicate 0 0) from strOf_append l [128]]
  go_loopw [0] (fun x wr => ∃ k : Nat, k ≤ (119 - l.length % 64) % 64 ∧ x = .string (strOf (l ++ 128 :: List.replicate k 0)) ∧ wr = w)
    (fun x _ => (l.length + 65) - strSize x)
  case atStart => exact ⟨0, Nat.zero_le _, rfl, rfl⟩
  case round =>
    obtain ⟨k, hk, rfl, rfl⟩ := hrel
    have hs : (strOf (l ++ 128 :: List.replicate k 0)).size = l.length + 1 + k := by rw [strOf_size, List.length_append, List.length_cons, List.length_replicate]; omega
    have hs2 : (strOf (l ++ 128 :: List.replicate (k + 1) 0)).size = l.length + 1 + (k + 1) := by rw [strOf_size, List.length_append, List.length_cons, List.length_replicate]; omega
    have happ : strOf (l ++ 128 :: List.replicate k 0) ++ { data := #[0] } = strOf (l ++ 128 :: List.replicate (k + 1) 0) := by
      rw [show ({ data := #[0] } : ByteArray) = strOf [0] from rfl, strOf_append, List.append_assoc, List.cons_append, ← List.replicate_succ']
    by_cases hne : (l.length + 1 + k) % 64 = 56
    · have hk0 : k = (119 - l.length % 64) % 64 := by omega
      have hq : ((((l.length + 1 + k : Nat) : Int) % 64) != 56) = false := by simp; omega
      have hpad : strOf (l ++ 128 :: List.replicate k 0) ++ strOf (fixedOf (8 * l.length) 8) = strOf (padded l) := by
        rw [strOf_append, hk0, padded, pad]
        simp
      have HP : Hid _ := hpad
      clear hk0 happ hs2 hpad
      generalize strOf (l ++ 128 :: List.replicate k 0) = u at *
      go_wp2_with fail
      refine (must_int _ _ (8 * l.length) 8 wr (by omega) rfl (by omega) (by decide) (by decide) (Nat.lt_of_le_of_lt (show 8 * l.length ≤ 800000 by omega) (by decide))).mono ?_
      rintro e w1 ⟨rfl, hb1⟩
      have hpp := padded_length l
      have hps : (strOf (padded l)).size = (padded l).length := strOf_size _
      obtain ⟨Q, hQ⟩ : ∃ Q, (padded l).length = 64 * Q := ⟨(padded l).length / 64, by omega⟩
      have hF : (strOf (fixedOf (8 * l.length) 8)).size = 8 := by rw [strOf_size, fixedOf_length]
      have hP := HP.out
      have HPL : Hid _ := strOf_toList (padded l)
      generalize strOf (fixedOf (8 * l.length) 8) = F at *
      generalize strOf (padded l) = P at *
      go_wp2_with (first | refine wpList_buildTo rfl 56 _ rfl _ rfl (v8Cells first) (by kernel_rfl) ?_ | refine wpList_alloc_any rfl 56 rfl _ zero56 ?_)
      intro w2 hc2 hs2 hb2
      have hz1 := hb1.size
      have fl : (w2.setRow w1.heap.size (v8Cells first)).heap[w1.heap.size]? = some (.cells (v8Cells first) 56 (0, 0)) := setRow_heap w2 _ _ _ 56 (0, 0) hc2
      have bel : Below wr.heap.size wr (w2.setRow w1.heap.size (v8Cells first)) := below_gb (hb1.trans (hb2.mono hz1)) (gb_setRow _ _ _) hz1 (by omega)
      go_wp2_with (refine wpList_store_row rfl 56 _ _ rfl _ _ rfl rfl 56 _ hc2 (v8_info first) (v8_old first) (v8_one first) ?_)
      generalize w2.setRow w1.heap.size (v8Cells first) = x2 at *
      generalize w1.heap.size = Lb at *
      clear hc2 hs2 hb2 hb1 hs hF hP HP hne hq hk hz
      have hPs : P.size = 64 * Q := by rw [hps, hQ]
      have HB : Hid (∀ q, q < Q → (P.extract (64 * q) (64 * q + 64)).data.toList = block (padded l) q ∧ (P.extract (64 * q) (64 * q + 64)).data.toList.length = 64) := fun q hq => by
        have e : (P.extract (64 * q) (64 * q + 64)).data.toList = block (padded l) q := by
          rw [ByteArray.data_extract, Array.toList_extract, List.extract_eq_take_drop, HPL.out, show 64 * q + 64 - 64 * q = 64 by omega]
          rfl
        refine ⟨e, ?_⟩
        rw [e, block, List.length_take, List.length_drop, hQ]
        omega
      have hQ2 : Q ≤ 10000 := by omega
      have HV : Hid (blocks (padded l) Q = digestV l) := by
        show blocks (padded l) Q = digestV l
        rw [digestV, hQ, Nat.mul_div_cancel_left _ (by decide)]
      clear hps hQ hpp HPL
      go_loopw [5] (fun i wq => ∃ q : Nat, q ≤ Q ∧ i = .int .i64 (64 * q : Nat) ∧ wq.heap[Lb]? = some (.cells (v8Cells (blocks (padded l) q)) 56 (0, 0)) ∧ Below wr.heap.size wr wq)
        (fun i _ => 64 * Q - (intOf i).toNat)
      case atStart => exact ⟨0, Nat.zero_le _, rfl, fl, bel⟩
      case round =>
        clear fl bel
        obtain ⟨q, hq, rfl, fl, bel⟩ := hrel
        by_cases hlt : q < Q
        · obtain ⟨e1, e2⟩ := HB.out q hlt
          have E1 : Hid _ := e1
          have E2 : Hid _ := e2
          have hLb := lt_of_block fl
          obtain ⟨y, hy⟩ : ∃ y, y = takeV (blocks (padded l) q) (block (padded l) q) := ⟨_, rfl⟩
          have HX : Hid (y = blocks (padded l) (q + 1)) := hy
          have HY : Hid _ := hy
          clear hy
          clear e1 e2
          generalize blocks (padded l) q = x at *
          have p0 : wr.cell? ⟨Lb, 0, none⟩ = some (.int .u32 x.a) := v8_cell fl 0 (by decide)
          have p1 : wr.cell? ⟨Lb, 1, none⟩ = some (.int .u32 x.b) := v8_cell fl 1 (by decide)
          have p2 : wr.cell? ⟨Lb, 2, none⟩ = some (.int .u32 x.c) := v8_cell fl 2 (by decide)
          have p3 : wr.cell? ⟨Lb, 3, none⟩ = some (.int .u32 x.d) := v8_cell fl 3 (by decide)
          have p4 : wr.cell? ⟨Lb, 4, none⟩ = some (.int .u32 x.e) := v8_cell fl 4 (by decide)
          have p5 : wr.cell? ⟨Lb, 5, none⟩ = some (.int .u32 x.f) := v8_cell fl 5 (by decide)
          have p6 : wr.cell? ⟨Lb, 6, none⟩ = some (.int .u32 x.g) := v8_cell fl 6 (by decide)
          have p7 : wr.cell? ⟨Lb, 7, none⟩ = some (.int .u32 x.h) := v8_cell fl 7 (by decide)
          have b0 : (0 : Int) ≤ 64 * (q : Int) := by omega
          have b1 : (0 : Int) ≤ 64 * (q : Int) + 64 := by omega
          have b2 : 64 * (q : Int) ≤ 64 * (q : Int) + 64 := by omega
          have b3 : 64 * (q : Int) + 64 ≤ 64 * (Q : Int) := by omega
          have b4 : (64 * (q : Int)).toNat = 64 * q := by omega
          have b5 : (64 * (q : Int) + 64).toNat = 64 * q + 64 := by omega
          have b6 : IntKind.i64.wrap (64 * (q : Int) + 64) = 64 * (q : Int) + 64 := by rw [IntKind.wrap_i64]; omega
          go_wp2
          go_region_with (first
            | (go_at_call 33; refine (refTake_any x _ _ E2.out).mono ?_; rw [E1.out, ← HY.out, v8_lit]; rintro e w9 ⟨rfl, hb9⟩; have fl9 := (hb9.block Lb hLb).trans fl; have c0 := v8_cell fl9 0 (by decide); have g0 := frozen_of_row w9 Lb 0 _ _ fl9; have c1 := v8_cell fl9 1 (by decide); have g1 := frozen_of_row w9 Lb 1 _ _ fl9; have c2 := v8_cell fl9 2 (by decide); have g2 := frozen_of_row w9 Lb 2 _ _ fl9; have c3 := v8_cell fl9 3 (by decide); have g3 := frozen_of_row w9 Lb 3 _ _ fl9; have c4 := v8_cell fl9 4 (by decide); have g4 := frozen_of_row w9 Lb 4 _ _ fl9; have c5 := v8_cell fl9 5 (by decide); have g5 := frozen_of_row w9 Lb 5 _ _ fl9; have c6 := v8_cell fl9 6 (by decide); have g6 := frozen_of_row w9 Lb 6 _ _ fl9; have c7 := v8_cell fl9 7 (by decide); have g7 := frozen_of_row w9 Lb 7 _ _ fl9; simp only [V8.list, List.getD_cons_zero, List.getD_cons_succ] at c0 c1 c2 c3 c4 c5 c6 c7))
          all_goals
            have bel9 := bel.drew.trans (hb9.mono bel.size)
            have RF := v8_put y fl9
            have RB := below_gb bel9 RF.2 hz1 bel9.size
            have RF1 := RF.1
            clear RF
            rw [show v8Cells y = v8Cells (blocks (padded l) (q + 1)) by rw [HX.out]] at RF1
            clear fl9 hb9 bel9 c0 g0 p0 c1 g1 p1 c2 g2 p2 c3 g3 p3 c4 g4 p4 c5 g5 p5 c6 g6 p6 c7 g7 p7
            go_wp2
            go_roundw
            case rel => exact ⟨q + 1, by omega, by go_num, RF1, RB⟩
            case measure => simp [intOf]; omega
        · obtain rfl : q = Q := by omega
          rw [HV.out] at fl
          rw [show ((64 * q : Nat) : Int) = 64 * (q : Int) by omega]
          have hN := digestV_nonneg l
          have hM := digestV_lt l
          have hD := digest_eq l
          have HN : Hid _ := hN
          have HM : Hid _ := hM
          clear hN hM HB hlt hq HV
          obtain ⟨V, hV⟩ : ∃ V, V = digestV l := ⟨_, rfl⟩
          rw [← hV] at fl HN HM hD
          clear hV
          go_wp2
          go_loopw [6, 7] (fun o i wq => ∃ j : Nat, j ≤ 8 ∧ i = .int .i64 j ∧ o = .string (strOf (sumPre V j)) ∧ wq.heap[Lb]? = some (.cells (v8Cells V) 56 (0, 0)) ∧ Below _ _ wq)
            (fun _ i _ => 8 - (intOf i).toNat)
          case atStart => exact ⟨0, by omega, rfl, rfl, fl, bel⟩
          case round =>
            clear fl bel
            obtain ⟨j, hj, rfl, rfl, fl, bel⟩ := hrel
            by_cases hlt : j < 8
            · have cj := v8_cell fl j hlt
              have hx0 := HN.out j hlt
              have hx1 := HM.out j hlt
              have HSp : Hid _ := sumPre_succ V j hlt
              have hsp : (strOf (sumPre V j)).size ≤ 32 := by rw [strOf_size, sumPre_length V j hj]; omega
              have hw4 : (strOf (wordBytes (V.list.getD j 0))).size = 4 := by rw [strOf_size, wordBytes_length]
              have happ : strOf (sumPre V j) ++ strOf (wordBytes (V.list.getD j 0)) = strOf (sumPre V (j + 1)) := by rw [strOf_append, ← HSp.out]
              have b0 : (0 : Int) ≤ (j : Int) := by omega
              have b1 : (j : Int) < 8 := by omega
              generalize strOf (sumPre V j) = S at *
              generalize V.list.getD j 0 = x at *
              go_wp2_with fail
              refine (must_int _ _ x.toNat 4 _ (by omega) rfl (by omega) (by decide) (by decide) (Nat.lt_of_lt_of_le (show x.toNat < 4294967296 by omega) (by decide))).mono ?_
              rintro e w9 ⟨rfl, hb9⟩
              have hL9 := (hb9.block Lb (lt_of_block fl)).trans fl
              have bel9 := bel.trans (hb9.mono bel.size)
              rw [show strOf (fixedOf x.toNat 4) = strOf (wordBytes x) from rfl]
              generalize strOf (wordBytes x) = X at *
              go_wp2
              exact ⟨⟨j + 1, by omega, by go_num, rfl, hL9, bel9⟩, by simp [intOf]; omega⟩
            · obtain rfl : j = 8 := by omega
              rw [hD]
              go_wp2
              go_ret
              exact ⟨rfl, bel⟩
    · have hq : ((((l.length + 1 + k : Nat) : Int) % 64) != 56) = true := by simp; omega
      generalize strOf (l ++ 128 :: List.replicate k 0) = u at *
      go_wp2
      exact ⟨⟨k + 1, by omega, rfl, trivial⟩, by simp only [strSize, hs, hs2]; omega⟩

end Go.Proofs.YtgpdmboeompncaaDoor

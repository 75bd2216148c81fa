/-
  The contract of the document's words of a block.
-/
import Derived.Test.YtgpdmboeompncaaDoorRefNum
namespace Go.Proofs.YtgpdmboeompncaaDoor
open Go.RowKit Go.Lib

theorem below_same {B : Nat} {w w' w'' : World} (h : Below B w w') (h1 : w''.os = w'.os) (h2 : w''.tape = w'.tape) (h3 : w''.output = w'.output) (h4 : w''.heap = w'.heap) : Below B w w'' :=
  ⟨h1.trans h.os, h2.trans h.tape, h3.trans h.output, by rw [h4]; exact h.size, fun k hk => by rw [h4]; exact h.block k hk⟩

theorem four_at (bl : List UInt8) (i : Nat) (h : i + 3 < bl.length) : (bl.drop i).take 4 = [bl.getD i 0, bl.getD (i + 1) 0, bl.getD (i + 2) 0, bl.getD (i + 3) 0] := by
  rw [List.drop_eq_getElem_cons (by omega), List.drop_eq_getElem_cons (by omega), List.drop_eq_getElem_cons (by omega), List.drop_eq_getElem_cons (by omega)]
  simp only [List.getD_eq_getElem?_getD, List.getElem?_eq_getElem (show i < bl.length by omega), List.getElem?_eq_getElem (show i + 1 < bl.length by omega), List.getElem?_eq_getElem (show i + 2 < bl.length by omega), List.getElem?_eq_getElem (show i + 3 < bl.length by omega)]
  rfl

theorem num_word (s : ByteArray) (j : Nat) (hl : s.data.toList.length = 64) (hj : j < 16) : ((numOf (s.extract (4 * j) (4 * j + 4)).data.toList : Nat) : Int) = W s.data.toList j := by
  rw [W_own _ j hj, ByteArray.data_extract, Array.toList_extract, List.extract_eq_take_drop, show 4 * j + 4 - 4 * j = 4 by omega, four_at _ _ (by omega)]
  simp only [numOf, ownW, List.foldl_cons, List.foldl_nil]
  omega

set_option maxHeartbeats 800000 in
set_option maxRecDepth 100000 in
theorem refWords_any (s : ByteArray) (w : World) (hl : s.data.toList.length = 64) :
    Calls Tryd.prog 41 #[.string s] w fun e w' => e = .returned (.agg (allW s.data.toList).toArray) ∧ Below w.heap.size w w' := by
  have hz : s.size = 64 := by rw [Lib.size_eq]; exact hl
  obtain ⟨bl, hbl⟩ : ∃ bl, bl = s.data.toList := ⟨_, rfl⟩
  have HN : Hid (∀ j, j < 16 → ((numOf (s.extract (4 * j) (4 * j + 4)).data.toList : Nat) : Int) = W bl j) := fun j hj => by rw [hbl]; exact num_word s j hl hj
  rw [← hbl]
  clear hl hbl
  go_enter Tryd.func41, Tryd.ntmps41
  go_wp2_with (refine wpList_alloc_any rfl 53 rfl _ zero53 ?_)
  intro w0 hc0 hs0 hb0
  go_wp2_with (refine wpList_alloc_any rfl 53 rfl _ zero53 ?_)
  intro w1 hc1 hs1 hb1
  have hres : w1.heap[w.heap.size]? = some (.cells zeros64 53 (0, 0)) := (hb1.block _ (by omega)).trans hc0
  have hbel : Below w.heap.size w w1 := hb0.trans (hb1.mono (by omega))
  have hbig : w.heap.size + 2 ≤ w1.heap.size := by omega
  rw [wc0 bl] at hc1
  clear hb0 hb1 hc0 hs0 hs1
  go_wp2
  go_loopw [4] (fun i wr => ∃ j : Nat, j ≤ 16 ∧ i = .int .i64 j ∧ wr.heap[w.heap.size + 1]? = some (.cells (wCells bl j).toArray 53 (0, 0)) ∧ wr.heap[w.heap.size]? = some (.cells zeros64 53 (0, 0)) ∧ Below w.heap.size w wr ∧ w.heap.size + 2 ≤ wr.heap.size)
    (fun i _ => 16 - (intOf i).toNat)
  case atStart => exact ⟨0, by omega, rfl, hc1, hres, hbel, hbig⟩
  case round =>
    clear hc1 hres hbel hbig
    obtain ⟨j, hj, rfl, hc, hres, hbel, hbig⟩ := hrel
    by_cases hlt : j < 16
    · have hcz : wr.cell? ⟨w.heap.size + 1, j, none⟩ = some (.int .u32 0) := by
        rw [cell_of_row wr _ j _ _ _ hc]
        simpa using wCells_zero bl j j (Nat.lt_irrefl j) (by omega)
      have hf := frozen_of_row wr _ j _ _ hc
      go_wp2_with fail
      have hx4 : (s.extract (4 * j) (4 * j + 4)).size = 4 := by rw [ByteArray.size_extract]; omega
      have hN := numOf_lt (s.extract (4 * j) (4 * j + 4)).data.toList
      rw [← Lib.size_eq, hx4] at hN
      have R := wc_put (by omega) (HN.out j hlt) hc hres hbel hbig
      refine (num_any _ _ (by omega)).mono ?_
      rintro e w2 ⟨rfl, rfl⟩
      clear hc hres hbel hx4
      have HR : Hid _ := R
      clear R
      generalize numOf (s.extract (4 * j) (4 * j + 4)).data.toList = N at *
      have hN2 : (N : Int) < 4294967296 := by omega
      go_wp2
      go_roundw
      case rel => exact ⟨j + 1, by omega, by go_num, HR.out.1, HR.out.2.1, HR.out.2.2.1, HR.out.2.2.2⟩
      case measure => simp [intOf]; omega
    · obtain rfl : j = 16 := by omega
      clear hlt HN
      rw [show (((16 : Nat) : Int)) = (16 : Int) from rfl]
      go_wp2
      go_loopw [5, 6, 7] (fun i _ _ wq => ∃ j : Nat, j ≤ 48 ∧ i = .int .i64 (j + 16 : Nat) ∧ wq.heap[w.heap.size + 1]? = some (.cells (wCells bl (j + 16)).toArray 53 (0, 0)) ∧ wq.heap[w.heap.size]? = some (.cells zeros64 53 (0, 0)) ∧ Below w.heap.size w wq ∧ w.heap.size + 2 ≤ wq.heap.size)
        (fun i _ _ _ => 64 - (intOf i).toNat)
      case atStart => exact ⟨0, by omega, rfl, hc, hres, hbel, hbig⟩
      case round =>
        clear hc hres hbel hbig
        obtain ⟨j, hj, rfl, hc, hres, hbel, hbig⟩ := hrel
        by_cases hlt : j < 48
        · have cell : ∀ k, k < j + 16 → wr.cell? ⟨w.heap.size + 1, k, none⟩ = some (.int .u32 (W bl k)) := fun k hk => by
            rw [cell_of_row wr _ k _ _ _ hc]
            simpa using wCells_get bl (j + 16) k hk (by omega)
          have ca := cell j (by omega)
          have cb := cell (j + 9) (by omega)
          have cx := cell (j + 1) (by omega)
          have cy := cell (j + 14) (by omega)
          have hz : wr.cell? ⟨w.heap.size + 1, j + 16, none⟩ = some (.int .u32 0) := by
            rw [cell_of_row wr _ _ _ _ _ hc]
            simpa using wCells_zero bl (j + 16) (j + 16) (Nat.lt_irrefl _) (by omega)
          have hf := frozen_of_row wr _ (j + 16) _ _ hc
          have R := wc_put (by omega) (W_mix bl j hlt).symm hc hres hbel hbig
          have HR : Hid _ := R
          have hw0 : IntKind.i64.wrap (j : Int) = j := wraps_small _ (by omega) (by omega)
          have hw9 : IntKind.i64.wrap ((j : Int) + 16 - 7) = (j : Int) + 9 := (wraps_small _ (by omega) (by omega)).trans (by omega)
          have b0 : (0 : Int) ≤ (j : Int) := by omega
          have b1 : (j : Int) < 64 := by omega
          have b2 : (0 : Int) ≤ (j : Int) + 9 := by omega
          have b3 : (j : Int) + 9 < 64 := by omega
          have b4 : ((j : Int) + 9).toNat = j + 9 := by omega
          have b5 : (0 : Int) ≤ (j : Int) + 16 := by omega
          have b6 : (j : Int) + 16 < 64 := by omega
          have b7 : ((j : Int) + 16).toNat = j + 16 := by omega
          have k1 : ∀ M u, ((wr.drewN M).setCell ⟨w.heap.size + 1, j + 16, none⟩ u).cell? ⟨w.heap.size + 1, j, none⟩ = some (.int .u32 (W bl j)) := fun M u => (cell_ne (wr.drewN M) _ _ _ u (by omega)).trans ca
          have k2 : ∀ M u, ((wr.drewN M).setCell ⟨w.heap.size + 1, j + 16, none⟩ u).cell? ⟨w.heap.size + 1, j + 9, none⟩ = some (.int .u32 (W bl (j + 9))) := fun M u => (cell_ne (wr.drewN M) _ _ _ u (by omega)).trans cb
          generalize W bl j = A at *
          generalize W bl (j + 9) = B at *
          generalize W bl (j + 1) = X at *
          generalize W bl (j + 14) = Y at *
          clear R cell hc hres hbel
          go_wp2
          go_region
          go_wp2
          go_region_held3 (fun w' => w'.cell? ⟨w.heap.size + 1, j, none⟩ = some (.int .u32 A) ∧ w'.cell? ⟨w.heap.size + 1, j + 9, none⟩ = some (.int .u32 B)) (go_keep)
            (first | (go_at_call 42; refine (refTurn_int _ _ (by decide) (by decide) _).mono ?_; rintro e w2 ⟨rfl, m2, rfl⟩))
          go_wp2
          go_roundw
          case rel => exact ⟨j + 1, by omega, by go_num, HR.out.1, HR.out.2.1, below_same HR.out.2.2.1 rfl rfl rfl rfl, HR.out.2.2.2⟩
          case measure => simp [intOf]; omega
        · obtain rfl : j = 48 := by omega
          rw [show 48 + 16 = 64 from rfl, wCells_all] at hc
          have hall : (Tryd.prog.info? 53).map (·.size) = some (allW bl).toArray.size := by
            rw [List.size_toArray, allW_length]
            kernel_rfl
          have hone : (allW bl).toArray.all (·.oneCell') = true := by
            rw [← wCells_all]
            exact all_oneCell_toArray (fun v hv => by obtain ⟨_, _, rfl⟩ := List.mem_map.1 hv; rfl)
          have hold : zeros64.size = (allW bl).toArray.size := by
            rw [show zeros64.size = 64 from rfl, List.size_toArray, allW_length]
          go_wp2_with (refine wpList_load_row rfl 53 _ rfl _ rfl 53 _ (0, 0) _ hc Tryd.underlying53 rfl hall ?_; refine wpList_store_row rfl 53 _ _ rfl _ _ rfl rfl 53 _ hres hall hold hone ?_)
          refine bodyPost_ret (results_cell_row Tryd.results41 _ _ w.heap.size 53 _ (0, 0) _ rfl (setRow_heap wr _ _ _ 53 (0, 0) hres) Tryd.underlying53 rfl hall) rfl ⟨rfl, ?_⟩
          exact below_gb hbel (gb_setRow wr _ _) (Nat.le_refl _) (by omega)
end Go.Proofs.YtgpdmboeompncaaDoor

/-
  The contract of the function that tells a block's words.
-/
import Derived.Test.YtgpdmboeompncaaDoorKit
import Derived.BigRegion
import Derived.Deep.RegionHeld3
namespace Go.Proofs.YtgpdmboeompncaaDoor
open Go.RowKit Go.Lib

theorem wc0 (bl : List UInt8) : zeros64 = (wCells bl 0).toArray := by rw [wCells_none]; rfl

/-- One word more. -/
theorem wc_put {w wr : World} {bl : List UInt8} {j : Nat} {x : Int} (hj : j < 64) (hx : x = W bl j) (hc : wr.heap[w.heap.size + 1]? = some (.cells (wCells bl j).toArray 53 (0, 0))) (hres : wr.heap[w.heap.size]? = some (.cells zeros64 53 (0, 0)))
    (hbel : Below w.heap.size w wr) (hbig : w.heap.size + 2 ≤ wr.heap.size) :
    (wr.setCell ⟨w.heap.size + 1, j, none⟩ (.int .u32 x)).heap[w.heap.size + 1]? = some (.cells (wCells bl (j + 1)).toArray 53 (0, 0)) ∧ (wr.setCell ⟨w.heap.size + 1, j, none⟩ (.int .u32 x)).heap[w.heap.size]? = some (.cells zeros64 53 (0, 0)) ∧
    Below w.heap.size w (wr.setCell ⟨w.heap.size + 1, j, none⟩ (.int .u32 x)) ∧ w.heap.size + 2 ≤ (wr.setCell ⟨w.heap.size + 1, j, none⟩ (.int .u32 x)).heap.size := by
  subst hx
  refine ⟨?_, (heap_setCell_other _ _ _ _ (by simp)).trans hres, hbel.setCell (by simp) _, by simpa using hbig⟩
  rw [heap_set_list _ hc, wCells_set bl j hj]

theorem cell_ne (w : World) (g i k : Nat) (u : Value) (h : k ≠ i) : (w.setCell ⟨g, i, none⟩ u).cell? ⟨g, k, none⟩ = w.cell? ⟨g, k, none⟩ := by
  have := World.cell?_setCells_out g [u] i w ⟨g, k, none⟩ (fun _ _ => by simp; omega)
  exact this
theorem wraps_small (n : Int) (h₀ : 0 ≤ n) (h₁ : n < 100000) : IntKind.i64.wrap n = n := by rw [IntKind.wrap_i64]; omega
theorem ownW_eq (bl : List UInt8) (j : Nat) (h : j < 16) : (((bl.getD (4 * j) 0).toNat * 16777216 + (bl.getD (4 * j + 1) 0).toNat * 65536 + (bl.getD (4 * j + 2) 0).toNat * 256 + (bl.getD (4 * j + 3) 0).toNat : Nat) : Int) = W bl j := (W_own bl j h).symm

set_option maxHeartbeats 800000 in
theorem spread_any {w : World} {b : Nat} {v : V8} {bl : List UInt8} {n : Nat} (h : HB w b v bl n) :
    Calls Tryd.prog 43 #[.pointer (some ⟨b, 8, none⟩)] w fun e w' => e = .returned (.agg (allW bl).toArray) ∧ Below w.heap.size w w' := by
  have hlt := h.lt
  go_enter Tryd.func43, Tryd.ntmps43
  go_wp2_with (refine wpList_alloc_any rfl 53 rfl _ zero53 ?_)
  intro w0 hc0 hs0 hb0
  go_wp2_with (refine wpList_alloc_any rfl 53 rfl _ zero53 ?_)
  intro w1 hc1 hs1 hb1
  have hres : w1.heap[w.heap.size]? = some (.cells zeros64 53 (0, 0)) := (hb1.block _ (by omega)).trans hc0
  have hbel : Below w.heap.size w w1 := hb0.trans (hb1.mono (by omega))
  have hbig : w.heap.size + 2 ≤ w1.heap.size := by omega
  rw [wc0 bl] at hc1
  clear hb0 hb1 hc0 hs0 hs1
  go_wp2
  go_loopw [4, 5, 9] (fun _ _ i wr => ∃ j : Nat, j ≤ 16 ∧ i = .int .i64 j ∧ wr.heap[w.heap.size + 1]? = some (.cells (wCells bl j).toArray 53 (0, 0)) ∧ wr.heap[w.heap.size]? = some (.cells zeros64 53 (0, 0)) ∧ Below w.heap.size w wr ∧ w.heap.size + 2 ≤ wr.heap.size)
    (fun _ _ i _ => 16 - (intOf i).toNat)
  case atStart => exact ⟨0, by omega, rfl, hc1, hres, hbel, hbig⟩
  case round =>
    clear hc1 hres hbel hbig
    obtain ⟨j, hj, rfl, hc, hres, hbel, hbig⟩ := hrel
    by_cases hlt : j < 16
    · have hr := h.below hbel h.lt
      have c0 := hr.byte (4 * j) (by omega)
      have c1 := hr.byte (4 * j + 1) (by omega)
      have c2 := hr.byte (4 * j + 2) (by omega)
      have c3 := hr.byte (4 * j + 3) (by omega)
      have hz : wr.cell? ⟨w.heap.size + 1, j, none⟩ = some (.int .u32 0) := by
        rw [cell_of_row wr _ j _ _ _ hc]
        simpa using wCells_zero bl j j (Nat.lt_irrefl j) (by omega)
      have hf := frozen_of_row wr _ j _ _ hc
      rw [← Nat.add_assoc] at c1 c2 c3
      have hsl := fun w' => slice58_lh w' b 8 (4 * j) (4 * j + 4) (by omega) (by omega) (by omega)
      rw [show 4 * j + 4 - 4 * j = 4 from by omega] at hsl
      simp only [Int.natCast_add, Int.natCast_mul, Int.cast_ofNat_Int] at hsl
      have R := wc_put (by omega) ((or4 _ _ _ _ (bl.getD (4 * j) 0).toNat_lt (bl.getD (4 * j + 1) 0).toNat_lt (bl.getD (4 * j + 2) 0).toNat_lt (bl.getD (4 * j + 3) 0).toNat_lt).trans (ownW_eq bl j hlt)) hc hres hbel hbig
      generalize (bl.getD (4 * j) 0).toNat = x0 at *
      generalize (bl.getD (4 * j + 1) 0).toNat = x1 at *
      generalize (bl.getD (4 * j + 2) 0).toNat = x2 at *
      generalize (bl.getD (4 * j + 3) 0).toNat = x3 at *
      clear hc hres hbel hr
      have HR : Hid _ := R
      clear R
      go_wp2
      go_region
      go_wp2
      go_roundw
      case rel => exact ⟨j + 1, by omega, by go_num, HR.out.1, HR.out.2.1, HR.out.2.2.1.drew, HR.out.2.2.2⟩
      case measure => simp [intOf]; omega
    · obtain rfl : j = 16 := by omega
      clear hlt
      rw [show (((16 : Nat) : Int)) = (16 : Int) from rfl]
      go_wp2
      go_loopw [6, 7, 8] (fun i _ _ wq => ∃ j : Nat, j ≤ 48 ∧ i = .int .i64 (j + 16 : Nat) ∧ wq.heap[w.heap.size + 1]? = some (.cells (wCells bl (j + 16)).toArray 53 (0, 0)) ∧ wq.heap[w.heap.size]? = some (.cells zeros64 53 (0, 0)) ∧ Below w.heap.size w wq ∧ w.heap.size + 2 ≤ wq.heap.size)
        (fun i _ _ _ => 64 - (intOf i).toNat)
      case atStart => exact ⟨0, by omega, rfl, hc, hres, hbel, hbig⟩
      case round =>
        clear hc hres hbel hbig
        obtain ⟨j, hj, rfl, hc, hres, hbel, hbig⟩ := hrel
        by_cases hlt : j < 48
        · have cell : ∀ k, k < j + 16 → wr.cell? ⟨w.heap.size + 1, k, none⟩ = some (.int .u32 (W bl k)) := fun k hk => by
            rw [cell_of_row wr _ k _ _ _ hc]
            simpa using wCells_get bl (j + 16) k hk (by omega)
          have ca := cell j (by omega)
          have cb := cell (j + 9) (by omega)
          have cx := cell (j + 1) (by omega)
          have cy := cell (j + 14) (by omega)
          have hz : wr.cell? ⟨w.heap.size + 1, j + 16, none⟩ = some (.int .u32 0) := by
            rw [cell_of_row wr _ _ _ _ _ hc]
            simpa using wCells_zero bl (j + 16) (j + 16) (Nat.lt_irrefl _) (by omega)
          have hf := frozen_of_row wr _ (j + 16) _ _ hc
          have R := wc_put (by omega) (W_mix bl j hlt).symm hc hres hbel hbig
          have HR : Hid _ := R
          have hw0 : IntKind.i64.wrap (j : Int) = j := wraps_small _ (by omega) (by omega)
          have hw9 : IntKind.i64.wrap ((j : Int) + 16 - 7) = (j : Int) + 9 := (wraps_small _ (by omega) (by omega)).trans (by omega)
          have b0 : (0 : Int) ≤ (j : Int) := by omega
          have b1 : (j : Int) < 64 := by omega
          have b2 : (0 : Int) ≤ (j : Int) + 9 := by omega
          have b3 : (j : Int) + 9 < 64 := by omega
          have b4 : ((j : Int) + 9).toNat = j + 9 := by omega
          have b5 : (0 : Int) ≤ (j : Int) + 16 := by omega
          have b6 : (j : Int) + 16 < 64 := by omega
          have b7 : ((j : Int) + 16).toNat = j + 16 := by omega
          have k1 : ∀ u, (wr.setCell ⟨w.heap.size + 1, j + 16, none⟩ u).cell? ⟨w.heap.size + 1, j, none⟩ = some (.int .u32 (W bl j)) := fun u => (cell_ne wr _ _ _ u (by omega)).trans ca
          have k2 : ∀ u, (wr.setCell ⟨w.heap.size + 1, j + 16, none⟩ u).cell? ⟨w.heap.size + 1, j + 9, none⟩ = some (.int .u32 (W bl (j + 9))) := fun u => (cell_ne wr _ _ _ u (by omega)).trans cb
          generalize W bl j = A at *
          generalize W bl (j + 9) = B at *
          generalize W bl (j + 1) = X at *
          generalize W bl (j + 14) = Y at *
          clear R cell hc hres hbel
          go_wp2
          go_region
          go_wp2
          go_region_held3 (fun w' => w'.cell? ⟨w.heap.size + 1, j, none⟩ = some (.int .u32 A) ∧ w'.cell? ⟨w.heap.size + 1, j + 9, none⟩ = some (.int .u32 B)) (go_keep)
            (first | (go_at_call 44; refine (turned_int _ _ (by decide) (by decide) _).mono ?_; rintro e w2 ⟨rfl, rfl⟩))
          go_wp2
          go_roundw
          case rel => exact ⟨j + 1, by omega, by go_num, HR.out.1, HR.out.2.1, HR.out.2.2.1.drew.drew, HR.out.2.2.2⟩
          case measure => simp [intOf]; omega
        · obtain rfl : j = 48 := by omega
          rw [show 48 + 16 = 64 from rfl, wCells_all] at hc
          have hall : (Tryd.prog.info? 53).map (·.size) = some (allW bl).toArray.size := by
            rw [List.size_toArray, allW_length]
            kernel_rfl
          have hone : (allW bl).toArray.all (·.oneCell') = true := by
            rw [← wCells_all]
            exact all_oneCell_toArray (fun v hv => by obtain ⟨_, _, rfl⟩ := List.mem_map.1 hv; rfl)
          have hold : zeros64.size = (allW bl).toArray.size := by
            rw [show zeros64.size = 64 from rfl, List.size_toArray, allW_length]
          go_wp2_with (refine wpList_load_row rfl 53 _ rfl _ rfl 53 _ (0, 0) _ hc Tryd.underlying53 rfl hall ?_; refine wpList_store_row rfl 53 _ _ rfl _ _ rfl rfl 53 _ hres hall hold hone ?_)
          refine bodyPost_ret (results_cell_row Tryd.results43 _ _ w.heap.size 53 _ (0, 0) _ rfl (setRow_heap wr _ _ _ 53 (0, 0) hres) Tryd.underlying53 rfl hall) rfl ⟨rfl, ?_⟩
          exact below_gb hbel (gb_setRow wr _ _) (Nat.le_refl _) (by omega)
end Go.Proofs.YtgpdmboeompncaaDoor

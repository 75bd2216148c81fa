/-
  The contract of the method that takes in a block.
-/
import Derived.Test.YtgpdmboeompncaaDoorSpread
namespace Go.Proofs.YtgpdmboeompncaaDoor
open Go.RowKit Go.Lib

/-! ### The eight words, some of them added already -/
def addTo (v x : V8) (j : Nat) : List Int := (List.range 8).map fun k => if k < j then (v.list.getD k 0 + x.list.getD k 0) % 4294967296 else v.list.getD k 0
theorem addTo_zero (v x : V8) : addTo v x 0 = v.list := rfl
theorem addTo_all (v x : V8) : addTo v x 8 = (addV v x).list := rfl
theorem addTo_length (v x : V8) (j : Nat) : (addTo v x j).length = 8 := by simp [addTo]
theorem addTo_get (v x : V8) (j : Nat) (h : j < 8) : (addTo v x j)[j]? = some (v.list.getD j 0) := by
  simp [addTo, List.getElem?_map, List.getElem?_range h]
theorem addTo_set (v x : V8) (j : Nat) (h : j < 8) : (addTo v x j).set j ((v.list.getD j 0 + x.list.getD j 0) % 4294967296) = addTo v x (j + 1) := by
  apply List.ext_getElem?
  intro k
  rw [List.getElem?_set]
  by_cases hj : j = k
  · subst hj
    rw [if_pos rfl, addTo_length, if_pos h]
    simp [addTo, List.getElem?_map, List.getElem?_range h]
  · rw [if_neg hj]
    by_cases h8 : k < 8
    · simp only [addTo, List.getElem?_map, List.getElem?_range h8, Option.map_some]
      by_cases hk : k < j
      · rw [if_pos hk, if_pos (by omega)]
      · rw [if_neg hk, if_neg (by omega)]
    · rw [List.getElem?_eq_none (by rw [addTo_length]; omega), List.getElem?_eq_none (by rw [addTo_length]; omega)]

def hCellsL (l : List Int) (bl : List UInt8) (n : Nat) : List Value := l.map word ++ (byteCells bl ++ [.int .i64 n])
theorem hCellsL_get (l : List Int) (bl : List UInt8) (n k : Nat) (hl : l.length = 8) (hk : k < 8) : (hCellsL l bl n)[k]? = (l[k]?).map word := by
  rw [hCellsL, List.getElem?_append_left (by simpa [hl] using hk), List.getElem?_map]
theorem hCellsL_set (l : List Int) (bl : List UInt8) (n k : Nat) (x : Int) (hl : l.length = 8) (hk : k < 8) : (hCellsL l bl n).set k (word x) = hCellsL (l.set k x) bl n := by
  rw [hCellsL, hCellsL, List.set_append_left _ _ (by simpa [hl] using hk), List.map_set]

/-- One word more is added. -/
theorem add_put {w wr : World} {b n j : Nat} {v x : V8} {bl : List UInt8} {u y : Int} (hj : j < 8) (hu : u = v.list.getD j 0) (hy : y = x.list.getD j 0) (hc : wr.heap[b]? = some (.cells (hCellsL (addTo v x j) bl n).toArray 60 (0, 0))) (hg : w.grownBy wr (some b)) :
    (wr.setCell ⟨b, j, none⟩ (.int .u32 ((u + y) % 4294967296))).heap[b]? = some (.cells (hCellsL (addTo v x (j + 1)) bl n).toArray 60 (0, 0)) ∧ w.grownBy (wr.setCell ⟨b, j, none⟩ (.int .u32 ((u + y) % 4294967296))) (some b) := by
  subst hu hy
  refine ⟨?_, gb_trans hg (gb_set _ _ _ _)⟩
  rw [heap_set_list _ hc]
  have := hCellsL_set (addTo v x j) bl n j ((v.list.getD j 0 + x.list.getD j 0) % 4294967296) (addTo_length _ _ _) hj
  rw [addTo_set v x j hj] at this
  exact congrArg (fun c : List Value => some (Obj.cells c.toArray 60 (0, 0))) this

def aggV (x : V8) : Value := .agg #[.int .u32 x.a, .int .u32 x.b, .int .u32 x.c, .int .u32 x.d, .int .u32 x.e, .int .u32 x.f, .int .u32 x.g, .int .u32 x.h]
theorem index56_0 (x : V8) (w : World) : (Instr.index 56 (aggV x) (.int .i64 0)).run Tryd.prog w = .ok (.int .u32 x.a) w := by kernel_rfl
theorem index56_1 (x : V8) (w : World) : (Instr.index 56 (aggV x) (.int .i64 1)).run Tryd.prog w = .ok (.int .u32 x.b) w := by kernel_rfl
theorem index56_2 (x : V8) (w : World) : (Instr.index 56 (aggV x) (.int .i64 2)).run Tryd.prog w = .ok (.int .u32 x.c) w := by kernel_rfl
theorem index56_3 (x : V8) (w : World) : (Instr.index 56 (aggV x) (.int .i64 3)).run Tryd.prog w = .ok (.int .u32 x.d) w := by kernel_rfl
theorem index56_4 (x : V8) (w : World) : (Instr.index 56 (aggV x) (.int .i64 4)).run Tryd.prog w = .ok (.int .u32 x.e) w := by kernel_rfl
theorem index56_5 (x : V8) (w : World) : (Instr.index 56 (aggV x) (.int .i64 5)).run Tryd.prog w = .ok (.int .u32 x.f) w := by kernel_rfl
theorem index56_6 (x : V8) (w : World) : (Instr.index 56 (aggV x) (.int .i64 6)).run Tryd.prog w = .ok (.int .u32 x.g) w := by kernel_rfl
theorem index56_7 (x : V8) (w : World) : (Instr.index 56 (aggV x) (.int .i64 7)).run Tryd.prog w = .ok (.int .u32 x.h) w := by kernel_rfl
theorem index56 (x : V8) (j : Nat) (h : j < 8) (w : World) : (Instr.index 56 (aggV x) (.int .i64 j)).run Tryd.prog w = .ok (.int .u32 (x.list.getD j 0)) w :=
  match j, h with
  | 0, _ => index56_0 x w
  | 1, _ => index56_1 x w
  | 2, _ => index56_2 x w
  | 3, _ => index56_3 x w
  | 4, _ => index56_4 x w
  | 5, _ => index56_5 x w
  | 6, _ => index56_6 x w
  | 7, _ => index56_7 x w

set_option maxHeartbeats 1600000 in
set_option maxRecDepth 100000 in
theorem takeIn_any {w : World} {b : Nat} {v : V8} {bl : List UInt8} {n : Nat} (hL : Laid w) (h : HB w b v bl n) (hb2 : 2 ≤ b) :
    Calls Tryd.prog 34 #[.pointer (some ⟨b, 0, none⟩)] w fun e w' => e = .returned (.tuple #[]) ∧ HB w' b (takeV v bl) bl n ∧ w.grownBy w' (some b) := by
  have hlt := h.lt
  have hall : (Tryd.prog.info? 53).map (·.size) = some (allW bl).toArray.size := by
    rw [List.size_toArray, allW_length]
    kernel_rfl
  have hone : (allW bl).toArray.all (·.oneCell') = true := by
    rw [← wCells_all]
    exact all_oneCell_toArray (fun v hv => by obtain ⟨_, _, rfl⟩ := List.mem_map.1 hv; rfl)
  have hold : zeros64.size = (allW bl).toArray.size := by
    rw [show zeros64.size = 64 from rfl, List.size_toArray, allW_length]
  go_enter Tryd.func34, Tryd.ntmps34
  go_wp2_with fail
  refine (spread_any h).mono ?_
  rintro e w1 ⟨rfl, hb1⟩
  have hs1 := hb1.size
  go_wp2_with (refine wpList_alloc_any rfl 53 rfl _ zero53 ?_)
  intro w0 hc0 hs0 hb0
  go_wp2_with (refine wpList_store_row rfl 53 _ _ rfl _ _ rfl rfl 53 _ hc0 hall hold hone ?_)
  have hbel : Below w.heap.size w (w0.setRow w1.heap.size (allW bl).toArray) := below_gb (hb1.trans (hb0.mono hs1)) (gb_setRow _ _ _) hs1 (by omega)
  have hw : (w0.setRow w1.heap.size (allW bl).toArray).heap[w1.heap.size]? = some (.cells (allW bl).toArray 53 (0, 0)) := setRow_heap w0 _ _ _ 53 (0, 0) hc0
  generalize w0.setRow w1.heap.size (allW bl).toArray = w2 at *
  have hL2 := hL.below hbel (by omega)
  have h2 := h.below hbel hlt
  have p0 := h2.word 0 (by decide)
  have p1 := h2.word 1 (by decide)
  have p2 := h2.word 2 (by decide)
  have p3 := h2.word 3 (by decide)
  have p4 := h2.word 4 (by decide)
  have p5 := h2.word 5 (by decide)
  have p6 := h2.word 6 (by decide)
  have p7 := h2.word 7 (by decide)
  simp only [V8.list, List.getD_cons_zero, List.getD_cons_succ] at p0 p1 p2 p3 p4 p5 p6 p7
  generalize hB : w1.heap.size = B at *
  clear hc0 hs0 hb0 hb1 hs1 hall hone hold hB
  go_quiet (fail)
  clear p0 p1 p2 p3 p4 p5 p6 p7
  have h3 := h2.drewN nq
  have hL3 := hL2.drewN nq
  have hw3 : (w2.drewN nq).heap[B]? = some (.cells (allW bl).toArray 53 (0, 0)) := hw
  have hbel3 := below_drew hbel nq
  generalize w2.drewN nq = w3 at *
  clear h2 hL2 hw hbel
  go_wp2
  go_loopw [3, 4, 5, 6, 7, 8, 9, 10, 11, 12, 13, 60] (fun s3 s4 s5 s6 s7 s8 s9 s10 _ _ _ i wr => ∃ (j : Nat) (x : V8), j ≤ 64 ∧ i = .int .i64 j ∧ x = rounds (W bl) j v ∧ HB wr b v bl n ∧ Laid wr ∧ wr.heap[B]? = some (.cells (allW bl).toArray 53 (0, 0)) ∧ Below w.heap.size w wr ∧
      s3 = .int .u32 x.a ∧ s4 = .int .u32 x.b ∧ s5 = .int .u32 x.c ∧ s6 = .int .u32 x.d ∧ s7 = .int .u32 x.e ∧ s8 = .int .u32 x.f ∧ s9 = .int .u32 x.g ∧ s10 = .int .u32 x.h)
    (fun _ _ _ _ _ _ _ _ _ _ _ i _ => 64 - (intOf i).toNat)
  case atStart => exact ⟨0, v, by omega, rfl, rfl, h3, hL3, hw3, hbel3, rfl, rfl, rfl, rfl, rfl, rfl, rfl, rfl⟩
  case round =>
    clear h3 hL3 hw3 hbel3
    obtain ⟨j, x, hj, rfl, hx, h3, hL3, hw3, hbel3, rfl, rfl, rfl, rfl, rfl, rfl, rfl, rfl⟩ := hrel
    by_cases hlt : j < 64
    · have ck : wr.cell? ⟨0, j, none⟩ = some (.int .u32 (K j)) := hL3.const j hlt
      have cw : wr.cell? ⟨B, j, none⟩ = some (.int .u32 (W bl j)) := by
        rw [cell_of_row _ _ j _ _ _ hw3]
        simpa using allW_get bl j hlt
      have HX : Hid (stepV (K j) (W bl j) x = rounds (W bl) (j + 1) v) := by rw [hx]; rfl
      clear hx
      generalize K j = k at *
      generalize W bl j = y at *
      have b0 : (0 : Int) ≤ (j : Int) := by omega
      have b1 : (j : Int) < 64 := by omega
      go_wp2
      go_quiet (first | (go_at_call 44; exact Calls.quiet_of_same (turned_int _ _ (by decide) (by decide) _)))
      go_wp2_with (go_at_call 44; refine (turned_int _ _ (by decide) (by decide) _).mono ?_; rintro e w4 ⟨rfl, rfl⟩)
      go_roundw
      case rel => exact ⟨j + 1, stepV k y x, by omega, by go_num, HX.out, h3.drewN _, hL3.drewN _, hw3, below_drew hbel3 _, by simp only [stepV, tOf, uOf, Int.emod_add_emod, Int.add_emod_emod], rfl, rfl, rfl, by simp only [stepV, tOf, Int.emod_add_emod, Int.add_emod_emod], rfl, rfl, rfl⟩
      case measure => simp [intOf]; omega
    · obtain rfl : j = 64 := by omega
      rw [show (((64 : Nat) : Int)) = (64 : Int) from rfl]
      have HX : Hid (x = rounds (W bl) 64 v) := hx
      clear hx
      go_wp2
      have hg3 : w.grownBy wr (some b) := gb_below hbel3 _
      have hc3 : wr.heap[b]? = some (.cells (hCellsL (addTo v x 0) bl n).toArray 60 (0, 0)) := h3.2
      have hl := h3.1
      clear h3 hL3 hw3 hbel3
      go_loopw [14, 15, 131] (fun _ _ i wq => ∃ j : Nat, j ≤ 8 ∧ i = .int .i64 j ∧ wq.heap[b]? = some (.cells (hCellsL (addTo v x j) bl n).toArray 60 (0, 0)) ∧ w.grownBy wq (some b))
        (fun _ _ i _ => 8 - (intOf i).toNat)
      case atStart => exact ⟨0, by omega, rfl, hc3, hg3⟩
      case round =>
        clear hc3 hg3
        obtain ⟨j, hj, rfl, hc, hg⟩ := hrel
        by_cases hlt : j < 8
        · have hidx := index56 x j hlt
          have ch : wr.cell? ⟨b, j, none⟩ = some (.int .u32 (v.list.getD j 0)) := by
            rw [cell_of_row _ _ j _ _ _ hc]
            simp only [List.getElem?_toArray]
            rw [hCellsL_get _ _ _ _ (addTo_length _ _ _) hlt, addTo_get v x j hlt]
            rfl
          have hf := frozen_of_row wr _ j _ _ hc
          have b0 : (0 : Int) ≤ (j : Int) := by omega
          have b1 : (j : Int) < 8 := by omega
          have R : Hid _ := add_put hlt rfl rfl hc hg
          unfold aggV at hidx
          clear hc hg
          generalize v.list.getD j 0 = p at *
          generalize x.list.getD j 0 = q at *
          go_wp2
          go_region
          go_wp2
          go_roundw
          case rel => exact ⟨j + 1, by omega, by go_num, R.out.1, gb_drewN R.out.2 1⟩
          case measure => simp [intOf]; omega
        · obtain rfl : j = 8 := by omega
          go_wp2
          go_end0
          refine ⟨rfl, ⟨hl, ?_⟩, hg⟩
          rw [addTo_all, HX.out] at hc
          exact hc
end Go.Proofs.YtgpdmboeompncaaDoor

/-
  The contract of the document's taking in of a block.
-/
import Derived.Test.YtgpdmboeompncaaDoorRefWords
namespace Go.Proofs.YtgpdmboeompncaaDoor
open Go.RowKit Go.Lib

/-- A value laid into a block of its own. -/
theorem wpList_box_any {P : Program} {ops : Array Oper} {rest : List Oper} {o : Oper} {a : Act} {w : World} {Q : Exit → Act → World → Prop} (hgd : o.guard = none) (t : TypeId) (x : Operand) (ho : o.op = .box t x)
    (c : Array Value) (hx : a.eval x = .agg c)
    (h : ∀ w0 : World, w0.heap[w.heap.size]? = some (.cells c t (0, 0)) → w0.heap.size = w.heap.size + 1 → Below w.heap.size w w0 → wpList P ops Q rest (a.put o.dst (.pointer (some ⟨w.heap.size, 0, none⟩))) w0) : wpList P ops Q (o :: rest) a w :=
  wpList_plain hgd fun K hK => by
    unfold Oper.wp execOp
    simp [ho, hx, Instr.box, newVar, newRow, Value.cells]
    exact hK _ _ (h _ (heap_alloc_new w _) (by simp) ((Below.refl _ _).alloc (Nat.le_refl _) _))

def v8Cells (v : V8) : Array Value := (v.list.map word).toArray
theorem v8_info (v : V8) : (Tryd.prog.info? 56).map (·.size) = some (v8Cells v).size := by kernel_rfl
theorem v8_one (v : V8) : (v8Cells v).all (·.oneCell') = true := by kernel_rfl
theorem v8_old (v : V8) : zeros8.size = (v8Cells v).size := rfl

theorem wpList_store_v8 {ops : Array Oper} {rest : List Oper} {o : Oper} {a : Act} {w : World} {Q : Exit → Act → World → Prop} (hgd : o.guard = none) (x y : Operand) (ho : o.op = .store 56 x y)
    (g : Nat) (a0 a1 a2 a3 a4 a5 a6 a7 : Int) (hx : a.eval x = .pointer (some ⟨g, 0, none⟩)) (hy : a.eval y = .agg #[.int .u32 a0, .int .u32 a1, .int .u32 a2, .int .u32 a3, .int .u32 a4, .int .u32 a5, .int .u32 a6, .int .u32 a7])
    (old : V8) (hg : w.heap[g]? = some (.cells (v8Cells old) 56 (0, 0)))
    (h : wpList Tryd.prog ops Q rest (a.put o.dst undef) (w.setRow g (v8Cells ⟨a0, a1, a2, a3, a4, a5, a6, a7⟩))) : wpList Tryd.prog ops Q (o :: rest) a w :=
  wpList_store_row hgd 56 x y ho g (v8Cells ⟨a0, a1, a2, a3, a4, a5, a6, a7⟩) hx hy 56 _ hg (v8_info _) rfl (v8_one _) h

/-- What lies about, while a block is taken in. -/
structure TS (w : World) (v : V8) (bl : List UInt8) (Wb Kb : Nat) (wr : World) : Prop where
  fl : wr.heap[w.heap.size]? = some (.cells (v8Cells v) 56 (0, 0))
  fr : wr.heap[w.heap.size + 1]? = some (.cells zeros8 56 (0, 0))
  fw : wr.heap[Wb]? = some (.cells (allW bl).toArray 53 (0, 0))
  fk : wr.heap[Kb]? = some (.cells (Ks.map word).toArray 53 (0, 0))
  below : Below w.heap.size w wr
theorem TS.same {w : World} {v : V8} {bl : List UInt8} {Wb Kb : Nat} {wr wq : World} (h : TS w v bl Wb Kb wr) (h1 : wq.os = wr.os) (h2 : wq.tape = wr.tape) (h3 : wq.output = wr.output) (h4 : wq.heap = wr.heap) : TS w v bl Wb Kb wq :=
  ⟨by rw [h4]; exact h.fl, by rw [h4]; exact h.fr, by rw [h4]; exact h.fw, by rw [h4]; exact h.fk, below_same h.below h1 h2 h3 h4⟩
theorem TS.setRow {w : World} {v : V8} {bl : List UInt8} {Wb Kb : Nat} {wr : World} (h : TS w v bl Wb Kb wr) (Vb : Nat) (cs : Array Value) (hL : w.heap.size + 1 < Vb) (hW : Wb < Vb) (hK : Kb < Vb) : TS w v bl Wb Kb (wr.setRow Vb cs) :=
  ⟨(setRow_other _ _ _ _ (by omega)).trans h.fl, (setRow_other _ _ _ _ (by omega)).trans h.fr, (setRow_other _ _ _ _ (by omega)).trans h.fw, (setRow_other _ _ _ _ (by omega)).trans h.fk,
   below_gb h.below (gb_setRow _ _ _) (by omega) h.below.size⟩

/-- One word more is added. -/
theorem take_put {w wr : World} {Vb j : Nat} {v x : V8} (hj : j < 8) (hl : wr.heap[w.heap.size]? = some (.cells ((addTo v x j).map word).toArray 56 (0, 0))) (hr : wr.heap[w.heap.size + 1]? = some (.cells zeros8 56 (0, 0))) (hv : wr.heap[Vb]? = some (.cells (v8Cells x) 56 (0, 0))) (hb : Below w.heap.size w wr) (hV : w.heap.size < Vb) :
    (wr.setCell ⟨w.heap.size, j, none⟩ (.int .u32 ((v.list.getD j 0 + x.list.getD j 0) % 4294967296))).heap[w.heap.size]? = some (.cells ((addTo v x (j + 1)).map word).toArray 56 (0, 0)) ∧
    (wr.setCell ⟨w.heap.size, j, none⟩ (.int .u32 ((v.list.getD j 0 + x.list.getD j 0) % 4294967296))).heap[w.heap.size + 1]? = some (.cells zeros8 56 (0, 0)) ∧
    (wr.setCell ⟨w.heap.size, j, none⟩ (.int .u32 ((v.list.getD j 0 + x.list.getD j 0) % 4294967296))).heap[Vb]? = some (.cells (v8Cells x) 56 (0, 0)) ∧
    Below w.heap.size w (wr.setCell ⟨w.heap.size, j, none⟩ (.int .u32 ((v.list.getD j 0 + x.list.getD j 0) % 4294967296))) := by
  refine ⟨?_, (heap_setCell_other _ _ _ _ (by simp)).trans hr, (heap_setCell_other _ _ _ _ (by simp; omega)).trans hv, hb.setCell (Nat.le_refl _) _⟩
  rw [heap_set_list _ hl]
  have e : ((addTo v x j).map word).set j (.int .u32 ((v.list.getD j 0 + x.list.getD j 0) % 4294967296)) = (addTo v x (j + 1)).map word := by
    rw [← addTo_set v x j hj, List.map_set]
    rfl
  rw [e]

set_option maxHeartbeats 1600000 in
set_option maxRecDepth 100000 in
theorem refTake_any (v : V8) (s : ByteArray) (w : World) (hl : s.data.toList.length = 64) :
    Calls Tryd.prog 33 #[.agg (v8Cells v), .string s] w fun e w' => e = .returned (.agg (v8Cells (takeV v s.data.toList))) ∧ Below w.heap.size w w' := by
  obtain ⟨bl, hbl⟩ : ∃ bl, bl = s.data.toList := ⟨_, rfl⟩
  have HW : Hid (∀ w', Calls Tryd.prog 41 #[.string s] w' fun e w'' => e = .returned (.agg (allW bl).toArray) ∧ Below w'.heap.size w' w'') := fun w' => by rw [hbl]; exact refWords_any s w' hl
  rw [← hbl]
  clear hbl hl
  have hall : (Tryd.prog.info? 53).map (·.size) = some (allW bl).toArray.size := by
    rw [List.size_toArray, allW_length]
    kernel_rfl
  have hone : (allW bl).toArray.all (·.oneCell') = true := by
    rw [← wCells_all]
    exact all_oneCell_toArray (fun v hv => by obtain ⟨_, _, rfl⟩ := List.mem_map.1 hv; rfl)
  have hold : zeros64.size = (allW bl).toArray.size := by
    rw [show zeros64.size = 64 from rfl, List.size_toArray, allW_length]
  go_enter Tryd.func33, Tryd.ntmps33
  go_wp2_with (refine wpList_box_any rfl 56 _ rfl _ rfl ?_)
  intro w0 hc0 hs0 hb0
  go_wp2_with (refine wpList_alloc_any rfl 56 rfl _ zero56 ?_)
  intro w1 hc1 hs1 hb1
  go_wp2_with fail
  refine (HW.out _).mono ?_
  rintro e w2 ⟨rfl, hb2⟩
  have z2 := hb2.size
  go_wp2_with (refine wpList_alloc_any rfl 53 rfl _ zero53 ?_)
  intro w3 hc3 hs3 hb3
  go_wp2_with (first | refine wpList_store_row rfl 53 _ _ rfl _ _ rfl rfl 53 _ hc3 hall hold hone ?_ | fail)
  have fl3 : (w3.setRow w2.heap.size (allW bl).toArray).heap[w.heap.size]? = some (.cells (v8Cells v) 56 (0, 0)) :=
    (setRow_other _ _ _ _ (by omega)).trans ((hb3.block _ (by omega)).trans ((hb2.block _ (by omega)).trans ((hb1.block _ (by omega)).trans hc0)))
  have fr3 : (w3.setRow w2.heap.size (allW bl).toArray).heap[w.heap.size + 1]? = some (.cells zeros8 56 (0, 0)) :=
    (setRow_other _ _ _ _ (by omega)).trans ((hb3.block _ (by omega)).trans ((hb2.block _ (by omega)).trans hc1))
  have fw3 : (w3.setRow w2.heap.size (allW bl).toArray).heap[w2.heap.size]? = some (.cells (allW bl).toArray 53 (0, 0)) := setRow_heap w3 _ _ _ 53 (0, 0) hc3
  have bl3 : Below w.heap.size w (w3.setRow w2.heap.size (allW bl).toArray) := below_gb (((hb0.trans (hb1.mono (by omega))).trans (hb2.mono (by omega))).trans (hb3.mono (by omega))) (gb_setRow _ _ _) (by omega) (by omega)
  have sz3 : (w3.setRow w2.heap.size (allW bl).toArray).heap.size = w2.heap.size + 1 := by rw [setRow_size]; exact hs3
  generalize w3.setRow w2.heap.size (allW bl).toArray = x3 at *
  have hWb : w.heap.size + 2 ≤ w2.heap.size := by omega
  generalize w2.heap.size = Wb at *
  clear hc0 hc1 hc3 hb0 hb1 hb2 hb3 hs0 hs1 hs3 z2 hall hone hold HW
  refine (consts_any x3).mono ?_
  rintro e w4 ⟨rfl, hb4⟩
  have z4 := hb4.size
  go_wp2_with (refine wpList_alloc_any rfl 53 rfl _ zero53 ?_)
  intro w5 hc5 hs5 hb5
  have hT5 : TS w v bl Wb w4.heap.size (w5.setRow w4.heap.size (Ks.map word).toArray) :=
    ⟨(setRow_other _ _ _ _ (by omega)).trans ((hb5.block _ (by omega)).trans ((hb4.block _ (by omega)).trans fl3)),
     (setRow_other _ _ _ _ (by omega)).trans ((hb5.block _ (by omega)).trans ((hb4.block _ (by omega)).trans fr3)),
     (setRow_other _ _ _ _ (by omega)).trans ((hb5.block _ (by omega)).trans ((hb4.block _ (by omega)).trans fw3)),
     setRow_heap w5 _ _ _ 53 (0, 0) hc5,
     below_gb ((bl3.trans (hb4.mono (by omega))).trans (hb5.mono (by omega))) (gb_setRow _ _ _) (by omega) (by omega)⟩
  have sz5 : (w5.setRow w4.heap.size (Ks.map word).toArray).heap.size = w4.heap.size + 1 := by rw [setRow_size]; exact hs5
  go_wp2_with (first | refine wpList_store_row rfl 53 _ _ rfl _ _ rfl rfl 53 _ hc5 Ks_info (by kernel_rfl) (by kernel_rfl) ?_ | refine wpList_load_row rfl 56 _ rfl _ rfl 56 _ (0, 0) _ hT5.fl Tryd.underlying56 rfl (v8_info v) ?_ | refine wpList_alloc_any rfl 56 rfl _ zero56 ?_)
  intro w6 hc6 hs6 hb6
  generalize w5.setRow w4.heap.size (Ks.map word).toArray = x5 at *
  have hKb : Wb + 1 ≤ w4.heap.size := by omega
  generalize w4.heap.size = Kb at *
  have hT6 : TS w v bl Wb Kb (w6.setRow (Kb + 1) (v8Cells v)) :=
    ⟨(setRow_other _ _ _ _ (by omega)).trans ((hb6.block _ (by omega)).trans hT5.fl),
     (setRow_other _ _ _ _ (by omega)).trans ((hb6.block _ (by omega)).trans hT5.fr),
     (setRow_other _ _ _ _ (by omega)).trans ((hb6.block _ (by omega)).trans hT5.fw),
     (setRow_other _ _ _ _ (by omega)).trans ((hb6.block _ (by omega)).trans hT5.fk),
     below_gb (hT5.below.trans (hb6.mono (by omega))) (gb_setRow _ _ _) (by omega) (by omega)⟩
  have fv6 : (w6.setRow (Kb + 1) (v8Cells v)).heap[Kb + 1]? = some (.cells (v8Cells v) 56 (0, 0)) := setRow_heap w6 _ _ _ 56 (0, 0) hc6
  go_wp2_with (refine wpList_store_row rfl 56 _ _ rfl _ _ rfl rfl 56 _ hc6 (v8_info v) (v8_old v) (v8_one v) ?_)
  generalize w6.setRow (Kb + 1) (v8Cells v) = x6 at *
  obtain ⟨Vb, hVb⟩ : ∃ Vb, Vb = Kb + 1 := ⟨_, rfl⟩
  rw [← hVb] at fv6 ⊢
  have hV1 : w.heap.size + 1 < Vb := by omega
  have hV2 : Wb < Vb := by omega
  have hV3 : Kb < Vb := by omega
  clear hc6 hs6 hb6 hT5 sz5 hKb hc5 hs5 hb5 hb4 z4 fl3 fr3 fw3 bl3 sz3 hWb hVb
  go_loopw [8, 9, 10, 11, 12, 13, 14, 15, 16] (fun i _ _ _ _ _ _ _ _ wr => ∃ (j : Nat) (x : V8), j ≤ 64 ∧ i = .int .i64 j ∧ x = rounds (W bl) j v ∧ TS w v bl Wb Kb wr ∧ wr.heap[Vb]? = some (.cells (v8Cells x) 56 (0, 0)))
    (fun i _ _ _ _ _ _ _ _ _ => 64 - (intOf i).toNat)
  case atStart => exact ⟨0, v, by omega, rfl, rfl, hT6, fv6⟩
  case round =>
    clear hT6 fv6
    obtain ⟨j, x, hj, rfl, hx, hT, hv⟩ := hrel
    by_cases hlt : j < 64
    · have ck : wr.cell? ⟨Kb, j, none⟩ = some (.int .u32 (K j)) := by
        rw [cell_of_row _ _ j _ _ _ hT.fk]
        have hl : j < Ks.length := hlt
        simp [K, word, List.getElem?_eq_getElem hl]
      have cw : wr.cell? ⟨Wb, j, none⟩ = some (.int .u32 (W bl j)) := by
        rw [cell_of_row _ _ j _ _ _ hT.fw]
        simpa using allW_get bl j hlt
      have p0 : wr.cell? ⟨Vb, 0, none⟩ = some (.int .u32 x.a) := by rw [cell_of_row _ _ _ _ _ _ hv]; rfl
      have p1 : wr.cell? ⟨Vb, 1, none⟩ = some (.int .u32 x.b) := by rw [cell_of_row _ _ _ _ _ _ hv]; rfl
      have p2 : wr.cell? ⟨Vb, 2, none⟩ = some (.int .u32 x.c) := by rw [cell_of_row _ _ _ _ _ _ hv]; rfl
      have p3 : wr.cell? ⟨Vb, 3, none⟩ = some (.int .u32 x.d) := by rw [cell_of_row _ _ _ _ _ _ hv]; rfl
      have p4 : wr.cell? ⟨Vb, 4, none⟩ = some (.int .u32 x.e) := by rw [cell_of_row _ _ _ _ _ _ hv]; rfl
      have p5 : wr.cell? ⟨Vb, 5, none⟩ = some (.int .u32 x.f) := by rw [cell_of_row _ _ _ _ _ _ hv]; rfl
      have p6 : wr.cell? ⟨Vb, 6, none⟩ = some (.int .u32 x.g) := by rw [cell_of_row _ _ _ _ _ _ hv]; rfl
      have p7 : wr.cell? ⟨Vb, 7, none⟩ = some (.int .u32 x.h) := by rw [cell_of_row _ _ _ _ _ _ hv]; rfl
      have HX : Hid (stepV (K j) (W bl j) x = rounds (W bl) (j + 1) v) := by rw [hx]; rfl
      clear hx
      generalize K j = k at *
      generalize W bl j = y at *
      have b0 : (0 : Int) ≤ (j : Int) := by omega
      have b1 : (j : Int) < 64 := by omega
      go_wp2
      go_quiet (fail)
      have ck1 : (wr.drewN nq).cell? ⟨Kb, j, none⟩ = some (.int .u32 k) := ck
      have cw1 : (wr.drewN nq).cell? ⟨Wb, j, none⟩ = some (.int .u32 y) := cw
      have q3 : (wr.drewN nq).cell? ⟨Vb, 3, none⟩ = some (.int .u32 x.d) := p3
      have q7 : (wr.drewN nq).cell? ⟨Vb, 7, none⟩ = some (.int .u32 x.h) := p7
      have hv1 : (wr.drewN nq).heap[Vb]? = some (.cells (v8Cells x) 56 (0, 0)) := hv
      have hT1 : TS w v bl Wb Kb (wr.drewN nq) := hT.same rfl rfl rfl rfl
      clear ck cw p0 p1 p2 p3 p4 p5 p6 p7 hv hT
      generalize wr.drewN nq = w1 at *
      go_wp2
      go_quiet (first | (go_at_call 42; exact Calls.quiet_of (refTurn_int _ _ (by decide) (by decide) _)))
      have q31 : (w1.drewN nq).cell? ⟨Vb, 3, none⟩ = some (.int .u32 x.d) := q3
      have hv2 : (w1.drewN nq).heap[Vb]? = some (.cells (v8Cells x) 56 (0, 0)) := hv1
      have hT2 : TS w v bl Wb Kb (w1.drewN nq) := hT1.same rfl rfl rfl rfl
      clear ck1 cw1 q3 q7 hv1 hT1
      generalize w1.drewN nq = w2' at *
      go_wp2_with (first | (go_at_call 42; refine (refTurn_int _ _ (by decide) (by decide) _).mono ?_; rintro e w4 ⟨rfl, m4, rfl⟩) | refine wpList_store_v8 rfl _ _ rfl Vb _ _ _ _ _ _ _ _ rfl rfl x (by exact hv2) ?_)
      go_roundw
      case rel =>
        refine ⟨j + 1, _, by omega, by go_num, ?_, ((hT2.setRow Vb _ hV1 hV2 hV3).same rfl rfl rfl rfl), setRow_heap _ _ _ _ 56 (0, 0) (by exact hv2)⟩
        rw [← HX.out]
        simp only [stepV, tOf, uOf, Int.emod_add_emod, Int.add_emod_emod]
      case measure => simp [intOf]; omega
    · obtain rfl : j = 64 := by omega
      rw [show (((64 : Nat) : Int)) = (64 : Int) from rfl]
      have HX : Hid (x = rounds (W bl) 64 v) := hx
      have hl0 : wr.heap[w.heap.size]? = some (.cells ((addTo v x 0).map word).toArray 56 (0, 0)) := hT.fl
      have hr0 := hT.fr
      have hb0 := hT.below
      clear hx hT
      go_wp2
      go_loopw [17] (fun i wq => ∃ j : Nat, j ≤ 8 ∧ i = .int .i64 j ∧ wq.heap[w.heap.size]? = some (.cells ((addTo v x j).map word).toArray 56 (0, 0)) ∧ wq.heap[w.heap.size + 1]? = some (.cells zeros8 56 (0, 0)) ∧ wq.heap[Vb]? = some (.cells (v8Cells x) 56 (0, 0)) ∧ Below w.heap.size w wq)
        (fun i _ => 8 - (intOf i).toNat)
      case atStart => exact ⟨0, by omega, rfl, hl0, hr0, hv, hb0⟩
      case round =>
        clear hl0 hr0 hv hb0
        obtain ⟨j, hj, rfl, hl1, hr1, hv1, hb1⟩ := hrel
        by_cases hlt : j < 8
        · have ch : wr.cell? ⟨w.heap.size, j, none⟩ = some (.int .u32 (v.list.getD j 0)) := by
            rw [cell_of_row _ _ j _ _ _ hl1]
            simp only [List.getElem?_toArray, List.getElem?_map, addTo_get v x j hlt]
            rfl
          have cx : wr.cell? ⟨Vb, j, none⟩ = some (.int .u32 (x.list.getD j 0)) := by
            rw [cell_of_row _ _ j _ _ _ hv1]
            simp only [v8Cells, List.getElem?_toArray, List.getElem?_map, List.getD_eq_getElem?_getD, List.getElem?_eq_getElem (show j < x.list.length from hlt)]
            rfl
          have hf := frozen_of_row wr _ j _ _ hl1
          have b0 : (0 : Int) ≤ (j : Int) := by omega
          have b1 : (j : Int) < 8 := by omega
          have R : Hid _ := take_put (w := w) hlt hl1 hr1 hv1 hb1 (by omega)
          clear hl1 hr1 hv1 hb1
          generalize v.list.getD j 0 = p at *
          generalize x.list.getD j 0 = q at *
          go_wp2
          go_region
          go_wp2
          go_roundw
          case rel => exact ⟨j + 1, by omega, by go_num, R.out.1, R.out.2.1, R.out.2.2.1, R.out.2.2.2.drew⟩
          case measure => simp [intOf]; omega
        · obtain rfl : j = 8 := by omega
          have hl8 : wr.heap[w.heap.size]? = some (.cells (v8Cells (addV v x)) 56 (0, 0)) := hl1
          go_wp2_with (first | refine wpList_load_row rfl 56 _ rfl _ rfl 56 _ (0, 0) _ hl8 Tryd.underlying56 rfl (v8_info _) ?_ | refine wpList_store_row rfl 56 _ _ rfl _ _ rfl rfl 56 _ hr1 (v8_info _) (v8_old _) (v8_one _) ?_)
          refine bodyPost_ret (results_cell_row Tryd.results33 _ _ (w.heap.size + 1) 56 _ (0, 0) _ rfl (setRow_heap wr _ _ _ 56 (0, 0) hr1) Tryd.underlying56 rfl (v8_info _)) rfl ⟨?_, ?_⟩
          · rw [takeV, HX.out]
          · exact below_gb hb1 (gb_setRow wr _ _) (by omega) hb1.size

end Go.Proofs.YtgpdmboeompncaaDoor

/-
  Port: the end of a job, and its result.
-/
import Derived.Test.YtepmhgkegfpmjaaPoEnd
namespace Go.Proofs.Ytepmhgkegfpmjaa
open Go.RowKit Go.Lib Go.Maps
section
variable {w w' : World} {X b : Nat} {op : Bool} {c N s st k c0 N0 : Int} {ids tx go i0 t0 : Value} {n d : ByteArray} {r : Nat → Prop} {I T : List ByteArray}
theorem r7_new (w : World) (c N : Int) (ids tx : Value) : R7 (w.alloc (.cells #[.int .i64 c, .string ⟨#[]⟩, .int .i64 N, ids, tx, .slice none 0 0, .slice none 0 0] 34)) w.heap.size c N ids tx := heap_alloc_new w _
set_option maxRecDepth 100000 in
set_option maxHeartbeats 3200000 in
theorem end_on (h : JB w b true st k n d go c0 N0 i0 t0 s) (hI : LS t1 1 r w ids I) (hT : LS t1 1 r w tx T) (hIl : I.length ≤ 1000000000000) (hTl : T.length ≤ 1000000000000) :
    Calls Try.prog 33 #[.pointer (some ⟨b, 0, none⟩), .agg #[.int .i64 c, .string ⟨#[]⟩, .int .i64 N, ids, tx, .slice none 0 0, .slice none 0 0]] w fun e w' => e = .returned (.tuple #[]) ∧ ∃ ids' tx', JB w' b false 0 0 ⟨#[]⟩ ⟨#[]⟩ .nilFunc c N ids' tx' s ∧ TS w.heap.size ids' I w' ∧ TS w.heap.size tx' T w' ∧ Gs (fun i => i = b) w w' := by
  obtain ⟨U, hU⟩ : ∃ U, U = w.alloc (.cells #[.int .i64 c, .string ⟨#[]⟩, .int .i64 N, ids, tx, .slice none 0 0, .slice none 0 0] 34) := ⟨_, rfl⟩
  obtain ⟨X, hX⟩ : ∃ X, X = w.heap.size := ⟨_, rfl⟩
  have hBU : Below w.heap.size w U := by rw [hU]; exact (Below.refl _ _).alloc (Nat.le_refl _) _
  have hR : R7 U X c N ids tx := by rw [hU, hX]; exact r7_new _ _ _ _ _
  have hJ := h.bel hBU
  have y0 : U.cell? ⟨X, 0, none⟩ = some (.int .i64 c) := hR.cell 0
  have y1 : U.cell? ⟨X, 1, none⟩ = some (.string ⟨#[]⟩) := hR.cell 1
  have y2 : U.cell? ⟨X, 2, none⟩ = some (.int .i64 N) := hR.cell 2
  have y3 : U.cell? ⟨X, 3, none⟩ = some ids := hR.cell 3
  have y4 : U.cell? ⟨X, 4, none⟩ = some tx := hR.cell 4
  have y5 : U.cell? ⟨X, 5, none⟩ = some (.slice none 0 0) := hR.cell 5
  have y6 : U.cell? ⟨X, 6, none⟩ = some (.slice none 0 0) := hR.cell 6
  have HA := hide (anew_any (c := c) (N := N) (hI.bel hBU) (hT.bel hBU) hIl hTl)
  have HU := hide hU
  have HX := hide hX
  have HB := hide hBU
  have HJ := hide hJ
  clear hI hT hBU hR hU hX h hJ
  go_enter Try.func33, Try.ntmps33
  go_upto_region 1 with fail
  rw [← HU.out, ← HX.out]
  go_wp2_with (go_at_call 45; refine (isOpen_any HJ.out).mono ?_; rintro e w1 ⟨rfl, rfl⟩)
  refine HA.out.mono ?_
  rintro e w2 ⟨ids', tx', rfl, hT1, hT2, hB2⟩
  have hJ2 := HJ.out.bel hB2
  have hrun := store_run (t := 81) (o := 0) hJ2 #[.bool false, .int .i64 0, .int .i64 0, .string ⟨#[]⟩, .string ⟨#[]⟩, .nilFunc, .int .i64 c, .string ⟨#[]⟩, .int .i64 N, ids', tx', .slice none 0 0, .slice none 0 0] (Nat.le_of_ble_eq_true rfl) Try.sizeIO (by obtain ⟨a, c, e⟩ := hT1.shp; obtain ⟨a', c', e'⟩ := hT2.shp; rw [e, e']; simp [Value.oneCell'])
  obtain ⟨Y, hY⟩ : ∃ Y, Y = w2.setCells b 0 [.bool false, .int .i64 0, .int .i64 0, .string ⟨#[]⟩, .string ⟨#[]⟩, .nilFunc, .int .i64 c, .string ⟨#[]⟩, .int .i64 N, ids', tx', .slice none 0 0, .slice none 0 0] := ⟨_, rfl⟩
  have hJY : JB Y b false 0 0 ⟨#[]⟩ ⟨#[]⟩ .nilFunc c N ids' tx' s := by
    have h1 := setCells_self [.bool false, .int .i64 0, .int .i64 0, .string ⟨#[]⟩, .string ⟨#[]⟩, .nilFunc, .int .i64 c, .string ⟨#[]⟩, .int .i64 N, ids', tx', .slice none 0 0, .slice none 0 0] 0 w2 _ hJ2
    rw [← hY] at h1
    simpa [putAll, JB] using h1
  simp only [] at hrun
  rw [← hY] at hrun
  have hGY : Gs (fun i => i = b) w Y := by rw [hY]; exact Gs.cells _ _ _ ((Gs.of_below _ HB.out).bel hB2) (.inl rfl)
  have hGY2 : Gs (fun i => i = b) w2 Y := by rw [hY]; exact Gs.cells _ _ _ (Gs.refl _ _) (.inl rfl)
  have HE : Hid (∃ ids' tx', JB Y b false 0 0 ⟨#[]⟩ ⟨#[]⟩ .nilFunc c N ids' tx' s ∧ TS w.heap.size ids' I Y ∧ TS w.heap.size tx' T Y ∧ Gs (fun i => i = b) w Y) := by
    have hb := HB.out.size
    have hbl := HJ.out.lt
    exact ⟨ids', tx', hJY, (hT1.kb fun i hi => hGY2.block i (hT1.lt i hi).2 (by have := (hT1.lt i hi).1; omega)).low hb, (hT2.kb fun i hi => hGY2.block i (hT2.lt i hi).2 (by have := (hT2.lt i hi).1; omega)).low hb, hGY⟩
  clear hY hJY hGY hGY2 hJ2 hB2 hT1 hT2
  go_wp2_with (refine wpList_store_run rfl 81 _ _ rfl _ _ rfl rfl hrun ?_)
  go_end0
  exact ⟨rfl, HE.out⟩
set_option maxRecDepth 100000 in
set_option maxHeartbeats 3200000 in
theorem end_off (h : JB w b false st k n d go c0 N0 i0 t0 s) (x0 x1 x2 x3 x4 x5 x6 : Value) :
    Calls Try.prog 33 #[.pointer (some ⟨b, 0, none⟩), .agg #[x0, x1, x2, x3, x4, x5, x6]] w fun e w' => e = .returned (.tuple #[]) ∧ Below w.heap.size w w' := by
  have hJ := h.bel ((Below.refl w.heap.size w).alloc (Nat.le_refl _) (.cells #[x0, x1, x2, x3, x4, x5, x6] 34))
  have HJ := hide hJ
  clear h hJ
  go_enter Try.func33, Try.ntmps33
  go_upto_region 1 with fail
  go_wp2_with (go_at_call 45; refine (isOpen_any HJ.out).mono ?_; rintro e w1 ⟨rfl, rfl⟩)
  go_end0
  exact ⟨rfl, (Below.refl _ _).alloc (Nat.le_refl _) _⟩
set_option maxRecDepth 100000 in
set_option maxHeartbeats 3200000 in
theorem result_any (h : JB w b op st k n d go c N ids tx s) (hI : LS t1 1 r w ids I) (hT : LS t1 1 r w tx T) (hIl : I.length ≤ 1000000000000) (hTl : T.length ≤ 1000000000000) :
    Calls Try.prog 14 #[.pointer (some ⟨b, 0, none⟩)] w fun e w' => ∃ ids' tx', e = .returned (.agg #[.int .i64 c, .string ⟨#[]⟩, .int .i64 N, ids', tx', .slice none 0 0, .slice none 0 0]) ∧ TS w.heap.size ids' I w' ∧ TS w.heap.size tx' T w' ∧ Below w.heap.size w w' := by
  obtain ⟨U, hU⟩ : ∃ U, U = w.alloc (.cells #[.int .i64 0, .string ⟨#[]⟩, .int .i64 0, .slice none 0 0, .slice none 0 0, .slice none 0 0, .slice none 0 0] 34) := ⟨_, rfl⟩
  obtain ⟨X, hX⟩ : ∃ X, X = w.heap.size := ⟨_, rfl⟩
  have hBU : Below w.heap.size w U := by rw [hU]; exact (Below.refl _ _).alloc (Nat.le_refl _) _
  have hZ : R7 U X 0 0 (.slice none 0 0) (.slice none 0 0) := by rw [hU, hX]; exact r7_new _ _ _ _ _
  have hJ := h.bel hBU
  have y0 : U.cell? ⟨b, 6, none⟩ = some (.int .i64 c) := hJ.cell 6
  have y1 : U.cell? ⟨b, 7, none⟩ = some (.string ⟨#[]⟩) := hJ.cell 7
  have y2 : U.cell? ⟨b, 8, none⟩ = some (.int .i64 N) := hJ.cell 8
  have y3 : U.cell? ⟨b, 9, none⟩ = some ids := hJ.cell 9
  have y4 : U.cell? ⟨b, 10, none⟩ = some tx := hJ.cell 10
  have y5 : U.cell? ⟨b, 11, none⟩ = some (.slice none 0 0) := hJ.cell 11
  have y6 : U.cell? ⟨b, 12, none⟩ = some (.slice none 0 0) := hJ.cell 12
  have hszU : U.heap.size = X + 1 := by rw [hU, hX]; simp
  have HA := hide (anew_any (c := c) (N := N) (hI.bel hBU) (hT.bel hBU) hIl hTl)
  have HU := hide hU
  have HX := hide hX
  have HB := hide hBU
  have HZ := hide hZ
  have HS := hide hszU
  clear hI hT hBU hZ hU hX h hJ hszU
  go_enter Try.func14, Try.ntmps14
  go_upto_region 1 with fail
  rw [← HU.out, ← HX.out]
  go_wp2_with fail
  refine HA.out.mono ?_
  rintro e w2 ⟨ids', tx', rfl, hT1, hT2, hB2⟩
  have hZ2 := HZ.out.bel hB2
  have hrun := store_run (t := 34) (o := 0) hZ2 #[.int .i64 c, .string ⟨#[]⟩, .int .i64 N, ids', tx', .slice none 0 0, .slice none 0 0] (Nat.le_of_ble_eq_true rfl) Try.sizeR (by obtain ⟨a, c, e⟩ := hT1.shp; obtain ⟨a', c', e'⟩ := hT2.shp; rw [e, e']; simp [Value.oneCell'])
  obtain ⟨Y, hY⟩ : ∃ Y, Y = w2.setCells X 0 [.int .i64 c, .string ⟨#[]⟩, .int .i64 N, ids', tx', .slice none 0 0, .slice none 0 0] := ⟨_, rfl⟩
  have hRY : R7 Y X c N ids' tx' := by
    have h1 := setCells_self [.int .i64 c, .string ⟨#[]⟩, .int .i64 N, ids', tx', .slice none 0 0, .slice none 0 0] 0 w2 _ hZ2
    rw [← hY] at h1
    simpa [putAll, R7] using h1
  simp only [] at hrun
  rw [← hY] at hrun
  have hGY2 : Gs (fun i => i = X) w2 Y := by rw [hY]; exact Gs.cells _ _ _ (Gs.refl _ _) (.inl rfl)
  have HE : Hid (∃ jds ty, Ending.returned (.agg #[.int .i64 c, .string ⟨#[]⟩, .int .i64 N, ids', tx', .slice none 0 0, .slice none 0 0]) = Ending.returned (.agg #[.int .i64 c, .string ⟨#[]⟩, .int .i64 N, jds, ty, .slice none 0 0, .slice none 0 0]) ∧ TS w.heap.size jds I Y ∧ TS w.heap.size ty T Y ∧ Below w.heap.size w Y) := by
    have hx := HX.out
    have hs := HS.out
    have hb2 := hB2.size
    refine ⟨ids', tx', rfl, (hT1.kb fun i hi => hGY2.block i (hT1.lt i hi).2 (by have := (hT1.lt i hi).1; omega)).low (by omega), (hT2.kb fun i hi => hGY2.block i (hT2.lt i hi).2 (by have := (hT2.lt i hi).1; omega)).low (by omega), ?_⟩
    exact hGY2.below (HB.out.trans (hB2.mono (by omega))) (by omega) (fun i e => by omega)
  have r0 : Y.cell? ⟨X, 0, none⟩ = some (.int .i64 c) := hRY.cell 0
  have r1 : Y.cell? ⟨X, 1, none⟩ = some (.string ⟨#[]⟩) := hRY.cell 1
  have r2 : Y.cell? ⟨X, 2, none⟩ = some (.int .i64 N) := hRY.cell 2
  have r3 : Y.cell? ⟨X, 3, none⟩ = some ids' := hRY.cell 3
  have r4 : Y.cell? ⟨X, 4, none⟩ = some tx' := hRY.cell 4
  have r5 : Y.cell? ⟨X, 5, none⟩ = some (.slice none 0 0) := hRY.cell 5
  have r6 : Y.cell? ⟨X, 6, none⟩ = some (.slice none 0 0) := hRY.cell 6
  clear hY hRY hGY2 hZ2 hB2 hT1 hT2
  go_wp2_with (refine wpList_store_run rfl 34 _ _ rfl _ _ rfl rfl hrun ?_)
  exact bodyPost_ret (v := .agg #[.int .i64 c, .string ⟨#[]⟩, .int .i64 N, ids', tx', .slice none 0 0, .slice none 0 0]) (by simp [results, Try.results14, go_sem, r0, r1, r2, r3, r4, r5, r6]) rfl HE.out
end
end Go.Proofs.Ytepmhgkegfpmjaa

/-
  Port: results: in memory of their own; the end of a job.
-/
import Derived.Test.YtepmhgkegfpmjaaPoClone
namespace Go.Proofs.Ytepmhgkegfpmjaa
open Go.RowKit Go.Lib Go.Maps
theorem Try.sizeTs : (Try.prog.info? 30).map (·.size) = some 1 := by kernel_rfl
theorem Try.sizeR : (Try.prog.info? 34).map (·.size) = some 7 := by kernel_rfl
/-- A result at a block. -/
def R7 (w : World) (X : Nat) (c N : Int) (ids tx : Value) : Prop := w.heap[X]? = some (.cells #[.int .i64 c, .string ⟨#[]⟩, .int .i64 N, ids, tx, .slice none 0 0, .slice none 0 0] 34 (0, 0))
section
variable {w w' : World} {X b : Nat} {c N s st k : Int} {ids tx go : Value} {n d : ByteArray} {r : Nat → Prop} {I T : List ByteArray}
theorem R7.lt (h : R7 w X c N ids tx) : X < w.heap.size := lt_of_block h
theorem R7.cell (h : R7 w X c N ids tx) (j : Nat) : w.cell? ⟨X, j, none⟩ = (#[.int .i64 c, .string ⟨#[]⟩, .int .i64 N, ids, tx, .slice none 0 0, .slice none 0 0] : Array Value)[j]? := by
  rw [World.cell?]; simp only [show w.heap[X]? = _ from h]; rfl
theorem R7.free (h : R7 w X c N ids tx) (j : Nat) : w.frozen? ⟨X, j, none⟩ = false := by simp [World.frozen?, show w.heap[X]? = _ from h]
theorem R7.bel (h : R7 w X c N ids tx) (hb : Below w.heap.size w w') : R7 w' X c N ids tx := (hb.block X h.lt).trans h
theorem R7.gs {p : Nat → Prop} (h : R7 w X c N ids tx) (hb : Gs p w w') (hp : ¬ p X) : R7 w' X c N ids tx := (hb.block X h.lt hp).trans h
theorem TS.set {B j g : Nat} {u v : Value} {l : List ByteArray} (h : TS B v l w) (hg : ∀ i, v.ownBlock = some i → i ≠ g) : TS B v l (w.setCell ⟨g, j, none⟩ u) :=
  h.kb fun i hi => heap_setCell_other w ⟨g, j, none⟩ i u (hg i hi)

set_option maxRecDepth 100000 in
set_option maxHeartbeats 3200000 in
theorem anew_any (hI : LS t1 1 r w ids I) (hT : LS t1 1 r w tx T) (hIl : I.length ≤ 1000000000000) (hTl : T.length ≤ 1000000000000) :
    Calls Try.prog 35 #[.agg #[.int .i64 c, .string ⟨#[]⟩, .int .i64 N, ids, tx, .slice none 0 0, .slice none 0 0]] w fun e w' => ∃ ids' tx', e = .returned (.agg #[.int .i64 c, .string ⟨#[]⟩, .int .i64 N, ids', tx', .slice none 0 0, .slice none 0 0]) ∧ TS w.heap.size ids' I w' ∧ TS w.heap.size tx' T w' ∧ Below w.heap.size w w' := by
  obtain ⟨U, hU⟩ : ∃ U, U = (w.alloc (.cells #[.int .i64 c, .string ⟨#[]⟩, .int .i64 N, ids, tx, .slice none 0 0, .slice none 0 0] 34)).alloc (.cells #[.int .i64 0, .string ⟨#[]⟩, .int .i64 0, .slice none 0 0, .slice none 0 0, .slice none 0 0, .slice none 0 0] 34) := ⟨_, rfl⟩
  obtain ⟨X, hX⟩ : ∃ X, X = w.heap.size := ⟨_, rfl⟩
  have hBU : Below w.heap.size w U := by rw [hU]; exact ((Below.refl _ _).alloc (Nat.le_refl _) _).alloc (by simp) _
  have hR : R7 U X c N ids tx := by rw [hU, hX]; unfold R7; rw [Below.heap_alloc _ _ _ (by simp)]; exact heap_alloc_new w _
  have hZ : R7 U (X + 1) 0 0 (.slice none 0 0) (.slice none 0 0) := by
    rw [hU, hX]
    have := heap_alloc_new (w.alloc (.cells #[.int .i64 c, .string ⟨#[]⟩, .int .i64 N, ids, tx, .slice none 0 0, .slice none 0 0] 34)) (.cells #[.int .i64 0, .string ⟨#[]⟩, .int .i64 0, .slice none 0 0, .slice none 0 0, .slice none 0 0, .slice none 0 0] 34 (0, 0))
    simpa [R7] using this
  have hszU : U.heap.size = X + 2 := by rw [hU, hX]; simp
  have HU := hide hU
  have HX := hide hX
  have HB := hide hBU
  have y3 : U.cell? ⟨X, 3, none⟩ = some ids := hR.cell 3
  have HC1 := hide (cloneT (hI.bel hBU) hIl)
  have HT := hide (hT.old.bel hBU)
  have HR := hide hR
  have HZ := hide hZ
  have HS := hide hszU
  clear hI hT hBU hR hZ hU hX hszU
  go_enter Try.func35, Try.ntmps35
  go_upto_region 1 with fail
  rw [← HU.out, ← HX.out]
  go_wp2_with fail
  refine HC1.out.mono ?_
  rintro e w1 ⟨ids', rfl, hT1, hB1⟩
  have hR1 := HR.out.bel hB1
  have hZ1 := HZ.out.bel hB1
  have f3 := hR1.free 3
  have x3 : w1.cell? ⟨X, 3, none⟩ = some ids := hR1.cell 3
  have hR2 : R7 (w1.setCell ⟨X, 3, none⟩ ids') X c N ids' tx := heap_set_self hR1
  have x4 : (w1.setCell ⟨X, 3, none⟩ ids').cell? ⟨X, 4, none⟩ = some tx := hR2.cell 4
  obtain ⟨V, hV⟩ : ∃ V, V = w1.setCell ⟨X, 3, none⟩ ids' := ⟨_, rfl⟩
  have hsz := HS.out
  have hGV : Gs (fun i => i = X) U V := by rw [hV]; exact ((Gs.refl _ _).bel hB1).set1 _ _
  have hTV : TS U.heap.size ids' I V := by rw [hV]; exact hT1.set fun i hi => by have := (hT1.lt i hi).1; omega
  have hZV : R7 V (X + 1) 0 0 (.slice none 0 0) (.slice none 0 0) := HZ.out.gs hGV (by omega)
  have hs1 := store1_run (t := 30) hR1 (j := 3) (v := ids') (Nat.le_of_ble_eq_true rfl) Try.sizeTs (by obtain ⟨a, c, e⟩ := hT1.shp; exact ⟨a, _, c, e⟩)
  rw [← hV] at hR2 x4 hs1
  have HC2 := hide (cloneT (HT.out.gs hGV (fun i hi e => by have := hi.2; have := HX.out; omega)) hTl)
  have HF1 := hide (And.intro hGV (And.intro hTV (And.intro hZV hR2)))
  clear hGV hTV hZV hR2 hR1 hZ1 hB1 hT1 HC1 hsz
  clear hV
  go_wp2_with (refine wpList_store_run rfl 30 _ _ rfl _ _ rfl rfl hs1 ?_)
  refine HC2.out.mono ?_
  rintro e w2 ⟨tx', rfl, hT2, hB2⟩
  obtain ⟨hGV, hTV, hZV, hR2⟩ := HF1.out
  have hsz := HS.out
  have hR3 := hR2.bel hB2
  have f4 := hR3.free 4
  have x5 : w2.cell? ⟨X, 4, none⟩ = some tx := hR3.cell 4
  have hR4 : R7 (w2.setCell ⟨X, 4, none⟩ tx') X c N ids' tx' := heap_set_self hR3
  obtain ⟨V2, hV2⟩ : ∃ V2, V2 = w2.setCell ⟨X, 4, none⟩ tx' := ⟨_, rfl⟩
  have hVs := hGV.size
  have hG4 : Gs (fun i => i = X) U V2 := by rw [hV2]; exact (hGV.bel hB2).set1 _ _
  have hT4 : TS U.heap.size ids' I V2 := by rw [hV2]; exact (hTV.keep hB2).set fun i hi => by have := (hTV.lt i hi).1; omega
  have hT5 : TS U.heap.size tx' T V2 := by rw [hV2]; exact (hT2.low hVs).set fun i hi => by have := (hT2.lt i hi).1; omega
  have hZ4 : R7 V2 (X + 1) 0 0 (.slice none 0 0) (.slice none 0 0) := HZ.out.gs hG4 (by omega)
  have hs2 := store1_run (t := 30) hR3 (j := 4) (v := tx') (Nat.le_of_ble_eq_true rfl) Try.sizeTs (by obtain ⟨a, c, e⟩ := hT2.shp; exact ⟨a, _, c, e⟩)
  rw [← hV2] at hR4 hs2
  have e5 : V2.cell? ⟨X, 5, none⟩ = some (.slice none 0 0) := hR4.cell 5
  have e5f := hR4.free 5
  have hR5 : R7 (V2.setCell ⟨X, 5, none⟩ (.slice none 0 0)) X c N ids' tx' := heap_set_self hR4
  have e6 : (V2.setCell ⟨X, 5, none⟩ (.slice none 0 0)).cell? ⟨X, 6, none⟩ = some (.slice none 0 0) := hR5.cell 6
  have e6f := hR5.free 6
  have hR6 : R7 ((V2.setCell ⟨X, 5, none⟩ (.slice none 0 0)).setCell ⟨X, 6, none⟩ (.slice none 0 0)) X c N ids' tx' := heap_set_self hR5
  obtain ⟨V4, hV4⟩ : ∃ V4, V4 = (V2.setCell ⟨X, 5, none⟩ (.slice none 0 0)).setCell ⟨X, 6, none⟩ (.slice none 0 0) := ⟨_, rfl⟩
  rw [← hV4] at hR6
  have hG6 : Gs (fun i => i = X) U V4 := by rw [hV4]; exact (hG4.set1 _ _).set1 _ _
  have hT6 : TS U.heap.size ids' I V4 := by rw [hV4]; exact (hT4.set fun i hi => by have := (hT4.lt i hi).1; omega).set fun i hi => by have := (hT4.lt i hi).1; omega
  have hT7 : TS U.heap.size tx' T V4 := by rw [hV4]; exact (hT5.set fun i hi => by have := (hT5.lt i hi).1; omega).set fun i hi => by have := (hT5.lt i hi).1; omega
  have hZ6 : R7 V4 (X + 1) 0 0 (.slice none 0 0) (.slice none 0 0) := HZ.out.gs hG6 (by omega)
  have c0 : V4.cell? ⟨X, 0, none⟩ = some (.int .i64 c) := hR6.cell 0
  have c1 : V4.cell? ⟨X, 1, none⟩ = some (.string ⟨#[]⟩) := hR6.cell 1
  have c2 : V4.cell? ⟨X, 2, none⟩ = some (.int .i64 N) := hR6.cell 2
  have c3 : V4.cell? ⟨X, 3, none⟩ = some ids' := hR6.cell 3
  have c4 : V4.cell? ⟨X, 4, none⟩ = some tx' := hR6.cell 4
  have c5 : V4.cell? ⟨X, 5, none⟩ = some (.slice none 0 0) := hR6.cell 5
  have c6 : V4.cell? ⟨X, 6, none⟩ = some (.slice none 0 0) := hR6.cell 6
  obtain ⟨ai, ci, hei⟩ := hT6.shp
  obtain ⟨at_, ct, het⟩ := hT7.shp
  have hrun := store_run (t := 34) (o := 0) hZ6 #[.int .i64 c, .string ⟨#[]⟩, .int .i64 N, ids', tx', .slice none 0 0, .slice none 0 0] (Nat.le_of_ble_eq_true rfl) Try.sizeR (by rw [hei, het]; simp [Value.oneCell'])
  obtain ⟨Y, hY⟩ : ∃ Y, Y = V4.setCells (X + 1) 0 [.int .i64 c, .string ⟨#[]⟩, .int .i64 N, ids', tx', .slice none 0 0, .slice none 0 0] := ⟨_, rfl⟩
  have hRY : R7 Y (X + 1) c N ids' tx' := by
    have h0 : V4.heap[X + 1]? = some (.cells #[.int .i64 0, .string ⟨#[]⟩, .int .i64 0, .slice none 0 0, .slice none 0 0, .slice none 0 0, .slice none 0 0] 34 (0, 0)) := hZ6
    have h1 := setCells_self [.int .i64 c, .string ⟨#[]⟩, .int .i64 N, ids', tx', .slice none 0 0, .slice none 0 0] 0 V4 _ h0
    rw [← hY] at h1
    simpa [putAll, R7] using h1
  simp only [] at hrun
  rw [← hY] at hrun
  have hGY : Gs (fun i => i = X + 1) V4 Y := by rw [hY]; exact Gs.cells _ _ _ (Gs.refl _ _) (.inl rfl)
  have HE : Hid (∃ jds ty, Ending.returned (.agg #[.int .i64 c, .string ⟨#[]⟩, .int .i64 N, ids', tx', .slice none 0 0, .slice none 0 0]) = Ending.returned (.agg #[.int .i64 c, .string ⟨#[]⟩, .int .i64 N, jds, ty, .slice none 0 0, .slice none 0 0]) ∧ TS w.heap.size jds I Y ∧ TS w.heap.size ty T Y ∧ Below w.heap.size w Y) := by
    have hxw := HX.out
    refine ⟨ids', tx', rfl, ((hT6.kb fun i hi => hGY.block i (hT6.lt i hi).2 (by have := (hT6.lt i hi).1; omega)).low (by omega)), ((hT7.kb fun i hi => hGY.block i (hT7.lt i hi).2 (by have := (hT7.lt i hi).1; omega)).low (by omega)), ?_⟩
    exact hGY.below (hG6.below HB.out (by omega) (fun i e => by omega)) (by have := hG6.size; omega) (fun i e => by omega)
  have r0 : Y.cell? ⟨X + 1, 0, none⟩ = some (.int .i64 c) := hRY.cell 0
  have r1 : Y.cell? ⟨X + 1, 1, none⟩ = some (.string ⟨#[]⟩) := hRY.cell 1
  have r2 : Y.cell? ⟨X + 1, 2, none⟩ = some (.int .i64 N) := hRY.cell 2
  have r3 : Y.cell? ⟨X + 1, 3, none⟩ = some ids' := hRY.cell 3
  have r4 : Y.cell? ⟨X + 1, 4, none⟩ = some tx' := hRY.cell 4
  have r5 : Y.cell? ⟨X + 1, 5, none⟩ = some (.slice none 0 0) := hRY.cell 5
  have r6 : Y.cell? ⟨X + 1, 6, none⟩ = some (.slice none 0 0) := hRY.cell 6
  have HV2 := hide hV2
  have HV4 := hide hV4
  have HEI := hide hei
  have HET := hide het
  clear hV2 hV4 hY hGV hTV hZV hR2 hR3 hR4 hR5 hR6 hG4 hT4 hT5 hZ4 hG6 hT6 hT7 hZ6 hRY hGY hB2 hT2 hei het HF1 HC2 hVs hsz
  go_wp2_with (first | (go_at_call 50; refine cloneE.mono ?_; rintro e w3 ⟨rfl, rfl⟩) | (go_at_call 51; refine cloneS.mono ?_; rintro e w3 ⟨rfl, rfl⟩) | (refine wpList_store_run rfl 30 _ _ rfl _ _ rfl rfl hs2 ?_))
  rw [← HV4.out]
  refine wp_loop_rounds 1 ?_
  rw [rounds_succ]
  go_wp2_with (refine wpList_store_run rfl 34 _ _ rfl _ _ rfl rfl hrun ?_)
  exact bodyPost_ret (v := .agg #[.int .i64 c, .string ⟨#[]⟩, .int .i64 N, ids', tx', .slice none 0 0, .slice none 0 0]) (by simp [results, Try.results35, go_sem, r0, r1, r2, r3, r4, r5, r6]) rfl HE.out
end
end Go.Proofs.Ytepmhgkegfpmjaa

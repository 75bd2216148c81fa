/-
  Port: the document's list: Over, Result; the same results.
-/
import Derived.Test.YtepmhgkegfpmjaaPoDoc
import Derived.BigQuiet
namespace Go.Proofs.Ytepmhgkegfpmjaa
open Go.RowKit Go.Lib Go.Maps
section
variable {w w' : World} {kb : Nat} {ids tx : Value} {t C N : Int} {ln : Nat} {a : Option Addr} {cp : Nat}
set_option maxRecDepth 100000 in
set_option maxHeartbeats 1600000 in
theorem kover (hK : KB w kb (.slice a ln cp) t C N ids tx) :
    Calls Try.prog 36 #[.pointer (some ⟨kb, 0, none⟩)] w fun e w' => e = .returned (.bool (decide ((ln : Int) ≤ t))) ∧ Below w.heap.size w w' := by
  have y0 : w.cell? ⟨kb, 0, none⟩ = some (.slice a ln cp) := hK.cell 0
  have y1 : w.cell? ⟨kb, 1, none⟩ = some (.int .i64 t) := hK.cell 1
  clear hK
  go_enter Try.func36, Try.ntmps36
  go_upto_region 1 with fail
  go_region
  go_wp2
  go_ret
  exact ⟨rfl, (Below.refl _ _).drew⟩
set_option maxRecDepth 100000 in
set_option maxHeartbeats 1600000 in
theorem kresult (hK : KB w kb (.slice a ln cp) t C N ids tx) (hi : ∃ a n c, ids = .slice a n c) (ht : ∃ a n c, tx = .slice a n c) :
    Calls Try.prog 15 #[.pointer (some ⟨kb, 0, none⟩)] w fun e w' => e = .returned (if (ln : Int) ≤ t then .agg #[.int .i64 C, .string ⟨#[]⟩, .int .i64 N, ids, tx, .slice none 0 0, .slice none 0 0] else .agg #[.int .i64 0, .string ⟨#[]⟩, .int .i64 0, .slice none 0 0, .slice none 0 0, .slice none 0 0, .slice none 0 0]) ∧ Below w.heap.size w w' := by
  obtain ⟨ai, ni, ci, rfl⟩ := hi
  obtain ⟨at_, nt, ct, rfl⟩ := ht
  obtain ⟨U, hU⟩ : ∃ U, U = w.alloc (.cells #[.int .i64 0, .string ⟨#[]⟩, .int .i64 0, .slice none 0 0, .slice none 0 0, .slice none 0 0, .slice none 0 0] 34) := ⟨_, rfl⟩
  have hBU : Below w.heap.size w U := by rw [hU]; exact (Below.refl _ _).alloc (Nat.le_refl _) _
  obtain ⟨X, hX⟩ : ∃ X, X = w.heap.size := ⟨_, rfl⟩
  have hZ : R7 U X 0 0 (.slice none 0 0) (.slice none 0 0) := by rw [hU, hX]; exact r7_new _ _ _ _ _
  have hKU := hK.bel hBU hK.lt
  have HO := hide (kover hKU)
  have HU := hide hU
  have HX := hide hX
  have HF := hide (And.intro hBU (And.intro hZ hKU))
  clear hBU hZ hKU hU hX hK
  by_cases hle : (ln : Int) ≤ t
  · rw [decide_eq_true hle] at HO
    rw [if_pos hle]
    go_enter Try.func15, Try.ntmps15
    go_upto_region 1 with fail
    rw [← HU.out, ← HX.out]
    go_wp2_with fail
    refine HO.out.mono ?_
    rintro e w1 ⟨rfl, hB1⟩
    obtain ⟨hBU, hZ, hKU⟩ := HF.out
    have hK1 := hKU.bel hB1 hKU.lt
    have hZ1 := hZ.bel hB1
    have y2 : w1.cell? ⟨kb, 2, none⟩ = some (.int .i64 C) := hK1.cell 2
    have y3 : w1.cell? ⟨kb, 3, none⟩ = some (.string ⟨#[]⟩) := hK1.cell 3
    have y4 : w1.cell? ⟨kb, 4, none⟩ = some (.int .i64 N) := hK1.cell 4
    have y5 : w1.cell? ⟨kb, 5, none⟩ = some (.slice ai ni ci) := hK1.cell 5
    have y6 : w1.cell? ⟨kb, 6, none⟩ = some (.slice at_ nt ct) := hK1.cell 6
    have y7 : w1.cell? ⟨kb, 7, none⟩ = some (.slice none 0 0) := hK1.cell 7
    have y8 : w1.cell? ⟨kb, 8, none⟩ = some (.slice none 0 0) := hK1.cell 8
    have hrun := store_run (t := 34) (o := 0) hZ1 #[.int .i64 C, .string ⟨#[]⟩, .int .i64 N, .slice ai ni ci, .slice at_ nt ct, .slice none 0 0, .slice none 0 0] (Nat.le_of_ble_eq_true rfl) Try.sizeR (by simp [Value.oneCell'])
    obtain ⟨Y, hY⟩ : ∃ Y, Y = w1.setCells X 0 [.int .i64 C, .string ⟨#[]⟩, .int .i64 N, .slice ai ni ci, .slice at_ nt ct, .slice none 0 0, .slice none 0 0] := ⟨_, rfl⟩
    have hRY : R7 Y X C N (.slice ai ni ci) (.slice at_ nt ct) := by
      have h1 := setCells_self [.int .i64 C, .string ⟨#[]⟩, .int .i64 N, .slice ai ni ci, .slice at_ nt ct, .slice none 0 0, .slice none 0 0] 0 w1 _ hZ1
      rw [← hY] at h1
      simpa [putAll, R7] using h1
    simp only [] at hrun
    rw [← hY] at hrun
    have HE : Hid (Below w.heap.size w Y) := by
      have hx := HX.out
      have hs := hBU.size
      have hG : Gs (fun i => i = X) w1 Y := by rw [hY]; exact Gs.cells _ _ _ (Gs.refl _ _) (.inl rfl)
      exact hG.below (hBU.trans (hB1.mono hs)) (by have := hB1.size; omega) (fun i e => by omega)
    have r0 : Y.cell? ⟨X, 0, none⟩ = some (.int .i64 C) := hRY.cell 0
    have r1 : Y.cell? ⟨X, 1, none⟩ = some (.string ⟨#[]⟩) := hRY.cell 1
    have r2 : Y.cell? ⟨X, 2, none⟩ = some (.int .i64 N) := hRY.cell 2
    have r3 : Y.cell? ⟨X, 3, none⟩ = some (.slice ai ni ci) := hRY.cell 3
    have r4 : Y.cell? ⟨X, 4, none⟩ = some (.slice at_ nt ct) := hRY.cell 4
    have r5 : Y.cell? ⟨X, 5, none⟩ = some (.slice none 0 0) := hRY.cell 5
    have r6 : Y.cell? ⟨X, 6, none⟩ = some (.slice none 0 0) := hRY.cell 6
    clear hBU hZ hKU hK1 hZ1 hY hRY hB1
    go_wp2_with (refine wpList_store_run rfl 34 _ _ rfl _ _ rfl rfl hrun ?_)
    exact bodyPost_ret (v := .agg #[.int .i64 C, .string ⟨#[]⟩, .int .i64 N, .slice ai ni ci, .slice at_ nt ct, .slice none 0 0, .slice none 0 0]) (by simp [results, Try.results15, go_sem, r0, r1, r2, r3, r4, r5, r6]) rfl ⟨rfl, HE.out⟩
  · rw [decide_eq_false hle] at HO
    rw [if_neg hle]
    go_enter Try.func15, Try.ntmps15
    go_upto_region 1 with fail
    rw [← HU.out, ← HX.out]
    go_wp2_with fail
    refine HO.out.mono ?_
    rintro e w1 ⟨rfl, hB1⟩
    obtain ⟨hBU, hZ, hKU⟩ := HF.out
    have hZ1 := hZ.bel hB1
    have hrun := store_run (t := 34) (o := 0) hZ1 #[.int .i64 0, .string ⟨#[]⟩, .int .i64 0, .slice none 0 0, .slice none 0 0, .slice none 0 0, .slice none 0 0] (Nat.le_of_ble_eq_true rfl) Try.sizeR (by simp [Value.oneCell'])
    obtain ⟨Y, hY⟩ : ∃ Y, Y = w1.setCells X 0 [.int .i64 0, .string ⟨#[]⟩, .int .i64 0, .slice none 0 0, .slice none 0 0, .slice none 0 0, .slice none 0 0] := ⟨_, rfl⟩
    have hRY : R7 Y X 0 0 (.slice none 0 0) (.slice none 0 0) := by
      have h1 := setCells_self [.int .i64 0, .string ⟨#[]⟩, .int .i64 0, .slice none 0 0, .slice none 0 0, .slice none 0 0, .slice none 0 0] 0 w1 _ hZ1
      rw [← hY] at h1
      simpa [putAll, R7] using h1
    simp only [] at hrun
    rw [← hY] at hrun
    have HE : Hid (Below w.heap.size w Y) := by
      have hx := HX.out
      have hs := hBU.size
      have hG : Gs (fun i => i = X) w1 Y := by rw [hY]; exact Gs.cells _ _ _ (Gs.refl _ _) (.inl rfl)
      exact hG.below (hBU.trans (hB1.mono hs)) (by have := hB1.size; omega) (fun i e => by omega)
    have r0 : Y.cell? ⟨X, 0, none⟩ = some (.int .i64 0) := hRY.cell 0
    have r1 : Y.cell? ⟨X, 1, none⟩ = some (.string ⟨#[]⟩) := hRY.cell 1
    have r2 : Y.cell? ⟨X, 2, none⟩ = some (.int .i64 0) := hRY.cell 2
    have r3 : Y.cell? ⟨X, 3, none⟩ = some (.slice none 0 0) := hRY.cell 3
    have r4 : Y.cell? ⟨X, 4, none⟩ = some (.slice none 0 0) := hRY.cell 4
    have r5 : Y.cell? ⟨X, 5, none⟩ = some (.slice none 0 0) := hRY.cell 5
    have r6 : Y.cell? ⟨X, 6, none⟩ = some (.slice none 0 0) := hRY.cell 6
    clear hBU hZ hKU hZ1 hY hRY hB1
    go_wp2_with (refine wpList_store_run rfl 34 _ _ rfl _ _ rfl rfl hrun ?_)
    exact bodyPost_ret (v := .agg #[.int .i64 0, .string ⟨#[]⟩, .int .i64 0, .slice none 0 0, .slice none 0 0, .slice none 0 0, .slice none 0 0]) (by simp [results, Try.results15, go_sem, r0, r1, r2, r3, r4, r5, r6]) rfl ⟨rfl, HE.out⟩
end
set_option maxRecDepth 100000 in
set_option maxHeartbeats 3200000 in
theorem same_res {w : World} {c N : Int} {i1 t1v i2 t2 : Value} {I T : List ByteArray} (h1 : TR w i1 I) (h2 : TR w t1v T) (h3 : TR w i2 I) (h4 : TR w t2 T) (hI : I.length ≤ 1000000000) (hT : T.length ≤ 1000000000) :
    Calls Try.prog 13 #[.agg #[.int .i64 c, .string ⟨#[]⟩, .int .i64 N, i1, t1v, .slice none 0 0, .slice none 0 0], .agg #[.int .i64 c, .string ⟨#[]⟩, .int .i64 N, i2, t2, .slice none 0 0, .slice none 0 0]] w fun e w' => e = .returned (.bool true) ∧ Below w.heap.size w w' := by
  obtain ⟨U, hU⟩ : ∃ U, U = (w.alloc (.cells #[.int .i64 c, .string ⟨#[]⟩, .int .i64 N, i1, t1v, .slice none 0 0, .slice none 0 0] 34)).alloc (.cells #[.int .i64 c, .string ⟨#[]⟩, .int .i64 N, i2, t2, .slice none 0 0, .slice none 0 0] 34) := ⟨_, rfl⟩
  obtain ⟨X, hX⟩ : ∃ X, X = w.heap.size := ⟨_, rfl⟩
  have hBU : Below w.heap.size w U := by rw [hU]; exact ((Below.refl _ _).alloc (Nat.le_refl _) _).alloc (by simp) _
  have hA : R7 U X c N i1 t1v := by rw [hU, hX]; unfold R7; rw [Below.heap_alloc _ _ _ (by simp)]; exact heap_alloc_new w _
  have hB : R7 U (X + 1) c N i2 t2 := by
    rw [hU, hX]
    have := heap_alloc_new (w.alloc (.cells #[.int .i64 c, .string ⟨#[]⟩, .int .i64 N, i1, t1v, .slice none 0 0, .slice none 0 0] 34)) (.cells #[.int .i64 c, .string ⟨#[]⟩, .int .i64 N, i2, t2, .slice none 0 0, .slice none 0 0] 34 (0, 0))
    simpa [R7] using this
  have a0 : U.cell? ⟨X, 0, none⟩ = some (.int .i64 c) := hA.cell 0
  have a1 : U.cell? ⟨X, 1, none⟩ = some (.string ⟨#[]⟩) := hA.cell 1
  have a2 : U.cell? ⟨X, 2, none⟩ = some (.int .i64 N) := hA.cell 2
  have a3 : U.cell? ⟨X, 3, none⟩ = some i1 := hA.cell 3
  have b0 : U.cell? ⟨X + 1, 0, none⟩ = some (.int .i64 c) := hB.cell 0
  have b1 : U.cell? ⟨X + 1, 1, none⟩ = some (.string ⟨#[]⟩) := hB.cell 1
  have b2 : U.cell? ⟨X + 1, 2, none⟩ = some (.int .i64 N) := hB.cell 2
  have b3 : U.cell? ⟨X + 1, 3, none⟩ = some i2 := hB.cell 3
  have HS1 := hide (sameTexts_eq (h1.bel hBU) (h3.bel hBU) hI)
  have HF := hide (And.intro hBU (And.intro hA (And.intro hB (And.intro (h2.bel hBU) (h4.bel hBU)))))
  have HU := hide hU
  have HX := hide hX
  clear h1 h2 h3 h4 hBU hA hB hU hX
  go_enter Try.func13, Try.ntmps13
  go_upto_region 1 with fail
  rw [← HU.out, ← HX.out]
  go_wp2_with fail
  refine HS1.out.mono ?_
  rintro e w1 ⟨rfl, hB1⟩
  obtain ⟨hBU, hA, hB, h2, h4⟩ := HF.out
  have HS2 := hide (sameTexts_eq (h2.bel hB1) (h4.bel hB1) hT)
  have a4 : w1.cell? ⟨X, 4, none⟩ = some t1v := (hA.bel hB1).cell 4
  have b4 : w1.cell? ⟨X + 1, 4, none⟩ = some t2 := (hB.bel hB1).cell 4
  have HF2 := hide (And.intro (hBU.trans (hB1.mono hBU.size)) (And.intro (hA.bel hB1) (hB.bel hB1)))
  clear hBU hA hB h2 h4 hB1
  go_wp2_with fail
  refine HS2.out.mono ?_
  rintro e w2 ⟨rfl, hB2⟩
  obtain ⟨hBw, hA, hB⟩ := HF2.out
  have a5 : w2.cell? ⟨X, 5, none⟩ = some (.slice none 0 0) := (hA.bel hB2).cell 5
  have a6 : w2.cell? ⟨X, 6, none⟩ = some (.slice none 0 0) := (hA.bel hB2).cell 6
  have b5 : w2.cell? ⟨X + 1, 5, none⟩ = some (.slice none 0 0) := (hB.bel hB2).cell 5
  have b6 : w2.cell? ⟨X + 1, 6, none⟩ = some (.slice none 0 0) := (hB.bel hB2).cell 6
  have HE := hide (hBw.trans (hB2.mono hBw.size))
  clear hBw hA hB hB2
  go_wp2
  go_ret
  exact ⟨by simp, HE.out⟩
end Go.Proofs.Ytepmhgkegfpmjaa

/-
  Port: Give.
-/
import Derived.Test.YtepmhgkegfpmjaaPoTake
namespace Go.Proofs.Ytepmhgkegfpmjaa
open Go.RowKit Go.Lib Go.Maps
/-- A go is done: what the job's settling comes to. -/
def RDY (b : Nat) (Q : World → Prop) (w' : World) : Prop :=
  (∃ op st k n d fn fi ca c N ids tx s, JB w' b op st k n d (.func fn fi ca) c N ids tx s ∧ ∀ w2, JB w2 b true st k n d (.func fn fi ca) c N ids tx s → Gs (fun i => i = b) w' w2 → Q w2) ∨
  (∃ op st k n d c N ids tx s, JB w' b op st k n d .nilFunc c N ids tx s ∧ ∀ w2, JB w2 b false st k n d .nilFunc c N ids tx s → Gs (fun i => i = b) w' w2 → Q w2)
section
variable {r r0 p : Nat → Prop} {w w' : World} {b : Nat} {st k s c N cc : Int} {n d dd : ByteArray} {go ids tx u : Value} {op : Bool} {ll : List ByteArray}
theorem settle_rdy {Q : World → Prop} (h : RDY b Q w) : Calls Try.prog 38 #[.pointer (some ⟨b, 0, none⟩)] w fun e w' => e = .returned (.tuple #[]) ∧ Q w' := by
  rcases h with ⟨op, st, k, n, d, fn, fi, ca, c, N, ids, tx, s, hJ, h⟩ | ⟨op, st, k, n, d, c, N, ids, tx, s, hJ, h⟩
  · refine (settle_on hJ).mono ?_
    rintro e w2 ⟨rfl, hJ2, hG⟩
    exact ⟨rfl, h w2 hJ2 hG⟩
  · refine (settle_off hJ).mono ?_
    rintro e w2 ⟨rfl, hJ2, hG⟩
    exact ⟨rfl, h w2 hJ2 hG⟩
/-- What lies there as the answer is handed on. -/
structure GV (w V : World) (b : Nat) (c N : Int) (ids tx : Value) (s : Int) (u' : Value) (ll : List ByteArray) : Prop where
  j : JB V b true 0 0 ⟨#[]⟩ ⟨#[]⟩ .nilFunc c N ids tx (s + 1)
  u : TS w.heap.size u' ll V
  g : Gs (fun i => i = b) w V
set_option maxRecDepth 100000 in
set_option maxHeartbeats 1600000 in
theorem give_off (h : JB w b op st k n d .nilFunc c N ids tx s) (u : Value) (cc : Int) (dd : ByteArray) :
    Calls Try.prog 16 #[.pointer (some ⟨b, 0, none⟩), .agg #[.int .i64 cc, .string dd, u]] w fun e w' => e = .returned (.int .i64 310) ∧ Below w.heap.size w w' := by
  have hJ := h.bel ((Below.refl w.heap.size w).alloc (Nat.le_refl _) (.cells #[.int .i64 cc, .string dd, u] 45))
  have y5 : (w.alloc (.cells #[.int .i64 cc, .string dd, u] 45)).cell? ⟨b, 5, none⟩ = some .nilFunc := hJ.cell 5
  obtain ⟨g1, g2, g3, g4⟩ := fe47
  clear h hJ
  go_enter Try.func16, Try.ntmps16
  go_wp2
  go_ret
  exact ⟨rfl, (Below.refl _ _).alloc (Nat.le_refl _) _⟩
set_option maxRecDepth 100000 in
set_option maxHeartbeats 3200000 in
theorem give_all {a4 a5 : Nat} (hJ : JB w b op st k n d (.func (.func 49) #[] #[.pointer (some ⟨a4, 0, none⟩), .pointer (some ⟨a5, 0, none⟩)]) c N ids tx s) (hop : op = true) (hu : LS t1 1 r0 w u ll) (hr0 : ¬ r0 b) (hll : ll.length ≤ 1000000000000) (hs0 : 0 ≤ s) (hs1 : s ≤ 1000000000) (cc : Int) (dd : ByteArray) {Q : World → Prop}
    (HC : ∀ V u', GV w V b c N ids tx s u' ll → Calls Try.prog 49 #[.agg #[.int .i64 cc, .string dd, u'], .pointer (some ⟨a4, 0, none⟩), .pointer (some ⟨a5, 0, none⟩)] V fun e w' => e = .returned (.tuple #[]) ∧ RDY b Q w') :
    Calls Try.prog 16 #[.pointer (some ⟨b, 0, none⟩), .agg #[.int .i64 cc, .string dd, u]] w fun e w' => e = .returned (.int .i64 0) ∧ Q w' := by
  subst hop
  obtain ⟨U, hU⟩ : ∃ U, U = w.alloc (.cells #[.int .i64 cc, .string dd, u] 45) := ⟨_, rfl⟩
  obtain ⟨X5, hX5⟩ : ∃ X5, X5 = w.heap.size := ⟨_, rfl⟩
  have hBU : Below w.heap.size w U := by rw [hU]; exact (Below.refl _ _).alloc (Nat.le_refl _) _
  have hJU := hJ.bel hBU
  have hbl : b < X5 := by rw [hX5]; exact hJ.lt
  have hblk : U.heap[X5]? = some (.cells #[.int .i64 cc, .string dd, u] 45 (0, 0)) := by rw [hU, hX5]; exact heap_alloc_new w _
  have hszU : U.heap.size = X5 + 1 := by rw [hU, hX5]; simp
  have y5 : U.cell? ⟨b, 5, none⟩ = some (.func (.func 49) #[] #[.pointer (some ⟨a4, 0, none⟩), .pointer (some ⟨a5, 0, none⟩)]) := hJU.cell 5
  have hrun1 := store_run (t := 38) (o := 1) hJU #[.int .i64 0, .int .i64 0, .string ⟨#[]⟩, .string ⟨#[]⟩] (Nat.le_of_ble_eq_true rfl) Try.sizeQ (by simp [Value.oneCell'])
  obtain ⟨V1, hV1⟩ : ∃ V1, V1 = U.setCells b 1 [.int .i64 0, .int .i64 0, .string ⟨#[]⟩, .string ⟨#[]⟩] := ⟨_, rfl⟩
  have hJ1 : JB V1 b true 0 0 ⟨#[]⟩ ⟨#[]⟩ (.func (.func 49) #[] #[.pointer (some ⟨a4, 0, none⟩), .pointer (some ⟨a5, 0, none⟩)]) c N ids tx s := by
    have h1 := setCells_self [.int .i64 0, .int .i64 0, .string ⟨#[]⟩, .string ⟨#[]⟩] 1 U _ hJU
    rw [← hV1] at h1
    simpa [putAll, JB] using h1
  have hG1 : Gs (fun i => i = b) U V1 := by rw [hV1]; exact Gs.cells _ _ _ (Gs.refl _ _) (.inl rfl)
  simp only [] at hrun1
  rw [← hV1] at hrun1
  have x5 : V1.cell? ⟨b, 5, none⟩ = some (.func (.func 49) #[] #[.pointer (some ⟨a4, 0, none⟩), .pointer (some ⟨a5, 0, none⟩)]) := hJ1.cell 5
  have f5 := hJ1.free 5
  have hJ2 : JB (V1.setCell ⟨b, 5, none⟩ .nilFunc) b true 0 0 ⟨#[]⟩ ⟨#[]⟩ .nilFunc c N ids tx s := heap_set_self hJ1
  have x13 : (V1.setCell ⟨b, 5, none⟩ .nilFunc).cell? ⟨b, 13, none⟩ = some (.int .i64 s) := hJ2.cell 13
  have f13 := hJ2.free 13
  have hJ3 : JB ((V1.setCell ⟨b, 5, none⟩ .nilFunc).setCell ⟨b, 13, none⟩ (.int .i64 (s + 1))) b true 0 0 ⟨#[]⟩ ⟨#[]⟩ .nilFunc c N ids tx (s + 1) := heap_set_self hJ2
  obtain ⟨V3, hV3⟩ : ∃ V3, V3 = (V1.setCell ⟨b, 5, none⟩ .nilFunc).setCell ⟨b, 13, none⟩ (.int .i64 (s + 1)) := ⟨_, rfl⟩
  rw [← hV3] at hJ3
  have hG3 : Gs (fun i => i = b) U V3 := by rw [hV3]; exact (hG1.set1 _ _).set1 _ _
  have hblk3 : V3.heap[X5]? = some (.cells #[.int .i64 cc, .string dd, u] 45 (0, 0)) := (hG3.block X5 (by omega) (by omega)).trans hblk
  have z2 : ((V1.setCell ⟨b, 5, none⟩ .nilFunc).setCell ⟨b, 13, none⟩ (.int .i64 (s + 1))).cell? ⟨X5, 2, none⟩ = some u := by rw [← hV3]; simp [World.cell?, hblk3]
  have HC1 := hide (cloneT ((hu.old.bel hBU).gs hG3 (fun i hi e => hr0 (e ▸ hi.1))) hll)
  have HU := hide hU
  have HV3 := hide hV3
  have HX := hide hX5
  have HF := hide (And.intro hBU (And.intro hG3 (And.intro hblk3 (And.intro hJ3 (And.intro hszU hbl)))))
  have HCC := hide HC
  obtain ⟨g1, g2, g3, g4⟩ := fe47
  clear hu hJU hblk hszU hV1 hJ1 hG1 hJ2 hJ3 hV3 hG3 hblk3 hU hX5 hBU hJ HC hbl
  go_enter Try.func16, Try.ntmps16
  go_upto_region 1 with fail
  rw [← HU.out, ← HX.out]
  go_wp2_with (refine wpList_store_run rfl 38 _ _ rfl _ _ rfl rfl hrun1 ?_)
  rw [← HV3.out]
  refine HC1.out.mono ?_
  rintro e w4 ⟨u', rfl, hT4, hB4⟩
  obtain ⟨hBU, hG3, hblk3, hJ3, hszU, hbl⟩ := HF.out
  have hX := HX.out
  have hblk4 := (hB4.block X5 (lt_of_block hblk3)).trans hblk3
  have hs := store1_run (t := 30) hblk4 (j := 2) (v := u') (Nat.le_of_ble_eq_true rfl) Try.sizeTs (by obtain ⟨a, c, e⟩ := hT4.shp; exact ⟨a, _, c, e⟩)
  obtain ⟨V5, hV5⟩ : ∃ V5, V5 = w4.setCell ⟨X5, 2, none⟩ u' := ⟨_, rfl⟩
  rw [← hV5] at hs
  have hblk5 : V5.heap[X5]? = some (.cells #[.int .i64 cc, .string dd, u'] 45 (0, 0)) := by rw [hV5]; exact heap_set_self hblk4
  have k0 : V5.cell? ⟨X5, 0, none⟩ = some (.int .i64 cc) := by simp [World.cell?, hblk5]
  have k1 : V5.cell? ⟨X5, 1, none⟩ = some (.string dd) := by simp [World.cell?, hblk5]
  have k2 : V5.cell? ⟨X5, 2, none⟩ = some u' := by simp [World.cell?, hblk5]
  have h3s := hG3.size
  have hGV : GV w V5 b c N ids tx s u' ll := by
    refine ⟨?_, ?_, ?_⟩
    · rw [hV5]
      exact (heap_setCell_other w4 ⟨X5, 2, none⟩ b _ (by show b ≠ X5; omega)).trans (hJ3.bel hB4)
    · rw [hV5]
      exact (hT4.set fun i hi => by have := (hT4.lt i hi).1; omega).low (by omega)
    · rw [hV5]
      exact (((Gs.of_below _ hBU).trans hG3).bel hB4).set (a := ⟨X5, 2, none⟩) (.inr (by show w.heap.size ≤ X5; omega)) _
  have HG := hide (HCC.out V5 u' hGV)
  clear hblk3 hJ3 hszU hbl hX hblk4 hV5 hblk5 h3s hGV hB4 hT4 hG3 hBU
  go_wp2_with (refine wpList_store_run rfl 30 _ _ rfl _ _ rfl rfl hs ?_)
  refine HG.out.mono ?_
  rintro e w6 ⟨rfl, hR⟩
  have HS := hide (settle_rdy hR)
  clear hR
  go_wp2_with fail
  refine HS.out.mono ?_
  rintro e w7 ⟨rfl, hQ⟩
  have HQ := hide hQ
  clear hQ
  go_wp2
  go_ret
  exact ⟨rfl, HQ.out⟩
set_option maxRecDepth 100000 in
set_option maxHeartbeats 3200000 in
theorem give_one {kb : Nat} (hJ : JB w b op st k n d (.func (.func 57) #[.pointer (some ⟨kb, 0, none⟩)] #[]) c N ids tx s) (hop : op = true) (hu : LS t1 1 r0 w u ll) (hr0 : ¬ r0 b) (hll : ll.length ≤ 1000000000000) (hs0 : 0 ≤ s) (hs1 : s ≤ 1000000000) (cc : Int) (dd : ByteArray) {Q : World → Prop}
    (HC : ∀ V u', GV w V b c N ids tx s u' ll → Calls Try.prog 57 #[.pointer (some ⟨kb, 0, none⟩), .agg #[.int .i64 cc, .string dd, u']] V fun e w' => e = .returned (.tuple #[]) ∧ RDY b Q w') :
    Calls Try.prog 16 #[.pointer (some ⟨b, 0, none⟩), .agg #[.int .i64 cc, .string dd, u]] w fun e w' => e = .returned (.int .i64 0) ∧ Q w' := by
  subst hop
  obtain ⟨U, hU⟩ : ∃ U, U = w.alloc (.cells #[.int .i64 cc, .string dd, u] 45) := ⟨_, rfl⟩
  obtain ⟨X5, hX5⟩ : ∃ X5, X5 = w.heap.size := ⟨_, rfl⟩
  have hBU : Below w.heap.size w U := by rw [hU]; exact (Below.refl _ _).alloc (Nat.le_refl _) _
  have hJU := hJ.bel hBU
  have hbl : b < X5 := by rw [hX5]; exact hJ.lt
  have hblk : U.heap[X5]? = some (.cells #[.int .i64 cc, .string dd, u] 45 (0, 0)) := by rw [hU, hX5]; exact heap_alloc_new w _
  have hszU : U.heap.size = X5 + 1 := by rw [hU, hX5]; simp
  have y5 : U.cell? ⟨b, 5, none⟩ = some (.func (.func 57) #[.pointer (some ⟨kb, 0, none⟩)] #[]) := hJU.cell 5
  have hrun1 := store_run (t := 38) (o := 1) hJU #[.int .i64 0, .int .i64 0, .string ⟨#[]⟩, .string ⟨#[]⟩] (Nat.le_of_ble_eq_true rfl) Try.sizeQ (by simp [Value.oneCell'])
  obtain ⟨V1, hV1⟩ : ∃ V1, V1 = U.setCells b 1 [.int .i64 0, .int .i64 0, .string ⟨#[]⟩, .string ⟨#[]⟩] := ⟨_, rfl⟩
  have hJ1 : JB V1 b true 0 0 ⟨#[]⟩ ⟨#[]⟩ (.func (.func 57) #[.pointer (some ⟨kb, 0, none⟩)] #[]) c N ids tx s := by
    have h1 := setCells_self [.int .i64 0, .int .i64 0, .string ⟨#[]⟩, .string ⟨#[]⟩] 1 U _ hJU
    rw [← hV1] at h1
    simpa [putAll, JB] using h1
  have hG1 : Gs (fun i => i = b) U V1 := by rw [hV1]; exact Gs.cells _ _ _ (Gs.refl _ _) (.inl rfl)
  simp only [] at hrun1
  rw [← hV1] at hrun1
  have x5 : V1.cell? ⟨b, 5, none⟩ = some (.func (.func 57) #[.pointer (some ⟨kb, 0, none⟩)] #[]) := hJ1.cell 5
  have f5 := hJ1.free 5
  have hJ2 : JB (V1.setCell ⟨b, 5, none⟩ .nilFunc) b true 0 0 ⟨#[]⟩ ⟨#[]⟩ .nilFunc c N ids tx s := heap_set_self hJ1
  have x13 : (V1.setCell ⟨b, 5, none⟩ .nilFunc).cell? ⟨b, 13, none⟩ = some (.int .i64 s) := hJ2.cell 13
  have f13 := hJ2.free 13
  have hJ3 : JB ((V1.setCell ⟨b, 5, none⟩ .nilFunc).setCell ⟨b, 13, none⟩ (.int .i64 (s + 1))) b true 0 0 ⟨#[]⟩ ⟨#[]⟩ .nilFunc c N ids tx (s + 1) := heap_set_self hJ2
  obtain ⟨V3, hV3⟩ : ∃ V3, V3 = (V1.setCell ⟨b, 5, none⟩ .nilFunc).setCell ⟨b, 13, none⟩ (.int .i64 (s + 1)) := ⟨_, rfl⟩
  rw [← hV3] at hJ3
  have hG3 : Gs (fun i => i = b) U V3 := by rw [hV3]; exact (hG1.set1 _ _).set1 _ _
  have hblk3 : V3.heap[X5]? = some (.cells #[.int .i64 cc, .string dd, u] 45 (0, 0)) := (hG3.block X5 (by omega) (by omega)).trans hblk
  have z2 : ((V1.setCell ⟨b, 5, none⟩ .nilFunc).setCell ⟨b, 13, none⟩ (.int .i64 (s + 1))).cell? ⟨X5, 2, none⟩ = some u := by rw [← hV3]; simp [World.cell?, hblk3]
  have HC1 := hide (cloneT ((hu.old.bel hBU).gs hG3 (fun i hi e => hr0 (e ▸ hi.1))) hll)
  have HU := hide hU
  have HV3 := hide hV3
  have HX := hide hX5
  have HF := hide (And.intro hBU (And.intro hG3 (And.intro hblk3 (And.intro hJ3 (And.intro hszU hbl)))))
  have HCC := hide HC
  obtain ⟨g1, g2, g3, g4⟩ := fe47
  clear hu hJU hblk hszU hV1 hJ1 hG1 hJ2 hJ3 hV3 hG3 hblk3 hU hX5 hBU hJ HC hbl
  go_enter Try.func16, Try.ntmps16
  go_upto_region 1 with fail
  rw [← HU.out, ← HX.out]
  go_wp2_with (refine wpList_store_run rfl 38 _ _ rfl _ _ rfl rfl hrun1 ?_)
  rw [← HV3.out]
  refine HC1.out.mono ?_
  rintro e w4 ⟨u', rfl, hT4, hB4⟩
  obtain ⟨hBU, hG3, hblk3, hJ3, hszU, hbl⟩ := HF.out
  have hX := HX.out
  have hblk4 := (hB4.block X5 (lt_of_block hblk3)).trans hblk3
  have hs := store1_run (t := 30) hblk4 (j := 2) (v := u') (Nat.le_of_ble_eq_true rfl) Try.sizeTs (by obtain ⟨a, c, e⟩ := hT4.shp; exact ⟨a, _, c, e⟩)
  obtain ⟨V5, hV5⟩ : ∃ V5, V5 = w4.setCell ⟨X5, 2, none⟩ u' := ⟨_, rfl⟩
  rw [← hV5] at hs
  have hblk5 : V5.heap[X5]? = some (.cells #[.int .i64 cc, .string dd, u'] 45 (0, 0)) := by rw [hV5]; exact heap_set_self hblk4
  have k0 : V5.cell? ⟨X5, 0, none⟩ = some (.int .i64 cc) := by simp [World.cell?, hblk5]
  have k1 : V5.cell? ⟨X5, 1, none⟩ = some (.string dd) := by simp [World.cell?, hblk5]
  have k2 : V5.cell? ⟨X5, 2, none⟩ = some u' := by simp [World.cell?, hblk5]
  have h3s := hG3.size
  have hGV : GV w V5 b c N ids tx s u' ll := by
    refine ⟨?_, ?_, ?_⟩
    · rw [hV5]
      exact (heap_setCell_other w4 ⟨X5, 2, none⟩ b _ (by show b ≠ X5; omega)).trans (hJ3.bel hB4)
    · rw [hV5]
      exact (hT4.set fun i hi => by have := (hT4.lt i hi).1; omega).low (by omega)
    · rw [hV5]
      exact (((Gs.of_below _ hBU).trans hG3).bel hB4).set (a := ⟨X5, 2, none⟩) (.inr (by show w.heap.size ≤ X5; omega)) _
  have HG := hide (HCC.out V5 u' hGV)
  clear hblk3 hJ3 hszU hbl hX hblk4 hV5 hblk5 h3s hGV hB4 hT4 hG3 hBU
  go_wp2_with (refine wpList_store_run rfl 30 _ _ rfl _ _ rfl rfl hs ?_)
  refine HG.out.mono ?_
  rintro e w6 ⟨rfl, hR⟩
  have HS := hide (settle_rdy hR)
  clear hR
  go_wp2_with fail
  refine HS.out.mono ?_
  rintro e w7 ⟨rfl, hQ⟩
  have HQ := hide hQ
  clear hQ
  go_wp2
  go_ret
  exact ⟨rfl, HQ.out⟩
end
end Go.Proofs.Ytepmhgkegfpmjaa

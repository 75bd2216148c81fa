/-
  Contracts of the program and of the statements (part 3 of 8).
-/
import Derived.Test.YtiecoplfiahpnaaFb2
import Derived.Laws.Cover3

namespace Go.Proofs.Ytiecoplfiahpnaa
open Go.RowKit Go.Lib Go.Maps
theorem Try.infoQ : (Try.prog.info? 69).map (fun i => (i.zero, i.size, i.bytes)) = some (some (.agg #[.int .i64 0, .int .i64 0, .string ⟨#[]⟩, .string ⟨#[]⟩]), 4, 48) := by kernel_rfl
theorem sl_eq {T e : TypeId} (hu : Try.prog.underlying T = some (.slice e)) (w : World) (a : Addr) (n c : Nat) : (binOp .eql T (.slice (some a) n c) (.slice none 0 0)).run Try.prog w = .ok (.bool false) w := by
  simp [binOp, run_equal_slice_nil (P := Try.prog) w T e (some a) n c hu]
theorem sl_nil {T e : TypeId} (hu : Try.prog.underlying T = some (.slice e)) (w : World) : (binOp .eql T (.slice none 0 0) (.slice none 0 0)).run Try.prog w = .ok (.bool true) w := by
  simp [binOp, run_equal_slice_nil (P := Try.prog) w T e none 0 0 hu]
def t1 (x : ByteArray) : List Value := [.string x]
theorem t1_len (x : ByteArray) : (t1 x).length = 1 := rfl
theorem t1_one (x : ByteArray) : ∀ u ∈ t1 x, u.oneCell' = true := by intro u hu; simp [t1] at hu; subst hu; rfl
theorem tc_flat : ∀ l : List ByteArray, l.flatMap t1 = tc l
  | [] => rfl
  | x :: r => by rw [List.flatMap_cons, tc_flat r]; rfl
section
variable {w w' : World} {v : Value} {l : List ByteArray} {B : Nat} {r : Nat → Prop}
theorem OW.ts (h : OW t1 1 9 B v l w) : TS B v l w := ⟨by rw [← tc_flat]; exact h.own⟩
theorem TS.ow (h : TS B v l w) : OW t1 1 9 B v l w := ⟨by rw [tc_flat]; exact h.own⟩
theorem TS.ls (h : TS B v l w) (hr : ∀ i, v.ownBlock = some i → r i) : LS t1 1 r w v l := h.ow.ls t1_len hr
theorem LS.tr (h : LS t1 1 r w v l) : TR w v l := by
  obtain ⟨a, c, e, _, h | ⟨g, o, ea, _, hg, hG⟩⟩ := h
  · exact ⟨a, c, e, .inl h⟩
  · refine ⟨a, c, e, .inr ⟨g, o, ea, hg, fun i x hx => ?_⟩⟩
    have := hG i x hx 0 (.string x) rfl
    rw [Nat.mul_one, Nat.add_zero] at this
    exact this
end
section
variable {w w' : World} {v : Value} {r : Nat → Prop}
set_option maxRecDepth 100000 in
set_option maxHeartbeats 1600000 in
theorem cloneQ {l : List QT} (hl : LS q4 4 r w v l) (hn : l.length ≤ 1000000) :
    Calls Try.prog 64 #[v] w fun e w' => ∃ v', e = .returned v' ∧ OW q4 4 69 w.heap.size v' l w' ∧ Below w.heap.size w w' := by
  obtain ⟨a, c, rfl, h1, h2⟩ := hl
  rcases a with _ | a
  · have hl0 : l = [] := by
      rcases h2 with h | ⟨_, _, h, _⟩
      · exact h
      · cases h
    have := h1 rfl
    subst this
    subst hl0
    have hO := OW.nil q4 4 69 w.heap.size w
    clear h1 h2
    have k1 := sl_eq Try.underlying90
    have k0 := sl_nil Try.underlying90
    go_enter Try.func64, Try.ntmps64
    go_wp2
    go_ret
    exact ⟨_, rfl, hO, Below.refl _ _⟩
  · have hS : LS q4 4 r w (.slice (some a) l.length c) l := ⟨_, _, rfl, h1, h2⟩
    have hal : Below w.heap.size w (w.alloc (.cells #[] 69)) := (Below.refl _ _).alloc (Nat.le_refl _) _
    obtain ⟨v', w', hr, hO, hg, _⟩ := OW.app (ST := 90) q4_len (by decide) (fun x _ => q4_one x) Try.underlying90 Try.infoQ rfl (OW.empty q4 4 69 (Nat.le_refl w.heap.size)) (hS.bel hal) (by simp; omega) (by simp; omega) (by simp)
    have HO : Hid (OW q4 4 69 w.heap.size v' l w' ∧ Below w.heap.size w w') := ⟨hO, hal.grown hg (by simp) (fun k hk => by simp [Value.ownBlock] at hk; omega)⟩
    generalize l.length = n at *
    clear h1 h2 hS hO hg hal
    have k1 := sl_eq Try.underlying90
    have k0 := sl_nil Try.underlying90
    go_enter Try.func64, Try.ntmps64
    go_wp2_with (at_builtin; refine Lib.wpList_append_run _ rfl _ _ _ _ rfl _ _ rfl rfl _ _ hr ?_)
    go_ret
    exact ⟨_, rfl, HO.out⟩
set_option maxRecDepth 100000 in
set_option maxHeartbeats 1600000 in
theorem cloneT {l : List ByteArray} (hl : LS t1 1 r w v l) (hn : l.length ≤ 1000000000000) :
    Calls Try.prog 50 #[v] w fun e w' => ∃ v', e = .returned v' ∧ TS w.heap.size v' l w' ∧ Below w.heap.size w w' := by
  obtain ⟨a, c, rfl, h1, h2⟩ := hl
  rcases a with _ | a
  · have hl0 : l = [] := by
      rcases h2 with h | ⟨_, _, h, _⟩
      · exact h
      · cases h
    have := h1 rfl
    subst this
    subst hl0
    have hO := TS.nil w.heap.size w
    clear h1 h2
    have k1 := sl_eq Try.underlying29
    have k0 := sl_nil Try.underlying29
    go_enter Try.func50, Try.ntmps50
    go_wp2
    go_ret
    exact ⟨_, rfl, hO, Below.refl _ _⟩
  · have hS : LS t1 1 r w (.slice (some a) l.length c) l := ⟨_, _, rfl, h1, h2⟩
    have hal : Below w.heap.size w (w.alloc (.cells #[] 9)) := (Below.refl _ _).alloc (Nat.le_refl _) _
    obtain ⟨v', w', hr, hO, hg, _⟩ := OW.app (ST := 29) t1_len (by decide) (fun x _ => t1_one x) Try.underlying29 Try.infoTx rfl (OW.empty t1 1 9 (Nat.le_refl w.heap.size)) (hS.bel hal) (by simp; omega) (by simp; omega) (by simp)
    have HO : Hid (TS w.heap.size v' l w' ∧ Below w.heap.size w w') := ⟨hO.ts, hal.grown hg (by simp) (fun k hk => by simp [Value.ownBlock] at hk; omega)⟩
    generalize l.length = n at *
    clear h1 h2 hS hO hg hal
    have k1 := sl_eq Try.underlying29
    have k0 := sl_nil Try.underlying29
    go_enter Try.func50, Try.ntmps50
    go_wp2_with (at_builtin; refine Lib.wpList_append_run _ rfl _ _ _ _ rfl _ _ rfl rfl _ _ hr ?_)
    go_ret
    exact ⟨_, rfl, HO.out⟩
set_option maxRecDepth 100000 in
theorem cloneE : Calls Try.prog 53 #[.slice none 0 0] w fun e w' => e = .returned (.slice none 0 0) ∧ w' = w := by
  have k1 := sl_eq Try.underlying32
  have k0 := sl_nil Try.underlying32
  go_enter Try.func53, Try.ntmps53
  go_wp2
  go_ret
  exact ⟨rfl, rfl⟩
set_option maxRecDepth 100000 in
theorem cloneS : Calls Try.prog 54 #[.slice none 0 0] w fun e w' => e = .returned (.slice none 0 0) ∧ w' = w := by
  have k1 := sl_eq Try.underlying33
  have k0 := sl_nil Try.underlying33
  go_enter Try.func54, Try.ntmps54
  go_wp2
  go_ret
  exact ⟨rfl, rfl⟩
end
end Go.Proofs.Ytiecoplfiahpnaa

namespace Go.Proofs.Ytiecoplfiahpnaa
open Go.RowKit Go.Lib Go.Maps
theorem Try.sizeTs : (Try.prog.info? 29).map (·.size) = some 1 := by kernel_rfl
theorem Try.sizeR : (Try.prog.info? 35).map (·.size) = some 7 := by kernel_rfl
/-- A result at a block. -/
def R7 (w : World) (X : Nat) (c N : Int) (ids tx : Value) : Prop := w.heap[X]? = some (.cells #[.int .i64 c, .string ⟨#[]⟩, .int .i64 N, ids, tx, .slice none 0 0, .slice none 0 0] 35 (0, 0))
section
variable {w w' : World} {X b : Nat} {c N s st k : Int} {ids tx go : Value} {n d : ByteArray} {r : Nat → Prop} {I T : List ByteArray}
theorem R7.lt (h : R7 w X c N ids tx) : X < w.heap.size := lt_of_block h
theorem R7.cell (h : R7 w X c N ids tx) (j : Nat) : w.cell? ⟨X, j, none⟩ = (#[.int .i64 c, .string ⟨#[]⟩, .int .i64 N, ids, tx, .slice none 0 0, .slice none 0 0] : Array Value)[j]? := by
  rw [World.cell?]; simp only [show w.heap[X]? = _ from h]; rfl
theorem R7.free (h : R7 w X c N ids tx) (j : Nat) : w.frozen? ⟨X, j, none⟩ = false := by simp [World.frozen?, show w.heap[X]? = _ from h]
theorem R7.bel (h : R7 w X c N ids tx) (hb : Below w.heap.size w w') : R7 w' X c N ids tx := (hb.block X h.lt).trans h
theorem R7.gs {p : Nat → Prop} (h : R7 w X c N ids tx) (hb : Gs p w w') (hp : ¬ p X) : R7 w' X c N ids tx := (hb.block X h.lt hp).trans h
theorem TS.set {B j g : Nat} {u v : Value} {l : List ByteArray} (h : TS B v l w) (hg : ∀ i, v.ownBlock = some i → i ≠ g) : TS B v l (w.setCell ⟨g, j, none⟩ u) :=
  h.kb fun i hi => heap_setCell_other w ⟨g, j, none⟩ i u (hg i hi)

set_option maxRecDepth 100000 in
set_option maxHeartbeats 3200000 in
theorem anew_any (hI : LS t1 1 r w ids I) (hT : LS t1 1 r w tx T) (hIl : I.length ≤ 1000000000000) (hTl : T.length ≤ 1000000000000) :
    Calls Try.prog 41 #[.agg #[.int .i64 c, .string ⟨#[]⟩, .int .i64 N, ids, tx, .slice none 0 0, .slice none 0 0]] w fun e w' => ∃ ids' tx', e = .returned (.agg #[.int .i64 c, .string ⟨#[]⟩, .int .i64 N, ids', tx', .slice none 0 0, .slice none 0 0]) ∧ TS w.heap.size ids' I w' ∧ TS w.heap.size tx' T w' ∧ Below w.heap.size w w' := by
  obtain ⟨U, hU⟩ : ∃ U, U = (w.alloc (.cells #[.int .i64 c, .string ⟨#[]⟩, .int .i64 N, ids, tx, .slice none 0 0, .slice none 0 0] 35)).alloc (.cells #[.int .i64 0, .string ⟨#[]⟩, .int .i64 0, .slice none 0 0, .slice none 0 0, .slice none 0 0, .slice none 0 0] 35) := ⟨_, rfl⟩
  obtain ⟨X, hX⟩ : ∃ X, X = w.heap.size := ⟨_, rfl⟩
  have hBU : Below w.heap.size w U := by rw [hU]; exact ((Below.refl _ _).alloc (Nat.le_refl _) _).alloc (by simp) _
  have hR : R7 U X c N ids tx := by rw [hU, hX]; unfold R7; rw [Below.heap_alloc _ _ _ (by simp)]; exact heap_alloc_new w _
  have hZ : R7 U (X + 1) 0 0 (.slice none 0 0) (.slice none 0 0) := by
    rw [hU, hX]
    have := heap_alloc_new (w.alloc (.cells #[.int .i64 c, .string ⟨#[]⟩, .int .i64 N, ids, tx, .slice none 0 0, .slice none 0 0] 35)) (.cells #[.int .i64 0, .string ⟨#[]⟩, .int .i64 0, .slice none 0 0, .slice none 0 0, .slice none 0 0, .slice none 0 0] 35 (0, 0))
    simpa [R7] using this
  have hszU : U.heap.size = X + 2 := by rw [hU, hX]; simp
  have HU := hide hU
  have HX := hide hX
  have HB := hide hBU
  have y3 : U.cell? ⟨X, 3, none⟩ = some ids := hR.cell 3
  have HC1 := hide (cloneT (hI.bel hBU) hIl)
  have HT := hide (hT.old.bel hBU)
  have HR := hide hR
  have HZ := hide hZ
  have HS := hide hszU
  clear hI hT hBU hR hZ hU hX hszU
  go_enter Try.func41, Try.ntmps41
  go_upto_region 1 with fail
  rw [← HU.out, ← HX.out]
  go_wp2_with fail
  refine HC1.out.mono ?_
  rintro e w1 ⟨ids', rfl, hT1, hB1⟩
  have hR1 := HR.out.bel hB1
  have hZ1 := HZ.out.bel hB1
  have f3 := hR1.free 3
  have x3 : w1.cell? ⟨X, 3, none⟩ = some ids := hR1.cell 3
  have hR2 : R7 (w1.setCell ⟨X, 3, none⟩ ids') X c N ids' tx := heap_set_self hR1
  have x4 : (w1.setCell ⟨X, 3, none⟩ ids').cell? ⟨X, 4, none⟩ = some tx := hR2.cell 4
  obtain ⟨V, hV⟩ : ∃ V, V = w1.setCell ⟨X, 3, none⟩ ids' := ⟨_, rfl⟩
  have hsz := HS.out
  have hGV : Gs (fun i => i = X) U V := by rw [hV]; exact ((Gs.refl _ _).bel hB1).set1 _ _
  have hTV : TS U.heap.size ids' I V := by rw [hV]; exact hT1.set fun i hi => by have := (hT1.lt i hi).1; omega
  have hZV : R7 V (X + 1) 0 0 (.slice none 0 0) (.slice none 0 0) := HZ.out.gs hGV (by omega)
  have hs1 := store1_run (t := 29) hR1 (j := 3) (v := ids') (Nat.le_of_ble_eq_true rfl) Try.sizeTs (by obtain ⟨a, c, e⟩ := hT1.shp; exact ⟨a, _, c, e⟩)
  rw [← hV] at hR2 x4 hs1
  have HC2 := hide (cloneT (HT.out.gs hGV (fun i hi e => by have := hi.2; have := HX.out; omega)) hTl)
  have HF1 := hide (And.intro hGV (And.intro hTV (And.intro hZV hR2)))
  clear hGV hTV hZV hR2 hR1 hZ1 hB1 hT1 HC1 hsz
  clear hV
  go_wp2_with (refine wpList_store_run rfl 29 _ _ rfl _ _ rfl rfl hs1 ?_)
  refine HC2.out.mono ?_
  rintro e w2 ⟨tx', rfl, hT2, hB2⟩
  obtain ⟨hGV, hTV, hZV, hR2⟩ := HF1.out
  have hsz := HS.out
  have hR3 := hR2.bel hB2
  have f4 := hR3.free 4
  have x5 : w2.cell? ⟨X, 4, none⟩ = some tx := hR3.cell 4
  have hR4 : R7 (w2.setCell ⟨X, 4, none⟩ tx') X c N ids' tx' := heap_set_self hR3
  obtain ⟨V2, hV2⟩ : ∃ V2, V2 = w2.setCell ⟨X, 4, none⟩ tx' := ⟨_, rfl⟩
  have hVs := hGV.size
  have hG4 : Gs (fun i => i = X) U V2 := by rw [hV2]; exact (hGV.bel hB2).set1 _ _
  have hT4 : TS U.heap.size ids' I V2 := by rw [hV2]; exact (hTV.keep hB2).set fun i hi => by have := (hTV.lt i hi).1; omega
  have hT5 : TS U.heap.size tx' T V2 := by rw [hV2]; exact (hT2.low hVs).set fun i hi => by have := (hT2.lt i hi).1; omega
  have hZ4 : R7 V2 (X + 1) 0 0 (.slice none 0 0) (.slice none 0 0) := HZ.out.gs hG4 (by omega)
  have hs2 := store1_run (t := 29) hR3 (j := 4) (v := tx') (Nat.le_of_ble_eq_true rfl) Try.sizeTs (by obtain ⟨a, c, e⟩ := hT2.shp; exact ⟨a, _, c, e⟩)
  rw [← hV2] at hR4 hs2
  have e5 : V2.cell? ⟨X, 5, none⟩ = some (.slice none 0 0) := hR4.cell 5
  have e5f := hR4.free 5
  have hR5 : R7 (V2.setCell ⟨X, 5, none⟩ (.slice none 0 0)) X c N ids' tx' := heap_set_self hR4
  have e6 : (V2.setCell ⟨X, 5, none⟩ (.slice none 0 0)).cell? ⟨X, 6, none⟩ = some (.slice none 0 0) := hR5.cell 6
  have e6f := hR5.free 6
  have hR6 : R7 ((V2.setCell ⟨X, 5, none⟩ (.slice none 0 0)).setCell ⟨X, 6, none⟩ (.slice none 0 0)) X c N ids' tx' := heap_set_self hR5
  obtain ⟨V4, hV4⟩ : ∃ V4, V4 = (V2.setCell ⟨X, 5, none⟩ (.slice none 0 0)).setCell ⟨X, 6, none⟩ (.slice none 0 0) := ⟨_, rfl⟩
  rw [← hV4] at hR6
  have hG6 : Gs (fun i => i = X) U V4 := by rw [hV4]; exact (hG4.set1 _ _).set1 _ _
  have hT6 : TS U.heap.size ids' I V4 := by rw [hV4]; exact (hT4.set fun i hi => by have := (hT4.lt i hi).1; omega).set fun i hi => by have := (hT4.lt i hi).1; omega
  have hT7 : TS U.heap.size tx' T V4 := by rw [hV4]; exact (hT5.set fun i hi => by have := (hT5.lt i hi).1; omega).set fun i hi => by have := (hT5.lt i hi).1; omega
  have hZ6 : R7 V4 (X + 1) 0 0 (.slice none 0 0) (.slice none 0 0) := HZ.out.gs hG6 (by omega)
  have c0 : V4.cell? ⟨X, 0, none⟩ = some (.int .i64 c) := hR6.cell 0
  have c1 : V4.cell? ⟨X, 1, none⟩ = some (.string ⟨#[]⟩) := hR6.cell 1
  have c2 : V4.cell? ⟨X, 2, none⟩ = some (.int .i64 N) := hR6.cell 2
  have c3 : V4.cell? ⟨X, 3, none⟩ = some ids' := hR6.cell 3
  have c4 : V4.cell? ⟨X, 4, none⟩ = some tx' := hR6.cell 4
  have c5 : V4.cell? ⟨X, 5, none⟩ = some (.slice none 0 0) := hR6.cell 5
  have c6 : V4.cell? ⟨X, 6, none⟩ = some (.slice none 0 0) := hR6.cell 6
  obtain ⟨ai, ci, hei⟩ := hT6.shp
  obtain ⟨at_, ct, het⟩ := hT7.shp
  have hrun := store_run (t := 35) (o := 0) hZ6 #[.int .i64 c, .string ⟨#[]⟩, .int .i64 N, ids', tx', .slice none 0 0, .slice none 0 0] (Nat.le_of_ble_eq_true rfl) Try.sizeR (by rw [hei, het]; simp [Value.oneCell'])
  obtain ⟨Y, hY⟩ : ∃ Y, Y = V4.setCells (X + 1) 0 [.int .i64 c, .string ⟨#[]⟩, .int .i64 N, ids', tx', .slice none 0 0, .slice none 0 0] := ⟨_, rfl⟩
  have hRY : R7 Y (X + 1) c N ids' tx' := by
    have h0 : V4.heap[X + 1]? = some (.cells #[.int .i64 0, .string ⟨#[]⟩, .int .i64 0, .slice none 0 0, .slice none 0 0, .slice none 0 0, .slice none 0 0] 35 (0, 0)) := hZ6
    have h1 := setCells_self [.int .i64 c, .string ⟨#[]⟩, .int .i64 N, ids', tx', .slice none 0 0, .slice none 0 0] 0 V4 _ h0
    rw [← hY] at h1
    simpa [putAll, R7] using h1
  simp only [] at hrun
  rw [← hY] at hrun
  have hGY : Gs (fun i => i = X + 1) V4 Y := by rw [hY]; exact Gs.cells _ _ _ (Gs.refl _ _) (.inl rfl)
  have HE : Hid (∃ jds ty, Ending.returned (.agg #[.int .i64 c, .string ⟨#[]⟩, .int .i64 N, ids', tx', .slice none 0 0, .slice none 0 0]) = Ending.returned (.agg #[.int .i64 c, .string ⟨#[]⟩, .int .i64 N, jds, ty, .slice none 0 0, .slice none 0 0]) ∧ TS w.heap.size jds I Y ∧ TS w.heap.size ty T Y ∧ Below w.heap.size w Y) := by
    have hxw := HX.out
    refine ⟨ids', tx', rfl, ((hT6.kb fun i hi => hGY.block i (hT6.lt i hi).2 (by have := (hT6.lt i hi).1; omega)).low (by omega)), ((hT7.kb fun i hi => hGY.block i (hT7.lt i hi).2 (by have := (hT7.lt i hi).1; omega)).low (by omega)), ?_⟩
    exact hGY.below (hG6.below HB.out (by omega) (fun i e => by omega)) (by have := hG6.size; omega) (fun i e => by omega)
  have r0 : Y.cell? ⟨X + 1, 0, none⟩ = some (.int .i64 c) := hRY.cell 0
  have r1 : Y.cell? ⟨X + 1, 1, none⟩ = some (.string ⟨#[]⟩) := hRY.cell 1
  have r2 : Y.cell? ⟨X + 1, 2, none⟩ = some (.int .i64 N) := hRY.cell 2
  have r3 : Y.cell? ⟨X + 1, 3, none⟩ = some ids' := hRY.cell 3
  have r4 : Y.cell? ⟨X + 1, 4, none⟩ = some tx' := hRY.cell 4
  have r5 : Y.cell? ⟨X + 1, 5, none⟩ = some (.slice none 0 0) := hRY.cell 5
  have r6 : Y.cell? ⟨X + 1, 6, none⟩ = some (.slice none 0 0) := hRY.cell 6
  have HV2 := hide hV2
  have HV4 := hide hV4
  have HEI := hide hei
  have HET := hide het
  clear hV2 hV4 hY hGV hTV hZV hR2 hR3 hR4 hR5 hR6 hG4 hT4 hT5 hZ4 hG6 hT6 hT7 hZ6 hRY hGY hB2 hT2 hei het HF1 HC2 hVs hsz
  go_wp2_with (first | (go_at_call 53; refine cloneE.mono ?_; rintro e w3 ⟨rfl, rfl⟩) | (go_at_call 54; refine cloneS.mono ?_; rintro e w3 ⟨rfl, rfl⟩) | (refine wpList_store_run rfl 29 _ _ rfl _ _ rfl rfl hs2 ?_))
  rw [← HV4.out]
  refine wp_loop_rounds 1 ?_
  rw [rounds_succ]
  go_wp2_with (refine wpList_store_run rfl 35 _ _ rfl _ _ rfl rfl hrun ?_)
  exact bodyPost_ret (v := .agg #[.int .i64 c, .string ⟨#[]⟩, .int .i64 N, ids', tx', .slice none 0 0, .slice none 0 0]) (by simp [results, Try.results41, go_sem, r0, r1, r2, r3, r4, r5, r6]) rfl HE.out
end
end Go.Proofs.Ytiecoplfiahpnaa

namespace Go.Proofs.Ytiecoplfiahpnaa
open Go.RowKit Go.Lib Go.Maps
section
variable {w w' : World} {X b : Nat} {op : Bool} {c N s st k c0 N0 : Int} {ids tx go i0 t0 : Value} {n d : ByteArray} {r : Nat → Prop} {I T : List ByteArray}
theorem r7_new (w : World) (c N : Int) (ids tx : Value) : R7 (w.alloc (.cells #[.int .i64 c, .string ⟨#[]⟩, .int .i64 N, ids, tx, .slice none 0 0, .slice none 0 0] 35)) w.heap.size c N ids tx := heap_alloc_new w _
set_option maxRecDepth 100000 in
set_option maxHeartbeats 3200000 in
theorem end_on (h : JB w b true st k n d go c0 N0 i0 t0 s) (hI : LS t1 1 r w ids I) (hT : LS t1 1 r w tx T) (hIl : I.length ≤ 1000000000000) (hTl : T.length ≤ 1000000000000) :
    Calls Try.prog 24 #[.pointer (some ⟨b, 0, none⟩), .agg #[.int .i64 c, .string ⟨#[]⟩, .int .i64 N, ids, tx, .slice none 0 0, .slice none 0 0]] w fun e w' => e = .returned (.tuple #[]) ∧ ∃ ids' tx', JB w' b false 0 0 ⟨#[]⟩ ⟨#[]⟩ .nilFunc c N ids' tx' s ∧ TS w.heap.size ids' I w' ∧ TS w.heap.size tx' T w' ∧ Gs (fun i => i = b) w w' := by
  obtain ⟨U, hU⟩ : ∃ U, U = w.alloc (.cells #[.int .i64 c, .string ⟨#[]⟩, .int .i64 N, ids, tx, .slice none 0 0, .slice none 0 0] 35) := ⟨_, rfl⟩
  obtain ⟨X, hX⟩ : ∃ X, X = w.heap.size := ⟨_, rfl⟩
  have hBU : Below w.heap.size w U := by rw [hU]; exact (Below.refl _ _).alloc (Nat.le_refl _) _
  have hR : R7 U X c N ids tx := by rw [hU, hX]; exact r7_new _ _ _ _ _
  have hJ := h.bel hBU
  have y0 : U.cell? ⟨X, 0, none⟩ = some (.int .i64 c) := hR.cell 0
  have y1 : U.cell? ⟨X, 1, none⟩ = some (.string ⟨#[]⟩) := hR.cell 1
  have y2 : U.cell? ⟨X, 2, none⟩ = some (.int .i64 N) := hR.cell 2
  have y3 : U.cell? ⟨X, 3, none⟩ = some ids := hR.cell 3
  have y4 : U.cell? ⟨X, 4, none⟩ = some tx := hR.cell 4
  have y5 : U.cell? ⟨X, 5, none⟩ = some (.slice none 0 0) := hR.cell 5
  have y6 : U.cell? ⟨X, 6, none⟩ = some (.slice none 0 0) := hR.cell 6
  have HA := hide (anew_any (c := c) (N := N) (hI.bel hBU) (hT.bel hBU) hIl hTl)
  have HU := hide hU
  have HX := hide hX
  have HB := hide hBU
  have HJ := hide hJ
  clear hI hT hBU hR hU hX h hJ
  go_enter Try.func24, Try.ntmps24
  go_upto_region 1 with fail
  rw [← HU.out, ← HX.out]
  go_wp2_with (go_at_call 48; refine (isOpen_any HJ.out).mono ?_; rintro e w1 ⟨rfl, rfl⟩)
  refine HA.out.mono ?_
  rintro e w2 ⟨ids', tx', rfl, hT1, hT2, hB2⟩
  have hJ2 := HJ.out.bel hB2
  have hrun := store_run (t := 72) (o := 0) hJ2 #[.bool false, .int .i64 0, .int .i64 0, .string ⟨#[]⟩, .string ⟨#[]⟩, .nilFunc, .int .i64 c, .string ⟨#[]⟩, .int .i64 N, ids', tx', .slice none 0 0, .slice none 0 0] (Nat.le_of_ble_eq_true rfl) Try.sizeIO (by obtain ⟨a, c, e⟩ := hT1.shp; obtain ⟨a', c', e'⟩ := hT2.shp; rw [e, e']; simp [Value.oneCell'])
  obtain ⟨Y, hY⟩ : ∃ Y, Y = w2.setCells b 0 [.bool false, .int .i64 0, .int .i64 0, .string ⟨#[]⟩, .string ⟨#[]⟩, .nilFunc, .int .i64 c, .string ⟨#[]⟩, .int .i64 N, ids', tx', .slice none 0 0, .slice none 0 0] := ⟨_, rfl⟩
  have hJY : JB Y b false 0 0 ⟨#[]⟩ ⟨#[]⟩ .nilFunc c N ids' tx' s := by
    have h1 := setCells_self [.bool false, .int .i64 0, .int .i64 0, .string ⟨#[]⟩, .string ⟨#[]⟩, .nilFunc, .int .i64 c, .string ⟨#[]⟩, .int .i64 N, ids', tx', .slice none 0 0, .slice none 0 0] 0 w2 _ hJ2
    rw [← hY] at h1
    simpa [putAll, JB] using h1
  simp only [] at hrun
  rw [← hY] at hrun
  have hGY : Gs (fun i => i = b) w Y := by rw [hY]; exact Gs.cells _ _ _ ((Gs.of_below _ HB.out).bel hB2) (.inl rfl)
  have hGY2 : Gs (fun i => i = b) w2 Y := by rw [hY]; exact Gs.cells _ _ _ (Gs.refl _ _) (.inl rfl)
  have HE : Hid (∃ ids' tx', JB Y b false 0 0 ⟨#[]⟩ ⟨#[]⟩ .nilFunc c N ids' tx' s ∧ TS w.heap.size ids' I Y ∧ TS w.heap.size tx' T Y ∧ Gs (fun i => i = b) w Y) := by
    have hb := HB.out.size
    have hbl := HJ.out.lt
    exact ⟨ids', tx', hJY, (hT1.kb fun i hi => hGY2.block i (hT1.lt i hi).2 (by have := (hT1.lt i hi).1; omega)).low hb, (hT2.kb fun i hi => hGY2.block i (hT2.lt i hi).2 (by have := (hT2.lt i hi).1; omega)).low hb, hGY⟩
  clear hY hJY hGY hGY2 hJ2 hB2 hT1 hT2
  go_wp2_with (refine wpList_store_run rfl 72 _ _ rfl _ _ rfl rfl hrun ?_)
  go_end0
  exact ⟨rfl, HE.out⟩
set_option maxRecDepth 100000 in
set_option maxHeartbeats 3200000 in
theorem end_off (h : JB w b false st k n d go c0 N0 i0 t0 s) (x0 x1 x2 x3 x4 x5 x6 : Value) :
    Calls Try.prog 24 #[.pointer (some ⟨b, 0, none⟩), .agg #[x0, x1, x2, x3, x4, x5, x6]] w fun e w' => e = .returned (.tuple #[]) ∧ Below w.heap.size w w' := by
  have hJ := h.bel ((Below.refl w.heap.size w).alloc (Nat.le_refl _) (.cells #[x0, x1, x2, x3, x4, x5, x6] 35))
  have HJ := hide hJ
  clear h hJ
  go_enter Try.func24, Try.ntmps24
  go_upto_region 1 with fail
  go_wp2_with (go_at_call 48; refine (isOpen_any HJ.out).mono ?_; rintro e w1 ⟨rfl, rfl⟩)
  go_end0
  exact ⟨rfl, (Below.refl _ _).alloc (Nat.le_refl _) _⟩
set_option maxRecDepth 100000 in
set_option maxHeartbeats 3200000 in
theorem result_any (h : JB w b op st k n d go c N ids tx s) (hI : LS t1 1 r w ids I) (hT : LS t1 1 r w tx T) (hIl : I.length ≤ 1000000000000) (hTl : T.length ≤ 1000000000000) :
    Calls Try.prog 19 #[.pointer (some ⟨b, 0, none⟩)] w fun e w' => ∃ ids' tx', e = .returned (.agg #[.int .i64 c, .string ⟨#[]⟩, .int .i64 N, ids', tx', .slice none 0 0, .slice none 0 0]) ∧ TS w.heap.size ids' I w' ∧ TS w.heap.size tx' T w' ∧ Below w.heap.size w w' := by
  obtain ⟨U, hU⟩ : ∃ U, U = w.alloc (.cells #[.int .i64 0, .string ⟨#[]⟩, .int .i64 0, .slice none 0 0, .slice none 0 0, .slice none 0 0, .slice none 0 0] 35) := ⟨_, rfl⟩
  obtain ⟨X, hX⟩ : ∃ X, X = w.heap.size := ⟨_, rfl⟩
  have hBU : Below w.heap.size w U := by rw [hU]; exact (Below.refl _ _).alloc (Nat.le_refl _) _
  have hZ : R7 U X 0 0 (.slice none 0 0) (.slice none 0 0) := by rw [hU, hX]; exact r7_new _ _ _ _ _
  have hJ := h.bel hBU
  have y0 : U.cell? ⟨b, 6, none⟩ = some (.int .i64 c) := hJ.cell 6
  have y1 : U.cell? ⟨b, 7, none⟩ = some (.string ⟨#[]⟩) := hJ.cell 7
  have y2 : U.cell? ⟨b, 8, none⟩ = some (.int .i64 N) := hJ.cell 8
  have y3 : U.cell? ⟨b, 9, none⟩ = some ids := hJ.cell 9
  have y4 : U.cell? ⟨b, 10, none⟩ = some tx := hJ.cell 10
  have y5 : U.cell? ⟨b, 11, none⟩ = some (.slice none 0 0) := hJ.cell 11
  have y6 : U.cell? ⟨b, 12, none⟩ = some (.slice none 0 0) := hJ.cell 12
  have hszU : U.heap.size = X + 1 := by rw [hU, hX]; simp
  have HA := hide (anew_any (c := c) (N := N) (hI.bel hBU) (hT.bel hBU) hIl hTl)
  have HU := hide hU
  have HX := hide hX
  have HB := hide hBU
  have HZ := hide hZ
  have HS := hide hszU
  clear hI hT hBU hZ hU hX h hJ hszU
  go_enter Try.func19, Try.ntmps19
  go_upto_region 1 with fail
  rw [← HU.out, ← HX.out]
  go_wp2_with fail
  refine HA.out.mono ?_
  rintro e w2 ⟨ids', tx', rfl, hT1, hT2, hB2⟩
  have hZ2 := HZ.out.bel hB2
  have hrun := store_run (t := 35) (o := 0) hZ2 #[.int .i64 c, .string ⟨#[]⟩, .int .i64 N, ids', tx', .slice none 0 0, .slice none 0 0] (Nat.le_of_ble_eq_true rfl) Try.sizeR (by obtain ⟨a, c, e⟩ := hT1.shp; obtain ⟨a', c', e'⟩ := hT2.shp; rw [e, e']; simp [Value.oneCell'])
  obtain ⟨Y, hY⟩ : ∃ Y, Y = w2.setCells X 0 [.int .i64 c, .string ⟨#[]⟩, .int .i64 N, ids', tx', .slice none 0 0, .slice none 0 0] := ⟨_, rfl⟩
  have hRY : R7 Y X c N ids' tx' := by
    have h1 := setCells_self [.int .i64 c, .string ⟨#[]⟩, .int .i64 N, ids', tx', .slice none 0 0, .slice none 0 0] 0 w2 _ hZ2
    rw [← hY] at h1
    simpa [putAll, R7] using h1
  simp only [] at hrun
  rw [← hY] at hrun
  have hGY2 : Gs (fun i => i = X) w2 Y := by rw [hY]; exact Gs.cells _ _ _ (Gs.refl _ _) (.inl rfl)
  have HE : Hid (∃ jds ty, Ending.returned (.agg #[.int .i64 c, .string ⟨#[]⟩, .int .i64 N, ids', tx', .slice none 0 0, .slice none 0 0]) = Ending.returned (.agg #[.int .i64 c, .string ⟨#[]⟩, .int .i64 N, jds, ty, .slice none 0 0, .slice none 0 0]) ∧ TS w.heap.size jds I Y ∧ TS w.heap.size ty T Y ∧ Below w.heap.size w Y) := by
    have hx := HX.out
    have hs := HS.out
    have hb2 := hB2.size
    refine ⟨ids', tx', rfl, (hT1.kb fun i hi => hGY2.block i (hT1.lt i hi).2 (by have := (hT1.lt i hi).1; omega)).low (by omega), (hT2.kb fun i hi => hGY2.block i (hT2.lt i hi).2 (by have := (hT2.lt i hi).1; omega)).low (by omega), ?_⟩
    exact hGY2.below (HB.out.trans (hB2.mono (by omega))) (by omega) (fun i e => by omega)
  have r0 : Y.cell? ⟨X, 0, none⟩ = some (.int .i64 c) := hRY.cell 0
  have r1 : Y.cell? ⟨X, 1, none⟩ = some (.string ⟨#[]⟩) := hRY.cell 1
  have r2 : Y.cell? ⟨X, 2, none⟩ = some (.int .i64 N) := hRY.cell 2
  have r3 : Y.cell? ⟨X, 3, none⟩ = some ids' := hRY.cell 3
  have r4 : Y.cell? ⟨X, 4, none⟩ = some tx' := hRY.cell 4
  have r5 : Y.cell? ⟨X, 5, none⟩ = some (.slice none 0 0) := hRY.cell 5
  have r6 : Y.cell? ⟨X, 6, none⟩ = some (.slice none 0 0) := hRY.cell 6
  clear hY hRY hGY2 hZ2 hB2 hT1 hT2
  go_wp2_with (refine wpList_store_run rfl 35 _ _ rfl _ _ rfl rfl hrun ?_)
  exact bodyPost_ret (v := .agg #[.int .i64 c, .string ⟨#[]⟩, .int .i64 N, ids', tx', .slice none 0 0, .slice none 0 0]) (by simp [results, Try.results19, go_sem, r0, r1, r2, r3, r4, r5, r6]) rfl HE.out
end
end Go.Proofs.Ytiecoplfiahpnaa

namespace Go.Proofs.Ytiecoplfiahpnaa
open Go.RowKit Go.Lib Go.Maps
theorem Try.infoA : (Try.prog.info? 62).map (fun i => (i.zero, i.size, i.bytes)) = some (some (.agg #[.int .i64 0, .string ⟨#[]⟩, .slice none 0 0]), 3, 48) := by kernel_rfl
def stC (C : Int) (a : RR) : Int := if C = 0 then a.c else C
def stN (n : Nat) (a : RR) : Nat := if a.c = 0 then n + 1 else n
def resC (A : List RR) : Int := A.foldl stC 0
def resN (A : List RR) : Nat := A.foldl stN 0
def resT (A : List RR) : List ByteArray := A.map (·.d)
def resI (A : List RR) : List ByteArray := A.flatMap (·.l)
theorem resC_snoc (A : List RR) (a : RR) : resC (A ++ [a]) = stC (resC A) a := by simp [resC]
theorem resN_snoc (A : List RR) (a : RR) : resN (A ++ [a]) = stN (resN A) a := by simp [resN]
theorem resT_snoc (A : List RR) (a : RR) : resT (A ++ [a]) = resT A ++ [a.d] := by simp [resT]
theorem resI_snoc (A : List RR) (a : RR) : resI (A ++ [a]) = resI A ++ a.l := by simp [resI]
theorem stN_le : ∀ (A : List RR) (n : Nat), A.foldl stN n ≤ n + A.length
  | [], n => by simp
  | a :: r, n => by
    have := stN_le r (stN n a)
    have h1 : stN n a ≤ n + 1 := by unfold stN; split <;> omega
    simp only [List.foldl_cons, List.length_cons]
    omega
theorem resN_le (A : List RR) : resN A ≤ A.length := by have := stN_le A 0; unfold resN; omega
theorem resT_len (A : List RR) : (resT A).length = A.length := by simp [resT]
theorem take_snoc_at {α : Type} {l : List α} {j : Nat} {x : α} (h : l[j]? = some x) : l.take (j + 1) = l.take j ++ [x] := by rw [List.take_add_one, h]; rfl
theorem resI_take (A : List RR) (j : Nat) : (resI (A.take j)).length ≤ (resI A).length := by
  have e : resI A = resI (A.take j) ++ resI (A.drop j) := by rw [resI, resI, resI, ← List.flatMap_append, List.take_append_drop]
  rw [e, List.length_append]; omega
/-- An answer, with the value of its list of names, as cells. -/
def x3 (x : RR × Value) : List Value := [.int .i64 x.1.c, .string x.1.d, x.2]
theorem x3_len (x : RR × Value) : (x3 x).length = 3 := rfl

/-- Where the loop stands. -/
structure TI (w wr : World) (X0 : Nat) (A : List RR) (ids tx : Value) : Prop where
  r : R7 wr (X0 + 1) (resC A) ((resN A : Nat) : Int) ids tx
  z : R7 wr X0 0 0 (.slice none 0 0) (.slice none 0 0)
  i : TS (X0 + 2) ids (resI A) wr
  t : TS (X0 + 2) tx (resT A) wr
  ne : ∀ i, ids.ownBlock = some i → tx.ownBlock ≠ some i
  be : Below X0 w wr
  sz : X0 + 2 ≤ wr.heap.size
/-- Within a round. -/
structure TJ (w wx : World) (X0 n5 : Nat) (A : List RR) (C N : Int) (ids tx : Value) (c : Int) (d : ByteArray) (u : Value) : Prop where
  r : R7 wx (X0 + 1) C N ids tx
  z : R7 wx X0 0 0 (.slice none 0 0) (.slice none 0 0)
  i : TS (X0 + 2) ids (resI A) wx
  t : TS (X0 + 2) tx (resT A) wx
  ne : ∀ i, ids.ownBlock = some i → tx.ownBlock ≠ some i
  be : Below X0 w wx
  sz : X0 + 2 ≤ wx.heap.size
  blk : wx.heap[n5]? = some (.cells #[.int .i64 c, .string d, u] 62 (0, 0))
  n5b : X0 + 2 ≤ n5
section
variable {w wx wr : World} {X0 n5 : Nat} {A : List RR} {C N c : Int} {ids tx u : Value} {d : ByteArray}
theorem TJ.new (h : TI w wr X0 A ids tx) (c : Int) (d : ByteArray) (u : Value) : TJ w (wr.alloc (.cells #[.int .i64 c, .string d, u] 62)) X0 wr.heap.size A (resC A) ((resN A : Nat) : Int) ids tx c d u := by
  have hb : Below wr.heap.size wr (wr.alloc (.cells #[.int .i64 c, .string d, u] 62)) := (Below.refl _ _).alloc (Nat.le_refl _) _
  exact ⟨h.r.bel hb, h.z.bel hb, h.i.keep hb, h.t.keep hb, h.ne, h.be.trans (hb.mono (by have := h.sz; omega)), by have := h.sz; simp; omega, heap_alloc_new wr _, h.sz⟩
theorem TJ.set0 (h : TJ w wx X0 n5 A C N ids tx c d u) (x : Int) : TJ w (wx.setCell ⟨X0 + 1, 0, none⟩ (.int .i64 x)) X0 n5 A x N ids tx c d u := by
  have hk : ∀ i, i ≠ X0 + 1 → (wx.setCell ⟨X0 + 1, 0, none⟩ (.int .i64 x)).heap[i]? = wx.heap[i]? := fun i hi => heap_setCell_other wx ⟨X0 + 1, 0, none⟩ i _ hi
  refine ⟨heap_set_self h.r, (hk X0 (by omega)).trans h.z, h.i.kb fun i hi => hk i (by have := (h.i.lt i hi).1; omega), h.t.kb fun i hi => hk i (by have := (h.t.lt i hi).1; omega), h.ne, ((Gs.refl (fun i => i = X0 + 1) wx).set1 _ _).below h.be (by have := h.sz; omega) (fun i e => by omega), by have := h.sz; simpa using this, (hk n5 (by have := h.n5b; omega)).trans h.blk, h.n5b⟩
theorem TJ.set2 (h : TJ w wx X0 n5 A C N ids tx c d u) (x : Int) : TJ w (wx.setCell ⟨X0 + 1, 2, none⟩ (.int .i64 x)) X0 n5 A C x ids tx c d u := by
  have hk : ∀ i, i ≠ X0 + 1 → (wx.setCell ⟨X0 + 1, 2, none⟩ (.int .i64 x)).heap[i]? = wx.heap[i]? := fun i hi => heap_setCell_other wx ⟨X0 + 1, 2, none⟩ i _ hi
  refine ⟨heap_set_self h.r, (hk X0 (by omega)).trans h.z, h.i.kb fun i hi => hk i (by have := (h.i.lt i hi).1; omega), h.t.kb fun i hi => hk i (by have := (h.t.lt i hi).1; omega), h.ne, ((Gs.refl (fun i => i = X0 + 1) wx).set1 _ _).below h.be (by have := h.sz; omega) (fun i e => by omega), by have := h.sz; simpa using this, (hk n5 (by have := h.n5b; omega)).trans h.blk, h.n5b⟩
theorem TJ.k0 (h : TJ w wx X0 n5 A C N ids tx c d u) : wx.cell? ⟨n5, 0, none⟩ = some (.int .i64 c) := by simp [World.cell?, h.blk]
theorem TJ.k1 (h : TJ w wx X0 n5 A C N ids tx c d u) : wx.cell? ⟨n5, 1, none⟩ = some (.string d) := by simp [World.cell?, h.blk]
theorem TJ.k2 (h : TJ w wx X0 n5 A C N ids tx c d u) : wx.cell? ⟨n5, 2, none⟩ = some u := by simp [World.cell?, h.blk]
/-- The text of an answer more. -/
theorem TJ.txt (h : TJ w wx X0 n5 A C N ids tx c d u) (hl : A.length ≤ 1000000) :
    ∃ v' w', (Builtin.append_ #[29, 29] 29 #[tx, .slice (some ⟨wx.heap.size, 0, none⟩) 1 1]).run Try.prog (wx.alloc (.cells #[.string d] 9)) = .ok v' w' ∧ (∃ a n c, v' = .slice a n c) ∧ R7 w' (X0 + 1) C N ids tx ∧ R7 (w'.setCell ⟨X0 + 1, 4, none⟩ v') (X0 + 1) C N ids v' ∧ R7 (w'.setCell ⟨X0 + 1, 4, none⟩ v') X0 0 0 (.slice none 0 0) (.slice none 0 0) ∧ TS (X0 + 2) ids (resI A) (w'.setCell ⟨X0 + 1, 4, none⟩ v') ∧ TS (X0 + 2) v' (resT A ++ [d]) (w'.setCell ⟨X0 + 1, 4, none⟩ v') ∧ (∀ i, ids.ownBlock = some i → v'.ownBlock ≠ some i) ∧ Below X0 w (w'.setCell ⟨X0 + 1, 4, none⟩ v') ∧ X0 + 2 ≤ (w'.setCell ⟨X0 + 1, 4, none⟩ v').heap.size ∧ (w'.setCell ⟨X0 + 1, 4, none⟩ v').heap[n5]? = some (.cells #[.int .i64 c, .string d, u] 62 (0, 0)) := by
  have hb : Below wx.heap.size wx (wx.alloc (.cells #[.string d] 9)) := (Below.refl _ _).alloc (Nat.le_refl _) _
  have hs := h.sz
  have hLS : LS t1 1 (fun _ => True) (wx.alloc (.cells #[.string d] 9)) (.slice (some ⟨wx.heap.size, 0, none⟩) 1 1) [d] := LS.one d 9 wx t1 1 _ trivial
  obtain ⟨v', w', h1, h2, h3, h4⟩ := OW.app (ST := 29) t1_len (by decide) (fun x _ => t1_one x) Try.underlying29 Try.infoTx rfl (h.t.keep hb).ow hLS (by have := resT_len A; simp; omega) (by have := resT_len A; simp; omega) (by simp; omega)
  have hi := h.i.keep hb
  have hilt := h.i.lt
  have hne2 : ∀ i, ids.ownBlock = some i → v'.ownBlock ≠ some i := fun i hi2 e => by
    rcases h4 with h4 | h4
    · rw [h4] at e; exact h.ne i hi2 e
    · rw [h4] at e; simp at e; have := (hilt i hi2).2; omega
  have hw : ∀ i, i < wx.heap.size → tx.ownBlock ≠ some i → w'.heap[i]? = wx.heap[i]? := fun i hi2 hn => (h3.block i (by simp; omega) (fun e => hn e.symm)).trans (hb.block i hi2)
  have htl := h.t.lt
  have hr' : R7 w' (X0 + 1) C N ids tx := (hw _ h.r.lt (fun e => by have := (htl _ e).1; omega)).trans h.r
  have hk : ∀ i, i ≠ X0 + 1 → (w'.setCell ⟨X0 + 1, 4, none⟩ v').heap[i]? = w'.heap[i]? := fun i hi => heap_setCell_other w' ⟨X0 + 1, 4, none⟩ i _ hi
  have hw's : wx.heap.size ≤ w'.heap.size := by have := h3.size; simp at this; omega
  have h2lt := h2.ts.lt
  refine ⟨v', w', h1, ?_, hr', heap_set_self hr', (hk X0 (by omega)).trans ((hw _ h.z.lt (fun e => by have := (htl _ e).1; omega)).trans h.z), ?_, ?_, hne2, ?_, by simp; omega, (hk n5 (by have := h.n5b; omega)).trans ((hw _ (lt_of_block h.blk) (fun e => ?_)).trans h.blk)⟩
  · obtain ⟨a, c, e⟩ := h2.shp; exact ⟨a, _, c, e⟩
  · exact h.i.kb fun i hi => (hk i (by have := (hilt i hi).1; omega)).trans (hw i (hilt i hi).2 (h.ne i hi))
  · exact h2.ts.kb fun i hi => hk i (by have := (h2lt i hi).1; omega)
  · exact ((Gs.refl (fun i => i = X0 + 1) w').set1 _ _).below ((h.be.trans (hb.mono (by omega))).grown h3 (by simp; omega) (fun i e => by have := (htl i e).1; omega)) (by omega) (fun i e => by omega)
  · obtain ⟨cs, hcs⟩ := h.t.ow.typ n5 e
    rw [h.blk] at hcs
    simp at hcs
/-- The names of an answer more. -/
theorem names_more {ids v' : Value} {L T l : List ByteArray} (hr : R7 wx (X0 + 1) C N ids v') (hz : R7 wx X0 0 0 (.slice none 0 0) (.slice none 0 0)) (hi : TS (X0 + 2) ids L wx) (ht : TS (X0 + 2) v' T wx) (hne : ∀ i, ids.ownBlock = some i → v'.ownBlock ≠ some i) (hbe : Below X0 w wx) (hs : X0 + 2 ≤ wx.heap.size) {r : Nat → Prop} (hl : LS t1 1 r wx u l) (hln : L.length + l.length ≤ 1000000000000) :
    ∃ v2 w', (Builtin.append_ #[29, 29] 29 #[ids, u]).run Try.prog wx = .ok v2 w' ∧ (∃ a n c, v2 = .slice a n c) ∧ R7 w' (X0 + 1) C N ids v' ∧ R7 (w'.setCell ⟨X0 + 1, 3, none⟩ v2) (X0 + 1) C N v2 v' ∧ R7 (w'.setCell ⟨X0 + 1, 3, none⟩ v2) X0 0 0 (.slice none 0 0) (.slice none 0 0) ∧ TS (X0 + 2) v2 (L ++ l) (w'.setCell ⟨X0 + 1, 3, none⟩ v2) ∧ TS (X0 + 2) v' T (w'.setCell ⟨X0 + 1, 3, none⟩ v2) ∧ (∀ i, v2.ownBlock = some i → v'.ownBlock ≠ some i) ∧ Below X0 w (w'.setCell ⟨X0 + 1, 3, none⟩ v2) ∧ X0 + 2 ≤ (w'.setCell ⟨X0 + 1, 3, none⟩ v2).heap.size := by
  obtain ⟨v2, w', h1, h2, h3, h4⟩ := OW.app (ST := 29) t1_len (by decide) (fun x _ => t1_one x) Try.underlying29 Try.infoTx rfl hi.ow hl (by omega) (by omega) hs
  have hilt := hi.lt
  have htl := ht.lt
  have hne2 : ∀ i, v2.ownBlock = some i → v'.ownBlock ≠ some i := fun i hi2 e => by
    rcases h4 with h4 | h4
    · rw [h4] at hi2; exact hne i hi2 e
    · rw [h4] at hi2; simp at hi2; have := (htl i e).2; omega
  have hw : ∀ i, i < wx.heap.size → ids.ownBlock ≠ some i → w'.heap[i]? = wx.heap[i]? := fun i hi2 hn => h3.block i hi2 (fun e => hn e.symm)
  have hr' : R7 w' (X0 + 1) C N ids v' := (hw _ hr.lt (fun e => by have := (hilt _ e).1; omega)).trans hr
  have hk : ∀ i, i ≠ X0 + 1 → (w'.setCell ⟨X0 + 1, 3, none⟩ v2).heap[i]? = w'.heap[i]? := fun i hi => heap_setCell_other w' ⟨X0 + 1, 3, none⟩ i _ hi
  have hw's := h3.size
  have h2lt := h2.ts.lt
  refine ⟨v2, w', h1, ?_, hr', heap_set_self hr', (hk X0 (by omega)).trans ((hw _ hz.lt (fun e => by have := (hilt _ e).1; omega)).trans hz), ?_, ?_, hne2, ?_, by simp; omega⟩
  · obtain ⟨a, c, e⟩ := h2.shp; exact ⟨a, _, c, e⟩
  · exact h2.ts.kb fun i hi => hk i (by have := (h2lt i hi).1; omega)
  · exact ht.kb fun i hi2 => (hk i (by have := (htl i hi2).1; omega)).trans (hw i (htl i hi2).2 (fun e => hne i e hi2))
  · exact ((Gs.refl (fun i => i = X0 + 1) w').set1 _ _).below (hbe.grown h3 (by omega) (fun i e => by have := (hilt i e).1; omega)) (by omega) (fun i e => by omega)
end
section
variable {w w' : World} {av : Value} {X : List (RR × Value)} {r : Nat → Prop}
end
end Go.Proofs.Ytiecoplfiahpnaa

namespace Go.Proofs.Ytiecoplfiahpnaa
open Go.RowKit Go.Lib Go.Maps
theorem Gs.und {p : Nat → Prop} {w w' : World} (h : Gs p w.drew w') : Gs p w w' := ⟨h.os, h.tape, h.output, h.size, h.block⟩
/-- What the closures of All keep. -/
structure CL (r : Nat → Prop) (w : World) (b : Nat) (l : List QT) (X : List (RR × Value)) (a1 a2 a3 a4 a5 : Nat) (tv rv av : Value) : Prop where
  h1 : w.heap[a1]? = some (.cells #[.pointer (some ⟨b, 0, none⟩)] 52 (0, 0))
  h2 : w.heap[a2]? = some (.cells #[tv] 63 (0, 0))
  h3 : w.heap[a3]? = some (.cells #[rv] 90 (0, 0))
  h4 : w.heap[a4]? = some (.cells #[av] 59 (0, 0))
  h5 : w.heap[a5]? = some (.cells #[.func (.func 65) #[] #[.pointer (some ⟨a4, 0, none⟩), .pointer (some ⟨a3, 0, none⟩), .pointer (some ⟨a1, 0, none⟩), .pointer (some ⟨a5, 0, none⟩), .pointer (some ⟨a2, 0, none⟩)]] 1 (0, 0))
  q : LS q4 4 r w rv l
  o : OW x3 3 62 0 av X w
  ns : ∀ x ∈ X, LS t1 1 r w x.2 x.1.l
  r1 : r a1
  r2 : r a2
  r3 : r a3
  r5 : r a5
  nb : ¬ r b
  n4 : ¬ r a4
  no : ∀ i, av.ownBlock = some i → ¬ r i
  rl : ∀ i, r i → i < w.heap.size
section
variable {r r' p : Nat → Prop} {w w' : World} {b a1 a2 a3 a4 a5 : Nat} {l : List QT} {X : List (RR × Value)} {tv rv av : Value} {st k s c N : Int} {n d : ByteArray} {go ids tx : Value} {op : Bool}
theorem CL.kb (h : CL r w b l X a1 a2 a3 a4 a5 tv rv av) (hs : w.heap.size ≤ w'.heap.size) (hk : ∀ i, i < w.heap.size → r i → w'.heap[i]? = w.heap[i]?) (h4 : w'.heap[a4]? = w.heap[a4]?) (ho : ∀ i, av.ownBlock = some i → w'.heap[i]? = w.heap[i]?) : CL r w' b l X a1 a2 a3 a4 a5 tv rv av :=
  ⟨(hk a1 (lt_of_block h.h1) h.r1).trans h.h1, (hk a2 (lt_of_block h.h2) h.r2).trans h.h2, (hk a3 (lt_of_block h.h3) h.r3).trans h.h3, h4.trans h.h4, (hk a5 (lt_of_block h.h5) h.r5).trans h.h5, h.q.kb hs fun i hr hi => hk i hi hr, h.o.kb ho, fun x hx => (h.ns x hx).kb hs fun i hr hi => hk i hi hr, h.r1, h.r2, h.r3, h.r5, h.nb, h.n4, h.no, fun i hi => Nat.lt_of_lt_of_le (h.rl i hi) hs⟩
theorem CL.bel (h : CL r w b l X a1 a2 a3 a4 a5 tv rv av) (hb : Below w.heap.size w w') : CL r w' b l X a1 a2 a3 a4 a5 tv rv av :=
  h.kb hb.size (fun i hi _ => hb.block i hi) (hb.block _ (lt_of_block h.h4)) (fun i hi => hb.block i (h.o.lt i hi).2)
theorem CL.b4 (h : CL r w b l X a1 a2 a3 a4 a5 tv rv av) (hJ : JB w b op st k n d go c N ids tx s) : b ≠ a4 := fun e => by
  have h4 := h.h4
  rw [← e, show w.heap[b]? = _ from hJ] at h4
  simp at h4
theorem CL.bo (h : CL r w b l X a1 a2 a3 a4 a5 tv rv av) (hJ : JB w b op st k n d go c N ids tx s) : av.ownBlock ≠ some b := fun e => by
  obtain ⟨cs, h4⟩ := h.o.typ b e
  rw [show w.heap[b]? = _ from hJ] at h4
  simp at h4
theorem CL.o4 (h : CL r w b l X a1 a2 a3 a4 a5 tv rv av) : av.ownBlock ≠ some a4 := fun e => by
  obtain ⟨cs, h4⟩ := h.o.typ a4 e
  rw [h.h4] at h4
  simp at h4
theorem CL.gb (h : CL r w b l X a1 a2 a3 a4 a5 tv rv av) (hJ : JB w b op st k n d go c N ids tx s) (hg : Gs (fun i => i = b) w w') : CL r w' b l X a1 a2 a3 a4 a5 tv rv av :=
  h.kb hg.size (fun i hi hr => hg.block i hi (fun e => h.nb (e ▸ hr))) (hg.block _ (lt_of_block h.h4) (fun e => h.b4 hJ e.symm)) (fun i hi => hg.block i (h.o.lt i hi).2 (fun e => h.bo hJ (e ▸ hi)))
theorem CL.cq (h : CL r w b l X a1 a2 a3 a4 a5 tv rv av) {j : Nat} {q : QT} (hq : l[j]? = some q) : ∃ g o c', rv = .slice (some ⟨g, o, none⟩) l.length c' ∧ w.cell? ⟨g, o + j * 4, none⟩ = some (.int .i64 q.st) ∧ w.cell? ⟨g, o + j * 4 + 1, none⟩ = some (.int .i64 q.k) ∧ w.cell? ⟨g, o + j * 4 + 2, none⟩ = some (.string q.n) ∧ w.cell? ⟨g, o + j * 4 + 3, none⟩ = some (.string q.d) := by
  obtain ⟨a, c, e, _, h | ⟨g, o, ea, _, _, hG⟩⟩ := h.q
  · rw [h] at hq; simp at hq
  · exact ⟨g, o, c, by rw [e, ea], hG j q hq 0 _ rfl, hG j q hq 1 _ rfl, hG j q hq 2 _ rfl, hG j q hq 3 _ rfl⟩

set_option maxRecDepth 100000 in
set_option maxHeartbeats 3200000 in
theorem next_ask (h : CL r w b l X a1 a2 a3 a4 a5 tv rv av) (hJ : JB w b true st k n d .nilFunc c N ids tx s) {q : QT} (hq : l[X.length]? = some q) :
    Calls Try.prog 65 #[.pointer (some ⟨a4, 0, none⟩), .pointer (some ⟨a3, 0, none⟩), .pointer (some ⟨a1, 0, none⟩), .pointer (some ⟨a5, 0, none⟩), .pointer (some ⟨a2, 0, none⟩)] w fun e w' => e = .returned (.tuple #[]) ∧ JB w' b true q.st q.k q.n q.d (.func (.func 67) #[] #[.pointer (some ⟨a4, 0, none⟩), .pointer (some ⟨a5, 0, none⟩)]) c N ids tx s ∧ Gs (fun i => i = b) w w' := by
  obtain ⟨g, o, cr, rfl, z0, z1, z2, z3⟩ := h.cq hq
  obtain ⟨aa, ca, hav⟩ := h.o.shp
  have y4 : w.cell? ⟨a4, 0, none⟩ = some av := by simp [World.cell?, h.h4]
  have y3 : w.cell? ⟨a3, 0, none⟩ = some (.slice (some ⟨g, o, none⟩) l.length cr) := by simp [World.cell?, h.h3]
  have y1 : w.cell? ⟨a1, 0, none⟩ = some (.pointer (some ⟨b, 0, none⟩)) := by simp [World.cell?, h.h1]
  have HK : Hid (∀ w1, Gs (fun i => i = b) w.drew w1 → w1.cell? ⟨a4, 0, none⟩ = some (.slice aa X.length ca) ∧ w1.cell? ⟨a3, 0, none⟩ = some (.slice (some ⟨g, o, none⟩) l.length cr) ∧ w1.cell? ⟨a1, 0, none⟩ = some (.pointer (some ⟨b, 0, none⟩)) ∧ w1.cell? ⟨g, o + X.length * 4, none⟩ = some (.int .i64 q.st) ∧ w1.cell? ⟨g, o + X.length * 4 + 1, none⟩ = some (.int .i64 q.k) ∧ w1.cell? ⟨g, o + X.length * 4 + 2, none⟩ = some (.string q.n) ∧ w1.cell? ⟨g, o + X.length * 4 + 3, none⟩ = some (.string q.d)) := fun w1 hg => by
    have h1 := CL.gb (w := w) h hJ (w' := w1) ⟨hg.os, hg.tape, hg.output, hg.size, hg.block⟩
    obtain ⟨g', o', cr', e', q0, q1, q2, q3⟩ := h1.cq hq
    cases e'
    exact ⟨by simp [World.cell?, h1.h4, hav], by simp [World.cell?, h1.h3], by simp [World.cell?, h1.h1], q0, q1, q2, q3⟩
  have hxl : X.length < l.length := (List.getElem?_eq_some_iff.1 hq).1
  rw [hav] at y4
  obtain ⟨m, hm⟩ : ∃ m, m = X.length := ⟨_, rfl⟩
  obtain ⟨ll, hll⟩ : ∃ ll, ll = l.length := ⟨_, rfl⟩
  rw [← hm, ← hll] at hxl
  rw [← hm] at z0 z1 z2 z3 y4 HK
  rw [← hll] at y3 HK
  have b1 : (m : Int) < (ll : Int) := by omega
  have b0 : (0 : Int) ≤ (m : Int) := by omega
  have hmf : ∀ (fn : Fn) (first cap : Array Value) (w : World), (Instr.makeFunc fn first cap).run Try.prog w = .ok (.func fn first cap) w := fun _ _ _ _ => rfl
  have HA : Hid _ := hide (ask_any (w := w.drew) hJ q.st q.k q.n q.d (.func 67) #[] #[.pointer (some ⟨a4, 0, none⟩), .pointer (some ⟨a5, 0, none⟩)])
  generalize q.st = qs at *
  generalize q.k = qk at *
  generalize q.n = qn at *
  generalize q.d = qd at *
  clear h hJ hav hq hm hll
  go_enter Try.func65, Try.ntmps65
  go_upto_region 1 with fail
  go_region_held3 (fun w' => w'.cell? ⟨a4, 0, none⟩ = some (.slice aa m ca) ∧ w'.cell? ⟨a3, 0, none⟩ = some (.slice (some ⟨g, o, none⟩) ll cr) ∧ w'.cell? ⟨a1, 0, none⟩ = some (.pointer (some ⟨b, 0, none⟩)) ∧ w'.cell? ⟨g, o + m * 4, none⟩ = some (.int .i64 qs) ∧ w'.cell? ⟨g, o + m * 4 + 1, none⟩ = some (.int .i64 qk) ∧ w'.cell? ⟨g, o + m * 4 + 2, none⟩ = some (.string qn) ∧ w'.cell? ⟨g, o + m * 4 + 3, none⟩ = some (.string qd)) (first | assumption | exact ⟨by assumption, by assumption, by assumption, by assumption, by assumption, by assumption, by assumption⟩)
    (first | (go_at_call 66; refine HA.out.mono ?_; rintro e w1 ⟨rfl, hJ1, hG1⟩; obtain ⟨k1, k2, k3, k4, k5, k6, k7⟩ := HK.out w1 hG1; have HF := hide (And.intro hJ1 hG1); clear hJ1 hG1))
  go_wp2
  go_end0
  exact ⟨rfl, HF.out.1, HF.out.2.und⟩
theorem x3_one {x : RR × Value} (h : ∃ a n c, x.2 = .slice a n c) : ∀ u ∈ x3 x, u.oneCell' = true := by
  obtain ⟨a, n, c, e⟩ := h
  intro u hu
  simp only [x3, List.mem_cons, List.not_mem_nil, or_false] at hu
  rcases hu with rfl | rfl | rfl
  · rfl
  · rfl
  · rw [e]; rfl
/-- The blocks that an answer may turn. -/
def mu (b a4 : Nat) (av : Value) (i : Nat) : Prop := i = b ∨ i = a4 ∨ av.ownBlock = some i
/-- An answer more. -/
theorem CL.app (h : CL r w b l X a1 a2 a3 a4 a5 tv rv av) (hJ : JB w b op st k n d go c N ids tx s) (x : RR × Value) (hx : LS t1 1 r w x.2 x.1.l) (hl : X.length ≤ 1000000) :
    ∃ v' w', (Builtin.append_ #[59, 59] 59 #[av, .slice (some ⟨w.heap.size, 0, none⟩) 1 1]).run Try.prog (w.alloc (.cells #[.int .i64 x.1.c, .string x.1.d, x.2] 62)) = .ok v' w' ∧ (∃ a n c, v' = .slice a n c) ∧ w'.heap[a4]? = some (.cells #[av] 59 (0, 0)) ∧ CL r (w'.setCell ⟨a4, 0, none⟩ v') b l (X ++ [x]) a1 a2 a3 a4 a5 tv rv v' ∧ JB (w'.setCell ⟨a4, 0, none⟩ v') b op st k n d go c N ids tx s ∧ Gs (mu b a4 av) w (w'.setCell ⟨a4, 0, none⟩ v') ∧ (v'.ownBlock = av.ownBlock ∨ v'.ownBlock = some (w.heap.size + 1)) := by
  have hb : Below w.heap.size w (w.alloc (.cells #[.int .i64 x.1.c, .string x.1.d, x.2] 62)) := (Below.refl _ _).alloc (Nat.le_refl _) _
  have hsx : ∃ a n c, x.2 = .slice a n c := by obtain ⟨a, c, e⟩ := hx.shp; exact ⟨a, _, c, e⟩
  have hLS : LS x3 3 (fun _ => True) (w.alloc (.cells #[.int .i64 x.1.c, .string x.1.d, x.2] 62)) (.slice (some ⟨w.heap.size, 0, none⟩) 1 1) [x] := LS.one x 62 w x3 3 _ trivial
  obtain ⟨v', w', h1, h2, h3, h4⟩ := OW.app (ST := 59) x3_len (by decide) (fun y hy => by simp at hy; subst hy; exact x3_one hsx) Try.underlying59 Try.infoA rfl (h.o.keep hb) hLS (by simp; omega) (by simp; omega) (Nat.zero_le _)
  have h4' : v'.ownBlock = av.ownBlock ∨ v'.ownBlock = some (w.heap.size + 1) := by simpa using h4
  have hw : ∀ i, i < w.heap.size → av.ownBlock ≠ some i → w'.heap[i]? = w.heap[i]? := fun i hi2 hn => (h3.block i (by simp; omega) (fun e => hn e.symm)).trans (hb.block i hi2)
  have hk : ∀ i, i ≠ a4 → (w'.setCell ⟨a4, 0, none⟩ v').heap[i]? = w'.heap[i]? := fun i hi => heap_setCell_other w' ⟨a4, 0, none⟩ i _ hi
  have hsz : w.heap.size + 1 ≤ w'.heap.size := by have := h3.size; simpa using this
  have h4w : w'.heap[a4]? = some (.cells #[av] 59 (0, 0)) := (hw a4 (lt_of_block h.h4) h.o4).trans h.h4
  have hr : ∀ i, i < w.heap.size → r i → (w'.setCell ⟨a4, 0, none⟩ v').heap[i]? = w.heap[i]? := fun i hi hr => (hk i (fun e => h.n4 (e ▸ hr))).trans (hw i hi (fun e => h.no i e hr))
  have hsz2 : w.heap.size ≤ (w'.setCell ⟨a4, 0, none⟩ v').heap.size := by simp; omega
  have ho4 : v'.ownBlock ≠ some a4 := fun e => by
    obtain ⟨cs, hcs⟩ := h2.typ a4 e
    rw [h4w] at hcs
    simp at hcs
  refine ⟨v', w', h1, ?_, h4w, ⟨(hr a1 (lt_of_block h.h1) h.r1).trans h.h1, (hr a2 (lt_of_block h.h2) h.r2).trans h.h2, (hr a3 (lt_of_block h.h3) h.r3).trans h.h3, heap_set_self h4w, (hr a5 (lt_of_block h.h5) h.r5).trans h.h5, h.q.kb hsz2 fun i hri hi => hr i hi hri, h2.kb fun i hi => hk i (fun e => ho4 (e ▸ hi)), ?_, h.r1, h.r2, h.r3, h.r5, h.nb, h.n4, ?_, fun i hi => Nat.lt_of_lt_of_le (h.rl i hi) hsz2⟩, ?_, ?_, h4'⟩
  · obtain ⟨a, c, e⟩ := h2.shp; exact ⟨a, _, c, e⟩
  · intro y hy
    rcases List.mem_append.1 hy with hy | hy
    · exact (h.ns y hy).kb hsz2 fun i hri hi => hr i hi hri
    · simp at hy; subst hy; exact hx.kb hsz2 fun i hri hi => hr i hi hri
  · intro i hi hri
    rcases h4' with e | e
    · rw [e] at hi; exact h.no i hi hri
    · rw [e] at hi; simp at hi; have := h.rl i hri; omega
  · exact (hk b (h.b4 hJ)).trans ((hw b hJ.lt (h.bo hJ)).trans hJ)
  · refine ⟨h3.os.trans rfl, h3.tape.trans rfl, h3.output.trans rfl, hsz2, fun i hi hn => ?_⟩
    exact (hk i (fun e => hn (.inr (.inl e)))).trans (hw i hi (fun e => hn (.inr (.inr e))))

end
end Go.Proofs.Ytiecoplfiahpnaa

namespace Go.Proofs.Ytiecoplfiahpnaa
open Go.RowKit Go.Lib Go.Maps
theorem Try.sizeAs : (Try.prog.info? 59).map (·.size) = some 1 := by kernel_rfl
section
variable {r r' p : Nat → Prop} {w w' : World} {b a1 a2 a3 a4 a5 i1 : Nat} {l : List QT} {X : List (RR × Value)} {tv rv av : Value} {st k s c N : Int} {n d : ByteArray} {go ids tx : Value} {op : Bool}
theorem mu_b {i : Nat} (h : i = b) : mu b a4 av i := .inl h
end
end Go.Proofs.Ytiecoplfiahpnaa

namespace Go.Proofs.Ytiecoplfiahpnaa
open Go.RowKit Go.Lib Go.Maps
/-- A go is done: what the job's settling comes to. -/
def RDY (b : Nat) (Q : World → Prop) (w' : World) : Prop :=
  (∃ op st k n d fn fi ca c N ids tx s, JB w' b op st k n d (.func fn fi ca) c N ids tx s ∧ ∀ w2, JB w2 b true st k n d (.func fn fi ca) c N ids tx s → Gs (fun i => i = b) w' w2 → Q w2) ∨
  (∃ op st k n d c N ids tx s, JB w' b op st k n d .nilFunc c N ids tx s ∧ ∀ w2, JB w2 b false st k n d .nilFunc c N ids tx s → Gs (fun i => i = b) w' w2 → Q w2)
section
variable {r r0 p : Nat → Prop} {w w' : World} {b : Nat} {st k s c N cc : Int} {n d dd : ByteArray} {go ids tx u : Value} {op : Bool} {ll : List ByteArray}
theorem settle_rdy {Q : World → Prop} (h : RDY b Q w) : Calls Try.prog 51 #[.pointer (some ⟨b, 0, none⟩)] w fun e w' => e = .returned (.tuple #[]) ∧ Q w' := by
  rcases h with ⟨op, st, k, n, d, fn, fi, ca, c, N, ids, tx, s, hJ, h⟩ | ⟨op, st, k, n, d, c, N, ids, tx, s, hJ, h⟩
  · refine (settle_on hJ).mono ?_
    rintro e w2 ⟨rfl, hJ2, hG⟩
    exact ⟨rfl, h w2 hJ2 hG⟩
  · refine (settle_off hJ).mono ?_
    rintro e w2 ⟨rfl, hJ2, hG⟩
    exact ⟨rfl, h w2 hJ2 hG⟩
/-- What lies there as the answer is handed on. -/
structure GV (w V : World) (b : Nat) (c N : Int) (ids tx : Value) (s : Int) (u' : Value) (ll : List ByteArray) : Prop where
  j : JB V b true 0 0 ⟨#[]⟩ ⟨#[]⟩ .nilFunc c N ids tx (s + 1)
  u : TS w.heap.size u' ll V
  g : Gs (fun i => i = b) w V
set_option maxRecDepth 100000 in
set_option maxHeartbeats 1600000 in
theorem give_off (h : JB w b op st k n d .nilFunc c N ids tx s) (u : Value) (cc : Int) (dd : ByteArray) :
    Calls Try.prog 38 #[.pointer (some ⟨b, 0, none⟩), .agg #[.int .i64 cc, .string dd, u]] w fun e w' => e = .returned (.int .i64 310) ∧ Below w.heap.size w w' := by
  have hJ := h.bel ((Below.refl w.heap.size w).alloc (Nat.le_refl _) (.cells #[.int .i64 cc, .string dd, u] 62))
  have y5 : (w.alloc (.cells #[.int .i64 cc, .string dd, u] 62)).cell? ⟨b, 5, none⟩ = some .nilFunc := hJ.cell 5
  obtain ⟨g1, g2, g3, g4⟩ := fe47
  clear h hJ
  go_enter Try.func38, Try.ntmps38
  go_wp2
  go_ret
  exact ⟨rfl, (Below.refl _ _).alloc (Nat.le_refl _) _⟩
set_option maxRecDepth 100000 in
set_option maxHeartbeats 3200000 in
theorem give_all {a4 a5 : Nat} (hJ : JB w b op st k n d (.func (.func 67) #[] #[.pointer (some ⟨a4, 0, none⟩), .pointer (some ⟨a5, 0, none⟩)]) c N ids tx s) (hop : op = true) (hu : LS t1 1 r0 w u ll) (hr0 : ¬ r0 b) (hll : ll.length ≤ 1000000000000) (hs0 : 0 ≤ s) (hs1 : s ≤ 1000000000) (cc : Int) (dd : ByteArray) {Q : World → Prop}
    (HC : ∀ V u', GV w V b c N ids tx s u' ll → Calls Try.prog 67 #[.agg #[.int .i64 cc, .string dd, u'], .pointer (some ⟨a4, 0, none⟩), .pointer (some ⟨a5, 0, none⟩)] V fun e w' => e = .returned (.tuple #[]) ∧ RDY b Q w') :
    Calls Try.prog 38 #[.pointer (some ⟨b, 0, none⟩), .agg #[.int .i64 cc, .string dd, u]] w fun e w' => e = .returned (.int .i64 0) ∧ Q w' := by
  subst hop
  obtain ⟨U, hU⟩ : ∃ U, U = w.alloc (.cells #[.int .i64 cc, .string dd, u] 62) := ⟨_, rfl⟩
  obtain ⟨X5, hX5⟩ : ∃ X5, X5 = w.heap.size := ⟨_, rfl⟩
  have hBU : Below w.heap.size w U := by rw [hU]; exact (Below.refl _ _).alloc (Nat.le_refl _) _
  have hJU := hJ.bel hBU
  have hbl : b < X5 := by rw [hX5]; exact hJ.lt
  have hblk : U.heap[X5]? = some (.cells #[.int .i64 cc, .string dd, u] 62 (0, 0)) := by rw [hU, hX5]; exact heap_alloc_new w _
  have hszU : U.heap.size = X5 + 1 := by rw [hU, hX5]; simp
  have y5 : U.cell? ⟨b, 5, none⟩ = some (.func (.func 67) #[] #[.pointer (some ⟨a4, 0, none⟩), .pointer (some ⟨a5, 0, none⟩)]) := hJU.cell 5
  have hrun1 := store_run (t := 69) (o := 1) hJU #[.int .i64 0, .int .i64 0, .string ⟨#[]⟩, .string ⟨#[]⟩] (Nat.le_of_ble_eq_true rfl) Try.sizeQ (by simp [Value.oneCell'])
  obtain ⟨V1, hV1⟩ : ∃ V1, V1 = U.setCells b 1 [.int .i64 0, .int .i64 0, .string ⟨#[]⟩, .string ⟨#[]⟩] := ⟨_, rfl⟩
  have hJ1 : JB V1 b true 0 0 ⟨#[]⟩ ⟨#[]⟩ (.func (.func 67) #[] #[.pointer (some ⟨a4, 0, none⟩), .pointer (some ⟨a5, 0, none⟩)]) c N ids tx s := by
    have h1 := setCells_self [.int .i64 0, .int .i64 0, .string ⟨#[]⟩, .string ⟨#[]⟩] 1 U _ hJU
    rw [← hV1] at h1
    simpa [putAll, JB] using h1
  have hG1 : Gs (fun i => i = b) U V1 := by rw [hV1]; exact Gs.cells _ _ _ (Gs.refl _ _) (.inl rfl)
  simp only [] at hrun1
  rw [← hV1] at hrun1
  have x5 : V1.cell? ⟨b, 5, none⟩ = some (.func (.func 67) #[] #[.pointer (some ⟨a4, 0, none⟩), .pointer (some ⟨a5, 0, none⟩)]) := hJ1.cell 5
  have f5 := hJ1.free 5
  have hJ2 : JB (V1.setCell ⟨b, 5, none⟩ .nilFunc) b true 0 0 ⟨#[]⟩ ⟨#[]⟩ .nilFunc c N ids tx s := heap_set_self hJ1
  have x13 : (V1.setCell ⟨b, 5, none⟩ .nilFunc).cell? ⟨b, 13, none⟩ = some (.int .i64 s) := hJ2.cell 13
  have f13 := hJ2.free 13
  have hJ3 : JB ((V1.setCell ⟨b, 5, none⟩ .nilFunc).setCell ⟨b, 13, none⟩ (.int .i64 (s + 1))) b true 0 0 ⟨#[]⟩ ⟨#[]⟩ .nilFunc c N ids tx (s + 1) := heap_set_self hJ2
  obtain ⟨V3, hV3⟩ : ∃ V3, V3 = (V1.setCell ⟨b, 5, none⟩ .nilFunc).setCell ⟨b, 13, none⟩ (.int .i64 (s + 1)) := ⟨_, rfl⟩
  rw [← hV3] at hJ3
  have hG3 : Gs (fun i => i = b) U V3 := by rw [hV3]; exact (hG1.set1 _ _).set1 _ _
  have hblk3 : V3.heap[X5]? = some (.cells #[.int .i64 cc, .string dd, u] 62 (0, 0)) := (hG3.block X5 (by omega) (by omega)).trans hblk
  have z2 : ((V1.setCell ⟨b, 5, none⟩ .nilFunc).setCell ⟨b, 13, none⟩ (.int .i64 (s + 1))).cell? ⟨X5, 2, none⟩ = some u := by rw [← hV3]; simp [World.cell?, hblk3]
  have HC1 := hide (cloneT ((hu.old.bel hBU).gs hG3 (fun i hi e => hr0 (e ▸ hi.1))) hll)
  have HU := hide hU
  have HV3 := hide hV3
  have HX := hide hX5
  have HF := hide (And.intro hBU (And.intro hG3 (And.intro hblk3 (And.intro hJ3 (And.intro hszU hbl)))))
  have HCC := hide HC
  obtain ⟨g1, g2, g3, g4⟩ := fe47
  clear hu hJU hblk hszU hV1 hJ1 hG1 hJ2 hJ3 hV3 hG3 hblk3 hU hX5 hBU hJ HC hbl
  go_enter Try.func38, Try.ntmps38
  go_upto_region 1 with fail
  rw [← HU.out, ← HX.out]
  go_wp2_with (refine wpList_store_run rfl 69 _ _ rfl _ _ rfl rfl hrun1 ?_)
  rw [← HV3.out]
  refine HC1.out.mono ?_
  rintro e w4 ⟨u', rfl, hT4, hB4⟩
  obtain ⟨hBU, hG3, hblk3, hJ3, hszU, hbl⟩ := HF.out
  have hX := HX.out
  have hblk4 := (hB4.block X5 (lt_of_block hblk3)).trans hblk3
  have hs := store1_run (t := 29) hblk4 (j := 2) (v := u') (Nat.le_of_ble_eq_true rfl) Try.sizeTs (by obtain ⟨a, c, e⟩ := hT4.shp; exact ⟨a, _, c, e⟩)
  obtain ⟨V5, hV5⟩ : ∃ V5, V5 = w4.setCell ⟨X5, 2, none⟩ u' := ⟨_, rfl⟩
  rw [← hV5] at hs
  have hblk5 : V5.heap[X5]? = some (.cells #[.int .i64 cc, .string dd, u'] 62 (0, 0)) := by rw [hV5]; exact heap_set_self hblk4
  have k0 : V5.cell? ⟨X5, 0, none⟩ = some (.int .i64 cc) := by simp [World.cell?, hblk5]
  have k1 : V5.cell? ⟨X5, 1, none⟩ = some (.string dd) := by simp [World.cell?, hblk5]
  have k2 : V5.cell? ⟨X5, 2, none⟩ = some u' := by simp [World.cell?, hblk5]
  have h3s := hG3.size
  have hGV : GV w V5 b c N ids tx s u' ll := by
    refine ⟨?_, ?_, ?_⟩
    · rw [hV5]
      exact (heap_setCell_other w4 ⟨X5, 2, none⟩ b _ (by show b ≠ X5; omega)).trans (hJ3.bel hB4)
    · rw [hV5]
      exact (hT4.set fun i hi => by have := (hT4.lt i hi).1; omega).low (by omega)
    · rw [hV5]
      exact (((Gs.of_below _ hBU).trans hG3).bel hB4).set (a := ⟨X5, 2, none⟩) (.inr (by show w.heap.size ≤ X5; omega)) _
  have HG := hide (HCC.out V5 u' hGV)
  clear hblk3 hJ3 hszU hbl hX hblk4 hV5 hblk5 h3s hGV hB4 hT4 hG3 hBU
  go_wp2_with (refine wpList_store_run rfl 29 _ _ rfl _ _ rfl rfl hs ?_)
  refine HG.out.mono ?_
  rintro e w6 ⟨rfl, hR⟩
  have HS := hide (settle_rdy hR)
  clear hR
  go_wp2_with fail
  refine HS.out.mono ?_
  rintro e w7 ⟨rfl, hQ⟩
  have HQ := hide hQ
  clear hQ
  go_wp2
  go_ret
  exact ⟨rfl, HQ.out⟩
end
end Go.Proofs.Ytiecoplfiahpnaa

namespace Go.Proofs.Ytiecoplfiahpnaa
open Go.RowKit Go.Lib Go.Maps
section
variable {r r0 p : Nat → Prop} {w w' : World} {b : Nat} {st k s c N cc : Int} {n d dd : ByteArray} {go ids tx u v : Value} {op : Bool} {l : List QT}
set_option maxRecDepth 100000 in
set_option maxHeartbeats 3200000 in
theorem all_any (hJ : JB w b true st k n d go c N ids tx s) (hl : LS q4 4 r0 w v l) (hn : l.length ≤ 1000000) (fn : Fn) (fi ca : Array Value) {Q : World → Prop}
    (HC : ∀ W a1 a2 a3 a4 a5 rv r, CL r W b l [] a1 a2 a3 a4 a5 (.func fn fi ca) rv (.slice none 0 0) → JB W b true st k n d go c N ids tx s → Below w.heap.size w W → (∀ i, r i → w.heap.size ≤ i) → w.heap.size ≤ a4 → a4 < W.heap.size → Calls Try.prog 65 #[.pointer (some ⟨a4, 0, none⟩), .pointer (some ⟨a3, 0, none⟩), .pointer (some ⟨a1, 0, none⟩), .pointer (some ⟨a5, 0, none⟩), .pointer (some ⟨a2, 0, none⟩)] W fun e w' => e = .returned (.tuple #[]) ∧ Q w') :
    Calls Try.prog 55 #[.pointer (some ⟨b, 0, none⟩), v, .func fn fi ca] w fun e w' => e = .returned (.tuple #[]) ∧ Q w' := by
  obtain ⟨U, hU⟩ : ∃ U, U = (w.alloc (.cells #[.pointer (some ⟨b, 0, none⟩)] 52)).alloc (.cells #[.func fn fi ca] 63) := ⟨_, rfl⟩
  obtain ⟨A, hA⟩ : ∃ A, A = w.heap.size := ⟨_, rfl⟩
  have hBU : Below w.heap.size w U := by rw [hU]; exact ((Below.refl _ _).alloc (Nat.le_refl _) _).alloc (by simp) _
  have hJU := hJ.bel hBU
  have hszU : U.heap.size = A + 2 := by rw [hU, hA]; simp
  have h1 : U.heap[A]? = some (.cells #[.pointer (some ⟨b, 0, none⟩)] 52 (0, 0)) := by rw [hU, hA, Below.heap_alloc _ _ _ (by simp)]; exact heap_alloc_new w _
  have h2 : U.heap[A + 1]? = some (.cells #[.func fn fi ca] 63 (0, 0)) := by
    rw [hU, hA]
    have := heap_alloc_new (w.alloc (.cells #[.pointer (some ⟨b, 0, none⟩)] 52)) (.cells #[.func fn fi ca] 63 (0, 0))
    simpa using this
  have y1 : U.cell? ⟨A, 0, none⟩ = some (.pointer (some ⟨b, 0, none⟩)) := by simp [World.cell?, h1]
  have HO := hide (isOpen_any hJU)
  have HQ := hide (cloneQ (hl.bel hBU) hn)
  have hbA : b < A := by rw [hA]; exact hJ.lt
  have HF := hide (And.intro h1 (And.intro h2 (And.intro hszU (And.intro hJU (And.intro hBU (And.intro hbA hA))))))
  have HU := hide hU
  have HA := hide hA
  have HCC := hide HC
  have hmf : ∀ (fn : Fn) (first cap : Array Value) (w : World), (Instr.makeFunc fn first cap).run Try.prog w = .ok (.func fn first cap) w := fun _ _ _ _ => rfl
  clear hl hJU hszU h1 h2 hBU hU hA HC hJ hbA
  go_enter Try.func55, Try.ntmps55
  go_upto_region 1 with fail
  rw [← HU.out, ← HA.out]
  go_wp2_with (go_at_call 48; refine HO.out.mono ?_; rintro e w1 ⟨rfl, rfl⟩)
  refine HQ.out.mono ?_
  rintro e w2 ⟨rv, rfl, hO2, hB2⟩
  obtain ⟨h1, h2, hszU, hJU, hBU, hbA, hA⟩ := HF.out
  obtain ⟨ar, cr, hrv⟩ := hO2.shp
  subst hrv
  obtain ⟨g, hg⟩ : ∃ g, g = w2.heap.size := ⟨_, rfl⟩
  obtain ⟨W, hW⟩ : ∃ W, W = ((w2.alloc (.cells #[.slice ar l.length cr] 90)).alloc (.cells #[.slice none 0 0] 59)).alloc (.cells #[.func (.func 65) #[] #[.pointer (some ⟨g + 1, 0, none⟩), .pointer (some ⟨g, 0, none⟩), .pointer (some ⟨A, 0, none⟩), .pointer (some ⟨g + 2, 0, none⟩), .pointer (some ⟨A + 1, 0, none⟩)]] 1) := ⟨_, rfl⟩
  have hBW : Below w2.heap.size w2 W := by rw [hW]; exact (((Below.refl _ _).alloc (Nat.le_refl _) _).alloc (by simp) _).alloc (by simp; omega) _
  have hszW : W.heap.size = g + 3 := by rw [hW, hg]; simp
  have h3 : W.heap[g]? = some (.cells #[.slice ar l.length cr] 90 (0, 0)) := by
    rw [hW, hg, Below.heap_alloc _ _ _ (by simp; omega), Below.heap_alloc _ _ _ (by simp)]
    exact heap_alloc_new w2 _
  have h4 : W.heap[g + 1]? = some (.cells #[.slice none 0 0] 59 (0, 0)) := by
    rw [hW, hg, Below.heap_alloc _ _ _ (by simp)]
    have := heap_alloc_new (w2.alloc (.cells #[.slice ar l.length cr] 90)) (.cells #[.slice none 0 0] 59 (0, 0))
    simpa using this
  have h5 : W.heap[g + 2]? = some (.cells #[.func (.func 65) #[] #[.pointer (some ⟨g + 1, 0, none⟩), .pointer (some ⟨g, 0, none⟩), .pointer (some ⟨A, 0, none⟩), .pointer (some ⟨g + 2, 0, none⟩), .pointer (some ⟨A + 1, 0, none⟩)]] 1 (0, 0)) := by
    rw [hW]
    have := heap_alloc_new ((w2.alloc (.cells #[.slice ar l.length cr] 90)).alloc (.cells #[.slice none 0 0] 59)) (.cells #[.func (.func 65) #[] #[.pointer (some ⟨g + 1, 0, none⟩), .pointer (some ⟨g, 0, none⟩), .pointer (some ⟨A, 0, none⟩), .pointer (some ⟨g + 2, 0, none⟩), .pointer (some ⟨A + 1, 0, none⟩)]] 1 (0, 0))
    simpa [hg] using this
  have hBUW : Below w1.heap.size w1 W := hB2.trans (hBW.mono hB2.size)
  have hB2s := hB2.size
  have hO2l := hO2.lt
  have hCL : CL (fun i => i = A ∨ i = A + 1 ∨ i = g ∨ i = g + 2 ∨ (Value.slice ar l.length cr).ownBlock = some i) W b l [] A (A + 1) g (g + 1) (g + 2) (.func fn fi ca) (.slice ar l.length cr) (.slice none 0 0) := by
    refine ⟨(hBUW.block A (by omega)).trans h1, (hBUW.block (A + 1) (by omega)).trans h2, h3, h4, h5, ((hO2.keep hBW).ls q4_len fun i hi => .inr (.inr (.inr (.inr hi)))), OW.nil _ _ _ _ _, (fun x hx => by simp at hx), .inl rfl, .inr (.inl rfl), .inr (.inr (.inl rfl)), .inr (.inr (.inr (.inl rfl))), ?_, ?_, (fun i e => by simp [Value.ownBlock] at e), ?_⟩
    · rintro (e | e | e | e | e)
      · omega
      · omega
      · omega
      · omega
      · have := (hO2l _ e).1; omega
    · rintro (e | e | e | e | e)
      · omega
      · omega
      · omega
      · omega
      · have := (hO2l _ e).2; omega
    · rintro i (e | e | e | e | e)
      · omega
      · omega
      · omega
      · omega
      · have := (hO2l _ e).2; omega
  have HN := hide (HCC.out W A (A + 1) g (g + 1) (g + 2) _ _ hCL (hJU.bel hBUW) (hBU.trans (hBUW.mono hBU.size)) (by
    rintro i (e | e | e | e | e)
    · omega
    · omega
    · omega
    · omega
    · have := (hO2l _ e).1; omega) (by omega) (by omega))
  have y5 : W.cell? ⟨g + 2, 0, none⟩ = some (.func (.func 65) #[] #[.pointer (some ⟨g + 1, 0, none⟩), .pointer (some ⟨g, 0, none⟩), .pointer (some ⟨A, 0, none⟩), .pointer (some ⟨g + 2, 0, none⟩), .pointer (some ⟨A + 1, 0, none⟩)]) := by simp [World.cell?, h5]
  have HW := hide hW
  have Hg := hide hg
  clear hCL h1 h2 hszU hJU hBU hbA hA h3 h4 h5 hBUW hB2s hO2l hO2 hB2 hBW hszW hW hg HF
  generalize l.length = ln at *
  go_upto_region 6 with fail
  rw [← Hg.out, ← HW.out]
  go_wp2_with fail
  refine HN.out.mono ?_
  rintro e w7 ⟨rfl, hQ⟩
  have HQ2 := hide hQ
  clear hQ
  go_wp2
  go_end0
  exact ⟨rfl, HQ2.out⟩
end
end Go.Proofs.Ytiecoplfiahpnaa

namespace Go.Proofs.Ytiecoplfiahpnaa
open Go.RowKit Go.Lib Go.Maps
section
variable {r r0 p P : Nat → Prop} {w w' : World} {b a1 a2 a3 a4 a5 i1 : Nat} {st k s c N cc : Int} {n d dd : ByteArray} {go ids tx u v tv rv av : Value} {op : Bool} {l : List QT} {X : List (RR × Value)} {A : List RR}
theorem CL.mono {r' : Nat → Prop} (h : CL r w b l X a1 a2 a3 a4 a5 tv rv av) (hr : ∀ i, r i → r' i) (hb : ¬ r' b) (h4 : ¬ r' a4) (ho : ∀ i, av.ownBlock = some i → ¬ r' i) (hl : ∀ i, r' i → i < w.heap.size) : CL r' w b l X a1 a2 a3 a4 a5 tv rv av :=
  ⟨h.h1, h.h2, h.h3, h.h4, h.h5, h.q.mono hr, h.o, fun x hx => (h.ns x hx).mono hr, hr _ h.r1, hr _ h.r2, hr _ h.r3, hr _ h.r5, hb, h4, ho, hl⟩
end
end Go.Proofs.Ytiecoplfiahpnaa

namespace Go.Proofs.Ytiecoplfiahpnaa
open Go.RowKit Go.Lib Go.Maps
section
variable {r r0 p P : Nat → Prop} {w w' : World} {b a1 a2 a3 a4 a5 i1 : Nat} {st k s c N : Int} {n d : ByteArray} {go ids tx u v tv rv av : Value} {op : Bool} {l : List QT} {X : List (RR × Value)} {A : List RR} {ll : List ByteArray}
/-- What the job's Result tells: noughts, till it is over. -/
def RC (l : List QT) (A : List RR) : Int := if A.length < l.length then 0 else resC A
def RN (l : List QT) (A : List RR) : Nat := if A.length < l.length then 0 else resN A
def RI (l : List QT) (A : List RR) : List ByteArray := if A.length < l.length then [] else resI A
def RT (l : List QT) (A : List RR) : List ByteArray := if A.length < l.length then [] else resT A
theorem RN_le (l : List QT) (A : List RR) : RN l A ≤ A.length := by unfold RN; have := resN_le A; split <;> omega
end
end Go.Proofs.Ytiecoplfiahpnaa

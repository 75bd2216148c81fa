/-
  Port: asking, and which request a job waits for.
-/
import Derived.Test.YtepmhgkegfpmjaaPoJob
namespace Go.Proofs.Ytepmhgkegfpmjaa
open Go.RowKit Go.Lib Go.Maps
theorem Try.sizeQ : (Try.prog.info? 38).map (·.size) = some 4 := by kernel_rfl
theorem Try.sizeIO : (Try.prog.info? 81).map (·.size) = some 13 := by kernel_rfl
section
variable {w w' : World} {b : Nat} {op : Bool} {st k c N s : Int} {n d : ByteArray} {go ids tx : Value}
set_option maxRecDepth 100000 in
set_option maxHeartbeats 1600000 in
theorem ask_any (h : JB w b true st k n d .nilFunc c N ids tx s) (st' k' : Int) (n' d' : ByteArray) (fn : Fn) (fi ca : Array Value) :
    Calls Try.prog 48 #[.pointer (some ⟨b, 0, none⟩), .agg #[.int .i64 st', .int .i64 k', .string n', .string d'], .func fn fi ca] w fun e w' => e = .returned (.tuple #[]) ∧ JB w' b true st' k' n' d' (.func fn fi ca) c N ids tx s ∧ Gs (fun i => i = b) w w' := by
  obtain ⟨U, hU⟩ : ∃ U, U = w.alloc (.cells #[.int .i64 st', .int .i64 k', .string n', .string d'] 38) := ⟨_, rfl⟩
  have hBU : Below w.heap.size w U := by rw [hU]; exact (Below.refl _ _).alloc (Nat.le_refl _) _
  have hJ : JB U b true st k n d .nilFunc c N ids tx s := h.bel hBU
  have y5 : U.cell? ⟨b, 5, none⟩ = some .nilFunc := hJ.cell 5
  have hq : U.heap[w.heap.size]? = some (.cells #[.int .i64 st', .int .i64 k', .string n', .string d'] 38 (0, 0)) := by rw [hU]; exact heap_alloc_new w _
  have r0 : U.cell? ⟨w.heap.size, 0, none⟩ = some (.int .i64 st') := by simp [World.cell?, hq]
  have r1 : U.cell? ⟨w.heap.size, 1, none⟩ = some (.int .i64 k') := by simp [World.cell?, hq]
  have r2 : U.cell? ⟨w.heap.size, 2, none⟩ = some (.string n') := by simp [World.cell?, hq]
  have r3 : U.cell? ⟨w.heap.size, 3, none⟩ = some (.string d') := by simp [World.cell?, hq]
  have hrun := store_run (t := 38) (o := 1) hJ #[.int .i64 st', .int .i64 k', .string n', .string d'] (Nat.le_of_ble_eq_true rfl) Try.sizeQ (by simp [Value.oneCell'])
  have HJ2 : JB (U.setCells b 1 [.int .i64 st', .int .i64 k', .string n', .string d']) b true st' k' n' d' .nilFunc c N ids tx s := setCells_self _ _ _ _ hJ
  have HG2 : Hid (Gs (fun i => i = b) w (U.setCells b 1 [.int .i64 st', .int .i64 k', .string n', .string d'])) := Gs.cells _ _ _ (Gs.of_below _ hBU) (.inl rfl)
  obtain ⟨V, hV⟩ : ∃ V, V = U.setCells b 1 [.int .i64 st', .int .i64 k', .string n', .string d'] := ⟨_, rfl⟩
  simp only [] at hrun
  rw [← hV] at hrun HJ2 HG2
  have z5 : V.cell? ⟨b, 5, none⟩ = some .nilFunc := HJ2.cell 5
  have zf : V.frozen? ⟨b, 5, none⟩ = false := HJ2.free 5
  have HJ := hide hJ
  have HU := hide hU
  have HJ3 := hide HJ2
  clear hJ hU HJ2 hV h hq hBU
  go_enter Try.func48, Try.ntmps48
  obtain ⟨g1, g2, g3, g4⟩ := fe47
  go_upto_region 1 with fail
  rw [← HU.out]
  go_wp2_with (first | (go_at_call 45; refine (isOpen_any HJ.out).mono ?_; rintro e w1 ⟨rfl, rfl⟩) | (refine wpList_store_run rfl 38 _ _ rfl _ _ rfl rfl hrun ?_))
  go_end0
  exact ⟨rfl, heap_set_self HJ3.out, HG2.out.set1 _ _⟩
set_option maxRecDepth 100000 in
set_option maxHeartbeats 1600000 in
theorem next_on {fn : Fn} {fi ca : Array Value} (h : JB w b op st k n d (.func fn fi ca) c N ids tx s) :
    Calls Try.prog 10 #[.pointer (some ⟨b, 0, none⟩)] w fun e w' => e = .returned (.tuple #[.agg #[.int .i64 st, .int .i64 k, .string n, .string d], .bool true]) ∧ Below w.heap.size w w' := by
  have hJ := h.bel ((Below.refl w.heap.size w).alloc (Nat.le_refl _) (.cells #[.int .i64 0, .int .i64 0, .string ⟨#[]⟩, .string ⟨#[]⟩] 38))
  have y1 : (w.alloc (.cells #[.int .i64 0, .int .i64 0, .string ⟨#[]⟩, .string ⟨#[]⟩] 38)).cell? ⟨b, 1, none⟩ = some (.int .i64 st) := hJ.cell 1
  have y2 : (w.alloc (.cells #[.int .i64 0, .int .i64 0, .string ⟨#[]⟩, .string ⟨#[]⟩] 38)).cell? ⟨b, 2, none⟩ = some (.int .i64 k) := hJ.cell 2
  have y3 : (w.alloc (.cells #[.int .i64 0, .int .i64 0, .string ⟨#[]⟩, .string ⟨#[]⟩] 38)).cell? ⟨b, 3, none⟩ = some (.string n) := hJ.cell 3
  have y4 : (w.alloc (.cells #[.int .i64 0, .int .i64 0, .string ⟨#[]⟩, .string ⟨#[]⟩] 38)).cell? ⟨b, 4, none⟩ = some (.string d) := hJ.cell 4
  have y5 : (w.alloc (.cells #[.int .i64 0, .int .i64 0, .string ⟨#[]⟩, .string ⟨#[]⟩] 38)).cell? ⟨b, 5, none⟩ = some ((.func fn fi ca)) := hJ.cell 5
  have z5 : (w.alloc (.cells #[.int .i64 st, .int .i64 k, .string n, .string d] 38)).cell? ⟨b, 5, none⟩ = some ((.func fn fi ca)) := (h.bel ((Below.refl w.heap.size w).alloc (Nat.le_refl _) (.cells #[.int .i64 st, .int .i64 k, .string n, .string d] 38))).cell 5
  obtain ⟨g1, g2, g3, g4⟩ := fe47
  clear hJ h
  go_enter Try.func10, Try.ntmps10
  go_upto_region 1 with fail
  go_region
  go_wp2
  exact bodyPost_ret (v := .tuple #[.agg #[.int .i64 st, .int .i64 k, .string n, .string d], .bool true]) (by simp [results, Try.results10, go_sem]) rfl ⟨rfl, (Below.refl _ _).drew.alloc (Nat.le_refl _) _⟩
set_option maxRecDepth 100000 in
set_option maxHeartbeats 1600000 in
theorem next_off (h : JB w b op st k n d .nilFunc c N ids tx s) :
    Calls Try.prog 10 #[.pointer (some ⟨b, 0, none⟩)] w fun e w' => e = .returned (.tuple #[.agg #[.int .i64 st, .int .i64 k, .string n, .string d], .bool false]) ∧ Below w.heap.size w w' := by
  have hJ := h.bel ((Below.refl w.heap.size w).alloc (Nat.le_refl _) (.cells #[.int .i64 0, .int .i64 0, .string ⟨#[]⟩, .string ⟨#[]⟩] 38))
  have y1 : (w.alloc (.cells #[.int .i64 0, .int .i64 0, .string ⟨#[]⟩, .string ⟨#[]⟩] 38)).cell? ⟨b, 1, none⟩ = some (.int .i64 st) := hJ.cell 1
  have y2 : (w.alloc (.cells #[.int .i64 0, .int .i64 0, .string ⟨#[]⟩, .string ⟨#[]⟩] 38)).cell? ⟨b, 2, none⟩ = some (.int .i64 k) := hJ.cell 2
  have y3 : (w.alloc (.cells #[.int .i64 0, .int .i64 0, .string ⟨#[]⟩, .string ⟨#[]⟩] 38)).cell? ⟨b, 3, none⟩ = some (.string n) := hJ.cell 3
  have y4 : (w.alloc (.cells #[.int .i64 0, .int .i64 0, .string ⟨#[]⟩, .string ⟨#[]⟩] 38)).cell? ⟨b, 4, none⟩ = some (.string d) := hJ.cell 4
  have y5 : (w.alloc (.cells #[.int .i64 0, .int .i64 0, .string ⟨#[]⟩, .string ⟨#[]⟩] 38)).cell? ⟨b, 5, none⟩ = some (.nilFunc) := hJ.cell 5
  have z5 : (w.alloc (.cells #[.int .i64 st, .int .i64 k, .string n, .string d] 38)).cell? ⟨b, 5, none⟩ = some (.nilFunc) := (h.bel ((Below.refl w.heap.size w).alloc (Nat.le_refl _) (.cells #[.int .i64 st, .int .i64 k, .string n, .string d] 38))).cell 5
  obtain ⟨g1, g2, g3, g4⟩ := fe47
  clear hJ h
  go_enter Try.func10, Try.ntmps10
  go_upto_region 1 with fail
  go_region
  go_wp2
  exact bodyPost_ret (v := .tuple #[.agg #[.int .i64 st, .int .i64 k, .string n, .string d], .bool false]) (by simp [results, Try.results10, go_sem]) rfl ⟨rfl, (Below.refl _ _).drew.alloc (Nat.le_refl _) _⟩
end
end Go.Proofs.Ytepmhgkegfpmjaa

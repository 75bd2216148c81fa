/-
  The contracts of sync.Once's two roads, and of the method that tells the tables.
-/
import Derived.Test.YtfjkdmiaagalhaaGreatTable
namespace Go.Proofs.YtfjkdmiaagalhaaGreat
open Go.RowKit Go.Lib

theorem cell_congr {w w' : World} {b o : Nat} (h : w'.heap[b]? = w.heap[b]?) : w'.cell? ⟨b, o, none⟩ = w.cell? ⟨b, o, none⟩ := by simp [World.cell?, h]
theorem below_undrew {w w' : World} (h : Below w.drew.heap.size w.drew w') : Below w.heap.size w w' := ⟨h.os, h.tape, h.output, h.size, h.block⟩
theorem kept_pl {w w' : World} {pl : Addr} {v : Value} (h : Below w.heap.size w w') (hl : pl.block < w.heap.size) (hp : w.cell? pl = some v) : w'.cell? pl = some v := (h.cell hl).trans hp

theorem maker_world {w w' : World} {b : Nat} {x0 x1 x2 : Value} (hB : w.heap[b]? = some (.cells [x0, x1, x2, .pointer none].toArray 92 (0, 0))) (hT : TB w' w.heap.size) (hbel : Below w.heap.size w w') :
    ∃ t, t ≠ b ∧ (w'.setCell ⟨b, 3, none⟩ (.pointer (some ⟨w.heap.size, 0, none⟩))).heap[b]? = some (.cells [x0, x1, x2, .pointer (some ⟨t, 0, none⟩)].toArray 92 (0, 0)) ∧ TB (w'.setCell ⟨b, 3, none⟩ (.pointer (some ⟨w.heap.size, 0, none⟩))) t ∧
      w.grownBy (w'.setCell ⟨b, 3, none⟩ (.pointer (some ⟨w.heap.size, 0, none⟩))) (some b) := by
  have hlt := lt_of_block hB
  have hB' := (hbel.block b hlt).trans hB
  refine ⟨w.heap.size, by omega, heap_set_list _ hB', hT.of_block (heap_setCell_other _ _ _ _ (by simp; omega)), gb_trans (gb_below hbel _) (gb_set _ _ _ _)⟩

/-- What the Once is handed: the tables are made, and kept. -/
theorem maker_any {w : World} {b : Nat} {pl : Addr} {x0 x1 x2 : Value} (hB : w.heap[b]? = some (.cells [x0, x1, x2, .pointer none].toArray 92 (0, 0))) (hl : pl.block < w.heap.size) (hp : w.cell? pl = some (.pointer (some ⟨b, 0, none⟩))) :
    Calls Tryz.prog 68 #[.pointer (some pl)] w fun e w' => e = .returned (.tuple #[]) ∧ ∃ t, t ≠ b ∧ w'.heap[b]? = some (.cells [x0, x1, x2, .pointer (some ⟨t, 0, none⟩)].toArray 92 (0, 0)) ∧ TB w' t ∧ w.grownBy w' (some b) := by
  have hlt := lt_of_block hB
  have c3 : w.cell? ⟨b, 3, none⟩ = some (.pointer none) := by rw [cell_of_row w b 3 _ _ _ hB]; rfl
  have f3 := frozen_of_row w b 3 _ _ hB
  have HB : Hid _ := hB
  clear hB
  go_enter Tryz.func68, Tryz.ntmps68
  go_wp2_with fail
  go_region_with (go_at_call 69; refine (make_any _).mono ?_; rintro e w' ⟨rfl, hT, hbel⟩; have e1 := kept_pl hbel hl hp; have e3 := kept_pl (pl := ⟨b, 3, none⟩) hbel hlt c3; have e4 := (hbel.frozen (p := ⟨b, 3, none⟩) hlt).trans f3)
  all_goals
    go_end0
    refine ⟨rfl, maker_world HB.out hT (below_undrew hbel)⟩

set_option maxRecDepth 100000 in
set_option maxHeartbeats 800000 in
theorem slow_any {w : World} {b : Nat} {pl : Addr} (hF : FB w b 0 (.pointer none)) (hpb : ¬ b = pl.block) (hpl : pl.block < w.heap.size) (hp : w.cell? pl = some (.pointer (some ⟨b, 0, none⟩))) :
    Calls Tryz.prog 80 #[.pointer (some ⟨b, 0, none⟩), .func (.func 68) #[] #[.pointer (some pl)]] w fun e w' => e = .returned (.tuple #[]) ∧ ∃ t, t ≠ b ∧ FB w' b 1 (.pointer (some ⟨t, 0, none⟩)) ∧ TB w' t ∧ w.grownBy w' (some b) := by
  have hlt := hF.lt
  have c0 := hF.cell0
  have c1 := hF.cell1
  have c3 := hF.cell3
  have f1 := hF.free 1
  have hnot : ∀ (x : Bool) (w : World), (Op.unary .not (.bool x)).run Tryz.prog w = .ok (.bool (!x)) w := fun _ _ => rfl
  have d0 : (w.setCell ⟨b, 1, none⟩ (.int .i32 1)).cell? ⟨b, 0, none⟩ = some (.int .u32 0) := (cell_ne w b 1 0 _ (by decide)).trans c0
  have d3 : (w.setCell ⟨b, 1, none⟩ (.int .i32 1)).cell? ⟨b, 3, none⟩ = some (.pointer none) := (cell_ne w b 1 3 _ (by decide)).trans c3
  have dp : (w.setCell ⟨b, 1, none⟩ (.int .i32 1)).cell? pl = some (.pointer (some ⟨b, 0, none⟩)) := (World.cell?_setCell_other _ ⟨b, 1, none⟩ pl _ (fun h => hpb (by rw [← h]))).trans hp
  go_enter_defers Tryz.func80, Tryz.ntmps80
  go_wp2_with fail
  refine (lock_free ⟨b, 1, none⟩ _ c1 f1).mono ?_
  rintro e w1 ⟨rfl, rfl⟩
  go_wp2_with fail
  refine (load_any _ 0 _ d0).mono ?_
  rintro e w1 ⟨rfl, rfl⟩
  go_wp2_with fail
  refine (maker_any (heap_set_list _ hF) (by simpa using hpl) dp).mono ?_
  rintro e w2 ⟨rfl, t, ht, hb2, hT2, hg2⟩
  go_wp2
  have s0 : w2.cell? ⟨b, 0, none⟩ = some (.int .u32 0) := by rw [cell_of_row w2 b 0 _ _ _ hb2]; rfl
  have g0 := frozen_of_row w2 b 0 _ _ hb2
  have hb3 : (w2.drew.setCell ⟨b, 0, none⟩ (.int .u32 1)).heap[b]? = _ := heap_set_list (w := w2.drew) (o := 0) (.int .u32 1) hb2
  have s1 : (w2.drew.setCell ⟨b, 0, none⟩ (.int .u32 1)).cell? ⟨b, 1, none⟩ = some (.int .i32 1) := by rw [cell_of_row _ b 1 _ _ _ hb3]; rfl
  have g1 := frozen_of_row _ b 1 _ _ hb3
  refine leaves_cons (f := 92) (args := #[.pointer (some ⟨b, 0, none⟩), .bool true]) (by simp) (by simp [go_sem]) ?_
  refine (store_deferred ⟨b, 0, none⟩ (.int .u32 0) .returning _ s0 g0).mono ?_
  rintro e u' w'' ⟨rfl, rfl, rfl⟩
  refine leaves_cons (f := 91) (args := #[.pointer (some ⟨b, 1, none⟩)]) (by simp [settle]) (by simp [go_sem]) ?_
  refine (unlock_deferred ⟨b, 1, none⟩ _ _ s1 g1).mono ?_
  rintro e u' w'' ⟨rfl, rfl, rfl⟩
  simp only [Leaves, settle, results, Tryz.results80]
  have hb4 := heap_set_list (o := 1) (.int .i32 0) hb3
  have hT4 : TB ((w2.drew.setCell ⟨b, 0, none⟩ (.int .u32 1)).setCell ⟨b, 1, none⟩ (.int .i32 0)) t := hT2.of_block (by rw [heap_setCell_other _ _ _ _ (by simp; exact ht), heap_setCell_other _ _ _ _ (by simp; exact ht)]; rfl)
  have hg4 : w.grownBy ((w2.drew.setCell ⟨b, 0, none⟩ (.int .u32 1)).setCell ⟨b, 1, none⟩ (.int .i32 0)) (some b) := gb_trans (gb_trans (gb_set _ _ _ _) hg2) (gb_trans (gb_trans (gb_drewN (gb_refl w2 _) 1) (gb_set _ _ _ _)) (gb_set _ _ _ _))
  simp
  exact ⟨t, ht, hb4, hT4, hg4⟩

theorem do_done {w : World} {b : Nat} {m fv : Value} (hF : FB w b 1 m) :
    Calls Tryz.prog 67 #[.pointer (some ⟨b, 0, none⟩), fv] w fun e w' => e = .returned (.tuple #[]) ∧ w' = w := by
  have hnot : ∀ (x : Bool) (w : World), (Op.unary .not (.bool x)).run Tryz.prog w = .ok (.bool (!x)) w := fun _ _ => rfl
  have c0 := hF.cell0
  go_enter Tryz.func67, Tryz.ntmps67
  go_wp2_with fail
  refine (load_any _ 1 _ c0).mono ?_
  rintro e w1 ⟨rfl, rfl⟩
  go_wp2
  go_end0
  exact ⟨rfl, rfl⟩

theorem do_first {w : World} {b : Nat} {pl : Addr} (hF : FB w b 0 (.pointer none)) (hpb : ¬ b = pl.block) (hpl : pl.block < w.heap.size) (hp : w.cell? pl = some (.pointer (some ⟨b, 0, none⟩))) :
    Calls Tryz.prog 67 #[.pointer (some ⟨b, 0, none⟩), .func (.func 68) #[] #[.pointer (some pl)]] w fun e w' => e = .returned (.tuple #[]) ∧ ∃ t, t ≠ b ∧ FB w' b 1 (.pointer (some ⟨t, 0, none⟩)) ∧ TB w' t ∧ w.grownBy w' (some b) := by
  have hnot : ∀ (x : Bool) (w : World), (Op.unary .not (.bool x)).run Tryz.prog w = .ok (.bool (!x)) w := fun _ _ => rfl
  have c0 := hF.cell0
  go_enter Tryz.func67, Tryz.ntmps67
  go_wp2_with fail
  refine (load_any _ 0 _ c0).mono ?_
  rintro e w1 ⟨rfl, rfl⟩
  go_wp2_with fail
  refine (slow_any hF hpb hpl hp).mono ?_
  rintro e w1 ⟨rfl, R⟩
  go_wp2
  go_end0
  exact ⟨rfl, R⟩

/-- The tables: made now, or there already. -/
theorem tables_any {w : World} {b : Nat} (hF : F w b) :
    Calls Tryz.prog 56 #[.pointer (some ⟨b, 0, none⟩)] w fun e w' => ∃ t, e = .returned (.pointer (some ⟨t, 0, none⟩)) ∧ TB w' t ∧ F w' b ∧ w.grownBy w' (some b) := by
  have hlt := hF.lt
  have hmf : ∀ (fn : Fn) (first cap : Array Value) (w : World), (Instr.makeFunc fn first cap).run Tryz.prog w = .ok (.func fn first cap) w := fun _ _ _ _ => rfl
  have hb1 : Below w.heap.size w (w.alloc (.cells #[.pointer (some ⟨b, 0, none⟩)] 53)) := (Below.refl _ _).alloc (Nat.le_refl _) _
  have hp : (w.alloc (.cells #[.pointer (some ⟨b, 0, none⟩)] 53)).cell? ⟨w.heap.size, 0, none⟩ = some (.pointer (some ⟨b, 0, none⟩)) := by simp
  rcases hF with hF | ⟨t, ht, hF, hT⟩
  · have hF1 := hF.of_block (hb1.block b hlt)
    go_enter Tryz.func56, Tryz.ntmps56
    go_wp2_with fail
    refine (do_first (pl := ⟨w.heap.size, 0, none⟩) hF1 (by simp; omega) (by simp) hp).mono ?_
    rintro e w2 ⟨rfl, t, ht, hF2, hT2, hg2⟩
    have hp2 : w2.cell? ⟨w.heap.size, 0, none⟩ = some (.pointer (some ⟨b, 0, none⟩)) := by
      rw [← hp]
      exact cell_congr (hg2.block w.heap.size (by simp) (by simp; omega))
    have c3 := hF2.cell3
    go_wp2
    go_ret
    exact ⟨t, rfl, hT2, .inr ⟨t, ht, hF2, hT2⟩, gb_trans (gb_below hb1 _) hg2⟩
  · have hF1 := hF.of_block (hb1.block b hlt)
    have hT1 := hT.of_block (hb1.block t hT.lt)
    go_enter Tryz.func56, Tryz.ntmps56
    go_wp2_with fail
    refine (do_done hF1).mono ?_
    rintro e w2 ⟨rfl, rfl⟩
    have c3 := hF1.cell3
    go_wp2
    go_ret
    exact ⟨t, rfl, hT1, .inr ⟨t, ht, hF1, hT1⟩, gb_below hb1 _⟩
end Go.Proofs.YtfjkdmiaagalhaaGreat

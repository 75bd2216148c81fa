/-
  Lookup: which items may be, which of two stands ahead, as the document has it: the statement's walk.
-/
import Derived.Test.YtkcefdiiibbflaaLuWork
import Derived.Test.YtkcefdiiibbflaaLuRLess
import Derived.Test.YtkcefdiiibbflaaLuChk
namespace Go.Proofs.Ytkcefdiiibbflaa
open Go.RowKit Go.Lib
/-- Two items in variables of their own. -/
def K2 (w : World) (X Y : IT) (wx : World) : Prop := Hid (Below w.heap.size w wx) ∧ wx.cell? ⟨w.heap.size, 0, none⟩ = some (.string X.id) ∧ wx.cell? ⟨w.heap.size, 1, none⟩ = some (.string X.pk) ∧ wx.cell? ⟨w.heap.size, 2, none⟩ = some (.int .i64 X.kind) ∧ wx.cell? ⟨w.heap.size, 3, none⟩ = some (.int .i64 X.off) ∧ wx.cell? ⟨w.heap.size, 4, none⟩ = some (.int .i64 X.long) ∧ wx.cell? ⟨w.heap.size, 5, none⟩ = some (.int .i64 X.size) ∧ wx.cell? ⟨w.heap.size + 1, 0, none⟩ = some (.string Y.id) ∧ wx.cell? ⟨w.heap.size + 1, 1, none⟩ = some (.string Y.pk) ∧ wx.cell? ⟨w.heap.size + 1, 2, none⟩ = some (.int .i64 Y.kind) ∧ wx.cell? ⟨w.heap.size + 1, 3, none⟩ = some (.int .i64 Y.off) ∧ wx.cell? ⟨w.heap.size + 1, 4, none⟩ = some (.int .i64 Y.long) ∧ wx.cell? ⟨w.heap.size + 1, 5, none⟩ = some (.int .i64 Y.size)
theorem K2.step {w wx wy : World} {X Y : IT} (h : K2 w X Y wx) (k : Below wx.heap.size wx wy) : K2 w X Y wy := by
  obtain ⟨h0, x0, x1, x2, x3, x4, x5, y0, y1, y2, y3, y4, y5⟩ := h
  have hc : ∀ (a : Addr) (v : Value), wx.cell? a = some v → wy.cell? a = some v := fun a v e => by
    refine (k.cell (p := a) ?_).trans e
    rcases Nat.lt_or_ge a.block wx.heap.size with h | h
    · exact h
    · simp [World.cell?, Array.getElem?_eq_none h] at e
  exact ⟨hide (below_step h0.out k), hc _ _ x0, hc _ _ x1, hc _ _ x2, hc _ _ x3, hc _ _ x4, hc _ _ x5, hc _ _ y0, hc _ _ y1, hc _ _ y2, hc _ _ y3, hc _ _ y4, hc _ _ y5⟩
theorem K2.start (w : World) (X Y : IT) : K2 w X Y ((w.alloc (.cells (it6 X).toArray 25)).alloc (.cells (it6 Y).toArray 25)) := by
  have k0 : ((w.alloc (.cells (it6 X).toArray 25)).alloc (.cells (it6 Y).toArray 25)).heap[w.heap.size]? = some (.cells (it6 X).toArray 25 (0, 0)) := by
    rw [Below.heap_alloc _ _ _ (by simp)]; exact heap_alloc_new w _
  have k1 : ((w.alloc (.cells (it6 X).toArray 25)).alloc (.cells (it6 Y).toArray 25)).heap[w.heap.size + 1]? = some (.cells (it6 Y).toArray 25 (0, 0)) := by
    have := heap_alloc_new (w.alloc (.cells (it6 X).toArray 25)) (.cells (it6 Y).toArray 25)
    simpa using this
  obtain ⟨x0, x1, x2, x3, x4, x5⟩ := c6_of k0
  obtain ⟨y0, y1, y2, y3, y4, y5⟩ := c6_of k1
  exact ⟨hide (below_two w _ _), x0, x1, x2, x3, x4, x5, y0, y1, y2, y3, y4, y5⟩
set_option maxRecDepth 100000 in
set_option maxHeartbeats 3200000 in
theorem orders_any (X Y : IT) (w : World) : Calls Try.prog 3 #[.agg (it6 X).toArray, .agg (it6 Y).toArray] w fun e w' => e = .returned (.bool true) ∧ Below w.heap.size w w' := by
  have A1 : Hid (∀ (v : Value) (wx : World), v = .agg (it6 X).toArray → K2 w X Y wx → Calls Try.prog 5 #[v] wx fun e wy => e = .returned (.int .i64 (ckI X)) ∧ K2 w X Y wy) := hide fun v wx hv h => by
    subst hv
    exact (check_any X wx).mono fun _ _ ⟨he, hk⟩ => ⟨he, h.step hk⟩
  have A2 : Hid (∀ (v : Value) (wx : World), v = .agg (it6 X).toArray → K2 w X Y wx → Calls Try.prog 6 #[v] wx fun e wy => e = .returned (.int .i64 (ckI X)) ∧ K2 w X Y wy) := hide fun v wx hv h => by
    subst hv
    exact (rcheck_any X wx).mono fun _ _ ⟨he, hk⟩ => ⟨he, h.step hk⟩
  have A3 : Hid (∀ (u v : Value) (wx : World), u = .agg (it6 X).toArray → v = .agg (it6 Y).toArray → K2 w X Y wx → Calls Try.prog 7 #[u, v] wx fun e wy => e = .returned (.bool (lI X Y)) ∧ K2 w X Y wy) := hide fun u v wx hu hv h => by
    subst hu hv
    exact (less_any X Y wx).mono fun _ _ ⟨he, hk⟩ => ⟨he, h.step hk⟩
  have A4 : Hid (∀ (u v : Value) (wx : World), u = .agg (it6 Y).toArray → v = .agg (it6 X).toArray → K2 w X Y wx → Calls Try.prog 7 #[u, v] wx fun e wy => e = .returned (.bool (lI Y X)) ∧ K2 w X Y wy) := hide fun u v wx hu hv h => by
    subst hu hv
    exact (less_any Y X wx).mono fun _ _ ⟨he, hk⟩ => ⟨he, h.step hk⟩
  have A5 : Hid (∀ (u v : Value) (wx : World), u = .agg (it6 X).toArray → v = .agg (it6 Y).toArray → K2 w X Y wx → Calls Try.prog 8 #[u, v] wx fun e wy => e = .returned (.bool (lI X Y)) ∧ K2 w X Y wy) := hide fun u v wx hu hv h => by
    subst hu hv
    exact (rless_any X Y wx).mono fun _ _ ⟨he, hk⟩ => ⟨he, h.step hk⟩
  have A6 : Hid (∀ (u v : Value) (wx : World), u = .agg (it6 Y).toArray → v = .agg (it6 X).toArray → K2 w X Y wx → Calls Try.prog 8 #[u, v] wx fun e wy => e = .returned (.bool (lI Y X)) ∧ K2 w X Y wy) := hide fun u v wx hu hv h => by
    subst hu hv
    exact (rless_any Y X wx).mono fun _ _ ⟨he, hk⟩ => ⟨he, h.step hk⟩
  have A7 : Hid (∀ (wx : World), K2 w X Y wx → Calls Try.prog 9 #[] wx fun e wy => e = .returned (.bool true) ∧ K2 w X Y wy) := hide fun wx h =>
    (works_any wx).mono fun _ _ ⟨he, hk⟩ => ⟨he, h.step hk⟩
  have K0 := K2.start w X Y
  have K1 : K2 w X Y ((w.alloc (.cells (it6 X).toArray 25)).alloc (.cells (it6 Y).toArray 25)).drew := K0.step (Below.refl _ _).drew
  have KT : Hid (∀ wx, K2 w X Y wx → Below w.heap.size w wx) := hide fun _ h => h.1.out
  generalize ckI X = cc at *
  generalize lI X Y = t1 at *
  generalize lI Y X = t2 at *
  obtain ⟨U, hU⟩ : ∃ U, U = (w.alloc (.cells (it6 X).toArray 25)).alloc (.cells (it6 Y).toArray 25) := ⟨_, rfl⟩
  rw [← hU] at K0 K1
  have HU := hide hU
  clear hU
  obtain ⟨xi, xp, xk, xo, xl, xs⟩ := X
  obtain ⟨yi, yp, yk, yo, yl, ys⟩ := Y
  have S0 := hide K0
  have S1 := hide K1
  clear K0 K1
  simp only [it6, K2] at *
  go_enter Try.func3, Try.ntmps3
  go_upto_region 1 with fail
  rw [← HU.out]
  go_region_held3 (fun wx => Hid (Below w.heap.size w wx) ∧ wx.cell? ⟨w.heap.size, 0, none⟩ = some (.string xi) ∧ wx.cell? ⟨w.heap.size, 1, none⟩ = some (.string xp) ∧ wx.cell? ⟨w.heap.size, 2, none⟩ = some (.int .i64 xk) ∧ wx.cell? ⟨w.heap.size, 3, none⟩ = some (.int .i64 xo) ∧ wx.cell? ⟨w.heap.size, 4, none⟩ = some (.int .i64 xl) ∧ wx.cell? ⟨w.heap.size, 5, none⟩ = some (.int .i64 xs) ∧ wx.cell? ⟨w.heap.size + 1, 0, none⟩ = some (.string yi) ∧ wx.cell? ⟨w.heap.size + 1, 1, none⟩ = some (.string yp) ∧ wx.cell? ⟨w.heap.size + 1, 2, none⟩ = some (.int .i64 yk) ∧ wx.cell? ⟨w.heap.size + 1, 3, none⟩ = some (.int .i64 yo) ∧ wx.cell? ⟨w.heap.size + 1, 4, none⟩ = some (.int .i64 yl) ∧ wx.cell? ⟨w.heap.size + 1, 5, none⟩ = some (.int .i64 ys)) (first | assumption | with_reducible exact S0.out | with_reducible exact S1.out)
    (first
      | (go_at_call 5; refine (A1.out _ _ (by with_reducible rfl) (by assumption)).mono ?_; rintro e wa ⟨rfl, ka⟩)
      | (go_at_call 6; refine (A2.out _ _ (by with_reducible rfl) (by assumption)).mono ?_; rintro e wb ⟨rfl, kb⟩)
      | (go_at_call 7; refine (A3.out _ _ _ (by with_reducible rfl) (by with_reducible rfl) (by assumption)).mono ?_; rintro e wc ⟨rfl, kc⟩)
      | (go_at_call 7; refine (A4.out _ _ _ (by with_reducible rfl) (by with_reducible rfl) (by assumption)).mono ?_; rintro e wc ⟨rfl, kc⟩)
      | (go_at_call 8; refine (A5.out _ _ _ (by with_reducible rfl) (by with_reducible rfl) (by assumption)).mono ?_; rintro e wc ⟨rfl, kc⟩)
      | (go_at_call 8; refine (A6.out _ _ _ (by with_reducible rfl) (by with_reducible rfl) (by assumption)).mono ?_; rintro e wc ⟨rfl, kc⟩)
      | (go_at_call 9; refine (A7.out _ (by assumption)).mono ?_; rintro e wd ⟨rfl, kd⟩))
  go_wp2
  go_ret
  exact ⟨rfl, kd.1.out⟩
end Go.Proofs.Ytkcefdiiibbflaa

/-
  The walk of StripeSums.
-/
import Derived.Test.YtfjkdmiaagalhaaSMakesLaw
import Derived.Test.YtfjkdmiaagalhaaSumMath
import Derived.Test.YtfjkdmiaagalhaaAmong
import Derived.Laws.RangeAny
import Derived.Deep.CutBlock
namespace Go.Proofs.Ytfjkdmiaagalhaa
open Go.RowKit Go.Lib

set_option maxRecDepth 100000 in
theorem lshape_any {w : World} (x y : Int) :
    Calls Try.prog 17 #[.agg #[.int .i64 x, .int .i64 y]] w fun e w' => e = .returned (.tuple #[.int .i64 ((1 + amg x 8 : Nat) : Int), .int .i64 ((amg y 7 : Nat) : Int)]) ∧ Below w.heap.size w w' := by
  obtain ⟨_, r2, _, _⟩ := amg_spec x 8 (by decide)
  obtain ⟨_, c2, _, _⟩ := amg_spec y 7 (by decide)
  have AX : Hid (∀ (w : World) (v u : Value), v = .int .i64 x → u = .int .i64 8 → Calls Try.prog 21 #[v, u] w fun e w' => e = .returned (.int .i64 ((amg x 8 : Nat) : Int)) ∧ w' = w) := fun w v u hv hu => by subst hv hu; exact among_any w x 8 (by decide) (by decide)
  have AY : Hid (∀ (w : World) (v u : Value), v = .int .i64 y → u = .int .i64 7 → Calls Try.prog 21 #[v, u] w fun e w' => e = .returned (.int .i64 ((amg y 7 : Nat) : Int)) ∧ w' = w) := fun w v u hv hu => by subst hv hu; exact among_any w y 7 (by decide) (by decide)
  generalize amg x 8 = r at *
  generalize amg y 7 = c at *
  obtain ⟨q, hq⟩ : ∃ q, q = 1 + r := ⟨_, rfl⟩
  have hw1 : IntKind.i64.wrap (1 + (r : Int)) = (q : Int) := by rw [hq, wraps_i64 _ (by omega) (by omega)]; omega
  rw [← hq]
  obtain ⟨W, hW⟩ : ∃ W, W = w.alloc (.cells #[.int .i64 x, .int .i64 y] 22) := ⟨_, rfl⟩
  have hA : A2 W w.heap.size x y := by rw [hW]; exact A2.new w x y
  have HB : Hid (Below w.heap.size w W) := by rw [hW]; exact below_alloc (Below.refl _ _) _
  have D0 : Hid (W.drew.cell? ⟨w.heap.size, 0, none⟩ = some (.int .i64 x) ∧ W.drew.cell? ⟨w.heap.size, 1, none⟩ = some (.int .i64 y)) := ⟨hA.cell0, hA.cell1⟩
  have HW := hide hW
  clear hW hA hq r2 c2
  go_enter Try.func17, Try.ntmps17
  go_upto_region 1 with fail
  rw [← HW.out]
  go_region_held_law (fun wx => wx.cell? ⟨w.heap.size, 0, none⟩ = some (.int .i64 x) ∧ wx.cell? ⟨w.heap.size, 1, none⟩ = some (.int .i64 y)) (with_reducible exact D0.out)
    (first
      | (go_at_call 21; refine Calls.mono (AX.out _ _ _ (by with_reducible rfl) (by with_reducible rfl)) ?_; rintro e w9 ⟨rfl, hw9⟩; subst w9)
      | (go_at_call 21; refine Calls.mono (AY.out _ _ _ (by with_reducible rfl) (by with_reducible rfl)) ?_; rintro e w9 ⟨rfl, hw9⟩; subst w9))
  all_goals
    go_wp2
    exact bodyPost_ret (v := .tuple #[.int .i64 q, .int .i64 c]) (by simp [results, Try.results17, go_sem]) rfl ⟨rfl, HB.out.drew⟩
end Go.Proofs.Ytfjkdmiaagalhaa

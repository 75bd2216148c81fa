/-
  Lookup: less, by the program and by the document; may an item be.
-/
import Derived.Test.YtkcefdiiibbflaaLuLess
namespace Go.Proofs.Ytkcefdiiibbflaa
open Go.RowKit Go.Lib Go.Shelf Go.Sort
theorem below_grow (w : World) (q : Nat) (os : Array Obj) : Below w.heap.size w (grow (w.drewN q) os) :=
  ⟨rfl, rfl, rfl, by simp, fun i hi => by rw [heap_grow_old (w.drewN q) os (show i < w.heap.size from hi)]; rfl⟩
theorem below_two (w : World) (a b : Obj) : Below w.heap.size w ((w.alloc a).alloc b) := ((Below.refl _ _).alloc (Nat.le_refl _) _).alloc (by simp) _
set_option maxHeartbeats 1600000 in
theorem less_any (x y : IT) (w : World) : Calls Try.prog 7 #[.agg (it6 x).toArray, .agg (it6 y).toArray] w fun e w' => e = .returned (.bool (lI x y)) ∧ Below w.heap.size w w' := by
  have HB := hide (below_two w (.cells (it6 x).toArray 25) (.cells (it6 y).toArray 25))
  have HO := hide (order_any x y ((w.alloc (.cells (it6 x).toArray 25)).alloc (.cells (it6 y).toArray 25)))
  have HL : Hid (lI x y = decide (cI x y < 0)) := rfl
  rw [HL.out]
  generalize cI x y = c at HO ⊢
  simp only [it6] at *
  clear HL
  go_enter Try.func7, Try.ntmps7
  go_wp2_with fail
  refine HO.out.mono ?_
  rintro e w9 ⟨rfl, q, os, hw9⟩
  have HE : Hid (Below w.heap.size w w9) := by rw [hw9]; exact HB.out.trans ((below_grow _ q os).mono HB.out.size)
  clear hw9
  go_wp2
  go_ret
  exact ⟨rfl, HE.out⟩
/-- May an item be? -/
def okI (x : IT) : Prop := x.id.size = 32 ∧ x.pk.size = 32 ∧ (x.kind = 1 ∨ x.kind = 2) ∧ (0 ≤ x.off ∧ x.off ≤ 65536) ∧ (1 ≤ x.long ∧ x.long ≤ 65536) ∧ 0 ≤ x.size ∧ x.size ≤ 65536
instance (x : IT) : Decidable (okI x) := by unfold okI; exact inferInstance
def ckI (x : IT) : Int := if okI x then 0 else 1
end Go.Proofs.Ytkcefdiiibbflaa

/-
  Gear: a map from numbers to numbers that a call has made.
-/
import Derived.Test.YtdmlhkphdolbeaaDoorGeKit
import Derived.Maps.OwnSet
namespace Go.Proofs.YtdmlhkphdolbeaaDoor
open Go.RowKit Go.Lib Go.Maps
theorem gb_below {w w' : World} (h : Below w.heap.size w w') (row : Option Nat) : w.grownBy w' row := ⟨h.os, h.tape, h.output, h.size, fun k hk _ => h.block k hk⟩
theorem mlaw : Keyed Tryd.prog 3 := int_keyed Tryd.underlying3
theorem mzero (w : World) : (zeroValue 3).run Tryd.prog w = .ok (.int .i64 0) w := by kernel_rfl
theorem wf_of {x : Int} (h1 : -9223372036854775808 ≤ x) (h2 : x ≤ 9223372036854775807) : (Lit.int .i64 x).wf = true := WalkArith.wf_i64 ⟨h1, h2⟩
/-- At block b lies a map, of at most n entries, from x to f x. -/
def MP (w : World) (b n : Nat) (f : Int → Option Nat) : Prop :=
  ∃ D : DataW Unit, w.ownsMap Tryd.prog 3 (plainElem Tryd.prog 3) b n D ∧ (∀ x, has D (.int .i64 x) = (f x).isSome) ∧ ∀ x i, f x = some i → ∀ z, D.atKey (.int .i64 x) z = .lit (.int .i64 (i : Int))
section
variable {w w' : World} {b n : Nat} {f : Int → Option Nat}
theorem MP.made (w : World) : MP (w.alloc (.map #[] 0)) w.heap.size 0 (fun _ => none) :=
  ⟨_, World.ownsMap_made w _ _ _, fun x => by simp [has], fun x i h => by cases h⟩
theorem MP.lt (h : MP w b n f) : b < w.heap.size := by obtain ⟨D, h, _⟩ := h; exact h.lt
theorem MP.kept {row : Option Nat} (h : MP w b n f) (hg : w.grownBy w' row) (hne : some b ≠ row) : MP w' b n f := by
  obtain ⟨D, h1, h2⟩ := h
  exact ⟨D, h1.kept hg hne, h2⟩
theorem MP.below (h : MP w b n f) (hb : Below w.heap.size w w') : MP w' b n f := h.kept (gb_below hb none) (by simp)
theorem MP.look (h : MP w b n f) {x : Int} (h1 : -9223372036854775808 ≤ x) (h2 : x ≤ 9223372036854775807) :
    (Instr.lookup 47 (.map (some b)) (.int .i64 x) true).run Tryd.prog w = .ok (.tuple #[.int .i64 (((f x).getD 0 : Nat) : Int), .bool (f x).isSome]) w := by
  obtain ⟨D, hD, hh, ha⟩ := h
  obtain ⟨v, ps, hr, hv⟩ := hD.look_ok mlaw Tryd.underlying47 (mzero w) (plainElem_int Tryd.underlying3 (by decide)) (keyOf_int_mk Tryd.underlying3 (wf_of h1 h2))
  obtain ⟨a, rfl, e, _⟩ := plainElem_int_inv Tryd.underlying3 hv
  rw [hr, hh x]
  simp only [Prod.mk.injEq] at e
  cases hf : f x with
  | none =>
    have := atKey_of_not_has (D := D) (k := .int .i64 x) (by rw [hh x, hf]; rfl) (.lit (.int .i64 0))
    rw [this] at e
    simp at e
    rw [← e.1]
    rfl
  | some i =>
    rw [ha x i hf] at e
    simp at e
    rw [← e.1]
    rfl
theorem MP.update (h : MP w b n f) (hn : n ≤ 100000) {x : Int} (h1 : -9223372036854775808 ≤ x) (h2 : x ≤ 9223372036854775807) {i : Nat} (hi : i ≤ 100000) :
    ∃ w', (Instr.mapUpdate 47 (.map (some b)) (.int .i64 x) (.int .i64 (i : Int))).run Tryd.prog w = .ok () w' ∧ MP w' b (n + 1) (fun y => if y = x then some i else f y) ∧ w.grownBy w' (some b) := by
  obtain ⟨D, hD, hh, ha⟩ := h
  obtain ⟨w', hr, hD', hg⟩ := hD.update mlaw Tryd.underlying47 (by unfold maxLen; omega) (keyOf_int_mk Tryd.underlying3 (wf_of h1 h2)) (plainElem_int Tryd.underlying3 (a := (i : Int)) (wf_of (by omega) (by omega)))
  have hM := hD.isMap
  have hkl : WideAt.IsKeyLit (.int .i64 x) := by simp [WideAt.IsKeyLit]
  refine ⟨w', hr, ⟨_, hD', fun y => ?_, fun y j hy z => ?_⟩, hg⟩
  · by_cases e : y = x
    · subst e
      simp only [if_true, Option.isSome_some]
      exact has_true_of_atKey (fun z => atKey_put_same hM hkl _ z)
    · simp only [if_neg e]
      rw [has_put_other (by intro h; cases h; exact e rfl), hh y]
  · by_cases e : y = x
    · subst e
      simp only [if_true, Option.some.injEq] at hy
      subst hy
      exact atKey_put_same hM hkl _ z
    · simp only [if_neg e] at hy
      rw [atKey_put_other (by intro h; cases h; exact e rfl)]
      exact ha y j hy z
end
end Go.Proofs.YtdmlhkphdolbeaaDoor

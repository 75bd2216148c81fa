/-
  Lookup: the same item?
-/
import Derived.Test.YtkcefdiiibbflaaLuMath
import Derived.Laws.StructEq
import Derived.WalkKit
namespace Go.Proofs.Ytkcefdiiibbflaa
open Go.RowKit Go.Lib
theorem tl_iff (a b : ByteArray) : a.toList = b.toList ↔ a = b := by
  constructor
  · intro h
    have := test_eq a b
    rw [h] at this
    simpa using this
  · rintro rfl; rfl
theorem it_iff (x y : IT) : x = y ↔ x.id = y.id ∧ x.pk = y.pk ∧ x.kind = y.kind ∧ x.off = y.off ∧ x.long = y.long ∧ x.size = y.size :=
  ⟨by rintro rfl; exact ⟨rfl, rfl, rfl, rfl, rfl, rfl⟩, fun h => IT.ext' h.1 h.2.1 h.2.2.1 h.2.2.2.1 h.2.2.2.2.1 h.2.2.2.2.2⟩
theorem eqPl (d : Nat) (x y : IT) (w : World) : (Op.equalIn (d + 1 + 1) 23 (.agg #[.string x.pk, .int .i64 x.kind, .int .i64 x.off, .int .i64 x.long, .int .i64 x.size]) (.agg #[.string y.pk, .int .i64 y.kind, .int .i64 y.off, .int .i64 y.long, .int .i64 y.size])).run Try.prog w = .ok (decide (x.pk = y.pk) && decide (x.kind = y.kind) && decide (x.off = y.off) && decide (x.long = y.long) && decide (x.size = y.size)) w := by
  have hS2 : Try.prog.underlying 23 = some (.struct (Try.prog.fieldsOf 23)) := by kernel_rfl
  have hp2 : Try.prog.stoodInHeld 23 = false := by kernel_rfl
  have u9 := Try.underlying9
  have a9 := Try.isAgg9
  have z9 := Try.sizeOf9
  have u3 := Try.underlying3
  have a3 := Try.isAgg3
  have z3 := Try.sizeOf3
  rw [run_equalIn_agg w (d + 1) 23 _ _ hS2 hp2]
  simp only [Program.fieldsOf, Try.underlying23]
  go_simp
  try simp only [tl_iff]
  by_cases h1 : x.pk = y.pk <;> by_cases h2 : x.kind = y.kind <;> by_cases h3 : x.off = y.off <;> by_cases h4 : x.long = y.long <;> by_cases h5 : x.size = y.size <;> simp [h1, h2, h3, h4, h5]
theorem eqIt' (d : Nat) (x y : IT) (w : World) : (Op.equalIn (d + 1 + 1 + 1) 25 (.agg (it6 x).toArray) (.agg (it6 y).toArray)).run Try.prog w = .ok (decide (x = y)) w := by
  have hS : Try.prog.underlying 25 = some (.struct (Try.prog.fieldsOf 25)) := by kernel_rfl
  have hp : Try.prog.stoodInHeld 25 = false := by kernel_rfl
  have u9 := Try.underlying9
  have a9 := Try.isAgg9
  have z9 := Try.sizeOf9
  have a23 := Try.isAgg23
  have z23 := Try.sizeOf23
  have HP := fun w => eqPl d x y w
  rw [run_equalIn_agg w (d + 1 + 1) 25 _ _ hS hp]
  simp only [it6]
  simp only [Program.fieldsOf, Try.underlying25]
  go_simp
  simp only [tl_iff, it_iff]
  by_cases h0 : x.id = y.id <;> by_cases h1 : x.pk = y.pk <;> by_cases h2 : x.kind = y.kind <;> by_cases h3 : x.off = y.off <;> by_cases h4 : x.long = y.long <;> by_cases h5 : x.size = y.size <;> simp [h0, h1, h2, h3, h4, h5]
theorem eqIt (x y : IT) (w : World) : (Op.equalIn 10000 25 (.agg (it6 x).toArray) (.agg (it6 y).toArray)).run Try.prog w = .ok (decide (x = y)) w := eqIt' 9997 x y w
end Go.Proofs.Ytkcefdiiibbflaa

/-
  Lookup: parts of a list, and what is copied from one to another.
-/
import Derived.Test.YtkcefdiiibbflaaLuWi
import Derived.Laws.Slices
namespace Go.Proofs.Ytkcefdiiibbflaa
open Go.RowKit Go.Lib
theorem elL : Try.prog.elem 46 = 25 := by kernel_rfl
theorem undL : Try.prog.underlying 46 = some (.slice (Try.prog.elem 46)) := by kernel_rfl
theorem szL (w : World) : (sizeOf (Try.prog.elem 46)).run Try.prog w = .ok 6 w := by rw [elL]; exact Try.sizeOf25 w
section
variable {g o n c k h : Nat}
theorem sl_l (hk : k ≤ n) : ∃ y, (∀ w : World, (Instr.slice 46 (.slice (some ⟨g, o, none⟩) n c) (some (.int .i64 (k : Int))) none none).run Try.prog w = .ok (.slice (some ⟨g, y, none⟩) (n - k) (c - k)) w) ∧ (k < c → y = o + k * 6) := by
  refine ⟨if c = k then o else o + k * 6, fun w => ?_, fun h => by rw [if_neg (by omega)]⟩
  rw [run_slice_l w 46 (some ⟨g, o, none⟩) n c undL .i64 (k : Int) (by omega) (by omega), szL]
  simp only [Result.andThen, sliced, Int.toNat_natCast]
  split <;> simp [Addr.add_mid]
theorem sl_h (hk : k ≤ c) : ∀ w : World, (Instr.slice 46 (.slice (some ⟨g, o, none⟩) n c) none (some (.int .i64 (k : Int))) none).run Try.prog w = .ok (.slice (some ⟨g, o, none⟩) k c) w := fun w => by
  rw [run_slice_h w 46 (some ⟨g, o, none⟩) n c undL .i64 (k : Int) (by omega) (by omega), szL]
  simp [Result.andThen, sliced, Addr.add_mid]
theorem sl_lh (hk : k ≤ h) (hn : h ≤ c) : ∃ y, (∀ w : World, (Instr.slice 46 (.slice (some ⟨g, o, none⟩) n c) (some (.int .i64 (k : Int))) (some (.int .i64 (h : Int))) none).run Try.prog w = .ok (.slice (some ⟨g, y, none⟩) (h - k) (c - k)) w) ∧ (k < c → y = o + k * 6) := by
  refine ⟨if c = k then o else o + k * 6, fun w => ?_, fun h => by rw [if_neg (by omega)]⟩
  rw [run_slice_lh w 46 (some ⟨g, o, none⟩) n c undL .i64 .i64 (k : Int) (h : Int) (by omega) (by omega) (by omega), szL]
  simp only [Result.andThen, sliced, Int.toNat_natCast]
  split <;> simp [Addr.add_mid]
theorem copy_zero {w : World} {y z dl dc sc : Nat} (ty : TypeId) :
    (Builtin.copy_ #[46, 46] ty #[.slice (some ⟨g, y, none⟩) dl dc, .slice (some ⟨g, z, none⟩) 0 sc]).run Try.prog w = .ok (.int .i64 0) w := by
  have hu := Try.underlying46
  have hsz := Try.sizeIt
  have hl : (loadCells ⟨g, z, none⟩ 0).run Try.prog w = .ok #[] w := by simpa using run_loadCells_list (P := Try.prog) w ⟨g, z, none⟩ [] (by simp)
  have hmin : Nat.min 0 dl = 0 := Nat.zero_min dl
  cases hq : Try.prog.info? 25 with
  | none => rw [hq] at hsz; cases hsz
  | some i =>
    simp [Builtin.copy_, run_underlying hu, Builtin.lenOf, Builtin.firstCells, sizeOf, typeInfo, hq, hmin, hl, storeCells]
    rfl
theorem copy_part {w : World} {N : Nat} {T : List IT} (hT : SG w g o N T) {s n p y z dl dc sc : Nat} (hs : s + n ≤ T.length) (hn : n ≤ dl) (hp : p + n ≤ T.length) (hy : n = 0 ∨ y = o + p * 6) (hz : n = 0 ∨ z = o + s * 6) (ty : TypeId) :
    (Builtin.copy_ #[46, 46] ty #[.slice (some ⟨g, y, none⟩) dl dc, .slice (some ⟨g, z, none⟩) n sc]).run Try.prog w = .ok (.int .i64 (n : Int)) (w.setCells g (o + p * 6) (flI ((T.drop s).take n))) := by
  by_cases h0 : n = 0
  · subst h0
    exact copy_zero ty
  · obtain rfl := hy.resolve_left h0
    obtain rfl := hz.resolve_left h0
    exact copy_any hT hs hn hp ty
end
end Go.Proofs.Ytkcefdiiibbflaa

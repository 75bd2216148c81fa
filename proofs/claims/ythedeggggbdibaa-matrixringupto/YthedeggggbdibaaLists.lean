/-
  Lists of numbers among the arguments, as the walks ask them.
-/
import Derived.Test.YthedeggggbdibaaArr
import Derived.Deep.SlicePairs
namespace Go.Proofs.Ythedeggggbdibaa
open Go.ChangeShapes Go.WideShapes Go.ChangeAt Go.RowKit Go.Lib

theorem ints_of {H : Type} {enc : TypeId × Value → H} {w : World} {fuel : Nat} {v : Value} {y : DataW H × List MemPlace}
    (h : DataW.trod enc Try.prog w 0 (fun _ => true) true fuel 22 [v] = some y) : ∃ a len cap Z, v = .slice a len cap ∧ len ≤ maxLen ∧ (a = none → len = 0 ∧ cap = 0) ∧ NX w w.heap.size (.slice a len cap) len Z ∧ (∀ i, i < len → -9223372036854775808 ≤ Z i ∧ Z i ≤ 9223372036854775807) ∧
      (y.1 = .nil ∧ len = 0 ∨ ∃ elems spare, y.1 = .slice elems spare ∧ len ≤ elems.length + spare.length) := by
  rcases open_ints Try.underlying22 Try.underlying3 Try.cells3 h with ⟨hcs, hy⟩ | ⟨x, l, c, zs, hcs, _, hlc, hcm, hz, hy, hcell, hwz⟩
  · simp at hcs
    subst hcs
    exact ⟨none, 0, 0, fun _ => 0, rfl, Nat.zero_le _, fun _ => ⟨rfl, rfl⟩, ⟨_, _, rfl, Nat.le_refl _, .inl rfl⟩, fun i hi => absurd hi (Nat.not_lt_zero i), .inl ⟨by rw [hy], rfl⟩⟩
  · simp at hcs
    subst hcs
    simp only [if_true] at hz
    refine ⟨some x, l, c, fun i => zs.getD i 0, rfl, by omega, fun h => (by cases h), ⟨_, _, rfl, by omega, ?_⟩, fun i hi => ?_, .inr ⟨_, _, by rw [hy], ?_⟩⟩
    · by_cases h0 : l = 0
      · exact .inl h0
      obtain ⟨b, off, spot⟩ := x
      have hc := hcell 0 (by omega)
      have hspot : spot = none := by simpa [Addr.add] using World.cell?_spot hc
      subst hspot
      refine .inr ⟨b, off, rfl, World.block_lt_of_cell? _ _ hc, Nat.ne_of_lt (World.block_lt_of_cell? _ _ hc), fun i hi => ?_⟩
      have hci := hcell i (by omega)
      rw [Addr.add_mid] at hci
      exact hci
    · have hm : zs.getD i 0 ∈ zs := by rw [List.getD_eq_getElem?_getD, List.getElem?_eq_getElem (by omega)]; exact List.getElem_mem _
      exact bounds_i64 (hwz _ hm)
    · simp [lits]
      omega
end Go.Proofs.Ythedeggggbdibaa

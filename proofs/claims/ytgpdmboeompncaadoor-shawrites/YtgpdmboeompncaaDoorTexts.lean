/-
  Lists of texts among the arguments, as the walks ask them.
-/
import Derived.Test.YtgpdmboeompncaaDoorWritesLaw
import Derived.Test.YtgpdmboeompncaaDoorFrame
import Derived.Deep.SlicePairs
namespace Go.Proofs.YtgpdmboeompncaaDoor
open Go.ChangeShapes Go.WideShapes Go.ChangeAt Go.RowKit Go.Lib

theorem Tryd.cells9 : Tryd.prog.cellsOf 9 = 1 := by kernel_rfl

theorem texts_of {H : Type} {enc : TypeId × Value → H} {w : World} {a : Option Addr} {len cap : Nat} {d : DataW H} {ps : List MemPlace}
    (h : DataW.Trod enc Tryd.prog w 0 (fun _ => true) true 29 (.slice a len cap) d ps) : len ≤ maxLen ∧ ∃ X : Nat → ByteArray, len = 0 ∨ ∃ b off, a = some ⟨b, off, none⟩ ∧ b < w.heap.size ∧ ∀ i, i < len → w.cell? ⟨b, off + i, none⟩ = some (.string (X i)) ∧ (X i).size ≤ 9223372036854775807 := by
  obtain ⟨fuel, hf⟩ := h
  rcases open_strings Tryd.underlying29 Tryd.underlying9 Tryd.cells9 hf with ⟨hcs, _⟩ | ⟨x, l, c, ss, hcs, _, hlc, hcm, hz, _, hcell, hws⟩
  · simp [Value.cells] at hcs
    obtain ⟨_, rfl, _⟩ := hcs
    exact ⟨Nat.zero_le _, fun _ => ByteArray.empty, .inl rfl⟩
  · simp [Value.cells] at hcs
    obtain ⟨rfl, rfl, rfl⟩ := hcs
    simp only [if_true] at hz
    refine ⟨by omega, ?_⟩
    by_cases h0 : len = 0
    · exact ⟨fun _ => ByteArray.empty, .inl h0⟩
    obtain ⟨b, off, spot⟩ := x
    have hc := hcell 0 (by omega)
    have hspot : spot = none := by simpa [Addr.add] using World.cell?_spot hc
    subst hspot
    refine ⟨fun i => ss.getD i ByteArray.empty, .inr ⟨b, off, rfl, World.block_lt_of_cell? _ _ hc, fun i hi => ?_⟩⟩
    have hci := hcell i (by omega)
    rw [Addr.add_mid] at hci
    have hm : ss.getD i ByteArray.empty ∈ ss := by rw [List.getD_eq_getElem?_getD, List.getElem?_eq_getElem (by omega)]; exact List.getElem_mem _
    exact ⟨hci, hws _ hm⟩

end Go.Proofs.YtgpdmboeompncaaDoor

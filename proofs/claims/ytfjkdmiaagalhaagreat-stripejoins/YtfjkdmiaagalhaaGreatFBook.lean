/-
  The contracts of the book's lists that are lent and kept, and of lists that are the same.
-/
import Derived.Test.YtfjkdmiaagalhaaGreatFMix2
import Derived.Laws.AppendOwnNone
namespace Go.Proofs.YtfjkdmiaagalhaaGreat.Fd
open Go.RowKit Go.Lib

theorem Tryz.info9 : (Tryz.prog.info? 9).map (fun i => (i.zero, i.size, i.bytes)) = some (some (.string ⟨#[]⟩), 1, 16) := by kernel_rfl
theorem Tryz.info3 : (Tryz.prog.info? 3).map (fun i => (i.zero, i.size, i.bytes)) = some (some (.int .i64 0), 1, 8) := by kernel_rfl

theorem cell_list_new (w : World) (l : List Value) (t : TypeId) (j : Nat) (u : Value) (h : l[j]? = some u) : (w.alloc (.cells l.toArray t)).cell? ((⟨w.heap.size, 0, none⟩ : Addr).add j) = some u := by
  rw [Addr.add_mid, Nat.zero_add, cell_of_row _ _ j _ t (0, 0) (heap_alloc_new w _)]
  simpa using h

def markS : ByteArray := ⟨#[109, 97, 114, 107]⟩
def textsOf (X : Nat → ByteArray) (n : Nat) : List Value := (List.range n).map fun i => Value.string (X i)
theorem textsOf_length (X : Nat → ByteArray) (n : Nat) : (textsOf X n).length = n := by simp [textsOf]
theorem textsOf_get {X : Nat → ByteArray} {n j : Nat} (h : j < n) : (textsOf X n)[j]? = some (.string (X j)) := by rw [textsOf, List.getElem?_map, List.getElem?_range h]; rfl
theorem textsOf_one (X : Nat → ByteArray) (n : Nat) : ∀ u ∈ textsOf X n, u.oneCell' = true := by
  intro u hu
  obtain ⟨_, _, rfl⟩ := List.mem_map.1 hu
  rfl
theorem owned_cell {w : World} {B n e : Nat} {g cap : Nat} {xs : List Value} (h : w.ownsRow B e 1 (.slice (some ⟨g, 0, none⟩) n cap) n xs) (j : Nat) (u : Value) (hj : xs[j]? = some u) : w.cell? ⟨g, j, none⟩ = some u := by
  have := h.cells (g := g) rfl j u hj
  rwa [Addr.add_mid, Nat.zero_add] at this

end Go.Proofs.YtfjkdmiaagalhaaGreat.Fd

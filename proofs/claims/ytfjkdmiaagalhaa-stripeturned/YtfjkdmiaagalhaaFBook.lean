/-
  The contracts of the book's lists that are lent and kept, and of lists that are the same.
-/
import Derived.Test.YtfjkdmiaagalhaaFMix2
import Derived.Laws.AppendOwnNone
namespace Go.Proofs.Ytfjkdmiaagalhaa.Fd
open Go.RowKit Go.Lib

theorem Try.info9 : (Try.prog.info? 9).map (fun i => (i.zero, i.size, i.bytes)) = some (some (.string ⟨#[]⟩), 1, 16) := by kernel_rfl
theorem Try.info3 : (Try.prog.info? 3).map (fun i => (i.zero, i.size, i.bytes)) = some (some (.int .i64 0), 1, 8) := by kernel_rfl

theorem cell_list_new (w : World) (l : List Value) (t : TypeId) (j : Nat) (u : Value) (h : l[j]? = some u) : (w.alloc (.cells l.toArray t)).cell? ((⟨w.heap.size, 0, none⟩ : Addr).add j) = some u := by
  rw [Addr.add_mid, Nat.zero_add, cell_of_row _ _ j _ t (0, 0) (heap_alloc_new w _)]
  simpa using h

set_option maxHeartbeats 800000 in
set_option maxRecDepth 100000 in
theorem same_any {w : World} {v v' : Value} {n : Nat} {X : Nat → ByteArray} (hp : TX w v n X) (hp' : TX w v' n X) (hn : n ≤ 1000) :
    Calls Try.prog 15 #[v, v'] w fun e w' => e = .returned (.bool true) ∧ ∃ m, w' = w.drewN m := by
  obtain ⟨ad, c, rfl, hcs⟩ := hp
  obtain ⟨ad', c', rfl, hcs'⟩ := hp'
  have HC : Hid _ := hcs
  have HC' : Hid _ := hcs'
  clear hcs hcs'
  go_enter Try.func15, Try.ntmps15
  go_wp2
  go_loopw [5] (fun i wr => ∃ j m : Nat, j ≤ n ∧ i = .int .i64 j ∧ wr = w.drewN m)
    (fun i _ => n - (intOf i).toNat)
  case atStart => exact ⟨0, 0, Nat.zero_le _, rfl, rfl⟩
  case round =>
    obtain ⟨j, m, hj, rfl, hwr⟩ := hrel
    by_cases hlt : j < n
    · obtain ⟨bl, off, rfl, hbl, hc⟩ := HC.out.resolve_left (by omega)
      obtain ⟨bl', off', rfl, hbl', hc'⟩ := HC'.out.resolve_left (by omega)
      have hcj : wr.cell? ⟨bl, off + j, none⟩ = some (.string (X j)) := by rw [hwr]; exact hc j hlt
      have hcj' : wr.cell? ⟨bl', off' + j, none⟩ = some (.string (X j)) := by rw [hwr]; exact hc' j hlt
      clear hc hc'
      generalize X j = p at *
      have HW : Hid _ := hwr
      clear hwr
      have b0 : (0 : Int) ≤ (j : Int) := by omega
      have b1 : (j : Int) < (n : Int) := by omega
      go_wp2
      go_quiet (fail)
      go_wp2
      exact ⟨⟨j + 1, m + nq, by omega, by go_num, by rw [HW.out, World.drewN_drewN]⟩, by simp [intOf]; omega⟩
    · obtain rfl : j = n := by omega
      have HW : Hid _ := hwr
      clear hwr
      go_wp2
      go_ret
      exact ⟨rfl, m, HW.out⟩

def markS : ByteArray := ⟨#[109, 97, 114, 107]⟩
def textsOf (X : Nat → ByteArray) (n : Nat) : List Value := (List.range n).map fun i => Value.string (X i)
theorem textsOf_length (X : Nat → ByteArray) (n : Nat) : (textsOf X n).length = n := by simp [textsOf]
theorem textsOf_get {X : Nat → ByteArray} {n j : Nat} (h : j < n) : (textsOf X n)[j]? = some (.string (X j)) := by rw [textsOf, List.getElem?_map, List.getElem?_range h]; rfl
theorem textsOf_one (X : Nat → ByteArray) (n : Nat) : ∀ u ∈ textsOf X n, u.oneCell' = true := by
  intro u hu
  obtain ⟨_, _, rfl⟩ := List.mem_map.1 hu
  rfl
theorem owned_cell {w : World} {B n e : Nat} {g cap : Nat} {xs : List Value} (h : w.ownsRow B e 1 (.slice (some ⟨g, 0, none⟩) n cap) n xs) (j : Nat) (u : Value) (hj : xs[j]? = some u) : w.cell? ⟨g, j, none⟩ = some u := by
  have := h.cells (g := g) rfl j u hj
  rwa [Addr.add_mid, Nat.zero_add] at this

end Go.Proofs.Ytfjkdmiaagalhaa.Fd

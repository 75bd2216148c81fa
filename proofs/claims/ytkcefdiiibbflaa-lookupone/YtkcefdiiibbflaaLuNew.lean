/-
  Lookup: a table of items in memory; a new one.
-/
import Derived.Test.YtkcefdiiibbflaaLuWith
namespace Go.Proofs.Ytkcefdiiibbflaa
open Go.RowKit Go.Lib
/-- An item's list. -/
def fb (x : IT) : Nat := (x.id.data.toList.headD 0).toNat
def bkL (L : List IT) (i : Nat) : List IT := L.filter fun x => fb x == i
/-- A table of these items. -/
structure TB (R : Nat → Prop) (w : World) (tb : Nat) (L : List IT) : Prop where
  ex : ∃ vs : List Value, w.heap[tb]? = some (.cells vs.toArray 49 (0, 0)) ∧ vs.length = 256 ∧ (∀ (i : Nat) (v : Value), vs[i]? = some v → OW it6 6 25 0 v (bkL L i) w ∧ v.ownBlock ≠ some tb ∧ ∀ b, v.ownBlock = some b → R b) ∧ ∀ (i j : Nat) (u v : Value) (b : Nat), vs[i]? = some u → vs[j]? = some v → u.ownBlock = some b → v.ownBlock = some b → i = j
  rt : R tb
  ss : SS L
  ok : ∀ x ∈ L, x.id.size = 32
  lt : ∀ i, R i → i < w.heap.size
theorem TB.gs {R p : Nat → Prop} {w w' : World} {tb : Nat} {L : List IT} (h : TB R w tb L) (hg : Gs p w w') (hp : ∀ i, R i → ¬ p i) : TB R w' tb L := by
  obtain ⟨vs, h1, h2, h3, h4⟩ := h.ex
  exact ⟨⟨vs, (hg.block tb (lt_of_block h1) (hp tb h.rt)).trans h1, h2, fun i v hv => ⟨(h3 i v hv).1.gs hg (fun b hb => hp b ((h3 i v hv).2.2 b hb)), (h3 i v hv).2⟩, h4⟩, h.rt, h.ss, h.ok, fun i hi => Nat.lt_of_lt_of_le (h.lt i hi) hg.size⟩
theorem TB.bel {R : Nat → Prop} {w w' : World} {tb : Nat} {L : List IT} (h : TB R w tb L) (hb : Below w.heap.size w w') : TB R w' tb L := h.gs (Gs.of_below (fun _ => False) hb) (fun _ _ h => h)
set_option maxRecDepth 100000 in
theorem new_any (w : World) : Calls Try.prog 14 #[] w fun e w' => ∃ tb, e = .returned (.pointer (some ⟨tb, 0, none⟩)) ∧ TB (fun i => i = tb) w' tb [] ∧ w.heap.size ≤ tb ∧ Below w.heap.size w w' := by
  go_enter Try.func14, Try.ntmps14
  go_wp2
  go_ret
  have hz : Try.zeroCells49 = (List.replicate 256 (Value.slice none 0 0)).toArray := by kernel_rfl
  have hB : Below w.heap.size w (w.alloc (.cells Try.zeroCells49 49)) := (Below.refl _ _).alloc (Nat.le_refl _) _
  have hv : ∀ (i : Nat) (v : Value), (List.replicate 256 (Value.slice none 0 0))[i]? = some v → v = .slice none 0 0 := fun i v hv => List.eq_of_mem_replicate (List.mem_of_getElem? hv)
  refine ⟨w.heap.size, rfl, ⟨⟨List.replicate 256 (.slice none 0 0), by rw [← hz]; exact heap_alloc_new w _, List.length_replicate, fun i v h => ?_, fun i j u v b h _ hb _ => ?_⟩, rfl, SS.nil, fun x hx => (by cases hx), fun i hi => by rw [hi]; simp⟩, Nat.le_refl _, hB⟩
  · rw [hv i v h]
    exact ⟨OW.nil _ _ _ _ _, by simp [Value.ownBlock], fun b hb => by simp [Value.ownBlock] at hb⟩
  · rw [hv i u h] at hb
    simp [Value.ownBlock] at hb
end Go.Proofs.Ytkcefdiiibbflaa

/-
  Laws of the walks that hang on no function: xor of small numbers, what grows, a block's cells as a list, the tables and a field as they lie in memory.
-/
import Derived.Test.YtfjkdmiaagalhaaGreatOnce
import Derived.Deep.WholeRow
import Derived.Deep.MidRow
import Derived.Lib.LaidTab
import Derived.Lib.SliceRun
import Derived.Lib.BufferWrite
import Derived.Great.BuildSlice
import Derived.BigRegion
import Derived.Deep.RegionHeld3
namespace Go.Proofs.YtfjkdmiaagalhaaGreat
open Go.RowKit Go.Lib

/-! ### Xor of small numbers -/
theorem wraps_i64 (n : Int) (h₀ : 0 ≤ n) (h₁ : n < 2 ^ 62) : IntKind.i64.wrap n = n := by rw [IntKind.wrap_i64]; omega
theorem wraps_u8 (n : Int) (h₀ : 0 ≤ n) (h₁ : n < 2 ^ 8) : IntKind.u8.wrap n = n := by rw [IntKind.wrap_u8]; omega
theorem xor_nat (k : IntKind) (j : Nat) (hj : j ≤ k.bits) (hk : ∀ (n : Int), 0 ≤ n → n < 2 ^ j → k.wrap n = n) (a b : Nat) (ha : a < 2 ^ j) (hb : b < 2 ^ j) :
    bits .xor k (a : Int) (b : Int) = ((a ^^^ b : Nat) : Int) := by
  have hp : 2 ^ j ≤ 2 ^ k.bits := Nat.pow_le_pow_right (by decide) hj
  have hx : a ^^^ b < 2 ^ j := Nat.xor_lt_two_pow ha hb
  have hm : (a ^^^ b) % 2 ^ k.bits = a ^^^ b := Nat.mod_eq_of_lt (by omega)
  have ea : BitVec.ofInt k.bits (a : Int) = BitVec.ofNat k.bits a := by simp
  have eb : BitVec.ofInt k.bits (b : Int) = BitVec.ofNat k.bits b := by simp
  have : bits .xor k (a : Int) (b : Int) = k.wrap ((BitVec.ofInt k.bits (a : Int) ^^^ BitVec.ofInt k.bits (b : Int)).toNat : Int) := rfl
  rw [this, ea, eb, BitVec.toNat_xor, BitVec.toNat_ofNat, BitVec.toNat_ofNat, Nat.mod_eq_of_lt (by omega), Nat.mod_eq_of_lt (by omega)]
  exact hk _ (by omega) (by exact_mod_cast hx)
theorem xor_i64 (a b : Nat) (ha : a < 2 ^ 62) (hb : b < 2 ^ 62) : bits .xor .i64 (a : Int) (b : Int) = ((a ^^^ b : Nat) : Int) := xor_nat .i64 62 (by decide) wraps_i64 a b ha hb
theorem xor_u8 (a b : Nat) (ha : a < 256) (hb : b < 256) : bits .xor .u8 (a : Int) (b : Int) = ((a ^^^ b : Nat) : Int) := xor_nat .u8 8 (by decide) wraps_u8 a b ha hb

/-! ### Growth -/
section
variable {w w' : World} {b : Nat}
theorem gb_refl (w : World) (row : Option Nat) : w.grownBy w row := ⟨rfl, rfl, rfl, Nat.le_refl _, fun _ _ _ => rfl⟩
theorem gb_set (w : World) (b j : Nat) (u : Value) : w.grownBy (w.setCell ⟨b, j, none⟩ u) (some b) :=
  ⟨rfl, rfl, rfl, by simp, fun k _ hk => heap_setCell_other w ⟨b, j, none⟩ k u (fun e => hk (by simp [e]))⟩
theorem gb_below (h : Below w.heap.size w w') (row : Option Nat) : w.grownBy w' row := ⟨h.os, h.tape, h.output, h.size, fun k hk _ => h.block k hk⟩
theorem gb_trans {w1 w2 : World} {row : Option Nat} (h : w.grownBy w1 row) (k : w1.grownBy w2 row) : w.grownBy w2 row :=
  ⟨k.os.trans h.os, k.tape.trans h.tape, k.output.trans h.output, Nat.le_trans h.size k.size, fun i hi hne => (k.block i (Nat.lt_of_lt_of_le hi h.size) hne).trans (h.block i hi hne)⟩
theorem gb_drewN {w1 : World} {row : Option Nat} (h : w.grownBy w1 row) (n : Nat) : w.grownBy (w1.drewN n) row := ⟨h.os, h.tape, h.output, h.size, h.block⟩
theorem below_drew {B : Nat} (h : Below B w w') (n : Nat) : Below B w (w'.drewN n) := ⟨h.os, h.tape, h.output, h.size, h.block⟩
theorem below_gb {w1 : World} {B : Nat} (h : Below B w w') (hg : w'.grownBy w1 (some b)) (hb : B ≤ b) (hB : B ≤ w'.heap.size) : Below B w w1 :=
  h.grown hg hB (fun k hk => by cases hk; exact hb)
theorem below_step {w9 w' w'' : World} (h : Below w9.heap.size w9 w') (k : Below w'.heap.size w' w'') : Below w9.heap.size w9 w'' := h.trans (k.mono h.size)
theorem below_alloc {w9 w' : World} (h : Below w9.heap.size w9 w') (o : Obj) : Below w9.heap.size w9 (w'.alloc o) := h.alloc h.size o
end

/-! ### A block's cells as a list -/
theorem heap_set_list {w : World} {b o : Nat} {c : List Value} {T : TypeId} {fr : Nat × Nat} (v : Value) (h : w.heap[b]? = some (.cells c.toArray T fr)) : (w.setCell ⟨b, o, none⟩ v).heap[b]? = some (.cells (c.set o v).toArray T fr) := by
  rw [setCell_eq_setRow w b o _ T fr v h, setRow_heap w b _ _ T fr h]
  simp
theorem cell_ne (w : World) (g i k : Nat) (u : Value) (h : k ≠ i) : (w.setCell ⟨g, i, none⟩ u).cell? ⟨g, k, none⟩ = w.cell? ⟨g, k, none⟩ := by
  have := World.cell?_setCells_out g [u] i w ⟨g, k, none⟩ (fun _ _ => by simp; omega)
  exact this

/-! ### The tables -/
def tabCells (n : Nat) : List Value := (List.range 766).map fun i => .int .u8 ((tab n i : Nat) : Int)
theorem tabCells_get (n i : Nat) (h : i < 766) : (tabCells n)[i]? = some (.int .u8 ((tab n i : Nat) : Int)) := by
  rw [tabCells, List.getElem?_map, List.getElem?_range h]
  rfl
theorem tabCells_length (n : Nat) : (tabCells n).length = 766 := by simp [tabCells]
theorem tabCells_step (n : Nat) (hn : n < 255) : (((tabCells n).set n (.int .u8 ((pw n : Nat) : Int))).set (n + 255) (.int .u8 ((pw n : Nat) : Int))).set (510 + pw n) (.int .u8 (n : Int)) = tabCells (n + 1) := by
  have hp := pw_lt n
  apply List.ext_getElem?
  intro i
  by_cases hi : i < 766
  · rw [tabCells_get (n + 1) i hi, tab]
    simp only [List.getElem?_set, List.length_set, tabCells_length, tabCells_get n i hi]
    by_cases c1 : 510 + pw n = i
    · rw [if_pos c1, if_pos (by omega), if_pos c1.symm]
    rw [if_neg c1, if_neg (show ¬ i = 510 + pw n from fun h => c1 h.symm)]
    by_cases c2 : n + 255 = i
    · rw [if_pos c2, if_pos (by omega), if_pos c2.symm]
    rw [if_neg c2, if_neg (show ¬ i = n + 255 from fun h => c2 h.symm)]
    by_cases c3 : n = i
    · rw [if_pos c3, if_pos (by omega), if_pos c3.symm]
    rw [if_neg c3, if_neg (show ¬ i = n from fun h => c3 h.symm)]
  · rw [List.getElem?_eq_none (by simp [tabCells_length]; omega), List.getElem?_eq_none (by simp [tabCells_length]; omega)]

/-- The tables at block t. -/
def TB (w : World) (t : Nat) : Prop := w.heap[t]? = some (.cells (tabCells 255).toArray 131 (0, 0))
section
variable {w w' : World} {t : Nat}
theorem TB.lt (h : TB w t) : t < w.heap.size := lt_of_block h
theorem TB.pw (h : TB w t) (i : Nat) (hi : i < 510) : w.cell? ⟨t, i, none⟩ = some (.int .u8 ((pw (i % 255) : Nat) : Int)) := by
  rw [cell_of_row w t i _ _ _ h, ← tab_pw i hi]
  simpa using tabCells_get 255 i (by omega)
theorem TB.lg (h : TB w t) (a : Nat) (ha : a < 256) : w.cell? ⟨t, 510 + a, none⟩ = some (.int .u8 ((lg a : Nat) : Int)) := by
  rw [cell_of_row w t _ _ _ _ h, ← tab_lg a ha]
  simpa using tabCells_get 255 (510 + a) (by omega)
theorem TB.of_block (h : TB w t) (hb : w'.heap[t]? = w.heap[t]?) : TB w' t := hb.trans h
end

/-! ### A field -/
def fCells (d : Int) (m : Value) : List Value := [.int .u32 d, .int .i32 0, .int .u32 0, m]
def FB (w : World) (b : Nat) (d : Int) (m : Value) : Prop := w.heap[b]? = some (.cells (fCells d m).toArray 92 (0, 0))
/-- A field at block b, whose tables are made or not. -/
def F (w : World) (b : Nat) : Prop := FB w b 0 (.pointer none) ∨ ∃ t, t ≠ b ∧ FB w b 1 (.pointer (some ⟨t, 0, none⟩)) ∧ TB w t
section
variable {w w' : World} {b : Nat} {d : Int} {m : Value}
theorem FB.lt (h : FB w b d m) : b < w.heap.size := lt_of_block h
theorem FB.cell0 (h : FB w b d m) : w.cell? ⟨b, 0, none⟩ = some (.int .u32 d) := by rw [cell_of_row w b 0 _ _ _ h]; rfl
theorem FB.cell1 (h : FB w b d m) : w.cell? ⟨b, 1, none⟩ = some (.int .i32 0) := by rw [cell_of_row w b 1 _ _ _ h]; rfl
theorem FB.cell3 (h : FB w b d m) : w.cell? ⟨b, 3, none⟩ = some m := by rw [cell_of_row w b 3 _ _ _ h]; rfl
theorem FB.free (h : FB w b d m) (j : Nat) : w.frozen? ⟨b, j, none⟩ = false := frozen_of_row w b j _ _ h
theorem FB.of_block (h : FB w b d m) (hb : w'.heap[b]? = w.heap[b]?) : FB w' b d m := hb.trans h
theorem F.lt (h : F w b) : b < w.heap.size := by
  rcases h with h | ⟨_, _, h, _⟩
  · exact h.lt
  · exact h.lt
/-- What turns no block that lies there leaves a field as it is. -/
theorem F.below (h : F w b) {B : Nat} (hb : Below B w w') (hB : w.heap.size ≤ B) : F w' b := by
  rcases h with h | ⟨t, h1, h2, h3⟩
  · exact .inl (h.of_block (hb.block b (Nat.lt_of_lt_of_le h.lt hB)))
  · exact .inr ⟨t, h1, h2.of_block (hb.block b (Nat.lt_of_lt_of_le h2.lt hB)), h3.of_block (hb.block t (Nat.lt_of_lt_of_le h3.lt hB))⟩
theorem F.drewN (h : F w b) (n : Nat) : F (w.drewN n) b := h
theorem F.drew (h : F w b) : F w.drew b := h
/-- Nor what turns one block that is of another type. -/
theorem F.set (h : F w b) {c : Nat} {cs : Array Value} {T : TypeId} {fr : Nat × Nat} (hc : w.heap[c]? = some (.cells cs T fr)) (h1 : T ≠ 92) (h2 : T ≠ 131) (hg : w.grownBy w' (some c)) : F w' b := by
  have ne : ∀ k cs' T' fr', w.heap[k]? = some (.cells cs' T' fr') → T ≠ T' → k ≠ c := by
    intro k cs' T' fr' hk hT e
    subst e
    rw [hc] at hk
    simp at hk
    exact hT hk.2.1
  rcases h with h | ⟨t, h3, h4, h5⟩
  · exact .inl (h.of_block (hg.block b h.lt (by simp; exact ne _ _ _ _ h h1)))
  · exact .inr ⟨t, h3, h4.of_block (hg.block b h4.lt (by simp; exact ne _ _ _ _ h4 h1)), h5.of_block (hg.block t h5.lt (by simp; exact ne _ _ _ _ h5 h2))⟩
end
end Go.Proofs.YtfjkdmiaagalhaaGreat

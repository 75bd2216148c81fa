/-
  Lists of texts and of numbers in memory; the contracts of Scale, of the look at a mixture's members, and of Mix.
-/
import Derived.Test.YtfjkdmiaagalhaaGreatFScale
import Derived.Test.YtfjkdmiaagalhaaGreatReckon2
namespace Go.Proofs.YtfjkdmiaagalhaaGreat.Fd
open Go.RowKit Go.Lib

/-! ### Lists in memory -/
def TX (w : World) (v : Value) (n : Nat) (X : Nat → ByteArray) : Prop :=
  ∃ a c, v = .slice a n c ∧ (n = 0 ∨ ∃ bl off, a = some ⟨bl, off, none⟩ ∧ bl < w.heap.size ∧ ∀ i, i < n → w.cell? ⟨bl, off + i, none⟩ = some (.string (X i)))
def NX (w : World) (v : Value) (n : Nat) (Z : Nat → Int) : Prop :=
  ∃ a c, v = .slice a n c ∧ (n = 0 ∨ ∃ bl off, a = some ⟨bl, off, none⟩ ∧ bl < w.heap.size ∧ ∀ i, i < n → w.cell? ⟨bl, off + i, none⟩ = some (.int .i64 (Z i)))

theorem _root_.Go.Proofs.YtfjkdmiaagalhaaGreat.F.not_here {w : World} {f bl o : Nat} {v : Value} (hF : F w f) (hc : w.cell? ⟨bl, o, none⟩ = some v) (hv : (∃ s, v = .string s) ∨ ∃ z, v = .int .i64 z) : bl ≠ f := by
  have key : ∀ d m, FB w f d m → (∃ p, m = .pointer p) → bl ≠ f := by
    rintro d _ h ⟨p, rfl⟩ e
    subst e
    rw [cell_of_row w bl o _ _ _ h] at hc
    simp only [fCells] at hc
    rcases o with _ | _ | _ | _ | o
    all_goals
      rcases hv with ⟨s, rfl⟩ | ⟨z, rfl⟩ <;> simp at hc
  rcases hF with h | ⟨t, _, h, _⟩
  · exact key _ _ h ⟨_, rfl⟩
  · exact key _ _ h ⟨_, rfl⟩
theorem TX.kept {w w' : World} {f n : Nat} {v : Value} {X : Nat → ByteArray} (h : TX w v n X) (hF : F w f) (hg : w.grownBy w' (some f)) : TX w' v n X := by
  obtain ⟨a, c, rfl, h⟩ := h
  refine ⟨a, c, rfl, h.imp_right ?_⟩
  rintro ⟨bl, off, ha, hbl, hc⟩
  by_cases h0 : 0 < n
  · have hne := hF.not_here (hc 0 h0) (.inl ⟨_, rfl⟩)
    exact ⟨bl, off, ha, Nat.lt_of_lt_of_le hbl hg.size, fun i hi => (cell_congr (hg.block bl hbl (by simp; exact hne))).trans (hc i hi)⟩
  · exact ⟨bl, off, ha, Nat.lt_of_lt_of_le hbl hg.size, fun i hi => absurd hi (by omega)⟩
theorem NX.kept {w w' : World} {f n : Nat} {v : Value} {Z : Nat → Int} (h : NX w v n Z) (hF : F w f) (hg : w.grownBy w' (some f)) : NX w' v n Z := by
  obtain ⟨a, c, rfl, h⟩ := h
  refine ⟨a, c, rfl, h.imp_right ?_⟩
  rintro ⟨bl, off, ha, hbl, hc⟩
  by_cases h0 : 0 < n
  · have hne := hF.not_here (hc 0 h0) (.inr ⟨_, rfl⟩)
    exact ⟨bl, off, ha, Nat.lt_of_lt_of_le hbl hg.size, fun i hi => (cell_congr (hg.block bl hbl (by simp; exact hne))).trans (hc i hi)⟩
  · exact ⟨bl, off, ha, Nat.lt_of_lt_of_le hbl hg.size, fun i hi => absurd hi (by omega)⟩
theorem TX.below {w w' : World} {n : Nat} {v : Value} {X : Nat → ByteArray} (h : TX w v n X) (hb : Below w.heap.size w w') : TX w' v n X := by
  obtain ⟨a, c, rfl, h⟩ := h
  refine ⟨a, c, rfl, h.imp_right ?_⟩
  rintro ⟨bl, off, ha, hbl, hc⟩
  exact ⟨bl, off, ha, Nat.lt_of_lt_of_le hbl hb.size, fun i hi => (hb.cell (p := ⟨bl, off + i, none⟩) hbl).trans (hc i hi)⟩
theorem NX.below {w w' : World} {n : Nat} {v : Value} {Z : Nat → Int} (h : NX w v n Z) (hb : Below w.heap.size w w') : NX w' v n Z := by
  obtain ⟨a, c, rfl, h⟩ := h
  refine ⟨a, c, rfl, h.imp_right ?_⟩
  rintro ⟨bl, off, ha, hbl, hc⟩
  exact ⟨bl, off, ha, Nat.lt_of_lt_of_le hbl hb.size, fun i hi => (hb.cell (p := ⟨bl, off + i, none⟩) hbl).trans (hc i hi)⟩

/-! ### Mixtures in plain mathematics -/
def mixAt (N : Nat) (X : Nat → ByteArray) (C : Nat → Nat) : Nat → List UInt8
  | 0 => List.replicate N 0
  | j + 1 => xorL (mixAt N X C j) (byL (X j).data.toList (C j))
theorem mixAt_length (N n : Nat) (X : Nat → ByteArray) (C : Nat → Nat) (h : ∀ i, i < n → (X i).size = N) : ∀ j, j ≤ n → (mixAt N X C j).length = N
  | 0, _ => by simp [mixAt]
  | j + 1, hj => by
    have ih := mixAt_length N n X C h j (by omega)
    rw [mixAt, xorL_length _ _ (by rw [ih, byL_length, ← Lib.size_eq, h j (by omega)]), ih]

def elB (Z : Nat → Int) (j : Nat) : Bool := allB (fun i => isEl (Z i)) j
def szB (X : Nat → ByteArray) (j : Nat) : Bool := allB (fun i => (X i).size == (X 0).size) j
theorem elB_succ (Z : Nat → Int) (j : Nat) : elB Z (j + 1) = (isEl (Z j) && elB Z j) := rfl
theorem szB_succ (X : Nat → ByteArray) (j : Nat) : szB X (j + 1) = ((X j).size == (X 0).size && szB X j) := rfl
def faultC (n m : Nat) (X : Nat → ByteArray) (Z : Nat → Int) : Int := if n = m then (if szB X n then (if elB Z n then 0 else 1) else 4) else 4

/-! ### Scale -/
theorem gb_new {w w1 w2 : World} {f g : Nat} (h : w.grownBy w1 (some f)) (k : w1.grownBy w2 (some g)) (hg : w.heap.size ≤ g) : w.grownBy w2 (some f) :=
  ⟨k.os.trans h.os, k.tape.trans h.tape, k.output.trans h.output, Nat.le_trans h.size k.size, fun i hi hne => (k.block i (Nat.lt_of_lt_of_le hi h.size) (by simp; omega)).trans (h.block i hi hne)⟩
theorem gb_none {w w1 : World} {row : Option Nat} (h : w.grownBy w1 none) : w.grownBy w1 row := ⟨h.os, h.tape, h.output, h.size, fun i hi _ => h.block i hi (by simp)⟩
theorem _root_.Go.Proofs.YtfjkdmiaagalhaaGreat.F.row {w w' : World} {f g : Nat} {L : List UInt8} (h : F w f) (hB : BR w g L) (hg : w.grownBy w' (some g)) : F w' f := by
  obtain ⟨Z, fr, h1, _⟩ := hB
  exact h.set h1 (by decide) (by decide) hg
theorem BR.field {w w' : World} {f g : Nat} {L : List UInt8} (h : BR w g L) (hF : F w f) (hg : w.grownBy w' (some f)) : BR w' g L := by
  refine h.of_block (hg.block g h.lt ?_)
  intro e
  cases e
  obtain ⟨Z, fr, h1, _⟩ := h
  rcases hF with h2 | ⟨_, _, h2, _⟩
  · have := h1.symm.trans h2
    simp at this
  · have := h1.symm.trans h2
    simp at this

end Go.Proofs.YtfjkdmiaagalhaaGreat.Fd

/-
  The contract of Mul.
-/
import Derived.Test.YtfjkdmiaagalhaaGreatMul
namespace Go.Proofs.YtfjkdmiaagalhaaGreat
open Go.RowKit Go.Lib

theorem Bx.alloc {w : World} {b : Nat} {r c : Int} {v : Value} (h : Bx w b r c v) (o : Obj) : Bx (w.alloc o) b r c v := h.below ((Below.refl _ _).alloc (Nat.le_refl _) o) (Nat.le_refl _)
theorem Bx.new (w : World) (r c : Int) (v : Value) : Bx (w.alloc (.cells #[.int .i64 r, .int .i64 c, v] 50)) w.heap.size r c v := heap_alloc_new w _
theorem KB.alloc {w : World} {g n : Nat} {G : Nat → K} (h : KB w g n G) (o : Obj) : KB (w.alloc o) g n G := h.below ((Below.refl _ _).alloc (Nat.le_refl _) o) (Nat.le_refl _)
theorem SP.alloc {w : World} {sb f : Nat} (h : SP w sb f) (o : Obj) : SP (w.alloc o) sb f := h.below ((Below.refl _ _).alloc (Nat.le_refl _) o) (Nat.le_refl _)
theorem NX.below {w w' : World} {f n : Nat} {v : Value} {Z : Nat → Int} (h : NX w f v n Z) (hb : Below w.heap.size w w') : NX w' f v n Z := h.grown (gb_below hb (some f))
theorem NX.alloc {w : World} {f n : Nat} {v : Value} {Z : Nat → Int} (h : NX w f v n Z) (o : Obj) : NX (w.alloc o) f v n Z := h.below ((Below.refl _ _).alloc (Nat.le_refl _) o)
theorem NX.at {w : World} {f n : Nat} {v : Value} {Z : Nat → Int} (h : NX w f v n Z) (hn : n ≠ 0) : ∃ bl off c, v = .slice (some ⟨bl, off, none⟩) n c ∧ n ≤ c ∧ bl < w.heap.size ∧ bl ≠ f := by
  obtain ⟨a, c, rfl, hc, h | ⟨bl, off, rfl, h1, h2, _⟩⟩ := h
  · exact absurd h hn
  · exact ⟨bl, off, c, rfl, hc, h1, h2⟩
theorem NX.cell_at {w : World} {f n bl off c : Nat} {Z : Nat → Int} (h : NX w f (.slice (some ⟨bl, off, none⟩) n c) n Z) (j : Nat) (hj : j < n) : w.cell? ⟨bl, off + j, none⟩ = some (.int .i64 (Z j)) := by
  obtain ⟨a, c', e, _, h⟩ := h
  simp only [Value.slice.injEq, true_and] at e
  obtain ⟨rfl, rfl⟩ := e
  rcases h with h | ⟨bl', off', ha, _, _, hc⟩
  · omega
  · simp only [Option.some.injEq, Addr.mk.injEq, and_true] at ha
    obtain ⟨rfl, rfl⟩ := ha
    exact hc j hj
theorem up_K (n : Nat) (A : Nat → K) : upB 255 (fun k => (((A k).v : Nat) : Int)) n = true := by
  induction n with
  | zero => rfl
  | succ n ih =>
    have := (A n).lt
    rw [upB_succ, ih, Bool.and_true]
    simp; omega
theorem chk_ok {r c : Nat} (h1 : 1 ≤ r) (h2 : r ≤ 255) (h3 : 1 ≤ c) (h4 : c ≤ 255) (A : Nat → K) : chk r c (r * c) (fun k => (((A k).v : Nat) : Int)) = 0 := by
  rw [chk, if_neg (by rw [isSd_nat h1 h2]; simp), if_neg (by rw [isSd_nat h3 h4]; simp), if_neg (by simp), if_neg (by rw [up_K]; simp)]

/-- The cells of a matrix' three parts. -/
def MC (w : World) (b : Nat) (r c : Int) (v : Value) : Prop := w.cell? ⟨b, 0, none⟩ = some (.int .i64 r) ∧ w.cell? ⟨b, 1, none⟩ = some (.int .i64 c) ∧ w.cell? ⟨b, 2, none⟩ = some v
theorem Bx.mc {w : World} {b : Nat} {r c : Int} {v : Value} (h : Bx w b r c v) : MC w b r c v := ⟨h.cell0, h.cell1, h.cell2⟩

/-- What the loops of Mul keep. -/
structure MulI (w : World) (sb f g N pb : Nat) (ra ca cb : Nat) (va vb : Value) (G : Nat → K) (wr : World) : Prop where
  S : SP wr sb f
  G : KB wr g N G
  a : Bx wr w.heap.size ra ca va
  b : Bx wr (w.heap.size + 1) ca cb vb
  r : Bx wr (w.heap.size + 2) 0 0 (.slice none 0 0)
  p : Bx wr pb ra cb (.slice (some ⟨g, 0, none⟩) N N)
  gr : w.grownBy wr (some f)

end Go.Proofs.YtfjkdmiaagalhaaGreat

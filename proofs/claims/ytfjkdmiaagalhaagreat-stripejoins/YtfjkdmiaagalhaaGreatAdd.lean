/-
  The contracts of addTimes, One, Mul.
-/
import Derived.Test.YtfjkdmiaagalhaaGreatChk
namespace Go.Proofs.YtfjkdmiaagalhaaGreat
open Go.RowKit Go.Lib

/-- What turns no block but two. -/
structure Two (f g : Nat) (w w' : World) : Prop where
  os : w'.os = w.os
  tape : w'.tape = w.tape
  output : w'.output = w.output
  size : w.heap.size ≤ w'.heap.size
  block : ∀ k, k < w.heap.size → k ≠ f → k ≠ g → w'.heap[k]? = w.heap[k]?
theorem Two.refl (f g : Nat) (w : World) : Two f g w w := ⟨rfl, rfl, rfl, Nat.le_refl _, fun _ _ _ _ => rfl⟩
theorem Two.gb {f g b : Nat} {w w' w'' : World} (h : Two f g w w') (k : w'.grownBy w'' (some b)) (hb : b = f ∨ b = g) : Two f g w w'' :=
  ⟨k.os.trans h.os, k.tape.trans h.tape, k.output.trans h.output, Nat.le_trans h.size k.size, fun i hi h1 h2 => (k.block i (Nat.lt_of_lt_of_le hi h.size) (by simp; rcases hb with rfl | rfl <;> assumption)).trans (h.block i hi h1 h2)⟩
/-- If one of both is new. -/
theorem Two.grown {f g : Nat} {w0 w w' : World} (h0 : w0.grownBy w (some f)) (h : Two f g w w') (hg : w0.heap.size ≤ g) : w0.grownBy w' (some f) :=
  ⟨h.os.trans h0.os, h.tape.trans h0.tape, h.output.trans h0.output, Nat.le_trans h0.size h.size, fun k hk hne => (h.block k (Nat.lt_of_lt_of_le hk h0.size) (by simpa using hne) (by omega)).trans (h0.block k hk hne)⟩

theorem SP.kset {w w' : World} {sb f g n : Nat} {G : Nat → K} (h : SP w sb f) (hG : KB w g n G) (hg : w.grownBy w' (some g)) : SP w' sb f := by
  obtain ⟨Z, hG⟩ := hG
  exact h.set hG (by decide) (by decide) (by decide) hg

theorem SP.kne {w : World} {sb f g n : Nat} {G : Nat → K} (hS : SP w sb f) (hG : KB w g n G) : g ≠ f := by
  intro e
  subst e
  obtain ⟨Z, hG⟩ := hG
  rcases hS.fl with h | ⟨_, _, h, _⟩ <;> (unfold FB at h; rw [hG] at h; simp at h)
theorem SP.kns {w : World} {sb f g n : Nat} {G : Nat → K} (hS : SP w sb f) (hG : KB w g n G) : sb ≠ g := by
  intro e
  subst e
  obtain ⟨Z, hG⟩ := hG
  have h := hS.b
  unfold SPB at h
  rw [hG] at h
  simp at h

/-- The first j from o on have the products added. -/
def adds (G : Nat → K) (o : Nat) (H : Nat → K) (c : K) (j : Nat) : Nat → K := fun k => if o ≤ k ∧ k < o + j then G k + H (k - o) * c else G k
theorem adds_zero (G : Nat → K) (o : Nat) (H : Nat → K) (c : K) : adds G o H c 0 = G := by
  funext k; rw [adds, if_neg (by omega)]
theorem adds_at (G : Nat → K) (o : Nat) (H : Nat → K) (c : K) (j : Nat) : adds G o H c j (o + j) = G (o + j) := by rw [adds, if_neg (by omega)]
theorem adds_step (G : Nat → K) (o : Nat) (H : Nat → K) (c : K) (j k : Nat) : (if k = o + j then G (o + j) + H j * c else adds G o H c j k) = adds G o H c (j + 1) k := by
  by_cases e : k = o + j
  · subst e; rw [if_pos rfl, adds, if_pos (by omega), show o + j - o = j by omega]
  · rw [if_neg e, adds, adds]
    by_cases h : o ≤ k ∧ k < o + j
    · rw [if_pos h, if_pos (by omega)]
    · rw [if_neg h, if_neg (by omega)]

/-- A row of elements to be read at a place of a block. -/
def RD (w : World) (b o n : Nat) (H : Nat → K) : Prop := ∀ j, j < n → w.cell? ⟨b, o + j, none⟩ = some (.int .i64 (((H j).v : Nat) : Int))

set_option maxRecDepth 100000 in
set_option maxHeartbeats 800000 in
theorem addTimes_any {w : World} {sb f g o N cp bl ol n cl : Nat} {G H : Nat → K} (hS : SP w sb f) (hG : KB w g N G) (hL : RD w bl ol n H) (hbl : bl < w.heap.size) (hblf : bl ≠ f) (hblg : bl ≠ g) (hon : o + n ≤ N) (hN : N < 2 ^ 62) (c : K) :
    Calls Tryz.prog 104 #[.pointer (some ⟨sb, 0, none⟩), .slice (some ⟨g, o, none⟩) n cp, .slice (some ⟨bl, ol, none⟩) n cl, .int .i64 ((c.v : Nat) : Int)] w fun e w' => e = .returned (.tuple #[]) ∧ SP w' sb f ∧ KB w' g N (adds G o H c n) ∧ Two f g w w' := by
  by_cases hc : c.v = 0
  · have e0 : c = 0 := K.ext hc
    have e1 : adds G o H c n = G := by
      funext k; rw [adds, e0]; split
      · rw [K.mul_zero, K.add_zero]
      · rfl
    rw [e1]
    have HS := hide hS
    have HG := hide hG
    clear hS hG hL e1
    rw [hc]
    go_enter Tryz.func104, Tryz.ntmps104
    go_wp2
    exact bodyPost_ret (results_none rfl _ _ _) rfl ⟨rfl, HS.out, HG.out, Two.refl _ _ _⟩
  · have hc' : (((c.v : Nat) : Int) == 0) = false := by simp; omega
    have HS := hide hS
    have HG := hide hG
    have HL := hide hL
    have hgf : g ≠ f := hS.kne hG
    clear hS hG hL
    go_enter Tryz.func104, Tryz.ntmps104
    go_wp2
    go_loopw [16] (fun i wr => ∃ j : Nat, j ≤ n ∧ i = .int .i64 j ∧ SP wr sb f ∧ KB wr g N (adds G o H c j) ∧ Two f g w wr) (fun i _ => n - (intOf i).toNat)
    case atStart => exact ⟨0, Nat.zero_le _, rfl, HS.out, by rw [adds_zero]; exact HG.out, Two.refl _ _ _⟩
    case round =>
      obtain ⟨j, hj, rfl, hS, hG, hT⟩ := hrel
      by_cases hlt : j < n
      · have c1 := (cell_congr (hT.block bl hbl hblf hblg)).trans (HL.out j hlt)
        have c2 := hS.b.cell
        have b0 : (0 : Int) ≤ (j : Int) := by omega
        have b1 : (j : Int) < (n : Int) := by omega
        have HS1 := hide hS
        have HG1 := hide hG
        have HT1 := hide hT
        clear hS hG hT
        go_wp2_with fail
        refine (mul_ok HS1.out.fl (H j).v c.v (H j).lt c.lt).mono ?_
        rintro e w1 ⟨rfl, hF1, hg1⟩
        have hS1 := HS1.out.field hg1 hF1
        have hG1 := HG1.out.of_block (hg1.block g HG1.out.lt (by simp; exact hgf))
        have hT1 := HT1.out.gb hg1 (.inl rfl)
        have c3 := hG1.cell (o + j) (by omega)
        rw [adds_at] at c3
        have z3 := hG1.free (o + j)
        obtain ⟨y, hy⟩ : ∃ y, y = G (o + j) + H j * c := ⟨_, rfl⟩
        have hx : bits .xor .i64 (((G (o + j)).v : Nat) : Int) ((prod (H j).v c.v : Nat) : Int) = (((G (o + j) + H j * c).v : Nat) : Int) := xor_i64 _ _ (Nat.lt_of_lt_of_le (G (o + j)).lt (by decide)) (Nat.lt_of_lt_of_le (prod_lt _ _) (by decide))
        have HS2 := hide hS1
        have HG2 := hide hG1
        have HT2 := hide hT1
        clear hS1 hG1 hT1 hF1 hg1
        rw [← hy] at hx
        have HY := hide hy
        clear hy
        go_wp2
        refine ⟨⟨j + 1, by omega, by go_num, HS2.out.kset HG2.out (gb_set w1 g (o + j) _), ?_, HT2.out.gb (gb_set w1 g (o + j) _) (.inr rfl)⟩, by simp [intOf]; omega⟩
        exact (HG2.out.set (o + j) (by omega) y).congr (fun k _ => by rw [HY.out, adds_step])
      · obtain rfl : j = n := by omega
        have HS1 := hide hS
        have HG1 := hide hG
        have HT1 := hide hT
        clear hS hG hT
        go_wp2
        go_end0
        exact ⟨rfl, HS1.out, HG1.out, HT1.out⟩
end Go.Proofs.YtfjkdmiaagalhaaGreat

/-
  Lookup: one list of a table with others let in.
-/
import Derived.Test.YtkcefdiiibbflaaLuFrom2
namespace Go.Proofs.Ytkcefdiiibbflaa
open Go.RowKit Go.Lib
theorem SG.frame {w w' : World} {g o N : Nat} {T : List IT} (h : SG w g o N T) (hk : KB6 w' g N) (hf : ∀ j, o ≤ j → w'.cell? ⟨g, j, none⟩ = w.cell? ⟨g, j, none⟩) : SG w' g o N T :=
  ⟨hk, fun j v hv => (hf (o + j) (by omega)).trans (h.rng j v hv), h.fit⟩
theorem add_step {R R1 : Nat → Prop} {w W w9 : World} {tb g o N i : Nat} {vs : List Value} {L1 X1 Y : List IT} {v v9 : Value} (hTV : TV R1 W tb vs L1) (hTB : TB R1 W tb L1) (hv : vs[i]? = some v) (hW : WX W v g o N (bkL L1 i) X1 v9 w9) (hX : ∀ x ∈ X1, fb x = i) (hXok : ∀ x ∈ X1, x.id.size = 32)
    (hg : ¬ R1 g) (hgl : g < W.heap.size) (hS : SG W g (o + X1.length * 6) N Y) (hGs : Gs R w W) (hR1 : ∀ i, R1 i → R i ∨ w.heap.size ≤ i) (hgw : w.heap.size ≤ g) (hRt : R tb) :
    ∃ a9 n9 c9, v9 = .slice a9 n9 c9 ∧ w9.cell? ⟨tb, i, none⟩ = some v ∧ w9.frozen? ⟨tb, i, none⟩ = false ∧ (∀ b u, ¬ R1 b → b ≠ g → W.cell? ⟨b, 0, none⟩ = some u → w9.cell? ⟨b, 0, none⟩ = some u ∧ (w9.setCell ⟨tb, i, none⟩ v9).cell? ⟨b, 0, none⟩ = some u) ∧
      ∃ R2, TB R2 (w9.setCell ⟨tb, i, none⟩ v9) tb (un L1 X1) ∧ SG (w9.setCell ⟨tb, i, none⟩ v9) g (o + X1.length * 6) N Y ∧ Gs R w (w9.setCell ⟨tb, i, none⟩ v9) ∧ (∀ i, R2 i → R i ∨ w.heap.size ≤ i) ∧ ¬ R2 g := by
  obtain ⟨Rl, hO9, hSS9, hm9, hG9, hb9, hK9, hf9⟩ := hW
  obtain ⟨a9, c9, e9⟩ := hO9.shp
  have hvb := (hTV.2.2.1 i v hv).2
  have hgt : g ≠ tb := fun e => hg (by rw [e]; exact hTB.rt)
  obtain ⟨p1, p2, p3, p4⟩ := hTV.put (L' := un L1 X1) hTB.lt hv hG9 (fun i e => by
      rcases e with e | e
      · exact .inl e
      · exact .inr ⟨by rw [e]; exact hg, by rw [e]; exact hgt⟩) (by rw [un_this hTB.ss hX hSS9 hm9]; exact hO9) hb9 (fun q hq => un_other hTB.ss hX hq)
  have hs9 := hG9.size
  have hs10 := p4.size
  have hwW := hGs.size
  have htbl := hTB.lt tb hTB.rt
  refine ⟨a9, _, c9, e9, p1, p2, fun b u hb1 hb2 hu => ?_, _, ⟨⟨_, p3⟩, .inl hTB.rt, un_ss _ hTB.ss, fun x hx => ?_, fun q hq => ?_⟩, ?_, ?_, fun q hq => ?_, fun h => ?_⟩
  · have hbl := World.block_lt_of_cell? W _ hu
    have k1 : w9.heap[b]? = W.heap[b]? := hG9.block b hbl (fun e => by
      rcases e with e | e
      · exact hb1 (hvb.2 b e)
      · exact hb2 e)
    have hbt : b ≠ tb := fun e => hb1 (by rw [e]; exact hTB.rt)
    have k2 := (p4.block b (Nat.lt_of_lt_of_le hbl hs9) hbt).trans k1
    exact ⟨by rw [World.cell?, k1]; exact hu, by rw [World.cell?, k2]; exact hu⟩
  · rcases (un_mem X1 L1 x).1 hx with h | h
    · exact hTB.ok x h
    · exact hXok x h
  · rcases hq with h | h
    · have := hTB.lt q h; omega
    · have := (hO9.lt q h).2; omega
  · refine (hS.frame hK9 (fun j hj => hf9 j (.inr hj))).kb (p4.block g (by omega) hgt)
  · refine (hGs.step hG9 (fun q hq => ?_)).step p4 (fun q hq => .inl (by rw [hq]; exact hRt))
    rcases hq with h | h
    · exact hR1 q (hvb.2 q h)
    · exact .inr (by omega)
  · rcases hq with h | h
    · exact hR1 q h
    · rcases hb9 with h9 | ⟨b, h9, hb⟩
      · rw [h9] at h; exact hR1 q (hvb.2 q h)
      · rw [h9] at h; cases h; exact .inr (by omega)
  · rcases h with h | h
    · exact hg h
    · rcases hb9 with h9 | ⟨b, h9, hb⟩
      · rw [h9] at h; exact hg (hvb.2 g h)
      · rw [h9] at h; cases h; omega
end Go.Proofs.Ytkcefdiiibbflaa

/-
  Lookup: an item that is handed over by value.
-/
import Derived.Test.YtkcefdiiibbflaaLuMath
import Derived.ProofKit
import Derived.OpenShut
import Derived.SizedLaws
import Derived.Lib.SmallJoins
namespace Go.Proofs.Ytkcefdiiibbflaa
open Go.ChangeShapes Go.WideShapes Go.ChangeAt Go.RowKit Go.Lib Go.Joins Go.Deep
theorem Try.own : ownKnob Try.prog.godebug = none := by kernel_rfl
theorem Try.laidOut : laidOutB Try.prog = true := by kernel_rfl
theorem Try.cellsIt : Try.prog.cellsOf 25 = 6 := by kernel_rfl
theorem Try.cellsPl : Try.prog.cellsOf 23 = 5 := by kernel_rfl
theorem Try.cellsSt : Try.prog.cellsOf 9 = 1 := by kernel_rfl
theorem Try.cellsIn : Try.prog.cellsOf 3 = 1 := by kernel_rfl
theorem array6 {α : Type} {cs : Array α} (h : cs.size = 6) : ∃ c0 c1 c2 c3 c4 c5, cs = #[c0, c1, c2, c3, c4, c5] := by
  obtain ⟨l⟩ := cs
  match l, h with
  | [c0, c1, c2, c3, c4, c5], _ => exact ⟨c0, c1, c2, c3, c4, c5, rfl⟩
section
variable {H : Type} {enc : TypeId × Value → H} {w : World} {base : Nat} {spare : Nat → Bool} {held : Bool}
theorem item_cells {fuel : Nat} {c0 c1 c2 c3 c4 c5 : Value} {y : DataW H × List MemPlace} (h : DataW.trod enc Try.prog w base spare held fuel 25 [c0, c1, c2, c3, c4, c5] = some y) :
    ∃ x : IT, [c0, c1, c2, c3, c4, c5] = it6 x := by
  obtain ⟨xs, n, _, _, _, hlen, hf⟩ := DataW.trod_struct Try.underlying25 h
  match xs, hlen with
  | [y0, y1], _ =>
    have h0 : DataW.trod enc Try.prog w base spare held n 9 (([c0, c1, c2, c3, c4, c5].drop 0).take (Try.prog.cellsOf 9)) = some y0 := hf 0 _ rfl
    have h1 : DataW.trod enc Try.prog w base spare held n 23 (([c0, c1, c2, c3, c4, c5].drop 1).take (Try.prog.cellsOf 23)) = some y1 := hf 1 _ rfl
    rw [Try.cellsSt] at h0
    rw [Try.cellsPl] at h1
    replace h0 : DataW.trod enc Try.prog w base spare held n 9 [c0] = some y0 := h0
    replace h1 : DataW.trod enc Try.prog w base spare held n 23 [c1, c2, c3, c4, c5] = some y1 := h1
    obtain ⟨zs, m, _, _, _, hlen2, hg⟩ := DataW.trod_struct Try.underlying23 h1
    match zs, hlen2 with
    | [z1, z2, z3, z4, z5], _ =>
      have g1 : DataW.trod enc Try.prog w base spare held m 9 (([c1, c2, c3, c4, c5].drop 0).take (Try.prog.cellsOf 9)) = some z1 := hg 0 _ rfl
      have g2 : DataW.trod enc Try.prog w base spare held m 3 (([c1, c2, c3, c4, c5].drop 1).take (Try.prog.cellsOf 3)) = some z2 := hg 1 _ rfl
      have g3 : DataW.trod enc Try.prog w base spare held m 3 (([c1, c2, c3, c4, c5].drop 2).take (Try.prog.cellsOf 3)) = some z3 := hg 2 _ rfl
      have g4 : DataW.trod enc Try.prog w base spare held m 3 (([c1, c2, c3, c4, c5].drop 3).take (Try.prog.cellsOf 3)) = some z4 := hg 3 _ rfl
      have g5 : DataW.trod enc Try.prog w base spare held m 3 (([c1, c2, c3, c4, c5].drop 4).take (Try.prog.cellsOf 3)) = some z5 := hg 4 _ rfl
      rw [Try.cellsSt] at g1
      rw [Try.cellsIn] at g2 g3 g4 g5
      replace g1 : DataW.trod enc Try.prog w base spare held m 9 [c1] = some z1 := g1
      replace g2 : DataW.trod enc Try.prog w base spare held m 3 [c2] = some z2 := g2
      replace g3 : DataW.trod enc Try.prog w base spare held m 3 [c3] = some z3 := g3
      replace g4 : DataW.trod enc Try.prog w base spare held m 3 [c4] = some z4 := g4
      replace g5 : DataW.trod enc Try.prog w base spare held m 3 [c5] = some z5 := g5
      obtain ⟨a, e0, _⟩ := DataW.trod_string Try.underlying9 h0
      obtain ⟨b, e1, _⟩ := DataW.trod_string Try.underlying9 g1
      obtain ⟨k, e2, _, _⟩ := DataW.trod_int Try.underlying3 g2
      obtain ⟨o, e3, _, _⟩ := DataW.trod_int Try.underlying3 g3
      obtain ⟨l, e4, _, _⟩ := DataW.trod_int Try.underlying3 g4
      obtain ⟨s, e5, _, _⟩ := DataW.trod_int Try.underlying3 g5
      simp at e0 e1 e2 e3 e4 e5
      subst e0 e1 e2 e3 e4 e5
      exact ⟨⟨a, b, k, o, l, s⟩, rfl⟩
end
set_option maxRecDepth 100000 in
theorem open_item {H : Type} {enc : TypeId × Value → H} {w : World} {r : Reach} {b0 : Nat} {v : Value} {d : DataW H} {p : List MemPlace} (hv : Value.okWide Try.prog w r b0 25 v) (h : DataW.Trod enc Try.prog w 0 (fun _ => true) true 25 v d p) :
    ∃ x : IT, v = .agg (it6 x).toArray := by
  obtain ⟨cs, rfl, hsz⟩ := okWide_struct Try.underlying25 hv
  obtain ⟨c0, c1, c2, c3, c4, c5, rfl⟩ := array6 (hsz.trans Try.cellsIt)
  obtain ⟨fuel, hf⟩ := h
  obtain ⟨x, hx⟩ := item_cells (c0 := c0) (c1 := c1) (c2 := c2) (c3 := c3) (c4 := c4) (c5 := c5) (by simpa [Value.cells] using hf)
  exact ⟨x, by rw [← hx]⟩
end Go.Proofs.Ytkcefdiiibbflaa

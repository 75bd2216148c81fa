/-
  Gear: from the row's condition on the listed variable to what the walks ask; a setup, three numbers, two texts that are handed over.
-/
import Derived.Test.YtdmlhkphdolbeaaDoorGeMix
import Derived.ProofKit
import Derived.LaidMore
import Derived.OpenShut
import Derived.SizedLaws
import Derived.Stop.Joined
import Derived.Lib.SmallJoins
namespace Go.Proofs.YtdmlhkphdolbeaaDoor
open Go.ChangeShapes Go.WideShapes Go.ChangeAt Go.RowKit Go.Lib Go.Joins Go.Deep

theorem Tryd.own : ownKnob Tryd.prog.godebug = none := by kernel_rfl
theorem Tryd.laidOut : laidOutB Tryd.prog = true := by kernel_rfl
theorem Tryd.gMix : Tryd.prog.globalNamed "garret/gear.mixing" = some 0 := by kernel_rfl
theorem Tryd.tMix : (Tryd.prog.globals[0]?).map (·.type) = some 71 := by kernel_rfl
theorem Tryd.cM : Tryd.prog.cellsOf 71 = 4 := by kernel_rfl
theorem Tryd.cP : Tryd.prog.cellsOf 70 = 2 := by kernel_rfl
theorem Tryd.cU : Tryd.prog.cellsOf 26 = 1 := by kernel_rfl
theorem Tryd.cI : Tryd.prog.cellsOf 3 = 1 := by kernel_rfl
theorem Tryd.cS : Tryd.prog.cellsOf 23 = 3 := by kernel_rfl
theorem Tryd.cA3 : Tryd.prog.cellsOf 42 = 3 := by kernel_rfl
abbrev laidM : List (String × DataW Unit) := [("garret/gear.mixing", Rows.laid_garret_gear_mixing)]
theorem doorM (os : Os) (args : Array Value) : laidMetH Tryd.prog laidM ((World.doorLaid Tryd.prog 400 os).forCall (fun _ _ => 0) ⟨#[], args, []⟩).memory :=
  laidMetH_of_parts3 (fuel := 8) (laidMet_of_run' 8 (by kernel_rfl) (by kernel_rfl)) (by kernel_rfl) (by kernel_rfl)
section
variable {H : Type} {enc : TypeId × Value → H} {w : World} {base : Nat} {spare : Nat → Bool} {held : Bool}
theorem mix_pair {fuel : Nat} {c0 c1 : Value} {a b : Int} {y : DataW H × List MemPlace} (h : DataW.trod enc Tryd.prog w base spare held fuel 70 [c0, c1] = some y) (hy : y.1 = .agg [.lit (.int .u64 a), .lit (.int .i64 b)]) : c0 = .int .u64 a ∧ c1 = .int .i64 b := by
  obtain ⟨xs, n, _, rfl, _, hlen, hf⟩ := DataW.trod_struct Tryd.underlying70 h
  match xs, hlen with
  | [y0, y1], _ =>
    have h0 : DataW.trod enc Tryd.prog w base spare held n 26 (([c0, c1].drop 0).take (Tryd.prog.cellsOf 26)) = some y0 := hf 0 _ rfl
    have h1 : DataW.trod enc Tryd.prog w base spare held n 3 (([c0, c1].drop 1).take (Tryd.prog.cellsOf 3)) = some y1 := hf 1 _ rfl
    rw [Tryd.cU] at h0
    rw [Tryd.cI] at h1
    replace h0 : DataW.trod enc Tryd.prog w base spare held n 26 [c0] = some y0 := h0
    replace h1 : DataW.trod enc Tryd.prog w base spare held n 3 [c1] = some y1 := h1
    obtain ⟨m0, e0, x0, _⟩ := DataW.trod_int Tryd.underlying26 h0
    obtain ⟨m1, e1, x1, _⟩ := DataW.trod_int Tryd.underlying3 h1
    subst x0 x1
    simp at hy e0 e1
    rw [e0, e1, hy.1, hy.2]
    exact ⟨rfl, rfl⟩
theorem mix_cells {fuel : Nat} {cs : List Value} {p : List MemPlace} (h : DataW.trod enc Tryd.prog w base spare held fuel 71 cs = some (Rows.laid_garret_gear_mixing, p)) :
    cs = [.int .u64 11400714819323198485, .int .i64 31, .int .u64 13787848793156543929, .int .i64 29] := by
  obtain ⟨xs, m, _, hx, hl, hlen, hel⟩ := DataW.trod_array Tryd.underlying71 h
  rw [Tryd.cM] at hl
  match cs, hl, xs, hlen with
  | [c0, c1, c2, c3], _, [y0, y1], _ =>
    have h0 := hel 0 (by decide)
    have h1 := hel 1 (by decide)
    rw [Tryd.cP] at h0 h1
    simp only [Nat.zero_mul, Nat.one_mul, List.drop_zero, List.drop_succ_cons, List.take_succ_cons, List.take_zero, List.getElem?_cons_zero, List.getElem?_cons_succ] at h0 h1
    simp only [Rows.laid_garret_gear_mixing, List.map_cons, List.map_nil, Prod.mk.injEq, DataW.agg.injEq, List.cons.injEq, and_true] at hx
    obtain ⟨rfl, rfl⟩ := mix_pair h0 hx.1.1.symm
    obtain ⟨rfl, rfl⟩ := mix_pair h1 hx.1.2.symm
    rfl
theorem open_agg3 {P : Program} {r : Reach} {b0 : Nat} {t : TypeId} {f0 f1 f2 : Field} {v : Value} {d : DataW H} {p : List MemPlace} (hs : P.underlying t = some (.struct #[f0, f1, f2])) (hone : oneCellFields P #[f0, f1, f2] = true) (hC : P.cellsOf t = 3)
    (hv : Value.okWide P w r b0 t v) (h : DataW.Trod enc P w base spare held t v d p) :
    ∃ (v0 v1 v2 : Value) (y0 y1 y2 : DataW H × List MemPlace) (n : Nat), v = .agg #[v0, v1, v2] ∧
      DataW.trod enc P w base spare held n f0.type [v0] = some y0 ∧ DataW.trod enc P w base spare held n f1.type [v1] = some y1 ∧ DataW.trod enc P w base spare held n f2.type [v2] = some y2 := by
  obtain ⟨cs, rfl, hsz⟩ := okWide_struct hs hv
  rw [hC] at hsz
  obtain ⟨l⟩ := cs
  match l, hsz with
  | [c0, c1, c2], _ =>
    obtain ⟨fuel, hf⟩ := h
    obtain ⟨xs, n, _, _, _, hlen, hf⟩ := DataW.trod_struct hs hf
    obtain ⟨o0, k0⟩ := hone_of hone 0 f0 rfl
    obtain ⟨o1, k1⟩ := hone_of hone 1 f1 rfl
    obtain ⟨o2, k2⟩ := hone_of hone 2 f2 rfl
    match xs, hlen with
    | [y0, y1, y2], _ => exact ⟨c0, c1, c2, y0, y1, y2, n, rfl, by simpa [Value.cells, o0, k0] using hf 0 f0 rfl, by simpa [Value.cells, o1, k1] using hf 1 f1 rfl, by simpa [Value.cells, o2, k2] using hf 2 f2 rfl⟩
theorem open_setup {r : Reach} {b0 : Nat} {v : Value} {d : DataW H} {p : List MemPlace} (hv : Value.okWide Tryd.prog w r b0 23 v) (h : DataW.Trod enc Tryd.prog w base spare held 23 v d p) : ∃ L B M : Int, v = .agg #[.int .i64 L, .int .i64 B, .int .i64 M] := by
  obtain ⟨c0, c1, c2, y0, y1, y2, n, rfl, h0, h1, h2⟩ := open_agg3 Tryd.underlying23 (by kernel_rfl) Tryd.cS hv h
  obtain ⟨k, e0, _, _⟩ := DataW.trod_int Tryd.underlying3 h0
  obtain ⟨m, e1, _, _⟩ := DataW.trod_int Tryd.underlying3 h1
  obtain ⟨i, e2, _, _⟩ := DataW.trod_int Tryd.underlying3 h2
  simp at e0 e1 e2
  subst e0 e1 e2
  exact ⟨k, m, i, rfl⟩
theorem open_arr3 {r : Reach} {b0 : Nat} {v : Value} {d : DataW H} {p : List MemPlace} (hv : Value.okWide Tryd.prog w r b0 42 v) (h : DataW.Trod enc Tryd.prog w base spare held 42 v d p) : ∃ a b c : Int, v = .agg #[.int .i64 a, .int .i64 b, .int .i64 c] := by
  have ht := Tryd.underlying42
  obtain ⟨cs, rfl, hsz, _⟩ : ∃ cs, v = .agg cs ∧ cs.size = Tryd.prog.cellsOf 42 ∧ Row.okWide Tryd.prog w r b0 42 cs := by simpa [Value.okWide, ht] using hv
  rw [Tryd.cA3] at hsz
  obtain ⟨l⟩ := cs
  match l, hsz with
  | [c0, c1, c2], _ =>
    obtain ⟨fuel, hf⟩ := h
    obtain ⟨xs, m, _, _, _, hl, hel⟩ := DataW.trod_array ht hf
    match xs, hl with
    | [y0, y1, y2], _ =>
      have g0 := hel 0 (by decide)
      have g1 := hel 1 (by decide)
      have g2 := hel 2 (by decide)
      rw [Tryd.cI] at g0 g1 g2
      obtain ⟨k, e0, _, _⟩ := DataW.trod_int (cs := [c0]) (x := y0) Tryd.underlying3 (by simpa [Value.cells] using g0)
      obtain ⟨m, e1, _, _⟩ := DataW.trod_int (cs := [c1]) (x := y1) Tryd.underlying3 (by simpa [Value.cells] using g1)
      obtain ⟨i, e2, _, _⟩ := DataW.trod_int (cs := [c2]) (x := y2) Tryd.underlying3 (by simpa [Value.cells] using g2)
      simp at e0 e1 e2
      subst e0 e1 e2
      exact ⟨_, _, _, rfl⟩
end
theorem laidM_of {W : World} (h : laidMetH Tryd.prog laidM W) : Lm W := by
  rw [MakeChecks.laidMetH_plain _ _ _ (by kernel_rfl)] at h
  obtain ⟨ps, ⟨g0, t0, cs0, f0, p0, q0, hg0, ht0, hv0, hd0, _, _⟩, _, _⟩ := h
  obtain rfl := Option.some.inj (Tryd.gMix.symm.trans hg0)
  obtain rfl := Option.some.inj (Tryd.tMix.symm.trans ht0)
  have e0 := mix_cells hd0
  simp only [World.var?, Tryd.gMix, Option.bind_some] at hv0
  split at hv0
  · rename_i cs t fr hq
    have hcs := Option.some.inj hv0
    refine ⟨t, fr, ?_⟩
    rw [hq, hcs]
    congr 2
    apply Array.ext'
    rw [e0]
  · cases hv0
end Go.Proofs.YtdmlhkphdolbeaaDoor

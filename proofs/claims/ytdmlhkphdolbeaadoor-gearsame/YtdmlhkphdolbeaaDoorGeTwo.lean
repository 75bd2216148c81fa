/-
  Gear: two texts that are handed over by value.
-/
import Derived.Test.YtdmlhkphdolbeaaDoorGeOpen
namespace Go.Proofs.YtdmlhkphdolbeaaDoor
open Go.ChangeShapes Go.WideShapes Go.ChangeAt Go.RowKit Go.Lib Go.Joins Go.Deep
theorem Tryd.cS1 : Tryd.prog.cellsOf 9 = 1 := by kernel_rfl
theorem Tryd.cA2 : Tryd.prog.cellsOf 46 = 2 := by kernel_rfl
theorem sized_two {H : Type} {P : Program} {ts : List TypeId} {ds : List (DataW H)} (h : (DataW.weightsEach P ts ds).all (· ≤ reachBytes) = true) {j n : Nat} {t e : TypeId} {a b : List UInt8} (ht : ts[j]? = some t) (hd : ds[j]? = some (.agg [.lit (.string a), .lit (.string b)])) (hu : P.underlying t = some (.array n e)) :
    a.length ≤ reachBytes ∧ b.length ≤ reachBytes := by
  have h1 := List.all_eq_true.1 h _ (DataW.weights_mem_each ht hd a.length (by simp [DataW.weights, hu, DataW.weightsAll]))
  have h2 := List.all_eq_true.1 h _ (DataW.weights_mem_each ht hd b.length (by simp [DataW.weights, hu, DataW.weightsAll]))
  exact ⟨by simpa using h1, by simpa using h2⟩
section
variable {H : Type} {enc : TypeId × Value → H} {w : World} {base : Nat} {spare : Nat → Bool} {held : Bool}
theorem open_two {r : Reach} {b0 : Nat} {v : Value} {d : DataW H} {p : List MemPlace} (hv : Value.okWide Tryd.prog w r b0 46 v) (h : DataW.Trod enc Tryd.prog w base spare held 46 v d p) :
    ∃ a b : ByteArray, v = .agg #[.string a, .string b] ∧ d = .agg [.lit (.string a.data.toList), .lit (.string b.data.toList)] := by
  have ht := Tryd.underlying46
  obtain ⟨cs, rfl, hsz, _⟩ : ∃ cs, v = .agg cs ∧ cs.size = Tryd.prog.cellsOf 46 ∧ Row.okWide Tryd.prog w r b0 46 cs := by simpa [Value.okWide, ht] using hv
  rw [Tryd.cA2] at hsz
  obtain ⟨l⟩ := cs
  match l, hsz with
  | [c0, c1], _ =>
    obtain ⟨fuel, hf⟩ := h
    obtain ⟨xs, m, _, hx, _, hl, hel⟩ := DataW.trod_array ht hf
    match xs, hl with
    | [y0, y1], _ =>
      have g0 := hel 0 (by decide)
      have g1 := hel 1 (by decide)
      rw [Tryd.cS1] at g0 g1
      obtain ⟨a, e0, x0, _⟩ := DataW.trod_string (cs := [c0]) (x := y0) Tryd.underlying9 (by simpa [Value.cells] using g0)
      obtain ⟨b, e1, x1, _⟩ := DataW.trod_string (cs := [c1]) (x := y1) Tryd.underlying9 (by simpa [Value.cells] using g1)
      simp at e0 e1
      subst e0 e1 x0 x1
      simp only [List.map_cons, List.map_nil, Prod.mk.injEq] at hx
      exact ⟨a, b, rfl, hx.1⟩
end
end Go.Proofs.YtdmlhkphdolbeaaDoor

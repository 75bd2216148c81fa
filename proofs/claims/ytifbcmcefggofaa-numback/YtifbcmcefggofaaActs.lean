/-
  What a law's list of acts holds, as cells; a reader that has an error.
-/
import Derived.Test.YtifbcmcefggofaaAsk2
import Derived.ProofKit
import Derived.OpenShut
import Derived.SizedLaws
import Derived.Deep.SlicePairs
namespace Go.Proofs.Ytifbcmcefggofaa
open Go.ChangeShapes Go.WideShapes Go.ChangeAt Go.RowKit Go.Lib

/-- A list of acts that came in: at each place its kind and its number. -/
def IsActs (w : World) (a : Option Addr) (len : Nat) (K N : Nat → Int) : Prop :=
  len = 0 ∨ ∃ b off, a = some ⟨b, off, none⟩ ∧ b < w.heap.size ∧ ∀ i, i < len →
    w.cell? ⟨b, off + i * 2, none⟩ = some (.int .i64 (K i)) ∧ w.cell? ⟨b, off + i * 2 + 1, none⟩ = some (.int .i64 (N i)) ∧ (-9223372036854775808 ≤ K i ∧ K i ≤ 9223372036854775807) ∧ (-9223372036854775808 ≤ N i ∧ N i ≤ 9223372036854775807)

theorem Try.cells37 : Try.prog.cellsOf 37 = 2 := by kernel_rfl
theorem Try.cells3 : Try.prog.cellsOf 3 = 1 := by kernel_rfl

theorem add_plain (b off j : Nat) : (⟨b, off, none⟩ : Addr).add j = ⟨b, off + j, none⟩ := by
  unfold Addr.add; split <;> simp_all

theorem open_acts {H : Type} {enc : TypeId × Value → H} {w : World} {a : Option Addr} {len cap : Nat} {d : DataW H} {ps : List MemPlace}
    (h : DataW.Trod enc Try.prog w 0 (fun _ => true) true 29 (.slice a len cap) d ps) : len ≤ maxLen ∧ ∃ K N, IsActs w a len K N := by
  obtain ⟨fuel, hf⟩ := h
  rcases Go.Deep.open_slice_pairs Try.underlying29 Try.underlying37 Try.cells37 rfl rfl Try.cells3 Try.cells3 hf with ⟨hcs, _⟩ | ⟨x, l, c, m, n, V0, V1, D0, D1, P0, P1, hcs, _, hlc, hcm, hm, _, hx⟩
  · simp [Value.cells] at hcs
    obtain ⟨_, rfl, _⟩ := hcs
    exact ⟨Nat.zero_le _, fun _ => 0, fun _ => 0, .inl rfl⟩
  · simp [Value.cells] at hcs
    obtain ⟨rfl, rfl, rfl⟩ := hcs
    simp only [if_true] at hm
    subst hm
    refine ⟨by omega, ?_⟩
    by_cases h0 : len = 0
    · exact ⟨fun _ => 0, fun _ => 0, .inl h0⟩
    have hall : ∀ i, i < len → ∃ kn : Int × Int, w.cell? (x.add (i * 2)) = some (.int .i64 kn.1) ∧ w.cell? (x.add (i * 2 + 1)) = some (.int .i64 kn.2) ∧ (Lit.int .i64 kn.1).wf = true ∧ (Lit.int .i64 kn.2).wf = true := by
      intro i hi
      obtain ⟨c0, c1, t0, t1⟩ := hx i (by omega)
      obtain ⟨k, e0, _, w0⟩ := DataW.trod_int Try.underlying3 t0
      obtain ⟨q, e1, _, w1⟩ := DataW.trod_int Try.underlying3 t1
      simp only [List.cons.injEq, and_true] at e0 e1
      rw [e0] at c0
      rw [e1] at c1
      exact ⟨(k, q), c0, c1, w0, w1⟩
    obtain ⟨KN, hKN⟩ := Go.Deep.choose_lt hall
    obtain ⟨b, off, spot⟩ := x
    have hc := (hKN 0 (by omega)).1
    have hspot : spot = none := by simpa [Addr.add] using World.cell?_spot hc
    subst hspot
    refine ⟨fun i => (KN i).1, fun i => (KN i).2, .inr ⟨b, off, rfl, World.block_lt_of_cell? _ _ hc, fun i hi => ?_⟩⟩
    obtain ⟨c0, c1, w0, w1⟩ := hKN i hi
    rw [add_plain] at c0 c1
    rw [← Nat.add_assoc] at c1
    exact ⟨c0, c1, bounds_i64 w0, bounds_i64 w1⟩

/-! A reader that has an error tells nothing more. -/
section
variable {w : World} {b : Nat} {s : ByteArray} {p : Nat} {x : Int}
theorem rFixed_err (n : Int) (hr : Rd 52 w b s p x) (hx : ¬ x = 0) (hp : p ≤ s.size) (hs : s.size ≤ 140737488355328) (hn : n ≤ 9223372036854775807) :
    Calls Try.prog 21 #[.pointer (some ⟨b, 0, none⟩), .int .i64 n] w fun e w' => e = .returned (.int .i64 0) ∧ Rd 52 w' b s p x ∧ w.grownBy w' (some b) := by
  have h := rFixed_any n hr hp hs hn
  rw [asked_some hx] at h
  exact h
theorem rShort_err (n : Int) (hr : Rd 52 w b s p x) (hx : ¬ x = 0) (hp : p ≤ s.size) (hs : s.size ≤ 140737488355328) :
    Calls Try.prog 22 #[.pointer (some ⟨b, 0, none⟩), .int .i64 n] w fun e w' => e = .returned (.int .i64 0) ∧ Rd 52 w' b s p x ∧ w.grownBy w' (some b) := by
  have h := rShort_any n hr hp hs
  rw [asked_some hx] at h
  exact h
theorem rText_err (n : Int) (hr : Rd 52 w b s p x) (hx : ¬ x = 0) (hp : p ≤ s.size) (hs : s.size ≤ 140737488355328) :
    Calls Try.prog 23 #[.pointer (some ⟨b, 0, none⟩), .int .i64 n] w fun e w' => e = .returned (.string ⟨#[]⟩) ∧ Rd 52 w' b s p x ∧ w.grownBy w' (some b) := by
  have h := rText_any n hr hp hs
  rw [asked_some hx] at h
  exact h
theorem rBytes_err (n : Int) (hr : Rd 52 w b s p x) (hx : ¬ x = 0) (hp : p ≤ s.size) (hs : s.size ≤ 140737488355328) (hn : n ≤ 9223372036854775807) :
    Calls Try.prog 25 #[.pointer (some ⟨b, 0, none⟩), .int .i64 n] w fun e w' => e = .returned (.string ⟨#[]⟩) ∧ Rd 52 w' b s p x ∧ w.grownBy w' (some b) := by
  have h := rBytes_any n hr hp hs hn
  rw [asked_some hx] at h
  exact h
theorem end_err (hr : Rd 52 w b s p x) (hx : ¬ x = 0) (hp : p ≤ s.size) (hs : s.size ≤ 140737488355328) :
    Calls Try.prog 24 #[.pointer (some ⟨b, 0, none⟩)] w fun e w' => e = .returned (.int .i64 x) ∧ Rd 52 w' b s p x ∧ w.grownBy w' (some b) := by
  have h := end_any hr hp hs
  have e : ended s p x = x := by unfold ended; rw [failed_some hx]; split <;> rfl
  rw [e] at h
  exact h
end

end Go.Proofs.Ytifbcmcefggofaa

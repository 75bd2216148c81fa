/-
  MatrixReckons: for every two matrices and every list of rows (right or not), the program's Check, Mul, Inverse, Rank, Turn and Pick answer as the document's own; what is handed in stays. Every input; no condition of ours (matrices of more than 150 members, and lists of 21 to 255 rows, are let go by the law itself).
-/
import Derived.Test.YthedeggggbdibaaRefR
import Derived.Test.YthedeggggbdibaaLists
import Derived.Lib.SmallJoins
namespace Go.Proofs.Ythedeggggbdibaa
open Go.ChangeShapes Go.WideShapes Go.ChangeAt Go.RowKit Go.Lib

theorem Try.cells24 : Try.prog.cellsOf 24 = 3 := by kernel_rfl

set_option maxRecDepth 100000 in
theorem matrixReckons_lifted (os : Os) (started : os.Started) (H : Type) (enc : TypeId × Value → H) :
    ReturnsInHanded {} Try.checked os 3 .any (Rows.matrixReckonsSpec.pre6 enc Try.prog Try.f3 Rows.matrixReckonsRow.domain false) (Rows.matrixReckonsSpec.post enc Try.prog Try.f3 false true false false) := by
  refine returnsInHanded_of_change_sized (C := Try.checked) Try.own started (by kernel_rfl) Try.func3
    (ChangeSpec.witness6 (enc := enc) (C := Try.checked) false ⟨#[], #[.agg #[.int .i64 0, .int .i64 0, .slice none 0 0], .agg #[.int .i64 0, .int .i64 0, .slice none 0 0], .slice none 0 0], []⟩ 8 (by kernel_rfl) (by kernel_rfl) (by kernel_rfl) (by kernel_rfl)) ?_
  intro W base args ds gs before hval0 hW _ hsz0 _
  have hsz : (DataW.weightsEach Try.prog (Try.f3.params.toList ++ Rows.matrixReckonsSpec.plain.varTypes Try.prog) (ds ++ gs)).all (· ≤ reachBytes) = true := hsz0
  have hval : ∀ (j : Nat) t v, Try.f3.params[j]? = some t → args[j]? = some v → Value.okWide Try.prog W .any base t v := hval0
  have hW' := hW
  obtain ⟨p, q, hA0, hV, rfl, _, _⟩ := hW
  have hA : DataW.TrodAll enc Try.prog W 0 (fun _ => true) true Try.f3.params.toList args.toList ds p := hA0
  rw [Try.params3] at hA hval hsz
  obtain ⟨v0, v1, v2, d0, d1, d2, p0, p1, p2, rfl, rfl, rfl, h0, h1, h2⟩ := trodAll_three hA
  obtain ⟨rfl, rfl⟩ := trodVars_none hV
  have lt0 : ∀ x ∈ p0, x.block < W.heap.size := by obtain ⟨m, hm⟩ := h0; exact DataW.trod_lt m _ _ _ hm
  have lt1 : ∀ x ∈ p1, x.block < W.heap.size := by obtain ⟨m, hm⟩ := h1; exact DataW.trod_lt m _ _ _ hm
  have lt2 : ∀ x ∈ p2, x.block < W.heap.size := by obtain ⟨m, hm⟩ := h2; exact DataW.trod_lt m _ _ _ hm
  obtain ⟨c0, c1, c2, y0, y1, y2, n, rfl, _, _, hy0, hy1, hy2⟩ := Go.Joins.open_agg3 Try.underlying24 (by kernel_rfl) Try.cells24 (hval 0 24 v0 rfl rfl) h0
  obtain ⟨ra, e0, _, _⟩ := DataW.trod_int Try.underlying3 hy0
  obtain ⟨ca, e1, _, _⟩ := DataW.trod_int Try.underlying3 hy1
  simp at e0 e1
  subst e0 e1
  obtain ⟨_, _, _, Za, e2, _, _, hNa, _, _⟩ := ints_of hy2
  subst e2
  obtain ⟨c3, c4, c5, y3, y4, y5, n', rfl, _, _, hy3, hy4, hy5⟩ := Go.Joins.open_agg3 Try.underlying24 (by kernel_rfl) Try.cells24 (hval 1 24 v1 rfl rfl) h1
  obtain ⟨rb, e3, _, _⟩ := DataW.trod_int Try.underlying3 hy3
  obtain ⟨cb, e4, _, _⟩ := DataW.trod_int Try.underlying3 hy4
  simp at e3 e4
  subst e3 e4
  obtain ⟨_, _, _, Zb, e5, _, _, hNb, _, _⟩ := ints_of hy5
  subst e5
  obtain ⟨a', len', cap', rfl⟩ := okWide_slice Try.underlying22 (hval 2 22 v2 rfl rfl)
  obtain ⟨f2, hf2⟩ := id h2
  obtain ⟨_, _, _, Z, e1, hl1, hn1, hN, _, hw1⟩ := ints_of (v := .slice a' len' cap') hf2
  simp only [Value.slice.injEq] at e1
  obtain ⟨rfl, rfl, rfl⟩ := e1
  clear hA0 hval0 hsz0
  have hm8 : len' * 8 ≤ 140737488355328 := by
    rcases hw1 with ⟨_, h⟩ | ⟨elems, spare, hd, h⟩
    · omega
    · have hd1 : d2 = .slice elems spare := hd
      have := sized_slice hsz (j := 2) (t := 22) rfl (by rw [hd1]; rfl) Try.underlying22
      rw [Try.bytes3] at this
      simp [reachBytes] at this
      omega
  refine (reckons_walk ra ca rb cb hNa hNb hN hm8).mono fun e W' ⟨he, bel⟩ => ?_
  subst he
  exact ⟨_, rfl, _, _, _, [], _, [], hW', trodAll_mk1 (shut_bool Try.underlying4 _), trodAll_mk3 (Below.trod Try.laidOut (by kernel_rfl) (of_decide_eq_true (by kernel_rfl)) h0 bel lt0) (Below.trod Try.laidOut (by kernel_rfl) (of_decide_eq_true (by kernel_rfl)) h1 bel lt1) (Below.trod Try.laidOut (by kernel_rfl) (of_decide_eq_true (by kernel_rfl)) h2 bel lt2), rfl, bel.frame _, fun h => by cases h⟩

theorem matrixReckons_holds : Rows.MatrixReckonsSaid :=
  OpenClaim.holds_of_wide 3 Try.f3 rfl rfl rfl rfl rfl rfl rfl ⟨rfl, rfl, rfl, rfl, rfl⟩ rfl rfl rfl rfl rfl (by kernel_rfl) Try.func3 (by kernel_rfl)
    (of_decide_eq_true (by kernel_rfl)) (by unfold Func.isWrapper; first | (rw [if_pos (by decide +kernel)]; kernel_rfl) | (rw [if_neg (by decide +kernel)]; exact ⟨rfl, rfl⟩))
    (fun os started H enc _ => matrixReckons_lifted os started H enc)

end Go.Proofs.Ythedeggggbdibaa

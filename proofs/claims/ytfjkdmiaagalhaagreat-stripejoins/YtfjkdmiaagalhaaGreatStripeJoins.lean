/-
  StripeJoins: for every two pairs of numbers and every list of parts: Join and Shard answer as the document's do, and the parts stay as they are. Every input; no condition of ours.
-/
import Derived.Test.YtfjkdmiaagalhaaGreatJoinsLaw
import Derived.Test.YtfjkdmiaagalhaaGreatSArr
import Derived.Deep.SlicePairs
namespace Go.Proofs.YtfjkdmiaagalhaaGreat
open Go.ChangeShapes Go.WideShapes Go.ChangeAt Go.RowKit
open Go.ChangeMaps (open_string shut_string)
open Go.Lib

theorem Tryz.cellsPart : Tryz.prog.cellsOf 35 = 2 := by kernel_rfl
theorem Tryz.cellsStr : Tryz.prog.cellsOf 9 = 1 := by kernel_rfl
theorem add_plain (b off j : Nat) : (⟨b, off, none⟩ : Addr).add j = ⟨b, off + j, none⟩ := by
  unfold Addr.add; split <;> simp_all
theorem parts_of {H : Type} {enc : TypeId × Value → H} {w : World} {a : Option Addr} {len cap : Nat} {d : DataW H} {ps : List MemPlace}
    (h : DataW.Trod enc Tryz.prog w 0 (fun _ => true) true 23 (.slice a len cap) d ps) : len ≤ maxLen ∧ ∃ I X, PX w (.slice a len cap) len I X ∧ ∀ i, i < len → (X i).size ≤ 9223372036854775807 := by
  obtain ⟨fuel, hf⟩ := h
  rcases Go.Deep.open_slice_pairs Tryz.underlying23 Tryz.underlying35 Tryz.cellsPart rfl rfl Tryz.cellsI Tryz.cellsStr hf with ⟨hcs, _⟩ | ⟨x, l, c, m, n, V0, V1, D0, D1, P0, P1, hcs, _, hlc, hcm, hm, _, hx⟩
  · simp [Value.cells] at hcs
    obtain ⟨_, rfl, _⟩ := hcs
    exact ⟨Nat.zero_le _, fun _ => 0, fun _ => ⟨#[]⟩, ⟨_, _, rfl, .inl rfl⟩, fun i hi => absurd hi (Nat.not_lt_zero i)⟩
  · simp [Value.cells] at hcs
    obtain ⟨rfl, rfl, rfl⟩ := hcs
    simp only [if_true] at hm
    subst hm
    refine ⟨by omega, ?_⟩
    by_cases h0 : len = 0
    · subst h0
      exact ⟨fun _ => 0, fun _ => ⟨#[]⟩, ⟨_, _, rfl, .inl rfl⟩, fun i hi => absurd hi (Nat.not_lt_zero i)⟩
    have hall : ∀ i, i < len → ∃ kn : Int × ByteArray, w.cell? (x.add (i * 2)) = some (.int .i64 kn.1) ∧ w.cell? (x.add (i * 2 + 1)) = some (.string kn.2) ∧ kn.2.size ≤ maxLen := by
      intro i hi
      obtain ⟨c0, c1, t0, t1⟩ := hx i (by omega)
      obtain ⟨k, e0, _, w0⟩ := DataW.trod_int Tryz.underlying3 t0
      obtain ⟨q, e1, _, w1⟩ := DataW.trod_string Tryz.underlying9 t1
      simp only [List.cons.injEq, and_true] at e0 e1
      rw [e0] at c0
      rw [e1] at c1
      exact ⟨(k, q), c0, c1, w1⟩
    obtain ⟨KN, hKN⟩ := Go.Deep.choose_lt hall
    obtain ⟨b, off, spot⟩ := x
    have hc := (hKN 0 (by omega)).1
    have hspot : spot = none := by simpa [Addr.add] using World.cell?_spot hc
    subst hspot
    refine ⟨fun i => (KN i).1, fun i => (KN i).2, ⟨_, _, rfl, .inr ⟨b, off, rfl, World.block_lt_of_cell? _ _ hc, fun i hi => ?_⟩⟩, fun i hi => (hKN i hi).2.2⟩
    obtain ⟨c0, c1, _⟩ := hKN i hi
    rw [add_plain] at c0 c1
    rw [← Nat.add_assoc] at c1
    exact ⟨c0, c1⟩

set_option maxRecDepth 100000 in
theorem stripeJoins_lifted (os : Os) (started : os.Started) (H : Type) (enc : TypeId × Value → H) :
    ReturnsInHanded {} Tryz.checked os 3 .any (Rows.stripeJoinsSpec.pre6 enc Tryz.prog Tryz.f3 Rows.stripeJoinsRow.domain false) (Rows.stripeJoinsSpec.post enc Tryz.prog Tryz.f3 false true false false) := by
  refine returnsInHanded_of_change_sized (C := Tryz.checked) Tryz.own started (by kernel_rfl) Tryz.func3
    (ChangeSpec.witness6 (enc := enc) (C := Tryz.checked) false ⟨#[], #[.agg #[.int .i64 0, .int .i64 0], .slice none 0 0, .agg #[.int .i64 0, .int .i64 0]], []⟩ 8 (by kernel_rfl) (by kernel_rfl) (by kernel_rfl) (by kernel_rfl)) ?_
  intro W base args ds gs before hval0 hW _ _ _
  have hval : ∀ (j : Nat) t v, Tryz.f3.params[j]? = some t → args[j]? = some v → Value.okWide Tryz.prog W .any base t v := hval0
  have hW' := hW
  obtain ⟨p, q, hA0, hV, rfl, _, _⟩ := hW
  have hA : DataW.TrodAll enc Tryz.prog W 0 (fun _ => true) true Tryz.f3.params.toList args.toList ds p := hA0
  rw [Tryz.params3] at hA hval
  obtain ⟨v0, v1, v2, d0, d1, d2, p0, p1, p2, rfl, rfl, rfl, h0, h1, h2⟩ := trodAll_three hA
  obtain ⟨rfl, rfl⟩ := trodVars_none hV
  have lt0 : ∀ x ∈ p0, x.block < W.heap.size := by obtain ⟨m, hm⟩ := h0; exact DataW.trod_lt m _ _ _ hm
  obtain ⟨c0, c1, y0, y1, n, rfl, _, _, hy0, hy1⟩ := open_arr2 Tryz.underlying22 Tryz.cellsI Tryz.cellsA2 (hval 0 22 v0 rfl rfl) h0
  obtain ⟨s0, e0, _, _⟩ := DataW.trod_int Tryz.underlying3 hy0
  obtain ⟨s1, e1, _, ws1⟩ := DataW.trod_int Tryz.underlying3 hy1
  simp at e0 e1
  subst e0 e1
  have lt1 : ∀ x ∈ p1, x.block < W.heap.size := by obtain ⟨m, hm⟩ := h1; exact DataW.trod_lt m _ _ _ hm
  obtain ⟨a', len', cap', rfl⟩ := okWide_slice Tryz.underlying23 (hval 1 23 v1 rfl rfl)
  obtain ⟨hl1, I, X, hPX, hXs⟩ := parts_of h1
  have lt2 : ∀ x ∈ p2, x.block < W.heap.size := by obtain ⟨m, hm⟩ := h2; exact DataW.trod_lt m _ _ _ hm
  obtain ⟨c2, c3, y2, y3, n', rfl, _, _, hy2, hy3⟩ := open_arr2 Tryz.underlying22 Tryz.cellsI Tryz.cellsA2 (hval 2 22 v2 rfl rfl) h2
  obtain ⟨s2, e2, _, _⟩ := DataW.trod_int Tryz.underlying3 hy2
  obtain ⟨s3, e3, _, _⟩ := DataW.trod_int Tryz.underlying3 hy3
  simp at e2 e3
  subst e2 e3
  clear hA0 hval0
  refine (joins_walk s0 s1 s2 s3 W (bounds_i64 ws1).2 hl1 hPX hXs).mono fun e W' ⟨he, bel⟩ => ?_
  subst he
  exact ⟨_, rfl, _, _, _, [], _, [], hW', trodAll_mk1 (shut_bool Tryz.underlying4 _), trodAll_mk3 (Below.trod Tryz.laidOut (by kernel_rfl) (of_decide_eq_true (by kernel_rfl)) h0 bel lt0) (Below.trod Tryz.laidOut (by kernel_rfl) (of_decide_eq_true (by kernel_rfl)) h1 bel lt1) (Below.trod Tryz.laidOut (by kernel_rfl) (of_decide_eq_true (by kernel_rfl)) h2 bel lt2), rfl, bel.frame _, fun h => by cases h⟩

theorem stripeJoins_holds : Rows.StripeJoinsSaid :=
  OpenClaim.holds_of_wide 3 Tryz.f3 rfl rfl rfl rfl rfl rfl rfl ⟨rfl, rfl, rfl, rfl, rfl⟩ rfl rfl rfl rfl rfl (by kernel_rfl) Tryz.func3 (by kernel_rfl)
    (of_decide_eq_true (by kernel_rfl)) (by unfold Func.isWrapper; first | (rw [if_pos (by decide +kernel)]; kernel_rfl) | (rw [if_neg (by decide +kernel)]; exact ⟨rfl, rfl⟩))
    (fun os started H enc _ => stripeJoins_lifted os started H enc)

end Go.Proofs.YtfjkdmiaagalhaaGreat

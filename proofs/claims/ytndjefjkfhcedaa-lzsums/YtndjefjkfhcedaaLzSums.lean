/-
  LzSums: for all bytes of two texts: the sequences of a block have as many bytes in all as it unpacks to (promise 12.3). Every input; no condition of ours.
-/
import Derived.Test.YtndjefjkfhcedaaLzLaw4
import Derived.Test.YtndjefjkfhcedaaLzProg
import Derived.ProofKit
import Derived.OpenShut
import Derived.SizedLaws
namespace Go.Proofs.Ytndjefjkfhcedaa
open Go.ChangeShapes Go.WideShapes Go.ChangeAt Go.RowKit Go.Lib
open Go.ChangeMaps (open_string shut_string)

theorem Try.own_LzSums : ownKnob Try.prog.godebug = none := by kernel_rfl

set_option maxRecDepth 100000 in
theorem lzSums_lifted  (os : Os) (started : os.Started) (H : Type) (enc : TypeId × Value → H) :
    ReturnsInHanded {} Try.checked os 7 .any (Rows.lzSumsSpec.pre6 enc Try.prog Try.f7 Rows.lzSumsRow.domain false) (Rows.lzSumsSpec.post enc Try.prog Try.f7 false true false false) := by
  refine returnsInHanded_of_change_sized (C := Try.checked) Try.own_LzSums started (by kernel_rfl) Try.func7
    (ChangeSpec.witness6 (enc := enc) (C := Try.checked) false ⟨#[], #[.string ByteArray.empty, .string ByteArray.empty], []⟩ 8 (by kernel_rfl) (by kernel_rfl) (by kernel_rfl) (by kernel_rfl)) ?_
  intro W base args ds gs before hval0 hW _ hsz0 _
  have hsz : (DataW.weightsEach Try.prog (Try.f7.params.toList ++ Rows.lzSumsSpec.plain.varTypes Try.prog) (ds ++ gs)).all (· ≤ reachBytes) = true := hsz0
  have hval : ∀ (j : Nat) t v, Try.f7.params[j]? = some t → args[j]? = some v → Value.okWide Try.prog W .any base t v := hval0
  have hW' := hW
  obtain ⟨p, q, hA0, hV, rfl, _, _⟩ := hW
  have hA : DataW.TrodAll enc Try.prog W 0 (fun _ => true) true Try.f7.params.toList args.toList ds p := hA0
  rw [Try.params7] at hA hval hsz
  obtain ⟨v0, v1, d0, d1, p0, p1, rfl, rfl, rfl, h0, h1⟩ := trodAll_two hA
  obtain ⟨rfl, rfl⟩ := trodVars_none hV
  obtain ⟨s, rfl, rfl, rfl, hs⟩ := open_string Try.underlying9 (hval 0 9 v0 rfl rfl) h0
  have hls := sized_string hsz (j := 0) (t := 9) rfl rfl
  have hzs : s.size ≤ 4611686018427387904 := by
    have h1 := reachBytes_lt
    have h2 : s.data.toList.length = s.size := by simp
    have h3 : s.data.toList.length ≤ reachBytes := by first | exact hls | (rw [← bytes_list]; exact hls)
    omega
  obtain ⟨r, rfl, rfl, rfl, hr⟩ := open_string Try.underlying9 (hval 1 9 v1 rfl rfl) h1
  have hlr := sized_string hsz (j := 1) (t := 9) rfl rfl
  have hzr : r.size ≤ 4611686018427387904 := by
    have h1 := reachBytes_lt
    have h2 : r.data.toList.length = r.size := by simp
    have h3 : r.data.toList.length ≤ reachBytes := by first | exact hlr | (rw [← bytes_list]; exact hlr)
    omega

  clear hA0 hval0 hsz0
  refine (sums12 (fun _ _ _ _ => trivial) pckF unpC seqC pckC (w := W) trivial s r hzs hzr).mono fun e W' ⟨he, bel⟩ => ?_
  subst he
  exact ⟨_, rfl, _, _, _, [], _, [], hW', trodAll_mk1 (shut_bool Try.underlying4 _), trodAll_mk2 (shut_string Try.underlying9 hs) (shut_string Try.underlying9 hr), rfl, bel.frame _, fun h => by cases h⟩

theorem lzSums_holds  : Rows.LzSumsSaid :=
  OpenClaim.holds_of_wide 7 Try.f7 rfl rfl rfl rfl rfl rfl rfl ⟨rfl, rfl, rfl, rfl, rfl⟩ rfl rfl rfl rfl rfl (by kernel_rfl) Try.func7 (by kernel_rfl)
    (of_decide_eq_true (by kernel_rfl)) (by unfold Func.isWrapper; first | (rw [if_pos (by decide +kernel)]; kernel_rfl) | (rw [if_neg (by decide +kernel)]; exact ⟨rfl, rfl⟩))
    (fun os started H enc _ => lzSums_lifted  os started H enc)
#print axioms lzSums_holds
end Go.Proofs.Ytndjefjkfhcedaa

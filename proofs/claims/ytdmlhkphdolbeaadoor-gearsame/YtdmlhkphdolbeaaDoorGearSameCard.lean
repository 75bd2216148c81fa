/-
  What is proved: for any three numbers of a setup, any two texts and all bytes the statement 'bytes that are put behind two texts, each of them cut whole from others, are cut the same' (promise 11.3) returns true, and its arguments read as before; the listed variable is tied to the program's text (the tie is given). No other condition.
-/
import Derived.Test.YtdmlhkphdolbeaaDoorGeSam
import Derived.Test.YtdmlhkphdolbeaaDoorGeTwo
import Derived.Test.YtdmlhkphdolbeaaDoorCards
import Derived.Test.YtdmlhkphdolbeaaDoorTie
namespace Go.Proofs.YtdmlhkphdolbeaaDoor
open Go.ChangeShapes Go.WideShapes Go.ChangeAt Go.RowKit Go.Lib
open Go.ChangeMaps (open_string shut_string)

set_option maxRecDepth 100000 in
theorem gearSame_lifted (os : Os) (started : os.Started) (H : Type) (enc : TypeId × Value → H) :
    ReturnsInHanded {} Tryd.checked os 5 .any (fun w args => (Rows.gearSameSpec.pre enc Tryd.prog Tryd.f5 [] false w args ∧ laidMetH Tryd.prog laidM w) ∧ sizedMet enc Tryd.prog Tryd.f5 (OpenSpec.ofChange Rows.gearSameSpec) false w args)
      (Rows.gearSameSpec.post enc Tryd.prog Tryd.f5 false true false false) := by
  refine returnsInHanded_of_change_and (C := Tryd.checked) (X := fun w _ => laidMetH Tryd.prog laidM w) (fun _ _ _ hh h => h.of_heap hh) Tryd.own started (by kernel_rfl) Tryd.func5
    (ChangeSpec.witness_shaped (enc := enc) (C := Tryd.checked) (os := os) (X := fun w _ => laidMetH Tryd.prog laidM w) false (World.doorLaid Tryd.prog 400 os) #[.agg #[.int .i64 0, .int .i64 0, .int .i64 0], .agg #[.string ByteArray.empty, .string ByteArray.empty], .string ByteArray.empty] 8 rfl (World.shaped_of_RefB (by kernel_rfl) (by kernel_rfl)) (by kernel_rfl) (by kernel_rfl) (by kernel_rfl) (doorM os _)) ?_
  intro W base args ds gs before hval0 hW _ hsz0 hL _
  have hsz : (DataW.weightsEach Tryd.prog (Tryd.f5.params.toList ++ Rows.gearSameSpec.plain.varTypes Tryd.prog) (ds ++ gs)).all (· ≤ reachBytes) = true := hsz0
  have hval : ∀ (j : Nat) t v, Tryd.f5.params[j]? = some t → args[j]? = some v → Value.okWide Tryd.prog W .any base t v := hval0
  have hW' := hW
  obtain ⟨p, q, hA0, hV, rfl, hfz, hnd⟩ := hW
  have hA : DataW.TrodAll enc Tryd.prog W 0 (fun _ => true) true Tryd.f5.params.toList args.toList ds p := hA0
  rw [Tryd.params5] at hA hval hsz
  obtain ⟨v0, v1, v2, d0, d1, d2, p0, p1, p2, rfl, rfl, rfl, h0, h1, h2⟩ := trodAll_three hA
  obtain ⟨rfl, rfl⟩ := trodVars_none hV
  have lt0 : ∀ x ∈ p0, x.block < W.heap.size := by obtain ⟨m, hm⟩ := h0; exact DataW.trod_lt m _ _ _ hm
  have lt1 : ∀ x ∈ p1, x.block < W.heap.size := by obtain ⟨m, hm⟩ := h1; exact DataW.trod_lt m _ _ _ hm
  obtain ⟨xx, xy, xz, rfl⟩ := open_arr3 (hval 0 42 v0 rfl rfl) h0
  obtain ⟨q0, q1, rfl, rfl⟩ := open_two (hval 1 46 v1 rfl rfl) h1
  obtain ⟨s, rfl, rfl, rfl, hs⟩ := open_string Tryd.underlying9 (hval 2 9 v2 rfl rfl) h2
  have hsl := sized_string hsz (j := 2) (t := 9) rfl rfl
  obtain ⟨hsa, hsb⟩ := sized_two hsz (j := 1) (t := 46) rfl rfl Tryd.underlying46
  have hs2 : s.size ≤ 4611686018427387904 := by
    have h1 := reachBytes_lt
    have h2 : s.data.toList.length = s.size := by simp
    have h3 : s.data.toList.length ≤ reachBytes := by first | exact hsl | (rw [← bytes_list]; exact hsl)
    omega
  have hq0 : q0.size ≤ 4611686018427387904 := by
    have h1 := reachBytes_lt
    have h2 : q0.data.toList.length = q0.size := by simp
    omega
  have hq1 : q1.size ≤ 4611686018427387904 := by
    have h1 := reachBytes_lt
    have h2 : q1.data.toList.length = q1.size := by simp
    omega
  clear hA0 hval0 hsz0
  refine (same11 (laidM_of hL) xx xy xz q0 q1 s hs2 hq0 hq1).mono fun e W' ⟨he, bel⟩ => ?_
  subst he
  exact ⟨_, rfl, _, _, _, [], _, [], hW', trodAll_mk1 (shut_bool Tryd.underlying4 _), trodAll_mk3 (Below.trod Tryd.laidOut (by kernel_rfl) (of_decide_eq_true (by kernel_rfl)) h0 bel lt0) (Below.trod Tryd.laidOut (by kernel_rfl) (of_decide_eq_true (by kernel_rfl)) h1 bel lt1) (shut_string Tryd.underlying9 hs), rfl, bel.frame _, fun h => by cases h⟩

theorem gearSame_holds : Rows.GearSameSaid :=
  OpenClaim.holds_of_wide 5 Tryd.f5 rfl rfl rfl rfl rfl rfl rfl ⟨rfl, rfl, rfl, rfl, rfl⟩ rfl rfl rfl rfl rfl (by kernel_rfl) Tryd.func5 (by kernel_rfl)
    (of_decide_eq_true (by kernel_rfl)) (by unfold Func.isWrapper; first | (rw [if_pos (by decide +kernel)]; kernel_rfl) | (rw [if_neg (by decide +kernel)]; exact ⟨rfl, rfl⟩))
    (fun os started H enc _ => gearSame_lifted os started H enc)

theorem gearSame_card : Rows.GearSameCardSaid :=
  Claim7.holds_tied_plain_at .later [] [.data] true (true, "e012ae5e939e726b78a285bca186424c77b619f22e6ff484f3aca5e7bee4b481") false
    gearSame_holds (fun _ h => by cases h) (by kernel_rfl) (fun _ h => by cases h) gearSame_row_tie rfl ⟨rfl, rfl⟩ (by kernel_rfl) rfl
    (fun f fn hf hfn => by
      obtain rfl : f = 5 := Option.some.inj ((show Tryd.prog.funcNamed "garret/garretlaw11.GearSame" = some 5 by kernel_rfl).symm.trans hf) |>.symm
      obtain rfl : fn = Tryd.f5 := (Option.some.inj (Tryd.func5.symm.trans hfn)).symm
      exact ⟨by kernel_rfl, fun j t ht => by
        rw [Tryd.params5] at ht
        have h3 : t = 42 ∨ t = 46 ∨ t = 9 := by
          match j, ht with
          | 0, ht => exact .inl (by simpa using ht.symm)
          | 1, ht => exact .inr (.inl (by simpa using ht.symm))
          | 2, ht => exact .inr (.inr (by simpa using ht.symm))
          | _ + 3, ht => simp at ht
        rcases h3 with rfl | rfl | rfl
        · exact (show Tryd.prog.wantsStandIn 42 = false by kernel_rfl)
        · exact (show Tryd.prog.wantsStandIn 46 = false by kernel_rfl)
        · exact (show Tryd.prog.wantsStandIn 9 = false by kernel_rfl)⟩)
    (by kernel_rfl)
#print axioms gearSame_card
end Go.Proofs.YtdmlhkphdolbeaaDoor

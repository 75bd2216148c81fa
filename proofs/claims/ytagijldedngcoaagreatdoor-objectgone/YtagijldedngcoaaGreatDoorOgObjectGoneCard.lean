/-
  What is proved: for every two numbers (a kit), every text and every number the statement 'once more than M shards are lost nothing is got: ErrLost, as long as any is there, ErrNone, once none is; what is put anew is got again' (promise 10.3) returns true, and its arguments read as before; the two listed variables are tied to the program's text (the tie is given).
-/
import Derived.Test.YtagijldedngcoaaGreatDoorOgObjectGoneHold
import Derived.Test.YtagijldedngcoaaGreatDoorCards
import Derived.Test.YtagijldedngcoaaGreatDoorTie
namespace Go.Proofs.YtagijldedngcoaaGreatDoor
open Go.ChangeShapes Go.WideShapes Go.ChangeAt Go.RowKit Go.Lib
open Go.ChangeMaps (open_string shut_string)

set_option maxRecDepth 100000 in
set_option maxHeartbeats 6400000 in
theorem objectGone_card : Rows.ObjectGoneCardSaid :=
  Claim7.holds_tied_plain_at .later [] [.data, .data] true (true, "34db38640c902f8a5810563299a37e777d442d4fcf9cd2a1c2f6fe14a74c7756") false
    objectGone_holds (fun _ h => by cases h) (by as_aux_lemma => kernel_rfl) (fun _ h => by cases h) objectGone_row_tie rfl ⟨rfl, rfl⟩ (by as_aux_lemma => kernel_rfl) rfl
    (fun f fn hf hfn => by
      obtain rfl : f = 6 := Option.some.inj ((show Tryz.prog.funcNamed "garret/garretlaw10.ObjectGone" = some 6 by as_aux_lemma => kernel_rfl).symm.trans hf) |>.symm
      obtain rfl : fn = Tryz.f6 := (Option.some.inj (Tryz.func6.symm.trans hfn)).symm
      exact ⟨by as_aux_lemma => kernel_rfl, fun j t ht => by
        rw [Tryz.params6] at ht
        have h3 : t = 22 ∨ t = 9 ∨ t = 3 := by
          match j, ht with
          | 0, ht => exact .inl (by simpa using ht.symm)
          | 1, ht => exact .inr (.inl (by simpa using ht.symm))
          | 2, ht => exact .inr (.inr (by simpa using ht.symm))
          | _ + 3, ht => simp at ht
        rcases h3 with rfl | rfl | rfl
        · exact (show Tryz.prog.wantsStandIn 22 = false by as_aux_lemma => kernel_rfl)
        · exact (show Tryz.prog.wantsStandIn 9 = false by as_aux_lemma => kernel_rfl)
        · exact (show Tryz.prog.wantsStandIn 3 = false by as_aux_lemma => kernel_rfl)⟩)
    (by as_aux_lemma => kernel_rfl)
#print axioms objectGone_card
end Go.Proofs.YtagijldedngcoaaGreatDoor

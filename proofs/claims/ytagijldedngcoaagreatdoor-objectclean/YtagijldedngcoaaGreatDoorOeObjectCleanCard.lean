/-
  What is proved: for every text, every number and every Boolean the statement 'a put that finds no room at some store, or that one call of fails, leaves nothing behind, and what was there of other names stays; what is put twice is there once, another text under its name is refused' (promise 10.2) returns true, and its arguments read as before; the two listed variables are tied to the program's text (the tie is given).
-/
import Derived.Test.YtagijldedngcoaaGreatDoorOeObjectCleanHold
import Derived.Test.YtagijldedngcoaaGreatDoorCards
import Derived.Test.YtagijldedngcoaaGreatDoorTie
namespace Go.Proofs.YtagijldedngcoaaGreatDoor
open Go.ChangeShapes Go.WideShapes Go.ChangeAt Go.RowKit Go.Lib
open Go.ChangeMaps (open_string shut_string)

set_option maxRecDepth 100000 in
set_option maxHeartbeats 6400000 in
theorem objectClean_card : Rows.ObjectCleanCardSaid :=
  Claim7.holds_tied_plain_at .later [] [.data, .data] true (true, "34db38640c902f8a5810563299a37e777d442d4fcf9cd2a1c2f6fe14a74c7756") false
    objectClean_holds (fun _ h => by cases h) (by as_aux_lemma => kernel_rfl) (fun _ h => by cases h) objectClean_row_tie rfl ⟨rfl, rfl⟩ (by as_aux_lemma => kernel_rfl) rfl
    (fun f fn hf hfn => by
      obtain rfl : f = 7 := Option.some.inj ((show Tryz.prog.funcNamed "garret/garretlaw10.ObjectClean" = some 7 by as_aux_lemma => kernel_rfl).symm.trans hf) |>.symm
      obtain rfl : fn = Tryz.f7 := (Option.some.inj (Tryz.func7.symm.trans hfn)).symm
      exact ⟨by as_aux_lemma => kernel_rfl, fun j t ht => by
        rw [Tryz.params7] at ht
        have h3 : t = 9 ∨ t = 3 ∨ t = 4 := by
          match j, ht with
          | 0, ht => exact .inl (by simpa using ht.symm)
          | 1, ht => exact .inr (.inl (by simpa using ht.symm))
          | 2, ht => exact .inr (.inr (by simpa using ht.symm))
          | _ + 3, ht => simp at ht
        rcases h3 with rfl | rfl | rfl
        · exact (show Tryz.prog.wantsStandIn 9 = false by as_aux_lemma => kernel_rfl)
        · exact (show Tryz.prog.wantsStandIn 3 = false by as_aux_lemma => kernel_rfl)
        · exact (show Tryz.prog.wantsStandIn 4 = false by as_aux_lemma => kernel_rfl)⟩)
    (by as_aux_lemma => kernel_rfl)
#print axioms objectClean_card
end Go.Proofs.YtagijldedngcoaaGreatDoor

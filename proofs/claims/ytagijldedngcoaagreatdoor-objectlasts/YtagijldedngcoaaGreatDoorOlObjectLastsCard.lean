/-
  What is proved: for every two numbers (a kit), every text and every list of harms the statement 'what was put is got, whichever at most M of its shards are lost, cut, or turned in up to 32 bits that follow one another; Scrub puts these back: then each store has just what it had' (promise 10.6) returns true, and its arguments read as before; the two listed variables are tied to the program's text (the tie is given).
-/
import Derived.Test.YtagijldedngcoaaGreatDoorOlObjectLastsHold
import Derived.Test.YtagijldedngcoaaGreatDoorCards
import Derived.Test.YtagijldedngcoaaGreatDoorTie
namespace Go.Proofs.YtagijldedngcoaaGreatDoor
open Go.ChangeShapes Go.WideShapes Go.ChangeAt Go.RowKit Go.Lib
open Go.ChangeMaps (open_string shut_string)

set_option maxRecDepth 100000 in
set_option maxHeartbeats 6400000 in
theorem objectLasts_card : Rows.ObjectLastsCardSaid :=
  Claim7.holds_tied_plain_at .later [] [.data, .data] true (true, "34db38640c902f8a5810563299a37e777d442d4fcf9cd2a1c2f6fe14a74c7756") false
    objectLasts_holds (fun _ h => by cases h) (by as_aux_lemma => kernel_rfl) (fun _ h => by cases h) objectLasts_row_tie rfl ⟨rfl, rfl⟩ (by as_aux_lemma => kernel_rfl) rfl
    (fun f fn hf hfn => by
      obtain rfl : f = 5 := Option.some.inj ((show Tryz.prog.funcNamed "garret/garretlaw10.ObjectLasts" = some 5 by as_aux_lemma => kernel_rfl).symm.trans hf) |>.symm
      obtain rfl : fn = Tryz.f5 := (Option.some.inj (Tryz.func5.symm.trans hfn)).symm
      exact ⟨by as_aux_lemma => kernel_rfl, fun j t ht => by
        rw [Tryz.params5] at ht
        have h3 : t = 22 ∨ t = 9 ∨ t = 67 := by
          match j, ht with
          | 0, ht => exact .inl (by simpa using ht.symm)
          | 1, ht => exact .inr (.inl (by simpa using ht.symm))
          | 2, ht => exact .inr (.inr (by simpa using ht.symm))
          | _ + 3, ht => simp at ht
        rcases h3 with rfl | rfl | rfl
        · exact (show Tryz.prog.wantsStandIn 22 = false by as_aux_lemma => kernel_rfl)
        · exact (show Tryz.prog.wantsStandIn 9 = false by as_aux_lemma => kernel_rfl)
        · exact (show Tryz.prog.wantsStandIn 67 = false by as_aux_lemma => kernel_rfl)⟩)
    (by as_aux_lemma => kernel_rfl)
#print axioms objectLasts_card
end Go.Proofs.YtagijldedngcoaaGreatDoor

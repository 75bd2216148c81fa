/-
  SdBack: texts of earlier layers, laid over this program.
-/
import Derived.Test.YtklaeocnimkboaaGreatDoorSdDec
namespace Go.Proofs.YtklaeocnimkboaaGreatDoor
open Go.RowKit Go.Lib

theorem crc_example : crcV (⟨#[49, 50, 51, 52, 53, 54, 55, 56, 57]⟩ : ByteArray).data.toList = 3808858755 := by decide +kernel
theorem sworks_any (w : World) : Calls Tryz.prog 6 #[] w fun e w' => e = .returned (.bool true) ∧ w' = w := by
  go_enter Tryz.func6, Tryz.ntmps6
  go_wp2_with fail
  refine (crc_any _ _ (by decide)).mono ?_
  rintro e w1 ⟨rfl, hw⟩
  subst w1
  rw [crc_example]
  go_wp2
  go_ret
  exact ⟨rfl, rfl⟩

end Go.Proofs.YtklaeocnimkboaaGreatDoor


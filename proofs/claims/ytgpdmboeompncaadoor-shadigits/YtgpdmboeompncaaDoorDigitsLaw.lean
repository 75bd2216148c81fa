/-
  The walk of the statement on digits.
-/
import Derived.Test.YtgpdmboeompncaaDoorRefHex
import Derived.Test.YtgpdmboeompncaaDoorWorks
namespace Go.Proofs.YtgpdmboeompncaaDoor
open Go.RowKit Go.Lib

theorem unhexV_form (l : List UInt8) : ∃ (A : ByteArray) (E : Int), unhexV l = .tuple #[.string A, .int .i64 E] := by
  cases h : unhexL l with
  | none => exact ⟨_, _, by rw [unhexV, h]⟩
  | some r => exact ⟨_, _, by rw [unhexV, h]⟩

set_option maxHeartbeats 800000 in
set_option maxRecDepth 100000 in
theorem digits_walk (s : ByteArray) {w : World} (hL : Laid w) (hs : s.size ≤ 140737488355328) :
    Calls Tryd.prog 5 #[.string s] w fun e w' => e = .returned (.bool true) ∧ Below w.heap.size w w' := by
  by_cases h3000 : 3000 < s.size
  · go_enter Tryd.func5, Tryd.ntmps5
    go_wp2_with fail
    refine (works_any hL).mono ?_
    rintro e w1 ⟨rfl, hb1⟩
    go_wp2
    go_ret
    exact ⟨rfl, hb1⟩
  obtain ⟨A, E, hAE⟩ := unhexV_form s.data.toList
  have HAE : Hid _ := hAE
  have hsz := hL.size
  clear hAE
  go_enter Tryd.func5, Tryd.ntmps5
  go_wp2_with fail
  refine (unhex_any s (by omega)).mono ?_
  rw [HAE.out]
  rintro e w1 ⟨rfl, hb1⟩
  go_wp2_with fail
  refine (refUnhex_any s (by omega)).mono ?_
  rw [HAE.out]
  rintro e w2 ⟨rfl, hb2⟩
  go_wp2_with fail
  refine (hex_any s (by omega)).mono ?_
  rintro e w3 ⟨rfl, hb3⟩
  go_wp2_with fail
  refine (refHex_any s (by omega)).mono ?_
  rintro e w4 ⟨rfl, hb4⟩
  generalize strOf (hexOf s.data.toList) = D
  go_wp2_with fail
  refine (isIdB_any s _).mono ?_
  rintro e w5 ⟨rfl, rfl⟩
  go_wp2_with fail
  refine (refIsId_any s _).mono ?_
  rintro e w5 ⟨rfl, rfl⟩
  have z1 := hb1.size
  have z2 := hb2.size
  have z3 := hb3.size
  have hbw := ((hb1.trans (hb2.mono z1)).trans (hb3.mono (by omega))).trans (hb4.mono (by omega))
  clear hb1 hb2 hb3 hb4
  go_wp2_with fail
  refine (works_any (hL.below hbw hsz)).mono ?_
  rintro e w6 ⟨rfl, hb6⟩
  go_wp2
  go_ret
  exact ⟨rfl, hbw.trans (hb6.mono hbw.size)⟩

end Go.Proofs.YtgpdmboeompncaaDoor

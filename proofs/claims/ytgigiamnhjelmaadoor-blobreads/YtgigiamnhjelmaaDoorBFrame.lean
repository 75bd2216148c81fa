/-
  ShFrame: texts of earlier layers, laid over this program.
-/
import Derived.Test.YtgigiamnhjelmaaDoorBSha
import Derived.ProofKit
import Derived.LaidMore
import Derived.OpenShut
import Derived.SizedLaws
import Derived.Stop.Joined
namespace Go.Proofs.YtgigiamnhjelmaaDoor.Zq.Sh
open Go.ChangeShapes Go.WideShapes Go.ChangeAt Go.RowKit Go.Lib

theorem Tryd.own : ownKnob Tryd.prog.godebug = none := by kernel_rfl
theorem Tryd.laidOut : laidOutB Tryd.prog = true := by kernel_rfl
theorem Tryd.gFirst : Tryd.prog.globalNamed "garret/sha.firstWords" = some 0 := by kernel_rfl
theorem Tryd.gConst : Tryd.prog.globalNamed "garret/sha.constants" = some 1 := by kernel_rfl
theorem Tryd.tFirst : (Tryd.prog.globals[0]?).map (·.type) = some 84 := by kernel_rfl
theorem Tryd.tConst : (Tryd.prog.globals[1]?).map (·.type) = some 106 := by kernel_rfl
theorem Tryd.cells83 : Tryd.prog.cellsOf 83 = 1 := by kernel_rfl
theorem Tryd.cells106 : Tryd.prog.cellsOf 106 = 64 := by kernel_rfl
theorem Tryd.cells84 : Tryd.prog.cellsOf 84 = 8 := by kernel_rfl

abbrev laid2 : List (String × DataW Unit) := [("garret/sha.firstWords", Rows.laid_garret_sha_firstWords), ("garret/sha.constants", Rows.laid_garret_sha_constants)]

theorem door_met (os : Os) (args : Array Value) : laidMetH Tryd.prog laid2 ((World.doorLaid Tryd.prog 400 os).forCall (fun _ _ => 0) ⟨#[], args, []⟩).memory :=
  laidMetH_of_parts3 (fuel := 8) (laidMet_of_run' 8 (by kernel_rfl) (by kernel_rfl)) (by kernel_rfl) (by kernel_rfl)

theorem laid_of {W : World} (h : laidMetH Tryd.prog laid2 W) : Laid W := by
  rw [MakeChecks.laidMetH_plain _ _ _ (by kernel_rfl)] at h
  obtain ⟨ps, ⟨g0, t0, cs0, f0, p0, q0, hg0, ht0, hv0, hd0, ⟨g1, t1, cs1, f1, p1, q1, hg1, ht1, hv1, hd1, _, _⟩, _⟩, _, _⟩ := h
  obtain rfl := Option.some.inj (Tryd.gFirst.symm.trans hg0)
  obtain rfl := Option.some.inj (Tryd.gConst.symm.trans hg1)
  obtain rfl := Option.some.inj (Tryd.tFirst.symm.trans ht0)
  obtain rfl := Option.some.inj (Tryd.tConst.symm.trans ht1)
  have e0 := cells_of_tab (k := .u32) (zs := first.list) Tryd.underlying84 Tryd.underlying83 Tryd.cells83 Tryd.cells84 hd0
  have e1 := cells_of_tab (k := .u32) (zs := Ks) Tryd.underlying106 Tryd.underlying83 Tryd.cells83 Tryd.cells106 hd1
  refine ⟨?_, ?_⟩
  · simp only [World.var?, Tryd.gConst, Option.bind_some] at hv1
    split at hv1
    · rename_i cs t fr hq
      have hcs := Option.some.inj hv1
      refine ⟨t, fr, ?_⟩
      rw [hq, hcs]
      congr 2
      apply Array.ext'
      rw [e1]
      simp [word]
    · cases hv1
  · simp only [World.var?, Tryd.gFirst, Option.bind_some] at hv0
    split at hv0
    · rename_i cs t fr hq
      have hcs := Option.some.inj hv0
      refine ⟨t, fr, ?_⟩
      rw [hq, hcs]
      congr 2
      apply Array.ext'
      rw [e0]
      simp [word]
    · cases hv0

end Go.Proofs.YtgigiamnhjelmaaDoor.Zq.Sh


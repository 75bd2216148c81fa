/-
  Contracts of the program and of the statements (behind the others; part 2 of 2).
-/
import Derived.Test.YtagijldedngcoaaGreatDoorOe1
import Derived.Lib.AppendZeros
import Derived.Maps.AppendAt
import Derived.BigQuiet
import Derived.Deep.DeepCutAuto
import Derived.Deep.RegionHeldLaw
import Derived.ProofKit
import Derived.LaidMore
import Derived.OpenShut
import Derived.SizedLaws
import Derived.Stop.Joined
set_option maxRecDepth 100000
set_option maxHeartbeats 200000

namespace Go.Proofs.YtagijldedngcoaaGreatDoor.Zq.Sh
open Go.ChangeShapes Go.WideShapes Go.ChangeAt Go.RowKit Go.Lib

theorem Tryz.own : ownKnob Tryz.prog.godebug = none:=by kernel_rfl
theorem Tryz.laidOut : laidOutB Tryz.prog = true:=by kernel_rfl
theorem Tryz.gFirst : Tryz.prog.globalNamed "garret/sha.firstWords" = some 0:=by kernel_rfl
theorem Tryz.gConst : Tryz.prog.globalNamed "garret/sha.constants" = some 1:=by kernel_rfl
theorem Tryz.tFirst : (Tryz.prog.globals[0]?).map (·.type) = some 209:=by kernel_rfl
theorem Tryz.tConst : (Tryz.prog.globals[1]?).map (·.type) = some 246:=by kernel_rfl
theorem Tryz.cells152 : Tryz.prog.cellsOf 152 = 1:=by kernel_rfl
theorem Tryz.cells246 : Tryz.prog.cellsOf 246 = 64:=by kernel_rfl
theorem Tryz.cells209 : Tryz.prog.cellsOf 209 = 8:=by kernel_rfl

abbrev laid2 : List (String × DataW Unit):=[("garret/sha.firstWords",Rows.laid_garret_sha_firstWords),("garret/sha.constants",Rows.laid_garret_sha_constants)]

theorem door_met (os : Os) (args : Array Value) : laidMetH Tryz.prog laid2 ((World.doorLaid Tryz.prog 400 os).forCall (fun _ _ => 0) ⟨#[],args,[]⟩).memory :=
 laidMetH_of_parts3 (fuel:=8) (laidMet_of_run' 8 (by kernel_rfl) (by kernel_rfl)) (by kernel_rfl) (by kernel_rfl)

theorem laid_of {W : World} (h : laidMetH Tryz.prog laid2 W) : Laid W:=by
 rw [MakeChecks.laidMetH_plain _ _ _ (by kernel_rfl)] at h
 obtain ⟨ps,⟨g0,t0,cs0,f0,p0,q0,hg0,ht0,hv0,hd0,⟨g1,t1,cs1,f1,p1,q1,hg1,ht1,hv1,hd1,_,_⟩,_⟩,_,_⟩:=h
 obtain rfl:=Option.some.inj (Tryz.gFirst.symm.trans hg0)
 obtain rfl:=Option.some.inj (Tryz.gConst.symm.trans hg1)
 obtain rfl:=Option.some.inj (Tryz.tFirst.symm.trans ht0)
 obtain rfl:=Option.some.inj (Tryz.tConst.symm.trans ht1)
 have e0:=cells_of_tab (k:=.u32) (zs:=first.list) Tryz.underlying209 Tryz.underlying152 Tryz.cells152 Tryz.cells209 hd0
 have e1:=cells_of_tab (k:=.u32) (zs:=Ks) Tryz.underlying246 Tryz.underlying152 Tryz.cells152 Tryz.cells246 hd1
 refine ⟨?_,?_⟩
 ·simp only [World.var?,Tryz.gConst,Option.bind_some] at hv1
  split at hv1
  ·rename_i cs t fr hq
   have hcs:=Option.some.inj hv1
   refine ⟨t,fr,?_⟩
   rw [hq,hcs]
   congr 2
   apply Array.ext'
   rw [e1]
   simp [word]
  ·cases hv1
 ·simp only [World.var?,Tryz.gFirst,Option.bind_some] at hv0
  split at hv0
  ·rename_i cs t fr hq
   have hcs:=Option.some.inj hv0
   refine ⟨t,fr,?_⟩
   rw [hq,hcs]
   congr 2
   apply Array.ext'
   rw [e0]
   simp [word]
  ·cases hv0

end Go.Proofs.YtagijldedngcoaaGreatDoor.Zq.Sh


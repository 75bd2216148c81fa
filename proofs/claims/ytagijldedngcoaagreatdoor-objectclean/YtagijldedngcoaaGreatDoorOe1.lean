/-
  Contracts of the program and of the statements (behind the others; part 1 of 2).
-/
import Derived.Test.YtagijldedngcoaaGreatDoorOl1
import Derived.Test.YtagijldedngcoaaGreatDoorOl2
import Derived.Test.YtagijldedngcoaaGreatDoorOl3
import Derived.Test.YtagijldedngcoaaGreatDoorOl4
import Derived.Test.YtagijldedngcoaaGreatDoorOl5
import Derived.Test.YtagijldedngcoaaGreatDoorOl6
import Derived.Test.YtagijldedngcoaaGreatDoorOl7
import Derived.Test.YtagijldedngcoaaGreatDoorOl8
import Derived.Test.YtagijldedngcoaaGreatDoorOl9
import Derived.Test.YtagijldedngcoaaGreatDoorOl10
import Derived.Test.YtagijldedngcoaaGreatDoorOl11
import Derived.Test.YtagijldedngcoaaGreatDoorOl12
import Derived.Test.YtagijldedngcoaaGreatDoorOl13
import Derived.Test.YtagijldedngcoaaGreatDoorOl14
import Derived.Test.YtagijldedngcoaaGreatDoorOl15
import Derived.Test.YtagijldedngcoaaGreatDoorOl16
import Derived.Test.YtagijldedngcoaaGreatDoorOl17
import Derived.Test.YtagijldedngcoaaGreatDoorOl18
import Derived.Test.YtagijldedngcoaaGreatDoorOl19
import Derived.Test.YtagijldedngcoaaGreatDoorOl20
import Derived.Test.YtagijldedngcoaaGreatDoorOl21
import Derived.Test.YtagijldedngcoaaGreatDoorOl22
import Derived.Test.YtagijldedngcoaaGreatDoorOl23
import Derived.Test.YtagijldedngcoaaGreatDoorOl24
import Derived.Test.YtagijldedngcoaaGreatDoorOl25
import Derived.Lib.AppendZeros
import Derived.Maps.AppendAt
import Derived.BigQuiet
import Derived.Deep.DeepCutAuto
import Derived.Deep.RegionHeldLaw
import Derived.ProofKit
import Derived.LaidMore
import Derived.OpenShut
import Derived.SizedLaws
import Derived.Stop.Joined
set_option maxRecDepth 100000
set_option maxHeartbeats 12800000

namespace Go.Proofs.YtagijldedngcoaaGreatDoor.Zq
open Go.RowKit Go.Lib

/-! ### Plain -/
/-! ### Texts in a block of their own -/
section
variable {w w' : World} {g n : Nat} {X : Nat→ByteArray}
end

end Go.Proofs.YtagijldedngcoaaGreatDoor.Zq

namespace Go.Proofs.YtagijldedngcoaaGreatDoor.Zq
open Go.RowKit Go.Lib

end Go.Proofs.YtagijldedngcoaaGreatDoor.Zq

namespace Go.Proofs.YtagijldedngcoaaGreatDoor.Zq
open Go.RowKit Go.Lib

section
variable {w w' : World} {q n : Nat} {X : Nat→ByteArray}
end

end Go.Proofs.YtagijldedngcoaaGreatDoor.Zq

namespace Go.Proofs.YtagijldedngcoaaGreatDoor.Zq
open Go.RowKit Go.Lib

/-! ### A list of texts in a block of one's own -/
section
variable {B n : Nat} {v : Value} {X : Nat→ByteArray} {w w' : World}
end

theorem made_zeros (w : World) (c : Nat) : Fd.BR (w.alloc (.cells (madeCells #[.int .u8 0] c) 5)) w.heap.size (List.replicate c 0):=by
 refine ⟨[],(0,0),?_,fun j _ => frozen_of_row _ _ _ _ _ (heap_alloc_new w _)⟩
 rw [heap_alloc_new w _]
 congr 2
 apply Array.toList_inj.1
 rw [toList_madeCells_one]
 apply List.ext_getElem?
 intro i
 by_cases hi : i < c
 ·simp [Lib.byteCells,hi]
 ·rw [List.getElem?_eq_none (by simp; omega),List.getElem?_eq_none (by simp [Lib.byteCells]; omega)]
theorem made_conv (w : World) (c : Nat) : (convert 79 9 (.slice (some ⟨w.heap.size,0,none⟩) c c)).run Tryz.prog (w.alloc (.cells (madeCells #[.int .u8 0] c) 5)) = .ok (.string (zsB c)) (w.alloc (.cells (madeCells #[.int .u8 0] c) 5)):=by
 have:=(made_zeros w c).str_all c c (by simp)
 simpa [Fd.strOf,zsB] using this

end Go.Proofs.YtagijldedngcoaaGreatDoor.Zq

namespace Go.Proofs.YtagijldedngcoaaGreatDoor.Zq
open Go.RowKit Go.Lib

/-! ### Marks over what came out -/
/-! ### How long mixtures are -/
/-! ### The chapter's example -/
end Go.Proofs.YtagijldedngcoaaGreatDoor.Zq


namespace Go.Proofs.YtagijldedngcoaaGreatDoor
open Go.RowKit Go.Lib Go.Maps

section
variable {w : World} {b mb : Nat} {q f : Int} {dn : Bool} {cl : Int} {L : List OB}

theorem fail_any (hP : PS w b mb q f dn cl L) (n : Int) :
  Calls Tryz.prog 39 #[.pointer (some ⟨b,0,none⟩),.int .i64 n] w fun e w' => e = .returned (.int .i64 (if 0 ≤ n∧n ≤ 1048576 then 0 else 1))∧PS w' b mb q (if 0 ≤ n∧n ≤ 1048576 then n else f) dn cl L∧Gs (two b mb) w w':=by
 have y3:=hP.cell3
 have z3:=hP.free 3
 have HP:=hide hP
 clear hP
 by_cases h0 : n < 0
 ·rw [if_neg (by omega),if_neg (by omega)]
  go_enter Tryz.func39,Tryz.ntmps39
  go_wp2
  go_ret
  exact ⟨rfl,HP.out,Gs.refl _ _⟩
 by_cases h1 : 1048576 < n
 ·rw [if_neg (by omega),if_neg (by omega)]
  go_enter Tryz.func39,Tryz.ntmps39
  go_wp2
  go_ret
  exact ⟨rfl,HP.out,Gs.refl _ _⟩
 ·rw [if_pos (by omega),if_pos (by omega)]
  go_enter Tryz.func39,Tryz.ntmps39
  go_wp2
  go_ret
  exact ⟨rfl,HP.out.set3 n,(Gs.refl _ _).set (.inl (.inl rfl)) _⟩

end
end Go.Proofs.YtagijldedngcoaaGreatDoor

namespace Go.Proofs.YtagijldedngcoaaGreatDoor
open Go.RowKit Go.Lib Go.Maps
section
variable {K M a j i : Nat} {s nm want : ByteArray} {q m : Int} {O : List (Option ByteArray)}
theorem gO_all (hK : 1 ≤ K) (hKM : K + M ≤ 255) (hs : s.size ≤ 65536) : (gdI K M ((gO K M s a a).map gans)).length = K + M:=by
 have : gdI K M ((gO K M s a a).map gans) = List.range (K + M):=by
  rw [gdI,List.length_map,gO_len]
  refine List.filter_eq_self.2 fun i hi => ?_
  have hl : i < K + M:=List.mem_range.1 hi
  refine @decide_eq_true _ (Classical.propDecidable _) ⟨gans (some (Zq.shB K M s i)),?_,?_⟩
  ·rw [List.getElem?_map,gO_at hl,if_neg (by omega)]; rfl
  ·rw [gans_true hK hKM hs hl]; simp
 rw [this,List.length_range]
theorem gO_there (hK : 1 ≤ K) (hKM : K + M ≤ 255) (hs : s.size ≤ 65536) (hw : want = ⟨#[]⟩ ∨ want = Zq.bs (Zq.Sh.digest s.data.toList)) : ∃ h,fnd K M want (((shL K M s).map some).map gans) = ⟨s,h,0⟩:=by
 rw [← gO_start (a:=0)]
 exact ⟨_,fnd_true hK hKM hs (by rw [List.length_map,gO_len]; exact Nat.le_refl _) (gO_gn hK hKM hs) hw (by rw [gO_all hK hKM hs]; omega)⟩
end
end Go.Proofs.YtagijldedngcoaaGreatDoor


namespace Go.Proofs.YtagijldedngcoaaGreatDoor
open Go.RowKit Go.Lib Go.Maps
section
variable {w U W V : World} {X Bd K M : Nat} {sv : Value} {S : List SS} {bs : List (Nat × Nat)} {q m : Int} {nm : ByteArray} {O : List (Option ByteArray)}
theorem RQ9.keep {W1 W2 : World} {x : RS} {ids tx ids' tx' : Value} {q q' : Nat} {c n : Int} (h : R7 W1 q c n ids tx) (hR : RQ9 W1 W2 x bs ids' tx' q') (hG : GQ w W1 X Bd K M sv S bs) (hq : Bd ≤ q) : R7 W2 q c n ids tx :=
 h.gs hR.gs fun hi => by have:=hG.yp.qs hi; omega
end
end Go.Proofs.YtagijldedngcoaaGreatDoor

namespace Go.Proofs.YtagijldedngcoaaGreatDoor
open Go.RowKit Go.Lib Go.Maps
def nmO : ByteArray:=⟨#[111,108,100]⟩
def nmM : ByteArray:=⟨#[109,117,99,104]⟩
def keptB : ByteArray:=⟨#[107,101,112,116]⟩
theorem nmO_may : mayB nmO = true:=by decide
theorem nmM_may : mayB nmM = true:=by decide
theorem bMN : bl nmM nmN = true:=by decide
theorem bMO : bl nmM nmO = true:=by decide
theorem bNO : bl nmN nmO = true:=by decide
theorem bNM : bl nmN nmM = false:=bl_asymm bMN
theorem bOM : bl nmO nmM = false:=bl_asymm bMO
theorem bON : bl nmO nmN = false:=bl_asymm bNO
theorem nMN : nmM ≠ nmN:=bl_ne bMN
theorem nMO : nmM ≠ nmO:=bl_ne bMO
theorem nNO : nmN ≠ nmO:=bl_ne bNO
def LB (z o : Option ByteArray) (j : Nat) : List OB:=(z.toList.map fun d => ⟨nmM,d⟩) ++ ((o.toList.map fun d => ⟨nmN,d⟩) ++ [⟨nmO,Zq.shB 2 2 keptB j⟩])
section
variable {z o : Option ByteArray} {j i t u : Nat} {d s x : ByteArray} {m c : Int}
theorem LB_N : thr (LB z o j) nmN = o:=by cases z <;> cases o <;> simp [LB,thr,nMN,nNO.symm]
theorem LB_O : thr (LB z o j) nmO = some (Zq.shB 2 2 keptB j):=by cases z <;> cases o <;> simp [LB,thr,nMO,nNO]
theorem LB_lay : layL (LB z o j) nmN d = LB z (some d) j:=by cases z <;> cases o <;> simp [LB,layL,bMN,bON,bl_irrefl,nNO.symm]
theorem LB_layM : layL (LB none o j) nmM d = LB (some d) o j:=by cases o <;> simp [LB,layL,bNM,bOM,nMN.symm,nMO.symm]
theorem LB_del : delL (LB z o j) nmN = LB z none j:=by cases z <;> cases o <;> simp [LB,delL,nMN,nNO.symm]
theorem LB_delM : delL (LB z o j) nmM = LB none o j:=by cases z <;> cases o <;> simp [LB,delL,nMN.symm,nMO.symm]
theorem LB_ris : Ris (LB z o j):=by cases z <;> cases o <;> simp [LB,Ris,bMN,bMO,bNO]
theorem LB_len : (LB z o j).length ≤ 3:=by cases z <;> cases o <;> simp [LB]
theorem kept_size : (Zq.shB 2 2 keptB j).size = 49:=by rw [shB_size (by decide)]; rfl
theorem name_size (hs : s.size ≤ 100) : 47 ≤ (Zq.shB 2 2 s j).size∧(Zq.shB 2 2 s j).size ≤ 97:=by
 rw [shB_size (by decide)]
 have : Zq.eachN 2 s.size = (s.size + 2 - 1) / 2:=rfl
 omega
theorem LB_used : usedL (LB z o j) = szO nmM z + (szO nmN o + 52):=by
 have h:=kept_size (j:=j)
 have h3 : nmO.size = 3:=rfl
 cases z <;> cases o <;> simp [LB,usedL,szO,h,h3] <;> omega
theorem LB_small (hz : ∀ d,z = some d→d.size ≤ 131072) (ho : ∀ d,o = some d→d.size ≤ 131072) : ∀ p ∈ LB z o j,p.n.size ≤ 96∧p.d.size ≤ 131072:=by
 intro p hp
 rw [LB] at hp
 rcases List.mem_append.1 hp with hp | hp
 ·obtain ⟨d,hd,rfl⟩:=List.mem_map.1 hp
  exact ⟨by show (4 : Nat) ≤ 96; omega,hz d (by simpa using hd)⟩
 rcases List.mem_append.1 hp with hp | hp
 ·obtain ⟨d,hd,rfl⟩:=List.mem_map.1 hp
  exact ⟨by show (4 : Nat) ≤ 96; omega,ho d (by simpa using hd)⟩
 ·have : p = ⟨nmO,Zq.shB 2 2 keptB j⟩:=by simpa using hp
  subst this
  exact ⟨by show (3 : Nat) ≤ 96; omega,by show (Zq.shB 2 2 keptB j).size ≤ 131072; rw [kept_size]; omega⟩
def cs (m : Int) (z o : Option ByteArray) (j : Nat) : SS:=⟨400,0,m,false,LB z o j⟩
theorem cs_go (hz : ∀ d,z = some d→d.size ≤ 131072) (ho : ∀ d,o = some d→d.size ≤ 131072) (h3 : 3 ≤ t) (h0 : 0 ≤ m) (hm : m ≤ (t : Int)) : GO t (cs m z o j) :=
 ⟨LB_ris,LB_small hz ho,Nat.le_trans LB_len h3,h0,hm,by show (0 : Int) ≤ 1048576; omega⟩
theorem cs_off : (cs m z o j).off = false:=rfl
theorem cs_f : ¬ 0 < (cs m z o j).f:=by show ¬ (0 : Int) < 0; omega
theorem cs_getN : doR (cs m z o j) 2 nmN x = gans o∧doS (cs m z o j) 2 nmN x = cs (m + 1) z o j:=by
 refine ⟨?_,rfl⟩
 have : thr (cs m z o j).L nmN = o:=LB_N
 rw [doR,cs_off,if_neg (by decide),if_neg cs_f,if_neg (by decide),if_pos rfl,dcode,this,gans]
theorem cs_getO : doR (cs m z o j) 2 nmO x = gans (some (Zq.shB 2 2 keptB j))∧doS (cs m z o j) 2 nmO x = cs (m + 1) z o j:=by
 refine ⟨?_,rfl⟩
 have : thr (cs m z o j).L nmO = some (Zq.shB 2 2 keptB j):=LB_O
 rw [doR,cs_off,if_neg (by decide),if_neg cs_f,if_neg (by decide),if_pos rfl,dcode,this,gans]
theorem cs_put (hs : s.size ≤ 100) : doR (cs m none o j) 1 nmN (Zq.shB 2 2 s j) = ⟨0,⟨#[]⟩,[]⟩∧doS (cs m none o j) 1 nmN (Zq.shB 2 2 s j) = cs (m + 1) none (some (Zq.shB 2 2 s j)) j:=by
 have hn:=name_size (j:=j) hs
 have e3 : pcode nmN (Zq.shB 2 2 s j) (cs m none o j).L (cs m none o j).q = 0:=by
  show pcode nmN (Zq.shB 2 2 s j) (LB none o j) 400 = 0
  have h4 : nmN.size = 4:=rfl
  rw [pcode,if_pos nmN_may,if_pos (by omega),LB_lay,LB_used,if_pos]
  simp only [szO,h4]
  omega
 refine ⟨?_,?_⟩
 ·rw [doR,cs_off,if_neg (by decide),if_neg cs_f,if_pos rfl,e3]
 ·rw [doS,cs_off,if_neg (by decide),if_neg cs_f,if_pos rfl,putL,if_pos e3]
  show SS.mk _ _ _ _ (layL (LB none o j) nmN _) = _
  rw [LB_lay]
  rfl
theorem cs_full (hs : s.size ≤ 100) (hd : d.size = 330) : doR (cs m (some d) none j) 1 nmN (Zq.shB 2 2 s j) = ⟨71,⟨#[]⟩,[]⟩∧doS (cs m (some d) none j) 1 nmN (Zq.shB 2 2 s j) = cs (m + 1) (some d) none j:=by
 have hn:=name_size (j:=j) hs
 have e3 : pcode nmN (Zq.shB 2 2 s j) (cs m (some d) none j).L (cs m (some d) none j).q = 71:=by
  show pcode nmN (Zq.shB 2 2 s j) (LB (some d) none j) 400 = 71
  have h4 : nmN.size = 4:=rfl
  have h5 : nmM.size = 4:=rfl
  rw [pcode,if_pos nmN_may,if_pos (by omega),LB_lay,LB_used,if_neg]
  simp only [szO,h4,h5]
  omega
 refine ⟨?_,?_⟩
 ·rw [doR,cs_off,if_neg (by decide),if_neg cs_f,if_pos rfl,e3]
 ·rw [doS,cs_off,if_neg (by decide),if_neg cs_f,if_pos rfl,putL,if_neg (by rw [e3]; decide)]
  rfl
theorem cs_fail {n : ByteArray} : doR ⟨400,1,m,false,LB z o j⟩ 1 n d = ⟨72,⟨#[]⟩,[]⟩∧doS ⟨400,1,m,false,LB z o j⟩ 1 n d = cs (m + 1) z o j:=⟨rfl,rfl⟩
theorem cs_del : doR (cs m z o j) 4 nmN x = ⟨if o.isSome = true then 0 else 5,⟨#[]⟩,[]⟩∧doS (cs m z o j) 4 nmN x = cs (m + 1) z none j:=by
 have : thr (cs m z o j).L nmN = o:=LB_N
 refine ⟨?_,?_⟩
 ·rw [doR,cs_off,if_neg (by decide),if_neg cs_f,if_neg (by decide),if_neg (by decide),if_neg (by decide),if_pos rfl,dcode,this]
 ·show SS.mk _ _ _ _ (delL (LB z o j) nmN) = _
  rw [LB_del]
  rfl
theorem cs_delM : doS (cs m z o j) 4 nmM x = cs (m + 1) none o j:=by
 show SS.mk _ _ _ _ (delL (LB z o j) nmM) = _
 rw [LB_delM]
 rfl
def sF (F : Nat→SS) : List SS:=(List.range 4).map F
theorem sF_len (F : Nat→SS) : (sF F).length = 4:=by simp [sF]
theorem sF_at (F : Nat→SS) (hj : j < 4) : (sF F)[j]? = some (F j):=by rw [sF,List.getElem?_map,List.getElem?_range hj]; rfl
theorem sF_set (F : Nat→SS) (hj : j < 4) (x : SS) : (sF F).set j x = sF fun i => if i = j then x else F i:=by
 refine List.ext_getElem? fun i => ?_
 rw [List.getElem?_set,sF_len]
 by_cases hi : i < 4
 ·have hR:=sF_at (fun i => if i = j then x else F i) hi
  by_cases e : j = i
  ·rw [if_pos e,if_pos hj,hR,if_pos e.symm]
  ·rw [if_neg e,hR,sF_at _ hi,if_neg (Ne.symm e)]
 ·rw [if_neg (by omega),List.getElem?_eq_none (by rw [sF_len]; omega),List.getElem?_eq_none (by rw [sF_len]; omega)]
theorem sF_congr {F G : Nat→SS} (h : ∀ j,j < 4→F j = G j) : sF F = sF G:=List.map_congr_left fun j hj => h j (List.mem_range.1 hj)
theorem sF_gd {F : Nat→SS} (h : ∀ j,j < 4→GO t (F j)) : GD t (sF F):=fun x hx => by
 obtain ⟨j,hj,rfl⟩:=List.mem_map.1 hx
 exact h j (List.mem_range.1 hj)
theorem sF_ask (F : Nat→SS) (k : Int) (n d : ByteArray) : yRs (sF F) (aq k n d 4) = (List.range 4).map (fun j => doR (F j) k n d)∧ySs (sF F) (aq k n d 4) = sF fun j => doS (F j) k n d:=by
 have h:=all_asked (k:=k) (n:=n) (d:=d) (sF F)
 rw [sF_len] at h
 rw [h.1,h.2,sF,sF,List.map_map,List.map_map]
 exact ⟨rfl,rfl⟩
theorem sF_put (F : Nat→SS) (n s : ByteArray) : yRs (sF F) (pq n (shL 2 2 s)) = (List.range 4).map (fun j => doR (F j) 1 n (Zq.shB 2 2 s j))∧ySs (sF F) (pq n (shL 2 2 s)) = sF fun j => doS (F j) 1 n (Zq.shB 2 2 s j):=by
 have h:=all_put (n:=n) (ds:=shL 2 2 s) (sF F) (by rw [shL_len,sF_len])
 rw [h.1,h.2]
 refine ⟨List.ext_getElem? fun i => ?_,List.ext_getElem? fun i => ?_⟩
 all_goals
  rw [List.getElem?_zipWith]
  by_cases hi : i < 4
  ·have h2 : (shL 2 2 s)[i]? = some (Zq.shB 2 2 s i):=by rw [shL,List.getElem?_map,List.getElem?_range hi]; rfl
   rw [sF_at F hi,h2]
   first | (rw [sF_at _ hi]; done) | (rw [List.getElem?_map,List.getElem?_range hi]; rfl)
  ·rw [List.getElem?_eq_none (show (sF F).length ≤ i by rw [sF_len]; omega)]
   first | rw [List.getElem?_eq_none (show (sF fun j => doS (F j) 1 n (Zq.shB 2 2 s j)).length ≤ i by rw [sF_len]; omega)] | rw [List.getElem?_eq_none (show (List.map (fun j => doR (F j) 1 n (Zq.shB 2 2 s j)) (List.range 4)).length ≤ i by rw [List.length_map,List.length_range]; omega)]
theorem none4 : (List.range 4).map (fun _ => gans none) = (List.replicate (2 + 2) none).map gans:=rfl
theorem some4 (s : ByteArray) : (List.range 4).map (fun j => gans (some (Zq.shB 2 2 s j))) = ((shL 2 2 s).map some).map gans:=by rw [shL,List.map_map,List.map_map]; rfl
theorem putF_lay {mm : Nat→Int} {α : Type} {k : Int × Int→PN α} {y : α} (hk : k (0,0) = .fin y) (hs : s.size ≤ 100) :
  (putP 2 2 nmN s k).tr (sF fun j => cs (mm j) none none j) = aq 2 nmN ⟨#[]⟩ 4 ++ pq nmN (shL 2 2 s)∧(putP 2 2 nmN s k).res (sF fun j => cs (mm j) none none j) = y∧ySs (sF fun j => cs (mm j) none none j) (aq 2 nmN ⟨#[]⟩ 4 ++ pq nmN (shL 2 2 s)) = sF fun j => cs (mm j + 1 + 1) none (some (Zq.shB 2 2 s j)) j:=by
 have hg:=sF_ask (fun j => cs (mm j) none none j) 2 nmN ⟨#[]⟩
 simp only [cs_getN] at hg
 rw [none4] at hg
 have hp:=sF_put (fun j => cs (mm j + 1) none none j) nmN s
 simp only [cs_put hs] at hp
 have hf:=no_fnd (K:=2) (M:=2) (by decide) (by decide)
 have e1 : putP 2 2 nmN s k = findP 2 2 nmN ⟨#[]⟩ (putK 2 2 nmN s k):=by rw [putP,if_neg (by omega)]
 have e2 : putK 2 2 nmN s k (fnd 2 2 ⟨#[]⟩ ((List.replicate (2 + 2) none).map gans)) = layP 2 2 nmN s k:=by
  rw [putK,if_neg (by rw [hf]; decide),if_pos (.inl hf)]
 have hz : frs [] (((List.range 4).map (fun _ => (⟨0,⟨#[]⟩,[]⟩ : RR))).map (·.c)) = 0:=rfl
 refine ⟨?_,?_,?_⟩
 ·rw [e1,findP,sqP_tr,hg.1,hg.2,List.nil_append,e2,layP,sqP_tr,hp.1,List.nil_append,if_pos hz,hk,PN.tr,List.append_nil]
 ·rw [e1,findP,sqP_res,hg.1,hg.2,List.nil_append,e2,layP,sqP_res,hp.1,List.nil_append,if_pos hz,hk,PN.res]
 ·rw [ySs_ap,hg.2,hp.2]
theorem putF_there {mm : Nat→Int} {α : Type} {k : Int × Int→PN α} {y : α} (x : ByteArray) (hs : s.size ≤ 100) (hx : x.size ≤ 65536) (hk : k (if s = x then 0 else 101,0) = .fin y) :
  (putP 2 2 nmN x k).tr (sF fun j => cs (mm j) none (some (Zq.shB 2 2 s j)) j) = aq 2 nmN ⟨#[]⟩ 4∧(putP 2 2 nmN x k).res (sF fun j => cs (mm j) none (some (Zq.shB 2 2 s j)) j) = y∧ySs (sF fun j => cs (mm j) none (some (Zq.shB 2 2 s j)) j) (aq 2 nmN ⟨#[]⟩ 4) = sF fun j => cs (mm j + 1) none (some (Zq.shB 2 2 s j)) j:=by
 have hg:=sF_ask (fun j => cs (mm j) none (some (Zq.shB 2 2 s j)) j) 2 nmN ⟨#[]⟩
 simp only [cs_getN] at hg
 rw [some4] at hg
 obtain ⟨h,hf⟩:=gO_there (K:=2) (M:=2) (s:=s) (want:=⟨#[]⟩) (by decide) (by decide) (by omega) (.inl rfl)
 have e1 : putP 2 2 nmN x k = findP 2 2 nmN ⟨#[]⟩ (putK 2 2 nmN x k):=by rw [putP,if_neg (by omega)]
 have e2 : putK 2 2 nmN x k (fnd 2 2 ⟨#[]⟩ (((shL 2 2 s).map some).map gans)) = .fin y:=by
  rw [putK,hf,if_pos rfl]
  by_cases e : s = x
  ·rw [if_pos e]; rw [if_pos e] at hk; exact hk
  ·rw [if_neg e]; rw [if_neg e] at hk; exact hk
 refine ⟨?_,?_,hg.2⟩
 ·rw [e1,findP,sqP_tr,hg.1,hg.2,List.nil_append,e2,PN.tr,List.append_nil]
 ·rw [e1,findP,sqP_res,hg.1,hg.2,List.nil_append,e2,PN.res]
theorem getF_old {mm : Nat→Int} {o : Nat→Option ByteArray} {α : Type} {k : ByteArray × Int→PN α} {y : α} (hk : k (keptB,0) = .fin y) :
  (getP 2 2 nmO ⟨#[]⟩ k).tr (sF fun j => cs (mm j) none (o j) j) = aq 2 nmO ⟨#[]⟩ 4∧(getP 2 2 nmO ⟨#[]⟩ k).res (sF fun j => cs (mm j) none (o j) j) = y∧ySs (sF fun j => cs (mm j) none (o j) j) (aq 2 nmO ⟨#[]⟩ 4) = sF fun j => cs (mm j + 1) none (o j) j:=by
 have hg:=sF_ask (fun j => cs (mm j) none (o j) j) 2 nmO ⟨#[]⟩
 simp only [cs_getO] at hg
 rw [some4] at hg
 obtain ⟨h,hf⟩:=gO_there (K:=2) (M:=2) (s:=keptB) (want:=⟨#[]⟩) (by decide) (by decide) (by decide) (.inl rfl)
 refine ⟨?_,?_,hg.2⟩
 ·rw [getP,findP,sqP_tr,hg.1,hg.2,List.nil_append,hf,hk,PN.tr,List.append_nil]
 ·rw [getP,findP,sqP_res,hg.1,hg.2,List.nil_append,hf,hk,PN.res]
end
section
variable {α : Type}
theorem aft_app : ∀ (B A : List RR) (p : PN α),p.aft (B ++ A) = (p.aft B).aft A
 | [],A,p => by rw [List.nil_append]; cases p <;> rfl
 | y :: B,A,.fin r => by
  cases A with
  | nil => simp [PN.aft]
  | cons a A => simp only [List.cons_append,PN.aft]
 | y :: B,A,.ask q k => by simp only [List.cons_append,PN.aft]; exact aft_app B A (k y)
theorem sqP_aft : ∀ (A : List RR) (l : List QT) (B : List RR) (k : List RR→PN α),A.length ≤ l.length→(sqP l B k).aft A = sqP (l.drop A.length) (B ++ A) k
 | [],l,B,k,_ => by rw [List.length_nil,List.drop_zero,List.append_nil]; cases sqP l B k <;> rfl
 | x :: A,[],B,k,h => by simp at h
 | x :: A,q :: l,B,k,h => by
  rw [sqP,PN.aft,sqP_aft A l (B ++ [x]) k (by simpa using h),List.append_assoc]
  rfl
theorem sqP_all {A : List RR} {l : List QT} {k : List RR→PN α} (h : A.length = l.length) : (sqP l [] k).aft A = k A:=by
 rw [sqP_aft A l [] k (by omega),h,List.drop_length]
 rfl
theorem sqP_one {A : List RR} {l : List QT} {k : List RR→PN α} {q : QT} (h : l[A.length]? = some q) : ∃ k',(sqP l [] k).aft A = .ask q k':=by
 have hl:=(List.getElem?_eq_some_iff.1 h).1
 rw [sqP_aft A l [] k (by omega),List.drop_eq_getElem_cons hl,(List.getElem?_eq_some_iff.1 h).2]
 exact ⟨_,rfl⟩
end
section
variable {i t : Nat} {s z : ByteArray} {c : Int} {qu : Bool}
def cQ (s : ByteArray) (t : Nat) : QT:=if t < 4 then ⟨(t : Int),2,nmN,⟨#[]⟩⟩ else if t < 8 then ⟨((t - 4 : Nat) : Int),1,nmN,Zq.shB 2 2 s (t - 4)⟩ else ⟨((t - 8 : Nat) : Int),4,nmN,⟨#[]⟩⟩
def cA (c : Int) (i t : Nat) : RR:=if t < 4 then ⟨5,⟨#[]⟩,[]⟩ else if t < 8 then ⟨if t - 4 = i then c else 0,⟨#[]⟩,[]⟩ else ⟨if t - 8 = i then 5 else 0,⟨#[]⟩,[]⟩
def cT (t : Nat) : Nat:=if t < 4 then t else if t < 8 then t - 4 else t - 8
theorem cT_lt (ht : t < 12) : cT t < 4:=by unfold cT; split <;> (try split) <;> omega
theorem cQ_st : (cQ s t).st = ((cT t : Nat) : Int):=by unfold cQ cT; split <;> (try split) <;> rfl
theorem cQ_n : (cQ s t).n = nmN:=by unfold cQ; split <;> (try split) <;> rfl
theorem cA4 (c : Int) (i : Nat) : (List.range 4).map (cA c i) = (List.replicate (2 + 2) none).map gans:=rfl
theorem cA8 (c : Int) (i u : Nat) : (List.range (4 + u)).map (cA c i) = (List.range 4).map (cA c i) ++ (List.range u).map fun j => cA c i (4 + j):=by rw [List.range_add,List.map_append,List.map_map]; rfl
theorem cA12 (c : Int) (i u : Nat) : (List.range (8 + u)).map (cA c i) = (List.range 8).map (cA c i) ++ (List.range u).map fun j => cA c i (8 + j):=by rw [List.range_add,List.map_append,List.map_map]; rfl
theorem four {P : Nat→Prop} (h0 : P 0) (h1 : P 1) (h2 : P 2) (h3 : P 3) : ∀ i,i < 4→P i:=by
 intro i hi
 match i,hi with
 | 0,_ => exact h0
 | 1,_ => exact h1
 | 2,_ => exact h2
 | 3,_ => exact h3
theorem c_at4 (hs : s.size ≤ 100) : (putP 2 2 nmN s kPut).aft ((List.range 4).map (cA c i)) = layP 2 2 nmN s kPut:=by
 have hf:=no_fnd (K:=2) (M:=2) (by decide) (by decide)
 rw [putP,if_neg (by omega),findP,sqP_all (by rfl),cA4,putK,if_neg (by rw [hf]; decide),if_pos (.inl hf)]
theorem c_frs (hi : i < 4) (hc : c ≠ 0) : frs [] (((List.range 4).map fun j => cA c i (4 + j)).map (·.c)) = c:=by
 refine four (P:=fun i => frs [] (((List.range 4).map fun j => cA c i (4 + j)).map (·.c)) = c) ?_ ?_ ?_ ?_ i hi <;> simp [List.range,List.range.loop,cA,frs,hc]
theorem c_lov (hi : i < 4) (hc : c ≠ 0) : lov (((List.range 4).map fun j => cA c i (4 + j)).map (·.c)) (((List.range 4).map fun j => cA c i (8 + j)).map (·.c)) = 0:=by
 refine four (P:=fun i => lov (((List.range 4).map fun j => cA c i (4 + j)).map (·.c)) (((List.range 4).map fun j => cA c i (8 + j)).map (·.c)) = 0) ?_ ?_ ?_ ?_ i hi <;> simp [List.range,List.range.loop,cA,lov,hc]
theorem c_at8 (hs : s.size ≤ 100) (hi : i < 4) (hc : c ≠ 0) : (putP 2 2 nmN s kPut).aft ((List.range 8).map (cA c i)) = sqP (aq 4 nmN ⟨#[]⟩ (2 + 2)) [] fun B => kPut (c,(lov (((List.range 4).map fun j => cA c i (4 + j)).map (·.c)) (B.map (·.c)) : Nat)):=by
 rw [cA8 c i 4,aft_app,c_at4 hs,layP,sqP_all (by rw [pq_len,shL_len]; rfl),c_frs hi hc,if_neg hc]
theorem c_end (hs : s.size ≤ 100) (hi : i < 4) (hc : c ≠ 0) : (putP 2 2 nmN s kPut).aft ((List.range 12).map (cA c i)) = .fin ⟨c,0,[],[]⟩:=by
 rw [cA12 c i 4,aft_app,c_at8 hs hi hc,sqP_all (by rfl),c_lov hi hc]
 rfl
theorem c_ask (hs : s.size ≤ 100) (hi : i < 4) (hc : c ≠ 0) (ht : t < 12) : ∃ k,(putP 2 2 nmN s kPut).aft ((List.range t).map (cA c i)) = .ask (cQ s t) k∧k (cA c i t) = (putP 2 2 nmN s kPut).aft ((List.range (t + 1)).map (cA c i)):=by
 suffices h : ∃ k,(putP 2 2 nmN s kPut).aft ((List.range t).map (cA c i)) = .ask (cQ s t) k by
  obtain ⟨k,hk⟩:=h
  refine ⟨k,hk,?_⟩
  rw [List.range_succ,List.map_append,aft_app,hk]
  exact (aft_ask _).symm
 by_cases h4 : t < 4
 ·rw [putP,if_neg (by omega),findP]
  refine sqP_one ?_
  rw [List.length_map,List.length_range,aqI (by omega),cQ,if_pos h4]
 by_cases h8 : t < 8
 ·obtain ⟨u,rfl⟩ : ∃ u,t = 4 + u:=⟨t - 4,by omega⟩
  rw [cA8,aft_app,c_at4 hs,layP]
  refine sqP_one ?_
  have h2 : (shL 2 2 s)[u]? = some (Zq.shB 2 2 s u):=by rw [shL,List.getElem?_map,List.getElem?_range (by omega)]; rfl
  rw [List.length_map,List.length_range,pqI h2,cQ,if_neg h4,if_pos h8,show 4 + u - 4 = u by omega]
 ·obtain ⟨u,rfl⟩ : ∃ u,t = 8 + u:=⟨t - 8,by omega⟩
  rw [cA12,aft_app,c_at8 hs hi hc]
  refine sqP_one ?_
  rw [List.length_map,List.length_range,aqI (by omega),cQ,if_neg h4,if_neg h8,show 8 + u - 8 = u by omega]
def cz (qu : Bool) (i : Nat) (z : ByteArray) (j : Nat) : Option ByteArray:=if qu = true∧j = i then some z else none
def cn (i : Nat) (s : ByteArray) (j : Nat) : Option ByteArray:=if j = i then none else some (Zq.shB 2 2 s j)
def cF (qu : Bool) (i : Nat) (z s : ByteArray) (t j : Nat) : SS :=
 if t ≤ j then cs 2 (cz qu i z j) none j else if t ≤ 4 + j then cs 3 (cz qu i z j) none j else if t ≤ 8 + j then cs 4 (cz qu i z j) (cn i s j) j else cs 5 (cz qu i z j) none j
def cfl (x : SS) : SS:=⟨x.q,1,x.m,x.off,x.L⟩
theorem cF_other {j : Nat} (hj : j < 4) (ht : t < 12) (hne : j ≠ cT t) : cF qu i z s (t + 1) j = cF qu i z s t j:=by
 unfold cF cT at *
 by_cases h4 : t < 4
 ·rw [if_pos h4] at hne
  by_cases h : t ≤ j
  ·rw [if_pos (by omega),if_pos h]
  ·rw [if_neg (by omega),if_neg h,if_pos (by omega),if_pos (by omega)]
 rw [if_neg h4] at hne
 by_cases h8 : t < 8
 ·rw [if_pos h8] at hne
  rw [if_neg (by omega),if_neg (show ¬ t ≤ j by omega)]
  by_cases h : t ≤ 4 + j
  ·rw [if_pos (by omega),if_pos h]
  ·rw [if_neg (by omega),if_neg h,if_pos (by omega),if_pos (by omega)]
 ·rw [if_neg h8] at hne
  rw [if_neg (by omega),if_neg (show ¬ t ≤ j by omega),if_neg (by omega),if_neg (show ¬ t ≤ 4 + j by omega)]
  by_cases h : t ≤ 8 + j
  ·rw [if_pos (by omega),if_pos h]
  ·rw [if_neg (by omega),if_neg h]
def cB (qu : Bool) (i t : Nat) : Bool:=!qu && decide (4 ≤ t∧t < 8∧cT t = i)
theorem cF_step (hs : s.size ≤ 100) (hz : z.size = 330) (ht : t < 12) (hc : c = if qu = true then 71 else 72) :
  doR (if cB qu i t = true then cfl (cF qu i z s t (cT t)) else cF qu i z s t (cT t)) (cQ s t).k (cQ s t).n (cQ s t).d = cA c i t∧doS (if cB qu i t = true then cfl (cF qu i z s t (cT t)) else cF qu i z s t (cT t)) (cQ s t).k (cQ s t).n (cQ s t).d = cF qu i z s (t + 1) (cT t):=by
 by_cases h4 : t < 4
 ·have hb : cB qu i t = false:=by unfold cB; rw [show decide (4 ≤ t∧t < 8∧cT t = i) = false from decide_eq_false (by omega),Bool.and_false]
  rw [hb,if_neg (by decide)]
  unfold cF cT cQ cA
  simp only [if_pos h4]
  rw [if_pos (Nat.le_refl _),if_neg (by omega),if_pos (by omega)]
  exact ⟨cs_getN.1,cs_getN.2⟩
 by_cases h8 : t < 8
 ·obtain ⟨u,rfl⟩ : ∃ u,t = 4 + u:=⟨t - 4,by omega⟩
  have eT : cT (4 + u) = u:=by unfold cT; rw [if_neg h4,if_pos h8]; omega
  have eQ : cQ s (4 + u) = ⟨(u : Int),1,nmN,Zq.shB 2 2 s u⟩:=by unfold cQ; rw [if_neg h4,if_pos h8,show 4 + u - 4 = u by omega]
  have eA : cA c i (4 + u) = ⟨if u = i then c else 0,⟨#[]⟩,[]⟩:=by unfold cA; rw [if_neg h4,if_pos h8,show 4 + u - 4 = u by omega]
  have e1 : cF qu i z s (4 + u) u = cs 3 (cz qu i z u) none u:=by unfold cF; rw [if_neg (by omega),if_pos (Nat.le_refl _)]
  have e2 : cF qu i z s (4 + u + 1) u = cs 4 (cz qu i z u) (cn i s u) u:=by unfold cF; rw [if_neg (by omega),if_neg (by omega),if_pos (by omega)]
  rw [eT,eQ,eA,e1,e2]
  by_cases hui : u = i
  ·rw [if_pos hui,show cn i s u = none from if_pos hui]
   cases qu with
   | true =>
    rw [show cB true i (4 + u) = false from rfl,if_neg (by decide),show cz true i z u = some z from if_pos ⟨rfl,hui⟩,hc,if_pos rfl]
    exact cs_full hs hz
   | false =>
    have hb : cB false i (4 + u) = true:=by unfold cB; rw [eT]; simp; omega
    rw [hb,if_pos rfl,show cz false i z u = none from if_neg (by simp),hc,if_neg (by decide)]
    exact cs_fail
  ·have hb : cB qu i (4 + u) = false:=by unfold cB; rw [eT,show decide (4 ≤ 4 + u∧4 + u < 8∧u = i) = false from decide_eq_false (by omega),Bool.and_false]
   rw [hb,if_neg (by decide),show cz qu i z u = none from if_neg (fun h => hui h.2),if_neg hui,show cn i s u = some (Zq.shB 2 2 s u) from if_neg hui]
   exact cs_put hs
 ·obtain ⟨u,rfl⟩ : ∃ u,t = 8 + u:=⟨t - 8,by omega⟩
  have eT : cT (8 + u) = u:=by unfold cT; rw [if_neg h4,if_neg h8]; omega
  have eQ : cQ s (8 + u) = ⟨(u : Int),4,nmN,⟨#[]⟩⟩:=by unfold cQ; rw [if_neg h4,if_neg h8,show 8 + u - 8 = u by omega]
  have eA : cA c i (8 + u) = ⟨if u = i then 5 else 0,⟨#[]⟩,[]⟩:=by unfold cA; rw [if_neg h4,if_neg h8,show 8 + u - 8 = u by omega]
  have hb : cB qu i (8 + u) = false:=by unfold cB; rw [show decide (4 ≤ 8 + u∧8 + u < 8∧cT (8 + u) = i) = false from decide_eq_false (by omega),Bool.and_false]
  have e1 : cF qu i z s (8 + u) u = cs 4 (cz qu i z u) (cn i s u) u:=by unfold cF; rw [if_neg (by omega),if_neg (by omega),if_pos (Nat.le_refl _)]
  have e2 : cF qu i z s (8 + u + 1) u = cs 5 (cz qu i z u) none u:=by unfold cF; rw [if_neg (by omega),if_neg (by omega),if_neg (by omega)]
  rw [hb,if_neg (by decide),eT,eQ,eA,e1,e2]
  refine ⟨?_,cs_del.2⟩
  show doR _ 4 nmN _ = _
  rw [cs_del.1]
  by_cases hui : u = i
  ·rw [if_pos hui,show cn i s u = none from if_pos hui]; rfl
  ·rw [if_neg hui,show cn i s u = some (Zq.shB 2 2 s u) from if_neg hui]; rfl
theorem cF_next (hs : s.size ≤ 100) (hz : z.size = 330) (ht : t < 12) (hc : c = if qu = true then 71 else 72) (x : SS) (hx : x = doS (if cB qu i t = true then cfl (cF qu i z s t (cT t)) else cF qu i z s t (cT t)) (cQ s t).k (cQ s t).n (cQ s t).d) :
  (sF (cF qu i z s t)).set (cT t) x = sF (cF qu i z s (t + 1)):=by
 rw [hx,(cF_step (i:=i) hs hz ht hc).2,sF_set _ (cT_lt ht)]
 refine sF_congr fun j hj => ?_
 by_cases e : j = cT t
 ·subst e; rw [if_pos rfl]
 ·rw [if_neg e,cF_other hj ht e]
theorem cF_go (hs : s.size ≤ 100) (hz : z.size = 330) {j : Nat} : GO 100 (cF qu i z s t j):=by
 have h1 : ∀ d,cz qu i z j = some d→d.size ≤ 131072:=fun d hd => by
  unfold cz at hd
  split at hd
  ·cases hd; omega
  ·cases hd
 have h2 : ∀ d,cn i s j = some d→d.size ≤ 131072:=fun d hd => by
  unfold cn at hd
  split at hd
  ·cases hd
  ·cases hd; have:=(name_size (j:=j) hs).2; omega
 have h3 : ∀ d,(none : Option ByteArray) = some d→d.size ≤ 131072:=fun d hd => by cases hd
 unfold cF
 split
 ·exact cs_go h1 h3 (by omega) (by omega) (by omega)
 split
 ·exact cs_go h1 h3 (by omega) (by omega) (by omega)
 split
 ·exact cs_go h1 h2 (by omega) (by omega) (by omega)
 ·exact cs_go h1 h3 (by omega) (by omega) (by omega)
end
end Go.Proofs.YtagijldedngcoaaGreatDoor

namespace Go.Proofs.YtagijldedngcoaaGreatDoor
open Go.RowKit Go.Lib Go.Maps
section
variable {K M a : Nat} {s nm t : ByteArray} {q m : Int} {O : List (Option ByteArray)} {o : Option ByteArray}
end
section
variable {w W : World} {X Bd K M j : Nat} {sv : Value} {S : List SS} {bs : List (Nat × Nat)} {q m : Int} {nm d : ByteArray} {O : List (Option ByteArray)} {o : Option ByteArray}
theorem GQ.at (h : GQ w W X Bd K M sv S bs) (hj : j < S.length) : ∃ g o c e s,sv = .slice (some ⟨g,o,none⟩) S.length c∧W.cell? ⟨g,o + j,none⟩ = some (.pointer (some ⟨e.1,0,none⟩))∧bs[j]? = some e∧S[j]? = some s∧PX W e.1 e.2 s:=by
 have hbl : bs.length = S.length:=h.yp.len
 obtain ⟨e1,he1⟩ : ∃ e1,bs[j]? = some e1:=⟨_,List.getElem?_eq_getElem (by omega)⟩
 obtain ⟨s1,hs1⟩ : ∃ s1,S[j]? = some s1:=⟨_,List.getElem?_eq_getElem hj⟩
 obtain ⟨a,c,e,hn | ⟨g,o,ea,hr,hg,hG⟩⟩:=h.yp.rp
 ·have : bs.length = 0:=by simpa using congrArg List.length hn
  omega
 rw [List.length_map,hbl] at e
 subst ea
 exact ⟨g,o,c,e1,s1,e,hG j e1.1 (by rw [List.getElem?_map,he1]; rfl),he1,hs1,h.yp.px j e1 s1 he1 hs1⟩
theorem gq_turn {e : Nat × Nat} {s s' : SS} {W' : World} (h : GQ w W X Bd K M sv S bs) (he : bs[j]? = some e) (hs : S[j]? = some s) (hg : Gs (two e.1 e.2) W W') (hX : PX W' e.1 e.2 s') : GQ w W' X Bd K M sv (S.set j s') bs:=by
 have hin:=h.yp.inP e (List.mem_of_getElem? he)
 have hxx:=h.xx
 have hw2:=h.w2
 refine ⟨h.yp.put he hs hg hX,?_,?_,?_,h.xx,h.xb,Nat.le_trans h.bd hg.size,h.w2⟩
 ·rw [hg.block X (lt_of_block h.kt) (fun hi => by rcases hi with hi | hi <;> omega)]; exact h.kt
 ·exact hg.below h.be h.be.size fun i hi => by rcases hi with hi | hi <;> omega
 ·exact laid_gs h.la hg fun i hi => by rcases hi with hi | hi <;> omega
end
end Go.Proofs.YtagijldedngcoaaGreatDoor

namespace Go.Proofs.YtagijldedngcoaaGreatDoor
open Go.RowKit Go.Lib Go.Maps
section
variable {w W W' : World} {X Bd b t i q K M g o e1 : Nat} {sv : Value} {S : List SS} {bs : List (Nat × Nat)} {qu : Bool} {z s x : ByteArray} {c cc : Int} {p : Nat→Prop}
structure CP (qu : Bool) (i : Nat) (z s : ByteArray) (c : Int) : Prop where
 hs : s.size ≤ 100
 hz : z.size = 330
 hi : i < 4
 hc : c = if qu = true then 71 else 72
theorem CP.c0 (h : CP qu i z s c) : c ≠ 0:=by rw [h.hc]; split <;> decide
theorem cA_d : (cA c i t).d = ⟨#[]⟩:=by unfold cA; split <;> (try split) <;> rfl
theorem cA_l : (cA c i t).l = []:=by unfold cA; split <;> (try split) <;> rfl
theorem cA_eta : cA c i t = ⟨(cA c i t).c,⟨#[]⟩,[]⟩:=by
 have h1:=cA_d (c:=c) (i:=i) (t:=t)
 have h2:=cA_l (c:=c) (i:=i) (t:=t)
 generalize cA c i t = y at *
 cases y
 simp_all
theorem cA_resI (n : Nat) : resI ((List.range n).map (cA c i)) = []:=by
 induction n with
 | zero => rfl
 | succ n ih => rw [List.range_succ,List.map_append,resI_app,ih]; simp [resI,cA_l]
theorem GQ.up (h : GQ w W X Bd K M sv S bs) (hg : Gs p W W') (hp : ∀ k,p k→Bd ≤ k) : GQ w W' X Bd K M sv S bs:=by
 have h1:=h.xx
 have h2:=h.w2
 have h3:=h.xb
 exact ⟨h.yp.gs hg (fun k hk hp' => by have:=hp k hp'; omega),(hg.block X (lt_of_block h.kt) (fun hp' => by have:=hp X hp'; omega)).trans h.kt,hg.below h.be h.be.size (fun k hk => by have:=hp k hk; omega),laid_gs h.la hg (fun k hk => by have:=hp k hk; omega),h.xx,h.xb,Nat.le_trans h.bd hg.size,h.w2⟩
def CO (W : World) (Bd b t i : Nat) (s : ByteArray) (c : Int) (q : Nat) : Prop:=∃ P,JJ b (FinR b) ((putP 2 2 nmN s kPut).aft ((List.range t).map (cA c i))) ((List.range t).map (cA c i)) P W∧(∀ k,P k→Bd ≤ k)∧¬ P q
theorem CO.gs (h : CO W Bd b t i s c q) (hg : Gs p W W') (hp : ∀ k,p k→k < Bd) : CO W' Bd b t i s c q:=by
 obtain ⟨P,hJ,hP,hq⟩:=h
 exact ⟨P,hJ.gs (fkR b) hg (fun k hk hp' => by have:=hP k hk; have:=hp k hp'; omega),hP,hq⟩
theorem CO.bel (h : CO W Bd b t i s c q) (hb : Below W.heap.size W W') : CO W' Bd b t i s c q:=by
 obtain ⟨P,hJ,hP,hq⟩:=h
 have hl:=hJ.lt
 exact ⟨P,hJ.gs (p:=fun i => W.heap.size ≤ i) (fkR b) (Gs.of_below _ hb) (fun k hk hn => by have:=hl k hk; omega),hP,hq⟩
theorem CO.new (h : CO W Bd b t i s c q) : CO W Bd b t i s c W.heap.size:=by
 obtain ⟨P,hJ,hP,hq⟩:=h
 have hl:=hJ.lt
 exact ⟨P,hJ,hP,fun h => by have:=hl _ h; omega⟩
theorem CO.jb (h : CO W Bd b t i s c q) (hC : CP qu i z s c) (ht : t ≤ 12) : ∃ op st k n d go c' N ids tx,JB W b op st k n d go c' N ids tx (t : Int):=by
 obtain ⟨P,hJ,hP,hq⟩:=h
 by_cases h12 : t < 12
 ·obtain ⟨k,hk,_⟩:=c_ask (t:=t) hC.hs hC.hi hC.c0 h12
  rw [hk,JJ] at hJ
  obtain ⟨_,_,a4,a5,hB,_⟩:=hJ
  rw [List.length_map,List.length_range] at hB
  exact ⟨_,_,_,_,_,_,_,_,_,_,hB⟩
 ·obtain rfl : t = 12:=by omega
  rw [c_end hC.hs hC.hi hC.c0,JJ] at hJ
  obtain ⟨_,_,ids,tx,hB,_⟩:=hJ
  rw [List.length_map,List.length_range] at hB
  exact ⟨_,_,_,_,_,_,_,_,_,_,hB⟩
def stp (b : Nat) (W : World) : Nat:=match W.heap[b]? with
 | some (.cells cs _ _) => (intOf (cs.getD 13 (.bool false))).toNat
 | _ => 0
theorem CO.stp (h : CO W Bd b t i s c q) (hC : CP qu i z s c) (ht : t ≤ 12) : stp b W = t:=by
 obtain ⟨op,st,k,n,d,go,c',N,ids,tx,hB⟩:=h.jb hC ht
 unfold Go.Proofs.YtagijldedngcoaaGreatDoor.stp
 rw [show W.heap[b]? = _ from hB]
 simp [intOf]
structure CJ (w W : World) (X Bd : Nat) (sv : Value) (bs : List (Nat × Nat)) (qu : Bool) (i : Nat) (z s : ByteArray) (c : Int) (b t : Nat) : Prop where
 gq : GQ w W X Bd 2 2 sv (sF (cF qu i z s t)) bs
 jj : ∃ q,CO W Bd b t i s c q
theorem CJ.bel (h : CJ w W X Bd sv bs qu i z s c b t) (hb : Below W.heap.size W W') : CJ w W' X Bd sv bs qu i z s c b t:=by
 obtain ⟨q,hq⟩:=h.jj
 exact ⟨h.gq.bel hb,q,hq.bel hb⟩
theorem CJ.stp (h : CJ w W X Bd sv bs qu i z s c b t) (hC : CP qu i z s c) (ht : t ≤ 12) : stp b W = t:=by
 obtain ⟨q,hq⟩:=h.jj
 exact hq.stp hC ht
theorem CJ.start {z' : Option Nat} (h : GQ w W X Bd 2 2 sv (sF (cF qu i z s 0)) bs) (hJ : JW W W' b (putP 2 2 nmN s kPut) z') : CJ w W' X Bd sv bs qu i z s c b 0:=by
 obtain ⟨P,hj,hP,_⟩:=hJ.j
 have hbd:=h.bd
 have hl:=hj.lt
 refine ⟨h.bel hJ.be,W'.heap.size,P,?_,fun k hk => by have:=hP k hk; omega,fun hk => by have:=hl _ hk; omega⟩
 have e : (putP 2 2 nmN s kPut).aft [] = (putP 2 2 nmN s kPut):=by cases (putP 2 2 nmN s kPut) <;> rfl
 show JJ b (FinR b) ((putP 2 2 nmN s kPut).aft []) [] P W'
 rw [e]
 exact hj
theorem cj_over (h : CJ w W X Bd sv bs qu i z s c b t) (hC : CP qu i z s c) (ht : t < 12) : Calls Tryz.prog 29 #[.pointer (some ⟨b,0,none⟩)] W fun e w' => e = .returned (.bool false)∧w' = W:=by
 obtain ⟨q,P,hJ,hP,hq⟩:=h.jj
 obtain ⟨k,hk,_⟩:=c_ask (t:=t) hC.hs hC.hi hC.c0 ht
 rw [hk] at hJ
 exact jj_over hJ
theorem cj_over1 (h : CJ w W X Bd sv bs qu i z s c b 12) (hC : CP qu i z s c) : Calls Tryz.prog 29 #[.pointer (some ⟨b,0,none⟩)] W fun e w' => e = .returned (.bool true)∧w' = W:=by
 obtain ⟨q,P,hJ,hP,hq⟩:=h.jj
 rw [c_end hC.hs hC.hi hC.c0] at hJ
 exact jj_over1 (fkR b) hJ
theorem cj_next (h : CJ w W X Bd sv bs qu i z s c b t) (hC : CP qu i z s c) (ht : t < 12) : Calls Tryz.prog 38 #[.pointer (some ⟨b,0,none⟩)] W fun e w' => e = .returned (.tuple #[.agg #[.int .i64 (cT t : Int),.int .i64 (cQ s t).k,.string nmN,.string (cQ s t).d],.bool true])∧CJ w w' X Bd sv bs qu i z s c b t:=by
 obtain ⟨q,P,hJ,hP,hq⟩:=h.jj
 obtain ⟨k,hk,_⟩:=c_ask (t:=t) hC.hs hC.hi hC.c0 ht
 rw [hk] at hJ
 refine (jj_next hJ).mono ?_
 rintro e w' ⟨rfl,hb⟩
 rw [cQ_st,cQ_n]
 exact ⟨rfl,h.bel hb⟩
structure CR (w W : World) (X Bd : Nat) (sv : Value) (bs : List (Nat × Nat)) (qu : Bool) (i : Nat) (z s : ByteArray) (c : Int) (b t q : Nat) (y : SS) : Prop where
 gq : GQ w W X Bd 2 2 sv ((sF (cF qu i z s t)).set (cT t) y) bs
 jj : CO W Bd b t i s c q
 rb : W.heap[q]? = some (.cells #[.int .i64 (cT t : Int),.int .i64 (cQ s t).k,.string nmN,.string (cQ s t).d] 81 (0,0))
 hq : Bd ≤ q
theorem CR.of (h : CJ w W X Bd sv bs qu i z s c b t) (ht : t < 12) (hW : W' = W.alloc (.cells #[.int .i64 (cT t : Int),.int .i64 (cQ s t).k,.string nmN,.string (cQ s t).d] 81)) : CR w W' X Bd sv bs qu i z s c b t W.heap.size (cF qu i z s t (cT t)):=by
 have hb : Below W.heap.size W W':=by rw [hW]; exact (Below.refl _ _).alloc (Nat.le_refl _) _
 obtain ⟨q,hq⟩:=h.jj
 refine ⟨?_,hq.new.bel hb,by rw [hW]; exact heap_alloc_new W _,h.gq.bd⟩
 have e : (sF (cF qu i z s t)).set (cT t) (cF qu i z s t (cT t)) = sF (cF qu i z s t):=by
  rw [sF_set _ (cT_lt ht)]
  refine sF_congr fun j hj => ?_
  by_cases e : j = cT t
  ·rw [if_pos e,e]
  ·rw [if_neg e]
 rw [e]
 exact h.gq.bel hb
theorem CR.drew {y : SS} (h : CR w W X Bd sv bs qu i z s c b t q y) : CR w W.drew X Bd sv bs qu i z s c b t q y:=⟨h.gq.bel ⟨rfl,rfl,rfl,Nat.le_refl _,fun _ _ => rfl⟩,h.jj.bel ⟨rfl,rfl,rfl,Nat.le_refl _,fun _ _ => rfl⟩,h.rb,h.hq⟩
theorem GQ.ptr {a : Nat} (h : GQ w W X Bd 2 2 sv S bs) (hS : S.length = 4) (hsv : sv = .slice (some ⟨g,o,none⟩) 4 a) {j : Nat} {e : Nat × Nat} (hj : j < 4) (he : bs[j]? = some e) : W.cell? ⟨g,o + j,none⟩ = some (.pointer (some ⟨e.1,0,none⟩)):=by
 obtain ⟨g',o',c',e',s',h1,h2,h3,_,_⟩:=h.at (j:=j) (by omega)
 rw [hsv] at h1
 injection h1 with h1 _ _
 injection h1 with h1
 injection h1 with h1 h1' _
 subst h1 h1'
 rw [he] at h3
 cases h3
 exact h2
theorem CR.cells {y : SS} {a : Nat} {e : Nat × Nat} (h : CR w W X Bd sv bs qu i z s c b t q y) (ht : t < 12) (hsv : sv = .slice (some ⟨g,o,none⟩) 4 a) (he : bs[cT t]? = some e) (h1 : e.1 = e1) : (W.cell? ⟨q,0,none⟩ = some (.int .i64 (cT t : Int))∧W.cell? ⟨q,1,none⟩ = some (.int .i64 (cQ s t).k)∧W.cell? ⟨q,2,none⟩ = some (.string nmN)∧W.cell? ⟨q,3,none⟩ = some (.string (cQ s t).d)∧W.cell? ⟨g,o + cT t,none⟩ = some (.pointer (some ⟨e1,0,none⟩))):=by
 subst h1
 refine ⟨?_,?_,?_,?_,h.gq.ptr (by rw [List.length_set,sF_len]) hsv (cT_lt ht) he⟩ <;> simp [World.cell?,h.rb]
theorem cr_fail {e : Nat × Nat} (h : CR w W X Bd sv bs qu i z s c b t q (cF qu i z s t (cT t))) (ht : t < 12) (he : bs[cT t]? = some e) :
  Calls Tryz.prog 39 #[.pointer (some ⟨e.1,0,none⟩),.int .i64 1] W fun er w' => er = .returned (.int .i64 0)∧CR w w' X Bd sv bs qu i z s c b t q (cfl (cF qu i z s t (cT t))):=by
 have hat : ((sF (cF qu i z s t)).set (cT t) (cF qu i z s t (cT t)))[cT t]? = some (cF qu i z s t (cT t)):=by rw [List.getElem?_set,if_pos rfl,if_pos (by rw [sF_len]; exact cT_lt ht)]
 have hX : PX W e.1 e.2 (cF qu i z s t (cT t)):=h.gq.yp.px _ e _ he hat
 have hX1 : PS W e.1 e.2 (cF qu i z s t (cT t)).q (cF qu i z s t (cT t)).f (cF qu i z s t (cT t)).off (cF qu i z s t (cT t)).m (cF qu i z s t (cT t)).L:=hX
 have hin:=h.gq.yp.inP e (List.mem_of_getElem? he)
 refine (fail_any hX1 1).mono ?_
 rintro er w' ⟨rfl,hP,hG⟩
 refine ⟨rfl,?_⟩
 have hX6 : PX w' e.1 e.2 (cfl (cF qu i z s t (cT t))):=hP
 have h9:=gq_turn h.gq he hat hG hX6
 rw [List.set_set] at h9
 have h4:=h.hq
 exact ⟨h9,h.jj.gs hG (fun k hk => by rcases hk with hk | hk <;> omega),(hG.block q (lt_of_block h.rb) (fun hk => by rcases hk with hk | hk <;> omega)).trans h.rb,h.hq⟩
structure CD (w W : World) (X Bd : Nat) (sv : Value) (bs : List (Nat × Nat)) (qu : Bool) (i : Nat) (z s : ByteArray) (c : Int) (b t q : Nat) (u : Value) : Prop where
 gq : GQ w W X Bd 2 2 sv (sF (cF qu i z s (t + 1))) bs
 jj : CO W Bd b t i s c q
 rb : W.heap[q]? = some (.cells #[.int .i64 (cT t : Int),.int .i64 (cQ s t).k,.string nmN,.string (cQ s t).d] 81 (0,0))
 hq : Bd ≤ q
 uu : LS t1 1 (fun _ => False) W u []
theorem cQ_d (hs : s.size ≤ 100) : (cQ s t).d.size ≤ 97:=by
 unfold cQ
 split
 ·exact Nat.zero_le _
 split
 ·exact (name_size hs).2
 ·exact Nat.zero_le _
theorem cr_do {a : Nat} {e : Nat × Nat} (h : CR w W X Bd sv bs qu i z s c b t q (if cB qu i t = true then cfl (cF qu i z s t (cT t)) else cF qu i z s t (cT t))) (hC : CP qu i z s c) (ht : t < 12) (hsv : sv = .slice (some ⟨g,o,none⟩) 4 a) (he : bs[cT t]? = some e) (h1 : e.1 = e1) :
  Calls Tryz.prog 41 #[.pointer (some ⟨e1,0,none⟩),.agg #[.int .i64 (cT t : Int),.int .i64 (cQ s t).k,.string nmN,.string (cQ s t).d]] W fun er w' => ∃ ua uc,er = .returned (.agg #[.int .i64 (cA c i t).c,.string ⟨#[]⟩,.slice ua 0 uc])∧(w'.cell? ⟨q,0,none⟩ = some (.int .i64 (cT t : Int))∧w'.cell? ⟨q,1,none⟩ = some (.int .i64 (cQ s t).k)∧w'.cell? ⟨q,2,none⟩ = some (.string nmN)∧w'.cell? ⟨q,3,none⟩ = some (.string (cQ s t).d)∧w'.cell? ⟨g,o + cT t,none⟩ = some (.pointer (some ⟨e1,0,none⟩)))∧Hid (CD w w' X Bd sv bs qu i z s c b t q (.slice ua 0 uc)):=by
 subst h1
 obtain ⟨y,hy⟩ : ∃ y,y = (if cB qu i t = true then cfl (cF qu i z s t (cT t)) else cF qu i z s t (cT t)):=⟨_,rfl⟩
 rw [← hy] at h
 have hat : ((sF (cF qu i z s t)).set (cT t) y)[cT t]? = some y:=by rw [List.getElem?_set,if_pos rfl,if_pos (by rw [sF_len]; exact cT_lt ht)]
 have hX : PX W e.1 e.2 y:=h.gq.yp.px _ e _ he hat
 have hin:=h.gq.yp.inP e (List.mem_of_getElem? he)
 have hgo:=cF_go (qu:=qu) (i:=i) (t:=t) (j:=cT t) hC.hs hC.hz
 have hyl : y.L.length ≤ 100∧0 ≤ y.m∧y.m ≤ 100∧y.f ≤ 1048576:=by
  rw [hy]
  split
  ·exact ⟨hgo.len,hgo.m0,hgo.mt,by show (1 : Int) ≤ 1048576; omega⟩
  ·exact ⟨hgo.len,hgo.m0,hgo.mt,hgo.f⟩
 have hds:=cQ_d (t:=t) hC.hs
 have hst:=cF_step (i:=i) (t:=t) hC.hs hC.hz ht hC.hc
 rw [← hy,cQ_n] at hst
 refine (do_any hX (cT t : Int) (cQ s t).k nmN (cQ s t).d (by decide) (by unfold maxLen; omega) (by omega) hyl.2.1 (by omega) hyl.2.2.2).mono ?_
 rintro er w' ⟨v,rfl,hA,hP,hG⟩
 rw [hst.1] at hA
 obtain ⟨ua,uc,rfl,hT⟩:=hA.shp
 rw [cA_d,cA_l] at *
 have h4:=h.hq
 have h9:=gq_turn h.gq he hat hG hP
 rw [List.set_set,cF_next hC.hs hC.hz ht hC.hc _ (by rw [← hy,cQ_n])] at h9
 have hrb : w'.heap[q]? = some (.cells #[.int .i64 (cT t : Int),.int .i64 (cQ s t).k,.string nmN,.string (cQ s t).d] 81 (0,0)):=(hG.block q (lt_of_block h.rb) (fun hk => by rcases hk with hk | hk <;> omega)).trans h.rb
 refine ⟨ua,uc,rfl,⟨?_,?_,?_,?_,h9.ptr (sF_len _) hsv (cT_lt ht) he⟩,⟨h9,h.jj.gs hG (fun k hk => by rcases hk with hk | hk <;> omega),hrb,h.hq,?_⟩⟩
 ·simp [World.cell?,hrb]
 ·simp [World.cell?,hrb]
 ·simp [World.cell?,hrb]
 ·simp [World.cell?,hrb]
 ·obtain ⟨a',c',e',h1',_⟩:=hT.ls (r:=fun _ => True) (fun _ _ => trivial)
  exact ⟨a',c',e',h1',.inl rfl⟩
theorem cr_give {a : Nat} {e : Nat × Nat} {ua : Option Addr} {uc : Nat} (h : CD w W X Bd sv bs qu i z s c b t q (.slice ua 0 uc)) (hC : CP qu i z s c) (ht : t < 12) (hsv : sv = .slice (some ⟨g,o,none⟩) 4 a) (he : bs[cT t]? = some e) (h1 : e.1 = e1) :
  Calls Tryz.prog 40 #[.pointer (some ⟨b,0,none⟩),.agg #[.int .i64 (cA c i t).c,.string ⟨#[]⟩,.slice ua 0 uc]] W fun er w' => er = .returned (.int .i64 0)∧(w'.cell? ⟨q,0,none⟩ = some (.int .i64 (cT t : Int))∧w'.cell? ⟨q,1,none⟩ = some (.int .i64 (cQ s t).k)∧w'.cell? ⟨q,2,none⟩ = some (.string nmN)∧w'.cell? ⟨q,3,none⟩ = some (.string (cQ s t).d)∧w'.cell? ⟨g,o + cT t,none⟩ = some (.pointer (some ⟨e1,0,none⟩)))∧Hid (CJ w w' X Bd sv bs qu i z s c b (t + 1)):=by
 subst h1
 obtain ⟨P,hJ,hP,hq⟩:=h.jj
 obtain ⟨k,hk,hk2⟩:=c_ask (t:=t) hC.hs hC.hi hC.c0 ht
 rw [hk] at hJ
 have eA : (List.range t).map (cA c i) ++ [⟨(cA c i t).c,⟨#[]⟩,[]⟩] = (List.range (t + 1)).map (cA c i):=by rw [← cA_eta,List.range_succ,List.map_append]; rfl
 refine (jj_give (cA c i t).c ⟨#[]⟩ hJ (by rw [List.length_map,List.length_range]; omega) h.uu (fun h => h) (by simp) (by rw [eA,cA_resI]; simp) ⟨fun y hy => by simp at hy,Nat.zero_le _⟩ h.gq.la).mono ?_
 rintro er w' ⟨rfl,P',hJ',hG,hP'⟩
 rw [eA,← cA_eta,hk2] at hJ'
 have hbd:=h.gq.bd
 have h9:=h.gq.up hG hP
 have hrb : w'.heap[q]? = some (.cells #[.int .i64 (cT t : Int),.int .i64 (cQ s t).k,.string nmN,.string (cQ s t).d] 81 (0,0)):=(hG.block q (lt_of_block h.rb) hq).trans h.rb
 refine ⟨rfl,⟨?_,?_,?_,?_,h9.ptr (sF_len _) hsv (cT_lt ht) he⟩,⟨h9,w'.heap.size,P',hJ',?_,fun hk => by have:=hJ'.lt _ hk; omega⟩⟩
 ·simp [World.cell?,hrb]
 ·simp [World.cell?,hrb]
 ·simp [World.cell?,hrb]
 ·simp [World.cell?,hrb]
 ·intro k hk
  rcases hP' k hk with h | h
  ·exact hP k h
  ·omega
theorem cj_steps (h : CJ w W X Bd sv bs qu i z s c b t) (hC : CP qu i z s c) (ht : t ≤ 12) : Calls Tryz.prog 31 #[.pointer (some ⟨b,0,none⟩)] W fun er w' => er = .returned (.int .i64 (t : Int))∧w' = W:=by
 obtain ⟨q,hq⟩:=h.jj
 obtain ⟨op,st,k,n,d,go,c',N,ids,tx,hB⟩:=hq.jb hC ht
 exact steps_any hB
theorem cj_result (h : CJ w W X Bd sv bs qu i z s c b 12) (hC : CP qu i z s c) : Calls Tryz.prog 30 #[.pointer (some ⟨b,0,none⟩)] W fun er w' => ∃ a1 n1 c1 a2 n2 c2,er = .returned (.agg #[.int .i64 c,.string ⟨#[]⟩,.int .i64 0,.slice a1 n1 c1,.slice a2 n2 c2,.slice none 0 0,.slice none 0 0])∧CJ w w' X Bd sv bs qu i z s c b 12:=by
 obtain ⟨q,P,hJ,hP,hq⟩:=id h.jj
 rw [c_end hC.hs hC.hi hC.c0,JJ] at hJ
 obtain ⟨_,_,ids,tx,hB,hI,hT⟩:=hJ
 refine (result_any hB hI hT (by simp) (by simp)).mono ?_
 rintro er w' ⟨i',t',rfl,h1,h2,hb⟩
 obtain ⟨a1,c1,rfl⟩:=h1.shp
 obtain ⟨a2,c2,rfl⟩:=h2.shp
 exact ⟨_,_,_,_,_,_,rfl,h.bel hb⟩
def cG (qu : Bool) (i : Nat) (z : ByteArray) (n j : Nat) : SS:=if qu = true∧j = i then (if j < n then cs 6 none none j else cs 5 (some z) none j) else cs 5 none none j
theorem cG_zero : sF (cF qu i z s 12) = sF (cG qu i z 0):=by
 refine sF_congr fun j hj => ?_
 unfold cF cG cz
 rw [if_neg (by omega),if_neg (by omega),if_neg (by omega)]
 split
 ·rw [if_neg (by omega)]
 ·rfl
theorem cG_none {j n : Nat} : thr (cG qu i z n j).L nmN = none:=by
 unfold cG
 split
 ·split
  ·exact LB_N
  ·exact LB_N
 ·exact LB_N
theorem cG_skip {n : Nat} (h : ¬ (qu = true∧n = i)) : sF (cG qu i z (n + 1)) = sF (cG qu i z n):=by
 refine sF_congr fun j hj => ?_
 unfold cG
 by_cases e : qu = true∧j = i
 ·rw [if_pos e,if_pos e]
  by_cases hl : j < n
  ·rw [if_pos hl,if_pos (by omega)]
  ·rw [if_neg hl,if_neg (by intro hh; exact h ⟨e.1,by omega⟩)]
 ·rw [if_neg e,if_neg e]
theorem cG_del {n : Nat} (hn : n < 4) (h : qu = true∧n = i) : (sF (cG qu i z n)).set n (doS (cG qu i z n n) 4 nmM ⟨#[]⟩) = sF (cG qu i z (n + 1)):=by
 have e : cG qu i z n n = cs 5 (some z) none n:=by unfold cG; rw [if_pos h,if_neg (by omega)]
 rw [e,cs_delM,sF_set _ hn]
 refine sF_congr fun j hj => ?_
 unfold cG
 by_cases e : j = n
 ·subst e
  rw [if_pos rfl,if_pos h,if_pos (by omega)]
  rfl
 ·rw [if_neg e]
  have : ¬ (qu = true∧j = i):=fun h' => e (by omega)
  rw [if_neg this,if_neg this]
def cM (qu : Bool) (i j : Nat) : Int:=if qu = true∧j = i then 6 else 5
theorem cM_bd (j : Nat) : 5 ≤ cM qu i j∧cM qu i j ≤ 6:=by unfold cM; split <;> omega
theorem cG_end : sF (cG qu i z 4) = sF fun j => cs (cM qu i j) none none j:=by
 refine sF_congr fun j hj => ?_
 unfold cG cM
 by_cases e : qu = true∧j = i
 ·rw [if_pos e,if_pos hj,if_pos e]
 ·rw [if_neg e,if_neg e]
theorem cG_go (hz : z.size = 330) {n j : Nat} : GO 100 (cG qu i z n j):=by
 have h1 : ∀ d,some z = some d→d.size ≤ 131072:=fun d hd => by cases hd; omega
 have h3 : ∀ d,(none : Option ByteArray) = some d→d.size ≤ 131072:=fun d hd => by cases hd
 unfold cG
 split
 ·split
  ·exact cs_go h3 h3 (by omega) (by omega) (by omega)
  ·exact cs_go h1 h3 (by omega) (by omega) (by omega)
 ·exact cs_go h3 h3 (by omega) (by omega) (by omega)
theorem cg_get {n : Nat} {e : Nat × Nat} (h : GQ w W X Bd 2 2 sv (sF (cG qu i z n)) bs) (hn : n < 4) (he : bs[n]? = some e) :
  Calls Tryz.prog 18 #[.pointer (some ⟨e.1,0,none⟩),.string ⟨#[110,97,109,101]⟩] W fun er w' => er = .returned (.tuple #[.string ⟨#[]⟩,.bool false])∧GQ w w' X Bd 2 2 sv (sF (cG qu i z n)) bs:=by
 have hX : PX W e.1 e.2 (cG qu i z n n):=h.yp.px _ e _ he (sF_at _ hn)
 have hX1 : PS W e.1 e.2 (cG qu i z n n).q (cG qu i z n n).f (cG qu i z n n).off (cG qu i z n n).m (cG qu i z n n).L:=hX
 refine (pget_any hX1 nmN (by decide)).mono ?_
 rintro er w' ⟨rfl,hb⟩
 rw [cG_none]
 exact ⟨rfl,h.bel hb⟩
theorem cg_del {n : Nat} {e : Nat × Nat} (h : GQ w W X Bd 2 2 sv (sF (cG qu i z n)) bs) (hz : z.size = 330) (hn : n < 4) (hi : qu = true∧n = i) (he : bs[n]? = some e) :
  Calls Tryz.prog 41 #[.pointer (some ⟨e.1,0,none⟩),.agg #[.int .i64 0,.int .i64 4,.string ⟨#[109,117,99,104]⟩,.string ⟨#[]⟩]] W fun er w' => (∃ v,er = .returned v)∧GQ w w' X Bd 2 2 sv (sF (cG qu i z (n + 1))) bs:=by
 have hX : PX W e.1 e.2 (cG qu i z n n):=h.yp.px _ e _ he (sF_at _ hn)
 have hgo:=cG_go (qu:=qu) (i:=i) (n:=n) (j:=n) hz
 have h100:=hgo.mt
 have hlen:=hgo.len
 refine (do_any hX 0 4 nmM ⟨#[]⟩ (by decide) (by decide) (by omega) hgo.m0 (by omega) hgo.f).mono ?_
 rintro er w' ⟨v,rfl,hA,hP,hG⟩
 have h9:=gq_turn h he (sF_at _ hn) hG hP
 rw [cG_del hn hi] at h9
 exact ⟨⟨v,rfl⟩,h9⟩
theorem old4 : sts 400 2 nmO ((shL 2 2 keptB).map some) = sF fun j => cs 2 none none j:=by
 rw [sts,shL,List.map_map,List.map_map]
 rfl
theorem cF_zero (h : qu = false) : sF (cF qu i z s 0) = sF fun j => cs 2 none none j:=by
 refine sF_congr fun j hj => ?_
 unfold cF
 rw [if_pos (Nat.zero_le _),show cz qu i z j = none from if_neg (by rw [h]; simp)]
theorem cf_set {e : Nat × Nat} (h : GQ w W X Bd 2 2 sv (sF fun j => cs 2 none none j) bs) (hz : z.size = 330) (hi : i < 4) (he : bs[i]? = some e) :
  Calls Tryz.prog 36 #[.pointer (some ⟨e.1,0,none⟩),.string ⟨#[109,117,99,104]⟩,.string z] W fun er w' => er = .returned (.int .i64 0)∧GQ w w' X Bd 2 2 sv (sF (cF true i z s 0)) bs:=by
 have hX : PX W e.1 e.2 (cs 2 none none i):=h.yp.px _ e _ he (sF_at _ hi)
 have hX1 : PS W e.1 e.2 400 0 false 2 (LB none none i):=hX
 have hf : fcode nmM z = 0:=by unfold fcode; rw [if_pos nmM_may,if_pos (by omega)]
 refine (set_any hX1 nmM z (by decide) (by unfold maxLen; omega) (Nat.le_trans LB_len (by omega))).mono ?_
 rintro er w' ⟨rfl,hP,hG⟩
 rw [setL,if_pos hf,LB_layM] at hP
 have hX6 : PX w' e.1 e.2 (cs 2 (some z) none i):=hP
 have h9:=gq_turn h he (sF_at _ hi) hG hX6
 refine ⟨by rw [hf],?_⟩
 have e9 : (sF fun j => cs 2 none none j).set i (cs 2 (some z) none i) = sF (cF true i z s 0):=by
  rw [sF_set _ hi]
  refine sF_congr fun j hj => ?_
  unfold cF
  rw [if_pos (Nat.zero_le j)]
  by_cases e : j = i
  ·rw [if_pos e,show cz true i z j = some z from if_pos ⟨rfl,e⟩,e]
  ·rw [if_neg e,show cz true i z j = none from if_neg (fun h => e h.2)]
 rw [e9] at h9
 exact h9
theorem gf_put {F F' : Nat→SS} {L : List QT} (h : GQ w W X Bd 2 2 sv (sF F) bs) (hgd : GD 100 (sF F)) (ht1 : (putP 2 2 nmN x kPut).tr (sF F) = L) (ht2 : (putP 2 2 nmN x kPut).res (sF F) = ⟨cc,0,[],[]⟩) (ht3 : ySs (sF F) L = sF F') (hx : x.size ≤ 65536) (hL : L.length ≤ 100) (hq : ∀ q ∈ L,q.n.size ≤ maxLen∧q.d.size ≤ maxLen) :
  Calls Tryz.prog 24 #[.agg #[.int .i64 2,.int .i64 2],.string ⟨#[110,97,109,101]⟩,.string x] W fun e w1 => ∃ b2,e = .returned (.pointer (some ⟨b2,0,none⟩))∧Hid (Calls Tryz.prog 33 #[.pointer (some ⟨b2,0,none⟩),sv] w1 fun e w2 => ∃ ai ci at_ ct,e = .returned (.tuple #[.agg #[.int .i64 cc,.string ⟨#[]⟩,.int .i64 0,.slice ai 0 ci,.slice at_ 0 ct,.slice none 0 0,.slice none 0 0],.bool true]) ∧
   Hid (∀ W3,W3 = w2.alloc (.cells #[.int .i64 cc,.string ⟨#[]⟩,.int .i64 0,.slice ai 0 ci,.slice at_ 0 ct,.slice none 0 0,.slice none 0 0] 63)→GQ w W3 X Bd 2 2 sv (sF F') bs∧RQ9 W W3 ⟨cc,0,[],[]⟩ bs (.slice ai 0 ci) (.slice at_ 0 ct) w2.heap.size)):=by
 refine (gq_put (nm:=nmN) h (BW.start W) (by decide) (by decide) (by omega)).mono ?_
 rintro e w1 ⟨b2,rfl,hJ,hk⟩
 refine ⟨b2,rfl,?_⟩
 refine (gq_run (g:=100) h hJ.out hgd ht1 ht2 ht3 (by omega) hq (by simp) (by simp)).mono ?_
 rintro e w2 ⟨ai,ci,at_,ct,rfl,hR,_⟩
 exact ⟨ai,ci,at_,ct,rfl,fun W3 hW => rq_of h hR.out hW⟩
end
end Go.Proofs.YtagijldedngcoaaGreatDoor

namespace Go.Proofs.YtagijldedngcoaaGreatDoor
open Go.RowKit Go.Lib Go.Maps
section
variable {P : Program} {md : Region.Mode} {ops : Array Oper} {Q : Exit→Act→World→Prop}
theorem AnyZ.two {S : World→Prop} {z i j : Nat} {oi oj : Oper} {f : Nat} {lis : Array Bool} {a : Act} {w : World} (hr : Region.ready md ops lis = [i,j]) (hi : ops[i]? = some oi) (hj : ops[j]? = some oj)
  (h1 : ∀ K' : Act→World→Prop,Shut (∀ a w,(i ≠ z→S w)→((i ≠ z→S w)→AnyZ P md ops Q S z f (lis.setIfInBounds i true) a w)→K' a w)→if Region.wanted oi (yielded ops a.tmps) = true then Oper.wp P oi a w K' Q else K' (a.put oi.dst undef) w)
  (h2 : ∀ K' : Act→World→Prop,Shut (∀ a w,(j ≠ z→S w)→((j ≠ z→S w)→AnyZ P md ops Q S z f (lis.setIfInBounds j true) a w)→K' a w)→if Region.wanted oj (yielded ops a.tmps) = true then Oper.wp P oj a w K' Q else K' (a.put oj.dst undef) w) :
  AnyZ P md ops Q S z (f + 1) lis a w:=by
 refine ⟨fun h0 => (by rw [hr] at h0; cases h0),fun t ht => ?_⟩
 rw [hr] at ht
 have : t = i ∨ t = j:=by simpa using ht
 rcases this with rfl | rfl
 ·exact wpOp_step hi fun K' hK => h1 K' fun a w hS hW => hK a w ⟨hS,hW hS⟩
 ·exact wpOp_step hj fun K' hK => h2 K' fun a w hS hW => hK a w ⟨hS,hW hS⟩
end
end Go.Proofs.YtagijldedngcoaaGreatDoor

namespace Go.Proofs.YtagijldedngcoaaGreatDoor
open Go.RowKit Go.Lib Go.Maps
section
variable {w w6 W : World} {X b b2 q : Nat} {sv : Value} {bs : List (Nat × Nat)} {z : Option Nat}
theorem sum_at {B : Nat} {s : ByteArray} (hL : Zq.Sh.Laid W) (hB : B < W.heap.size) (hc : W.cell? ⟨B,0,none⟩ = some (.string s)) (hs : s.size ≤ 1000000) :
  Calls Tryz.prog 37 #[.slice (some ⟨B,0,none⟩) 1 1] W fun e w' => e = .returned (.string (Zq.bs (Zq.Sh.digest s.data.toList)))∧Below W.heap.size W w':=by
 have hp : Zq.Sh.Pieces W (.slice (some ⟨B,0,none⟩) 1 1) [s]:=⟨_,1,rfl,.inr ⟨B,0,rfl,hB,fun k hk => by
  have : k = 0:=by simpa using hk
  subst this
  exact hc⟩⟩
 refine (Zq.Sh.sum_any hL hp (by simp) (by simp [Zq.Sh.joined]; omega)).mono ?_
 rintro e w1 ⟨rfl,hb1⟩
 rw [Zq.joined_one]
 exact ⟨rfl,hb1⟩
abbrev KC2 (X : Nat) (W : World) : Prop:=W.cell? ⟨X,0,none⟩ = some (.int .i64 2)∧W.cell? ⟨X,1,none⟩ = some (.int .i64 1)
theorem KC2.of (h : W.heap[X]? = some (.cells #[.int .i64 2,.int .i64 1] 27 (0,0))) : KC2 X W:=⟨by simp [World.cell?,h],by simp [World.cell?,h]⟩
theorem W6.kc (h : W6 w w6 X b sv bs) (hb : Below w6.heap.size w6 W) : KC2 X W:=KC2.of ((hb.block X (lt_of_block h.kt)).trans h.kt)
theorem w_sum {B : Nat} (h : W6 w w6 X b sv bs) (hz : BW w6 W z) (hB : B < W.heap.size) (hc : W.cell? ⟨B,0,none⟩ = some (.string ⟨#[97,98,99]⟩)) :
  Calls Tryz.prog 37 #[.slice (some ⟨B,0,none⟩) 1 1] W fun e w7 => e = .returned (.string wD)∧Hid (BW w6 w7 z)∧KC2 X w7:=by
 refine (sum_at (h.la.below hz.be h.la.size) hB hc (by decide)).mono ?_
 rintro e w7 ⟨rfl,hb⟩
 have:=hz.bel hb
 exact ⟨rfl,this,h.kc this.be⟩
theorem w_job (h : W6 w w6 X b sv bs) (hz : BW w6 W z) :
  Calls Tryz.prog 25 #[.agg #[.int .i64 2,.int .i64 1],.string ⟨#[97]⟩,.string wD] W fun e w' => ∃ b2,e = .returned (.pointer (some ⟨b2,0,none⟩))∧Hid (JW w6 w' b2 (getP 2 1 wA wD kGet) z)∧KC2 X w':=by
 have hox : OXGet 2 1 wA wD (getP 2 1 wA wD kGet):=ox_get (K:=2) (M:=1) (by decide) (by decide)
 refine (ogetjob (w:=W) hox (h.la.below hz.be h.la.size)).mono ?_
 intro e w' hM
 obtain ⟨b2,rfl,hJ⟩:=JW.of hM hz
 exact ⟨b2,rfl,hJ,h.kc hJ.out.be⟩
theorem w_run (h : W6 w w6 X b sv bs) (hJ : JW w6 W b2 (getP 2 1 wA wD kGet) z) :
  Calls Tryz.prog 33 #[.pointer (some ⟨b2,0,none⟩),sv] W fun e w9 => ∃ ai ci at_ ct,e = .returned (.tuple #[.agg #[.int .i64 0,.string ⟨#[]⟩,.int .i64 0,.slice ai 0 ci,.slice at_ 1 ct,.slice none 0 0,.slice none 0 0],.bool true])∧Hid (RW w6 w9 b2 ⟨0,0,[],[wT]⟩ 3 (fun i => X < i∧i < b) sv (sts 1000 3 wA wO) bs (.slice ai 0 ci) (.slice at_ 1 ct) z)∧KC2 X w9:=by
 obtain ⟨ids,tx,hj⟩:=h.jb
 have hbl:=hj.lt
 have hk : kGet ((fnd 2 1 wD (wO.map gans)).d,(fnd 2 1 wD (wO.map gans)).e) = .fin ⟨0,0,[],[wT]⟩:=by
  rw [wD,wF]; rfl
 obtain ⟨t1,t2,t3⟩:=getP_sts (K:=2) (M:=1) (q:=1000) (m:=2) (nm:=wA) (O:=wO) rfl hk
 have hX:=lt_of_block h.kt
 have hw2:=h.w2
 have hxx:=h.xx
 refine (go_run (g:=2) hJ h.yp (fun i hi => by omega) (sts_gd (by decide) (by decide) (by decide) (by decide) (fun d hd => by
  have : d = Zq.shB 2 1 wT 0 ∨ d = Zq.shB 2 1 wT 2:=by simpa [wO] using hd
  rcases this with rfl | rfl <;> (rw [shB_size (by decide)]; decide))) t1 t2 t3 (by rw [aq_len]; decide) (by
   intro q hq
   obtain ⟨i,_,rfl⟩:=List.mem_map.1 hq
   exact ⟨show wA.size ≤ maxLen by decide,show (⟨#[]⟩ : ByteArray).size ≤ maxLen by decide⟩) (by simp) (by simp) h.la).mono ?_
 rintro e w9 ⟨ai,ci,at_,ct,rfl,hR⟩
 rw [aq_len] at hR
 refine ⟨ai,ci,at_,ct,rfl,hR,KC2.of ?_⟩
 rw [hR.out.gs.block X hX (fun hi => by have:=h.yp.qs hi; omega)]
 exact h.kt
theorem w_store {ids tx : Value} (h : W6 w w6 X b sv bs) (hR : RW w6 W b2 ⟨0,0,[],[wT]⟩ 3 (fun i => X < i∧i < b) sv (sts 1000 3 wA wO) bs ids tx (some q)) :
  ∃ V,(Instr.storeAt 63 (.pointer (some ⟨q,0,none⟩)) (.agg #[.int .i64 0,.string ⟨#[]⟩,.int .i64 0,ids,tx,.slice none 0 0,.slice none 0 0])).run Tryz.prog W = .ok () V∧Hid (RV w6 V b2 ⟨0,0,[],[wT]⟩ 3 (fun i => X < i∧i < b) sv (sts 1000 3 wA wO) bs ids tx q)∧KC2 X V:=by
 obtain ⟨_,_,hj⟩:=h.jb
 have hbl:=hj.lt
 have hX:=lt_of_block h.kt
 have hw2:=h.w2
 have hxx:=h.xx
 obtain ⟨V,h1,h2⟩:=hR.store (fun i hi => by omega) (by omega)
 refine ⟨V,h1,h2,KC2.of ?_⟩
 rw [h2.out.gs.block X hX (fun hi => by have:=h.yp.qs hi; omega)]
 exact h.kt
theorem w_end {ai at_ : Option Addr} {ci ct : Nat} {V : World} (h : W6 w w6 X b sv bs) (hV : RV w6 V b2 ⟨0,0,[],[wT]⟩ 3 (fun i => X < i∧i < b) sv (sts 1000 3 wA wO) bs (.slice ai 0 ci) (.slice at_ 1 ct) q) :
  ∃ gt ot,at_ = some ⟨gt,ot,none⟩∧V.cell? ⟨q,0,none⟩ = some (.int .i64 0)∧V.cell? ⟨q,4,none⟩ = some (.slice (some ⟨gt,ot,none⟩) 1 ct)∧V.cell? ⟨gt,ot,none⟩ = some (.string ⟨#[97,98,99]⟩)∧Hid (Calls Tryz.prog 31 #[.pointer (some ⟨b,0,none⟩)] V fun e w' => e = .returned (.int .i64 6)∧w' = V)∧Hid (Below w.heap.size w V):=by
 obtain ⟨ids,tx,hj⟩:=h.jb
 obtain ⟨a,c,e,_,hl | ⟨gt,ot,ea,hr,hg,hG⟩⟩:=hV.tt.ls (r:=fun i => (Value.slice at_ 1 ct).ownBlock = some i) fun i hi => hi
 ·cases hl
 injection e with e1 _ _
 subst e1
 subst ea
 have hxx:=h.xx
 refine ⟨gt,ot,rfl,hV.r7.cell 0,hV.r7.cell 4,?_,steps_any (hj.gs hV.gs fun hi => by have:=h.yp.qs hi; omega),hV.gs.below h.be h.be.size fun i hi => by have:=h.yp.qs hi; omega⟩
 have:=hG 0 wT rfl 0 _ rfl
 simpa [wT] using this
end
end Go.Proofs.YtagijldedngcoaaGreatDoor

namespace Go.Proofs.YtagijldedngcoaaGreatDoor
open Go.RowKit Go.Lib Go.Maps
theorem works10 {w : World} (hLw : Zq.Sh.Laid w) : Calls Tryz.prog 12 #[] w fun e w' => e = .returned (.bool true)∧Below w.heap.size w w':=by
 obtain ⟨U,hU⟩ : ∃ U,U = w.alloc (.cells #[.int .i64 2,.int .i64 1] 27):=⟨_,rfl⟩
 obtain ⟨X,hX⟩ : ∃ X,X = w.heap.size:=⟨_,rfl⟩
 have hB : Below w.heap.size w U:=by rw [hU]; exact (Below.refl _ _).alloc (Nat.le_refl _) _
 have hk : U.heap[X]? = some (.cells #[.int .i64 2,.int .i64 1] 27 (0,0)):=by rw [hU,hX]; exact heap_alloc_new w _
 have hUs : U.heap.size = X + 1:=by rw [hU,hX]; simp
 have y0 : U.cell? ⟨X,0,none⟩ = some (.int .i64 2):=by simp [World.cell?,hk]
 have y1 : U.cell? ⟨X,1,none⟩ = some (.int .i64 1):=by simp [World.cell?,hk]
 have HY : Hid (Calls Tryz.prog 32 #[.agg #[.int .i64 2,.int .i64 1],.int .i64 1000] U fun e w1 => ∃ a c g o,e = .returned (.slice (some ⟨g,o,none⟩) 3 c)∧a = some g∧Hid (∃ bs,W1 w w1 X (.slice (some ⟨g,o,none⟩) 3 c) bs)):=by
  have hy : Calls Tryz.prog 32 #[.agg #[.int .i64 2,.int .i64 1],.int .i64 1000] U fun e w' => ∃ a c bs,e = .returned (.slice a 3 c)∧YB 1000 U w' (.slice a 3 c) bs∧bs.length = 3:=yard_any 2 1 1000 (by decide) (by decide) (by decide) U
  refine hy.mono ?_
  rintro e w1 ⟨a,c,bs,rfl,hY,hbl⟩
  have hyp:=hY.yp
  rw [hbl] at hyp
  obtain ⟨a',c',e0,h0 | ⟨g0,o0,ea,_⟩⟩:=hyp.rp
  ·have:=congrArg List.length h0
   simp [hbl] at this
  obtain ⟨rfl,-,rfl⟩ : a = a'∧_∧c = c':=by simpa using e0
  subst ea
  have hs:=hY.be.size
  have hbe : Below w.heap.size w w1:=hB.trans (hY.be.mono hB.size)
  refine ⟨some g0,c,g0,o0,rfl,rfl,bs,?_,(hY.be.block X (by omega)).trans hk,hbe,hLw.below hbe hLw.size,by omega,hLw.size⟩
  rw [← sts_new]
  exact hyp.mono fun i hi => ⟨by omega,hi.2⟩
 have HU:=hide hU
 have HX:=hide hX
 clear hB hk hUs hU hX hLw
 go_enter Tryz.func12,Tryz.ntmps12
 go_upto_region 2 with fail
 rw [← HU.out,← HX.out]
 go_wp2_with fail
 refine HY.out.mono ?_
 rintro e w1 ⟨_,c,g,o,rfl,_,hW1⟩
 have k1:=sl_eq Tryz.underlying28
 obtain ⟨bs,h1⟩:=hW1.out
 have z0 : w1.cell? ⟨X,0,none⟩ = some (.int .i64 2):=by simp [World.cell?,h1.kt]
 have z1 : w1.cell? ⟨X,1,none⟩ = some (.int .i64 1):=by simp [World.cell?,h1.kt]
 have HP:=hide (work_put h1)
 have H1:=hide h1
 clear h1 hW1
 go_upto_region 5 with fail
 go_wp2_with fail
 refine HP.out.mono ?_
 rintro e w3 ⟨b,rfl,hM⟩
 have HR:=hide (work_run1 H1.out hM)
 clear hM
 go_wp2_with fail
 refine HR.out.mono ?_
 rintro e w4 ⟨ai,ci,at_,ct,rfl,h4⟩
 obtain ⟨W5,hW5⟩ : ∃ W5,W5 = w4.alloc (.cells #[.int .i64 0,.string ⟨#[]⟩,.int .i64 0,.slice ai 0 ci,.slice at_ 0 ct,.slice none 0 0,.slice none 0 0] 63):=⟨_,rfl⟩
 have hB5 : Below w4.heap.size w4 W5:=by rw [hW5]; exact (Below.refl _ _).alloc (Nat.le_refl _) _
 obtain ⟨g',o',c',e1,hsv,hcl,hwi⟩:=work_wipe (h4.out.bel hB5)
 injection hsv with q1 _ q3
 injection q1 with q1
 injection q1 with q1 q2 _
 subst q1 q2 q3
 have HW:=hide hwi
 have HW5:=hide hW5
 clear hB5 hW5 hwi h4
 go_upto_region 7 with fail
 rw [← HW5.out]
 go_wp2_with fail
 refine HW.out.mono ?_
 rintro e w6 ⟨rfl,h6⟩
 have z0' : w6.cell? ⟨X,0,none⟩ = some (.int .i64 2):=by simp [World.cell?,h6.out.kt]
 have z1' : w6.cell? ⟨X,1,none⟩ = some (.int .i64 1):=by simp [World.cell?,h6.out.kt]
 have HG1 : Hid (∀ (W7 : World) (z : Option Nat),Hid (BW w6 W7 z)→Calls Tryz.prog 25 #[.agg #[.int .i64 2,.int .i64 1],.string ⟨#[97]⟩,.string wD] W7 fun e w' => ∃ b2,e = .returned (.pointer (some ⟨b2,0,none⟩))∧Hid (JW w6 w' b2 (getP 2 1 wA wD kGet) z)∧KC2 X w'):=fun W7 z hz => w_job h6.out hz.out
 have HG2 : Hid (∀ (W8 : World) (b2 : Nat) (z : Option Nat),Hid (JW w6 W8 b2 (getP 2 1 wA wD kGet) z)→Calls Tryz.prog 33 #[.pointer (some ⟨b2,0,none⟩),.slice (some ⟨g,o,none⟩) 3 c] W8 fun e w9 => ∃ ai ci at_ ct,e = .returned (.tuple #[.agg #[.int .i64 0,.string ⟨#[]⟩,.int .i64 0,.slice ai 0 ci,.slice at_ 1 ct,.slice none 0 0,.slice none 0 0],.bool true])∧Hid (RW w6 w9 b2 ⟨0,0,[],[wT]⟩ 3 (fun i => X < i∧i < b) (.slice (some ⟨g,o,none⟩) 3 c) (sts 1000 3 wA wO) bs (.slice ai 0 ci) (.slice at_ 1 ct) z)∧KC2 X w9):=fun W8 b2 z hz => w_run h6.out hz.out
 have HS0 : Hid (∀ (B : Nat) (W7 : World) (z : Option Nat),BW w6 W7 z→B < W7.heap.size→W7.cell? ⟨B,0,none⟩ = some (.string ⟨#[97,98,99]⟩)→Calls Tryz.prog 37 #[.slice (some ⟨B,0,none⟩) 1 1] W7 fun e w7 => e = .returned (.string wD)∧Hid (BW w6 w7 z)∧KC2 X w7):=fun B W7 z hz hB hc => w_sum h6.out hz hB hc
 have HG3 : Hid (∀ (W : World) (b2 : Nat) (ai at_ : Option Addr) (ci ct q : Nat),Hid (RW w6 W b2 ⟨0,0,[],[wT]⟩ 3 (fun i => X < i∧i < b) (.slice (some ⟨g,o,none⟩) 3 c) (sts 1000 3 wA wO) bs (.slice ai 0 ci) (.slice at_ 1 ct) (some q))→∃ V,(Instr.storeAt 63 (.pointer (some ⟨q,0,none⟩)) (.agg #[.int .i64 0,.string ⟨#[]⟩,.int .i64 0,.slice ai 0 ci,.slice at_ 1 ct,.slice none 0 0,.slice none 0 0])).run Tryz.prog W = .ok () V∧Hid (RV w6 V b2 ⟨0,0,[],[wT]⟩ 3 (fun i => X < i∧i < b) (.slice (some ⟨g,o,none⟩) 3 c) (sts 1000 3 wA wO) bs (.slice ai 0 ci) (.slice at_ 1 ct) q)∧KC2 X V):=fun W b2 ai at_ ci ct q hR => w_store h6.out hR.out
 have HE6 : Hid (W6 w w6 X b (.slice (some ⟨g,o,none⟩) 3 c) bs):=h6
 have hXl : X < w6.heap.size:=lt_of_block h6.out.kt
 have hX2 : KC2 X w6:=h6.out.kc (Below.refl _ _)
 have bt : BW w6 (w6.alloc (.cells #[.string ⟨#[97,98,99]⟩] 9)) none:=(BW.start w6).bel ((Below.refl _ _).alloc (Nat.le_refl _) _)
 have bz : BW w6 (w6.alloc zR7) (some w6.heap.size):=(BW.start w6).al
 have HT1 : Hid (Calls Tryz.prog 37 #[.slice (some ⟨w6.heap.size,0,none⟩) 1 1] (w6.alloc (.cells #[.string ⟨#[97,98,99]⟩] 9)).drew fun e w7 => e = .returned (.string wD)∧Hid (BW w6 w7 none)∧KC2 X w7):=by
  have h9 : (w6.alloc (.cells #[.string ⟨#[97,98,99]⟩] 9)).drew.heap[w6.heap.size]? = some (.cells #[.string ⟨#[97,98,99]⟩] 9 (0,0)):=heap_alloc_new w6 _
  exact HS0.out _ _ _ bt.drew (lt_of_block h9) (cell1 h9).1
 have HT3 : Hid (Calls Tryz.prog 37 #[.slice (some ⟨w6.heap.size,0,none⟩) 1 1] ((w6.alloc (.cells #[.string ⟨#[97,98,99]⟩] 9)).alloc zR7).drew fun e w7 => e = .returned (.string wD)∧Hid (BW w6 w7 (some (w6.heap.size + 1)))∧KC2 X w7):=by
  have h8 : (w6.alloc (.cells #[.string ⟨#[97,98,99]⟩] 9)).heap[w6.heap.size]? = some (.cells #[.string ⟨#[97,98,99]⟩] 9 (0,0)):=heap_alloc_new w6 _
  have hb9 : Below (w6.alloc (.cells #[.string ⟨#[97,98,99]⟩] 9)).heap.size (w6.alloc (.cells #[.string ⟨#[97,98,99]⟩] 9)) ((w6.alloc (.cells #[.string ⟨#[97,98,99]⟩] 9)).alloc zR7):=(Below.refl _ _).alloc (Nat.le_refl _) _
  have h9 : ((w6.alloc (.cells #[.string ⟨#[97,98,99]⟩] 9)).alloc zR7).drew.heap[w6.heap.size]? = some (.cells #[.string ⟨#[97,98,99]⟩] 9 (0,0)):=(hb9.block _ (lt_of_block h8)).trans h8
  have hz:=bt.al
  have e : (w6.alloc (.cells #[.string ⟨#[97,98,99]⟩] 9)).heap.size = w6.heap.size + 1:=by simp
  rw [e] at hz
  exact HS0.out _ _ _ hz.drew (lt_of_block h9) (cell1 h9).1
 have HT2 : Hid (Calls Tryz.prog 37 #[.slice (some ⟨w6.heap.size + 1,0,none⟩) 1 1] ((w6.alloc zR7).alloc (.cells #[.string ⟨#[97,98,99]⟩] 9)).drew fun e w7 => e = .returned (.string wD)∧Hid (BW w6 w7 (some w6.heap.size))∧KC2 X w7):=by
  have e : (w6.alloc zR7).heap.size = w6.heap.size + 1:=by simp
  have h9 : ((w6.alloc zR7).alloc (.cells #[.string ⟨#[97,98,99]⟩] 9)).drew.heap[w6.heap.size + 1]? = some (.cells #[.string ⟨#[97,98,99]⟩] 9 (0,0)):=by
   rw [← e]
   exact heap_alloc_new (w6.alloc zR7) _
  exact HS0.out _ _ _ (bz.bel ((Below.refl _ _).alloc (Nat.le_refl _) _)).drew (lt_of_block h9) (cell1 h9).1
 clear z0 z1 y0 y1 HP H1 HR HW HW5 hcl HY HU HX h6 HS0 bt bz
 obtain ⟨hx0,hx1⟩:=hX2
 have HAL : Hid (∀ W,Below w6.heap.size w6 W→KC2 X (W.alloc zR7)):=fun W hb => HE6.out.kc (hb.alloc hb.size _)
 have HAM : Hid (∀ W,Gs (Qs bs) w6 W→KC2 X (W.alloc zR7)):=fun W hg => by
  have hbz : Below W.heap.size W (W.alloc zR7):=(Below.refl _ _).alloc (Nat.le_refl _) _
  have h0:=HE6.out
  exact KC2.of (((hg.bel hbz).block X (lt_of_block h0.kt) (fun hi => by have:=h0.yp.qs hi; omega)).trans h0.kt)
 have bb0:=Below.refl w6.heap.size w6
 have HA_t : Hid (KC2 X (w6.alloc (.cells #[.string ⟨#[97,98,99]⟩] 9)).drew):=(HE6.out.kc (bb0.alloc (Nat.le_refl _) _) : KC2 X (w6.alloc (.cells #[.string ⟨#[97,98,99]⟩] 9)))
 have HA_z : Hid (KC2 X (w6.alloc zR7).drew):=(HE6.out.kc (bb0.alloc (Nat.le_refl _) _) : KC2 X (w6.alloc zR7))
 have HA_tz : Hid (KC2 X ((w6.alloc (.cells #[.string ⟨#[97,98,99]⟩] 9)).alloc zR7).drew):=(HE6.out.kc ((bb0.alloc (Nat.le_refl _) _).alloc (by simp) _) : KC2 X ((w6.alloc (.cells #[.string ⟨#[97,98,99]⟩] 9)).alloc zR7))
 have HA_zt : Hid (KC2 X ((w6.alloc zR7).alloc (.cells #[.string ⟨#[97,98,99]⟩] 9)).drew):=(HE6.out.kc ((bb0.alloc (Nat.le_refl _) _).alloc (by simp) _) : KC2 X ((w6.alloc zR7).alloc (.cells #[.string ⟨#[97,98,99]⟩] 9)))
 clear bb0
 have hHeld0 : KC2 X w6.drew:=⟨hx0,hx1⟩
 go_upto_region 8 with fail
 refine AnyZ.start (S:=fun w' => w'.cell? ⟨X,0,none⟩ = some (.int .i64 2)∧w'.cell? ⟨X,1,none⟩ = some (.int .i64 1)) (z:=99) (by kernel_rfl) ?_
 refine AnyZ.take (i:=0) (d:=26) (v:=.agg #[.int .i64 2,.int .i64 1]) rfl rfl (by kernel_rfl) (fun _ _ _ h => h) (Or.inl ⟨by rfl,fun w' hSw => ?_⟩) hHeld0 ?_
 ·obtain ⟨_,_⟩:=hSw
  go_simp
 try simp only [List.setIfInBounds_toArray,List.set_cons_zero,List.set_cons_succ]
 refine AnyZ.take (i:=4) (d:=30) (v:=.slice (some ⟨g,o,none⟩) 3 c) rfl rfl (by kernel_rfl) (fun _ _ _ h => h) (Or.inl ⟨by rfl,fun w' hSw => ?_⟩) hHeld0 ?_
 ·obtain ⟨_,_⟩:=hSw
  go_simp
 try simp only [List.setIfInBounds_toArray,List.set_cons_zero,List.set_cons_succ]
 refine AnyZ.two (i:=1) (j:=9) (by kernel_rfl) rfl rfl (fun K hK => ?_) (fun K hK => ?_)
 ·go_simp
  refine hK.out _ _ (fun _ => HA_t.out) (fun _ => ?_)
  clear hK K
  try simp only [Act.put,List.setIfInBounds_toArray,List.set_cons_zero,List.set_cons_succ]
  refine AnyZ.two (i:=2) (j:=9) (by kernel_rfl) rfl rfl (fun K hK => ?_) (fun K hK => ?_)
  ·go_simp
   refine HT1.out.mono ?_
   rintro e w7 ⟨rfl,h7,hk7⟩
   refine hK.out _ _ (fun _ => hk7) (fun _ => ?_)
   clear hK K
   try simp only [Act.put,List.setIfInBounds_toArray,List.set_cons_zero,List.set_cons_succ]
   refine AnyZ.two (i:=3) (j:=9) (by kernel_rfl) rfl rfl (fun K hK => ?_) (fun K hK => ?_)
   ·go_simp
    refine (HG1.out _ _ h7).mono ?_
    rintro e w8 ⟨b2,rfl,h8,hk8⟩
    refine hK.out _ _ (fun _ => hk8) (fun _ => ?_)
    clear hK K
    try simp only [Act.put,List.setIfInBounds_toArray,List.set_cons_zero,List.set_cons_succ]
    refine AnyZ.two (i:=5) (j:=9) (by kernel_rfl) rfl rfl (fun K hK => ?_) (fun K hK => ?_)
    ·go_simp
     refine (HG2.out _ _ _ h8).mono ?_
     rintro e w9 ⟨ai,ci,at_,ct,rfl,h9,hk9⟩
     refine hK.out _ _ (fun _ => hk9) (fun _ => ?_)
     clear hK K
     try simp only [Act.put,List.setIfInBounds_toArray,List.set_cons_zero,List.set_cons_succ]
     have hHeld9 : KC2 X _:=hk9
     refine AnyZ.take (i:=6) (d:=25) (v:=.tuple #[.agg #[.int .i64 0,.string ⟨#[]⟩,.int .i64 0,.slice ai 0 ci,.slice at_ 1 ct,.slice none 0 0,.slice none 0 0],.bool true]) rfl rfl (by kernel_rfl) (fun _ _ _ h => h) (Or.inl ⟨by rfl,fun w' hSw => ?_⟩) hHeld9 ?_
     ·obtain ⟨_,_⟩:=hSw
      go_simp
     try simp only [List.setIfInBounds_toArray,List.set_cons_zero,List.set_cons_succ]
     refine AnyZ.take (i:=7) (d:=32) (v:=.agg #[.int .i64 0,.string ⟨#[]⟩,.int .i64 0,.slice ai 0 ci,.slice at_ 1 ct,.slice none 0 0,.slice none 0 0]) rfl rfl (by kernel_rfl) (fun _ _ _ h => h) (Or.inl ⟨by rfl,fun w' hSw => ?_⟩) hHeld9 ?_
     ·obtain ⟨_,_⟩:=hSw
      go_simp
     try simp only [List.setIfInBounds_toArray,List.set_cons_zero,List.set_cons_succ]
     refine AnyZ.take (i:=8) (d:=33) (v:=.bool true) rfl rfl (by kernel_rfl) (fun _ _ _ h => h) (Or.inl ⟨by rfl,fun w' hSw => ?_⟩) hHeld9 ?_
     ·obtain ⟨_,_⟩:=hSw
      go_simp
     try simp only [List.setIfInBounds_toArray,List.set_cons_zero,List.set_cons_succ]
     refine AnyZ.one (i:=9) (by kernel_rfl) rfl fun K hK => ?_
     go_simp
     refine hK.out _ _ (fun _ => (HAM.out _ h9.out.gs)) (fun _ => ?_)
     clear hK K
     try simp only [Act.put,List.setIfInBounds_toArray,List.set_cons_zero,List.set_cons_succ]
     have hHeld:=hk9
     obtain ⟨V,hV,HV,hkV⟩:=HG3.out _ _ _ _ _ _ _ (hide h9.out.al)
     refine AnyZ.one (i:=10) (by kernel_rfl) rfl fun K hK => ?_
     refine step_store_run rfl 63 _ _ rfl _ _ rfl rfl V hV ?_
     refine hK.out _ _ (fun _ => hkV) (fun _ => ?_)
     clear hK K
     try simp only [Act.put]
     refine AnyZ.take (i:=11) (d:=7) (v:=.bool true) rfl rfl (by kernel_rfl) (fun _ _ _ h => h) (Or.inl ⟨by rfl,fun w' hSw => ?_⟩) hkV ?_
     ·obtain ⟨_,_⟩:=hSw
      go_simp
     try simp only [List.setIfInBounds_toArray]
     refine AnyZ.done (by kernel_rfl) ?_ _
     obtain ⟨gt,ot,rfl,r0,r4,r5,HSt,HB⟩:=w_end HE6.out HV.out
     clear HG1 HG2 HG3 HT1 HT2 HT3 HA_t HA_z HA_tz HA_zt HAL HAM hV HV h9 h8 h7 hHeld
     go_wp2_with fail
     refine HSt.out.mono ?_
     rintro e w' ⟨rfl,rfl⟩
     go_wp2
     go_ret
     exact ⟨rfl,HB.out⟩
    ·go_simp
     refine hK.out _ _ (fun _ => (HAL.out _ h8.out.be)) (fun _ => ?_)
     clear hK K
     try simp only [Act.put,List.setIfInBounds_toArray,List.set_cons_zero,List.set_cons_succ]
     refine AnyZ.one (i:=5) (by kernel_rfl) rfl fun K hK => ?_
     go_simp
     refine (HG2.out _ _ _ (hide h8.out.al)).mono ?_
     rintro e w9 ⟨ai,ci,at_,ct,rfl,h9,hk9⟩
     refine hK.out _ _ (fun _ => hk9) (fun _ => ?_)
     clear hK K
     try simp only [Act.put,List.setIfInBounds_toArray,List.set_cons_zero,List.set_cons_succ]
     have hHeld : KC2 X _:=hk9
     refine AnyZ.take (i:=6) (d:=25) (v:=.tuple #[.agg #[.int .i64 0,.string ⟨#[]⟩,.int .i64 0,.slice ai 0 ci,.slice at_ 1 ct,.slice none 0 0,.slice none 0 0],.bool true]) rfl rfl (by kernel_rfl) (fun _ _ _ h => h) (Or.inl ⟨by rfl,fun w' hSw => ?_⟩) hHeld ?_
     ·obtain ⟨_,_⟩:=hSw
      go_simp
     try simp only [List.setIfInBounds_toArray,List.set_cons_zero,List.set_cons_succ]
     refine AnyZ.take (i:=7) (d:=32) (v:=.agg #[.int .i64 0,.string ⟨#[]⟩,.int .i64 0,.slice ai 0 ci,.slice at_ 1 ct,.slice none 0 0,.slice none 0 0]) rfl rfl (by kernel_rfl) (fun _ _ _ h => h) (Or.inl ⟨by rfl,fun w' hSw => ?_⟩) hHeld ?_
     ·obtain ⟨_,_⟩:=hSw
      go_simp
     try simp only [List.setIfInBounds_toArray,List.set_cons_zero,List.set_cons_succ]
     refine AnyZ.take (i:=8) (d:=33) (v:=.bool true) rfl rfl (by kernel_rfl) (fun _ _ _ h => h) (Or.inl ⟨by rfl,fun w' hSw => ?_⟩) hHeld ?_
     ·obtain ⟨_,_⟩:=hSw
      go_simp
     try simp only [List.setIfInBounds_toArray,List.set_cons_zero,List.set_cons_succ]
     obtain ⟨V,hV,HV,hkV⟩:=HG3.out _ _ _ _ _ _ _ h9
     refine AnyZ.one (i:=10) (by kernel_rfl) rfl fun K hK => ?_
     refine step_store_run rfl 63 _ _ rfl _ _ rfl rfl V hV ?_
     refine hK.out _ _ (fun _ => hkV) (fun _ => ?_)
     clear hK K
     try simp only [Act.put]
     refine AnyZ.take (i:=11) (d:=7) (v:=.bool true) rfl rfl (by kernel_rfl) (fun _ _ _ h => h) (Or.inl ⟨by rfl,fun w' hSw => ?_⟩) hkV ?_
     ·obtain ⟨_,_⟩:=hSw
      go_simp
     try simp only [List.setIfInBounds_toArray]
     refine AnyZ.done (by kernel_rfl) ?_ _
     obtain ⟨gt,ot,rfl,r0,r4,r5,HSt,HB⟩:=w_end HE6.out HV.out
     clear HG1 HG2 HG3 HT1 HT2 HT3 HA_t HA_z HA_tz HA_zt HAL HAM hV HV h9 h8 h7 hHeld
     go_wp2_with fail
     refine HSt.out.mono ?_
     rintro e w' ⟨rfl,rfl⟩
     go_wp2
     go_ret
     exact ⟨rfl,HB.out⟩
   ·go_simp
    refine hK.out _ _ (fun _ => (HAL.out _ h7.out.be)) (fun _ => ?_)
    clear hK K
    try simp only [Act.put,List.setIfInBounds_toArray,List.set_cons_zero,List.set_cons_succ]
    refine AnyZ.one (i:=3) (by kernel_rfl) rfl fun K hK => ?_
    go_simp
    refine (HG1.out _ _ (hide h7.out.al)).mono ?_
    rintro e w8 ⟨b2,rfl,h8,hk8⟩
    refine hK.out _ _ (fun _ => hk8) (fun _ => ?_)
    clear hK K
    try simp only [Act.put,List.setIfInBounds_toArray,List.set_cons_zero,List.set_cons_succ]
    refine AnyZ.one (i:=5) (by kernel_rfl) rfl fun K hK => ?_
    go_simp
    refine (HG2.out _ _ _ h8).mono ?_
    rintro e w9 ⟨ai,ci,at_,ct,rfl,h9,hk9⟩
    refine hK.out _ _ (fun _ => hk9) (fun _ => ?_)
    clear hK K
    try simp only [Act.put,List.setIfInBounds_toArray,List.set_cons_zero,List.set_cons_succ]
    have hHeld : KC2 X _:=hk9
    refine AnyZ.take (i:=6) (d:=25) (v:=.tuple #[.agg #[.int .i64 0,.string ⟨#[]⟩,.int .i64 0,.slice ai 0 ci,.slice at_ 1 ct,.slice none 0 0,.slice none 0 0],.bool true]) rfl rfl (by kernel_rfl) (fun _ _ _ h => h) (Or.inl ⟨by rfl,fun w' hSw => ?_⟩) hHeld ?_
    ·obtain ⟨_,_⟩:=hSw
     go_simp
    try simp only [List.setIfInBounds_toArray,List.set_cons_zero,List.set_cons_succ]
    refine AnyZ.take (i:=7) (d:=32) (v:=.agg #[.int .i64 0,.string ⟨#[]⟩,.int .i64 0,.slice ai 0 ci,.slice at_ 1 ct,.slice none 0 0,.slice none 0 0]) rfl rfl (by kernel_rfl) (fun _ _ _ h => h) (Or.inl ⟨by rfl,fun w' hSw => ?_⟩) hHeld ?_
    ·obtain ⟨_,_⟩:=hSw
     go_simp
    try simp only [List.setIfInBounds_toArray,List.set_cons_zero,List.set_cons_succ]
    refine AnyZ.take (i:=8) (d:=33) (v:=.bool true) rfl rfl (by kernel_rfl) (fun _ _ _ h => h) (Or.inl ⟨by rfl,fun w' hSw => ?_⟩) hHeld ?_
    ·obtain ⟨_,_⟩:=hSw
     go_simp
    try simp only [List.setIfInBounds_toArray,List.set_cons_zero,List.set_cons_succ]
    obtain ⟨V,hV,HV,hkV⟩:=HG3.out _ _ _ _ _ _ _ h9
    refine AnyZ.one (i:=10) (by kernel_rfl) rfl fun K hK => ?_
    refine step_store_run rfl 63 _ _ rfl _ _ rfl rfl V hV ?_
    refine hK.out _ _ (fun _ => hkV) (fun _ => ?_)
    clear hK K
    try simp only [Act.put]
    refine AnyZ.take (i:=11) (d:=7) (v:=.bool true) rfl rfl (by kernel_rfl) (fun _ _ _ h => h) (Or.inl ⟨by rfl,fun w' hSw => ?_⟩) hkV ?_
    ·obtain ⟨_,_⟩:=hSw
     go_simp
    try simp only [List.setIfInBounds_toArray]
    refine AnyZ.done (by kernel_rfl) ?_ _
    obtain ⟨gt,ot,rfl,r0,r4,r5,HSt,HB⟩:=w_end HE6.out HV.out
    clear HG1 HG2 HG3 HT1 HT2 HT3 HA_t HA_z HA_tz HA_zt HAL HAM hV HV h9 h8 h7 hHeld
    go_wp2_with fail
    refine HSt.out.mono ?_
    rintro e w' ⟨rfl,rfl⟩
    go_wp2
    go_ret
    exact ⟨rfl,HB.out⟩
  ·go_simp
   refine hK.out _ _ (fun _ => HA_tz.out) (fun _ => ?_)
   clear hK K
   try simp only [Act.put,List.setIfInBounds_toArray,List.set_cons_zero,List.set_cons_succ]
   refine AnyZ.one (i:=2) (by kernel_rfl) rfl fun K hK => ?_
   go_simp
   refine HT3.out.mono ?_
   rintro e w7 ⟨rfl,h7,hk7⟩
   refine hK.out _ _ (fun _ => hk7) (fun _ => ?_)
   clear hK K
   try simp only [Act.put,List.setIfInBounds_toArray,List.set_cons_zero,List.set_cons_succ]
   refine AnyZ.one (i:=3) (by kernel_rfl) rfl fun K hK => ?_
   go_simp
   refine (HG1.out _ _ h7).mono ?_
   rintro e w8 ⟨b2,rfl,h8,hk8⟩
   refine hK.out _ _ (fun _ => hk8) (fun _ => ?_)
   clear hK K
   try simp only [Act.put,List.setIfInBounds_toArray,List.set_cons_zero,List.set_cons_succ]
   refine AnyZ.one (i:=5) (by kernel_rfl) rfl fun K hK => ?_
   go_simp
   refine (HG2.out _ _ _ h8).mono ?_
   rintro e w9 ⟨ai,ci,at_,ct,rfl,h9,hk9⟩
   refine hK.out _ _ (fun _ => hk9) (fun _ => ?_)
   clear hK K
   try simp only [Act.put,List.setIfInBounds_toArray,List.set_cons_zero,List.set_cons_succ]
   have hHeld : KC2 X _:=hk9
   refine AnyZ.take (i:=6) (d:=25) (v:=.tuple #[.agg #[.int .i64 0,.string ⟨#[]⟩,.int .i64 0,.slice ai 0 ci,.slice at_ 1 ct,.slice none 0 0,.slice none 0 0],.bool true]) rfl rfl (by kernel_rfl) (fun _ _ _ h => h) (Or.inl ⟨by rfl,fun w' hSw => ?_⟩) hHeld ?_
   ·obtain ⟨_,_⟩:=hSw
    go_simp
   try simp only [List.setIfInBounds_toArray,List.set_cons_zero,List.set_cons_succ]
   refine AnyZ.take (i:=7) (d:=32) (v:=.agg #[.int .i64 0,.string ⟨#[]⟩,.int .i64 0,.slice ai 0 ci,.slice at_ 1 ct,.slice none 0 0,.slice none 0 0]) rfl rfl (by kernel_rfl) (fun _ _ _ h => h) (Or.inl ⟨by rfl,fun w' hSw => ?_⟩) hHeld ?_
   ·obtain ⟨_,_⟩:=hSw
    go_simp
   try simp only [List.setIfInBounds_toArray,List.set_cons_zero,List.set_cons_succ]
   refine AnyZ.take (i:=8) (d:=33) (v:=.bool true) rfl rfl (by kernel_rfl) (fun _ _ _ h => h) (Or.inl ⟨by rfl,fun w' hSw => ?_⟩) hHeld ?_
   ·obtain ⟨_,_⟩:=hSw
    go_simp
   try simp only [List.setIfInBounds_toArray,List.set_cons_zero,List.set_cons_succ]
   obtain ⟨V,hV,HV,hkV⟩:=HG3.out _ _ _ _ _ _ _ h9
   refine AnyZ.one (i:=10) (by kernel_rfl) rfl fun K hK => ?_
   refine step_store_run rfl 63 _ _ rfl _ _ rfl rfl V hV ?_
   refine hK.out _ _ (fun _ => hkV) (fun _ => ?_)
   clear hK K
   try simp only [Act.put]
   refine AnyZ.take (i:=11) (d:=7) (v:=.bool true) rfl rfl (by kernel_rfl) (fun _ _ _ h => h) (Or.inl ⟨by rfl,fun w' hSw => ?_⟩) hkV ?_
   ·obtain ⟨_,_⟩:=hSw
    go_simp
   try simp only [List.setIfInBounds_toArray]
   refine AnyZ.done (by kernel_rfl) ?_ _
   obtain ⟨gt,ot,rfl,r0,r4,r5,HSt,HB⟩:=w_end HE6.out HV.out
   clear HG1 HG2 HG3 HT1 HT2 HT3 HA_t HA_z HA_tz HA_zt HAL HAM hV HV h9 h8 h7 hHeld
   go_wp2_with fail
   refine HSt.out.mono ?_
   rintro e w' ⟨rfl,rfl⟩
   go_wp2
   go_ret
   exact ⟨rfl,HB.out⟩
 ·go_simp
  refine hK.out _ _ (fun _ => HA_z.out) (fun _ => ?_)
  clear hK K
  try simp only [Act.put,List.setIfInBounds_toArray,List.set_cons_zero,List.set_cons_succ]
  refine AnyZ.one (i:=1) (by kernel_rfl) rfl fun K hK => ?_
  go_simp
  refine hK.out _ _ (fun _ => HA_zt.out) (fun _ => ?_)
  clear hK K
  try simp only [Act.put,List.setIfInBounds_toArray,List.set_cons_zero,List.set_cons_succ]
  refine AnyZ.one (i:=2) (by kernel_rfl) rfl fun K hK => ?_
  go_simp
  refine HT2.out.mono ?_
  rintro e w7 ⟨rfl,h7,hk7⟩
  refine hK.out _ _ (fun _ => hk7) (fun _ => ?_)
  clear hK K
  try simp only [Act.put,List.setIfInBounds_toArray,List.set_cons_zero,List.set_cons_succ]
  refine AnyZ.one (i:=3) (by kernel_rfl) rfl fun K hK => ?_
  go_simp
  refine (HG1.out _ _ h7).mono ?_
  rintro e w8 ⟨b2,rfl,h8,hk8⟩
  refine hK.out _ _ (fun _ => hk8) (fun _ => ?_)
  clear hK K
  try simp only [Act.put,List.setIfInBounds_toArray,List.set_cons_zero,List.set_cons_succ]
  refine AnyZ.one (i:=5) (by kernel_rfl) rfl fun K hK => ?_
  go_simp
  refine (HG2.out _ _ _ h8).mono ?_
  rintro e w9 ⟨ai,ci,at_,ct,rfl,h9,hk9⟩
  refine hK.out _ _ (fun _ => hk9) (fun _ => ?_)
  clear hK K
  try simp only [Act.put,List.setIfInBounds_toArray,List.set_cons_zero,List.set_cons_succ]
  have hHeld : KC2 X _:=hk9
  refine AnyZ.take (i:=6) (d:=25) (v:=.tuple #[.agg #[.int .i64 0,.string ⟨#[]⟩,.int .i64 0,.slice ai 0 ci,.slice at_ 1 ct,.slice none 0 0,.slice none 0 0],.bool true]) rfl rfl (by kernel_rfl) (fun _ _ _ h => h) (Or.inl ⟨by rfl,fun w' hSw => ?_⟩) hHeld ?_
  ·obtain ⟨_,_⟩:=hSw
   go_simp
  try simp only [List.setIfInBounds_toArray,List.set_cons_zero,List.set_cons_succ]
  refine AnyZ.take (i:=7) (d:=32) (v:=.agg #[.int .i64 0,.string ⟨#[]⟩,.int .i64 0,.slice ai 0 ci,.slice at_ 1 ct,.slice none 0 0,.slice none 0 0]) rfl rfl (by kernel_rfl) (fun _ _ _ h => h) (Or.inl ⟨by rfl,fun w' hSw => ?_⟩) hHeld ?_
  ·obtain ⟨_,_⟩:=hSw
   go_simp
  try simp only [List.setIfInBounds_toArray,List.set_cons_zero,List.set_cons_succ]
  refine AnyZ.take (i:=8) (d:=33) (v:=.bool true) rfl rfl (by kernel_rfl) (fun _ _ _ h => h) (Or.inl ⟨by rfl,fun w' hSw => ?_⟩) hHeld ?_
  ·obtain ⟨_,_⟩:=hSw
   go_simp
  try simp only [List.setIfInBounds_toArray,List.set_cons_zero,List.set_cons_succ]
  obtain ⟨V,hV,HV,hkV⟩:=HG3.out _ _ _ _ _ _ _ h9
  refine AnyZ.one (i:=10) (by kernel_rfl) rfl fun K hK => ?_
  refine step_store_run rfl 63 _ _ rfl _ _ rfl rfl V hV ?_
  refine hK.out _ _ (fun _ => hkV) (fun _ => ?_)
  clear hK K
  try simp only [Act.put]
  refine AnyZ.take (i:=11) (d:=7) (v:=.bool true) rfl rfl (by kernel_rfl) (fun _ _ _ h => h) (Or.inl ⟨by rfl,fun w' hSw => ?_⟩) hkV ?_
  ·obtain ⟨_,_⟩:=hSw
   go_simp
  try simp only [List.setIfInBounds_toArray]
  refine AnyZ.done (by kernel_rfl) ?_ _
  obtain ⟨gt,ot,rfl,r0,r4,r5,HSt,HB⟩:=w_end HE6.out HV.out
  clear HG1 HG2 HG3 HT1 HT2 HT3 HA_t HA_z HA_tz HA_zt HAL HAM hV HV h9 h8 h7 hHeld
  go_wp2_with fail
  refine HSt.out.mono ?_
  rintro e w' ⟨rfl,rfl⟩
  go_wp2
  go_ret
  exact ⟨rfl,HB.out⟩
end Go.Proofs.YtagijldedngcoaaGreatDoor

namespace Go.Proofs.YtagijldedngcoaaGreatDoor
open Go.RowKit Go.Lib Go.Maps
section
variable {w U W W' : World} {X Bd i : Nat} {sv : Value} {bs : List (Nat × Nat)} {qu : Bool} {s : ByteArray}
theorem yard4 (hk : U.heap[X]? = some (.cells #[.int .i64 2,.int .i64 2] 27 (0,0))) (hX : w.heap.size ≤ X) (hB : Below w.heap.size w U) (hLw : Zq.Sh.Laid w) :
  Calls Tryz.prog 32 #[.agg #[.int .i64 2,.int .i64 2],.int .i64 400] U fun e W => ∃ g o sc bs,e = .returned (.slice (some ⟨g,o,none⟩) 4 sc)∧GQ w W X W.heap.size 2 2 (.slice (some ⟨g,o,none⟩) 4 sc) (sts 400 0 nmO (List.replicate (2 + 2) none)) bs:=by
 refine (yard_any 2 2 400 (by decide) (by decide) (by decide) U).mono ?_
 rintro e W ⟨sa,sc,bs,rfl,hYB,hbl⟩
 have hG:=gq_yard (K:=2) (M:=2) hk hX hB hLw hYB hbl nmO
 obtain ⟨g0,o0,rfl⟩ : ∃ g0 o0,sa = some ⟨g0,o0,none⟩:=by
  obtain ⟨a',c',e0,h0 | ⟨g0,o0,ea,_⟩⟩:=hG.yp.rp
  ·have : bs.length = 0:=by simpa using congrArg List.length h0
   omega
  ·injection e0 with e1 _ _
   exact ⟨g0,o0,by rw [e1,ea]⟩
 exact ⟨g0,o0,sc,bs,rfl,hG⟩
theorem KK.two (h : KK X 2 2 W) : W.cell? ⟨X,0,none⟩ = some (.int .i64 2)∧W.cell? ⟨X,1,none⟩ = some (.int .i64 2):=h
theorem kept_hd : ∀ d ∈ shL 2 2 keptB,d.size ≤ 131072∧((nmO.size + d.size : Nat) : Int) ≤ 400:=by
 intro d hd
 obtain ⟨i,_,rfl⟩:=List.mem_map.1 hd
 rw [kept_size]
 exact ⟨by omega,by decide⟩
theorem old_put (h : GQ w W X Bd 2 2 sv (sts 400 0 nmO (List.replicate (2 + 2) none)) bs) :
  Calls Tryz.prog 24 #[.agg #[.int .i64 2,.int .i64 2],.string ⟨#[111,108,100]⟩,.string ⟨#[107,101,112,116]⟩] W fun e w1 => ∃ b2,e = .returned (.pointer (some ⟨b2,0,none⟩))∧Hid (Calls Tryz.prog 33 #[.pointer (some ⟨b2,0,none⟩),sv] w1 fun e w2 => ∃ ai ci at_ ct,e = .returned (.tuple #[.agg #[.int .i64 0,.string ⟨#[]⟩,.int .i64 0,.slice ai 0 ci,.slice at_ 0 ct,.slice none 0 0,.slice none 0 0],.bool true]) ∧
   Hid (∀ W3,W3 = w2.alloc (.cells #[.int .i64 0,.string ⟨#[]⟩,.int .i64 0,.slice ai 0 ci,.slice at_ 0 ct,.slice none 0 0,.slice none 0 0] 63)→GQ w W3 X Bd 2 2 sv (sF fun j => cs 2 none none j) bs∧RQ9 W W3 ⟨0,0,[],[]⟩ bs (.slice ai 0 ci) (.slice at_ 0 ct) w2.heap.size)):=by
 obtain ⟨t1,t2,t3⟩:=putP_lay (K:=2) (M:=2) (q:=400) (m:=0) (s:=keptB) (nm:=nmO) (k:=kPut) (y:=⟨0,0,[],[]⟩) (O:=List.replicate (2 + 2) none) (by simp) (.inl (no_fnd (by decide) (by decide))) rfl (by decide) nmO_may kept_hd
 rw [show ((0 : Int) + 2) = 2 by omega,old4] at t3
 refine (gq_put (nm:=nmO) (s:=keptB) h (BW.start W) (by decide) (by decide) (by decide)).mono ?_
 rintro e w1 ⟨b2,rfl,hJ,hk⟩
 refine ⟨b2,rfl,?_⟩
 refine (gq_run (g:=100) h hJ.out (sts_gd (by decide) (by decide) (by decide) (by decide) no_sm) t1 t2 t3 (by rw [List.length_append,aq_len,pq_len,shL_len]; decide) (lay_small (by decide) fun d hd => (kept_hd d hd).1) (by simp) (by simp)).mono ?_
 rintro e w2 ⟨ai,ci,at_,ct,rfl,hR,_⟩
 exact ⟨ai,ci,at_,ct,rfl,fun W3 hW => rq_of h hR.out hW⟩
theorem cs_gd {mm : Nat→Int} {o : Nat→Option ByteArray} (h : ∀ j,0 ≤ mm j∧mm j ≤ 100) (ho : ∀ j d,o j = some d→d.size ≤ 131072) : GD 100 (sF fun j => cs (mm j) none (o j) j) :=
 sF_gd fun j _ => cs_go (fun d hd => by cases hd) (ho j) (by omega) (h j).1 (h j).2
theorem sh_o (hs : s.size ≤ 100) : ∀ (j : Nat) (d : ByteArray),some (Zq.shB 2 2 s j) = some d→d.size ≤ 131072:=fun j d hd => by cases hd; have:=(name_size (j:=j) hs).2; omega
theorem no_o : ∀ (_ : Nat) (d : ByteArray),(none : Option ByteArray) = some d→d.size ≤ 131072:=fun _ d hd => by cases hd
theorem fld00 (x0 x1 x2 x3 x4 x5 x6 : Value) (w : World) : (Instr.field 63 (.agg #[x0,x1,x2,x3,x4,x5,x6]) 0).run Tryz.prog w = .ok x0 w:=by
 simp [Instr.field,go_sem,run_underlying Tryz.underlying63,asAgg]
theorem fld2 (x0 x1 x2 x3 x4 x5 x6 : Value) (w : World) : (Instr.field 63 (.agg #[x0,x1,x2,x3,x4,x5,x6]) 2).run Tryz.prog w = .ok x2 w:=by
 simp [Instr.field,go_sem,run_underlying Tryz.underlying63,asAgg]
theorem more_ne (s : ByteArray) : s ≠ s ++ ⟨#[120]⟩:=fun e => by
 have:=congrArg ByteArray.size e
 rw [ByteArray.size_append] at this
 have h1 : (⟨#[120]⟩ : ByteArray).size = 1:=rfl
 omega
theorem convAny (w : World) (n : Nat) : (convert 79 9 (.slice (some ⟨w.heap.size,0,none⟩) n n)).run Tryz.prog (w.alloc (.cells (madeCells #[.int .u8 0] n) 5)).drew = .ok (.string (Zq.zsB n)) (w.alloc (.cells (madeCells #[.int .u8 0] n) 5)).drew:=by
 have h : Zq.Fd.BR (w.alloc (.cells (madeCells #[.int .u8 0] n) 5)).drew w.heap.size (List.replicate n 0):=Zq.made_zeros w n
 have:=h.str_all n n (by simp)
 simpa [Zq.Fd.strOf,Zq.zsB] using this
theorem conv330 (w : World) : (convert 79 9 (.slice (some ⟨w.heap.size,0,none⟩) 330 330)).run Tryz.prog (w.alloc (.cells (madeCells #[.int .u8 0] 330) 5)).drew = .ok (.string (Zq.zsB 330)) (w.alloc (.cells (madeCells #[.int .u8 0] 330) 5)).drew:=convAny w 330
theorem put_new (h : GQ w W X Bd 2 2 sv (sF fun j => cs (cM qu i j) none none j) bs) (hs : s.size ≤ 100) :
  Calls Tryz.prog 24 #[.agg #[.int .i64 2,.int .i64 2],.string ⟨#[110,97,109,101]⟩,.string s] W fun e w1 => ∃ b2,e = .returned (.pointer (some ⟨b2,0,none⟩))∧Hid (Calls Tryz.prog 33 #[.pointer (some ⟨b2,0,none⟩),sv] w1 fun e w2 => ∃ ai ci at_ ct,e = .returned (.tuple #[.agg #[.int .i64 0,.string ⟨#[]⟩,.int .i64 0,.slice ai 0 ci,.slice at_ 0 ct,.slice none 0 0,.slice none 0 0],.bool true]) ∧
   Hid (∀ W3,W3 = w2.alloc (.cells #[.int .i64 0,.string ⟨#[]⟩,.int .i64 0,.slice ai 0 ci,.slice at_ 0 ct,.slice none 0 0,.slice none 0 0] 63)→GQ w W3 X Bd 2 2 sv (sF fun j => cs (cM qu i j + 1 + 1) none (some (Zq.shB 2 2 s j)) j) bs∧RQ9 W W3 ⟨0,0,[],[]⟩ bs (.slice ai 0 ci) (.slice at_ 0 ct) w2.heap.size)):=by
 obtain ⟨t1,t2,t3⟩:=putF_lay (mm:=cM qu i) (k:=kPut) (y:=⟨0,0,[],[]⟩) rfl hs
 refine gf_put h (cs_gd (fun j => by have:=cM_bd (qu:=qu) (i:=i) j; omega) no_o) t1 t2 t3 (by omega) (by rw [List.length_append,aq_len,pq_len,shL_len]; decide) (lay_small (K:=2) (M:=2) (by decide) fun d hd => ?_)
 obtain ⟨j,_,rfl⟩:=List.mem_map.1 hd
 have:=(name_size (j:=j) hs).2
 omega
theorem put_more {mm : Nat→Int} {x : ByteArray} {cc : Int} (h : GQ w W X Bd 2 2 sv (sF fun j => cs (mm j) none (some (Zq.shB 2 2 s j)) j) bs) (hm : ∀ j,0 ≤ mm j∧mm j ≤ 100) (hs : s.size ≤ 100) (hx : x.size ≤ 65536) (hc : (if s = x then 0 else 101) = cc) :
  Calls Tryz.prog 24 #[.agg #[.int .i64 2,.int .i64 2],.string ⟨#[110,97,109,101]⟩,.string x] W fun e w1 => ∃ b2,e = .returned (.pointer (some ⟨b2,0,none⟩))∧Hid (Calls Tryz.prog 33 #[.pointer (some ⟨b2,0,none⟩),sv] w1 fun e w2 => ∃ ai ci at_ ct,e = .returned (.tuple #[.agg #[.int .i64 cc,.string ⟨#[]⟩,.int .i64 0,.slice ai 0 ci,.slice at_ 0 ct,.slice none 0 0,.slice none 0 0],.bool true]) ∧
   Hid (∀ W3,W3 = w2.alloc (.cells #[.int .i64 cc,.string ⟨#[]⟩,.int .i64 0,.slice ai 0 ci,.slice at_ 0 ct,.slice none 0 0,.slice none 0 0] 63)→GQ w W3 X Bd 2 2 sv (sF fun j => cs (mm j + 1) none (some (Zq.shB 2 2 s j)) j) bs∧RQ9 W W3 ⟨cc,0,[],[]⟩ bs (.slice ai 0 ci) (.slice at_ 0 ct) w2.heap.size)):=by
 obtain ⟨t1,t2,t3⟩:=putF_there (mm:=mm) (k:=kPut) (y:=⟨cc,0,[],[]⟩) x hs hx (by rw [hc]; rfl)
 exact gf_put h (cs_gd hm (sh_o hs)) t1 t2 t3 hx (by rw [aq_len]; decide) (aq_small (K:=2) (M:=2) (by decide))
theorem get_old {mm : Nat→Int} (h : GQ w W X Bd 2 2 sv (sF fun j => cs (mm j) none (some (Zq.shB 2 2 s j)) j) bs) (hm : ∀ j,0 ≤ mm j∧mm j ≤ 100) (hs : s.size ≤ 100) :
  Calls Tryz.prog 25 #[.agg #[.int .i64 2,.int .i64 2],.string ⟨#[111,108,100]⟩,.string ⟨#[]⟩] W fun e w1 => ∃ b2,e = .returned (.pointer (some ⟨b2,0,none⟩))∧Hid (Calls Tryz.prog 33 #[.pointer (some ⟨b2,0,none⟩),sv] w1 fun e w2 => ∃ ai ci gt ot ct,e = .returned (.tuple #[.agg #[.int .i64 0,.string ⟨#[]⟩,.int .i64 0,.slice ai 0 ci,.slice (some ⟨gt,ot,none⟩) 1 ct,.slice none 0 0,.slice none 0 0],.bool true]) ∧
   Hid (∀ W3,W3 = w2.alloc (.cells #[.int .i64 0,.string ⟨#[]⟩,.int .i64 0,.slice ai 0 ci,.slice (some ⟨gt,ot,none⟩) 1 ct,.slice none 0 0,.slice none 0 0] 63)→GQ w W3 X Bd 2 2 sv (sF fun j => cs (mm j + 1) none (some (Zq.shB 2 2 s j)) j) bs∧RQ9 W W3 ⟨0,0,[],[keptB]⟩ bs (.slice ai 0 ci) (.slice (some ⟨gt,ot,none⟩) 1 ct) w2.heap.size∧W3.cell? ⟨gt,ot,none⟩ = some (.string keptB))):=by
 obtain ⟨t1,t2,t3⟩:=getF_old (mm:=mm) (o:=fun j => some (Zq.shB 2 2 s j)) (k:=kGet) (y:=⟨0,0,[],[keptB]⟩) rfl
 refine (gq_get (nm:=nmO) (want:=⟨#[]⟩) h (BW.start W) (by decide) (by decide)).mono ?_
 rintro e w1 ⟨b2,rfl,hJ,hk⟩
 refine ⟨b2,rfl,?_⟩
 refine (gq_run (g:=100) h hJ.out (cs_gd hm (sh_o hs)) t1 t2 t3 (by rw [aq_len]; decide) (aq_small (K:=2) (M:=2) (by decide)) (by simp) (by simp)).mono ?_
 rintro e w2 ⟨ai,ci,at_,ct,rfl,hR,_⟩
 obtain ⟨_,hr⟩:=rq_of h hR.out rfl
 obtain ⟨a,c,e,_,hl | ⟨gt,ot,ea,hr,hg,hG⟩⟩:=hr.tt.ls (r:=fun i => (Value.slice at_ 1 ct).ownBlock = some i) fun i hi => hi
 ·cases hl
 injection e with e1 _ _
 subst e1
 subst ea
 refine ⟨ai,ci,gt,ot,ct,rfl,fun W3 hW => ?_⟩
 obtain ⟨k1,k2⟩:=rq_of h hR.out hW
 refine ⟨k1,k2,?_⟩
 subst hW
 have:=hG 0 keptB rfl 0 _ rfl
 simpa using this
end
end Go.Proofs.YtagijldedngcoaaGreatDoor

namespace Go.Proofs.YtagijldedngcoaaGreatDoor
open Go.RowKit Go.Lib Go.Maps
theorem clean10 {w : World} (s : ByteArray) (at_ : Int) (qu : Bool) (hLw : Zq.Sh.Laid w) :
  Calls Tryz.prog 7 #[.string s,.int .i64 at_,.bool qu] w fun e w' => e = .returned (.bool true)∧Below w.heap.size w w':=by
 obtain ⟨U,hU⟩ : ∃ U,U = w.alloc (.cells #[.int .i64 2,.int .i64 2] 27):=⟨_,rfl⟩
 obtain ⟨X,hX0⟩ : ∃ X,X = w.heap.size:=⟨_,rfl⟩
 have hBU : Below w.heap.size w U:=by rw [hU]; exact (Below.refl _ _).alloc (Nat.le_refl _) _
 have hkU : U.heap[X]? = some (.cells #[.int .i64 2,.int .i64 2] 27 (0,0)):=by rw [hU,hX0]; exact heap_alloc_new w _
 have y0 : U.cell? ⟨X,0,none⟩ = some (.int .i64 2):=by simp [World.cell?,hkU]
 have y1 : U.cell? ⟨X,1,none⟩ = some (.int .i64 2):=by simp [World.cell?,hkU]
 have HY:=hide (yard4 hkU (by omega) hBU hLw)
 have HU:=hide hU
 have HX:=hide hX0
 clear hU hX0 hBU hkU hLw
 go_enter Tryz.func7,Tryz.ntmps7
 go_upto_region 2 with fail
 rw [← HU.out,← HX.out]
 go_wp2_with fail
 refine HY.out.mono ?_
 rintro e w1 ⟨g0,o0,sc,bs,rfl,hG1⟩
 have k1:=sl_eq Tryz.underlying28
 have HW:=hide (works10 hG1.la)
 obtain ⟨Bd,hBd⟩ : ∃ Bd,Bd = w1.heap.size:=⟨_,rfl⟩
 rw [← hBd] at hG1
 have HG1:=hide hG1
 clear hG1 hBd y0 y1 HY HU HX
 go_wp2_with fail
 refine HW.out.mono ?_
 rintro e w2 ⟨rfl,hb2⟩
 have HG2:=hide (HG1.out.bel hb2)
 clear hb2 HG1 HW
 by_cases hlen : (100 : Int) < (s.size : Int)
 ·have b9 : (s.size : Int) > 100:=by omega
  go_wp2
  go_ret
  exact ⟨rfl,HG2.out.be⟩
 ·have b9 : ¬ (s.size : Int) > 100:=by omega
  have hs : s.size ≤ 100:=by omega
  obtain ⟨z0,z1⟩:=HG2.out.kc.two
  have HJB:=hide (old_put HG2.out)
  go_wp2_with fail
  refine HJB.out.mono ?_
  rintro e v4 ⟨b2,rfl,HR⟩
  go_wp2_with fail
  refine HR.out.mono ?_
  rintro e v5 ⟨ai6,ci6,at6,ct6,rfl,H5⟩
  obtain ⟨V6,hV⟩ : ∃ V,V = v5.alloc (.cells #[.int .i64 0,.string ⟨#[]⟩,.int .i64 0,.slice ai6 0 ci6,.slice at6 0 ct6,.slice none 0 0,.slice none 0 0] 63):=⟨_,rfl⟩
  obtain ⟨q6,hq⟩ : ∃ q,q = v5.heap.size:=⟨_,rfl⟩
  have H6:=hide (H5.out V6 hV)
  rw [← hq] at H6
  have HVq:=hide (And.intro hV hq)
  clear hV hq H5 HR HJB
  go_upto_region 8 with fail
  rw [← HVq.out.1,← HVq.out.2]
  clear HVq
  have r60 : V6.cell? ⟨q6,0,none⟩ = some (.int .i64 0):=H6.out.2.r7.cell 0
  have HG6:=hide H6.out.1
  clear H6 z0 z1 HG2
  have HA3:=hide (among_any V6 at_ 4 (by decide) (by decide))
  have hal:=(amg_spec at_ 4 (by decide)).2.1
  generalize amg at_ 4 = i at *
  go_wp2_with fail
  refine HA3.out.mono ?_
  rintro e w3 ⟨rfl,rfl⟩
  clear HA3 r60
  go_upto_if 56 with fail
  go_cut [] (fun wx => ∃ z : ByteArray,z.size = 330∧Hid (GQ w wx X Bd 2 2 (.slice (some ⟨g0,o0,none⟩) 4 sc) (sF (cF qu i z s 0)) bs))
  case first =>
   cases qu with
   | false =>
    go_wp2
    go_meet
    case rel => exact ⟨⟨Array.replicate 330 0⟩,by simp [ByteArray.size],by have h:=HG6.out; rw [← cF_zero (qu:=false) (i:=i) (z:=⟨Array.replicate 330 0⟩) (s:=s) rfl] at h; exact h⟩
   | true =>
    obtain ⟨ex,hex⟩ : ∃ ex,bs[i]? = some ex:=⟨_,List.getElem?_eq_getElem (by rw [HG6.out.yp.len,sF_len]; exact hal)⟩
    obtain ⟨e1,he1⟩ : ∃ e1,e1 = ex.1:=⟨_,rfl⟩
    have hS6 : w3.drew.cell? ⟨g0,o0 + i,none⟩ = some (.pointer (some ⟨e1,0,none⟩)):=by rw [he1]; exact HG6.out.ptr (sF_len _) rfl hal hex
    have HST : Hid (∀ W,W.heap = (w3.alloc (.cells (madeCells #[.int .u8 0] 330) 5)).heap→W.os = w3.os→W.tape = w3.tape→W.output = w3.output→Calls Tryz.prog 36 #[.pointer (some ⟨e1,0,none⟩),.string ⟨#[109,117,99,104]⟩,.string (Zq.zsB 330)] W fun er w' => er = .returned (.int .i64 0)∧w'.cell? ⟨g0,o0 + i,none⟩ = some (.pointer (some ⟨e1,0,none⟩))∧Hid (GQ w w' X Bd 2 2 (.slice (some ⟨g0,o0,none⟩) 4 sc) (sF (cF true i (Zq.zsB 330) s 0)) bs)):=by
     intro W h1 h2 h3 h4
     have hb0 : Below w3.heap.size w3 (w3.alloc (.cells (madeCells #[.int .u8 0] 330) 5)):=(Below.refl _ _).alloc (Nat.le_refl _) _
     have hb : Below w3.heap.size w3 W:=⟨h2,h3,h4,by rw [h1]; exact hb0.size,fun j hj => by rw [h1]; exact hb0.block j hj⟩
     rw [he1]
     refine (cf_set (s:=s) (HG6.out.bel hb) (Zq.zsB_size 330) hal hex).mono ?_
     rintro er w' ⟨rfl,hG⟩
     exact ⟨rfl,hG.ptr (sF_len _) rfl hal hex,hG⟩
    have hmk : ∀ w : World,(Instr.makeSlice 79 (.int .i64 330) (.int .i64 330)).run Tryz.prog w = .ok (.slice (some ⟨w.heap.size,0,none⟩) 330 330) (w.alloc (.cells (madeCells #[.int .u8 0] 330) 5)):=fun w => run_make_row' (P:=Tryz.prog) 79 5 (.int .u8 0) 1 Tryz.underlying79 Zq.Fd.Tryz.info5 rfl .i64 .i64 330 (by omega) (by omega) w
    have hcv : ∀ w : World,(convert 79 9 (.slice (some ⟨w.heap.size,0,none⟩) 330 330)).run Tryz.prog (w.alloc (.cells (madeCells #[.int .u8 0] 330) 5)) = .ok (.string (Zq.zsB 330)) (w.alloc (.cells (madeCells #[.int .u8 0] 330) 5)):=fun w => Zq.made_conv w 330
    have hS7 : (w3.alloc (.cells (madeCells #[.int .u8 0] 330) 5)).drew.cell? ⟨g0,o0 + i,none⟩ = some (.pointer (some ⟨e1,0,none⟩)):=by rw [he1]; exact (HG6.out.bel ((Below.refl _ _).alloc (Nat.le_refl _) _)).ptr (W:=w3.alloc (.cells (madeCells #[.int .u8 0] 330) 5)) (sF_len _) rfl hal hex
    have hcv2:=conv330 w3
    have bA : (i : Int) < 4:=by omega
    have bB : (0 : Int) ≤ (i : Int):=by omega
    clear he1 hex
    go_upto_region 12 with fail
    go_region_held_law (fun w' => w'.cell? ⟨g0,o0 + i,none⟩ = some (.pointer (some ⟨e1,0,none⟩))) (first | with_reducible assumption | go_keep) (first
     | (go_at_call 36; refine (HST.out (w3.alloc (.cells (madeCells #[.int .u8 0] 330) 5)).drew rfl rfl rfl rfl).mono ?_; rintro er w8 ⟨rfl,hs8,H8⟩))
    all_goals (go_wp2; go_meet; case rel => exact ⟨_,Zq.zsB_size 330,H8⟩)
  case rest =>
   obtain ⟨z,hz,HG7⟩:=hcut
   generalize wc = W7 at *
   obtain ⟨c,hc⟩ : ∃ c : Int,c = if qu = true then 71 else 72:=⟨_,rfl⟩
   have HCP : Hid (CP qu i z s c):=⟨hs,hz,hal,hc⟩
   have HC9:=hide hc
   have HSZ:=hide (And.intro hs (And.intro hz hal))
   obtain ⟨z0,z1⟩:=HG7.out.kc.two
   have HPJ : Hid (Calls Tryz.prog 24 #[.agg #[.int .i64 2,.int .i64 2],.string ⟨#[110,97,109,101]⟩,.string s] W7 fun e w' => ∃ b,e = .returned (.pointer (some ⟨b,0,none⟩))∧Hid (CJ w w' X Bd (.slice (some ⟨g0,o0,none⟩) 4 sc) bs qu i z s c b 0)):=by
    refine (gq_put (nm:=nmN) (s:=s) HG7.out (BW.start W7) (by decide) (by decide) (by have:=HSZ.out.1; omega)).mono ?_
    rintro e w' ⟨b,rfl,hJ,_⟩
    exact ⟨b,rfl,CJ.start HG7.out hJ.out⟩
   clear hc hs hz hal b9 HG6
   go_wp2_with fail
   refine HPJ.out.mono ?_
   rintro e w8 ⟨b,rfl,HJ8⟩
   clear HPJ z0 z1 HG7
   go_wp2
   go_loopw [13] (fun _ wr => ∃ t : Nat,t ≤ 12∧Hid (CJ w wr X Bd (.slice (some ⟨g0,o0,none⟩) 4 sc) bs qu i z s c b t)) (fun _ wr => 12 - stp b wr)
   case atStart => exact ⟨0,Nat.zero_le _,HJ8⟩
   case round =>
    obtain ⟨t,ht,HJ⟩:=hrel
    by_cases hlt : t < 12
    ·obtain ⟨ex,hex⟩ : ∃ ex,bs[cT t]? = some ex:=⟨_,List.getElem?_eq_getElem (by rw [HJ.out.gq.yp.len,sF_len]; exact cT_lt hlt)⟩
     obtain ⟨e1,he1⟩ : ∃ e1,ex.1 = e1:=⟨_,rfl⟩
     obtain ⟨ct,hct⟩ : ∃ ct,ct = cT t:=⟨_,rfl⟩
     obtain ⟨kk,hkk⟩ : ∃ kk,kk = (cQ s t).k:=⟨_,rfl⟩
     obtain ⟨nn,hnn⟩ : ∃ nn,nn = nmN:=⟨_,rfl⟩
     obtain ⟨dd,hdd⟩ : ∃ dd,dd = (cQ s t).d:=⟨_,rfl⟩
     obtain ⟨ac,hac⟩ : ∃ ac,ac = (cA c i t).c:=⟨_,rfl⟩
     have HEQ:=hide (And.intro hct (And.intro hkk (And.intro hnn (And.intro hdd hac))))
     have HX1:=hide (And.intro hex he1)
     have bA : (ct : Int) < 4:=by have:=cT_lt hlt; omega
     have bB : (0 : Int) ≤ (ct : Int):=by omega
     have bL : ct < 4:=by omega
     have HME : Hid (∀ W,CJ w W X Bd (.slice (some ⟨g0,o0,none⟩) 4 sc) bs qu i z s c b (t + 1)→12 - stp b W < 12 - stp b wr):=fun W h => by
      rw [h.stp HCP.out (by omega),HJ.out.stp HCP.out (by omega)]
      omega
     have HOV:=hide (cj_over HJ.out HCP.out hlt)
     have HNX : Hid (Calls Tryz.prog 38 #[.pointer (some ⟨b,0,none⟩)] wr fun e w' => e = .returned (.tuple #[.agg #[.int .i64 (ct : Int),.int .i64 kk,.string nn,.string dd],.bool true])∧Hid (CJ w w' X Bd (.slice (some ⟨g0,o0,none⟩) 4 sc) bs qu i z s c b t)):=by
      rw [hct,hkk,hnn,hdd]
      exact (cj_next HJ.out HCP.out hlt).mono fun e w' h => ⟨h.1,h.2⟩
     clear hct hkk hnn hdd hac hex he1
     go_wp2_with fail
     refine HOV.out.mono ?_
     rintro e v1 ⟨rfl,rfl⟩
     go_wp2_with fail
     refine HNX.out.mono ?_
     rintro e v2 ⟨rfl,HJ2⟩
     obtain ⟨V13,hV⟩ : ∃ V,V = v2.alloc (.cells #[.int .i64 (ct : Int),.int .i64 kk,.string nn,.string dd] 81):=⟨_,rfl⟩
     obtain ⟨q13,hq⟩ : ∃ q,q = v2.heap.size:=⟨_,rfl⟩
     have HR13 : Hid (CR w V13 X Bd (.slice (some ⟨g0,o0,none⟩) 4 sc) bs qu i z s c b t q13 (cF qu i z s t (cT t))):=by
      obtain ⟨h1,h2,h3,h4,_⟩:=HEQ.out
      rw [h1,h2,h3,h4] at hV
      have:=CR.of HJ2.out hlt hV
      rw [← hq] at this
      exact this
     have HCS : Hid (∀ W y,CR w W X Bd (.slice (some ⟨g0,o0,none⟩) 4 sc) bs qu i z s c b t q13 y→W.cell? ⟨q13,0,none⟩ = some (.int .i64 (ct : Int))∧W.cell? ⟨q13,1,none⟩ = some (.int .i64 kk)∧W.cell? ⟨q13,2,none⟩ = some (.string nn)∧W.cell? ⟨q13,3,none⟩ = some (.string dd)∧W.cell? ⟨g0,o0 + ct,none⟩ = some (.pointer (some ⟨e1,0,none⟩))):=fun W y h => by
      obtain ⟨h1,h2,h3,h4,_⟩:=HEQ.out
      rw [h1,h2,h3,h4]
      exact h.cells hlt rfl HX1.out.1 HX1.out.2
     have HVq:=hide (And.intro hV hq)
     obtain ⟨j0,j1,j2,j3,j4⟩:=HCS.out _ _ HR13.out
     clear hV hq HOV HNX HJ2
     go_upto_region 18 with fail
     rw [← HVq.out.1,← HVq.out.2]
     clear HVq
     have HBB : Hid (cB qu i t = (!qu && (decide (kk = 1) && decide (ct = i)))):=by
      obtain ⟨h1,h2,_⟩:=HEQ.out
      unfold cB
      congr 1
      rw [h1,h2]
      unfold cQ
      by_cases h4 : t < 4
      ·rw [if_pos h4,decide_eq_false (show ¬ (4 ≤ t∧t < 8∧cT t = i) by omega)]; rfl
      ·rw [if_neg h4]
       by_cases h8 : t < 8
       ·rw [if_pos h8]
        by_cases h : cT t = i
        ·rw [decide_eq_true (show 4 ≤ t∧t < 8∧cT t = i from ⟨by omega,h8,h⟩),decide_eq_true h]; rfl
        ·rw [decide_eq_false (show ¬ (4 ≤ t∧t < 8∧cT t = i) from fun hh => h hh.2.2),decide_eq_false h]; rfl
       ·rw [if_neg h8,decide_eq_false (show ¬ (4 ≤ t∧t < 8∧cT t = i) by omega)]; rfl
     obtain ⟨bb,hbb⟩ : ∃ bb,bb = cB qu i t:=⟨_,rfl⟩
     have HB0:=hide hbb
     clear hbb
     go_cut [89] (fun v wx => v = .bool bb∧wx = V13)
     case first =>
      cases qu with
      | true =>
       have e9 : bb = false:=by rw [HB0.out,HBB.out]; rfl
       subst e9
       go_wp2
       go_meet
       case rel => exact ⟨rfl,rfl⟩
      | false =>
       by_cases hk1 : kk = 1
       ·by_cases hi1 : ct = i
        ·have e9 : bb = true:=by rw [HB0.out,HBB.out,hk1,hi1]; simp
         subst e9 hk1 hi1
         go_wp2
         go_meet
         case rel => exact ⟨rfl,rfl⟩
        ·have e9 : bb = false:=by rw [HB0.out,HBB.out,hk1,decide_eq_false hi1]; simp
         have d0 : ((ct : Int) == (i : Int)) = false:=by simp; omega
         subst e9 hk1
         go_wp2
         go_meet
         case rel => exact ⟨rfl,rfl⟩
       ·have e9 : bb = false:=by rw [HB0.out,HBB.out,decide_eq_false hk1]; simp
        have d0 : (kk == 1) = false:=by simpa using hk1
        subst e9
        go_wp2
        go_meet
        case rel => exact ⟨rfl,rfl⟩
     case rest =>
     obtain ⟨rfl,rfl⟩:=hcut
     go_upto_if 89 with fail
     go_cut [] (fun wx => Hid (CR w wx X Bd (.slice (some ⟨g0,o0,none⟩) 4 sc) bs qu i z s c b t q13 (if cB qu i t = true then cfl (cF qu i z s t (cT t)) else cF qu i z s t (cT t))))
     case first =>
      cases bb with
      | false =>
       go_wp2
       go_meet
       case rel => rw [← HB0.out,if_neg (by decide)]; exact HR13
      | true =>
       have hci : ct = i:=by
        have h:=HB0.out
        rw [HBB.out] at h
        simp at h
        exact h.2.2
       have HFL : Hid (Calls Tryz.prog 39 #[.pointer (some ⟨e1,0,none⟩),.int .i64 1] wc fun er w' => er = .returned (.int .i64 0)∧Hid (CR w w' X Bd (.slice (some ⟨g0,o0,none⟩) 4 sc) bs qu i z s c b t q13 (cfl (cF qu i z s t (cT t))))):=by
        rw [← HX1.out.2]
        exact (cr_fail HR13.out hlt HX1.out.1).mono fun e w' h => ⟨h.1,h.2⟩
       subst hci
       go_wp2_with fail
       refine HFL.out.mono ?_
       rintro er w6 ⟨rfl,HR6⟩
       go_wp2
       go_meet
       case rel => rw [← HB0.out,if_pos rfl]; exact HR6
     case rest =>
     clear HR13 HB0 HBB j0 j1 j2 j3 j4
     have HR20 : Hid (CR w wc.drew X Bd (.slice (some ⟨g0,o0,none⟩) 4 sc) bs qu i z s c b t q13 (if cB qu i t = true then cfl (cF qu i z s t (cT t)) else cF qu i z s t (cT t))):=hcut.out.drew
     have hS20 : wc.drew.cell? ⟨q13,0,none⟩ = some (.int .i64 (ct : Int))∧wc.drew.cell? ⟨q13,1,none⟩ = some (.int .i64 kk)∧wc.drew.cell? ⟨q13,2,none⟩ = some (.string nn)∧wc.drew.cell? ⟨q13,3,none⟩ = some (.string dd)∧wc.drew.cell? ⟨g0,o0 + ct,none⟩ = some (.pointer (some ⟨e1,0,none⟩)):=HCS.out _ _ HR20.out
     have HDO : Hid (Calls Tryz.prog 41 #[.pointer (some ⟨e1,0,none⟩),.agg #[.int .i64 (ct : Int),.int .i64 kk,.string nn,.string dd]] wc.drew fun er w' => ∃ ua uc,er = .returned (.agg #[.int .i64 ac,.string ⟨#[]⟩,.slice ua 0 uc])∧(w'.cell? ⟨q13,0,none⟩ = some (.int .i64 (ct : Int))∧w'.cell? ⟨q13,1,none⟩ = some (.int .i64 kk)∧w'.cell? ⟨q13,2,none⟩ = some (.string nn)∧w'.cell? ⟨q13,3,none⟩ = some (.string dd)∧w'.cell? ⟨g0,o0 + ct,none⟩ = some (.pointer (some ⟨e1,0,none⟩)))∧Hid (CD w w' X Bd (.slice (some ⟨g0,o0,none⟩) 4 sc) bs qu i z s c b t q13 (.slice ua 0 uc))):=by
      obtain ⟨h1,h2,h3,h4,h5⟩:=HEQ.out
      rw [h1,h2,h3,h4,h5]
      exact cr_do HR20.out HCP.out hlt rfl HX1.out.1 HX1.out.2
     have HGV : Hid (∀ W ua uc,CD w W X Bd (.slice (some ⟨g0,o0,none⟩) 4 sc) bs qu i z s c b t q13 (.slice ua 0 uc)→Calls Tryz.prog 40 #[.pointer (some ⟨b,0,none⟩),.agg #[.int .i64 ac,.string ⟨#[]⟩,.slice ua 0 uc]] W fun er w' => er = .returned (.int .i64 0)∧(w'.cell? ⟨q13,0,none⟩ = some (.int .i64 (ct : Int))∧w'.cell? ⟨q13,1,none⟩ = some (.int .i64 kk)∧w'.cell? ⟨q13,2,none⟩ = some (.string nn)∧w'.cell? ⟨q13,3,none⟩ = some (.string dd)∧w'.cell? ⟨g0,o0 + ct,none⟩ = some (.pointer (some ⟨e1,0,none⟩)))∧Hid (CJ w w' X Bd (.slice (some ⟨g0,o0,none⟩) 4 sc) bs qu i z s c b (t + 1))):=fun W ua uc h => by
      obtain ⟨h1,h2,h3,h4,h5⟩:=HEQ.out
      rw [h1,h2,h3,h4,h5]
      exact cr_give h HCP.out hlt rfl HX1.out.1 HX1.out.2
     obtain ⟨tt,htt⟩ : ∃ tt : Int,tt = ((t + 1 : Nat) : Int):=⟨_,rfl⟩
     have HSP : Hid (∀ W,CJ w W X Bd (.slice (some ⟨g0,o0,none⟩) 4 sc) bs qu i z s c b (t + 1)→Calls Tryz.prog 31 #[.pointer (some ⟨b,0,none⟩)] W fun er w' => er = .returned (.int .i64 tt)∧w' = W):=fun W h => by
      rw [htt]
      exact cj_steps h HCP.out (by omega)
     have b50 : ¬ tt > 50:=by omega
     have n0 : decide ((ct : Int) < 0) = false:=decide_eq_false (by omega)
     have n1 : decide ((4 : Int) ≤ (ct : Int)) = false:=decide_eq_false (by omega)
     have n2 : decide (tt > 50) = false:=decide_eq_false (by omega)
     clear htt hcut HCS
     go_upto_region 20 with fail
     go_region_held3 (fun w' => w'.cell? ⟨q13,0,none⟩ = some (.int .i64 (ct : Int))∧w'.cell? ⟨q13,1,none⟩ = some (.int .i64 kk)∧w'.cell? ⟨q13,2,none⟩ = some (.string nn)∧w'.cell? ⟨q13,3,none⟩ = some (.string dd)∧w'.cell? ⟨g0,o0 + ct,none⟩ = some (.pointer (some ⟨e1,0,none⟩))) (first | with_reducible assumption) (first
      | (go_at_call 41; refine HDO.out.mono ?_; rintro er w5 ⟨ua,uc,rfl,hs5,H5⟩)
      | (go_at_call 40; have h5:=H5; refine (HGV.out _ _ _ h5.out).mono ?_; rintro er w6 ⟨rfl,hs6,H6⟩)
      | (go_at_call 31; have h6:=H6; refine (HSP.out _ h6.out).mono ?_; rintro er w7 ⟨rfl,rfl⟩))
     go_wp2
     exact ⟨⟨t + 1,by omega,H6⟩,HME.out _ H6.out⟩
    ·obtain rfl : t = 12:=by omega
     have HOV:=hide (cj_over1 HJ.out HCP.out)
     have HJ12 : Hid (CJ w wr X Bd (.slice (some ⟨g0,o0,none⟩) 4 sc) bs qu i z s c b 12):=HJ
     go_wp2_with fail
     refine HOV.out.mono ?_
     rintro e v1 ⟨rfl,rfl⟩
     clear HOV HJ HJ8
     go_upto_if 122 with fail
     go_cut [15] (fun v wx => v = .int .i64 c∧wx = v1)
     case first =>
      cases qu with
      | true =>
       have e9 : c = 71:=by rw [HC9.out,if_pos rfl]
       subst e9
       go_wp2
       go_meet
       case rel => exact ⟨rfl,rfl⟩
      | false =>
       have e9 : c = 72:=by rw [HC9.out,if_neg (by decide)]
       subst e9
       go_wp2
       go_meet
       case rel => exact ⟨rfl,rfl⟩
     case rest =>
     obtain ⟨rfl,rfl⟩:=hcut
     have k2:=fld00
     have k3:=fld2
     have HRS:=hide (cj_result HJ12.out HCP.out)
     go_wp2_with fail
     refine HRS.out.mono ?_
     rintro e v2 ⟨a1,n1,c1,a2,n2,c2,rfl,hJ2⟩
     have HRS2:=hide (cj_result hJ2 HCP.out)
     clear hJ2 HRS HJ12
     go_wp2_with fail
     refine HRS2.out.mono ?_
     rintro e v3 ⟨a3,n3,c3,a4,n4,c4,rfl,hJ3⟩
     have HG3 : Hid (GQ w v3 X Bd 2 2 (.slice (some ⟨g0,o0,none⟩) 4 sc) (sF (cG qu i z 0)) bs):=by have h:=hJ3.gq; rw [cG_zero] at h; exact h
     clear hJ3 HRS2 k2
     go_wp2
     clear k3
     go_loopw [136] (fun v wr => ∃ n : Nat,n ≤ 4∧v = .int .i64 (n : Int)∧Hid (GQ w wr X Bd 2 2 (.slice (some ⟨g0,o0,none⟩) 4 sc) (sF (cG qu i z n)) bs)) (fun v _ => 4 - (intOf v).toNat)
     case atStart => exact ⟨0,Nat.zero_le _,rfl,HG3⟩
     case round =>
      obtain ⟨n,hn,rfl,HG⟩:=hrel
      by_cases hlt : n < 4
      ·have b1 : (n : Int) < 4:=by omega
       have b0 : (0 : Int) ≤ (n : Int):=by omega
       obtain ⟨ex,hex⟩ : ∃ ex,bs[n]? = some ex:=⟨_,List.getElem?_eq_getElem (by rw [HG.out.yp.len,sF_len]; exact hlt)⟩
       obtain ⟨e1,he1⟩ : ∃ e1,e1 = ex.1:=⟨_,rfl⟩
       have hcl : wr.cell? ⟨g0,o0 + n,none⟩ = some (.pointer (some ⟨e1,0,none⟩)):=by rw [he1]; exact HG.out.ptr (sF_len _) rfl hlt hex
       have HGE : Hid (Calls Tryz.prog 18 #[.pointer (some ⟨e1,0,none⟩),.string ⟨#[110,97,109,101]⟩] wr fun er w' => er = .returned (.tuple #[.string ⟨#[]⟩,.bool false])∧Hid (GQ w w' X Bd 2 2 (.slice (some ⟨g0,o0,none⟩) 4 sc) (sF (cG qu i z n)) bs)):=by
        rw [he1]
        exact (cg_get HG.out hlt hex).mono fun e w' h => ⟨h.1,h.2⟩
       have HX1:=hide (And.intro hex he1)
       clear hex he1
       go_wp2_with fail
       refine HGE.out.mono ?_
       rintro er w5 ⟨rfl,HG5⟩
       clear HGE hcl
       by_cases hqi : qu = true∧n = i
       ·obtain ⟨rfl,rfl⟩:=hqi
        have HDL : Hid (Calls Tryz.prog 41 #[.pointer (some ⟨e1,0,none⟩),.agg #[.int .i64 0,.int .i64 4,.string ⟨#[109,117,99,104]⟩,.string ⟨#[]⟩]] w5 fun er w' => (∃ v,er = .returned v)∧Hid (GQ w w' X Bd 2 2 (.slice (some ⟨g0,o0,none⟩) 4 sc) (sF (cG true n z (n + 1))) bs)):=by
         rw [HX1.out.2]
         exact (cg_del HG5.out HCP.out.hz hlt ⟨rfl,rfl⟩ HX1.out.1).mono fun e w' h => ⟨h.1,h.2⟩
        go_wp2_with fail
        refine HDL.out.mono ?_
        rintro er w6 ⟨⟨v,rfl⟩,HG6⟩
        go_wp2
        exact ⟨⟨n + 1,by omega,by go_num,HG6⟩,by simp [intOf]; omega⟩
       ·have HG6 : Hid (GQ w w5 X Bd 2 2 (.slice (some ⟨g0,o0,none⟩) 4 sc) (sF (cG qu i z (n + 1))) bs):=by have h:=HG5.out; rw [← cG_skip hqi] at h; exact h
        cases qu with
        | false =>
         go_wp2
         exact ⟨⟨n + 1,by omega,by go_num,HG6⟩,by simp [intOf]; omega⟩
        | true =>
         have hni : n ≠ i:=fun h => hqi ⟨rfl,h⟩
         have d0 : ((n : Int) == (i : Int)) = false:=by simp; omega
         clear hqi
         go_wp2
         exact ⟨⟨n + 1,by omega,by go_num,HG6⟩,by simp [intOf]; omega⟩
      ·obtain rfl : n = 4:=by omega
       have HG4 : Hid (GQ w wr X Bd 2 2 (.slice (some ⟨g0,o0,none⟩) 4 sc) (sF fun j => cs (cM qu i j) none none j) bs):=by have h:=HG.out; rw [cG_end] at h; exact h
       clear HG HG3 hlt hn
       obtain ⟨z0,z1⟩:=HG4.out.kc.two
       have HJB:=hide (put_new (s:=s) HG4.out HCP.out.hs)
       go_wp2_with fail
       refine HJB.out.mono ?_
       rintro e v4 ⟨b2,rfl,HR⟩
       go_wp2_with fail
       refine HR.out.mono ?_
       rintro e v5 ⟨ai8,ci8,at8,ct8,rfl,H5⟩
       obtain ⟨V8,hV⟩ : ∃ V,V = v5.alloc (.cells #[.int .i64 0,.string ⟨#[]⟩,.int .i64 0,.slice ai8 0 ci8,.slice at8 0 ct8,.slice none 0 0,.slice none 0 0] 63):=⟨_,rfl⟩
       obtain ⟨q8,hq⟩ : ∃ q,q = v5.heap.size:=⟨_,rfl⟩
       have H8:=hide (H5.out V8 hV)
       rw [← hq] at H8
       have HVq:=hide (And.intro hV hq)
       clear hV hq H5 HR HJB
       go_upto_region 37 with fail
       rw [← HVq.out.1,← HVq.out.2]
       clear HVq
       obtain ⟨z2,z3⟩:=H8.out.1.kc.two
       clear z0 z1
       have HJB:=hide (put_more (s:=s) (x:=s) (cc:=0) H8.out.1 (fun j => by have:=cM_bd (qu:=qu) (i:=i) j; omega) HCP.out.hs (by have:=HCP.out.hs; omega) (if_pos rfl))
       go_wp2_with fail
       refine HJB.out.mono ?_
       rintro e v4 ⟨b2,rfl,HR⟩
       go_wp2_with fail
       refine HR.out.mono ?_
       rintro e v5 ⟨ai10,ci10,at10,ct10,rfl,H5⟩
       obtain ⟨V10,hV⟩ : ∃ V,V = v5.alloc (.cells #[.int .i64 0,.string ⟨#[]⟩,.int .i64 0,.slice ai10 0 ci10,.slice at10 0 ct10,.slice none 0 0,.slice none 0 0] 63):=⟨_,rfl⟩
       obtain ⟨q10,hq⟩ : ∃ q,q = v5.heap.size:=⟨_,rfl⟩
       have H10:=hide (H5.out V10 hV)
       rw [← hq] at H10
       have HVq:=hide (And.intro hV hq)
       clear hV hq H5 HR HJB
       go_upto_region 38 with fail
       rw [← HVq.out.1,← HVq.out.2]
       clear HVq
       obtain ⟨z0,z1⟩:=H10.out.1.kc.two
       clear z2 z3
       have HJB:=hide (put_more (s:=s) (x:=s ++ ⟨#[120]⟩) (cc:=101) H10.out.1 (fun j => by have:=cM_bd (qu:=qu) (i:=i) j; omega) HCP.out.hs (by have:=HCP.out.hs; rw [ByteArray.size_append]; show s.size + 1 ≤ 65536; omega) (if_neg (more_ne s)))
       go_wp2_with fail
       refine HJB.out.mono ?_
       rintro e v4 ⟨b2,rfl,HR⟩
       go_wp2_with fail
       refine HR.out.mono ?_
       rintro e v5 ⟨ai12,ci12,at12,ct12,rfl,H5⟩
       obtain ⟨V12,hV⟩ : ∃ V,V = v5.alloc (.cells #[.int .i64 101,.string ⟨#[]⟩,.int .i64 0,.slice ai12 0 ci12,.slice at12 0 ct12,.slice none 0 0,.slice none 0 0] 63):=⟨_,rfl⟩
       obtain ⟨q12,hq⟩ : ∃ q,q = v5.heap.size:=⟨_,rfl⟩
       have H12:=hide (H5.out V12 hV)
       rw [← hq] at H12
       have HVq:=hide (And.intro hV hq)
       clear hV hq H5 HR HJB
       go_upto_region 39 with fail
       rw [← HVq.out.1,← HVq.out.2]
       clear HVq
       obtain ⟨z2,z3⟩:=H12.out.1.kc.two
       clear z0 z1
       have HJB:=hide (get_old (s:=s) H12.out.1 (fun j => by have:=cM_bd (qu:=qu) (i:=i) j; omega) HCP.out.hs)
       go_wp2_with fail
       refine HJB.out.mono ?_
       rintro e v4 ⟨b2,rfl,HR⟩
       go_wp2_with fail
       refine HR.out.mono ?_
       rintro e v5 ⟨ai14,ci14,gt,ot,ct14,rfl,H5⟩
       obtain ⟨V14,hV⟩ : ∃ V,V = v5.alloc (.cells #[.int .i64 0,.string ⟨#[]⟩,.int .i64 0,.slice ai14 0 ci14,.slice (some ⟨gt,ot,none⟩) 1 ct14,.slice none 0 0,.slice none 0 0] 63):=⟨_,rfl⟩
       obtain ⟨q14,hq⟩ : ∃ q,q = v5.heap.size:=⟨_,rfl⟩
       have H14:=hide (H5.out V14 hV)
       rw [← hq] at H14
       have HVq:=hide (And.intro hV hq)
       clear hV hq H5 HR HJB
       go_upto_region 40 with fail
       rw [← HVq.out.1,← HVq.out.2]
       clear HVq
       have HEND : Hid (R7 V14 q8 0 0 (.slice ai8 0 ci8) (.slice at8 0 ct8)∧R7 V14 q10 0 0 (.slice ai10 0 ci10) (.slice at10 0 ct10)∧R7 V14 q12 101 0 (.slice ai12 0 ci12) (.slice at12 0 ct12)∧R7 V14 q14 0 0 (.slice ai14 0 ci14) (.slice (some ⟨gt,ot,none⟩) 1 ct14)∧V14.cell? ⟨gt,ot,none⟩ = some (.string keptB)∧Below w.heap.size w V14):=by
        have b8 : Bd ≤ q8:=Nat.le_trans HG4.out.bd H8.out.2.q0
        have b10 : Bd ≤ q10:=Nat.le_trans H8.out.1.bd H10.out.2.q0
        have b12 : Bd ≤ q12:=Nat.le_trans H10.out.1.bd H12.out.2.q0
        exact ⟨RQ9.keep (RQ9.keep (RQ9.keep H8.out.2.r7 H10.out.2 H8.out.1 b8) H12.out.2 H10.out.1 b8) H14.out.2.1 H12.out.1 b8,RQ9.keep (RQ9.keep H10.out.2.r7 H12.out.2 H10.out.1 b10) H14.out.2.1 H12.out.1 b10,RQ9.keep H12.out.2.r7 H14.out.2.1 H12.out.1 b12,H14.out.2.1.r7,H14.out.2.2,H14.out.1.be⟩
       have m0 : V14.cell? ⟨q8,0,none⟩ = some (.int .i64 0):=HEND.out.1.cell 0
       have m2 : V14.cell? ⟨q10,0,none⟩ = some (.int .i64 0):=HEND.out.2.1.cell 0
       have m3 : V14.cell? ⟨q12,0,none⟩ = some (.int .i64 101):=HEND.out.2.2.1.cell 0
       have m5 : V14.cell? ⟨q14,4,none⟩ = some (.slice (some ⟨gt,ot,none⟩) 1 ct14):=HEND.out.2.2.2.1.cell 4
       have m6 : V14.cell? ⟨gt,ot,none⟩ = some (.string ⟨#[107,101,112,116]⟩):=HEND.out.2.2.2.2.1
       have HB:=hide HEND.out.2.2.2.2.2
       clear HEND H8 H10 H12 H14 HG4 z2 z3
       go_wp2
       go_ret
       exact ⟨rfl,HB.out⟩
end Go.Proofs.YtagijldedngcoaaGreatDoor

/-
  Contracts of the program and of the statements (part 9 of 28).
-/
import Derived.Test.YtagijldedngcoaaGreatDoorOl2
import Derived.Test.YtagijldedngcoaaGreatDoorOl1
import Derived.Test.YtagijldedngcoaaGreatDoorOl7
import Derived.Test.YtagijldedngcoaaGreatDoorOl8
import Derived.BigQuiet
set_option maxRecDepth 100000
set_option maxHeartbeats 1600000

namespace Go.Proofs.YtagijldedngcoaaGreatDoor.Zq
open Go.RowKit Go.Lib

end Go.Proofs.YtagijldedngcoaaGreatDoor.Zq

namespace Go.Proofs.YtagijldedngcoaaGreatDoor.Zq
open Go.RowKit Go.Lib

end Go.Proofs.YtagijldedngcoaaGreatDoor.Zq

namespace Go.Proofs.YtagijldedngcoaaGreatDoor.Zq
open Go.RowKit Go.Lib

end Go.Proofs.YtagijldedngcoaaGreatDoor.Zq

namespace Go.Proofs.YtagijldedngcoaaGreatDoor.Zq
open Go.RowKit Go.Lib

end Go.Proofs.YtagijldedngcoaaGreatDoor.Zq

namespace Go.Proofs.YtagijldedngcoaaGreatDoor.Zq
open Go.RowKit Go.Lib

end Go.Proofs.YtagijldedngcoaaGreatDoor.Zq

namespace Go.Proofs.YtagijldedngcoaaGreatDoor.Zq
open Go.RowKit Go.Lib

end Go.Proofs.YtagijldedngcoaaGreatDoor.Zq

namespace Go.Proofs.YtagijldedngcoaaGreatDoor.Zq
open Go.RowKit Go.Lib

end Go.Proofs.YtagijldedngcoaaGreatDoor.Zq

namespace Go.Proofs.YtagijldedngcoaaGreatDoor.Zq
open Go.RowKit Go.Lib

end Go.Proofs.YtagijldedngcoaaGreatDoor.Zq

namespace Go.Proofs.YtagijldedngcoaaGreatDoor.Zq
open Go.RowKit Go.Lib

end Go.Proofs.YtagijldedngcoaaGreatDoor.Zq

namespace Go.Proofs.YtagijldedngcoaaGreatDoor.Zq
open Go.RowKit Go.Lib

end Go.Proofs.YtagijldedngcoaaGreatDoor.Zq

namespace Go.Proofs.YtagijldedngcoaaGreatDoor.Zq
open Go.RowKit Go.Lib

section
variable {w : World} {gl gr N pl pr n cl cr : Nat} {va : Value} {X Y X' Y' : Mt} {wr w' : World}
end

end Go.Proofs.YtagijldedngcoaaGreatDoor.Zq

namespace Go.Proofs.YtagijldedngcoaaGreatDoor.Zq
open Go.RowKit Go.Lib

section
variable {w : World} {g N pb r c pr pc : Nat} {va : Value} {G G' : Nat→K} {wr w' : World}
end

end Go.Proofs.YtagijldedngcoaaGreatDoor.Zq

namespace Go.Proofs.YtagijldedngcoaaGreatDoor.Zq
open Go.RowKit Go.Lib

end Go.Proofs.YtagijldedngcoaaGreatDoor.Zq

namespace Go.Proofs.YtagijldedngcoaaGreatDoor.Zq
open Go.RowKit Go.Lib

end Go.Proofs.YtagijldedngcoaaGreatDoor.Zq


namespace Go.Proofs.YtagijldedngcoaaGreatDoor.Zq
open Go.RowKit Go.Lib
end Go.Proofs.YtagijldedngcoaaGreatDoor.Zq

namespace Go.Proofs.YtagijldedngcoaaGreatDoor.Zq.Rr
open Go.RowKit Go.Lib

section
variable {B n : Nat} {v : Value} {I I' : Nat→Int} {X X' : Nat→ByteArray} {w w' : World}
end
end Go.Proofs.YtagijldedngcoaaGreatDoor.Zq.Rr

namespace Go.Proofs.YtagijldedngcoaaGreatDoor.Zq
open Go.RowKit Go.Lib Go.Maps

def jnC (k m : Nat) (long : Int) (I : Nat→Int) (X : Nat→ByteArray) (n : Nat) : Int:=if faultV k m long I X n ≠ 0 then faultV k m long I X n else if (fu k I n).length < k then 50 else 0
def jnS (k m : Nat) (long : Int) (I : Nat→Int) (X : Nat→ByteArray) (n : Nat) : ByteArray:=if faultV k m long I X n ≠ 0 then ⟨#[]⟩ else if (fu k I n).length < k then ⟨#[]⟩ else joinB k I X n long.toNat
theorem faultV_zero {k m : Nat} {long : Int} {I : Nat→Int} {X : Nat→ByteArray} {n : Nat} (h : faultV k m long I X n = 0) : 0 ≤ long∧long ≤ 65536∧(∀ i,i < n→0 ≤ I i∧I i < ((k + m : Nat) : Int))∧∀ i,i < n→(X i).size = eachN k long.toNat:=by
 rw [faultV] at h
 split at h
 ·omega
 ·exact ⟨by omega,by omega,fun i hi => (flt_zero h i hi).1,fun i hi => (flt_zero h i hi).2⟩
theorem nz_bne {x : Int} (h : x ≠ 0) : (x != 0) = true:=by simpa using h

theorem pjoin_all {w : World} {b sb f1 f2 g k m : Nat} (h : PP w b sb f1 f2 g k m) (k1 : 1 ≤ k) (km : k + m ≤ 255) {vp : Value} {n : Nat} {I : Nat→Int} {X : Nat→ByteArray} (hn : n ≤ maxLen) (hP : PX w vp n I X)
  (hXs : ∀ i,i < n→(X i).size ≤ 9223372036854775807) (long : Int) :
  Calls Tryz.prog 237 #[.pointer (some ⟨b,0,none⟩),vp,.int .i64 long] w fun e w' =>
   e = .returned (.tuple #[.string (jnS k m long I X n),.int .i64 (jnC k m long I X n)])∧PP w' b sb f1 f2 g k m∧Gs (fun i => i = f1 ∨ i = f2) w w':=by
 by_cases hf : faultV k m long I X n = 0
 ·obtain ⟨h0,h1,hI,hX⟩:=faultV_zero hf
  have:=join_any h k1 km hn hP (long:=long.toNat) (by omega) hI hX
  rw [Int.toNat_of_nonneg h0] at this
  refine this.mono ?_
  rintro e w' ⟨⟨hlt,rfl⟩ | ⟨hlt,rfl⟩,hP',hg⟩
  ·exact ⟨by rw [jnS,jnC,if_neg (Classical.not_not.2 hf),if_neg (Classical.not_not.2 hf),if_pos hlt,if_pos hlt],hP',hg⟩
  ·exact ⟨by rw [jnS,jnC,if_neg (Classical.not_not.2 hf),if_neg (Classical.not_not.2 hf),if_neg (by omega),if_neg (by omega)],hP',hg⟩
 ·rw [jnS,jnC,if_pos hf,if_pos hf]
  have HP:=hide h
  have HF:=hide (fault_any h k1 km hn hP hXs long)
  generalize faultV k m long I X n = fv at *
  have b1:=nz_bne hf
  have b2 : ¬ fv = 0:=hf
  clear h hP hXs
  go_enter Tryz.func237,Tryz.ntmps237
  go_wp2_with fail
  refine HF.out.mono ?_
  rintro e w1 ⟨rfl,hb1⟩
  have HE : Hid (PP w1 b sb f1 f2 g k m∧Gs (fun i => i = f1 ∨ i = f2) w w1):=⟨HP.out.below hb1,Gs.of_below _ hb1⟩
  clear hb1 HF
  go_wp2
  exact bodyPost_ret (v:=.tuple #[.string ⟨#[]⟩,.int .i64 fv]) (by simp [results,Tryz.results237,go_sem]) rfl ⟨rfl,HE.out⟩

end Go.Proofs.YtagijldedngcoaaGreatDoor.Zq

namespace Go.Proofs.YtagijldedngcoaaGreatDoor.Zq
open Go.RowKit Go.Lib

theorem PP.putp {w w' : World} {b sb f1 f2 g k m q : Nat} {cs : Array Value} {fr : Nat × Nat} (h : PP w b sb f1 f2 g k m) (hS : w.heap[q]? = some (.cells cs 309 fr)) (hg : w.grownBy w' (some q)) : PP w' b sb f1 f2 g k m:=by
 have nb : b ≠ q:=by
  intro e; subst e
  have x:=h.pl
  unfold PL at x; rw [x] at hS; simp at hS
 have ng : g ≠ q:=by
  intro e; subst e
  obtain ⟨Z,x⟩:=h.kb
  rw [x] at hS; simp at hS
 exact ⟨h.pl.of_block (hg.block b h.pl.lt (by simpa using nb)),h.sp.set hS (by decide) (by decide) (by decide) hg,h.fl.set hS (by decide) (by decide) hg,h.kb.of_block (hg.block g h.kb.lt (by simpa using ng)),h.ne⟩
theorem snew_ok2 {w : World} {k m : Nat} (k1 : 1 ≤ k) (km : k + m ≤ 255) :
  Calls Tryz.prog 204 #[.int .i64 k,.int .i64 m] w fun e w' => ∃ b sb f1 f2 g,e = .returned (.tuple #[.pointer (some ⟨b,0,none⟩),.int .i64 0])∧PP w' b sb f1 f2 g k m∧w.heap.size ≤ f1∧w.heap.size ≤ f2∧Below w.heap.size w w':=by
 go_enter Tryz.func204,Tryz.ntmps204
 go_wp2_with fail
 refine (mnew_any _).mono ?_
 rintro e w1 ⟨sb,f1,rfl,hS,hf,hsb,hb1⟩
 have HS1:=hide hS
 have HB1:=hide hb1
 have HF:=hide hf
 clear hS hf hsb hb1
 go_wp2_with fail
 refine (cauchy_ok HS1.out k1 km).mono ?_
 rintro e w2 ⟨g,rfl,hG,hg,hS2,hg2⟩
 have HB2:=hide (below_gb HB1.out hg2 HF.out HB1.out.size)
 obtain ⟨N,hN⟩ : ∃ N,N = (k + m) * k:=⟨_,rfl⟩
 obtain ⟨km',hkm⟩ : ∃ n,n = k + m:=⟨_,rfl⟩
 rw [← hkm] at hN
 rw [← hkm,← hN] at hG ⊢
 have X:=Bx.new w2 (km' : Int) (k : Int) (.slice (some ⟨g,0,none⟩) N N)
 have HX:=hide X
 have HS2:=hide (hS2.alloc (.cells #[.int .i64 (km' : Int),.int .i64 (k : Int),.slice (some ⟨g,0,none⟩) N N] 313))
 have HG:=hide (hG.alloc (.cells #[.int .i64 (km' : Int),.int .i64 (k : Int),.slice (some ⟨g,0,none⟩) N N] 313))
 have HB3:=hide (below_alloc HB2.out (.cells #[.int .i64 (km' : Int),.int .i64 (k : Int),.slice (some ⟨g,0,none⟩) N N] 313))
 have HE:=hide (And.intro hkm hN)
 clear HS1 HB1 hG hg hS2 hg2 HB2 hN hkm X
 obtain ⟨W,hW⟩ : ∃ W,W = w2.alloc (.cells #[.int .i64 (km' : Int),.int .i64 (k : Int),.slice (some ⟨g,0,none⟩) N N] 313):=⟨_,rfl⟩
 rw [← hW] at HX HS2 HG HB3
 have HW:=hide hW
 clear hW
 go_upto_region 5 with fail
 rw [← HW.out]
 have HK : Hid (∀ w',Below W.heap.size W w'→w'.cell? ⟨w2.heap.size,0,none⟩ = some (.int .i64 (km' : Int))∧w'.cell? ⟨w2.heap.size,1,none⟩ = some (.int .i64 (k : Int))∧w'.cell? ⟨w2.heap.size,2,none⟩ = some (.slice (some ⟨g,0,none⟩) N N)):=fun w' hb => ⟨(HX.out.below hb (Nat.le_refl _)).cell0,(HX.out.below hb (Nat.le_refl _)).cell1,(HX.out.below hb (Nat.le_refl _)).cell2⟩
 have HB0 : Hid (Below W.heap.size W W.drew):=(Below.refl _ _).drew
 go_region_held_law (fun wx => wx.cell? ⟨w2.heap.size,0,none⟩ = some (.int .i64 (km' : Int))∧wx.cell? ⟨w2.heap.size,1,none⟩ = some (.int .i64 (k : Int))∧wx.cell? ⟨w2.heap.size,2,none⟩ = some (.slice (some ⟨g,0,none⟩) N N))
  (first | with_reducible exact HK.out _ HB0.out | with_reducible exact HK.out _ (by assumption) | with_reducible exact HK.out _ (below_alloc (by assumption) _))
  (first
   | (go_at_call 240; refine (new_any _).mono ?_; rintro e wa ⟨rfl,hF,hba⟩; have hbA:=below_step HB0.out hba))
 all_goals
  go_wp2
  obtain ⟨rfl,rfl⟩:=HE.out
  have hlt : W.heap.size < wa.heap.size:=hF.lt
  refine bodyPost_ret (v:=.tuple #[.pointer (some ⟨wa.heap.size,0,none⟩),.int .i64 0]) (by simp [results,Tryz.results204,go_sem]) rfl ⟨wa.heap.size,sb,f1,W.heap.size,g,rfl,⟨heap_alloc_new wa _,(HS2.out.below hbA (Nat.le_refl _)).alloc _,hF.below (below_alloc (Below.refl wa.heap.size wa) _) (Nat.le_refl _),(HG.out.below hbA (Nat.le_refl _)).alloc _,by have:=HS2.out.ltf; omega⟩,HF.out,HB3.out.size,below_alloc (below_step HB3.out hbA) _⟩


end Go.Proofs.YtagijldedngcoaaGreatDoor.Zq

namespace Go.Proofs.YtagijldedngcoaaGreatDoor.Zq.Rr
open Go.RowKit Go.Lib

end Go.Proofs.YtagijldedngcoaaGreatDoor.Zq.Rr

namespace Go.Proofs.YtagijldedngcoaaGreatDoor.Zq
open Go.RowKit Go.Lib

end Go.Proofs.YtagijldedngcoaaGreatDoor.Zq

namespace Go.Proofs.YtagijldedngcoaaGreatDoor.Zq
open Go.RowKit Go.Lib

section
variable {B n : Nat} {v : Value} {X : Nat→ByteArray} {w w' : World}
end
theorem jn_ok {k m : Nat} {long : Int} {I : Nat→Int} {X : Nat→ByteArray} {n : Nat} (h : faultV k m long I X n = 0) (hv : ¬ (fu k I n).length < k) : jnC k m long I X n = 0∧jnS k m long I X n = joinB k I X n long.toNat:=by
 simp [jnC,jnS,h,hv]
end Go.Proofs.YtagijldedngcoaaGreatDoor.Zq

namespace Go.Proofs.YtagijldedngcoaaGreatDoor.Zq
open Go.RowKit Go.Lib

end Go.Proofs.YtagijldedngcoaaGreatDoor.Zq

namespace Go.Proofs.YtagijldedngcoaaGreatDoor.Zq
open Go.RowKit Go.Lib

end Go.Proofs.YtagijldedngcoaaGreatDoor.Zq


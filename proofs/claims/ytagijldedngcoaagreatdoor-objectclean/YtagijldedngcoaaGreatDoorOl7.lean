/-
  Contracts of the program and of the statements (part 7 of 28).
-/
import Derived.Test.YtagijldedngcoaaGreatDoorOl2
import Derived.Lib.AppendZeros
import Derived.Deep.AppendSrc
import Derived.Lib.LazyBuf
import Derived.Deep.RegionHeldLaw
set_option maxRecDepth 100000
set_option maxHeartbeats 1600000

namespace Go.Proofs.YtagijldedngcoaaGreatDoor.Zq
open Go.RowKit Go.Lib

def rowsL (m W : Nat) (q cp : Nat→Nat) : List Value:=(List.range m).map fun i => Value.slice (some ⟨q i,0,none⟩) W (cp i)
theorem rowsL_length (m W : Nat) (q cp : Nat→Nat) : (rowsL m W q cp).length = m:=by simp [rowsL]
theorem rowsL_get {m W i : Nat} (q cp : Nat→Nat) (h : i < m) : (rowsL m W q cp)[i]? = some (.slice (some ⟨q i,0,none⟩) W (cp i)):=by
 rw [rowsL,List.getElem?_map,List.getElem?_range h]; rfl

structure Fr (B f : Nat) (w w' : World) : Prop where
 os : w'.os = w.os
 tape : w'.tape = w.tape
 output : w'.output = w.output
 size : w.heap.size ≤ w'.heap.size
 block : ∀ k,k < B→k ≠ f→w'.heap[k]? = w.heap[k]?
theorem Fr.refl (B f : Nat) (w : World) : Fr B f w w:=⟨rfl,rfl,rfl,Nat.le_refl _,fun _ _ _ => rfl⟩
theorem Fr.trans {B f : Nat} {w w1 w2 : World} (h : Fr B f w w1) (k : Fr B f w1 w2) : Fr B f w w2 :=
 ⟨k.os.trans h.os,k.tape.trans h.tape,k.output.trans h.output,Nat.le_trans h.size k.size,fun i h1 h2 => (k.block i h1 h2).trans (h.block i h1 h2)⟩
theorem Fr.of_gb {B f b : Nat} {w w' : World} (h : w.grownBy w' (some b)) (hb : b = f ∨ B ≤ b) (hB : B ≤ w.heap.size) : Fr B f w w' :=
 ⟨h.os,h.tape,h.output,h.size,fun k h1 h2 => h.block k (by omega) (by simp; rcases hb with rfl | hb <;> omega)⟩
theorem Fr.of_two {B f g : Nat} {w w' : World} (h : Two f g w w') (hg : B ≤ g) (hB : B ≤ w.heap.size) : Fr B f w w' :=
 ⟨h.os,h.tape,h.output,h.size,fun k h1 h2 => h.block k (by omega) h2 (by omega)⟩
theorem Fr.of_below {B f : Nat} {w w' : World} (h : Below w.heap.size w w') (hB : B ≤ w.heap.size) : Fr B f w w' :=
 ⟨h.os,h.tape,h.output,h.size,fun k h1 _ => h.block k (by omega)⟩
theorem Fr.drewN {B f : Nat} {w w' : World} (h : Fr B f w w') (n : Nat) : Fr B f w (w'.drewN n):=⟨h.os,h.tape,h.output,h.size,h.block⟩

structure RS (w : World) (B sb f rb m W : Nat) (q cp : Nat→Nat) (R : Mt) : Prop where
 S : SP w sb f
 ltS : sb < B
 ltF : f < B
 ltB : B ≤ w.heap.size
 rge : B ≤ rb
 rows : w.heap[rb]? = some (.cells (rowsL m W q cp).toArray 162 (0,0))
 each : ∀ i,i < m→KB w (q i) W (R i)
 ge : ∀ i,i < m→B ≤ q i
 inj : ∀ i j,i < m→j < m→q i = q j→i = j
 cap : ∀ i,i < m→W ≤ cp i
section
variable {w w' : World} {B sb f rb m W : Nat} {q cp : Nat→Nat} {R : Mt}
theorem RS.cell (h : RS w B sb f rb m W q cp R) (i : Nat) (hi : i < m) : w.cell? ⟨rb,i,none⟩ = some (.slice (some ⟨q i,0,none⟩) W (cp i)):=by
 rw [cell_of_row w rb i _ _ _ h.rows,List.getElem?_toArray,rowsL_get q cp hi]
theorem RS.free (h : RS w B sb f rb m W q cp R) (i : Nat) : w.frozen? ⟨rb,i,none⟩ = false:=frozen_of_row w rb i _ _ h.rows
theorem RS.rlt (h : RS w B sb f rb m W q cp R) : rb < w.heap.size:=lt_of_block h.rows
theorem RS.ne (h : RS w B sb f rb m W q cp R) (i : Nat) (hi : i < m) : q i ≠ rb:=by
 intro e
 obtain ⟨Z,hZ⟩:=h.each i hi
 rw [e,h.rows] at hZ
 simp at hZ
theorem RS.nef (h : RS w B sb f rb m W q cp R) (i : Nat) (hi : i < m) : q i ≠ f:=by have:=h.ge i hi; have:=h.ltF; omega
theorem RS.congr (h : RS w B sb f rb m W q cp R) {R' : Mt} (e : ∀ i,i < m→∀ j,j < W→R i j = R' i j) : RS w B sb f rb m W q cp R' :=
 ⟨h.S,h.ltS,h.ltF,h.ltB,h.rge,h.rows,fun i hi => (h.each i hi).congr (fun j hj => e i hi j hj),h.ge,h.inj,h.cap⟩
theorem RS.field (h : RS w B sb f rb m W q cp R) (hg : w.grownBy w' (some f)) (hF : F w' f) : RS w' B sb f rb m W q cp R :=
 ⟨h.S.field hg hF,h.ltS,h.ltF,Nat.le_trans h.ltB hg.size,h.rge,(hg.block rb h.rlt (by simp; have:=h.rge; have:=h.ltF; omega)).trans h.rows,fun i hi => (h.each i hi).of_block (hg.block _ (h.each i hi).lt (by simp; exact h.nef i hi)),h.ge,h.inj,h.cap⟩
theorem RS.below (h : RS w B sb f rb m W q cp R) (hb : Below w.heap.size w w') : RS w' B sb f rb m W q cp R :=
 ⟨h.S.below hb (Nat.le_refl _),h.ltS,h.ltF,Nat.le_trans h.ltB hb.size,h.rge,(hb.block rb h.rlt).trans h.rows,fun i hi => (h.each i hi).below hb (Nat.le_refl _),h.ge,h.inj,h.cap⟩
theorem RS.upd (h : RS w B sb f rb m W q cp R) (r : Nat) (hr : r < m) (hT : Two f (q r) w w') (hS : SP w' sb f) {Rr : Nat→K} (hK : KB w' (q r) W Rr) : RS w' B sb f rb m W q cp (fun i => if i = r then Rr else R i):=by
 refine ⟨hS,h.ltS,h.ltF,Nat.le_trans h.ltB hT.size,h.rge,(hT.block rb h.rlt (by have:=h.rge; have:=h.ltF; omega) (fun e => h.ne r hr e.symm)).trans h.rows,fun i hi => ?_,h.ge,h.inj,h.cap⟩
 by_cases e : i = r
 ·subst e; rw [if_pos rfl]; exact hK
 ·rw [if_neg e]
  exact (h.each i hi).of_block (hT.block _ (h.each i hi).lt (h.nef i hi) (fun x => e (h.inj i r hi hr x)))
end
theorem KB.rd {w : World} {g W : Nat} {G : Nat→K} (h : KB w g W G) : RD w g 0 W G:=fun j hj => by rw [Nat.zero_add]; exact h.cell j hj

/-! ### The column cleared -/
def scl (R : Mt) (a c j : Nat) : Mt:=fun i k => if i = a∧k < j then R a k * K.inv (R a c) else R i k
theorem scl_zero (R : Mt) (a c i k : Nat) : scl R a c 0 i k = R i k:=by rw [scl,if_neg (by omega)]
def clr (R : Mt) (a c n : Nat) : Mt:=fun i k => if i = a then R a k * K.inv (R a c) else if i < n then R i k + R a k * K.inv (R a c) * R i c else R i k

theorem clear_any {w : World} {B sb f rb m W : Nat} {q cp : Nat→Nat} {R : Mt} {a c : Nat} (h : RS w B sb f rb m W q cp R) (ha : a < m) (hc : c < W) (hW : W ≤ 100000) (hm : m ≤ 100000) (h0 : R a c ≠ 0) :
  Calls Tryz.prog 332 #[.pointer (some ⟨sb,0,none⟩),.slice (some ⟨rb,0,none⟩) m m,.int .i64 a,.int .i64 c] w fun e w' => e = .returned (.tuple #[])∧RS w' B sb f rb m W q cp (elim R a c)∧Fr B f w w':=by
 have c1:=h.cell a ha
 have c2:=(h.each a ha).cell c hc
 have c3:=h.S.b.cell
 have b0 : (0 : Int) ≤ (a : Int):=by omega
 have b1 : (a : Int) < (m : Int):=by omega
 have b2 : (0 : Int) ≤ (c : Int):=by omega
 have b3 : (c : Int) < (W : Int):=by omega
 have hltB:=h.ltB
 have AD : Hid (∀ (w' : World),F w' f→RS w' B sb f rb m W q cp R→Fr B f w w'→Calls Tryz.prog 260 #[.pointer (some ⟨f,0,none⟩),.int .i64 1,.int .i64 (((R a c).v : Nat) : Int)] w' fun e w'' => e = .returned (.tuple #[.int .i64 (((K.inv (R a c)).v : Nat) : Int),.int .i64 0])∧(RS w'' B sb f rb m W q cp R∧Fr B f w w'')∧w''.cell? ⟨sb,0,none⟩ = some (.pointer (some ⟨f,0,none⟩))∧w''.cell? ⟨q a,c,none⟩ = some (.int .i64 (((R a c).v : Nat) : Int))):=by
  intro w' hF hR hfr
  refine (div_ok hF 1 (R a c).v (by decide) (R a c).lt (K.v_ne h0)).mono ?_
  rintro e w'' ⟨rfl,q1,q2⟩
  have R':=hR.field q2 q1
  exact ⟨rfl,⟨R',hfr.trans (Fr.of_gb q2 (.inl rfl) hR.ltB)⟩,R'.S.b.cell,(R'.each a ha).cell c hc⟩
 have HD : Hid (F w.drew f∧RS w.drew B sb f rb m W q cp R∧Fr B f w w.drew):=⟨h.S.fl,⟨⟨h.S.b,h.S.fl,h.S.ne⟩,h.ltS,h.ltF,h.ltB,h.rge,h.rows,h.each,h.ge,h.inj,h.cap⟩,(Fr.refl B f w).drewN 1⟩
 have HH:=hide h
 clear h
 go_enter Tryz.func332,Tryz.ntmps332
 go_wp2_with fail
 go_region_held3 (fun w' => w'.cell? ⟨sb,0,none⟩ = some (.pointer (some ⟨f,0,none⟩))∧w'.cell? ⟨q a,c,none⟩ = some (.int .i64 (((R a c).v : Nat) : Int))) (first | assumption | exact ⟨by assumption,by assumption⟩ | exact ⟨c3,c2⟩)
  (first
   | (go_at_call 260; refine (AD.out _ HD.out.1 HD.out.2.1 HD.out.2.2).mono ?_; rintro e w1 ⟨rfl,k1,k2,k3⟩))
 clear AD HD c1 c2 c3 HH
 have HR1 : Hid (RS w1 B sb f rb m W q cp R):=k1.1
 have HF1 : Hid (Fr B f w w1):=k1.2
 clear k1 k2 k3
 go_wp2
 go_loopw [33] (fun z wr => ∃ j : Nat,j ≤ W∧z = .int .i64 j∧RS wr B sb f rb m W q cp (scl R a c j)∧Fr B f w wr) (fun z _ => W - (RowKit.intOf z).toNat)
 case atStart => exact ⟨0,Nat.zero_le _,rfl,HR1.out.congr (fun i _ k _ => (scl_zero R a c i k).symm),HF1.out⟩
 case round =>
  obtain ⟨j,hj,rfl,hR,hfr⟩:=hrel
  clear HR1 HF1
  by_cases hlt : j < W
  ·have d1:=(hR.each a ha).cell j hlt
   rw [show scl R a c j a j = R a j by rw [scl,if_neg (by omega)]] at d1
   have d2:=hR.S.b.cell
   have HR:=hide hR
   have HF:=hide hfr
   clear hR hfr
   have e0 : (0 : Int) ≤ (j : Int):=by omega
   have e1 : (j : Int) < (W : Int):=by omega
   obtain ⟨y,hy⟩ : ∃ y,y = R a j * K.inv (R a c):=⟨_,rfl⟩
   have AM : Hid (Calls Tryz.prog 338 #[.pointer (some ⟨f,0,none⟩),.int .i64 (((R a j).v : Nat) : Int),.int .i64 (((K.inv (R a c)).v : Nat) : Int)] wr fun e w' => e = .returned (.tuple #[.int .i64 ((y.v : Nat) : Int),.int .i64 0])∧F w' f∧wr.grownBy w' (some f)):=by
    rw [hy]
    exact mul_ok HR.out.S.fl (R a j).v (K.inv (R a c)).v (R a j).lt (K.inv (R a c)).lt
   have HY:=hide hy
   clear hy
   go_wp2_with fail
   refine Calls.mono AM.out ?_
   rintro e w2 ⟨rfl,hF2,hg2⟩
   have hR2:=HR.out.field hg2 hF2
   have hf2:=HF.out.trans (Fr.of_gb hg2 (.inl rfl) HR.out.ltB)
   have d3:=(hR2.each a ha).cell j hlt
   have d4:=(hR2.each a ha).free j
   have HR2:=hide hR2
   have HF2:=hide hf2
   clear hR2 hf2 hF2 hg2 HR HF AM d1 d2
   go_wp2
   have gs:=gb_set w2 (q a) j (.int .i64 ((y.v : Nat) : Int))
   have hK:=(HR2.out.each a ha).set j hlt y
   have hU:=HR2.out.upd a ha ((Two.refl f (q a) w2).gb gs (.inr rfl)) (HR2.out.S.kset (HR2.out.each a ha) gs) hK
   refine ⟨⟨j + 1,by omega,by go_num,hU.congr (fun i _ k _ => ?_),HF2.out.trans (Fr.of_gb gs (.inr (HR2.out.ge a ha)) HR2.out.ltB)⟩,by simp [RowKit.intOf]; omega⟩
   by_cases ei : i = a
   ·subst ei
    rw [if_pos rfl]
    simp only [scl,true_and]
    by_cases ek : k = j
    ·rw [if_pos ek,if_pos (by omega),HY.out,ek]
    ·rw [if_neg ek]
     by_cases el : k < j
     ·rw [if_pos el,if_pos (by omega)]
     ·rw [if_neg el,if_neg (by omega)]
   ·rw [if_neg ei,scl,scl,if_neg (fun x => ei x.1),if_neg (fun x => ei x.1)]
  ·obtain rfl : j = W:=by omega
   have HR1 : Hid (RS wr B sb f rb m j q cp (clr R a c 0)):=hR.congr (fun i _ k hk => by
    rw [scl,clr]
    by_cases ei : i = a
    ·rw [if_pos ⟨ei,hk⟩,if_pos ei]
    ·rw [if_neg (fun x => ei x.1),if_neg ei,if_neg (Nat.not_lt_zero _)])
   have HF1:=hide hfr
   clear hR hfr
   go_wp2
   go_loopw [54] (fun z wr => ∃ i : Nat,i ≤ m∧z = .int .i64 i∧RS wr B sb f rb m j q cp (clr R a c i)∧Fr B f w wr) (fun z _ => m - (RowKit.intOf z).toNat)
   case atStart => exact ⟨0,Nat.zero_le _,rfl,HR1.out,HF1.out⟩
   case round =>
    obtain ⟨i,hi,rfl,hR,hfr⟩:=hrel
    clear HR1 HF1
    by_cases hlt : i < m
    ·have d1:=hR.cell i hlt
     have d2:=(hR.each i hlt).cell c hc
     have e0 : (0 : Int) ≤ (i : Int):=by omega
     have e1 : (i : Int) < (m : Int):=by omega
     by_cases ei : i = a
     ·subst ei
      have HR:=hide hR
      have HF:=hide hfr
      clear hR hfr d2
      go_wp2
      refine ⟨⟨i + 1,by omega,by go_num,HR.out.congr (fun r _ k _ => ?_),HF.out⟩,by simp [RowKit.intOf]; omega⟩
      rw [clr,clr]
      by_cases er : r = i
      ·rw [if_pos er,if_pos er]
      ·rw [if_neg er,if_neg er]
       by_cases el : r < i
       ·rw [if_pos el,if_pos (by omega)]
       ·rw [if_neg el,if_neg (by omega)]
     ·have en : ((i : Int) != (a : Int)) = true:=by simp; omega
      rw [show clr R a c i i c = R i c by rw [clr,if_neg ei,if_neg (Nat.lt_irrefl _)]] at d2
      have qn : q a ≠ q i:=fun x => ei (hR.inj a i ha hlt x).symm
      have AT : Hid _:=addTimes_any (o:=0) (cp:=cp i) (cl:=cp a) hR.S (hR.each i hlt) (hR.each a ha).rd (hR.each a ha).lt (hR.nef a ha) qn (by omega) (by omega) (R i c)
      have HR:=hide hR
      have HF:=hide hfr
      clear hR hfr
      go_wp2_with fail
      refine Calls.mono AT.out ?_
      rintro e w2 ⟨rfl,s1,s2,s3⟩
      have hU:=HR.out.upd i hlt s3 s1 s2
      have hf2:=HF.out.trans (Fr.of_two s3 (HR.out.ge i hlt) HR.out.ltB)
      have HU:=hide hU
      have HF2:=hide hf2
      clear hU hf2 s1 s2 s3 AT HR HF
      go_wp2
      refine ⟨⟨i + 1,by omega,by go_num,HU.out.congr (fun r _ k hk => ?_),HF2.out⟩,by simp [RowKit.intOf]; omega⟩
      by_cases er : r = i
      ·subst er
       rw [if_pos rfl,adds,if_pos ⟨Nat.zero_le _,by omega⟩,Nat.sub_zero,clr,clr,clr,if_neg ei,if_neg (Nat.lt_irrefl _),if_pos rfl,if_neg ei,if_pos (by omega)]
      ·rw [if_neg er,clr,clr]
       by_cases ea : r = a
       ·rw [if_pos ea,if_pos ea]
       ·rw [if_neg ea,if_neg ea]
        by_cases el : r < i
        ·rw [if_pos el,if_pos (by omega)]
        ·rw [if_neg el,if_neg (by omega)]
    ·obtain rfl : i = m:=by omega
     have HR : Hid (RS wr B sb f rb i j q cp (elim R a c)):=hR.congr (fun r hr k _ => by
      rw [clr,elim]
      by_cases er : r = a
      ·rw [if_pos er,if_pos er]
      ·rw [if_neg er,if_neg er,if_pos hr])
     have HF:=hide hfr
     clear hR hfr
     go_wp2
     go_end0
     exact ⟨rfl,HR.out,HF.out⟩

/-! ### The look for the first row -/
theorem has_any {w : World} {g W c box cp : Nat} {G : Nat→K} (hK : KB w g W G) (hb : w.cell? ⟨box,0,none⟩ = some (.int .i64 c)) (hc : c < W) :
  Calls Tryz.prog 331 #[.slice (some ⟨g,0,none⟩) W cp,.pointer (some ⟨box,0,none⟩)] w fun e w' => e = .returned (.bool (decide (G c ≠ 0)))∧w' = w:=by
 have d:=hK.cell c hc
 have e0 : (0 : Int) ≤ (c : Int):=by omega
 have e1 : (c : Int) < (W : Int):=by omega
 clear hK
 by_cases h : G c = 0
 ·have hv : ((((G c).v : Nat) : Int) != 0) = false:=by rw [h]; rfl
  rw [show decide (G c ≠ 0) = false by simp [h]]
  go_enter Tryz.func331,Tryz.ntmps331
  go_wp2
  go_ret
  exact ⟨rfl,rfl⟩
 ·have hv : ((((G c).v : Nat) : Int) != 0) = true:=by have:=K.v_ne h; simp; omega
  rw [show decide (G c ≠ 0) = true by simp [h]]
  go_enter Tryz.func331,Tryz.ntmps331
  go_wp2
  go_ret
  exact ⟨rfl,rfl⟩
def leadI (R : Mt) (c k a : Nat) : Int:=match lead R c k a with
 | none => -1
 | some n => (n : Int) - (a : Int)
theorem idxR_any {w : World} {B sb f rb m W : Nat} {q cp : Nat→Nat} {R : Mt} {a c box cx k : Nat} {sa : Option Addr} (h : RS w B sb f rb m W q cp R) (hc : c < W) (hb : w.cell? ⟨box,0,none⟩ = some (.int .i64 c)) (hk : a + k = m) (hm : m ≤ 100000) (hs : k = 0 ∨ sa = some ⟨rb,a,none⟩) :
  Calls Tryz.prog 330 #[.slice sa k cx,.func (.func 331) #[] #[.pointer (some ⟨box,0,none⟩)]] w fun e w' => e = .returned (.int .i64 (leadI R c k a))∧w' = w:=by
 have HH:=hide h
 have HS:=hide hs
 clear h hs
 obtain ⟨r,hr⟩ : ∃ r,r = leadI R c k a:=⟨_,rfl⟩
 rw [← hr]
 have HR:=hide hr
 clear hr
 go_enter Tryz.func330,Tryz.ntmps330
 go_wp2
 go_loop [8] (fun z => ∃ j : Nat,j ≤ k∧z = .int .i64 j∧lead R c k a = lead R c (k - j) (a + j)) (fun z => k - (RowKit.intOf z).toNat)
 case atStart => exact ⟨0,Nat.zero_le _,rfl,rfl⟩
 case round =>
  obtain ⟨j,hj,rfl,hl⟩:=hrel
  by_cases hlt : j < k
  ·obtain rfl:=HS.out.resolve_left (by omega)
   have d1:=HH.out.cell (a + j) (by omega)
   have e0 : (0 : Int) ≤ (j : Int):=by omega
   have e1 : (j : Int) < (k : Int):=by omega
   have AH : Hid _:=has_any (cp:=cp (a + j)) (HH.out.each (a + j) (by omega)) hb hc
   obtain ⟨d,hd⟩ : ∃ d,k - j = d + 1:=⟨k - j - 1,by omega⟩
   rw [hd,lead] at hl
   by_cases hz : R (a + j) c = 0
   ·rw [if_neg (by simp [hz])] at hl
    rw [show decide (R (a + j) c ≠ 0) = false by simp [hz]] at AH
    have HL:=hide hl
    clear hl hz
    go_wp2_with fail
    refine Calls.mono AH.out ?_
    rintro e w1 ⟨rfl,hw1⟩
    subst w1
    go_wp2
    exact ⟨⟨j + 1,by omega,by go_num,by rw [HL.out,show k - (j + 1) = d by omega,Nat.add_assoc]⟩,by simp [RowKit.intOf]; omega⟩
   ·rw [if_pos hz] at hl
    rw [show decide (R (a + j) c ≠ 0) = true by simp [hz]] at AH
    have HL : Hid (r = (j : Int)):=by
     show _ = _
     rw [HR.out,leadI,hl]
     show ((a + j : Nat) : Int) - (a : Int) = (j : Int)
     omega
    clear hl hz
    go_wp2_with fail
    refine Calls.mono AH.out ?_
    rintro e w1 ⟨rfl,hw1⟩
    subst w1
    go_wp2
    try rw [Exit.noGoto_ret]
    go_ret
    exact ⟨by rw [HL.out]; rfl,rfl⟩
  ·obtain rfl : j = k:=by omega
   have HL : Hid (r = -1):=by
    show _ = _
    rw [HR.out,leadI,hl,Nat.sub_self]
    rfl
   clear hl
   go_wp2
   try rw [Exit.noGoto_ret]
   go_ret
   exact ⟨by rw [HL.out]; rfl,rfl⟩
end Go.Proofs.YtagijldedngcoaaGreatDoor.Zq

namespace Go.Proofs.YtagijldedngcoaaGreatDoor.Zq
open Go.RowKit Go.Lib

def sw (a n i : Nat) : Nat:=if i = a then n else if i = n then a else i
theorem sw_sw (a n i : Nat) : sw a n (sw a n i) = i:=by
 unfold sw
 by_cases h1 : i = a
 ·rw [if_pos h1]
  by_cases h2 : n = a
  ·rw [if_pos h2]; omega
  ·rw [if_neg h2,if_pos rfl,h1]
 ·rw [if_neg h1]
  by_cases h2 : i = n
  ·rw [if_pos h2,if_pos rfl,h2]
  ·rw [if_neg h2,if_neg h1,if_neg h2]
theorem sw_inj {a n i j : Nat} (h : sw a n i = sw a n j) : i = j:=by
 have:=congrArg (sw a n) h
 rwa [sw_sw,sw_sw] at this
theorem sw_lt {a n i m : Nat} (ha : a < m) (hn : n < m) (hi : i < m) : sw a n i < m:=by
 unfold sw
 split
 ·exact hn
 ·split
  ·exact ha
  ·exact hi
theorem swp_sw (R : Mt) (a n i : Nat) : swp R a n i = R (sw a n i):=by
 unfold swp sw
 by_cases h1 : i = a
 ·rw [if_pos h1,if_pos h1]
 ·rw [if_neg h1,if_neg h1]
  by_cases h2 : i = n
  ·rw [if_pos h2,if_pos h2]
  ·rw [if_neg h2,if_neg h2]
theorem RS.swap {w : World} {B sb f rb m W : Nat} {q cp : Nat→Nat} {R : Mt} (h : RS w B sb f rb m W q cp R) {a n : Nat} (ha : a < m) (hn : n < m) :
  RS ((w.setCell ⟨rb,a,none⟩ (.slice (some ⟨q n,0,none⟩) W (cp n))).setCell ⟨rb,n,none⟩ (.slice (some ⟨q a,0,none⟩) W (cp a))) B sb f rb m W (fun i => q (sw a n i)) (fun i => cp (sw a n i)) (swp R a n):=by
 have gs:=gb_trans (gb_set w rb a (.slice (some ⟨q n,0,none⟩) W (cp n))) (gb_set _ rb n (.slice (some ⟨q a,0,none⟩) W (cp a)))
 refine ⟨h.S.set h.rows (by decide) (by decide) (by decide) gs,h.ltS,h.ltF,Nat.le_trans h.ltB gs.size,h.rge,?_,fun i hi => ?_,fun i hi => h.ge _ (sw_lt ha hn hi),fun i j hi hj e => sw_inj (h.inj _ _ (sw_lt ha hn hi) (sw_lt ha hn hj) e),fun i hi => h.cap _ (sw_lt ha hn hi)⟩
 ·rw [heap_set_list _ (heap_set_list _ h.rows)]
  congr 3
  apply List.ext_getElem?
  intro i
  by_cases hi : i < m
  ·rw [rowsL_get _ _ hi]
   simp only [List.getElem?_set,List.length_set,rowsL_length,rowsL_get q cp hi]
   unfold sw
   by_cases h1 : i = a
   ·by_cases h2 : n = i
    ·rw [if_pos h2,if_pos (by omega),if_pos h1,show n = a by omega]
    ·rw [if_neg h2,if_pos h1.symm,if_pos (by omega),if_pos h1]
   ·rw [if_neg h1]
    by_cases h2 : i = n
    ·rw [if_pos h2.symm,if_pos (by omega),if_pos h2]
    ·rw [if_neg (fun e => h2 e.symm),if_neg (fun e => h1 e.symm),if_neg h2]
  ·rw [List.getElem?_eq_none (by simp [rowsL_length]; omega),List.getElem?_eq_none (by simp [rowsL_length]; omega)]
 ·rw [swp_sw]
  have K:=h.each _ (sw_lt ha hn hi)
  exact K.of_block (gs.block _ K.lt (by simp; exact h.ne _ (sw_lt ha hn hi)))
theorem RS.drewN {w : World} {B sb f rb m W : Nat} {q cp : Nat→Nat} {R : Mt} (h : RS w B sb f rb m W q cp R) (n : Nat) : RS (w.drewN n) B sb f rb m W q cp R :=
 ⟨⟨h.S.b,h.S.fl,h.S.ne⟩,h.ltS,h.ltF,h.ltB,h.rge,h.rows,h.each,h.ge,h.inj,h.cap⟩

theorem reduce_any {w : World} {B sb f rb m W cols : Nat} {q cp : Nat→Nat} {R : Mt} (h : RS w B sb f rb m W q cp R) (hcW : cols ≤ W) (hW : W ≤ 100000) (hm : m ≤ 100000) :
  Calls Tryz.prog 323 #[.pointer (some ⟨sb,0,none⟩),.slice (some ⟨rb,0,none⟩) m m,.int .i64 cols] w fun e w' => e = .returned (.int .i64 (((redu m R cols).2 : Nat) : Int))∧(∃ q' cp',RS w' B sb f rb m W q' cp' (redu m R cols).1)∧Fr B f w w':=by
 have HH:=hide h
 have hltB:=h.ltB
 clear h
 go_enter Tryz.func323,Tryz.ntmps323
 go_wp2
 go_loopw [7,11] (fun ah z wr => ∃ c : Nat,c ≤ cols∧z = .int .i64 c∧ah = .int .i64 (((redu m R c).2 : Nat) : Int)∧(∃ q' cp',RS wr B sb f rb m W q' cp' (redu m R c).1)∧Fr B f w wr) (fun _ z _ => cols - (RowKit.intOf z).toNat)
 case atStart => exact ⟨0,Nat.zero_le _,rfl,rfl,⟨q,cp,HH.out⟩,Fr.refl _ _ _⟩
 case round =>
  obtain ⟨c,hc,rfl,rfl,⟨q',cp',hR⟩,hfr⟩:=hrel
  by_cases hlt : c < cols
  ·have hle:=(red_all m R c).le
   have hst : redu m R (c + 1) = step m (redu m R c) c:=rfl
   obtain ⟨Rc,hRc⟩ : ∃ Rc,Rc = (redu m R c).1:=⟨_,rfl⟩
   obtain ⟨a,ha⟩ : ∃ a,a = (redu m R c).2:=⟨_,rfl⟩
   rw [show redu m R c = (Rc,a) from by rw [hRc,ha]] at hst hle hR ⊢
   simp only at hle hR ⊢
   clear hRc ha
   obtain ⟨k,hk⟩ : ∃ k,a + k = m:=⟨m - a,by omega⟩
   unfold step at hst
   simp only at hst
   rw [show m - a = k by omega] at hst
   have R1:=hR.below ((Below.refl wr.heap.size wr).alloc (Nat.le_refl _) (.cells #[.int .i64 c] 3))
   have F1:=hfr.trans (Fr.of_below (B:=B) (f:=f) ((Below.refl wr.heap.size wr).alloc (Nat.le_refl _) (.cells #[.int .i64 c] 3)) hR.ltB)
   have HX : Hid ((wr.alloc (.cells #[.int .i64 c] 3)).cell? ⟨wr.heap.size,0,none⟩ = some (.int .i64 c)):=by show _ = _; simp
   have HR1:=hide R1
   have HF1:=hide F1
   have HST:=hide hst
   clear R1 F1 hst hR hfr
   have e0 : (0 : Int) ≤ (a : Int):=by omega
   have e1 : (a : Int) ≤ (m : Int):=by omega
   have AI : Hid (∀ (sa : Option Addr) (kk cx : Nat),kk = k→(k = 0 ∨ sa = some ⟨rb,a,none⟩)→Calls Tryz.prog 330 #[.slice sa kk cx,.func (.func 331) #[] #[.pointer (some ⟨wr.heap.size,0,none⟩)]] (wr.alloc (.cells #[.int .i64 c] 3)) fun e w' => e = .returned (.int .i64 (leadI Rc c k a))∧w' = wr.alloc (.cells #[.int .i64 c] 3)):=by
    intro sa kk cx h1 h2
    subst h1
    exact idxR_any HR1.out (by omega) HX.out hk hm h2
   cases hl : lead Rc c k a with
   | none =>
    have HS2 : Hid (redu m R (c + 1) = (Rc,a)):=by show _ = _; rw [HST.out,hl]
    rw [show leadI Rc c k a = -1 by rw [leadI,hl]] at AI
    clear hl HST
    by_cases hma : m = a
    ·have hma' : (m = a) = True:=eq_true hma
     have hk0 : k = 0:=by omega
     have hmk : m - a = k:=by omega
     clear hma
     go_wp2_with fail
     refine Calls.mono (AI.out _ _ _ (by first | exact hmk | exact hk0.symm) (.inl hk0)) ?_
     rintro e w2 ⟨rfl,hw2⟩
     subst w2
     go_wp2
     exact ⟨⟨c + 1,by omega,by go_num,by rw [HS2.out],⟨q',cp',by rw [HS2.out]; exact HR1.out⟩,HF1.out⟩,by simp [RowKit.intOf]; omega⟩
    ·go_wp2_with fail
     refine Calls.mono (AI.out _ _ _ (by omega) (.inr rfl)) ?_
     rintro e w2 ⟨rfl,hw2⟩
     subst w2
     go_wp2
     exact ⟨⟨c + 1,by omega,by go_num,by rw [HS2.out],⟨q',cp',by rw [HS2.out]; exact HR1.out⟩,HF1.out⟩,by simp [RowKit.intOf]; omega⟩
   | some n =>
    obtain ⟨n1,n2,n3,n4⟩:=lead_some hl
    obtain ⟨d,hd⟩ : ∃ d,n = a + d:=⟨n - a,by omega⟩
    have hdi : (d : Int) + (a : Int) = (n : Int):=by omega
    rw [show leadI Rc c k a = (d : Int) by rw [leadI,hl]; show (n : Int) - (a : Int) = (d : Int); omega] at AI
    have HS2 : Hid (redu m R (c + 1) = (elim (swp Rc a n) a c,a + 1)):=by show _ = _; rw [HST.out,hl]
    have ham : a < m:=by omega
    have hnm : n < m:=by omega
    have n3':=hide n3
    clear hl HST n4 hd n3 n2 n1
    have e2 : ¬ (a = m):=by omega
    have e3 : ¬ (m = a):=by omega
    have e4 : (a : Int) < (m : Int):=by omega
    have e5 : (n : Int) < (m : Int):=by omega
    have e6 : (0 : Int) ≤ (n : Int):=by omega
    have z1:=HR1.out.cell a ham
    have z2:=HR1.out.cell n hnm
    have z3:=HR1.out.free a
    have z4:=HR1.out.free n
    go_wp2_with fail
    refine Calls.mono (AI.out _ _ _ (by omega) (.inr rfl)) ?_
    rintro e w2 ⟨rfl,hw2⟩
    clear AI
    have HW2:=hide hw2
    rw [← hw2] at z1 z2 z3 z4
    have hR2 : RS w2 B sb f rb m W q' cp' Rc:=by rw [hw2]; exact HR1.out
    have hF2 : Fr B f w w2:=by rw [hw2]; exact HF1.out
    have hX2 : w2.cell? ⟨wr.heap.size,0,none⟩ = some (.int .i64 c):=by rw [hw2]; exact HX.out
    have hrb : wr.heap.size ≠ rb:=by
     intro e
     have h1:=hR2.rows
     rw [← e,hw2,heap_alloc_new] at h1
     simp at h1
    obtain ⟨o1,y1⟩ : ∃ o,(w2.setCell ⟨rb,a,none⟩ (.slice (some ⟨q' n,0,none⟩) W (cp' n))).cell? ⟨rb,n,none⟩ = some o:=by
     rw [cell_of_row _ rb n _ _ _ (heap_set_list _ hR2.rows),List.getElem?_toArray]
     exact ⟨_,List.getElem?_eq_getElem (by rw [List.length_set,rowsL_length]; exact hnm)⟩
    have HR2:=hide hR2
    have HF2:=hide hF2
    clear hw2 HW2 HR1 HF1 HX hR2 hF2
    go_wp2
    go_region
    have hSw:=(HR2.out.swap ham hnm).drewN 1
    have gs:=gb_trans (gb_set w2 rb a (.slice (some ⟨q' n,0,none⟩) W (cp' n))) (gb_set _ rb n (.slice (some ⟨q' a,0,none⟩) W (cp' a)))
    have hF3:=(HF2.out.trans (Fr.of_gb gs (.inr HR2.out.rge) HR2.out.ltB)).drewN 1
    have hX3 : (((w2.setCell ⟨rb,a,none⟩ (.slice (some ⟨q' n,0,none⟩) W (cp' n))).setCell ⟨rb,n,none⟩ (.slice (some ⟨q' a,0,none⟩) W (cp' a))).drewN 1).cell? ⟨wr.heap.size,0,none⟩ = some (.int .i64 c) :=
     ((cell_off hrb).trans (cell_off hrb)).trans hX2
    have hD : ((w2.setCell ⟨rb,a,none⟩ (.slice (some ⟨q' n,0,none⟩) W (cp' n))).setCell ⟨rb,n,none⟩ (.slice (some ⟨q' a,0,none⟩) W (cp' a))).drew = ((w2.setCell ⟨rb,a,none⟩ (.slice (some ⟨q' n,0,none⟩) W (cp' n))).setCell ⟨rb,n,none⟩ (.slice (some ⟨q' a,0,none⟩) W (cp' a))).drewN 1:=rfl
    rw [hD]
    generalize ((w2.setCell ⟨rb,a,none⟩ (.slice (some ⟨q' n,0,none⟩) W (cp' n))).setCell ⟨rb,n,none⟩ (.slice (some ⟨q' a,0,none⟩) W (cp' a))).drewN 1 = w3 at *
    have HC : Hid _:=clear_any hSw ham (by omega : c < W) hW hm (by rw [swp,if_pos rfl]; exact n3'.out)
    have HF3:=hide hF3
    clear hSw gs hF3 hD y1 z1 z2 z3 z4 hX2 HR2 HF2
    go_wp2_with fail
    refine Calls.mono HC.out ?_
    rintro e w4 ⟨rfl,r4,f4⟩
    have HR4:=hide r4
    have HF4:=hide (HF3.out.trans f4)
    clear r4 f4 HC HF3 hX3
    go_wp2
    exact ⟨⟨c + 1,by omega,by go_num,by rw [HS2.out]; go_num,⟨_,_,by rw [HS2.out]; exact HR4.out⟩,HF4.out⟩,by simp [RowKit.intOf]; omega⟩
  ·obtain rfl : c = cols:=by omega
   have HR:=hide (show ∃ q' cp',RS wr B sb f rb m W q' cp' (redu m R c).1 from ⟨q',cp',hR⟩)
   have HF:=hide hfr
   clear hR hfr
   go_wp2
   try rw [Exit.noGoto_ret]
   go_ret
   exact ⟨rfl,HR.out,HF.out⟩
end Go.Proofs.YtagijldedngcoaaGreatDoor.Zq

namespace Go.Proofs.YtagijldedngcoaaGreatDoor.Zq
open Go.RowKit Go.Lib

theorem zero_kcells (n : Nat) : Builtin.zeroCells #[.int .i64 0] n = (kcells n (fun _ => 0)).toArray:=by
 unfold Builtin.zeroCells
 apply Array.toList_inj.1
 apply List.ext_getElem?
 intro i
 by_cases hi : i < n
 ·simp [kcells_get (fun _ => (0 : K)) hi,hi,Nat.mod_one]
  rfl
 ·simp [hi,kcells_length]
theorem kcells_one {n : Nat} {G : Nat→K} : ∀ u ∈ kcells n G,u.oneCell' = true:=by
 intro u hu
 obtain ⟨_,_,rfl⟩:=List.mem_map.1 hu
 rfl
theorem kcells_app (c n : Nat) (G G' : Nat→K) : kcells c G ++ kcells n G' = kcells (c + n) (fun k => if k < c then G k else G' (k - c)):=by
 apply List.ext_getElem?
 intro i
 by_cases h1 : i < c
 ·rw [List.getElem?_append_left (by rw [kcells_length]; omega),kcells_get _ h1,kcells_get _ (by omega),if_pos h1]
 ·rw [List.getElem?_append_right (by rw [kcells_length]; omega),kcells_length]
  by_cases h2 : i < c + n
  ·rw [kcells_get _ (by omega),kcells_get _ h2,if_neg h1]
  ·rw [List.getElem?_eq_none (by rw [kcells_length]; omega),List.getElem?_eq_none (by rw [kcells_length]; omega)]
theorem RD.src {w : World} {b o n : Nat} {H : Nat→K} (h : RD w b o n H) : ∀ j v,(kcells n H)[j]? = some v→w.cell? ((⟨b,o,none⟩ : Addr).add j) = some v:=by
 intro j v hj
 have hj' : j < n:=by have:=(List.getElem?_eq_some_iff.1 hj).1; rwa [kcells_length] at this
 rw [kcells_get _ hj'] at hj
 cases hj
 rw [Addr.add_mid]
 exact h j hj'

theorem append_wide {w : World} {b o c n : Nat} {H : Nat→K} (hR : RD w b o c H) (h1 : 1 ≤ c) (hc : c ≤ 255) (hn1 : 1 ≤ n) (hn : n ≤ 255) :
  ∃ cap w',(Builtin.append_ #[162,3] 162 #[.slice (some ⟨b,o,none⟩) c c,.int .i64 n]).run Tryz.prog w = .ok (.slice (some ⟨w.heap.size,0,none⟩) (c + n) cap) w'∧KB w' w.heap.size (c + n) (fun k => if k < c then H k else 0)∧c + n ≤ cap∧Below w.heap.size w w':=by
 obtain ⟨i0,hi,hz0,hz1,hz2⟩:=info_parts Tryz.info3
 have hold:=run_firstCells_some (P:=Tryz.prog) w.drew i0.size c ⟨b,o,none⟩ c c (kcells c H) (by rw [kcells_length,hz1,Nat.mul_one]) (by simpa using hR.src)
 have hr : (Builtin.append_ #[162,3] 162 #[.slice (some ⟨b,o,none⟩) c c,.int .i64 n]).run Tryz.prog w = .ok (.slice (some ⟨w.heap.size,0,none⟩) (c + n) (grownCap w (c + n) c 3)) (w.drew.alloc (.cells ((kcells c H).toArray ++ Builtin.zeroCells (Value.int .i64 0).cells n ++ Builtin.zeroCells (Value.int .i64 0).cells (grownCap w (c + n) c 3 - (c + n))) 3)):=by
  have hn0 : n ≠ 0:=by omega
  have hcn : ¬ (c + n ≤ c):=by omega
  have hw : IntKind.i64.wrap (n : Int) = n:=by rw [IntKind.wrap_i64]; omega
  have h63' : ¬ (9223372036854775807 < ((c : Int) + (n : Int))):=by omega
  have h48' : ¬ (281474976710656 < Builtin.nextslicecap (c + n) c * i0.bytes):=by
   have:=nextslicecap_le (need:=c + n) (old:=c) (by omega)
   rw [hz2]; omega
  have h48i : ¬ (281474976710656 < (n : Int) * (i0.bytes : Int)):=by rw [hz2]; omega
  have hneg : ¬ ((n : Int) < 0):=by omega
  have hns : ¬ (n * i0.size = 0):=Nat.mul_ne_zero hn0 (by omega)
  simp [Builtin.append_,run_underlying Tryz.underlying162,run_underlying Tryz.underlying3,sizeOf,typeInfo,zeroValue,hi,hz0,asInt,asIntOf,hw,hneg,hns,h63',h48',h48i,hcn,hold,Question.forced,newRow,grownCap]
 refine ⟨_,_,hr,?_,grownCap_ge w (c + n) c 3,((Below.refl _ _).drew).alloc (Nat.le_refl _) _⟩
 have e : (kcells c H).toArray ++ Builtin.zeroCells (Value.int .i64 0).cells n = (kcells (c + n) (fun k => if k < c then H k else 0)).toArray:=by
  rw [show (Value.int .i64 0).cells = #[Value.int .i64 0] from rfl,zero_kcells,List.append_toArray,kcells_app]
 obtain ⟨Z,hZ⟩ : ∃ Z : List Value,Z = (Builtin.zeroCells (Value.int .i64 0).cells (grownCap w (c + n) c 3 - (c + n))).toList:=⟨_,rfl⟩
 refine ⟨Z,?_⟩
 rw [e,show ((kcells (c + n) (fun k => if k < c then H k else 0)).toArray ++ Builtin.zeroCells (Value.int .i64 0).cells (grownCap w (c + n) c 3 - (c + n))) = (kcells (c + n) (fun k => if k < c then H k else 0) ++ Z).toArray by apply Array.toList_inj.1; rw [hZ]; simp]
 exact heap_alloc_new w.drew (.cells (kcells (c + n) (fun k => if k < c then H k else 0) ++ Z).toArray 3)

/-! ### The rows as they are made -/
def rowsP (m W i : Nat) (q cp : Nat→Nat) : List Value:=(List.range m).map fun t => if t < i then Value.slice (some ⟨q t,0,none⟩) W (cp t) else Value.slice none 0 0
theorem rowsP_length (m W i : Nat) (q cp : Nat→Nat) : (rowsP m W i q cp).length = m:=by simp [rowsP]
theorem rowsP_get {m W i t : Nat} (q cp : Nat→Nat) (h : t < m) : (rowsP m W i q cp)[t]? = some (if t < i then Value.slice (some ⟨q t,0,none⟩) W (cp t) else Value.slice none 0 0):=by
 rw [rowsP,List.getElem?_map,List.getElem?_range h]; rfl
def up (q : Nat→Nat) (i g : Nat) : Nat→Nat:=fun t => if t = i then g else q t
theorem up_at (q : Nat→Nat) (i g : Nat) : up q i g i = g:=if_pos rfl
theorem up_ne {q : Nat→Nat} {i g t : Nat} (h : t ≠ i) : up q i g t = q t:=if_neg h
theorem rowsP_set (m W i : Nat) (q cp : Nat→Nat) (g c : Nat) : (rowsP m W i q cp).set i (.slice (some ⟨g,0,none⟩) W c) = rowsP m W (i + 1) (up q i g) (up cp i c):=by
 apply List.ext_getElem?
 intro t
 rw [List.getElem?_set,rowsP_length]
 by_cases ht : t < m
 ·rw [rowsP_get _ _ ht,rowsP_get _ _ ht]
  by_cases e : i = t
  ·subst e; rw [if_pos rfl,if_pos ht,if_pos (by omega),up_at,up_at]
  ·rw [if_neg e,up_ne (fun h => e h.symm),up_ne (fun h => e h.symm)]
   by_cases l : t < i
   ·rw [if_pos l,if_pos (by omega)]
   ·rw [if_neg l,if_neg (by omega)]
 ·rw [List.getElem?_eq_none (by rw [rowsP_length]; omega),List.getElem?_eq_none (by rw [rowsP_length]; omega)]
  split
  ·rw [if_neg (by omega)]
  ·rfl
theorem made_rows (m W : Nat) (q cp : Nat→Nat) : madeCells #[.slice none 0 0] m = (rowsP m W 0 q cp).toArray:=by
 apply Array.toList_inj.1
 rw [toList_madeCells_one]
 apply List.ext_getElem?
 intro i
 by_cases hi : i < m
 ·rw [List.toList_toArray,rowsP_get _ _ hi,if_neg (Nat.not_lt_zero _)]; simp [hi]
 ·rw [List.getElem?_eq_none (by simp; omega),List.getElem?_eq_none (by simp [rowsP_length]; omega)]

structure Bd (B sb f rb m W i : Nat) (q cp : Nat→Nat) (R : Mt) (w : World) : Prop where
 S : SP w sb f
 ltS : sb < B
 ltF : f < B
 ltB : B ≤ w.heap.size
 rge : B ≤ rb
 rows : w.heap[rb]? = some (.cells (rowsP m W i q cp).toArray 162 (0,0))
 each : ∀ t,t < i→KB w (q t) W (R t)
 ge : ∀ t,t < i→B ≤ q t
 inj : ∀ s t,s < i→t < i→q s = q t→s = t
 cap : ∀ t,t < i→W ≤ cp t
section
variable {w w' : World} {B sb f rb m W i : Nat} {q cp : Nat→Nat} {R : Mt}
theorem Bd.rlt (h : Bd B sb f rb m W i q cp R w) : rb < w.heap.size:=lt_of_block h.rows
theorem Bd.free (h : Bd B sb f rb m W i q cp R w) (t : Nat) : w.frozen? ⟨rb,t,none⟩ = false:=frozen_of_row w rb t _ _ h.rows
theorem Bd.cell (h : Bd B sb f rb m W i q cp R w) (t : Nat) (ht : t < m) : w.cell? ⟨rb,t,none⟩ = some (if t < i then Value.slice (some ⟨q t,0,none⟩) W (cp t) else Value.slice none 0 0):=by
 rw [cell_of_row w rb t _ _ _ h.rows,List.getElem?_toArray,rowsP_get q cp ht]
theorem Bd.below (h : Bd B sb f rb m W i q cp R w) (hb : Below w.heap.size w w') : Bd B sb f rb m W i q cp R w' :=
 ⟨h.S.below hb (Nat.le_refl _),h.ltS,h.ltF,Nat.le_trans h.ltB hb.size,h.rge,(hb.block rb h.rlt).trans h.rows,fun t ht => (h.each t ht).below hb (Nat.le_refl _),h.ge,h.inj,h.cap⟩
theorem Bd.ne (h : Bd B sb f rb m W i q cp R w) {g n : Nat} {G : Nat→K} (hG : KB w g n G) : g ≠ rb:=by
 intro e
 obtain ⟨Z,hZ⟩:=hG
 rw [e,h.rows] at hZ
 simp at hZ
theorem Bd.put (h : Bd B sb f rb m W i q cp R w) {g c : Nat} (hK : KB w g W (R i)) (hg : B ≤ g) (hn : ∀ t,t < i→q t < g) (hc : W ≤ c) :
  Bd B sb f rb m W (i + 1) (up q i g) (up cp i c) R (w.setCell ⟨rb,i,none⟩ (.slice (some ⟨g,0,none⟩) W c)):=by
 have gs:=gb_set w rb i (.slice (some ⟨g,0,none⟩) W c)
 refine ⟨h.S.set h.rows (by decide) (by decide) (by decide) gs,h.ltS,h.ltF,Nat.le_trans h.ltB gs.size,h.rge,by rw [heap_set_list _ h.rows,rowsP_set],fun t ht => ?_,fun t ht => ?_,fun s t hs ht e => ?_,fun t ht => ?_⟩
 ·by_cases e : t = i
  ·rw [e,up_at]; exact hK.of_block (gs.block _ hK.lt (by simp; exact h.ne hK))
  ·rw [up_ne e]
   have k:=h.each t (by omega)
   exact k.of_block (gs.block _ k.lt (by simp; exact h.ne k))
 ·by_cases e : t = i
  ·rw [e,up_at]; exact hg
  ·rw [up_ne e]; exact h.ge t (by omega)
 ·by_cases e1 : s = i
  ·by_cases e2 : t = i
   ·omega
   ·rw [e1,up_at,up_ne e2] at e
    have:=hn t (by omega)
    omega
  ·by_cases e2 : t = i
   ·rw [e2,up_at,up_ne e1] at e
    have:=hn s (by omega)
    omega
   ·rw [up_ne e1,up_ne e2] at e
    exact h.inj s t (by omega) (by omega) e
 ·by_cases e : t = i
  ·rw [e,up_at]; exact hc
  ·rw [up_ne e]; exact h.cap t (by omega)
theorem Bd.all (h : Bd B sb f rb m W m q cp R w) : RS w B sb f rb m W q cp R:=by
 refine ⟨h.S,h.ltS,h.ltF,h.ltB,h.rge,?_,h.each,h.ge,h.inj,h.cap⟩
 rw [h.rows,show rowsP m W m q cp = rowsL m W q cp from ?_]
 apply List.ext_getElem?
 intro t
 by_cases ht : t < m
 ·rw [rowsP_get _ _ ht,rowsL_get _ _ ht,if_pos ht]
 ·rw [List.getElem?_eq_none (by rw [rowsP_length]; omega),List.getElem?_eq_none (by rw [rowsL_length]; omega)]
end
end Go.Proofs.YtagijldedngcoaaGreatDoor.Zq

namespace Go.Proofs.YtagijldedngcoaaGreatDoor.Zq
open Go.RowKit Go.Lib

theorem step_append_run {P : Program} {ops : Array Oper} {o : Oper} {a : Act} {w : World} {K : Act→World→Prop} {Q : Exit→Act→World→Prop} {E : Prop} (hgd : o.guard = none) (s x : Operand) (t tn : TypeId)
  (ho : o.op = .call { callee:=.builtin .append,args:=#[s,x],argTypes:=#[t,tn] }) (vs vx : Value) (hs : a.eval s = vs) (hx : a.eval x = vx)
  (v' : Value) (w' : World) (hr : (Builtin.append_ #[t,tn] o.type #[vs,vx]).run P w = .ok v' w') (h : K (a.put o.dst v') w') :
  if Region.wanted o (yielded ops a.tmps) = true then Oper.wp P o a w K Q else E:=by
 have hw : Region.wanted o (yielded ops a.tmps) = true:=by simp [Region.wanted,hgd]
 rw [if_pos hw]
 exact wp_append_run w s x t tn ho vs vx hs hx v' w' hr h

def wideM (c : Nat) (A : Nat→K) : Mt:=fun t k => if k < c then A (t * c + k) else dl t (k - c)
theorem Bd.congr {w : World} {B sb f rb m W i : Nat} {q cp : Nat→Nat} {R R' : Mt} (h : Bd B sb f rb m W i q cp R w) (e : ∀ t,t < i→∀ k,k < W→R t k = R' t k) : Bd B sb f rb m W i q cp R' w :=
 ⟨h.S,h.ltS,h.ltF,h.ltB,h.rge,h.rows,fun t ht => (h.each t ht).congr (fun k hk => e t ht k hk),h.ge,h.inj,h.cap⟩
theorem Bd.drewN {w : World} {B sb f rb m W i : Nat} {q cp : Nat→Nat} {R : Mt} (h : Bd B sb f rb m W i q cp R w) (n : Nat) : Bd B sb f rb m W i q cp R (w.drewN n) :=
 ⟨⟨h.S.b,h.S.fl,h.S.ne⟩,h.ltS,h.ltF,h.ltB,h.rge,h.rows,h.each,h.ge,h.inj,h.cap⟩
theorem Bd.set {w : World} {B sb f rb m W i : Nat} {q cp : Nat→Nat} {R : Mt} (h : Bd B sb f rb m W i q cp R w) {s x : Nat} (hs : s < i) (hx : x < W) (v : K) :
  Bd B sb f rb m W i q cp (fun t k => if t = s∧k = x then v else R t k) (w.setCell ⟨q s,x,none⟩ (.int .i64 ((v.v : Nat) : Int))):=by
 have gs:=gb_set w (q s) x (.int .i64 ((v.v : Nat) : Int))
 have ks:=h.each s hs
 refine ⟨h.S.kset ks gs,h.ltS,h.ltF,Nat.le_trans h.ltB gs.size,h.rge,(gs.block rb h.rlt (by simp; exact fun e => h.ne ks e.symm)).trans h.rows,fun t ht => ?_,h.ge,h.inj,h.cap⟩
 by_cases e : t = s
 ·subst e
  exact (ks.set x hx v).congr (fun k _ => by simp)
 ·have kt:=h.each t ht
  exact (kt.of_block (gs.block _ kt.lt (by simp; exact fun z => e (h.inj t s ht hs z)))).congr (fun k _ => by rw [if_neg (fun z => e z.1)])

theorem beside_any {w : World} {sb f r c : Nat} {va : Value} {A : Nat→K} (hS : SP w sb f) (a1 : 1 ≤ r) (a2 : r ≤ 255) (c1 : 1 ≤ c) (c2 : c ≤ 255)
  (hA : NX w f va (r * c) (fun k => (((A k).v : Nat) : Int))) :
  Calls Tryz.prog 322 #[.agg #[.int .i64 r,.int .i64 c,va]] w fun e w' =>
   ∃ rb q cp,e = .returned (.slice (some ⟨rb,0,none⟩) r r)∧RS w' w.heap.size sb f rb r (c + r) q cp (wideM c A)∧Below w.heap.size w w':=by
 have hNA : r * c ≤ 255 * 255:=Nat.mul_le_mul a2 c2
 have hA0 : r * c ≠ 0:=Nat.mul_ne_zero (by omega) (by omega)
 obtain ⟨ba,oa,cpa,rfl,ha3,ha4,ha5⟩:=hA.at hA0
 have QA : Hid (∀ i,i < r→(i + 1) * c ≤ r * c):=fun i hi => row_in hi
 generalize r * c = NA at *
 obtain ⟨W,hW⟩ : ∃ W,W = c + r:=⟨_,rfl⟩
 rw [← hW]
 have hlt:=hS.lt
 have hltf:=hS.ltf
 have S1:=hS.alloc (.cells #[.int .i64 r,.int .i64 c,.slice (some ⟨ba,oa,none⟩) NA cpa] 313)
 have X1:=Bx.new w r c (.slice (some ⟨ba,oa,none⟩) NA cpa)
 have L1:=below_alloc (Below.refl w.heap.size w) (.cells #[.int .i64 r,.int .i64 c,.slice (some ⟨ba,oa,none⟩) NA cpa] 313)
 have HA:=hide hA
 have hmk : ∀ w : World,_:=fun w => run_make_row' (P:=Tryz.prog) 410 162 (.slice none 0 0) 24 Tryz.underlying410 Tryz.info162 rfl .i64 .i64 r (by omega) (by omega) w
 have I : ∃ q cp,Bd w.heap.size sb f (w.heap.size + 1) r W 0 q cp (wideM c A) ((w.alloc (.cells #[.int .i64 r,.int .i64 c,.slice (some ⟨ba,oa,none⟩) NA cpa] 313)).alloc (.cells (madeCells #[.slice none 0 0] r) 162)):=by
  refine ⟨fun _ => 0,fun _ => 0,S1.alloc _,hlt,hltf,by simp; omega,by omega,?_,fun t ht => absurd ht (Nat.not_lt_zero t),fun t ht => absurd ht (Nat.not_lt_zero t),fun t _ ht => absurd ht (Nat.not_lt_zero t),fun t ht => absurd ht (Nat.not_lt_zero t)⟩
  rw [made_rows r W (fun _ => 0) (fun _ => 0)]
  have:=heap_alloc_new (w.alloc (.cells #[.int .i64 r,.int .i64 c,.slice (some ⟨ba,oa,none⟩) NA cpa] 313)) (.cells (rowsP r W 0 (fun _ => 0) (fun _ => 0)).toArray 162)
  simp only [show (w.alloc (.cells #[.int .i64 r,.int .i64 c,.slice (some ⟨ba,oa,none⟩) NA cpa] 313)).heap.size = w.heap.size + 1 by simp] at this
  exact this
 have HI:=hide I
 have HX:=hide (X1.alloc (.cells (madeCells #[.slice none 0 0] r) 162))
 have HL:=hide (below_alloc L1 (.cells (madeCells #[.slice none 0 0] r) 162))
 have HWW:=hide hW
 have hWi : (c : Int) + (r : Int) = (W : Int):=by omega
 clear I S1 X1 L1 hS hA hW
 go_enter Tryz.func322,Tryz.ntmps322
 go_wp2
 go_loopw [10] (fun z wr => ∃ i : Nat,i ≤ r∧z = .int .i64 i∧(∃ q cp,Bd w.heap.size sb f (w.heap.size + 1) r W i q cp (wideM c A) wr)∧Bx wr w.heap.size r c (.slice (some ⟨ba,oa,none⟩) NA cpa)∧Below w.heap.size w wr) (fun z _ => r - (RowKit.intOf z).toNat)
 case atStart => exact ⟨0,Nat.zero_le _,rfl,HI.out,HX.out,HL.out⟩
 case round =>
  obtain ⟨i,hi,rfl,⟨q,cp,hB⟩,hX,hL⟩:=hrel
  clear HI HX HL
  by_cases hlt1 : i < r
  ·obtain ⟨x,hx⟩ : ∃ x,x = oa + i * c:=⟨_,rfl⟩
   have z1:=hB.cell i hlt1
   rw [if_neg (Nat.lt_irrefl i)] at z1
   have R1 : Hid (∀ (w' : World),Below wr.heap.size wr w'→Calls Tryz.prog 261 #[.agg #[.int .i64 r,.int .i64 c,.slice (some ⟨ba,oa,none⟩) NA cpa],.int .i64 i] w' fun e w'' => e = .returned (.slice (some ⟨ba,x,none⟩) c c)∧Below wr.heap.size wr w''∧w''.cell? ⟨w.heap.size,0,none⟩ = some (.int .i64 r)∧w''.cell? ⟨w.heap.size,1,none⟩ = some (.int .i64 c)∧w''.cell? ⟨w.heap.size,2,none⟩ = some (.slice (some ⟨ba,oa,none⟩) NA cpa)):=by
    intro w' hb
    refine (row_at w' i hx (by omega) c1 c2 (QA.out i hlt1) ha3).mono ?_
    rintro e w'' ⟨rfl,k⟩
    have k':=below_step hb k
    have X:=hX.below k' (Nat.le_refl _)
    exact ⟨rfl,k',X.cell0,X.cell1,X.cell2⟩
   have AW : Hid (∀ (w' : World),Below wr.heap.size wr w'→∃ cap wc,(Builtin.append_ #[162,3] 162 #[.slice (some ⟨ba,x,none⟩) c c,.int .i64 r]).run Tryz.prog w' = .ok (.slice (some ⟨w'.heap.size,0,none⟩) W cap) wc∧(KB wc w'.heap.size W (fun k => if k < c then A (i * c + k) else 0)∧W ≤ cap∧Below wr.heap.size wr wc∧wr.heap.size ≤ w'.heap.size)∧wc.cell? ⟨w.heap.size,0,none⟩ = some (.int .i64 r)∧wc.cell? ⟨w.heap.size,1,none⟩ = some (.int .i64 c)∧wc.cell? ⟨w.heap.size,2,none⟩ = some (.slice (some ⟨ba,oa,none⟩) NA cpa)∧wc.cell? ⟨w.heap.size + 1,i,none⟩ = some (.slice none 0 0)∧wc.frozen? ⟨w.heap.size + 1,i,none⟩ = false):=by
    intro w' hb
    have hrd : RD w' ba x c (fun k => A (i * c + k)):=fun l hl => by
     have:=(HA.out.grown (gb_below (below_step hL hb) (some f))).cell_at (i * c + l) (Nat.lt_of_lt_of_le (by rw [Nat.add_mul,Nat.one_mul]; omega) (QA.out i hlt1))
     rw [show x + l = oa + (i * c + l) by omega]
     exact this
    obtain ⟨cap,wc,h1,h2,h3,h4⟩:=append_wide hrd c1 c2 a1 a2
    rw [← HWW.out] at h1 h2 h3
    have k':=below_step hb h4
    have X:=hX.below k' (Nat.le_refl _)
    have B':=hB.below k'
    exact ⟨cap,wc,h1,⟨h2,h3,k',hb.size⟩,X.cell0,X.cell1,X.cell2,by rw [B'.cell i hlt1,if_neg (Nat.lt_irrefl i)],B'.free i⟩
   have m0:=hX.cell0
   have m1:=hX.cell1
   have m2:=hX.cell2
   have HB:=hide hB
   have HX:=hide hX
   have HL:=hide hL
   have np : w.heap.size ≠ w.heap.size + 1:=by omega
   have b0 : (0 : Int) ≤ (i : Int):=by omega
   have b1 : (i : Int) < (r : Int):=by omega
   clear hB hX hL hx
   go_wp2_with fail
   go_region_held3 (fun w' => w'.cell? ⟨w.heap.size,0,none⟩ = some (.int .i64 r)∧w'.cell? ⟨w.heap.size,1,none⟩ = some (.int .i64 c)∧w'.cell? ⟨w.heap.size,2,none⟩ = some (.slice (some ⟨ba,oa,none⟩) NA cpa)) (first | assumption | exact ⟨by assumption,by assumption,by assumption⟩ | exact ⟨m0,m1,m2⟩ | exact ⟨(cell_off np).trans (by assumption),(cell_off np).trans (by assumption),(cell_off np).trans (by assumption)⟩)
    (first
     | (go_at_call 261; refine (R1.out _ (by first | assumption | exact (Below.refl _ _).drew)).mono ?_; rintro e wa ⟨rfl,ka,ka1,ka2,ka3⟩)
     | (obtain ⟨cap,wc,hr,kc,kc1,kc2,kc3,kc4,kc5⟩:=AW.out _ ka; refine step_append_run rfl _ _ 162 3 rfl _ _ rfl rfl _ _ hr ?_))
   obtain ⟨kK,kcap,kL,kge⟩:=kc
   have hq : ∀ t,t < i→q t < wa.heap.size:=fun t ht => Nat.lt_of_lt_of_le (HB.out.each t ht).lt kge
   have B4 : Bd w.heap.size sb f (w.heap.size + 1) r W i q cp (fun t => if t = i then (fun k => if k < c then A (i * c + k) else 0) else wideM c A t) wc:=(HB.out.below kL).congr (fun t ht k _ => by rw [if_neg (by omega)])
   have B5:=B4.put (g:=wa.heap.size) (c:=cap) (by rw [if_pos rfl]; exact kK) (Nat.le_trans HB.out.ltB kge) hq kcap
   have gs:=gb_set wc (w.heap.size + 1) i (.slice (some ⟨wa.heap.size,0,none⟩) W cap)
   have X5:=(HX.out.below kL (Nat.le_refl _)).of_block (gs.block _ (HX.out.below kL (Nat.le_refl _)).lt (by simp))
   have L5:=below_gb (below_step HL.out kL) gs (by omega) (Nat.le_trans HL.out.size kL.size)
   have y1:=B5.cell i hlt1
   rw [if_pos (by omega),up_at,up_at] at y1
   have K5:=B5.each i (by omega)
   rw [up_at,if_pos rfl] at K5
   have hciW : c + i < W:=by rw [HWW.out]; omega
   have y2:=K5.cell (c + i) hciW
   have y3:=K5.free (c + i)
   have y4:=X5.cell1
   have HB5:=hide B5
   have HX5:=hide X5
   have HL5:=hide L5
   generalize wc.setCell ⟨w.heap.size + 1,i,none⟩ (.slice (some ⟨wa.heap.size,0,none⟩) W cap) = w5 at *
   clear kK kcap kL kge hq B4 B5 gs X5 L5 K5 HB HX HL R1 AW ka ka1 ka2 ka3 hr kc1 kc2 kc3 kc4 kc5 m0 m1 m2 z1
   generalize wa.heap.size = g at *
   have d0 : (0 : Int) ≤ (c : Int) + (i : Int):=by omega
   have d1 : (c : Int) + (i : Int) < (W : Int):=by omega
   have d2 : ((c : Int) + (i : Int)).toNat = c + i:=by omega
   go_wp2
   go_region
   have B6:=(HB5.out.set (s:=i) (x:=c + i) (by omega) hciW 1).drewN 1
   rw [up_at] at B6
   have gs:=gb_set w5 g (c + i) (.int .i64 1)
   have hgg:=HB5.out.each i (by omega)
   rw [up_at] at hgg
   have X6 : Bx ((w5.setCell ⟨g,c + i,none⟩ (.int .i64 1)).drewN 1) w.heap.size r c (.slice (some ⟨ba,oa,none⟩) NA cpa):=HX5.out.of_block (gs.block _ HX5.out.lt (by simp; exact HX5.out.ne hgg))
   have hge:=HB5.out.ge i (by omega)
   rw [up_at] at hge
   have L6:=below_drew (below_gb HL5.out gs hge HL5.out.size) 1
   have HB6:=hide B6
   have HX6:=hide X6
   have HL6:=hide L6
   clear B6 X6 L6 gs hgg hge HB5 HX5 HL5 y1 y2 y3 y4
   go_wp2
   refine ⟨⟨i + 1,by omega,by go_num,⟨_,_,HB6.out.congr (fun t ht k hk => ?_)⟩,HX6.out,HL6.out⟩,by simp [RowKit.intOf]; omega⟩
   by_cases e : t = i
   ·subst e
    simp only [true_and,if_true]
    unfold wideM
    by_cases l : k < c
    ·rw [if_neg (by omega),if_pos l,if_pos l]
    ·rw [if_neg l,if_neg l]
     by_cases e2 : k = c + t
     ·rw [if_pos e2,e2,show c + t - c = t by omega,dl_self]
     ·rw [if_neg e2,dl_ne (by omega)]
   ·simp only [e,false_and,if_false]
  ·obtain rfl : i = r:=by omega
   have HB:=hide hB.all
   have HL:=hide hL
   clear hB hX hL
   go_wp2
   go_ret
   exact ⟨_,q,cp,rfl,HB.out,HL.out⟩
end Go.Proofs.YtagijldedngcoaaGreatDoor.Zq

namespace Go.Proofs.YtagijldedngcoaaGreatDoor.Zq
open K

def SL (l : List Nat) (f : Nat→K) : K:=l.foldr (fun a s => f a + s) 0
theorem SL_cons (a : Nat) (l : List Nat) (f : Nat→K) : SL (a :: l) f = f a + SL l f:=rfl
theorem SL_congr {l : List Nat} {f g : Nat→K} (h : ∀ a ∈ l,f a = g a) : SL l f = SL l g:=by
 induction l with
 | nil => rfl
 | cons a l ih => rw [SL_cons,SL_cons,h a (by simp),ih (fun b hb => h b (by simp [hb]))]
theorem SL_add (l : List Nat) (f g : Nat→K) : SL l (fun a => f a + g a) = SL l f + SL l g:=by
 induction l with
 | nil => exact (add_zero 0).symm
 | cons a l ih => rw [SL_cons,SL_cons,SL_cons,ih,add_assoc,add_assoc,add_left_comm (g a)]
theorem SL_mul (l : List Nat) (c : K) (f : Nat→K) : c * SL l f = SL l (fun a => c * f a):=by
 induction l with
 | nil => exact mul_zero c
 | cons a l ih => rw [SL_cons,SL_cons,mul_add,ih]
theorem SL_append (l l' : List Nat) (f : Nat→K) : SL (l ++ l') f = SL l f + SL l' f:=by
 induction l with
 | nil => exact (zero_add _).symm
 | cons a l ih => rw [List.cons_append,SL_cons,SL_cons,ih,add_assoc]
theorem SL_range (n : Nat) (f : Nat→K) : SL (List.range n) f = S n f:=by
 induction n with
 | zero => rfl
 | succ n ih => rw [List.range_succ,SL_append,ih,S,SL_cons]; show _ + (f n + 0) = _; rw [add_zero]
theorem SL_filter (l : List Nat) (p : Nat→Bool) (f : Nat→K) (h : ∀ a ∈ l,p a = false→f a = 0) : SL l f = SL (l.filter p) f:=by
 induction l with
 | nil => rfl
 | cons a l ih =>
  have ih':=ih (fun b hb => h b (by simp [hb]))
  cases hp : p a
  ·rw [List.filter_cons_of_neg (by simp [hp]),SL_cons,ih',h a (by simp) hp,zero_add]
  ·rw [List.filter_cons_of_pos hp,SL_cons,SL_cons,ih']

theorem cauchy_kernel : ∀ (I J : List Nat) (x y v : Nat→K),I.length = J.length→I.Nodup→J.Nodup →
  (∀ i ∈ I,∀ i' ∈ I,x i = x i'→i = i')→(∀ j ∈ J,∀ j' ∈ J,y j = y j'→j = j')→(∀ i ∈ I,∀ j ∈ J,x i + y j ≠ 0) →
  (∀ i ∈ I,SL J (fun j => v j * inv (x i + y j)) = 0)→∀ j ∈ J,v j = 0
 | [],[],_,_,_,_,_,_,_,_,_,_ => by intro j hj; simp at hj
 | [],_ :: _,_,_,_,h,_,_,_,_,_,_ => by simp at h
 | _ :: _,[],_,_,_,h,_,_,_,_,_,_ => by simp at h
 | i0 :: I,j0 :: J,x,y,v,hl,hI,hJ,hx,hy,hne,hs => by
  obtain ⟨hi0,hI⟩:=List.nodup_cons.1 hI
  obtain ⟨hj0,hJ⟩:=List.nodup_cons.1 hJ
  have n0 : x i0 + y j0 ≠ 0:=hne i0 (by simp) j0 (by simp)
  -- the rest,with other weights
  have key : ∀ j ∈ J,v j * ((y j + y j0) * inv (x i0 + y j)) = 0:=by
   refine cauchy_kernel I J x y (fun j => v j * ((y j + y j0) * inv (x i0 + y j))) (by simpa using hl) hI hJ
    (fun i hi i' hi' => hx i (by simp [hi]) i' (by simp [hi'])) (fun j hj j' hj' => hy j (by simp [hj]) j' (by simp [hj']))
    (fun i hi j hj => hne i (by simp [hi]) j (by simp [hj])) (fun i hi => ?_)
   have xi : x i + x i0 ≠ 0:=fun e => hi0 (by rw [← hx i (by simp [hi]) i0 (by simp) (eq_of_add e)]; exact hi)
   have ni : x i + y j0 ≠ 0:=hne i (by simp [hi]) j0 (by simp)
   have e1:=hs i (by simp [hi])
   have e0:=hs i0 (by simp)
   rw [SL_cons] at e1 e0
   have f1:=congrArg (fun z => (x i + y j0) * z) e1
   have f0:=congrArg (fun z => (x i0 + y j0) * z) e0
   simp only [mul_zero,mul_add (x i + y j0),mul_add (x i0 + y j0)] at f1 f0
   rw [mul_left_comm,mul_inv ni,mul_one] at f1
   rw [mul_left_comm,mul_inv n0,mul_one] at f0
   have f2 : (x i + y j0) * SL J (fun j => v j * inv (x i + y j)) + (x i0 + y j0) * SL J (fun j => v j * inv (x i0 + y j)) = 0:=by
    have a1:=eq_of_add f1
    have a0:=eq_of_add f0
    rw [← a1,← a0,add_self]
   rw [SL_mul,SL_mul,← SL_add] at f2
   have f3 : SL J (fun j => (x i + x i0) * (v j * ((y j + y j0) * inv (x i0 + y j)) * inv (x i + y j))) = 0:=by
    rw [← f2]
    refine SL_congr fun j hj => ?_
    have nij : x i + y j ≠ 0:=hne i (by simp [hi]) j (by simp [hj])
    have n0j : x i0 + y j ≠ 0:=hne i0 (by simp) j (by simp [hj])
    have e : (x i + y j0) * inv (x i + y j) + (x i0 + y j0) * inv (x i0 + y j) = (x i + x i0) * ((y j + y j0) * (inv (x i0 + y j) * inv (x i + y j))):=by
     have m : (x i + y j0) * (x i0 + y j) + (x i0 + y j0) * (x i + y j) = (x i + x i0) * (y j + y j0):=by
      simp only [mul_add,add_mul]
      have c1:=mul_comm (x i0) (x i)
      have c2:=mul_comm (y j0) (x i0)
      have c3:=mul_comm (y j0) (y j)
      have c4:=mul_comm (y j0) (x i)
      apply K.ext
      simp only [add_v]
      rw [show (x i * x i0).v = (x i0 * x i).v by rw [mul_comm],show (y j0 * x i0).v = (x i0 * y j0).v by rw [mul_comm],show (y j0 * x i).v = (x i * y j0).v by rw [mul_comm],show (y j0 * y j).v = (y j * y j0).v by rw [mul_comm]]
      apply Nat.eq_of_testBit_eq
      intro b
      simp only [Nat.testBit_xor]
      cases (x i0 * x i).v.testBit b <;> cases (x i0 * y j0).v.testBit b <;> cases (x i * y j0).v.testBit b <;> cases (y j * y j0).v.testBit b <;> cases (x i * y j).v.testBit b <;> cases (x i0 * y j).v.testBit b <;> rfl
     have u1 : (x i + y j0) * inv (x i + y j) = (x i + y j0) * (x i0 + y j) * (inv (x i0 + y j) * inv (x i + y j)):=by
      rw [mul_assoc,← mul_assoc (x i0 + y j),mul_inv n0j,one_mul]
     have u2 : (x i0 + y j0) * inv (x i0 + y j) = (x i0 + y j0) * (x i + y j) * (inv (x i0 + y j) * inv (x i + y j)):=by
      rw [mul_assoc,mul_comm (inv (x i0 + y j)),← mul_assoc (x i + y j),mul_inv nij,one_mul]
     rw [u1,u2,← add_mul,m,mul_assoc]
    have e':=congrArg (fun z => v j * z) e
    simp only [mul_add (v j)] at e'
    rw [mul_left_comm (x i + y j0),mul_left_comm (x i0 + y j0),e',mul_assoc (v j),mul_assoc (y j + y j0),mul_left_comm (x i + x i0) (v j)]
   rw [← SL_mul] at f3
   exact mul_eq_zero f3 xi
  have hv : ∀ j ∈ J,v j = 0:=by
   intro j hj
   have nz : (y j + y j0) * inv (x i0 + y j) ≠ 0:=by
    intro e
    have yj : y j + y j0 ≠ 0:=fun e => hj0 (by rw [← hy j (by simp [hj]) j0 (by simp) (eq_of_add e)]; exact hj)
    have z:=mul_eq_zero e yj
    have n0j : x i0 + y j ≠ 0:=hne i0 (by simp) j (by simp [hj])
    have:=mul_inv n0j
    rw [z,mul_zero] at this
    exact one_ne this.symm
   have:=key j hj
   rw [mul_comm] at this
   exact mul_eq_zero this nz
  intro j hj
  rcases List.mem_cons.1 hj with rfl | hj
  ·have e0:=hs i0 (by simp)
   rw [SL_cons,SL_congr (g:=fun _ => 0 * 1) (fun b hb => by rw [hv b hb,zero_mul,zero_mul]),← SL_mul,zero_mul,add_zero,mul_comm] at e0
   refine mul_eq_zero e0 (fun z => ?_)
   have:=mul_inv n0
   rw [z,mul_zero] at this
   exact one_ne this.symm
  ·exact hv j hj

/-! ### How many there are -/
theorem len_rm (a : Nat) : ∀ L : List Nat,L.Nodup→a ∈ L→(L.filter (fun b => !(b == a))).length + 1 = L.length
 | [],_,h => by simp at h
 | b :: L,hn,h => by
  obtain ⟨h1,h2⟩:=List.nodup_cons.1 hn
  by_cases e : b = a
  ·subst e
   rw [List.filter_cons_of_neg (by simp),List.filter_eq_self.2 (fun c hc => by simp; rintro rfl; exact h1 hc),List.length_cons]
  ·rw [List.filter_cons_of_pos (by simp [e]),List.length_cons,List.length_cons,len_rm a L h2 (by rcases List.mem_cons.1 h with h | h; exact absurd h.symm e; exact h)]
theorem len_out (k : Nat) : ∀ M : List Nat,M.Nodup→(∀ a ∈ M,a < k)→((List.range k).filter (fun j => !(M.contains j))).length + M.length = k
 | [],_,_ => by rw [List.filter_eq_self.2 (fun _ _ => by simp)]; simp
 | a :: M,hn,hk => by
  obtain ⟨h1,h2⟩:=List.nodup_cons.1 hn
  have ih:=len_out k M h2 (fun b hb => hk b (by simp [hb]))
  have e : (List.range k).filter (fun j => !((a :: M).contains j)) = ((List.range k).filter (fun j => !(M.contains j))).filter (fun b => !(b == a)):=by
   rw [List.filter_filter]
   apply List.filter_congr
   intro j _
   rw [List.contains_cons]
   cases M.contains j <;> cases (j == a) <;> rfl
  rw [e]
  have nd : ((List.range k).filter (fun j => !(M.contains j))).Nodup:=List.Pairwise.filter _ List.nodup_range
  have:=len_rm a _ nd (List.mem_filter.2 ⟨List.mem_range.2 (hk a (by simp)),by simpa using h1⟩)
  rw [List.length_cons]
  omega
theorem len_split (p : Nat→Bool) (l : List Nat) : (l.filter p).length + (l.filter (fun a => !(p a))).length = l.length:=by
 induction l with
 | nil => rfl
 | cons a l ih =>
  cases h : p a
  ·rw [List.filter_cons_of_neg (by simp [h]),List.filter_cons_of_pos (by simp [h]),List.length_cons,List.length_cons]; omega
  ·rw [List.filter_cons_of_pos h,List.filter_cons_of_neg (by simp [h]),List.length_cons,List.length_cons]; omega
def kn (n : Nat) : K:=⟨n % 256,Nat.mod_lt _ (by decide)⟩
theorem kn_inj {a b : Nat} (ha : a < 256) (hb : b < 256) (h : kn a = kn b) : a = b:=by
 have:=congrArg K.v h
 simp only [kn] at this
 omega
theorem kn_add {a b : Nat} (ha : a < 256) (hb : b < 256) : kn a + kn b = xk a b:=by
 apply K.ext
 rw [xk_v ha hb,add_v]
 show a % 256 ^^^ b % 256 = _
 rw [Nat.mod_eq_of_lt ha,Nat.mod_eq_of_lt hb]
theorem kn_ne {a b : Nat} (ha : a < 256) (hb : b < 256) (h : a ≠ b) : kn a + kn b ≠ 0:=fun e => h (kn_inj ha hb (eq_of_add e))

theorem any_rows (k m : Nat) (hk : k + m ≤ 255) (ρ : Nat→Nat) (hρ : ∀ t,t < k→ρ t < k + m) (hi : ∀ s t,s < k→t < k→ρ s = ρ t→s = t) (P : Mt) (hP : ∀ i,i < k→∀ j,j < k→P i j = cauM k (ρ i) j) :
  ∀ r,Thin k k P r→k ≤ r:=by
 intro r ⟨B,C,hBC⟩
 apply Decidable.byContradiction
 intro hlt
 obtain ⟨v,⟨i0,hi0,hv⟩,hs⟩:=kernel r k (fun i l => C l i) (by omega)
 have hrow : ∀ t,t < k→S k (fun j => cauM k (ρ t) j * v j) = 0:=by
  intro t ht
  rw [S_congr (g:=fun j => mm r B C t j * v j) (fun j hj => by rw [← hP t ht j hj,hBC t ht j hj])]
  show S k (fun j => S r (fun l => B t l * C l j) * v j) = 0
  rw [← S_assoc r k (B t) C v,S_congr (g:=fun _ => 0) (fun l hl => ?_),S_zero]
  rw [S_congr (g:=fun j => v j * C l j) (fun j _ => mul_comm _ _),hs l hl,mul_zero]
 -- the rows of One
 have hone : ∀ t,t < k→ρ t < k→v (ρ t) = 0:=by
  intro t ht hl
  have:=hrow t ht
  rw [S_congr (g:=fun j => dl (ρ t) j * v j) (fun j _ => by rw [cauM,if_pos hl]),S_dl_l v hl] at this
  exact this
 let D:=(List.range k).filter (fun t => decide (ρ t < k))
 let M:=D.map ρ
 let I:=(List.range k).filter (fun t => !(decide (ρ t < k)))
 let J:=(List.range k).filter (fun j => !(M.contains j))
 have hD : ∀ t ∈ D,t < k∧ρ t < k:=fun t ht => by
  obtain ⟨h1,h2⟩:=List.mem_filter.1 ht
  exact ⟨List.mem_range.1 h1,by simpa using h2⟩
 have hI : ∀ t ∈ I,t < k∧k ≤ ρ t:=fun t ht => by
  obtain ⟨h1,h2⟩:=List.mem_filter.1 ht
  exact ⟨List.mem_range.1 h1,by simpa using h2⟩
 have hJ : ∀ j ∈ J,j < k:=fun j hj => List.mem_range.1 (List.mem_filter.1 hj).1
 have ndD : D.Nodup:=List.Pairwise.filter _ List.nodup_range
 have ndM : M.Nodup:=by
  show List.Pairwise _ (D.map ρ)
  rw [List.pairwise_map]
  exact List.Pairwise.imp_of_mem (fun {a b} ha hb hne e => hne (hi a b (hD a ha).1 (hD b hb).1 e)) ndD
 have c1:=len_out k M ndM (fun a ha => by obtain ⟨t,ht,rfl⟩:=List.mem_map.1 ha; exact (hD t ht).2)
 have c2:=len_split (fun t => decide (ρ t < k)) (List.range k)
 have lM : M.length = D.length:=List.length_map _
 have lIJ : I.length = J.length:=by
  rw [List.length_range] at c2
  have c1' : J.length + M.length = k:=c1
  have c2' : D.length + I.length = k:=c2
  omega
 have out : ∀ j,j < k→(!(M.contains j)) = false→v j = 0:=by
  intro j _ h
  have : j ∈ M:=by simpa using h
  obtain ⟨t,ht,rfl⟩:=List.mem_map.1 this
  exact hone t (hD t ht).1 (hD t ht).2
 have ker:=cauchy_kernel I J (fun t => kn (ρ t)) (fun j => kn j) v lIJ (List.Pairwise.filter _ List.nodup_range) (List.Pairwise.filter _ List.nodup_range)
  (fun s hs t ht e => hi s t (hI s hs).1 (hI t ht).1 (kn_inj (by have:=hρ s (hI s hs).1; omega) (by have:=hρ t (hI t ht).1; omega) e))
  (fun a ha b hb e => kn_inj (by have:=hJ a ha; omega) (by have:=hJ b hb; omega) e)
  (fun t ht j hj => kn_ne (by have:=hρ t (hI t ht).1; omega) (by have:=hJ j hj; omega) (by have:=(hI t ht).2; have:=hJ j hj; omega))
  (fun t ht => by
   have e:=hrow t (hI t ht).1
   rw [← SL_range,SL_filter _ (fun j => !(M.contains j)) _ (fun j hj h => by rw [out j (List.mem_range.1 hj) h,mul_zero])] at e
   rw [← e]
   refine SL_congr fun j hj => ?_
   rw [cauM,if_neg (by have:=(hI t ht).2; omega),mul_comm,kn_add (by have:=hρ t (hI t ht).1; omega) (by have:=hJ j hj; omega)])
 apply hv
 cases h : !(M.contains i0)
 ·exact out i0 hi0 h
 ·exact ker i0 (List.mem_filter.2 ⟨List.mem_range.2 hi0,h⟩)
end Go.Proofs.YtagijldedngcoaaGreatDoor.Zq

namespace Go.Proofs.YtagijldedngcoaaGreatDoor.Zq
open K

theorem wide_rank (n : Nat) (A : Nat→K) : Rk n n (mt n A) (redu n (wideM n A) n).2 :=
 (redu_rank n n (wideM n A)).congr (fun i _ j hj => by rw [wideM,if_pos hj,mt])
def invQ (n : Nat) (A : Nat→K) : Mt:=fun i j => (redu n (wideM n A) n).1 i (n + j)
theorem invQ_ok (n : Nat) (A : Nat→K) (h : (redu n (wideM n A) n).2 = n) : ∀ i,i < n→∀ j,j < n→mm n (invQ n A) (mt n A) i j = dl i j∧mm n (mt n A) (invQ n A) i j = dl i j :=
 redu_inv n (mt n A) (wideM n A) (fun i _ j hj => by rw [wideM,if_pos hj,mt]) (fun i _ j _ => by rw [wideM,if_neg (by omega),show n + j - n = j by omega]) h
theorem picked_full (k m : Nat) (hk : k + m ≤ 255) (ρ : Nat→Nat) (hρ : ∀ t,t < k→ρ t < k + m) (hi : ∀ s t,s < k→t < k→ρ s = ρ t→s = t) (A : Nat→K)
  (hA : ∀ t,t < k * k→A t = flat k (fun i j => mt k (flat k (cauM k)) (ρ i) j) t) : (redu k (wideM k A) k).2 = k:=by
 have R:=wide_rank k A
 refine Nat.le_antisymm R.le_rows (any_rows k m hk ρ hρ hi (mt k A) (fun i hi' j hj => ?_) _ R.1)
 rw [mt,hA _ (at_lt hi' hj),flat,div_at hj,mod_at hj,mt_flat _ _ hj]

/-! ### Out of a list,one by one -/
end Go.Proofs.YtagijldedngcoaaGreatDoor.Zq

namespace Go.Proofs.YtagijldedngcoaaGreatDoor.Zq
open Go.RowKit Go.Lib

theorem step_copy_run {P : Program} {ops : Array Oper} {o : Oper} {a : Act} {w : World} {K : Act→World→Prop} {Q : Exit→Act→World→Prop} {E : Prop} (hgd : o.guard = none) (s x : Operand) (t tn : TypeId)
  (ho : o.op = .call { callee:=.builtin .copy,args:=#[s,x],argTypes:=#[t,tn] }) (vs vx : Value) (hs : a.eval s = vs) (hx : a.eval x = vx)
  (v' : Value) (w' : World) (hr : (Builtin.copy_ #[t,tn] o.type #[vs,vx]).run P w = .ok v' w') (h : K (a.put o.dst v') w') :
  if Region.wanted o (yielded ops a.tmps) = true then Oper.wp P o a w K Q else E:=by
 have hw : Region.wanted o (yielded ops a.tmps) = true:=by simp [Region.wanted,hgd]
 rw [if_pos hw]
 unfold Oper.wp
 simp [execOp,ho,resolve,invoke,builtin,hs,hx,hr,Result.andThen]
 exact h
theorem copy_row {w : World} {g N y n cd b o cs : Nat} {G H : Nat→K} (hG : KB w g N G) (hR : RD w b o n H) (hy : y + n ≤ N) :
  ∃ wc,(Builtin.copy_ #[162,162] 3 #[.slice (some ⟨g,y,none⟩) n cd,.slice (some ⟨b,o,none⟩) n cs]).run Tryz.prog w = .ok (goInt n) wc∧KB wc g N (splF y n H G)∧w.grownBy wc (some g):=by
 obtain ⟨Z,hZ⟩:=hG
 have hcp:=run_copy_row (P:=Tryz.prog) w 162 162 3 3 g y n cd ⟨b,o,none⟩ n cs _ 3 (kcells n H) Tryz.underlying162 Tryz.size3 hZ (by rw [kcells_length]; exact (Nat.min_self n).symm) hR.src
  (by simp [kcells_length]; omega) kcells_one
 rw [kcells_length] at hcp
 refine ⟨_,hcp,⟨Z,?_⟩,⟨rfl,rfl,rfl,by simp [World.setRow],fun k _ hk => setRow_other _ g k _ (by simpa using hk)⟩⟩
 rw [setRow_heap _ g _ _ 3 _ hZ,List.append_assoc,kcells_splice _ _ Z hy]

def invF (n : Nat) (Q : Mt) (i : Nat) : Nat→K:=fun t => if t / n < i then Q (t / n) (t % n) else 0
theorem invF_step (n : Nat) (Q : Mt) (i t : Nat) (hn : 0 < n) : splF (i * n) n (Q i) (invF n Q i) t = invF n Q (i + 1) t:=by
 unfold splF invF
 by_cases h : i * n ≤ t∧t < i * n + n
 ·have e:=(in_row hn).1 h
  rw [if_pos h,if_pos (by omega),e,row_off e]
 ·rw [if_neg h]
  have e : t / n ≠ i:=fun e => h ((in_row hn).2 e)
  by_cases l : t / n < i
  ·rw [if_pos l,if_pos (by omega)]
  ·rw [if_neg l,if_neg (by omega)]
theorem invF_all (n : Nat) (Q : Mt) (t : Nat) (h : t < n * n) : invF n Q n t = flat n Q t:=by rw [invF,if_pos (div_lt h),flat]

theorem Bx.fr {w w' : World} {B f b : Nat} {r c : Int} {v : Value} (h : Bx w b r c v) (ht : Fr B f w w') (h1 : b < B) (h2 : b ≠ f) : Bx w' b r c v:=h.of_block (ht.block b h1 h2)
structure InvI (w : World) (B sb f g N pb rb n W : Nat) (q cp : Nat→Nat) (R : Mt) (va : Value) (G : Nat→K) (wr : World) : Prop where
 S : SP wr sb f
 rs : RS wr B sb f rb n W q cp R
 G : KB wr g N G
 a : Bx wr w.heap.size n n va
 r : Bx wr (w.heap.size + 1) 0 0 (.slice none 0 0)
 p : Bx wr pb n n (.slice (some ⟨g,0,none⟩) N N)
 gr : w.grownBy wr (some f)
theorem InvI.below {w : World} {B sb f g N pb rb n W : Nat} {q cp : Nat→Nat} {R : Mt} {va : Value} {G : Nat→K} {wr w' : World} (h : InvI w B sb f g N pb rb n W q cp R va G wr) (hb : Below wr.heap.size wr w') : InvI w B sb f g N pb rb n W q cp R va G w' :=
 ⟨h.S.below hb (Nat.le_refl _),h.rs.below hb,h.G.below hb (Nat.le_refl _),h.a.below hb (Nat.le_refl _),h.r.below hb (Nat.le_refl _),h.p.below hb (Nat.le_refl _),gb_trans h.gr (gb_below hb _)⟩
theorem InvI.turn {w : World} {B sb f g N pb rb n W : Nat} {q cp : Nat→Nat} {R : Mt} {va : Value} {G G' : Nat→K} {wr w' : World} (h : InvI w B sb f g N pb rb n W q cp R va G wr) (hg : wr.grownBy w' (some g)) (hG : KB w' g N G') (hq : ∀ i,i < n→q i ≠ g) (hw : w.heap.size ≤ g) : InvI w B sb f g N pb rb n W q cp R va G' w':=by
 have s:=h.S.kset h.G hg
 refine ⟨s,⟨s,h.rs.ltS,h.rs.ltF,Nat.le_trans h.rs.ltB hg.size,h.rs.rge,(hg.block rb h.rs.rlt (by simp; intro e; have:=h.rs.rows; obtain ⟨Z,hZ⟩:=h.G; rw [e,hZ] at this; simp at this)).trans h.rs.rows,fun i hi => (h.rs.each i hi).of_block (hg.block _ (h.rs.each i hi).lt (by simp; exact hq i hi)),h.rs.ge,h.rs.inj,h.rs.cap⟩,hG,h.a.of_block (hg.block _ h.a.lt (by simp; exact h.a.ne h.G)),h.r.of_block (hg.block _ h.r.lt (by simp; exact h.r.ne h.G)),h.p.of_block (hg.block _ h.p.lt (by simp; exact h.p.ne h.G)),gb_new h.gr hg hw⟩

theorem inverse_any {w : World} {sb f n : Nat} {va : Value} {A : Nat→K} (hS : SP w sb f) (n1 : 1 ≤ n) (n2 : n ≤ 255)
  (hA : NX w f va (n * n) (fun k => (((A k).v : Nat) : Int))) :
  Calls Tryz.prog 313 #[.pointer (some ⟨sb,0,none⟩),.agg #[.int .i64 n,.int .i64 n,va]] w fun e w' =>
   (((redu n (wideM n A) n).2 = n∧∃ g,e = .returned (.tuple #[.agg #[.int .i64 n,.int .i64 n,.slice (some ⟨g,0,none⟩) (n * n) (n * n)],.int .i64 0])∧KB w' g (n * n) (flat n (fun i j => (redu n (wideM n A) n).1 i (n + j)))∧w.heap.size ≤ g) ∨
    ((redu n (wideM n A) n).2 < n∧e = .returned (.tuple #[.agg #[.int .i64 0,.int .i64 0,.slice none 0 0],.int .i64 40])))∧SP w' sb f∧w.grownBy w' (some f):=by
 have hNA : n * n ≤ 255 * 255:=Nat.mul_le_mul n2 n2
 have hA0 : n * n ≠ 0:=Nat.mul_ne_zero (by omega) (by omega)
 obtain ⟨ba,oa,cpa,rfl,ha3,ha4,ha5⟩:=hA.at hA0
 have EA:=chk_ok n1 n2 n1 n2 A
 have HZ : Hid _:=fun w => zeros_any w n n n2 n2
 have QA : Hid (∀ i,i < n→(i + 1) * n ≤ n * n):=fun i hi => row_in hi
 have QI : Hid (∀ (Q : Mt) t,t < n * n→invF n Q n t = flat n Q t):=fun Q t ht => invF_all n Q t ht
 have HBS : Hid (∀ (w : World),SP w sb f→NX w f _ (n * n) _→_):=fun w h1 h2 => beside_any (w:=w) (A:=A) (va:=.slice (some ⟨ba,oa,none⟩) (n * n) cpa) h1 n1 n2 n1 n2 h2
 have hle:=(red_all n (wideM n A) n).le
 obtain ⟨rk,hrk⟩ : ∃ rk,rk = (redu n (wideM n A) n).2:=⟨_,rfl⟩
 obtain ⟨RM,hRM⟩ : ∃ RM,RM = (redu n (wideM n A) n).1:=⟨_,rfl⟩
 rw [← hrk,← hRM]
 rw [← hrk] at hle
 have Hrk:=hide hrk
 have HRM:=hide hRM
 clear hrk hRM
 generalize hN : n * n = N at *
 have hlt:=hS.lt
 have hltf:=hS.ltf
 have S1:=hide ((hS.alloc (.cells #[.int .i64 n,.int .i64 n,.slice (some ⟨ba,oa,none⟩) N cpa] 313)).alloc (.cells #[.int .i64 0,.int .i64 0,.slice none 0 0] 313))
 have A1:=hide ((hA.alloc (.cells #[.int .i64 n,.int .i64 n,.slice (some ⟨ba,oa,none⟩) N cpa] 313)).alloc (.cells #[.int .i64 0,.int .i64 0,.slice none 0 0] 313))
 have X1:=hide ((Bx.new w n n (.slice (some ⟨ba,oa,none⟩) N cpa)).alloc (.cells #[.int .i64 0,.int .i64 0,.slice none 0 0] 313))
 have Y1:=Bx.new (w.alloc (.cells #[.int .i64 n,.int .i64 n,.slice (some ⟨ba,oa,none⟩) N cpa] 313)) 0 0 (.slice none 0 0)
 rw [show (w.alloc (.cells #[.int .i64 n,.int .i64 n,.slice (some ⟨ba,oa,none⟩) N cpa] 313)).heap.size = w.heap.size + 1 by simp] at Y1
 have HY1:=hide Y1
 have L1:=hide (below_alloc (below_alloc (Below.refl w.heap.size w) (.cells #[.int .i64 n,.int .i64 n,.slice (some ⟨ba,oa,none⟩) N cpa] 313)) (.cells #[.int .i64 0,.int .i64 0,.slice none 0 0] 313))
 clear hS hA Y1
 go_enter Tryz.func313,Tryz.ntmps313
 go_wp2_with fail
 refine (check_any A1.out (by omega)).mono ?_
 rintro e w1 ⟨rfl,k1⟩
 rw [EA]
 have S2:=S1.out.below k1 (Nat.le_refl _)
 have A2:=A1.out.below k1
 have X2:=X1.out.below k1 (Nat.le_refl _)
 have Y2:=HY1.out.below k1 (Nat.le_refl _)
 have L2:=below_step L1.out k1
 have x0:=X2.cell0
 have x1:=X2.cell1
 have x2:=X2.cell2
 have HS2:=hide S2
 have HA2:=hide A2
 have HX2:=hide X2
 have HY2:=hide Y2
 have HL2:=hide L2
 clear S1 A1 X1 HY1 L1 k1 EA S2 A2 X2 Y2 L2
 go_wp2_with fail
 refine Calls.mono (HBS.out _ HS2.out HA2.out) ?_
 rintro e w2 ⟨rb,q,cp,rfl,hR,k2⟩
 obtain ⟨W,hW⟩ : ∃ W,W = n + n:=⟨_,rfl⟩
 rw [← hW] at hR
 have X3:=HX2.out.below k2 (Nat.le_refl _)
 have Y3:=HY2.out.below k2 (Nat.le_refl _)
 have L3:=below_step HL2.out k2
 have hB1 : w.heap.size + 1 < w1.heap.size:=HY2.out.lt
 have AR : Hid (∀ w',w' = w2.drew→Calls Tryz.prog 323 #[.pointer (some ⟨sb,0,none⟩),.slice (some ⟨rb,0,none⟩) n n,.int .i64 n] w' fun e w'' => e = .returned (.int .i64 (rk : Int))∧((∃ q' cp',RS w'' w1.heap.size sb f rb n W q' cp' RM)∧Fr w1.heap.size f w2 w'')∧w''.cell? ⟨w.heap.size,0,none⟩ = some (.int .i64 n)∧w''.cell? ⟨w.heap.size,1,none⟩ = some (.int .i64 n)):=by
  rintro w' rfl
  refine (reduce_any (hR.drewN 1) (cols:=n) (by omega) (by omega) (by omega)).mono ?_
  rw [← Hrk.out,← HRM.out]
  rintro e w'' ⟨rfl,h1,h2⟩
  have h2' : Fr w1.heap.size f w2 w'':=((Fr.refl _ _ w2).drewN 1).trans h2
  have X:=X3.fr h2' (by omega) (by omega)
  exact ⟨rfl,⟨h1,h2'⟩,X.cell0,X.cell1⟩
 have x0:=X3.cell0
 have x1:=X3.cell1
 have HX3:=hide X3
 have HY3:=hide Y3
 have HL3:=hide L3
 have HR:=hide hR
 clear X3 Y3 L3 hR k2 HS2 HA2 HX2 HY2 HL2 HBS x2 Hrk HRM
 rcases Nat.lt_or_ge rk n with hrn | hrn
 ·have hri : (rk : Int) < (n : Int):=by omega
  go_wp2_with fail
  go_region_held3 (fun w' => w'.cell? ⟨w.heap.size,0,none⟩ = some (.int .i64 n)∧w'.cell? ⟨w.heap.size,1,none⟩ = some (.int .i64 n)) (first | assumption | exact ⟨by assumption,by assumption⟩ | exact ⟨x0,x1⟩)
   (first
    | (go_at_call 323; refine (AR.out _ rfl).mono ?_; rintro e w3 ⟨rfl,k3,k31,k32⟩))
  obtain ⟨⟨q',cp',hR3⟩,f3⟩:=k3
  have Y4:=HY3.out.fr f3 (by omega) (by omega)
  have q0:=Y4.cell0
  have q1:=Y4.cell1
  have q2:=Y4.cell2
  have f2:=Y4.free
  have G4 : w.grownBy w3 (some f):=⟨f3.os.trans HL3.out.os,f3.tape.trans HL3.out.tape,f3.output.trans HL3.out.output,Nat.le_trans HL3.out.size f3.size,fun k hk hne => (f3.block k (by omega) (by simpa using hne)).trans (HL3.out.block k hk)⟩
  have HS4:=hide hR3.S
  have HY4:=hide Y4
  have HG4:=hide G4
  clear hR3 f3 Y4 G4 AR HX3 HY3 HL3 HR k31 k32 x0 x1
  go_wp2
  obtain ⟨hX5,g5⟩:=HY4.out.put 0 0 (.slice none 0 0)
  exact bodyPost_ret (v:=.tuple #[.agg #[.int .i64 0,.int .i64 0,.slice none 0 0],.int .i64 40]) (by simp [results,Tryz.results313,go_sem,hX5.cell0,hX5.cell1,hX5.cell2]) rfl ⟨.inr ⟨hrn,rfl⟩,HS4.out.set HY4.out (by decide) (by decide) (by decide) g5,gb_new HG4.out g5 (by omega)⟩
 ·have hre : rk = n:=by omega
  have hri : ¬ (rk : Int) < (n : Int):=by omega
  have HRE:=hide hre
  clear hre hrn
  go_wp2_with fail
  go_region_held3 (fun w' => w'.cell? ⟨w.heap.size,0,none⟩ = some (.int .i64 n)∧w'.cell? ⟨w.heap.size,1,none⟩ = some (.int .i64 n)) (first | assumption | exact ⟨by assumption,by assumption⟩ | exact ⟨x0,x1⟩)
   (first
    | (go_at_call 323; refine (AR.out _ rfl).mono ?_; rintro e w3 ⟨rfl,k3,k31,k32⟩))
  obtain ⟨⟨q',cp',hR3⟩,f3⟩:=k3
  have X4:=HX3.out.fr f3 (by omega) (by omega)
  have Y4:=HY3.out.fr f3 (by omega) (by omega)
  have G4 : w.grownBy w3 (some f):=⟨f3.os.trans HL3.out.os,f3.tape.trans HL3.out.tape,f3.output.trans HL3.out.output,Nat.le_trans HL3.out.size f3.size,fun k hk hne => (f3.block k (by omega) (by simpa using hne)).trans (HL3.out.block k hk)⟩
  have HX4:=hide X4
  have HY4:=hide Y4
  have HG4:=hide G4
  have HR3:=hide hR3
  clear hR3 f3 X4 Y4 G4 AR HX3 HY3 HL3 HR x0 x1
  go_wp2_with fail
  refine Calls.mono (HZ.out _) ?_
  rintro e w4 ⟨g,rfl,hG,hgs,k4⟩
  have hgs' : w.heap.size ≤ g:=Nat.le_trans HG4.out.size hgs
  have hq : ∀ i,i < n→q' i ≠ g:=fun i hi => by have:=(HR3.out.each i hi).lt; omega
  have I : InvI w w1.heap.size sb f g N w4.heap.size rb n W q' cp' RM (.slice (some ⟨ba,oa,none⟩) N cpa) (invF n (fun i j => RM i (n + j)) 0) (w4.alloc (.cells #[.int .i64 n,.int .i64 n,.slice (some ⟨g,0,none⟩) N N] 313)) :=
   have al:=(Below.refl w4.heap.size w4).alloc (Nat.le_refl _) (.cells #[.int .i64 n,.int .i64 n,.slice (some ⟨g,0,none⟩) N N] 313)
   ⟨(HR3.out.below k4).S.alloc _,(HR3.out.below k4).below al,(hG.congr (fun t _ => by rw [invF,if_neg (Nat.not_lt_zero _)])).alloc _,(HX4.out.below k4 (Nat.le_refl _)).alloc _,(HY4.out.below k4 (Nat.le_refl _)).alloc _,Bx.new _ _ _ _,gb_trans (gb_trans HG4.out (gb_below k4 _)) (gb_below al _)⟩
  have HQ:=hide hq
  have HI:=hide I
  clear hG hgs k4 hq I HX4 HY4 HG4 HR3 HZ k31 k32
  go_wp2
  go_loopw [40] (fun z wr => ∃ i : Nat,i ≤ n∧z = .int .i64 i∧InvI w w1.heap.size sb f g N w4.heap.size rb n W q' cp' RM (.slice (some ⟨ba,oa,none⟩) N cpa) (invF n (fun i j => RM i (n + j)) i) wr) (fun z _ => n - (RowKit.intOf z).toNat)
  case atStart => exact ⟨0,Nat.zero_le _,rfl,HI.out⟩
  case round =>
   obtain ⟨i,hi,rfl,I⟩:=hrel
   clear HI
   by_cases hlt1 : i < n
   ·obtain ⟨y,hy⟩ : ∃ y,y = i * n:=⟨_,rfl⟩
    have hyN : y + n ≤ N:=by have:=QA.out i hlt1; rw [Nat.add_mul,Nat.one_mul] at this; omega
    have cw:=I.rs.cell i hlt1
    have hcp:=I.rs.cap i hlt1
    have R1 : Hid (∀ (w' : World),Below wr.heap.size wr w'→Calls Tryz.prog 261 #[.agg #[.int .i64 n,.int .i64 n,.slice (some ⟨g,0,none⟩) N N],.int .i64 i] w' fun e w'' => e = .returned (.slice (some ⟨g,y,none⟩) n n)∧Below wr.heap.size wr w''∧w''.cell? ⟨w4.heap.size,0,none⟩ = some (.int .i64 n)∧w''.cell? ⟨w4.heap.size,1,none⟩ = some (.int .i64 n)∧w''.cell? ⟨w4.heap.size,2,none⟩ = some (.slice (some ⟨g,0,none⟩) N N)∧w''.cell? ⟨rb,i,none⟩ = some (.slice (some ⟨q' i,0,none⟩) W (cp' i))∧w''.cell? ⟨w.heap.size,1,none⟩ = some (.int .i64 n)):=by
     intro w' hb
     refine (row_at w' i (x:=y) (by omega) (by omega) n1 n2 (QA.out i hlt1) (Nat.le_refl _)).mono ?_
     rintro e w'' ⟨rfl,k⟩
     have k':=below_step hb k
     have I':=I.below k'
     exact ⟨rfl,k',I'.p.cell0,I'.p.cell1,I'.p.cell2,I'.rs.cell i hlt1,I'.a.cell1⟩
    have AC : Hid (∀ (w' : World) (l cs : Nat),l = n→Below wr.heap.size wr w'→∃ wc,(Builtin.copy_ #[162,162] 3 #[.slice (some ⟨g,y,none⟩) n n,.slice (some ⟨q' i,n,none⟩) l cs]).run Tryz.prog w' = .ok (goInt n) wc∧InvI w w1.heap.size sb f g N w4.heap.size rb n W q' cp' RM (.slice (some ⟨ba,oa,none⟩) N cpa) (invF n (fun i j => RM i (n + j)) (i + 1)) wc∧wc.cell? ⟨w4.heap.size,0,none⟩ = some (.int .i64 n)∧wc.cell? ⟨w4.heap.size,1,none⟩ = some (.int .i64 n)∧wc.cell? ⟨w4.heap.size,2,none⟩ = some (.slice (some ⟨g,0,none⟩) N N)∧wc.cell? ⟨rb,i,none⟩ = some (.slice (some ⟨q' i,0,none⟩) W (cp' i))∧wc.cell? ⟨w.heap.size,1,none⟩ = some (.int .i64 n)):=by
     intro w' l cs hl hb
     subst hl
     have I':=I.below hb
     obtain ⟨wc,h1,h2,h3⟩:=copy_row (cd:=l) (cs:=cs) (b:=q' i) (o:=l) (H:=fun j => RM i (l + j)) I'.G (fun j hj => (I'.rs.each i hlt1).cell (l + j) (by omega)) hyN
     have I2:=I'.turn h3 (h2.congr (f':=invF l (fun i j => RM i (l + j)) (i + 1)) (fun t _ => by rw [hy]; exact invF_step l (fun i j => RM i (l + j)) i t (by omega))) HQ.out hgs'
     exact ⟨wc,h1,I2,I2.p.cell0,I2.p.cell1,I2.p.cell2,I2.rs.cell i hlt1,I2.a.cell1⟩
    have m0:=I.p.cell0
    have m1:=I.p.cell1
    have m2:=I.p.cell2
    have m4:=I.a.cell1
    clear I hy
    have b0 : (0 : Int) ≤ (i : Int):=by omega
    have b1 : (i : Int) < (n : Int):=by omega
    have b2 : (n : Int) ≤ (W : Int):=by omega
    have b3 : n ≤ W:=by omega
    have b4 : ¬ (cp' i = n):=by omega
    have b5 : W - n = n:=by omega
    have b6 : (0 : Int) ≤ (n : Int):=by omega
    have hsl : ∀ w : World,(Instr.slice 162 (.slice (some ⟨q' i,0,none⟩) W (cp' i)) (some (.int .i64 n)) none none).run Tryz.prog w = .ok (.slice (some ⟨q' i,n,none⟩) n (cp' i - n)) w:=fun w => by
     rw [run_slice_l (P:=Tryz.prog) (w:=w) 162 _ _ _ Tryz.underlying162 .i64 n b6 b2]
     simp [go_sem,sliced,b4,b5]
    go_wp2_with fail
    go_region_held_law (fun w' => w'.cell? ⟨w4.heap.size,0,none⟩ = some (.int .i64 n)∧w'.cell? ⟨w4.heap.size,1,none⟩ = some (.int .i64 n)∧w'.cell? ⟨w4.heap.size,2,none⟩ = some (.slice (some ⟨g,0,none⟩) N N)∧w'.cell? ⟨rb,i,none⟩ = some (.slice (some ⟨q' i,0,none⟩) W (cp' i))∧w'.cell? ⟨w.heap.size,1,none⟩ = some (.int .i64 n)) (first | assumption | exact ⟨by assumption,by assumption,by assumption,by assumption,by assumption⟩ | exact ⟨m0,m1,m2,cw,m4⟩)
     (first
      | (go_at_call 261; refine (R1.out _ (by first | assumption | exact (Below.refl _ _).drew)).mono ?_; rintro e wa ⟨rfl,ka,ka1,ka2,ka3,ka4,ka5⟩)
      | (obtain ⟨wc,hr,kc,kc1,kc2,kc3,kc4,kc5⟩:=AC.out _ _ _ b5 ka; refine step_copy_run rfl _ _ 162 162 rfl _ _ rfl rfl _ _ hr ?_)
      | (obtain ⟨wc,hr,kc,kc1,kc2,kc3,kc4,kc5⟩:=AC.out _ _ _ rfl ka; refine step_copy_run rfl _ _ 162 162 rfl _ _ rfl rfl _ _ hr ?_))
    all_goals
     clear R1 AC
     go_wp2
     exact ⟨⟨i + 1,by omega,by go_num,kc⟩,by simp [RowKit.intOf]; omega⟩
   ·obtain rfl : i = n:=by omega
    have p0:=I.p.cell0
    have p1:=I.p.cell1
    have p2:=I.p.cell2
    have q0:=I.r.cell0
    have q1:=I.r.cell1
    have q2:=I.r.cell2
    have f2:=I.r.free
    have hne:=I.r.ne I.G
    have HI:=hide I
    clear I
    go_wp2
    obtain ⟨hX5,g5⟩:=HI.out.r.put (i : Int) (i : Int) (.slice (some ⟨g,0,none⟩) N N)
    refine bodyPost_ret (v:=.tuple #[.agg #[.int .i64 i,.int .i64 i,.slice (some ⟨g,0,none⟩) N N],.int .i64 0]) (by simp [results,Tryz.results313,go_sem,hX5.cell0,hX5.cell1,hX5.cell2]) rfl ⟨.inl ⟨HRE.out,g,rfl,?_,hgs'⟩,HI.out.S.set HI.out.r (by decide) (by decide) (by decide) g5,gb_new HI.out.gr g5 (by omega)⟩
    exact (HI.out.G.of_block (g5.block g HI.out.G.lt (by simp; exact fun e => hne e.symm))).congr (fun t ht => QI.out _ t ht)
end Go.Proofs.YtagijldedngcoaaGreatDoor.Zq

namespace Go.Proofs.YtagijldedngcoaaGreatDoor.Zq
open Go.RowKit Go.Lib

theorem up_nat {most : Int} {n : Nat} {ρ : Nat→Nat} (h : ∀ t,t < n→((ρ t : Nat) : Int) ≤ most) : upB most (fun t => ((ρ t : Nat) : Int)) n = true:=by
 induction n with
 | zero => rfl
 | succ n ih =>
  rw [upB_succ,ih (fun t ht => h t (by omega)),Bool.and_true]
  have:=h n (by omega)
  simp; omega
structure PickI (w : World) (g N pb k c : Nat) (r : Nat) (va : Value) (G : Nat→K) (wr : World) : Prop where
 G : KB wr g N G
 a : Bx wr w.heap.size r c va
 r : Bx wr (w.heap.size + 1) 0 0 (.slice none 0 0)
 p : Bx wr pb k c (.slice (some ⟨g,0,none⟩) N N)
 gr : Below w.heap.size w wr
theorem PickI.below {w : World} {g N pb k c r : Nat} {va : Value} {G : Nat→K} {wr w' : World} (h : PickI w g N pb k c r va G wr) (hb : Below wr.heap.size wr w') : PickI w g N pb k c r va G w' :=
 ⟨h.G.below hb (Nat.le_refl _),h.a.below hb (Nat.le_refl _),h.r.below hb (Nat.le_refl _),h.p.below hb (Nat.le_refl _),below_step h.gr hb⟩
theorem PickI.turn {w : World} {g N pb k c r : Nat} {va : Value} {G G' : Nat→K} {wr w' : World} (h : PickI w g N pb k c r va G wr) (hg : wr.grownBy w' (some g)) (hG : KB w' g N G') (hw : w.heap.size ≤ g) : PickI w g N pb k c r va G' w' :=
 ⟨hG,h.a.of_block (hg.block _ h.a.lt (by simp; exact h.a.ne h.G)),h.r.of_block (hg.block _ h.r.lt (by simp; exact h.r.ne h.G)),h.p.of_block (hg.block _ h.p.lt (by simp; exact h.p.ne h.G)),below_gb h.gr hg hw h.gr.size⟩
def pickF (c : Nat) (Q : Mt) (i : Nat) : Nat→K:=fun t => if t / c < i then Q (t / c) (t % c) else 0
theorem pickF_step (n : Nat) (Q : Mt) (i t : Nat) (hn : 0 < n) : splF (i * n) n (Q i) (pickF n Q i) t = pickF n Q (i + 1) t:=invF_step n Q i t hn
theorem pickF_all (n m : Nat) (Q : Mt) (t : Nat) (h : t < m * n) : pickF n Q m t = flat n Q t:=by rw [pickF,if_pos (div_lt h),flat]

theorem pick_ok {w : World} {f f' r c k : Nat} {va vr : Value} {A : Nat→K} {ρ : Nat→Nat} (a1 : 1 ≤ r) (a2 : r ≤ 255) (c1 : 1 ≤ c) (c2 : c ≤ 255) (k1 : 1 ≤ k) (k2 : k ≤ 255)
  (hA : NX w f va (r * c) (fun t => (((A t).v : Nat) : Int))) (hr : NX w f' vr k (fun t => ((ρ t : Nat) : Int))) (hρ : ∀ t,t < k→ρ t < r) :
  Calls Tryz.prog 312 #[.agg #[.int .i64 r,.int .i64 c,va],vr] w fun e w' =>
   ∃ g,e = .returned (.tuple #[.agg #[.int .i64 k,.int .i64 c,.slice (some ⟨g,0,none⟩) (k * c) (k * c)],.int .i64 0])∧KB w' g (k * c) (flat c (fun i j => mt c A (ρ i) j))∧w.heap.size ≤ g∧Below w.heap.size w w':=by
 have hNA : r * c ≤ 255 * 255:=Nat.mul_le_mul a2 c2
 have hNN : k * c ≤ 255 * 255:=Nat.mul_le_mul k2 c2
 have hA0 : r * c ≠ 0:=Nat.mul_ne_zero (by omega) (by omega)
 obtain ⟨ba,oa,cpa,rfl,ha3,ha4,ha5⟩:=hA.at hA0
 obtain ⟨br,or,cpr,rfl,hr3,hr4,hr5⟩:=hr.at (by omega : k ≠ 0)
 have EA:=chk_ok a1 a2 c1 c2 A
 have EU:=up_nat (most:=(r : Int) - 1) (n:=k) (ρ:=ρ) (fun t ht => by have:=hρ t ht; omega)
 have ES:=isSd_nat k1 k2
 have HZ : Hid _:=fun w => zeros_any w k c k2 c2
 have QA : Hid (∀ i,i < r→(i + 1) * c ≤ r * c):=fun i hi => row_in hi
 have QN : Hid (∀ i,i < k→(i + 1) * c ≤ k * c):=fun i hi => row_in hi
 have QI : Hid (∀ (Q : Mt) t,t < k * c→pickF c Q k t = flat c Q t):=fun Q t ht => pickF_all c k Q t ht
 generalize r * c = NA at *
 generalize k * c = N at *
 have A1:=hide ((hA.alloc (.cells #[.int .i64 r,.int .i64 c,.slice (some ⟨ba,oa,none⟩) NA cpa] 313)).alloc (.cells #[.int .i64 0,.int .i64 0,.slice none 0 0] 313))
 have X1:=hide ((Bx.new w r c (.slice (some ⟨ba,oa,none⟩) NA cpa)).alloc (.cells #[.int .i64 0,.int .i64 0,.slice none 0 0] 313))
 have Y1:=Bx.new (w.alloc (.cells #[.int .i64 r,.int .i64 c,.slice (some ⟨ba,oa,none⟩) NA cpa] 313)) 0 0 (.slice none 0 0)
 rw [show (w.alloc (.cells #[.int .i64 r,.int .i64 c,.slice (some ⟨ba,oa,none⟩) NA cpa] 313)).heap.size = w.heap.size + 1 by simp] at Y1
 have HY1:=hide Y1
 have L1:=hide (below_alloc (below_alloc (Below.refl w.heap.size w) (.cells #[.int .i64 r,.int .i64 c,.slice (some ⟨ba,oa,none⟩) NA cpa] 313)) (.cells #[.int .i64 0,.int .i64 0,.slice none 0 0] 313))
 have HA:=hide hA
 have HR:=hide hr
 have HP:=hide hρ
 clear hA hr Y1 hρ
 go_enter Tryz.func312,Tryz.ntmps312
 go_wp2_with fail
 refine (check_any A1.out (by omega)).mono ?_
 rintro e w1 ⟨rfl,j1⟩
 rw [EA]
 have X2:=X1.out.below j1 (Nat.le_refl _)
 have Y2:=HY1.out.below j1 (Nat.le_refl _)
 have L2:=below_step L1.out j1
 have x0:=X2.cell0
 have R2:=hide (HR.out.below L2)
 have HX2:=hide X2
 have HY2:=hide Y2
 have HL2:=hide L2
 clear A1 X1 HY1 L1 j1 EA X2 Y2 L2
 go_wp2_with (first | (go_at_call 279; refine (isSide_any _ _).mono ?_; rintro e w9 ⟨rfl,rfl⟩) | fail)
 refine (allUp_any R2.out (by omega)).mono ?_
 rintro e w2 ⟨rfl,j2⟩
 rw [EU]
 have X3:=HX2.out.below j2 (Nat.le_refl _)
 have Y3:=HY2.out.below j2 (Nat.le_refl _)
 have L3:=below_step HL2.out j2
 have x1:=X3.cell1
 have HX3:=hide X3
 have HY3:=hide Y3
 have HL3:=hide L3
 clear R2 HX2 HY2 HL2 j2 EU X3 Y3 L3 x0
 go_wp2_with fail
 refine Calls.mono (HZ.out _) ?_
 rintro e w3 ⟨g,rfl,hG,hgs,j3⟩
 have hgs' : w.heap.size ≤ g:=Nat.le_trans HL3.out.size hgs
 have I : PickI w g N w3.heap.size k c r (.slice (some ⟨ba,oa,none⟩) NA cpa) (pickF c (fun i j => mt c A (ρ i) j) 0) (w3.alloc (.cells #[.int .i64 k,.int .i64 c,.slice (some ⟨g,0,none⟩) N N] 313)) :=
  ⟨(hG.congr (fun t _ => by rw [pickF,if_neg (Nat.not_lt_zero _)])).alloc _,(HX3.out.below j3 (Nat.le_refl _)).alloc _,(HY3.out.below j3 (Nat.le_refl _)).alloc _,Bx.new _ _ _ _,below_alloc (below_step HL3.out j3) _⟩
 have HI:=hide I
 clear hG hgs j3 I HX3 HY3 HL3 HZ x1
 go_wp2
 go_loopw [36] (fun z wr => ∃ i : Nat,i ≤ k∧z = .int .i64 i∧PickI w g N w3.heap.size k c r (.slice (some ⟨ba,oa,none⟩) NA cpa) (pickF c (fun i j => mt c A (ρ i) j) i) wr) (fun z _ => k - (RowKit.intOf z).toNat)
 case atStart => exact ⟨0,Nat.zero_le _,rfl,HI.out⟩
 case round =>
  obtain ⟨i,hi,rfl,I⟩:=hrel
  clear HI
  by_cases hlt1 : i < k
  ·obtain ⟨y,hy⟩ : ∃ y,y = i * c:=⟨_,rfl⟩
   obtain ⟨x,hx⟩ : ∃ x,x = oa + ρ i * c:=⟨_,rfl⟩
   have hpi:=HP.out i hlt1
   have hyN : y + c ≤ N:=by have:=QN.out i hlt1; rw [Nat.add_mul,Nat.one_mul] at this; omega
   have cr:=(HR.out.below I.gr).cell_at i hlt1
   have R1 : Hid (∀ (v u : Value) (w' : World),v = .agg #[.int .i64 k,.int .i64 c,.slice (some ⟨g,0,none⟩) N N]→u = .int .i64 i→Below wr.heap.size wr w'→Calls Tryz.prog 261 #[v,u] w' fun e w'' => e = .returned (.slice (some ⟨g,y,none⟩) c c)∧Below wr.heap.size wr w''∧w''.cell? ⟨w3.heap.size,0,none⟩ = some (.int .i64 k)∧w''.cell? ⟨w3.heap.size,1,none⟩ = some (.int .i64 c)∧w''.cell? ⟨w3.heap.size,2,none⟩ = some (.slice (some ⟨g,0,none⟩) N N)∧w''.cell? ⟨w.heap.size,0,none⟩ = some (.int .i64 r)∧w''.cell? ⟨w.heap.size,1,none⟩ = some (.int .i64 c)∧w''.cell? ⟨w.heap.size,2,none⟩ = some (.slice (some ⟨ba,oa,none⟩) NA cpa)):=by
    intro v u w' hv hu hb
    subst hv hu
    refine (row_at w' i (x:=y) (by omega) (by omega) c1 c2 (QN.out i hlt1) (Nat.le_refl _)).mono ?_
    rintro e w'' ⟨rfl,j⟩
    have j':=below_step hb j
    have I':=I.below j'
    exact ⟨rfl,j',I'.p.cell0,I'.p.cell1,I'.p.cell2,I'.a.cell0,I'.a.cell1,I'.a.cell2⟩
   have R2 : Hid (∀ (v u : Value) (w' : World),v = .agg #[.int .i64 r,.int .i64 c,.slice (some ⟨ba,oa,none⟩) NA cpa]→u = .int .i64 ((ρ i : Nat) : Int)→Below wr.heap.size wr w'→Calls Tryz.prog 261 #[v,u] w' fun e w'' => e = .returned (.slice (some ⟨ba,x,none⟩) c c)∧Below wr.heap.size wr w''∧w''.cell? ⟨w3.heap.size,0,none⟩ = some (.int .i64 k)∧w''.cell? ⟨w3.heap.size,1,none⟩ = some (.int .i64 c)∧w''.cell? ⟨w3.heap.size,2,none⟩ = some (.slice (some ⟨g,0,none⟩) N N)∧w''.cell? ⟨w.heap.size,0,none⟩ = some (.int .i64 r)∧w''.cell? ⟨w.heap.size,1,none⟩ = some (.int .i64 c)∧w''.cell? ⟨w.heap.size,2,none⟩ = some (.slice (some ⟨ba,oa,none⟩) NA cpa)):=by
    intro v u w' hv hu hb
    subst hv hu
    refine (row_at w' (ρ i) hx (by omega) c1 c2 (QA.out _ hpi) ha3).mono ?_
    rintro e w'' ⟨rfl,j⟩
    have j':=below_step hb j
    have I':=I.below j'
    exact ⟨rfl,j',I'.p.cell0,I'.p.cell1,I'.p.cell2,I'.a.cell0,I'.a.cell1,I'.a.cell2⟩
   have AC : Hid (∀ (w' : World),Below wr.heap.size wr w'→∃ wc,(Builtin.copy_ #[162,162] 3 #[.slice (some ⟨g,y,none⟩) c c,.slice (some ⟨ba,x,none⟩) c c]).run Tryz.prog w' = .ok (goInt c) wc∧PickI w g N w3.heap.size k c r (.slice (some ⟨ba,oa,none⟩) NA cpa) (pickF c (fun i j => mt c A (ρ i) j) (i + 1)) wc∧wc.cell? ⟨w3.heap.size,0,none⟩ = some (.int .i64 k)∧wc.cell? ⟨w3.heap.size,1,none⟩ = some (.int .i64 c)∧wc.cell? ⟨w3.heap.size,2,none⟩ = some (.slice (some ⟨g,0,none⟩) N N)∧wc.cell? ⟨w.heap.size,0,none⟩ = some (.int .i64 r)∧wc.cell? ⟨w.heap.size,1,none⟩ = some (.int .i64 c)∧wc.cell? ⟨w.heap.size,2,none⟩ = some (.slice (some ⟨ba,oa,none⟩) NA cpa)):=by
    intro w' hb
    have I':=I.below hb
    obtain ⟨wc,h1,h2,h3⟩:=copy_row (cd:=c) (cs:=c) (b:=ba) (o:=x) (H:=fun j => mt c A (ρ i) j) I'.G (fun j hj => by
     have:=(HA.out.below I'.gr).cell_at (ρ i * c + j) (Nat.lt_of_lt_of_le (by rw [Nat.add_mul,Nat.one_mul]; omega) (QA.out _ hpi))
     rw [show x + j = oa + (ρ i * c + j) by omega]
     exact this) hyN
    have I2:=I'.turn h3 (h2.congr (f':=pickF c (fun i j => mt c A (ρ i) j) (i + 1)) (fun t _ => by rw [hy]; exact pickF_step c (fun i j => mt c A (ρ i) j) i t (by omega))) hgs'
    exact ⟨wc,h1,I2,I2.p.cell0,I2.p.cell1,I2.p.cell2,I2.a.cell0,I2.a.cell1,I2.a.cell2⟩
   have m0:=I.p.cell0
   have m1:=I.p.cell1
   have m2:=I.p.cell2
   have m3:=I.a.cell0
   have m4:=I.a.cell1
   have m5:=I.a.cell2
   clear I hy hx
   generalize ρ i = ri at *
   have b0 : (0 : Int) ≤ (i : Int):=by omega
   have b1 : (i : Int) < (k : Int):=by omega
   go_wp2_with fail
   go_region_held_law (fun w' => w'.cell? ⟨w3.heap.size,0,none⟩ = some (.int .i64 k)∧w'.cell? ⟨w3.heap.size,1,none⟩ = some (.int .i64 c)∧w'.cell? ⟨w3.heap.size,2,none⟩ = some (.slice (some ⟨g,0,none⟩) N N)∧w'.cell? ⟨w.heap.size,0,none⟩ = some (.int .i64 r)∧w'.cell? ⟨w.heap.size,1,none⟩ = some (.int .i64 c)∧w'.cell? ⟨w.heap.size,2,none⟩ = some (.slice (some ⟨ba,oa,none⟩) NA cpa)) (first | assumption | exact ⟨by assumption,by assumption,by assumption,by assumption,by assumption,by assumption⟩ | exact ⟨m0,m1,m2,m3,m4,m5⟩)
    (first
     | (go_at_call 261; refine (R1.out _ _ _ (by with_reducible rfl) (by with_reducible rfl) (by first | assumption | exact (Below.refl _ _).drew)).mono ?_; rintro e wa ⟨rfl,ka,ka1,ka2,ka3,ka4,ka5,ka6⟩)
     | (go_at_call 261; refine (R2.out _ _ _ (by with_reducible rfl) (by with_reducible rfl) (by first | assumption | exact (Below.refl _ _).drew)).mono ?_; rintro e wb ⟨rfl,kb,kb1,kb2,kb3,kb4,kb5,kb6⟩)
     | (obtain ⟨wc,hr,kc,kc1,kc2,kc3,kc4,kc5,kc6⟩:=AC.out _ kb; refine step_copy_run rfl _ _ 162 162 rfl _ _ rfl rfl _ _ hr ?_)
     | (obtain ⟨wc,hr,kc,kc1,kc2,kc3,kc4,kc5,kc6⟩:=AC.out _ ka; refine step_copy_run rfl _ _ 162 162 rfl _ _ rfl rfl _ _ hr ?_))
   all_goals
    clear R1 R2 AC
    go_wp2
    exact ⟨⟨i + 1,by omega,by go_num,kc⟩,by simp [RowKit.intOf]; omega⟩
  ·obtain rfl : i = k:=by omega
   have p0:=I.p.cell0
   have p1:=I.p.cell1
   have p2:=I.p.cell2
   have q0:=I.r.cell0
   have q1:=I.r.cell1
   have q2:=I.r.cell2
   have f2:=I.r.free
   have hne:=I.r.ne I.G
   have HI:=hide I
   clear I
   go_wp2
   obtain ⟨hX5,g5⟩:=HI.out.r.put (i : Int) (c : Int) (.slice (some ⟨g,0,none⟩) N N)
   refine bodyPost_ret (v:=.tuple #[.agg #[.int .i64 i,.int .i64 c,.slice (some ⟨g,0,none⟩) N N],.int .i64 0]) (by simp [results,Tryz.results312,go_sem,hX5.cell0,hX5.cell1,hX5.cell2]) rfl ⟨g,rfl,?_,hgs',below_gb HI.out.gr g5 (by omega) HI.out.gr.size⟩
   exact (HI.out.G.of_block (g5.block g HI.out.G.lt (by simp; exact fun e => hne e.symm))).congr (fun t ht => QI.out _ t ht)
end Go.Proofs.YtagijldedngcoaaGreatDoor.Zq


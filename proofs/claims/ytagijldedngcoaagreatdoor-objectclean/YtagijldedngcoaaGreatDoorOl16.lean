/-
  Contracts of the program and of the statements (part 16 of 28).
-/
import Derived.Test.YtagijldedngcoaaGreatDoorOl15
import Derived.Test.YtagijldedngcoaaGreatDoorOl13
import Derived.RangeFuncNested
import Derived.RangeFuncBound
import Derived.RangeFuncCalls
import Derived.RangeFuncLeaves
import Derived.Shelf.Abstract
import Derived.Shelf.RegionOpen
import Derived.WalkKit
import Derived.OwnWalkIn
import Derived.TacticsInMore
import Derived.LoopNIn
import Derived.LoopIn
set_option maxRecDepth 100000
set_option maxHeartbeats 3200000

namespace Go.Proofs.YtagijldedngcoaaGreatDoor
open Go.RowKit Go.Lib Go.Maps
section
variable {α : Type} {f : α→List Value} {K : Nat}
theorem flat_set (hk : ∀ x,(f x).length = K) : ∀ (l : List α) (j k : Nat) (x x' : α) (v : Value),l[j]? = some x→k < K→f x' = (f x).set k v→(l.flatMap f).set (j * K + k) v = (l.set j x').flatMap f
 | [],_,_,_,_,_,h,_,_ => by simp at h
 | y :: r,0,k,x,x',v,h,hk2,he => by
  simp at h
  subst h
  rw [List.flatMap_cons,List.set_cons_zero,List.flatMap_cons,he,Nat.zero_mul,Nat.zero_add,List.set_append_left _ _ (by rw [hk]; exact hk2)]
 | y :: r,j + 1,k,x,x',v,h,hk2,he => by
  simp at h
  rw [List.flatMap_cons,List.set_cons_succ,List.flatMap_cons,List.set_append_right _ _ (by rw [hk,Nat.add_mul,Nat.one_mul]; omega),hk,show (j + 1) * K + k - K = j * K + k from by rw [Nat.add_mul,Nat.one_mul]; omega,flat_set hk r j k x x' v h hk2 he]
end
theorem wpList_make_run {ops : Array Oper} {rest : List Oper} {op : Oper} {a : Act} {w w1 : World} {Q : Exit→Act→World→Prop} (hgd : op.guard = none) (ty : TypeId) (x y : Operand) (ho : op.op = .makeSlice ty x y)
  (p v u : Value) (hx : a.eval x = p) (hy : a.eval y = v) (hr : (Instr.makeSlice ty p v).run Tryz.prog w = .ok u w1)
  (h : wpList Tryz.prog ops Q rest (a.put op.dst u) w1) : wpList Tryz.prog ops Q (op :: rest) a w :=
 wpList_plain hgd fun _ hK => by
  unfold Oper.wp execOp
  simp only [ho,hx,hy,Sem.run_bind,Sem.run_pure,Result.andThen_ok,hr]
  exact hK _ _ h
def RQL (w : World) (g : Nat) (l : List QT) : Prop:=w.heap[g]? = some (.cells (l.flatMap q4).toArray 81 (0,0))
def q0 : QT:=⟨0,0,⟨#[]⟩,⟨#[]⟩⟩
section
variable {w w' : World} {g j : Nat} {l : List QT} {q : QT} {r : Nat→Prop}
theorem RQL.lt (h : RQL w g l) : g < w.heap.size:=lt_of_block h
theorem RQL.set (h : RQL w g l) (hq : l[j]? = some q) (k : Nat) (hk : k < 4) (v : Value) (q' : QT) (he : q4 q' = (q4 q).set k v) : RQL (w.setCell ⟨g,j * 4 + k,none⟩ v) g (l.set j q'):=by
 have:=heap_set_self (j:=j * 4 + k) (u:=v) h
 unfold RQL
 rw [← flat_set q4_len l j k q q' v hq hk he]
 simpa using this
theorem RQL.four (h : RQL w g l) (hq : l[j]? = some q) (p : QT) : RQL (w.setCells g (j * 4) [.int .i64 p.st,.int .i64 p.k,.string p.n,.string p.d]) g (l.set j p):=by
 have hl : j < l.length:=(List.getElem?_eq_some_iff.1 hq).1
 simp only [World.setCells]
 have e1:=h.set hq 0 (by decide) (.int .i64 p.st) ⟨p.st,q.k,q.n,q.d⟩ rfl
 have e2:=e1.set (j:=j) (q:=⟨p.st,q.k,q.n,q.d⟩) (by rw [List.getElem?_set_self hl]) 1 (by decide) (.int .i64 p.k) ⟨p.st,p.k,q.n,q.d⟩ rfl
 have e3:=e2.set (j:=j) (q:=⟨p.st,p.k,q.n,q.d⟩) (by rw [List.getElem?_set_self (by simpa using hl)]) 2 (by decide) (.string p.n) ⟨p.st,p.k,p.n,q.d⟩ rfl
 have e4:=e3.set (j:=j) (q:=⟨p.st,p.k,p.n,q.d⟩) (by rw [List.getElem?_set_self (by simpa using hl)]) 3 (by decide) (.string p.d) p rfl
 simp only [List.set_set] at e4
 exact e4
theorem RQL.cell (h : RQL w g l) (hq : l[j]? = some q) {k : Nat} (hk : k < 4) {v : Value} (hv : (q4 q)[k]? = some v) : w.cell? ⟨g,j * 4 + k,none⟩ = some v:=by
 rw [cell_of_row w g _ _ _ _ h]
 simp only [List.getElem?_toArray]
 rw [flat_get q4_len l j k hk,hq]
 exact hv
theorem RQL.free (h : RQL w g l) (o : Nat) : w.frozen? ⟨g,o,none⟩ = false:=by simp [World.frozen?,show w.heap[g]? = _ from h]
theorem RQL.gs (h : RQL w g l) (hr : r g) (c : Nat) : LS q4 4 r w (.slice (some ⟨g,0,none⟩) l.length c) l:=by
 refine ⟨_,_,rfl,(fun e => by cases e),.inr ⟨g,0,rfl,hr,h.lt,fun i x hx k u hu => ?_⟩⟩
 rw [Nat.zero_add]
 exact h.cell hx (by rw [← q4_len x]; exact (List.getElem?_eq_some_iff.1 hu).1) hu
theorem made_q (n : Nat) : madeCells (Value.agg #[.int .i64 0,.int .i64 0,.string ⟨#[]⟩,.string ⟨#[]⟩]).cells (n * 4) = ((List.replicate n q0).flatMap q4).toArray:=by
 apply Array.ext_getElem?
 intro i
 have hz : (Value.agg #[.int .i64 0,.int .i64 0,.string ⟨#[]⟩,.string ⟨#[]⟩]).cells = #[.int .i64 0,.int .i64 0,.string ⟨#[]⟩,.string ⟨#[]⟩]:=rfl
 simp only [List.getElem?_toArray]
 have e : i = i / 4 * 4 + i % 4:=by omega
 have hm : i % 4 < 4:=Nat.mod_lt _ (by decide)
 conv => rhs; rw [e,flat_get q4_len _ _ _ hm,List.getElem?_replicate]
 rw [madeCells,hz,Array.getElem?_map]
 by_cases h : i < n * 4
 ·rw [if_pos (by omega)]
  have : (Array.range (n * 4))[i]? = some i:=by simp [h]
  rw [this]
  have h4 : i % 4 = 0 ∨ i % 4 = 1 ∨ i % 4 = 2 ∨ i % 4 = 3:=by omega
  rcases h4 with h4 | h4 | h4 | h4 <;> simp [h4,q4,q0]
 ·rw [if_neg (by omega)]
  have : (Array.range (n * 4))[i]? = none:=by simp; omega
  rw [this]
  rfl
theorem run_makeQ (n : Nat) (hn : n ≤ 255) (w : World) : ∃ W,(Instr.makeSlice 198 (.int .i64 (n : Int)) (.int .i64 (n : Int))).run Tryz.prog w = .ok (.slice (some ⟨w.heap.size,0,none⟩) n n) W∧RQL W w.heap.size (List.replicate n q0)∧Below w.heap.size w W:=by
 obtain ⟨i0,hi,hz0,hz1,hz2⟩:=info_parts Tryz.infoQ
 have hr:=run_make (P:=Tryz.prog) w 198 81 i0 _ Tryz.underlying198 hi hz0 .i64 .i64 (n : Int) (n : Int) (by omega) (Int.le_refl _) (by rw [hz2]; omega) (by omega)
 rw [hz1] at hr
 simp only [Int.toNat_natCast] at hr
 rw [made_q] at hr
 exact ⟨_,hr,heap_alloc_new w _,(Below.refl _ _).alloc (Nat.le_refl _) _⟩
theorem aq_at {k : Int} {nm d : ByteArray} {n j : Nat} (h : j < n) : (aq k nm d j ++ List.replicate (n - j) q0)[j]? = some q0:=by
 rw [List.getElem?_append_right (by rw [aq_len]; omega),aq_len,Nat.sub_self,List.getElem?_replicate,if_pos (by omega)]
theorem aq_set {k : Int} {nm d : ByteArray} {n j : Nat} (h : j < n) : (aq k nm d j ++ List.replicate (n - j) q0).set j ⟨(j : Int),k,nm,d⟩ = aq k nm d (j + 1) ++ List.replicate (n - (j + 1)) q0:=by
 rw [List.set_append_right _ _ (by rw [aq_len]; omega),aq_len,Nat.sub_self,show n - j = (n - (j + 1)) + 1 from by omega,List.replicate_succ,List.set_cons_zero,aq_snoc,List.append_assoc]
 rfl
theorem toAll_no {n st k : Int} {nm d : ByteArray} (h : n < 1 ∨ 255 < n) : Calls Tryz.prog 163 #[.int .i64 n,.agg #[.int .i64 st,.int .i64 k,.string nm,.string d]] w fun e w' => e = .returned (.slice none 0 0)∧Below w.heap.size w w':=by
 have HM:=hide (mayBe_no (w:=w.alloc (.cells #[.int .i64 st,.int .i64 k,.string nm,.string d] 81)) h)
 clear h
 go_enter Tryz.func163,Tryz.ntmps163
 go_wp2_with (go_at_call 207; refine HM.out.mono ?_; rintro e w1 ⟨rfl,rfl⟩)
 go_ret
 exact ⟨rfl,(Below.refl _ _).alloc (Nat.le_refl _) _⟩
theorem toAll_yes {n : Nat} {st k : Int} {nm d : ByteArray} (h1 : 1 ≤ n) (h2 : n ≤ 255) : Calls Tryz.prog 163 #[.int .i64 (n : Int),.agg #[.int .i64 st,.int .i64 k,.string nm,.string d]] w fun e w' => ∃ g,e = .returned (.slice (some ⟨g,0,none⟩) n n)∧RQL w' g (aq k nm d n)∧w.heap.size ≤ g∧Below w.heap.size w w':=by
 obtain ⟨U,hU⟩ : ∃ U,U = w.alloc (.cells #[.int .i64 st,.int .i64 k,.string nm,.string d] 81):=⟨_,rfl⟩
 obtain ⟨bx,hbx⟩ : ∃ bx,bx = w.heap.size:=⟨_,rfl⟩
 have hBU : Below w.heap.size w U:=by rw [hU]; exact (Below.refl _ _).alloc (Nat.le_refl _) _
 have hblk : U.heap[bx]? = some (.cells #[.int .i64 st,.int .i64 k,.string nm,.string d] 81 (0,0)):=by rw [hU,hbx]; exact heap_alloc_new w _
 have HM:=hide (mayBe_yes (w:=U) (n:=(n : Int)) (by omega) (by omega))
 obtain ⟨W,hW,hR,hBW⟩:=run_makeQ n h2 U
 obtain ⟨g,hg⟩ : ∃ g,g = U.heap.size:=⟨_,rfl⟩
 rw [← hg] at hW hR
 have hgb : bx < g:=by rw [hg]; exact lt_of_block hblk
 have H0 : Hid (RQL W g (aq k nm d 0 ++ List.replicate (n - 0) q0)∧W.heap[bx]? = some (.cells #[.int .i64 st,.int .i64 k,.string nm,.string d] 81 (0,0))∧Below w.heap.size w W) :=
  ⟨by simpa [aq] using hR,(hBW.block bx (lt_of_block hblk)).trans hblk,hBU.trans (hBW.mono hBU.size)⟩
 have HU:=hide hU
 have Hbx:=hide hbx
 have Hn:=hide (And.intro h1 h2)
 have Hg:=hide hg
 have Hgb:=hide hgb
 clear hU hbx hBU hblk hR hBW hg hgb h1 h2
 go_enter Tryz.func163,Tryz.ntmps163
 go_upto_region 1 with fail
 rw [← HU.out,← Hbx.out]
 go_wp2_with (first | (go_at_call 207; refine HM.out.mono ?_; rintro e w1 ⟨rfl,rfl⟩) | (refine wpList_make_run rfl 198 _ _ rfl _ _ _ rfl rfl hW ?_))
 go_loopw [14] (fun i wr => ∃ j : Nat,j ≤ n∧i = .int .i64 j∧RQL wr g (aq k nm d j ++ List.replicate (n - j) q0)∧wr.heap[bx]? = some (.cells #[.int .i64 st,.int .i64 k,.string nm,.string d] 81 (0,0))∧Below w.heap.size w wr) (fun i _ => n - (intOf i).toNat)
 case atStart => exact ⟨0,Nat.zero_le _,rfl,H0.out⟩
 case round =>
  obtain ⟨j,hj,rfl,hR,hb,hB⟩:=hrel
  have h2:=Hn.out.2
  by_cases hlt : j < n
  ·have b1 : (j : Int) < (n : Int):=by omega
   have b0 : (0 : Int) ≤ (j : Int):=by omega
   have y0 : wr.cell? ⟨bx,0,none⟩ = some (.int .i64 st):=by simp [World.cell?,hb]
   have y1 : wr.cell? ⟨bx,1,none⟩ = some (.int .i64 k):=by simp [World.cell?,hb]
   have y2 : wr.cell? ⟨bx,2,none⟩ = some (.string nm):=by simp [World.cell?,hb]
   have y3 : wr.cell? ⟨bx,3,none⟩ = some (.string d):=by simp [World.cell?,hb]
   have hq0:=aq_at (k:=k) (nm:=nm) (d:=d) hlt
   have hrun:=store_run (t:=81) (o:=j * 4) hR #[.int .i64 st,.int .i64 k,.string nm,.string d] (by simp [flat_len q4_len,aq_len]; omega) Tryz.sizeQ (by simp [Value.oneCell'])
   obtain ⟨V,hV⟩ : ∃ V,V = wr.setCells g (j * 4) [.int .i64 st,.int .i64 k,.string nm,.string d]:=⟨_,rfl⟩
   simp only [] at hrun
   rw [← hV] at hrun
   have hR1 : RQL V g ((aq k nm d j ++ List.replicate (n - j) q0).set j ⟨st,k,nm,d⟩):=by rw [hV]; exact hR.four hq0 ⟨st,k,nm,d⟩
   have hj2 : j < (aq k nm d j ++ List.replicate (n - j) q0).length:=(List.getElem?_eq_some_iff.1 hq0).1
   have z0 : V.cell? ⟨g,j * 4,none⟩ = some (.int .i64 st):=hR1.cell (j:=j) (q:=⟨st,k,nm,d⟩) (k:=0) (by rw [List.getElem?_set_self hj2]) (by decide) rfl
   have f0:=hR1.free (j * 4)
   have hR2:=hR1.set (j:=j) (q:=⟨st,k,nm,d⟩) (by rw [List.getElem?_set_self hj2]) 0 (by decide) (.int .i64 (j : Int)) ⟨(j : Int),k,nm,d⟩ rfl
   rw [List.set_set,aq_set hlt] at hR2
   have HE : Hid (RQL (V.setCell ⟨g,j * 4,none⟩ (.int .i64 (j : Int))) g (aq k nm d (j + 1) ++ List.replicate (n - (j + 1)) q0)∧(V.setCell ⟨g,j * 4,none⟩ (.int .i64 (j : Int))).heap[bx]? = some (.cells #[.int .i64 st,.int .i64 k,.string nm,.string d] 81 (0,0))∧Below w.heap.size w (V.setCell ⟨g,j * 4,none⟩ (.int .i64 (j : Int)))):=by
    have hG0 : Gs (fun i => i = g) wr V:=by rw [hV]; exact Gs.cells _ _ _ (Gs.refl _ _) (.inl rfl)
    have hG : Gs (fun i => i = g) wr (V.setCell ⟨g,j * 4,none⟩ (.int .i64 (j : Int))):=hG0.set1 _ _
    have hgb:=Hgb.out
    have hx:=Hbx.out
    exact ⟨hR2,(hG.block bx (lt_of_block hb) (by omega)).trans hb,hG.below hB hB.size (fun i e => by omega)⟩
   clear hR hb hB hq0 hV hR1 hj2 hR2
   go_wp2_with (refine wpList_store_run rfl 81 _ _ rfl _ _ rfl rfl hrun ?_)
   exact ⟨⟨j + 1,by omega,by go_num,HE.out⟩,by simp [intOf]; omega⟩
  ·obtain rfl : j = n:=by omega
   have HE : Hid (RQL wr g (aq k nm d j)∧w.heap.size ≤ g∧Below w.heap.size w wr):=by
    refine ⟨by simpa using hR,?_,hB⟩
    have hgb:=Hgb.out
    have hx:=Hbx.out
    omega
   clear hR hb hB
   go_wp2
   go_ret
   exact ⟨g,rfl,HE.out⟩
end
end Go.Proofs.YtagijldedngcoaaGreatDoor

namespace Go.Proofs.YtagijldedngcoaaGreatDoor
open Go.RowKit Go.Lib
def NR (w : World) (p K : Nat) (X : Nat→Nat) : Prop:=w.heap[p]? = some (.cells ((List.range K).map fun i => Value.int .i64 (X i : Nat)).toArray 3 (0,0))
section
variable {w w' : World} {p K i m n : Nat} {X Y : Nat→Nat}
theorem NR.lt (h : NR w p K X) : p < w.heap.size:=lt_of_block h
theorem NR.cell (h : NR w p K X) (hi : i < K) : w.cell? ⟨p,i,none⟩ = some (.int .i64 (X i : Nat)):=by
 rw [cell_of_row w p _ _ _ _ h]
 simp [hi]
theorem NR.free (h : NR w p K X) (o : Nat) : w.frozen? ⟨p,o,none⟩ = false:=by simp [World.frozen?,show w.heap[p]? = _ from h]
theorem NR.congr (h : NR w p K X) (e : ∀ i,i < K→X i = Y i) : NR w p K Y:=by
 have : (List.range K).map (fun i => Value.int .i64 (X i : Nat)) = (List.range K).map fun i => Value.int .i64 (Y i : Nat):=List.map_congr_left fun i hi => by rw [e i (List.mem_range.1 hi)]
 unfold NR at h ⊢
 rw [h,this]
theorem NR.set (h : NR w p K X) (i v : Nat) : NR (w.setCell ⟨p,i,none⟩ (.int .i64 (v : Nat))) p K (fun j => if j = i then v else X j):=by
 have:=heap_set_self (j:=i) (u:=.int .i64 (v : Nat)) h
 unfold NR
 rw [this]
 congr 2
 apply Array.ext'
 simp only [Array.toList_setIfInBounds]
 apply List.ext_getElem?
 intro j
 rw [List.getElem?_set,List.getElem?_map,List.getElem?_map]
 by_cases hj : j < K
 ·rw [List.getElem?_range hj]
  by_cases e : i = j
  ·subst e; simp [hj]
  ·simp [e,Ne.symm e]
 ·rw [List.getElem?_eq_none (by simpa using hj)]
  by_cases e : i = j
  ·subst e; simp [hj]
  ·simp [e]
theorem NR.gs {q : Nat→Prop} (h : NR w p K X) (hg : Gs q w w') (hp : ¬ q p) : NR w' p K X:=(hg.block p h.lt hp).trans h
def upX (X : Nat→Nat) (i m : Nat) (j : Nat) : Nat:=if i ≤ j∧j < m then X i + 1 + (j - i) else X j
theorem nxI_le {c : List Nat} {n : Nat} : ∀ {i : Nat},nxI c n (i + 1) = if cat c i + c.length = n + i then nxI c n i else some (c.take i ++ (List.range (c.length - i)).map fun j => cat c i + 1 + j):=by intro i; rw [nxI]
theorem further_any {c : List Nat} (hc : CI K n c) (hR : NR w p K (cat c)) (hK : K ≤ n) (hn : n ≤ 1000) :
  Calls Tryz.prog 234 #[.slice (some ⟨p,0,none⟩) K K,.int .i64 (n : Nat)] w fun e w' => e = .returned (.bool (nxt c n).isSome)∧NR w' p K (cat ((nxt c n).getD c))∧Gs (fun i => i = p) w w':=by
 have HC:=hide hc
 have HR:=hide hR
 have hKn : ((n : Nat) : Int) - (K : Int) = ((n - K : Nat) : Int):=by omega
 have hk1 : (K : Int) - 1 < 9223372036854775807:=by omega
 clear hc hR
 go_enter Tryz.func234,Tryz.ntmps234
 go_wp2
 go_loopw [5] (fun i wr => ∃ j : Nat,j ≤ K∧i = .int .i64 ((j : Int) - 1)∧nxt c n = nxI c n j∧wr = w) (fun i _ => (intOf i + 1).toNat)
 case atStart => exact ⟨K,Nat.le_refl _,by go_num,by rw [nxt,HC.out.1],rfl⟩
 case round =>
  obtain ⟨j,hj,rfl,he,hw⟩:=hrel
  subst wr
  have HE:=hide he
  clear he
  cases j with
  | zero =>
   have HF : Hid (nxt c n = none):=by show nxt c n = none; rw [HE.out,nxI]
   go_wp2
   go_ret
   rw [HF.out]
   exact ⟨rfl,HR.out,Gs.refl _ _⟩
  | succ j =>
   have e1 : ((j + 1 : Nat) : Int) - 1 = (j : Int):=by omega
   rw [e1]
   have z0:=HR.out.cell (i:=j) (by omega)
   have f0:=HR.out.free j
   have hcj:=HC.out.2 j (by omega)
   have hl:=HC.out.1
   have hE:=HE.out
   rw [nxI_le,hl] at hE
   have b0 : (0 : Int) ≤ (j : Int):=by omega
   have b1 : (j : Int) < (K : Int):=by omega
   by_cases hq : cat c j + K = n + j
   ·rw [if_pos hq] at hE
    have HE2:=hide hE
    have q1 : ((cat c j : Nat) : Int) = (n : Int) - (K : Int) + (j : Int):=by omega
    clear hE hl
    go_wp2
    exact ⟨⟨j,by omega,by go_num,HE2.out,trivial⟩,by simp [intOf]⟩
   ·rw [if_neg hq] at hE
    have HE2:=hide hE
    have q1 : ¬ ((cat c j : Nat) : Int) = (n : Int) - (K : Int) + (j : Int):=by omega
    have hN1:=(HR.out.set j (cat c j + 1)).congr (Y:=upX (cat c) j (j + 1)) (fun i hi => by
     unfold upX
     by_cases e : i = j
     ·subst e; rw [if_pos rfl,if_pos (by omega)]; omega
     ·rw [if_neg e,if_neg (by omega)])
    have hG1 : Gs (fun i => i = p) w (w.setCell ⟨p,j,none⟩ (.int .i64 ((cat c j + 1 : Nat) : Int))):=(Gs.refl _ _).set1 _ _
    have q2 : (((cat c j + 1 : Nat)) : Int) = ((cat c j : Nat) : Int) + 1:=by omega
    rw [q2] at hN1 hG1
    have H1:=hide (And.intro hN1 hG1)
    have hb2 : ((cat c j : Nat) : Int) + 1 ≤ 2000:=by omega
    clear hN1 hG1 q2 hE hl HE
    go_wp2
    go_loopw [6] (fun i ws => ∃ m : Nat,j + 1 ≤ m∧m ≤ K∧i = .int .i64 (m : Nat)∧NR ws p K (upX (cat c) j m)∧Gs (fun i => i = p) w ws) (fun i _ => K - (intOf i).toNat)
    case atStart => exact ⟨j + 1,Nat.le_refl _,by omega,by go_num,H1.out⟩
    case round =>
     obtain ⟨m,hm1,hm2,rfl,hN,hG⟩:=hrel
     by_cases hlt : m < K
     ·have c1 : (m : Int) < (K : Int):=by omega
      have c0 : (0 : Int) ≤ (m : Int):=by omega
      have c2 : (0 : Int) ≤ (m : Int) - 1:=by omega
      have c3 : (m : Int) - 1 < (K : Int):=by omega
      have y0:=hN.cell (i:=m - 1) (by omega)
      have y1:=hN.cell (i:=m) hlt
      have y2:=hN.free m
      have e2 : upX (cat c) j m (m - 1) = cat c j + (m - j):=by unfold upX; rw [if_pos (by omega)]; omega
      rw [e2] at y0
      have e3 : (((m - 1 : Nat)) : Int) = (m : Int) - 1:=by omega
      have e4 : ((m : Int) - 1).toNat = m - 1:=by omega
      have hN2:=(hN.set m (cat c j + (m - j) + 1)).congr (Y:=upX (cat c) j (m + 1)) (fun i hi => by
       unfold upX
       by_cases e : i = m
       ·subst e; rw [if_pos rfl,if_pos (by omega)]; omega
       ·rw [if_neg e]
        by_cases e2 : j ≤ i∧i < m
        ·rw [if_pos e2,if_pos (by omega)]
        ·rw [if_neg e2,if_neg (by omega)])
      have hG2 : Gs (fun i => i = p) w (wr.setCell ⟨p,m,none⟩ (.int .i64 ((cat c j + (m - j) + 1 : Nat) : Int))):=hG.set1 _ _
      have q3 : (((cat c j + (m - j) + 1 : Nat)) : Int) = ((cat c j + (m - j) : Nat) : Int) + 1:=by omega
      rw [q3] at hN2 hG2
      have H2:=hide (And.intro hN2 hG2)
      have hb3 : ((cat c j + (m - j) : Nat) : Int) ≤ 5000:=by omega
      have hb4 : (0 : Int) ≤ ((cat c j + (m - j) : Nat) : Int):=by omega
      generalize ((cat c j + (m - j) : Nat) : Int) = vv at *
      clear hN hG hN2 hG2 q3 e2
      go_wp2
      exact ⟨⟨m + 1,by omega,by omega,by go_num,H2.out⟩,by simp [intOf]; omega⟩
     ·obtain rfl : m = K:=by omega
      have HF : Hid (nxt c n = some (c.take j ++ (List.range (m - j)).map fun i => cat c j + 1 + i)∧NR wr p m (cat (c.take j ++ (List.range (m - j)).map fun i => cat c j + 1 + i))∧Gs (fun i => i = p) w wr):=by
       refine ⟨HE2.out,hN.congr fun i hi => ?_,hG⟩
       have h1:=cat_up (c:=c) (i:=j) (j:=i) (by have:=HC.out.1; omega)
       rw [HC.out.1] at h1
       rw [h1]
       unfold upX
       by_cases e : j ≤ i∧i < m
       ·rw [if_pos e,if_neg (by omega),if_pos (by omega)]
       ·rw [if_neg e,if_pos (by omega)]
      clear hN hG
      go_wp2
      go_ret
      obtain ⟨h1,h2,h3⟩:=HF.out
      rw [h1]
      exact ⟨rfl,h2,h3⟩
end
end Go.Proofs.YtagijldedngcoaaGreatDoor

namespace Go.Proofs.YtagijldedngcoaaGreatDoor
open Go.RowKit Go.Lib
def Stb (B : Nat) (I : Nat→World→Prop) : Prop:=∀ t A A',I t A→Gs (fun i => B ≤ i) A A'→I t A'
def SeqM (gf : Nat) (lb : Array Value) (M : Nat→Prop) (C : Nat→Nat→World→Value→Prop) (S Sp : Nat→Prop) (w : World) : Prop :=
 ∀ (l : Nat) (J Jx : Nat→World→Prop) (W : World),Below w.heap.size w W→w.heap.size ≤ l→l < W.heap.size→Stb W.heap.size J→Stb W.heap.size Jx →
  (∀ t v W1,J t W1→C W.heap.size t W1 v→W.heap.size ≤ W1.heap.size→YieldAt Fence.wide 0 Tryz.prog l #[v] W1 fun e W' => (e = .returned (.bool true)∧J (t + 1) W'∧Gs (fun i => M i ∨ i = l) W1 W') ∨ (e = .returned (.bool false)∧Jx t W')) →
  J 0 W→CallsIn Fence.wide 0 Tryz.prog gf (#[.func (.yield l) #[] #[]] ++ lb) W fun e W' => (∃ v,e = .returned v)∧((∃ t,S t∧J t W') ∨ (∃ t,Sp t∧Jx t W'))
def postM (M : Nat→Prop) (I : Nat→World→Prop) (Ix : Code→Nat→World→Prop) (t : Nat) (W : World) : Exit→Act→World→Prop
 | .normal,_,W' => Gs M W W'∧I (t + 1) W'
 | .ret,_,W' => Gs M W W'∧Ix .ret t W'
 | .exit id,_,W' => Gs M W W'∧Ix (.exit id) t W'
 | _,_,_ => False
theorem gs_putObj {W : World} {l : Nat} {o : Obj} : Gs (fun i => i = l) W (W.putObj l o):=(Gs.refl _ W).gb (grownBy_putObj' W l o) (.inl rfl)
theorem range_m {g : Operand} {ps : Array Tmp} {assign body : Code} {Q : Exit→Act→World→Prop} {a : Act} {w : World} {gf : Nat} {lb : Array Value} (hg : a.eval g = .func (.func gf) #[] lb) (eg : ∀ args w,(callFunc gf args).run Tryz.prog w = .ok (.enter gf args) w)
  {M : Nat→Prop} {C : Nat→Nat→World→Value→Prop} {S Sp : Nat→Prop} (hseq : SeqM gf lb M C S Sp w) (hM : ∀ i,M i→i < w.heap.size) (hps : ps.size = 1)
  (hC : ∀ B t A A' v,C B t A v→Gs (fun i => i < B) A A'→C B t A' v)
  (I : Nat→World→Prop) (Ix : Code→Nat→World→Prop) (hI : Stb w.heap.size I) (hIx : ∀ c,Stb w.heap.size (Ix c)) (h0 : I 0 w) (a1 : Value→Act)
  (hassign : ∀ (l : Nat) (v : Value) (W : World) (K : Act→World→Prop),K (a1 v) W→assign.wpIn (Fence.wide.inRound l) 0 Tryz.prog (Exit.then K (fun _ _ _ => False)) { tmps:=(ps.zip #[v]).foldl (fun t (p,v) => t.setIfInBounds p v) a.tmps,defers:=[] } W)
  (hbody : ∀ (l B t : Nat) (v : Value) (W : World),w.heap.size ≤ l→l < B→B ≤ W.heap.size→I t W→C B t W v→body.wpIn (Fence.wide.inRound l) 0 Tryz.prog (postM M I Ix t W) (a1 v) W)
  (hdone : ∀ (D t : Nat) (W : World),w.heap.size ≤ D→S t→I t W→W.heap[D]? = some (.deferred (some []))→Q .normal { a with defers:={ target:=.collected D,args:=#[] } :: a.defers } W)
  (hstop : ∀ (D : Nat) (c : Code) (t : Nat) (W : World),w.heap.size ≤ D→Sp t→Ix c t W→W.heap[D]? = some (.deferred (some []))→c.wpIn Fence.wide 0 Tryz.prog Q { a with defers:={ target:=.collected D,args:=#[] } :: a.defers } W) :
  (Code.rangeFunc g ps assign body).wpIn Fence.wide 0 Tryz.prog Q a w:=by
 refine wpIn_rangeFunc fun fn hfn => ?_
 obtain ⟨D,hD⟩ : ∃ D,D = w.heap.size:=⟨_,rfl⟩
 obtain ⟨mk,hmk⟩ : ∃ mk : LoopState→Option Code→Loop,mk = fun st pe => { state:=st,pending:=pe,fn,tmps:=a.tmps,params:=ps,assign,body,defers:=w.heap.size }:=⟨_,rfl⟩
 obtain ⟨W0,hW0⟩ : ∃ W0,W0 = (w.alloc (.deferred (some []))).alloc (.loop (mk .ready none)):=⟨_,rfl⟩
 have hs0 : W0.heap.size = D + 2:=by rw [hW0,hD]; simp
 have hl0 : W0.heap[D + 1]? = some (.loop (mk .ready none)):=by
  rw [hW0,hD]; have:=World.alloc_heap_new (w.alloc (.deferred (some []))) (.loop (mk .ready none)); rwa [World.size_alloc] at this
 have hd0 : W0.heap[D]? = some (.deferred (some [])):=by
  rw [hW0,hD]; exact (Below.heap_alloc _ _ _ (by simp)).trans (World.alloc_heap_new w _)
 have hb0 : Below w.heap.size w W0:=by rw [hW0]; exact ((Below.refl _ w).alloc (Nat.le_refl _) _).alloc (by simp) _
 refine ⟨D + 1,[{ target:=.collected D,args:=#[] }],W0,{ target:=.fn (.func gf) lb,args:=#[.func (.yield (D + 1)) #[] #[]] },W0,gf,#[.func (.yield (D + 1)) #[] #[]] ++ lb,W0,?_,?_,fun _ _ => trivial,?_,fun h => absurd h (by decide),?_⟩
 ·have:=run_enterLoop_outer (P:=Tryz.prog) (w:=w) fn a.tmps ps assign body
  rw [hW0,hD,hmk]
  exact this
 ·simp only [resolve,hg]
  simp [go_sem]
 ·simp [invoke,go_sem,eg]
 have hst : ∀ {A A' : World} {o : Obj} {k : Nat},k < D + 2→A.heap[k]? = some o→Gs (fun i => W0.heap.size ≤ i) A A'→A'.heap[k]? = some o:=fun hk ho hG => (hG.block _ (Array.getElem?_eq_some_iff.1 ho).1 (by omega)).trans ho
 have hlow : ∀ {A A' : World},Gs (fun i => W0.heap.size ≤ i) A A'→Gs (fun i => w.heap.size ≤ i) A A':=fun h => h.mono fun i _ hi => by omega
 refine (hseq (D + 1) (fun t W => I t W∧W.heap[D + 1]? = some (.loop (mk .ready none))∧W.heap[D]? = some (.deferred (some [])))
  (fun t W => ∃ c,Ix c t W∧W.heap[D + 1]? = some (.loop (mk .done (some c)))∧W.heap[D]? = some (.deferred (some []))) W0 hb0 (by omega) (by omega)
  (fun t A A' h hG => ⟨hI t A A' h.1 (hlow hG),hst (by omega) h.2.1 hG,hst (by omega) h.2.2 hG⟩)
  (fun t A A' ⟨c,h1,h2,h3⟩ hG => ⟨c,hIx c t A A' h1 (hlow hG),hst (by omega) h2 hG,hst (by omega) h3 hG⟩) ?_ ⟨hI 0 w W0 h0 (Gs.of_below _ hb0),hl0,hd0⟩).mono ?_
 ·rintro t v W ⟨hi,hl,hd⟩ hc hW
  have hlt : D + 1 < W.heap.size:=(Array.getElem?_eq_some_iff.1 hl).1
  have hy:=run_yield (P:=Tryz.prog) (args:=#[v]) hl (by rw [hmk]; exact hps.symm)
  rw [hmk] at hy
  refine ⟨fn,_,assign,body,hy,roundIn_of_wpIn hfn (hassign _ v W _ ⟨_,run_beginRound hl (by rw [hmk]),?_⟩)⟩
  obtain ⟨V,hV⟩ : ∃ V,V = W.putObj (D + 1) (.loop { mk .ready none with state:=.busy }):=⟨_,rfl⟩
  rw [← hV]
  have hgV : Gs (fun i => i = D + 1) W V:=by rw [hV]; exact gs_putObj
  have hlV : V.heap[D + 1]? = some (.loop { mk .ready none with state:=.busy }):=by rw [hV]; exact World.putObj_heap_same hlt
  have hdV : V.heap[D]? = some (.deferred (some [])):=by rw [hV]; exact (World.putObj_heap_other (by omega)).trans hd
  have hVs:=hgV.size
  refine wpIn_mono (hbody (D + 1) W0.heap.size t v V (by omega) (by omega) (by omega) (hI t W V hi (hgV.mono fun i _ e => by omega)) (hC _ t W V v hc (hgV.mono fun i _ e => by omega))) ?_
  have key : ∀ (jump : Option Code) (W3 : World),Gs M V W3 →
    ∃ W4,(Instr.endRound (D + 1) jump).run Tryz.prog W3 = .ok (.bool jump.isNone) W4∧W4.heap[D + 1]? = some (.loop (mk (if jump.isNone then .ready else .done) jump))∧W4.heap[D]? = some (.deferred (some []))∧Gs (fun i => i = D + 1) W3 W4∧Gs (fun i => M i ∨ i = D + 1) W W4:=fun jump W3 hG => by
   have h3:=(hG.block (D + 1) (by omega) (fun e => by have:=hM _ e; omega)).trans hlV
   have h4:=(hG.block D (by omega) (fun e => by have:=hM _ e; omega)).trans hdV
   have hr:=run_endRound (P:=Tryz.prog) jump h3
   rw [hmk] at hr ⊢
   refine ⟨_,hr,World.putObj_heap_same (Array.getElem?_eq_some_iff.1 h3).1,(World.putObj_heap_other (by omega)).trans h4,gs_putObj,?_⟩
   exact ((hgV.mono fun i _ e => .inr e).trans (hG.mono fun i _ e => .inl e)).trans (gs_putObj.mono fun i _ e => .inr e)
  have stp : ∀ {A A' : World},Gs (fun i => i = D + 1) A A'→Gs (fun i => w.heap.size ≤ i) A A':=fun h => h.mono fun i _ e => by omega
  rintro e a3 W3 hp
  cases e with
  | normal =>
   obtain ⟨hk,hi3⟩:=hp
   obtain ⟨W4,hr,h1,h2,h3,h4⟩:=key none W3 hk
   exact ⟨_,_,hr,.inl ⟨rfl,⟨hI _ _ _ hi3 (stp h3),h1,h2⟩,h4⟩⟩
  | ret =>
   obtain ⟨hk,hi3⟩:=hp
   obtain ⟨W4,hr,h1,h2,h3,h4⟩:=key (some .ret) W3 hk
   exact ⟨_,_,hr,.inr ⟨rfl,.ret,hIx _ _ _ _ hi3 (stp h3),h1,h2⟩⟩
  | exit id =>
   obtain ⟨hk,hi3⟩:=hp
   obtain ⟨W4,hr,h1,h2,h3,h4⟩:=key (some (.exit id)) W3 hk
   exact ⟨_,_,hr,.inr ⟨rfl,.exit id,hIx _ _ _ _ hi3 (stp h3),h1,h2⟩⟩
  | goto t => exact hp.elim
  | panic ch => exact hp.elim
  | outgrown => exact hp.elim
 ·have tail : ∀ {W2 : World} (st : LoopState) (pe : Option Code),st ≠ .busy→W2.heap[D + 1]? = some (.loop (mk st pe))→W2.heap[D]? = some (.deferred (some []))→∃ W4,(Instr.endLoop (D + 1)).run Tryz.prog W2 = .ok pe W4∧Gs (fun i => w.heap.size ≤ i) W2 W4∧W4.heap[D]? = some (.deferred (some [])):=fun st pe hst h1 h2 => by
   have hr:=run_endLoop (P:=Tryz.prog) h1 (by rw [hmk]; exact hst)
   rw [hmk] at hr
   exact ⟨_,hr,gs_putObj.mono fun i _ e => by omega,(World.putObj_heap_other (by omega)).trans h2⟩
  rintro e W2 ⟨⟨v,rfl⟩,(⟨t,hS,hi,hl,hd⟩ | ⟨t,hSp,c,hi,hl,hd⟩)⟩
  ·obtain ⟨W4,hr,hG,hd4⟩:=tail .ready none (by decide) hl hd
   exact ⟨none,W4,hr,hdone D t W4 (by omega) hS (hI _ _ _ hi hG) hd4⟩
  ·obtain ⟨W4,hr,hG,hd4⟩:=tail .done (some c) (by decide) hl hd
   exact ⟨some c,W4,hr,hstop D c t W4 (by omega) hSp (hIx c _ _ _ hi hG) hd4⟩
end Go.Proofs.YtagijldedngcoaaGreatDoor

namespace Go.Proofs.YtagijldedngcoaaGreatDoor
open Go.RowKit Go.Lib
def vl (b : Nat) (l : List Nat) (s : Nat) : Nat:=l.foldl (fun s x => s * b + x) s
theorem vl_lt {b : Nat} : ∀ (r r' : List Nat) (s s' : Nat),r.length = r'.length→s < s'→(∀ x ∈ r,x < b)→vl b r s < vl b r' s'
 | [],[],s,s',_,h,_ => h
 | x :: r,x' :: r',s,s',hl,h,hx => by
  refine vl_lt r r' (s * b + x) (s' * b + x') (by simpa using hl) ?_ fun y hy => hx y (by simp [hy])
  have h1:=hx x (by simp)
  have h2 : (s + 1) * b ≤ s' * b:=Nat.mul_le_mul_right b h
  rw [Nat.add_mul,Nat.one_mul] at h2
  omega
 | [],_ :: _,_,_,hl,_,_ => by simp at hl
 | _ :: _,[],_,_,hl,_,_ => by simp at hl
theorem vl_max {b : Nat} : ∀ (r : List Nat) (s : Nat),(∀ x ∈ r,x < b)→vl b r s < (s + 1) * b ^ r.length
 | [],s,_ => by simp [vl]
 | x :: r,s,hx => by
  have h:=vl_max r (s * b + x) fun y hy => hx y (by simp [hy])
  have h1:=hx x (by simp)
  rw [List.length_cons,Nat.pow_succ,Nat.mul_comm (b ^ r.length) b,← Nat.mul_assoc]
  refine Nat.lt_of_lt_of_le h (Nat.mul_le_mul_right _ ?_)
  rw [Nat.add_mul,Nat.one_mul]
  omega
theorem ci_digits {K n : Nat} {c : List Nat} (h : CI K n c) : ∀ x ∈ c,x < n + 1:=fun x hx => by
 obtain ⟨i,hi⟩:=List.mem_iff_getElem?.1 hx
 have hl:=(List.getElem?_eq_some_iff.1 hi).1
 have:=ci_lt h (i:=i) (by rw [← h.1]; exact hl)
 rw [cat_at hi] at this
 omega
theorem vl_nxI {K n : Nat} {c c' : List Nat} (h : CI K n c) : ∀ {i : Nat},i ≤ K→nxI c n i = some c'→vl (n + 1) c 0 < vl (n + 1) c' 0
 | 0,_,e => by rw [nxI] at e; cases e
 | i + 1,hi,e => by
  rw [nxI] at e
  split at e
  ·exact vl_nxI h (by omega) e
  ·cases e
   have hl : i < c.length:=by rw [h.1]; omega
   have e1 : c = c.take i ++ cat c i :: c.drop (i + 1):=by
    conv => lhs; rw [← List.take_append_drop i c,List.drop_eq_getElem_cons hl]
    rw [show c[i] = cat c i from (by have:=cat_get hl; rw [List.getElem?_eq_getElem hl] at this; exact Option.some.inj this)]
   have e2 : (List.range (c.length - i)).map (fun j => cat c i + 1 + j) = (cat c i + 1) :: (List.range (c.length - i - 1)).map fun j => cat c i + 1 + (j + 1):=by
    rw [show c.length - i = (c.length - i - 1) + 1 by omega,List.range_succ_eq_map,List.map_cons,List.map_map]
    rfl
   rw [e2]
   conv => lhs; rw [e1]
   unfold vl
   rw [List.foldl_append,List.foldl_append,List.foldl_cons,List.foldl_cons]
   refine vl_lt _ _ _ _ (by simp; omega) (by omega) fun x hx => ci_digits h x (List.mem_of_mem_drop hx)
theorem vl_nxt {K n : Nat} {c c' : List Nat} (h : CI K n c) (e : nxt c n = some c') : vl (n + 1) c 0 < vl (n + 1) c' 0:=vl_nxI h (by rw [h.1]; exact Nat.le_refl _) e
def rk (n p : Nat) (w : World) : Nat:=match w.heap[p]? with
 | some (.cells cs _ _) => vl (n + 1) (cs.toList.map fun v => (intOf v).toNat) 0
 | _ => 0
theorem rk_nr {w : World} {p n K : Nat} {c : List Nat} (h : NR w p K (cat c)) (hc : c.length = K) : rk n p w = vl (n + 1) c 0:=by
 unfold rk
 rw [show w.heap[p]? = _ from h]
 simp only
 congr 1
 apply List.ext_getElem?
 intro i
 simp only [List.map_map,List.getElem?_map]
 by_cases hi : i < K
 ·rw [List.getElem?_range hi,cat_get (by omega)]
  simp [intOf]
 ·rw [List.getElem?_eq_none (by simpa using hi),List.getElem?_eq_none (by omega)]
  rfl
theorem rk_le {w : World} {p n K : Nat} {c : List Nat} (h : NR w p K (cat c)) (hc : CI K n c) : rk n p w < (n + 1) ^ K:=by
 rw [rk_nr h hc.1]
 have:=vl_max c 0 (ci_digits hc)
 rw [hc.1] at this
 simpa using this
/-! ### Stores and makes,reckoned ahead -/
section
variable {F : Fence} {n : Nat} {ops : Array Oper} {rest : List Oper} {op : Oper} {a : Act} {w w1 : World} {Q : Exit→Act→World→Prop}
theorem in_store_run (hgd : op.guard = none) (ty : TypeId) (x y : Operand) (ho : op.op = .store ty x y)
  (p v : Value) (hx : a.eval x = p) (hy : a.eval y = v) (hr : (Instr.storeAt ty p v).run Tryz.prog w = .ok () w1)
  (h : wpListIn F n Tryz.prog ops Q rest (a.put op.dst undef) w1) : wpListIn F n Tryz.prog ops Q (op :: rest) a w:=by
 refine wpListIn_plain hgd fun K hK => ?_
 unfold Oper.wpIn
 refine ⟨?_,?_⟩
 ·simp [Oper.about,ho]
 ·rw [Oper.semAt_plain F _ _ (by rw [ho]; intro c hc'; cases hc')]
  simp only [execOp,ho,hx,hy,Sem.run_bind,Sem.run_pure,Result.andThen_ok,hr]
  exact hK _ _ h
theorem in_make_run (hgd : op.guard = none) (ty : TypeId) (x y : Operand) (ho : op.op = .makeSlice ty x y)
  (p v u : Value) (hx : a.eval x = p) (hy : a.eval y = v) (hr : (Instr.makeSlice ty p v).run Tryz.prog w = .ok u w1)
  (h : wpListIn F n Tryz.prog ops Q rest (a.put op.dst u) w1) : wpListIn F n Tryz.prog ops Q (op :: rest) a w:=by
 refine wpListIn_plain hgd fun K hK => ?_
 unfold Oper.wpIn
 refine ⟨?_,?_⟩
 ·simp [Oper.about,ho]
 ·rw [Oper.semAt_plain F _ _ (by rw [ho]; intro c hc'; cases hc')]
  simp only [execOp,ho,hx,hy,Sem.run_bind,Sem.run_pure,Result.andThen_ok,hr]
  exact hK _ _ h
end
/-! ### Shards in a block of one's own -/
theorem six_len (x : Zq.SX) : (Zq.six x).length = 6:=rfl
def SQL (w : World) (g : Nat) (l : List Zq.SX) : Prop:=w.heap[g]? = some (.cells (l.flatMap Zq.six).toArray 232 (0,0))
section
variable {w w' : World} {g j : Nat} {l : List Zq.SX} {x y : Zq.SX} {r : Nat→Prop}
theorem SQL.lt (h : SQL w g l) : g < w.heap.size:=lt_of_block h
theorem SQL.gs {q : Nat→Prop} (h : SQL w g l) (hg : Gs q w w') (hq : ¬ q g) : SQL w' g l:=(hg.block g h.lt hq).trans h
theorem SQL.set (h : SQL w g l) (hx : l[j]? = some x) (k : Nat) (hk : k < 6) (v : Value) (x' : Zq.SX) (he : Zq.six x' = (Zq.six x).set k v) : SQL (w.setCell ⟨g,j * 6 + k,none⟩ v) g (l.set j x'):=by
 have:=heap_set_self (j:=j * 6 + k) (u:=v) h
 unfold SQL
 rw [← flat_set six_len l j k x x' v hx hk he]
 simpa using this
theorem SQL.six (h : SQL w g l) (hx : l[j]? = some x) (y : Zq.SX) : SQL (w.setCells g (j * 6) [.int .i64 y.k,.int .i64 y.m,.int .i64 y.i,.int .i64 y.long,.string y.id,.string y.data]) g (l.set j y):=by
 have hl : j < l.length:=(List.getElem?_eq_some_iff.1 hx).1
 simp only [World.setCells]
 have e1:=h.set hx 0 (by decide) (.int .i64 y.k) ⟨y.k,x.m,x.i,x.long,x.id,x.data⟩ rfl
 have e2:=e1.set (j:=j) (x:=⟨y.k,x.m,x.i,x.long,x.id,x.data⟩) (by rw [List.getElem?_set_self hl]) 1 (by decide) (.int .i64 y.m) ⟨y.k,y.m,x.i,x.long,x.id,x.data⟩ rfl
 have e3:=e2.set (j:=j) (x:=⟨y.k,y.m,x.i,x.long,x.id,x.data⟩) (by rw [List.getElem?_set_self (by simpa using hl)]) 2 (by decide) (.int .i64 y.i) ⟨y.k,y.m,y.i,x.long,x.id,x.data⟩ rfl
 have e4:=e3.set (j:=j) (x:=⟨y.k,y.m,y.i,x.long,x.id,x.data⟩) (by rw [List.getElem?_set_self (by simpa using hl)]) 3 (by decide) (.int .i64 y.long) ⟨y.k,y.m,y.i,y.long,x.id,x.data⟩ rfl
 have e5:=e4.set (j:=j) (x:=⟨y.k,y.m,y.i,y.long,x.id,x.data⟩) (by rw [List.getElem?_set_self (by simpa using hl)]) 4 (by decide) (.string y.id) ⟨y.k,y.m,y.i,y.long,y.id,x.data⟩ rfl
 have e6:=e5.set (j:=j) (x:=⟨y.k,y.m,y.i,y.long,y.id,x.data⟩) (by rw [List.getElem?_set_self (by simpa using hl)]) 5 (by decide) (.string y.data) y rfl
 simp only [List.set_set] at e6
 exact e6
theorem SQL.cell (h : SQL w g l) (hx : l[j]? = some x) {k : Nat} (hk : k < 6) {v : Value} (hv : (Zq.six x)[k]? = some v) : w.cell? ⟨g,j * 6 + k,none⟩ = some v:=by
 rw [cell_of_row w g _ _ _ _ h]
 simp only [List.getElem?_toArray]
 rw [flat_get six_len l j k hk,hx]
 exact hv
theorem c6_of {w : World} {g o : Nat} {x : Zq.SX} (h : ∀ j u,(Zq.six x)[j]? = some u→w.cell? ⟨g,o + j,none⟩ = some u) : Zq.C6 w g o x :=
 ⟨h 0 _ rfl,h 1 _ rfl,h 2 _ rfl,h 3 _ rfl,h 4 _ rfl,h 5 _ rfl⟩
theorem SQL.lx (h : SQL w g l) : Zq.LX w (.slice (some ⟨g,0,none⟩) l.length l.length) l.length (lx l):=by
 refine ⟨_,_,rfl,.inr ⟨g,0,rfl,h.lt,fun i hi => ?_⟩⟩
 have hx:=List.getElem?_eq_getElem hi
 rw [lx_at hx]
 exact c6_of fun j u hu => by
  rw [Nat.zero_add]
  exact h.cell hx (by have:=(List.getElem?_eq_some_iff.1 hu).1; rw [six_len] at this; exact this) hu
theorem made_s (n : Nat) : madeCells (Value.agg #[.int .i64 0,.int .i64 0,.int .i64 0,.int .i64 0,.string ⟨#[]⟩,.string ⟨#[]⟩]).cells (n * 6) = ((List.replicate n sx0).flatMap Zq.six).toArray:=by
 apply Array.ext_getElem?
 intro i
 have hz : (Value.agg #[.int .i64 0,.int .i64 0,.int .i64 0,.int .i64 0,.string ⟨#[]⟩,.string ⟨#[]⟩]).cells = #[.int .i64 0,.int .i64 0,.int .i64 0,.int .i64 0,.string ⟨#[]⟩,.string ⟨#[]⟩]:=rfl
 simp only [List.getElem?_toArray]
 have e : i = i / 6 * 6 + i % 6:=by omega
 have hm : i % 6 < 6:=Nat.mod_lt _ (by decide)
 conv => rhs; rw [e,flat_get six_len _ _ _ hm,List.getElem?_replicate]
 rw [madeCells,hz,Array.getElem?_map]
 by_cases h : i < n * 6
 ·rw [if_pos (by omega)]
  have : (Array.range (n * 6))[i]? = some i:=by simp [h]
  rw [this]
  have h6 : i % 6 = 0 ∨ i % 6 = 1 ∨ i % 6 = 2 ∨ i % 6 = 3 ∨ i % 6 = 4 ∨ i % 6 = 5:=by omega
  rcases h6 with h6 | h6 | h6 | h6 | h6 | h6 <;> simp [h6,Zq.six,sx0]
 ·rw [if_neg (by omega)]
  have : (Array.range (n * 6))[i]? = none:=by simp; omega
  rw [this]
  rfl
theorem run_makeS (n : Nat) (hn : n ≤ 1000) (w : World) : ∃ W,(Instr.makeSlice 188 (.int .i64 (n : Int)) (.int .i64 (n : Int))).run Tryz.prog w = .ok (.slice (some ⟨w.heap.size,0,none⟩) n n) W∧SQL W w.heap.size (List.replicate n sx0)∧Below w.heap.size w W∧W.heap.size = w.heap.size + 1:=by
 obtain ⟨i0,hi,hz0,hz1,hz2⟩:=info_parts Zq.Tryz.infoSh
 have hr:=run_make (P:=Tryz.prog) w 188 232 i0 _ Tryz.underlying188 hi hz0 .i64 .i64 (n : Int) (n : Int) (by omega) (Int.le_refl _) (by rw [hz2]; omega) (by omega)
 rw [hz1] at hr
 simp only [Int.toNat_natCast] at hr
 rw [made_s] at hr
 exact ⟨_,hr,heap_alloc_new w _,(Below.refl _ _).alloc (Nat.le_refl _) _,by simp⟩
theorem Tryz.infoN : (Tryz.prog.info? 3).map (fun i => (i.zero,i.size,i.bytes)) = some (some (.int .i64 0),1,8):=by kernel_rfl
theorem made_n (n : Nat) : madeCells (Value.int .i64 0).cells (n * 1) = ((List.range n).map fun i => Value.int .i64 (((fun _ => 0 : Nat→Nat) i : Nat) : Int)).toArray:=by
 apply Array.ext_getElem?
 intro i
 rw [madeCells,Array.getElem?_map]
 simp only [List.getElem?_toArray,List.getElem?_map,Nat.mul_one]
 by_cases h : i < n
 ·have : (Array.range n)[i]? = some i:=by simp [h]
  rw [this,List.getElem?_range h]
  simp [Value.cells,Nat.mod_one]
 ·have : (Array.range n)[i]? = none:=by simp; omega
  rw [this,List.getElem?_eq_none (by simpa using h)]
  rfl
theorem run_makeN (n : Nat) (hn : n ≤ 1000) (w : World) : ∃ W,(Instr.makeSlice 162 (.int .i64 (n : Int)) (.int .i64 (n : Int))).run Tryz.prog w = .ok (.slice (some ⟨w.heap.size,0,none⟩) n n) W∧NR W w.heap.size n (fun _ => 0)∧Below w.heap.size w W∧W.heap.size = w.heap.size + 1:=by
 obtain ⟨i0,hi,hz0,hz1,hz2⟩:=info_parts Tryz.infoN
 have hr:=run_make (P:=Tryz.prog) w 162 3 i0 _ Tryz.underlying162 hi hz0 .i64 .i64 (n : Int) (n : Int) (by omega) (Int.le_refl _) (by rw [hz2]; omega) (by omega)
 rw [hz1] at hr
 simp only [Int.toNat_natCast] at hr
 rw [made_n] at hr
 exact ⟨_,hr,heap_alloc_new w _,(Below.refl _ _).alloc (Nat.le_refl _) _,by simp⟩
end
end Go.Proofs.YtagijldedngcoaaGreatDoor

namespace Go.Proofs.YtagijldedngcoaaGreatDoor
open Go.RowKit Go.Lib Go.Shelf
attribute [local go_sem] Oper.semAt_some
def Ch (K : Nat) (f : List Zq.SX) (B t : Nat) (W : World) (v : Value) : Prop:=∃ c g,ith K f.length t = some c∧B ≤ g∧v = .slice (some ⟨g,0,none⟩) K K∧SQL W g (pick f c)
theorem Ch.gs {K B t : Nat} {f : List Zq.SX} {A A' : World} {v : Value} (h : Ch K f B t A v) (hg : Gs (fun i => i < B) A A') : Ch K f B t A' v:=by
 obtain ⟨c,g,h1,h2,h3,h4⟩:=h
 exact ⟨c,g,h1,h2,h3,h4.gs hg (by omega)⟩
theorem Tryz.sizeSh : (Tryz.prog.info? 232).map (·.size) = some 6:=by kernel_rfl
section
variable {w : World} {M r : Nat→Prop} {bf bk K : Nat} {fv : Value} {f : List Zq.SX}
theorem choices_any {a : Option Addr} {n c : Nat} : Calls Tryz.prog 202 #[.slice a n c,.int .i64 (K : Int)] w fun e w' => e = .returned (.func (.func 233) #[] #[.pointer (some ⟨w.heap.size,0,none⟩),.pointer (some ⟨w.heap.size + 1,0,none⟩)])∧w' = (w.alloc (.cells #[.slice a n c] 189)).alloc (.cells #[.int .i64 (K : Int)] 3):=by
 have hmf : ∀ (fn : Fn) (first cap : Array Value) (w : World),(Instr.makeFunc fn first cap).run Tryz.prog w = .ok (.func fn first cap) w:=fun _ _ _ _ => rfl
 go_enter Tryz.func202,Tryz.ntmps202
 go_wp2
 go_ret
 exact ⟨rfl,rfl⟩
structure CW (M : Nat→Prop) (K : Nat) (J : Nat→World→Prop) (W : World) (l p g : Nat) (wr : World) (t : Nat) : Prop where
 j : J t wr
 gs : Gs (fun i => (M i ∨ i = l) ∨ W.heap.size ≤ i) W wr
 sz : g < wr.heap.size
 sq : ∃ l',l'.length = K∧SQL wr g l'
theorem choices1_seq (h1 : w.heap[bf]? = some (.cells #[fv] 189 (0,0))) (h2 : w.heap[bk]? = some (.cells #[.int .i64 (K : Int)] 3 (0,0))) (hf : LS Zq.six 6 r w fv f) (hr : ∀ i,r i→¬ M i) (hm1 : ¬ M bf) (hm2 : ¬ M bk) (hM : ∀ i,M i→i < w.heap.size) (hfl : f.length ≤ 1000) (hK : 1 ≤ K) (hK2 : K ≤ 1000) :
  SeqM 233 #[.pointer (some ⟨bf,0,none⟩),.pointer (some ⟨bk,0,none⟩)] M (Ch K f) (fun t => ith K f.length t = none) (fun t => ∃ c,ith K f.length t = some c) w:=fun l J Jx W hB hl1 hl2 hJ hJx hY h0 => by
 have hbf:=lt_of_block h1
 have hbk:=lt_of_block h2
 have hBs:=hB.size
 obtain ⟨N,hN⟩ : ∃ N,N = f.length:=⟨_,rfl⟩
 have HD : Hid (∀ {wr : World},Gs (fun i => (M i ∨ i = l) ∨ W.heap.size ≤ i) W wr→wr.heap[bf]? = some (.cells #[fv] 189 (0,0))∧wr.heap[bk]? = some (.cells #[.int .i64 (K : Int)] 3 (0,0))∧LS Zq.six 6 (fun i => r i∧i < w.heap.size) wr fv f):=fun hg => by
  refine ⟨(hg.block bf (by omega) ?_).trans ((hB.block bf hbf).trans h1),(hg.block bk (by omega) ?_).trans ((hB.block bk hbk).trans h2),(hf.old.bel hB).gs hg ?_⟩
  ·rintro ((h | h) | h)
   ·exact hm1 h
   ·omega
   ·omega
  ·rintro ((h | h) | h)
   ·exact hm2 h
   ·omega
   ·omega
  ·rintro i ⟨hi1,hi2⟩ ((h | h) | h)
   ·exact hr i hi1 h
   ·omega
   ·omega
 obtain ⟨fa,fc,hfv⟩:=hf.shp
 rw [← hN] at hfv
 have x0:=HD.out (Gs.refl _ W)
 rw [hfv] at x0
 have y0 : W.cell? ⟨bf,0,none⟩ = some (.slice fa N fc):=by simp [World.cell?,x0.1]
 have y1 : W.cell? ⟨bk,0,none⟩ = some (.int .i64 (K : Int)):=by simp [World.cell?,x0.2.1]
 have HM:=hide (And.intro hM (And.intro hl1 (And.intro hl2 (And.intro hBs (And.intro hbf hbk)))))
 have HJ:=hide (And.intro hJ hJx)
 have HY:=hide hY
 have HN:=hide hN
 have H0:=hide h0
 have HFV:=hide hfv
 rw [← hN] at hfl
 clear x0 h1 h2 hf hr hm1 hm2 hM hJ hJx hY h0 hB hBs hl1 hl2 hbf hbk hN hfv
 refine callsIn_of_wp Tryz.func233 rfl trivial ?_ rfl
 simp only [Tryz.ntmps233,List.size_toArray,List.length_cons,List.length_nil,Nat.reduceAdd,Nat.reduceSub,Array.replicate_succ,Array.replicate_zero,List.push_toArray,List.append_toArray,List.nil_append,List.cons_append]
 by_cases hKN : K ≤ N
 case neg =>
  have b1 : (N : Int) < (K : Int):=by omega
  have HI : Hid (ith K f.length 0 = none):=by show ith K f.length 0 = none; rw [ith,if_neg (by rw [← HN.out]; exact hKN)]
  gi_wp2
  refine bodyPost_ret (results_none rfl _ _ _) rfl ?_
  exact ⟨⟨_,rfl⟩,.inl ⟨0,HI.out,H0.out⟩⟩
 case pos =>
 have b1 : ¬ (N : Int) < (K : Int):=by omega
 obtain ⟨W1,hmk1,hR1,hB1,hs1⟩:=run_makeN K hK2 W
 obtain ⟨p,hp⟩ : ∃ p,p = W.heap.size:=⟨_,rfl⟩
 rw [← hp] at hmk1 hR1
 have Hp:=hide hp
 have H1 : Hid (NR W1 p K (fun x => if x < 0 then x else 0)∧Gs (fun i => W.heap.size ≤ i) W W1∧W1.heap.size = W.heap.size + 1):=⟨by simpa using hR1,Gs.of_below _ hB1,hs1⟩
 clear hR1 hB1 hs1 hp
 gi_wp2_with (refine in_make_run rfl 162 _ _ rfl _ _ _ rfl rfl hmk1 ?_)
 gi_loopw [18] (fun i wr => ∃ j : Nat,j ≤ K∧i = .int .i64 (j : Int)∧NR wr p K (fun x => if x < j then x else 0)∧Gs (fun i => W.heap.size ≤ i) W wr∧wr.heap.size = W.heap.size + 1) (fun i _ => K - (intOf i).toNat)
 case atStart => exact ⟨0,Nat.zero_le _,rfl,H1.out⟩
 case round =>
  obtain ⟨j,hj,rfl,hR,hG,hsz⟩:=hrel
  by_cases hlt : j < K
  ·have c1 : (j : Int) < (K : Int):=by omega
   have c0 : (0 : Int) ≤ (j : Int):=by omega
   have z0:=hR.cell (i:=j) hlt
   have z1:=hR.free j
   have hR2:=(hR.set j j).congr (Y:=fun x => if x < j + 1 then x else 0) (fun i hi => by
    by_cases e : i = j
    ·subst e; rw [if_pos rfl,if_pos (by omega)]
    ·rw [if_neg e]
     by_cases e2 : i < j
     ·rw [if_pos e2,if_pos (by omega)]
     ·rw [if_neg e2,if_neg (by omega)])
   have hG2 : Gs (fun i => W.heap.size ≤ i) W (wr.setCell ⟨p,j,none⟩ (.int .i64 (j : Nat))):=hG.set (a:=⟨p,j,none⟩) (.inl (by have:=Hp.out; show W.heap.size ≤ p; omega)) _
   have hz2 : (wr.setCell ⟨p,j,none⟩ (.int .i64 (j : Nat))).heap.size = W.heap.size + 1:=by rw [← hsz]; simp [World.setCell]
   have H2:=hide (And.intro hR2 (And.intro hG2 hz2))
   clear hR hG hR2 hG2 hz2 hsz
   gi_wp2
   exact ⟨⟨j + 1,by omega,by go_num,H2.out⟩,by simp [intOf]; omega⟩
  ·obtain rfl : j = K:=by omega
   obtain ⟨q1,q2,_⟩:=HD.out (hG.mono fun i _ h => .inr h)
   rw [HFV.out] at q1
   have y2 : wr.cell? ⟨bk,0,none⟩ = some (.int .i64 (j : Int)):=by simp [World.cell?,q2]
   obtain ⟨W3,hmk3,hS3,hB3,hs3⟩:=run_makeS j hK2 wr
   obtain ⟨g,hg⟩ : ∃ g,g = wr.heap.size:=⟨_,rfl⟩
   rw [← hg] at hmk3 hS3
   have Hg:=hide (And.intro hg hsz)
   have HI0 : Hid (ith j N 0 = some (List.range j)):=by show ith j N 0 = _; rw [ith,if_pos hKN]
   have hci0:=ci_ith HI0.out
   have H3 : Hid (∃ (b : Bool) (t : Nat),(Value.bool true) = .bool b∧CW M j J W l p g W3 t∧(∃ c0,CI j N c0∧NR W3 p j (cat c0)∧(b = true→ith j N t = some c0))∧(b = false→ith j N t = none)):=by
    have hG3:=hG.bel hB3
    refine ⟨true,0,rfl,⟨HJ.out.1 0 W W3 H0.out hG3,hG3.mono fun i _ h => .inr h,by omega,List.replicate j sx0,by simp,hS3⟩,⟨List.range j,hci0,?_,fun _ => HI0.out⟩,fun h => by cases h⟩
    refine ((hR.gs (Gs.of_below (fun _ => False) hB3) (fun h => h)).congr fun i hi => ?_)
    rw [if_pos hi,cat,List.getElem?_range hi]
    rfl
   clear hR hG hsz q1 q2 hS3 hB3 hs3 hg hci0 H1 H0 hlt hj
   gi_wp2_with (refine in_make_run rfl 188 _ _ rfl _ _ _ rfl rfl hmk3 ?_)
   gi_loopw [7] (fun th ws => ∃ (b : Bool) (t : Nat),th = .bool b∧CW M j J W l p g ws t∧(∃ c0,CI j N c0∧NR ws p j (cat c0)∧(b = true→ith j N t = some c0))∧(b = false→ith j N t = none)) (fun th ws => (match th with | .bool true => 1 | _ => 0) + 2 * ((N + 1) ^ j - rk N p ws))
   case atStart => exact H3.out
   case round =>
    clear H3 hmk3 y2
    obtain ⟨b,t,rfl,hW,⟨c,hci,hNR,hbt⟩,hbf⟩:=hrel
    cases b with
    | false =>
     have HE : Hid (ith j f.length t = none∧J t wr):=⟨by rw [← HN.out]; exact hbf rfl,hW.j⟩
     clear hW hNR hbt hbf
     gi_wp2
     go_end0
     exact ⟨⟨_,rfl⟩,.inl ⟨t,HE.out⟩⟩
    | true =>
     have hit:=hbt rfl
     obtain ⟨l',hl',hSQ⟩:=hW.sq
     have HW:=hide hW
     have HC:=hide (And.intro hci (And.intro hNR hit))
     have H4 : Hid (SQL wr g ((pick f c).take 0 ++ l'.drop 0)∧Gs (fun i => i = g) wr wr):=⟨by simpa using hSQ,Gs.refl _ _⟩
     have HL':=hide hl'
     clear hW hNR hbt hbf hSQ hl' hci hit
     obtain ⟨V0,hV0⟩ : ∃ V0,V0 = wr:=⟨_,rfl⟩
     rw [← hV0] at HW HC
     have H5 : Hid (SQL wr g ((pick f c).take 0 ++ l'.drop 0)∧Gs (fun i => i = g) V0 wr):=by rw [hV0]; exact H4.out
     have HV0:=hide hV0
     clear hV0 H4
     gi_wp2
     gi_loopw [35] (fun i ws => ∃ m : Nat,m ≤ j∧i = .int .i64 (m : Int)∧SQL ws g ((pick f c).take m ++ l'.drop m)∧Gs (fun i => i = g) V0 ws) (fun i _ => j - (intOf i).toNat)
     case atStart => exact ⟨0,Nat.zero_le _,rfl,H5.out⟩
     case round =>
      obtain ⟨m,hm,rfl,hS,hG⟩:=hrel
      have hgp : g = p + 1∧W.heap.size = p:=by have h1:=Hg.out; have h2:=Hp.out; exact ⟨by omega,by omega⟩
      have hGW : Gs (fun i => (M i ∨ i = l) ∨ W.heap.size ≤ i) W wr:=HW.out.gs.trans (hG.mono fun i _ e => .inr (by omega))
      obtain ⟨hci,hNR,hit⟩:=HC.out
      have hNRw:=hNR.gs hG (by omega)
      obtain ⟨q1,q2,hLS⟩:=HD.out hGW
      have HLS:=hide hLS
      rw [HFV.out] at q1
      have y5 : wr.cell? ⟨bf,0,none⟩ = some (.slice fa N fc):=by simp [World.cell?,q1]
      by_cases hlt : m < j
      ·have c1 : (m : Int) < (j : Int):=by omega
       have c0 : (0 : Int) ≤ (m : Int):=by omega
       have z0:=hNRw.cell (i:=m) hlt
       have hcm:=ci_lt hci hlt
       obtain ⟨x,hx⟩ : ∃ x,f[cat c m]? = some x:=⟨_,List.getElem?_eq_getElem (by rw [← HN.out]; exact hcm)⟩
       obtain ⟨a,cc,e,_,h2 | ⟨gf,o,ea,_,_,hGS⟩⟩:=hLS
       ·rw [h2] at hx; simp at hx
       rw [HFV.out,← HN.out] at e
       simp only [Value.slice.injEq,true_and] at e
       obtain ⟨e1,_⟩:=e
       rw [ea] at e1
       subst fa
       have hcells:=hGS (cat c m) x hx
       have u0 : wr.cell? ⟨gf,o + cat c m * 6,none⟩ = some (.int .i64 x.k):=hcells 0 _ rfl
       have u1 : wr.cell? ⟨gf,o + cat c m * 6 + 1,none⟩ = some (.int .i64 x.m):=hcells 1 _ rfl
       have u2 : wr.cell? ⟨gf,o + cat c m * 6 + 2,none⟩ = some (.int .i64 x.i):=hcells 2 _ rfl
       have u3 : wr.cell? ⟨gf,o + cat c m * 6 + 3,none⟩ = some (.int .i64 x.long):=hcells 3 _ rfl
       have u4 : wr.cell? ⟨gf,o + cat c m * 6 + 4,none⟩ = some (.string x.id):=hcells 4 _ rfl
       have u5 : wr.cell? ⟨gf,o + cat c m * 6 + 5,none⟩ = some (.string x.data):=hcells 5 _ rfl
       have hpm : (pick f c)[m]? = some x:=by rw [pick,List.getElem?_map,cat_get (by rw [hci.1]; exact hlt)]; show some (lx f (cat c m)) = _; rw [lx_at hx]
       have hl1 : (pick f c).length = j:=by rw [pick_len,hci.1]
       have hl2:=HL'.out
       have hold : ((pick f c).take m ++ l'.drop m)[m]? = some (lx l' m):=by
        rw [List.getElem?_append_right (by rw [List.length_take]; omega),List.length_take,show m - min m (pick f c).length = 0 by omega,List.getElem?_drop,Nat.add_zero,lx,List.getElem?_eq_getElem (by omega)]
        rfl
       have hrun:=store_run (t:=232) (o:=m * 6) hS #[.int .i64 x.k,.int .i64 x.m,.int .i64 x.i,.int .i64 x.long,.string x.id,.string x.data] (by simp [flat_len six_len]; omega) Tryz.sizeSh (by simp [Value.oneCell'])
       have hS2:=hS.six hold x
       have hG2 : Gs (fun i => i = g) V0 (wr.setCells g (m * 6) [.int .i64 x.k,.int .i64 x.m,.int .i64 x.i,.int .i64 x.long,.string x.id,.string x.data]):=Gs.cells _ _ _ hG (.inl rfl)
       have hset : ((pick f c).take m ++ l'.drop m).set m x = (pick f c).take (m + 1) ++ l'.drop (m + 1):=by
        rw [List.set_append_right _ _ (by rw [List.length_take]; omega),List.length_take,show m - min m (pick f c).length = 0 by omega,List.drop_eq_getElem_cons (by omega),List.set_cons_zero,take_snoc_at hpm,List.append_assoc]
        rfl
       rw [hset] at hS2
       have H6:=hide (And.intro hS2 hG2)
       have d0 : (0 : Int) ≤ ((cat c m : Nat) : Int):=by omega
       have d1 : ((cat c m : Nat) : Int) < (N : Int):=by omega
       clear hS hG hGW hci hNR hit hNRw q1 q2 HLS hGS hcells hpm hl1 hl2 hold hS2 hG2 hset hx hgp hcm
       gi_wp2_with (refine in_store_run rfl 232 _ _ rfl _ _ rfl rfl hrun ?_)
       exact ⟨⟨_,_,.int .i64 ((m + 1 : Nat) : Int),⟨m + 1,by omega,rfl,H6.out⟩,rfl,rfl,rfl⟩,by simp [intOf]; omega⟩
      ·obtain rfl : m = j:=by omega
       have hl1 : (pick f c).length = m:=by rw [pick_len,hci.1]
       have hl2:=HL'.out
       rw [List.take_of_length_le (by omega),List.drop_eq_nil_of_le (by omega),List.append_nil] at hS
       have hJw : J t wr:=HJ.out.1 t V0 wr HW.out.j (hG.mono fun i _ e => by omega)
       have hCh : Ch m f W.heap.size t wr (.slice (some ⟨g,0,none⟩) m m):=⟨c,g,by rw [← HN.out]; exact hit,by omega,rfl,hS⟩
       obtain ⟨fn,tmps,assign,body,hy,hRd⟩:=HY.out t _ wr hJw hCh (by have:=hGW.size; omega)
       have HK : Hid (NR wr p m (cat c)∧CI m N c∧ith m N t = some c∧SQL wr g (pick f c)∧Gs (fun i => (M i ∨ i = l) ∨ W.heap.size ≤ i) W wr∧g = p + 1∧W.heap.size = p∧(pick f c).length = m):=⟨hNRw,hci,hit,hS,hGW,hgp.1,hgp.2,hl1⟩
       clear hS hG hGW hci hNR hit hNRw q1 q2 hLS HLS hgp hl1 hl2 hJw hCh
       gi_wp2
       refine ⟨rfl,hRd.mono ?_⟩
       rintro e W9 (⟨rfl,hJ9,hG9⟩ | ⟨rfl,hJx9⟩)
       ·obtain ⟨hNR,hci,hit,hS,hGW,hg1,hg2,hl1⟩:=HK.out
        have hM9:=HM.out
        have hlt9:=hNR.lt
        have hlt8:=hS.lt
        have hNR9:=hNR.gs hG9 (by rintro (h | h); have:=hM9.1 _ h; omega; omega)
        have hS9:=hS.gs hG9 (by rintro (h | h); have:=hM9.1 _ h; omega; omega)
        have hGW9 : Gs (fun i => (M i ∨ i = l) ∨ W.heap.size ≤ i) W W9:=hGW.trans (hG9.mono fun i _ e => .inl e)
        have q9:=(HD.out hGW9).1
        rw [HFV.out] at q9
        have y9 : W9.cell? ⟨bf,0,none⟩ = some (.slice fa N fc):=by simp [World.cell?,q9]
        have HFU:=hide (further_any hci hNR9 hKN hfl)
        have HL : Hid (J (t + 1) W9∧SQL W9 g (pick f c)∧Gs (fun i => (M i ∨ i = l) ∨ W.heap.size ≤ i) W W9∧NR W9 p m (cat c)):=⟨hJ9,hS9,hGW9,hNR9⟩
        clear hNR hci hit hS hGW hg1 hg2 hl1 hM9 hlt9 hlt8 hNR9 hS9 hGW9 q9 hJ9 hG9 hRd hy
        gi_wp2
        refine ⟨trivial,rfl,(callsIn_wide.2 HFU.out).mono ?_⟩
        rintro e W5 ⟨rfl,hN5,hG5⟩
        obtain ⟨hNR,hci,hit,hS,hGW,hg1,hg2,hl1⟩:=HK.out
        obtain ⟨hJ9,hS9,hGW9,hNR9⟩:=HL.out
        have hJ5 : J (t + 1) W5:=HJ.out.1 _ _ _ hJ9 (hG5.mono fun i _ e => by omega)
        have hS5:=hS9.gs hG5 (by omega)
        have hGW5 : Gs (fun i => (M i ∨ i = l) ∨ W.heap.size ≤ i) W W5:=hGW9.trans (hG5.mono fun i _ e => .inr (by omega))
        have hi1 : ith m N (t + 1) = nxt c N:=by rw [ith,hit]; rfl
        have hCW : CW M m J W l p g W5 (t + 1):=⟨hJ5,hGW5,hS5.lt,_,hl1,hS5⟩
        have hrk : rk N p V0 = vl (N + 1) c 0:=rk_nr HC.out.2.1 hci.1
        cases hnx : nxt c N with
        | none =>
         rw [hnx] at hN5 hi1
         have HE : Hid (CW M m J W l p g W5 (t + 1)∧(∃ c0,CI m N c0∧NR W5 p m (cat c0)∧(false = true→ith m N (t + 1) = some c0))∧(false = false→ith m N (t + 1) = none)):=⟨hCW,⟨c,hci,hN5,fun h => by cases h⟩,fun _ => hi1⟩
         have HM2 : Hid (2 * ((N + 1) ^ m - rk N p W5) < 1 + 2 * ((N + 1) ^ m - rk N p V0)):=by
          have e1 : rk N p W5 = vl (N + 1) c 0:=rk_nr hN5 hci.1
          show 2 * ((N + 1) ^ m - rk N p W5) < 1 + 2 * ((N + 1) ^ m - rk N p V0)
          omega
         clear hNR hci hit hS hGW hg1 hg2 hl1 hJ9 hS9 hGW9 hNR9 hJ5 hS5 hGW5 hi1 hCW hrk hN5 hG5 hnx
         gi_wp2
         refine ⟨⟨false,t + 1,rfl,by simpa using HE.out⟩,?_⟩
         have h:=HM2.out
         rw [HV0.out] at h
         show 0 + _ < _
         rw [Nat.zero_add]
         exact h
        | some c' =>
         rw [hnx] at hN5 hi1
         have hci' : CI m N c':=ci_ith hi1
         have HE : Hid (CW M m J W l p g W5 (t + 1)∧(∃ c0,CI m N c0∧NR W5 p m (cat c0)∧(true = true→ith m N (t + 1) = some c0))∧(true = false→ith m N (t + 1) = none)):=⟨hCW,⟨c',hci',hN5,fun _ => hi1⟩,fun h => by cases h⟩
         have HM2 : Hid (1 + 2 * ((N + 1) ^ m - rk N p W5) < 1 + 2 * ((N + 1) ^ m - rk N p V0)):=by
          have e1 : rk N p W5 = vl (N + 1) c' 0:=rk_nr hN5 hci'.1
          have e2:=rk_le hN5 hci'
          have e3:=vl_nxt hci hnx
          show 1 + 2 * ((N + 1) ^ m - rk N p W5) < 1 + 2 * ((N + 1) ^ m - rk N p V0)
          omega
         clear hNR hci hit hS hGW hg1 hg2 hl1 hJ9 hS9 hGW9 hNR9 hJ5 hS5 hGW5 hi1 hCW hrk hN5 hG5 hnx hci'
         gi_wp2
         refine ⟨⟨true,t + 1,rfl,by simpa using HE.out⟩,?_⟩
         have h:=HM2.out
         rw [HV0.out] at h
         exact h
       ·have HE : Hid (Jx t W9∧ith m f.length t = some c):=⟨hJx9,by rw [← HN.out]; exact HK.out.2.2.1⟩
        clear hJx9
        gi_wp2
        refine bodyPost_ret (results_none rfl _ _ _) rfl ?_
        exact ⟨⟨_,rfl⟩,.inr ⟨t,⟨c,HE.out.2⟩,HE.out.1⟩⟩
end
end Go.Proofs.YtagijldedngcoaaGreatDoor

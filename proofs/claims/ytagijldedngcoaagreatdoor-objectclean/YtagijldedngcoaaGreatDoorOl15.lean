/-
  Contracts of the program and of the statements (part 15 of 28).
-/
import Derived.Test.YtagijldedngcoaaGreatDoorOl14
import Derived.Test.YtagijldedngcoaaGreatDoorOl13
import Derived.Test.YtagijldedngcoaaGreatDoorOl12
import Derived.BigQuiet
import Derived.Deep.QuietTactic
set_option maxRecDepth 100000
set_option maxHeartbeats 3200000

namespace Go.Proofs.YtagijldedngcoaaGreatDoor
open Go.RowKit Go.Lib Go.Maps
def okT : List TypeId:=[99,200,198,1,81,149,170,194,196,9]
def NT (r : Nat→Prop) (W : World) : Prop:=∀ i,r i→∃ cs T,W.heap[i]? = some (.cells cs T (0,0))∧T ∈ okT
section
variable {r r0 p : Nat→Prop} {w w' : World} {b : Nat} {st k s c N cc : Int} {n d dd : ByteArray} {go ids tx u v : Value} {op : Bool} {l : List QT}
theorem all_any (hJ : JB w b true st k n d go c N ids tx s) (hl : LS q4 4 r0 w v l) (hn : l.length ≤ 1000000) (fn : Fn) (fi ca : Array Value) {Q : World→Prop}
  (HC : ∀ W a1 a2 a3 a4 a5 rv r,CL r W b l [] a1 a2 a3 a4 a5 (.func fn fi ca) rv (.slice none 0 0)→JB W b true st k n d go c N ids tx s→Below w.heap.size w W→(∀ i,r i→w.heap.size ≤ i)→w.heap.size ≤ a4→a4 < W.heap.size→NT r W→Calls Tryz.prog 168 #[.pointer (some ⟨a4,0,none⟩),.pointer (some ⟨a3,0,none⟩),.pointer (some ⟨a1,0,none⟩),.pointer (some ⟨a5,0,none⟩),.pointer (some ⟨a2,0,none⟩)] W fun e w' => e = .returned (.tuple #[])∧Q w') :
  Calls Tryz.prog 126 #[.pointer (some ⟨b,0,none⟩),v,.func fn fi ca] w fun e w' => e = .returned (.tuple #[])∧Q w':=by
 obtain ⟨U,hU⟩ : ∃ U,U = (w.alloc (.cells #[.pointer (some ⟨b,0,none⟩)] 99)).alloc (.cells #[.func fn fi ca] 200):=⟨_,rfl⟩
 obtain ⟨A,hA⟩ : ∃ A,A = w.heap.size:=⟨_,rfl⟩
 have hBU : Below w.heap.size w U:=by rw [hU]; exact ((Below.refl _ _).alloc (Nat.le_refl _) _).alloc (by simp) _
 have hJU:=hJ.bel hBU
 have hszU : U.heap.size = A + 2:=by rw [hU,hA]; simp
 have h1 : U.heap[A]? = some (.cells #[.pointer (some ⟨b,0,none⟩)] 99 (0,0)):=by rw [hU,hA,Below.heap_alloc _ _ _ (by simp)]; exact heap_alloc_new w _
 have h2 : U.heap[A + 1]? = some (.cells #[.func fn fi ca] 200 (0,0)):=by
  rw [hU,hA]
  have:=heap_alloc_new (w.alloc (.cells #[.pointer (some ⟨b,0,none⟩)] 99)) (.cells #[.func fn fi ca] 200 (0,0))
  simpa using this
 have y1 : U.cell? ⟨A,0,none⟩ = some (.pointer (some ⟨b,0,none⟩)):=by simp [World.cell?,h1]
 have HO:=hide (isOpen_any hJU)
 have HQ:=hide (cloneQ (hl.bel hBU) hn)
 have hbA : b < A:=by rw [hA]; exact hJ.lt
 have HF:=hide (And.intro h1 (And.intro h2 (And.intro hszU (And.intro hJU (And.intro hBU (And.intro hbA hA))))))
 have HU:=hide hU
 have HA:=hide hA
 have HCC:=hide HC
 have hmf : ∀ (fn : Fn) (first cap : Array Value) (w : World),(Instr.makeFunc fn first cap).run Tryz.prog w = .ok (.func fn first cap) w:=fun _ _ _ _ => rfl
 clear hl hJU hszU h1 h2 hBU hU hA HC hJ hbA
 go_enter Tryz.func126,Tryz.ntmps126
 go_upto_region 1 with fail
 rw [← HU.out,← HA.out]
 go_wp2_with (go_at_call 112; refine HO.out.mono ?_; rintro e w1 ⟨rfl,rfl⟩)
 refine HQ.out.mono ?_
 rintro e w2 ⟨rv,rfl,hO2,hB2⟩
 obtain ⟨h1,h2,hszU,hJU,hBU,hbA,hA⟩:=HF.out
 obtain ⟨ar,cr,hrv⟩:=hO2.shp
 subst hrv
 obtain ⟨g,hg⟩ : ∃ g,g = w2.heap.size:=⟨_,rfl⟩
 obtain ⟨W,hW⟩ : ∃ W,W = ((w2.alloc (.cells #[.slice ar l.length cr] 198)).alloc (.cells #[.slice none 0 0] 170)).alloc (.cells #[.func (.func 168) #[] #[.pointer (some ⟨g + 1,0,none⟩),.pointer (some ⟨g,0,none⟩),.pointer (some ⟨A,0,none⟩),.pointer (some ⟨g + 2,0,none⟩),.pointer (some ⟨A + 1,0,none⟩)]] 1):=⟨_,rfl⟩
 have hBW : Below w2.heap.size w2 W:=by rw [hW]; exact (((Below.refl _ _).alloc (Nat.le_refl _) _).alloc (by simp) _).alloc (by simp; omega) _
 have hszW : W.heap.size = g + 3:=by rw [hW,hg]; simp
 have h3 : W.heap[g]? = some (.cells #[.slice ar l.length cr] 198 (0,0)):=by
  rw [hW,hg,Below.heap_alloc _ _ _ (by simp; omega),Below.heap_alloc _ _ _ (by simp)]
  exact heap_alloc_new w2 _
 have h4 : W.heap[g + 1]? = some (.cells #[.slice none 0 0] 170 (0,0)):=by
  rw [hW,hg,Below.heap_alloc _ _ _ (by simp)]
  have:=heap_alloc_new (w2.alloc (.cells #[.slice ar l.length cr] 198)) (.cells #[.slice none 0 0] 170 (0,0))
  simpa using this
 have h5 : W.heap[g + 2]? = some (.cells #[.func (.func 168) #[] #[.pointer (some ⟨g + 1,0,none⟩),.pointer (some ⟨g,0,none⟩),.pointer (some ⟨A,0,none⟩),.pointer (some ⟨g + 2,0,none⟩),.pointer (some ⟨A + 1,0,none⟩)]] 1 (0,0)):=by
  rw [hW]
  have:=heap_alloc_new ((w2.alloc (.cells #[.slice ar l.length cr] 198)).alloc (.cells #[.slice none 0 0] 170)) (.cells #[.func (.func 168) #[] #[.pointer (some ⟨g + 1,0,none⟩),.pointer (some ⟨g,0,none⟩),.pointer (some ⟨A,0,none⟩),.pointer (some ⟨g + 2,0,none⟩),.pointer (some ⟨A + 1,0,none⟩)]] 1 (0,0))
  simpa [hg] using this
 have hBUW : Below w1.heap.size w1 W:=hB2.trans (hBW.mono hB2.size)
 have hB2s:=hB2.size
 have hO2l:=hO2.lt
 have hCL : CL (fun i => i = A ∨ i = A + 1 ∨ i = g ∨ i = g + 2 ∨ (Value.slice ar l.length cr).ownBlock = some i) W b l [] A (A + 1) g (g + 1) (g + 2) (.func fn fi ca) (.slice ar l.length cr) (.slice none 0 0):=by
  refine ⟨(hBUW.block A (by omega)).trans h1,(hBUW.block (A + 1) (by omega)).trans h2,h3,h4,h5,((hO2.keep hBW).ls q4_len fun i hi => .inr (.inr (.inr (.inr hi)))),OW.nil _ _ _ _ _,(fun x hx => by simp at hx),.inl rfl,.inr (.inl rfl),.inr (.inr (.inl rfl)),.inr (.inr (.inr (.inl rfl))),?_,?_,(fun i e => by simp [Value.ownBlock] at e),?_⟩
  ·rintro (e | e | e | e | e)
   ·omega
   ·omega
   ·omega
   ·omega
   ·have:=(hO2l _ e).1; omega
  ·rintro (e | e | e | e | e)
   ·omega
   ·omega
   ·omega
   ·omega
   ·have:=(hO2l _ e).2; omega
  ·rintro i (e | e | e | e | e)
   ·omega
   ·omega
   ·omega
   ·omega
   ·have:=(hO2l _ e).2; omega
 have HN:=hide (HCC.out W A (A + 1) g (g + 1) (g + 2) _ _ hCL (hJU.bel hBUW) (hBU.trans (hBUW.mono hBU.size)) (by
  rintro i (e | e | e | e | e)
  ·omega
  ·omega
  ·omega
  ·omega
  ·have:=(hO2l _ e).1; omega) (by omega) (by omega) (by
  rintro i (e | e | e | e | e)
  ·rw [e]; exact ⟨_,_,(hBUW.block A (by omega)).trans h1,by simp [okT]⟩
  ·rw [e]; exact ⟨_,_,(hBUW.block (A + 1) (by omega)).trans h2,by simp [okT]⟩
  ·rw [e]; exact ⟨_,_,h3,by simp [okT]⟩
  ·rw [e]; exact ⟨_,_,h5,by simp [okT]⟩
  ·obtain ⟨cs,hc⟩:=(hO2.keep hBW).typ i e
   exact ⟨_,_,hc,by simp [okT]⟩))
 have y5 : W.cell? ⟨g + 2,0,none⟩ = some (.func (.func 168) #[] #[.pointer (some ⟨g + 1,0,none⟩),.pointer (some ⟨g,0,none⟩),.pointer (some ⟨A,0,none⟩),.pointer (some ⟨g + 2,0,none⟩),.pointer (some ⟨A + 1,0,none⟩)]):=by simp [World.cell?,h5]
 have HW:=hide hW
 have Hg:=hide hg
 clear hCL h1 h2 hszU hJU hBU hbA hA h3 h4 h5 hBUW hB2s hO2l hO2 hB2 hBW hszW hW hg HF
 generalize l.length = ln at *
 go_upto_region 6 with fail
 rw [← Hg.out,← HW.out]
 go_wp2_with fail
 refine HN.out.mono ?_
 rintro e w7 ⟨rfl,hQ⟩
 have HQ2:=hide hQ
 clear hQ
 go_wp2
 go_end0
 exact ⟨rfl,HQ2.out⟩
end
end Go.Proofs.YtagijldedngcoaaGreatDoor

namespace Go.Proofs.YtagijldedngcoaaGreatDoor
open Go.RowKit Go.Lib Go.Maps
section
variable {r r0 p P : Nat→Prop} {w w' : World} {b a1 a2 a3 a4 a5 i1 : Nat} {st k s c N cc : Int} {n d dd : ByteArray} {go ids tx u v tv rv av : Value} {op : Bool} {l : List QT} {X : List (RR × Value)} {A : List RR}
theorem CL.mono {r' : Nat→Prop} (h : CL r w b l X a1 a2 a3 a4 a5 tv rv av) (hr : ∀ i,r i→r' i) (hb : ¬ r' b) (h4 : ¬ r' a4) (ho : ∀ i,av.ownBlock = some i→¬ r' i) (hl : ∀ i,r' i→i < w.heap.size) : CL r' w b l X a1 a2 a3 a4 a5 tv rv av :=
 ⟨h.h1,h.h2,h.h3,h.h4,h.h5,h.q.mono hr,h.o,fun x hx => (h.ns x hx).mono hr,hr _ h.r1,hr _ h.r2,hr _ h.r3,hr _ h.r5,hb,h4,ho,hl⟩
end
end Go.Proofs.YtagijldedngcoaaGreatDoor

namespace Go.Proofs.YtagijldedngcoaaGreatDoor
open Go.RowKit Go.Lib Go.Maps
section
variable {r r0 p P : Nat→Prop} {w w' : World} {b a1 a2 a3 a4 a5 i1 : Nat} {st k s c N : Int} {n d : ByteArray} {go ids tx u v tv rv av : Value} {op : Bool} {l : List QT} {X : List (RR × Value)} {A : List RR} {ll : List ByteArray}
end
end Go.Proofs.YtagijldedngcoaaGreatDoor

namespace Go.Proofs.YtagijldedngcoaaGreatDoor
open Go.RowKit Go.Lib Go.Maps
section
variable {w w1 : World} {v : Value} {bs : List Nat} {i b mb X : Nat} {s s' : SS} {st k C : Int} {n d D : ByteArray} {l : List ByteArray} {p : Nat→Prop}
theorem PX.far (h : PX w b mb s) {g j : Nat} {q : Option Addr} (hy : w.cell? ⟨g,j,none⟩ = some (.pointer q)) : ¬ two b mb g:=by
 have h' : PS w b mb s.q s.f s.off s.m s.L:=h
 rintro (e | e)
 ·subst e
  simp only [World.cell?,h'.blk] at hy
  match j with
  | 0 => simp at hy
  | 1 => simp at hy
  | 2 => simp at hy
  | 3 => simp at hy
  | 4 => simp at hy
  | 5 => simp at hy
  | _ + 6 => simp at hy
 ·subst e
  obtain ⟨cs,t,fr,hg⟩ : ∃ cs t fr,w.heap[g]? = some (.cells cs t fr):=by
   rw [World.cell?] at hy
   split at hy
   ·exact ⟨_,_,_,by assumption⟩
   ·cases hy
  exact h'.map.notCells hg
theorem answer_in (hP : RP w v bs) (hb : bs[i]? = some b) (hD : PX w b mb s) (k : Int) (n d : ByteArray) (hn : n.size ≤ maxLen) (hd : d.size ≤ maxLen) (hl : s.L.length ≤ 1000000) (hm0 : 0 ≤ s.m) (hm1 : s.m ≤ 1000000000000) (hf : s.f ≤ 1048576) :
  Calls Tryz.prog 132 #[v,.agg #[.int .i64 (i : Int),.int .i64 k,.string n,.string d]] w fun e w' => ∃ v,e = .returned v∧AR w' w.heap.size v (doR s k n d)∧PX w' b mb (doS s k n d)∧Gs (two b mb) w w':=by
 obtain ⟨a,c,rfl,h⟩:=hP
 obtain ⟨g,o,rfl,hg,hC⟩:=h.resolve_left (by intro e; rw [e] at hb; simp at hb)
 have hib : i < bs.length:=(List.getElem?_eq_some_iff.1 hb).1
 have y0:=hC i b hb
 obtain ⟨N,hN⟩ : ∃ N,N = bs.length:=⟨_,rfl⟩
 rw [← hN] at hib ⊢
 obtain ⟨U,hU⟩ : ∃ U,U = (w.alloc (.cells #[.int .i64 (i : Int),.int .i64 k,.string n,.string d] 81)).alloc (.cells #[.int .i64 0,.string ⟨#[]⟩,.slice none 0 0] 87):=⟨_,rfl⟩
 obtain ⟨X,hX⟩ : ∃ X,X = w.heap.size:=⟨_,rfl⟩
 have hBU : Below w.heap.size w U:=by rw [hU]; exact ((Below.refl _ _).alloc (Nat.le_refl _) _).alloc (by simp) _
 have hq : QR U X (i : Int) k n d:=by rw [hU,hX]; exact QR.new _ _ _ _ _
 have hq' : QR U.drew X (i : Int) k n d:=⟨hq.q,hq.r⟩
 have hszU : U.heap.size = X + 2:=by rw [hU,hX]; simp
 have z0:=(hBU.cell (p:=⟨g,o + i,none⟩) hg).trans y0
 have z0' : U.drew.cell? ⟨g,o + i,none⟩ = some (.pointer (some ⟨b,0,none⟩)):=z0
 have x0:=hq.c0
 have v0:=hq'.c0
 have v1:=hq'.c1
 have v2:=hq'.c2
 have v3:=hq'.c3
 have HD : Hid _:=hide (do_any (w:=U.drew) ((hD.bel hBU).bel ((Below.refl _ _).drew)) (i : Int) k n d hn hd hl hm0 hm1 hf)
 have hblt:=PS.lt hD
 have hmlt:=PS.mlt hD
 have hfar:=hD.far y0
 have HGB : Hid (¬ two b mb g∧g ≠ X + 1∧g < U.drew.heap.size):=by
  refine ⟨hfar,by omega,?_⟩
  show g < U.heap.size
  omega
 have HBX : Hid (¬ two b mb X∧¬ two b mb (X + 1)):=by show (¬ (X = b ∨ X = mb))∧¬ (X + 1 = b ∨ X + 1 = mb); omega
 have HB : Hid (Gs (two b mb) w U.drew):=(Gs.of_below _ hBU).trans ((Gs.refl _ _).bel ((Below.refl _ _).drew))
 have HU:=hide hU
 have HX:=hide hX
 have HQ:=hide hq'
 have HSZ : Hid (U.drew.heap.size = X + 2):=hszU
 have b1 : (i : Int) < (N : Int):=by omega
 have b0 : (0 : Int) ≤ (i : Int):=by omega
 have HWX : Hid (w.heap.size ≤ X):=by show w.heap.size ≤ X; omega
 obtain ⟨C,D,l,hr⟩ : ∃ C D l,doR s k n d = ⟨C,D,l⟩:=⟨_,_,_,rfl⟩
 rw [hr] at HD ⊢
 obtain ⟨s',hs'⟩ : ∃ s',s' = doS s k n d:=⟨_,rfl⟩
 rw [← hs'] at HD ⊢
 clear hq hq' hBU hC h hb hN hU hX y0 hD hszU hblt hmlt hfar hr hs'
 go_enter Tryz.func132,Tryz.ntmps132
 go_upto_region 1 with fail
 rw [← HU.out,← HX.out]
 go_upto_region 3 with fail
 go_region_held3 (fun w' => w'.cell? ⟨X,0,none⟩ = some (.int .i64 (i : Int))∧w'.cell? ⟨X,1,none⟩ = some (.int .i64 k)∧w'.cell? ⟨X,2,none⟩ = some (.string n)∧w'.cell? ⟨X,3,none⟩ = some (.string d)∧w'.cell? ⟨g,o + i,none⟩ = some (.pointer (some ⟨b,0,none⟩))) (first | assumption | exact ⟨by assumption,by assumption,by assumption,by assumption,by assumption⟩ | exact ⟨v0,v1,v2,v3,z0'⟩ | exact HS5.out)
  (first | (go_at_call 41; refine HD.out.mono ?_; rintro e w1 ⟨u,rfl,hA,hD1,hG1⟩; obtain ⟨a1,c1,rfl,hT1⟩:=hA.shp; have hQ1:=HQ.out.gs hG1 HBX.out.1 HBX.out.2; have t0:=hQ1.c0; have t1:=hQ1.c1; have t2:=hQ1.c2; have t3:=hQ1.c3; have hset:=set3 hQ1.r (.int .i64 C) (.string D) (.slice a1 l.length c1); have p1:=hset.1.1; have p2:=hset.1.2; have p3:=hset.2.1.1; have p4:=hset.2.1.2; have p5:=hset.2.2.1.1; have p6:=hset.2.2.1.2; have tz : w1.cell? ⟨g,o + i,none⟩ = some (.pointer (some ⟨b,0,none⟩)):=(by simp only [World.cell?,hG1.block g HGB.out.2.2 HGB.out.1] : w1.cell? ⟨g,o + i,none⟩ = U.drew.cell? ⟨g,o + i,none⟩).trans z0'; have HS5 : Hid ((laid3 w1 (X + 1) (.int .i64 C) (.string D) (.slice a1 l.length c1)).cell? ⟨X,0,none⟩ = some (.int .i64 (i : Int))∧(laid3 w1 (X + 1) (.int .i64 C) (.string D) (.slice a1 l.length c1)).cell? ⟨X,1,none⟩ = some (.int .i64 k)∧(laid3 w1 (X + 1) (.int .i64 C) (.string D) (.slice a1 l.length c1)).cell? ⟨X,2,none⟩ = some (.string n)∧(laid3 w1 (X + 1) (.int .i64 C) (.string D) (.slice a1 l.length c1)).cell? ⟨X,3,none⟩ = some (.string d)∧(laid3 w1 (X + 1) (.int .i64 C) (.string D) (.slice a1 l.length c1)).cell? ⟨g,o + i,none⟩ = some (.pointer (some ⟨b,0,none⟩))):=⟨(laid3_cell (by omega) _ _ _).trans t0,(laid3_cell (by omega) _ _ _).trans t1,(laid3_cell (by omega) _ _ _).trans t2,(laid3_cell (by omega) _ _ _).trans t3,(laid3_cell HGB.out.2.1 _ _ _).trans tz⟩; have hf4:=hset.2.2.2; have HF : Hid _:=hide (And.intro hT1 (And.intro hD1 (And.intro hG1 hQ1))); clear hT1 hD1 hG1 hQ1 hset))
 obtain ⟨hT1,hD1,hG1,hQ1⟩:=HF.out
 have HE : Hid (∃ v',Ending.returned (.agg #[.int .i64 C,.string D,.slice a1 l.length c1]) = .returned v'∧AR (laid3 w1 (X + 1) (.int .i64 C) (.string D) (.slice a1 l.length c1)) w.heap.size v' ⟨C,D,l⟩∧PX (laid3 w1 (X + 1) (.int .i64 C) (.string D) (.slice a1 l.length c1)) b mb s'∧Gs (two b mb) w (laid3 w1 (X + 1) (.int .i64 C) (.string D) (.slice a1 l.length c1))):=by
  have hsz:=HSZ.out
  rw [hsz] at hT1
  refine ⟨_,rfl,⟨_,rfl,?_⟩,PS.laid hD1 (fun e => HBX.out.2 (.inl e.symm)) (fun e => HBX.out.2 (.inr e.symm)) _ _ _,(HB.out.trans hG1).laid (by have:=HWX.out; omega) _ _ _⟩
  exact (hT1.kb fun i hi => laid3_other _ _ _ (by have:=(hT1.lt i hi).1; omega)).low (by have:=HWX.out; omega)
 have r0 : (((w1.setCell ⟨X + 1,0,none⟩ (.int .i64 C)).setCell ⟨X + 1,1,none⟩ (.string D)).setCell ⟨X + 1,2,none⟩ (.slice a1 l.length c1)).cell? ⟨X + 1,0,none⟩ = some (.int .i64 C):=by simp [World.cell?,hf4]
 have r1 : (((w1.setCell ⟨X + 1,0,none⟩ (.int .i64 C)).setCell ⟨X + 1,1,none⟩ (.string D)).setCell ⟨X + 1,2,none⟩ (.slice a1 l.length c1)).cell? ⟨X + 1,1,none⟩ = some (.string D):=by simp [World.cell?,hf4]
 have r2 : (((w1.setCell ⟨X + 1,0,none⟩ (.int .i64 C)).setCell ⟨X + 1,1,none⟩ (.string D)).setCell ⟨X + 1,2,none⟩ (.slice a1 l.length c1)).cell? ⟨X + 1,2,none⟩ = some (.slice a1 l.length c1):=by simp [World.cell?,hf4]
 clear hT1 hD1 hG1 hQ1 HF HS5 hf4 p1 p2 p3 p4 p5 p6 t0 t1 t2 t3 tz v0 v1 v2 v3
 go_wp2
 exact bodyPost_ret (v:=.agg #[.int .i64 C,.string D,.slice a1 l.length c1]) (by simp [results,Tryz.results132,go_sem,r0,r1,r2]) rfl HE.out
theorem answer_out (hP : RP w v bs) (st k : Int) (n d : ByteArray) (hst : st < 0 ∨ (bs.length : Int) ≤ st) :
  Calls Tryz.prog 132 #[v,.agg #[.int .i64 st,.int .i64 k,.string n,.string d]] w fun e w' => e = .returned (.agg #[.int .i64 1,.string ⟨#[]⟩,.slice none 0 0])∧Below w.heap.size w w':=by
 obtain ⟨a,c,rfl,_⟩:=hP
 obtain ⟨N,hN⟩ : ∃ N,N = bs.length:=⟨_,rfl⟩
 rw [← hN] at hst ⊢
 clear hN
 by_cases h0 : st < 0
 ·go_enter Tryz.func132,Tryz.ntmps132
  go_wp2
  exact bodyPost_ret (v:=.agg #[.int .i64 1,.string ⟨#[]⟩,.slice none 0 0]) (by simp [results,Tryz.results132,go_sem]) rfl ⟨rfl,((Below.refl _ _).alloc (Nat.le_refl _) _).alloc (by simp) _⟩
 ·have h1 : (N : Int) ≤ st:=by omega
  have h2 : (0 : Int) ≤ st:=by omega
  go_enter Tryz.func132,Tryz.ntmps132
  go_wp2
  exact bodyPost_ret (v:=.agg #[.int .i64 1,.string ⟨#[]⟩,.slice none 0 0]) (by simp [results,Tryz.results132,go_sem]) rfl ⟨rfl,((Below.refl _ _).alloc (Nat.le_refl _) _).alloc (by simp) _⟩
end
end Go.Proofs.YtagijldedngcoaaGreatDoor

namespace Go.Proofs.YtagijldedngcoaaGreatDoor
open Go.RowKit Go.Lib Go.Maps

def yR (S : List SS) (q : QT) : RR:=if 0 ≤ q.st then (match S[q.st.toNat]? with | some s => doR s q.k q.n q.d | none => ⟨1,⟨#[]⟩,[]⟩) else ⟨1,⟨#[]⟩,[]⟩
def yS (S : List SS) (q : QT) : List SS:=if 0 ≤ q.st then (match S[q.st.toNat]? with | some s => S.set q.st.toNat (doS s q.k q.n q.d) | none => S) else S
def yRs : List SS→List QT→List RR
 | _,[] => []
 | S,q :: r => yR S q :: yRs (yS S q) r
def ySs : List SS→List QT→List SS
 | S,[] => S
 | S,q :: r => ySs (yS S q) r
theorem yRs_len : ∀ (l : List QT) (S : List SS),(yRs S l).length = l.length
 | [],_ => rfl
 | q :: r,S => by rw [yRs,List.length_cons,yRs_len r,List.length_cons]
theorem yRs_snoc : ∀ (l : List QT) (S : List SS) (q : QT),yRs S (l ++ [q]) = yRs S l ++ [yR (ySs S l) q]
 | [],S,q => rfl
 | p :: r,S,q => by rw [List.cons_append,yRs,yRs,ySs,yRs_snoc r]; rfl
theorem ySs_snoc : ∀ (l : List QT) (S : List SS) (q : QT),ySs S (l ++ [q]) = yS (ySs S l) q
 | [],S,q => rfl
 | p :: r,S,q => by rw [List.cons_append,ySs,ySs,ySs_snoc r]
structure GO (t : Nat) (s : SS) : Prop where
 ris : Ris s.L
 sm : ∀ p ∈ s.L,p.n.size ≤ 96∧p.d.size ≤ 131072
 len : s.L.length ≤ t
 m0 : 0 ≤ s.m
 mt : s.m ≤ t
 f : s.f ≤ 1048576
def GD (t : Nat) (S : List SS) : Prop:=∀ s ∈ S,GO t s
theorem GO.mono {t t' : Nat} {s : SS} (h : GO t s) (ht : t ≤ t') : GO t' s:=⟨h.ris,h.sm,Nat.le_trans h.len ht,h.m0,Int.le_trans h.mt (by omega),h.f⟩
theorem doS_okp (s : SS) (k : Int) (n d : ByteArray) : (doS s k n d).L.length ≤ s.L.length + 1∧s.m ≤ (doS s k n d).m∧(doS s k n d).m ≤ s.m + 1∧(doS s k n d).f ≤ s.f:=by
 rw [doS]
 have h1:=len_lay s.L n d
 have h2:=len_del s.L n
 split
 ·exact ⟨by show s.L.length ≤ _; omega,by show s.m ≤ s.m + 1; omega,by show s.m + 1 ≤ s.m + 1; omega,Int.le_refl _⟩
 ·split
  ·exact ⟨by show s.L.length ≤ _; omega,by show s.m ≤ s.m + 1; omega,by show s.m + 1 ≤ s.m + 1; omega,by show s.f - 1 ≤ s.f; omega⟩
  ·refine ⟨?_,by show s.m ≤ s.m + 1; omega,by show s.m + 1 ≤ s.m + 1; omega,Int.le_refl _⟩
   dsimp only
   rw [putL]
   (repeat' split) <;> omega
theorem GO.step {t : Nat} {s : SS} (h : GO t s) (k : Int) (n d : ByteArray) : GO (t + 1) (doS s k n d):=by
 obtain ⟨h1,h2,h3,h4⟩:=doS_okp s k n d
 have hL : Ris (doS s k n d).L∧∀ p ∈ (doS s k n d).L,p.n.size ≤ 96∧p.d.size ≤ 131072:=by
  rw [doS]
  split
  ·exact ⟨h.ris,h.sm⟩
  ·split
   ·exact ⟨h.ris,h.sm⟩
   ·dsimp only
    split
    ·rw [putL]
     split
     ·rename_i hp
      rw [pcode] at hp
      split at hp
      ·rename_i hm
       split at hp
       ·rename_i hd
        exact ⟨ris_lay h.ris n d,small_lay h.sm (mayB_size hm) hd⟩
       ·cases hp
      ·cases hp
     ·exact ⟨h.ris,h.sm⟩
    ·split
     ·exact ⟨ris_del h.ris n,small_del h.sm n⟩
     ·exact ⟨h.ris,h.sm⟩
 have:=h.len
 have:=h.m0
 have:=h.mt
 have:=h.f
 exact ⟨hL.1,hL.2,by omega,by omega,by omega,by omega⟩
theorem GD.step {t : Nat} {S : List SS} (h : GD t S) (q : QT) : GD (t + 1) (yS S q):=by
 rw [yS]
 split
 ·split
  ·rename_i s hs
   intro x hx
   rcases List.mem_or_eq_of_mem_set hx with hx | hx
   ·exact (h x hx).mono (by omega)
   ·rw [hx]; exact (h s (List.mem_of_getElem? hs)).step _ _ _
  ·exact fun x hx => (h x hx).mono (by omega)
 ·exact fun x hx => (h x hx).mono (by omega)
theorem GD.steps : ∀ (l : List QT) {t : Nat} {S : List SS},GD t S→GD (t + l.length) (ySs S l)
 | [],_,_,h => h
 | q :: r,t,S,h => by
  have:=GD.steps r (h.step q)
  rw [ySs,List.length_cons,show t + (r.length + 1) = t + 1 + r.length by omega]
  exact this
theorem doR_names (s : SS) (k : Int) (n d : ByteArray) : (doR s k n d).l.length ≤ s.L.length:=by
 rw [doR]
 split
 ·simp
 ·split
  ·simp
  ·split
   ·simp
   ·split
    ·simp
    ·split
     ·exact names_len _ _
     ·split <;> simp
theorem yR_names {t : Nat} {S : List SS} (h : GD t S) (q : QT) : (yR S q).l.length ≤ t:=by
 rw [yR]
 split
 ·split
  ·rename_i s hs
   exact Nat.le_trans (doR_names _ _ _ _) (h s (List.mem_of_getElem? hs)).len
  ·simp
 ·simp
theorem resI_app (A B : List RR) : resI (A ++ B) = resI A ++ resI B:=by simp [resI]
theorem yRs_names : ∀ (l : List QT) {t : Nat} {S : List SS},GD t S→(resI (yRs S l)).length ≤ l.length * (t + l.length)
 | [],_,_,_ => by simp [yRs,resI]
 | q :: r,t,S,h => by
  have h1:=yRs_names r (h.step q)
  have h2:=yR_names h q
  rw [yRs,show yR S q :: yRs (yS S q) r = [yR S q] ++ yRs (yS S q) r from rfl,resI_app,List.length_append]
  have h3 : (resI [yR S q]).length = (yR S q).l.length:=by simp [resI]
  rw [h3,List.length_cons,Nat.add_mul,Nat.one_mul,show t + (r.length + 1) = t + 1 + r.length by omega]
  omega

def RPp (P : Nat→Prop) (w : World) (v : Value) (bs : List Nat) : Prop :=
 ∃ a c,v = .slice a bs.length c∧(bs = [] ∨ ∃ g o,a = some ⟨g,o,none⟩∧P g∧g < w.heap.size∧∀ i b,bs[i]? = some b→w.cell? ⟨g,o + i,none⟩ = some (.pointer (some ⟨b,0,none⟩)))
structure YP (P : Nat→Prop) (w : World) (v : Value) (S : List SS) (bs : List (Nat × Nat)) : Prop where
 rp : RPp P w v (bs.map (·.1))
 len : bs.length = S.length
 px : ∀ (i : Nat) (e : Nat × Nat) (s : SS),bs[i]? = some e→S[i]? = some s→PX w e.1 e.2 s
 inP : ∀ e ∈ bs,P e.1∧P e.2
 ap : ∀ (i j : Nat) (e f : Nat × Nat),bs[i]? = some e→bs[j]? = some f→i ≠ j→e.1 ≠ f.1∧e.2 ≠ f.2
section
variable {P p : Nat→Prop} {w w' : World} {v : Value} {S : List SS} {bs : List (Nat × Nat)} {t : Nat}
theorem RPp.rp {bs : List Nat} (h : RPp P w v bs) : RP w v bs:=by
 obtain ⟨a,c,e,h | ⟨g,o,ea,_,h⟩⟩:=h
 ·exact ⟨a,c,e,.inl h⟩
 ·exact ⟨a,c,e,.inr ⟨g,o,ea,h⟩⟩
theorem RPp.kb {bs : List Nat} (h : RPp P w v bs) (hs : w.heap.size ≤ w'.heap.size) (hk : ∀ i,i < w.heap.size→P i→(∃ j q,w.cell? ⟨i,j,none⟩ = some (.pointer q))→w'.heap[i]? = w.heap[i]?) : RPp P w' v bs:=by
 obtain ⟨a,c,e,h | ⟨g,o,ea,hP,hg,h⟩⟩:=h
 ·exact ⟨a,c,e,.inl h⟩
 ·refine ⟨a,c,e,.inr ⟨g,o,ea,hP,Nat.lt_of_lt_of_le hg hs,fun i b hb => ?_⟩⟩
  have hc:=h i b hb
  have:=hk g hg hP ⟨_,_,hc⟩
  simp only [World.cell?,this] at hc ⊢
  exact hc
theorem YP.gs (h : YP P w v S bs) (hg : Gs p w w') (hp : ∀ i,P i→¬ p i) : YP P w' v S bs :=
 ⟨h.rp.kb hg.size fun i hi hP _ => hg.block i hi (hp i hP),h.len,fun i e s he hs => PS.gs (h.px i e s he hs) hg (hp _ (h.inP e (List.mem_of_getElem? he)).1) (hp _ (h.inP e (List.mem_of_getElem? he)).2),h.inP,h.ap⟩
theorem YP.bel (h : YP P w v S bs) (hb : Below w.heap.size w w') : YP P w' v S bs :=
 ⟨h.rp.kb hb.size fun i hi _ _ => hb.block i hi,h.len,fun i e s he hs => PS.bel (h.px i e s he hs) hb,h.inP,h.ap⟩
theorem YP.cross (h : YP P w v S bs) {i j : Nat} {e f : Nat × Nat} (he : bs[i]? = some e) (hf : bs[j]? = some f) : e.1 ≠ f.2:=fun eq => by
 obtain ⟨s,hs⟩ : ∃ s,S[i]? = some s:=⟨_,List.getElem?_eq_getElem (by rw [← h.len]; exact (List.getElem?_eq_some_iff.1 he).1)⟩
 obtain ⟨s',hs'⟩ : ∃ s,S[j]? = some s:=⟨_,List.getElem?_eq_getElem (by rw [← h.len]; exact (List.getElem?_eq_some_iff.1 hf).1)⟩
 have h1 : PS w e.1 e.2 s.q s.f s.off s.m s.L:=h.px i e s he hs
 have h2 : PS w f.1 f.2 s'.q s'.f s'.off s'.m s'.L:=h.px j f s' hf hs'
 have hb:=h1.blk
 rw [eq] at hb
 exact h2.map.notCells hb
theorem YP.put (h : YP P w v S bs) {i : Nat} {e : Nat × Nat} {s s' : SS} (he : bs[i]? = some e) (hs : S[i]? = some s) (hg : Gs (two e.1 e.2) w w') (hX : PX w' e.1 e.2 s') : YP P w' v (S.set i s') bs:=by
 refine ⟨h.rp.kb hg.size fun j hj _ hc => hg.block j hj ?_,by rw [List.length_set]; exact h.len,fun j f x hf hx => ?_,h.inP,h.ap⟩
 ·obtain ⟨_,_,hc⟩:=hc
  exact (h.px i e s he hs).far hc
 ·rw [List.getElem?_set] at hx
  by_cases hij : i = j
  ·subst hij
   have hil : i < S.length:=(List.getElem?_eq_some_iff.1 hs).1
   rw [if_pos rfl,if_pos hil] at hx
   cases hx
   rw [he] at hf
   cases hf
   exact hX
  ·rw [if_neg hij] at hx
   have:=h.ap i j e f he hf hij
   refine PS.gs (h.px j f x hf hx) hg ?_ ?_
   ·rintro (q | q)
    ·exact this.1 q.symm
    ·exact h.cross hf he q
   ·rintro (q | q)
    ·exact h.cross he hf q.symm
    ·exact this.2 q.symm
def Qs (bs : List (Nat × Nat)) (i : Nat) : Prop:=∃ e ∈ bs,i = e.1 ∨ i = e.2
theorem YP.qs (h : YP P w v S bs) {i : Nat} (hi : Qs bs i) : P i:=by
 obtain ⟨e,he,h1 | h1⟩:=hi
 ·rw [h1]; exact (h.inP e he).1
 ·rw [h1]; exact (h.inP e he).2
theorem answer_any (h : YP P w v S bs) (hG : GD t S) (ht : t ≤ 1000) (q : QT) (hn : q.n.size ≤ maxLen) (hd : q.d.size ≤ maxLen) :
  Calls Tryz.prog 132 #[v,.agg #[.int .i64 q.st,.int .i64 q.k,.string q.n,.string q.d]] w fun e w' => ∃ u,e = .returned u∧AR w' w.heap.size u (yR S q)∧YP P w' v (yS S q) bs∧Gs (Qs bs) w w':=by
 by_cases h0 : 0 ≤ q.st
 ·cases hs : S[q.st.toNat]? with
  | some s =>
   obtain ⟨e,he⟩ : ∃ e,bs[q.st.toNat]? = some e:=⟨_,List.getElem?_eq_getElem (by rw [h.len]; exact (List.getElem?_eq_some_iff.1 hs).1)⟩
   have hg:=hG s (List.mem_of_getElem? hs)
   have hst : q.st = ((q.st.toNat : Nat) : Int):=by omega
   rw [yR,yS,if_pos h0,if_pos h0,hs]
   dsimp only
   have:=answer_in h.rp.rp (i:=q.st.toNat) (b:=e.1) (by rw [List.getElem?_map,he]; rfl) (h.px _ e s he hs) q.k q.n q.d hn hd (by have:=hg.len; omega) hg.m0 (by have:=hg.mt; omega) hg.f
   rw [← hst] at this
   refine this.mono ?_
   rintro e' w' ⟨u,rfl,hA,hX,hG2⟩
   exact ⟨u,rfl,hA,h.put he hs hG2 hX,hG2.mono fun i _ hi => by
    rcases hi with hi | hi
    ·exact ⟨e,List.mem_of_getElem? he,.inl hi⟩
    ·exact ⟨e,List.mem_of_getElem? he,.inr hi⟩⟩
  | none =>
   rw [yR,yS,if_pos h0,if_pos h0,hs]
   have hl : S.length ≤ q.st.toNat:=List.getElem?_eq_none_iff.1 hs
   refine (answer_out h.rp.rp q.st q.k q.n q.d (.inr (by rw [List.length_map,h.len]; omega))).mono ?_
   rintro e' w' ⟨rfl,hb⟩
   exact ⟨_,rfl,⟨_,rfl,TS.nil _ _⟩,h.bel hb,Gs.of_below _ hb⟩
 ·rw [yR,yS,if_neg h0,if_neg h0]
  refine (answer_out h.rp.rp q.st q.k q.n q.d (.inl (by omega))).mono ?_
  rintro e' w' ⟨rfl,hb⟩
  exact ⟨_,rfl,⟨_,rfl,TS.nil _ _⟩,h.bel hb,Gs.of_below _ hb⟩
end
end Go.Proofs.YtagijldedngcoaaGreatDoor

namespace Go.Proofs.YtagijldedngcoaaGreatDoor
open Go.RowKit Go.Lib Go.Maps
inductive PN (α : Type) where
 | fin : α→PN α
 | ask : QT→(RR→PN α)→PN α
section
variable {α : Type}
def sqP : List QT→List RR→(List RR→PN α)→PN α
 | [],A,k => k A
 | q :: l,A,k => .ask q fun x => sqP l (A ++ [x]) k
def PN.aft : PN α→List RR→PN α
 | p,[] => p
 | .fin r,_ :: _ => .fin r
 | .ask _ k,x :: A => PN.aft (k x) A
def PN.tr : PN α→List SS→List QT
 | .fin _,_ => []
 | .ask q k,S => q :: PN.tr (k (yR S q)) (yS S q)
def PN.res : PN α→List SS→α
 | .fin r,_ => r
 | .ask q k,S => PN.res (k (yR S q)) (yS S q)
theorem tr_aft : ∀ (p : PN α) (S : List SS) (t : Nat),t ≤ (p.tr S).length→(p.aft (yRs S ((p.tr S).take t))).tr (ySs S ((p.tr S).take t)) = (p.tr S).drop t∧(p.aft (yRs S ((p.tr S).take t))).res (ySs S ((p.tr S).take t)) = p.res S
 | .fin r,S,t,h => by
  have : t = 0:=by simpa [PN.tr] using h
  subst this
  simp [PN.tr,yRs,ySs,PN.aft]
 | .ask q k,S,0,_ => by simp [yRs,ySs,PN.aft]
 | .ask q k,S,t + 1,h => by
  have ih:=tr_aft (k (yR S q)) (yS S q) t (by simpa [PN.tr] using h)
  simp only [PN.tr,List.take_succ_cons,yRs,ySs,PN.aft,List.drop_succ_cons,PN.res]
  exact ih
theorem aft_snoc : ∀ (A : List RR) (p : PN α) (x : RR),p.aft (A ++ [x]) = (p.aft A).aft [x]
 | [],p,x => by cases p <;> rfl
 | y :: A,.fin r,x => by simp only [List.cons_append,PN.aft]
 | y :: A,.ask q k,x => by simp only [List.cons_append,PN.aft]; exact aft_snoc A (k y) x
theorem aft_ask {q : QT} {k : RR→PN α} (x : RR) : (PN.ask q k).aft [x] = k x:=by
 simp only [PN.aft]
theorem aft_at {p : PN α} {S : List SS} {t : Nat} {q : QT} (h : (p.tr S)[t]? = some q) : ∃ k,p.aft (yRs S ((p.tr S).take t)) = .ask q k:=by
 obtain ⟨hl,rfl⟩:=List.getElem?_eq_some_iff.1 h
 have h1:=(tr_aft p S t (by omega)).1
 rw [List.drop_eq_getElem_cons hl] at h1
 cases hp : p.aft (yRs S ((p.tr S).take t)) with
 | fin r => rw [hp,PN.tr] at h1; cases h1
 | ask q' k => rw [hp,PN.tr] at h1; injection h1 with h2; exact ⟨k,by rw [h2]⟩
theorem aft_end {p : PN α} {S : List SS} : p.aft (yRs S (p.tr S)) = .fin (p.res S):=by
 have h1:=tr_aft p S (p.tr S).length (Nat.le_refl _)
 rw [List.take_length,List.drop_length] at h1
 cases hp : p.aft (yRs S (p.tr S)) with
 | fin r => rw [hp] at h1; rw [← h1.2]; rfl
 | ask q k => rw [hp,PN.tr] at h1; cases h1.1
theorem sqP_tr : ∀ (l : List QT) (A : List RR) (k : List RR→PN α) (S : List SS),(sqP l A k).tr S = l ++ (k (A ++ yRs S l)).tr (ySs S l)
 | [],A,k,S => by simp [sqP,yRs,ySs]
 | q :: l,A,k,S => by
  rw [sqP,PN.tr,sqP_tr l,yRs,ySs,List.append_assoc]
  rfl
theorem sqP_res : ∀ (l : List QT) (A : List RR) (k : List RR→PN α) (S : List SS),(sqP l A k).res S = (k (A ++ yRs S l)).res (ySs S l)
 | [],A,k,S => by simp [sqP,yRs,ySs]
 | q :: l,A,k,S => by
  rw [sqP,PN.res,sqP_res l,yRs,ySs,List.append_assoc]
  rfl
end
def okR (x : RR) : Prop:=(∀ y ∈ x.l,y.size ≤ maxLen)∧x.d.size ≤ 1000000
theorem yR_ok {t : Nat} {S : List SS} (h : GD t S) (q : QT) : okR (yR S q):=by
 rw [yR]
 split
 ·split
  ·rename_i s hs
   have hg:=h s (List.mem_of_getElem? hs)
   rw [doR]
   refine ⟨?_,?_⟩
   ·(repeat' split) <;> intro y hy <;> try (simp at hy; done)
    obtain ⟨p,hp,rfl⟩:=List.mem_map.1 hy
    have:=(hg.sm p (List.mem_filter.1 hp).1).1
    unfold maxLen; omega
   ·have hz : (0 : Nat) ≤ 1000000:=by omega
    (repeat' split) <;> first | exact hz | skip
    show ((thr s.L q.n).getD ⟨#[]⟩).size ≤ 1000000
    cases ht : thr s.L q.n with
    | none => exact hz
    | some x =>
     have:=(thr_small hg.sm ht).2
     show x.size ≤ 1000000
     omega
  ·exact ⟨fun y hy => by simp at hy,Nat.zero_le _⟩
 ·exact ⟨fun y hy => by simp at hy,Nat.zero_le _⟩
end Go.Proofs.YtagijldedngcoaaGreatDoor

namespace Go.Proofs.YtagijldedngcoaaGreatDoor
def sx0 : Zq.SX:=⟨0,0,0,0,⟨#[]⟩,⟨#[]⟩⟩
def lx (l : List Zq.SX) (i : Nat) : Zq.SX:=(l[i]?).getD sx0
theorem lx_at {l : List Zq.SX} {i : Nat} {x : Zq.SX} (h : l[i]? = some x) : lx l i = x:=by rw [lx,h]; rfl
open Classical in
noncomputable def gaV (l : List Zq.SX) : Option ByteArray:=if Zq.GA (lx l) l.length (Zq.gJS (lx l) l.length) 0 then some (Zq.gJS (lx l) l.length) else none
theorem ga_one {l : List Zq.SX} {S : ByteArray} {c : Int} (h : Zq.GA (lx l) l.length S c) : (c = 0∧gaV l = some S) ∨ (c ≠ 0∧gaV l = none):=by
 by_cases hg : Zq.GA (lx l) l.length (Zq.gJS (lx l) l.length) 0
 ·obtain ⟨h1,h2⟩:=h.one hg
  exact .inl ⟨h2,by rw [gaV,if_pos hg,h1]⟩
 ·refine .inr ⟨?_,by rw [gaV,if_neg hg]⟩
  rintro rfl
  rcases h with ⟨_,_,e⟩ | ⟨h1,⟨h2,_,e⟩ | ⟨h2,⟨_,_,e⟩ | ⟨h3,e,_⟩⟩⟩
  ·cases e
  ·exact h2 e.symm
  ·cases e
  ·subst e; exact hg (.inr ⟨h1,.inr ⟨h2,.inr ⟨h3,rfl,rfl⟩⟩⟩)
/-! ### Choices -/
def cat (c : List Nat) (i : Nat) : Nat:=(c[i]?).getD 0
def nxI (c : List Nat) (n : Nat) : Nat→Option (List Nat)
 | 0 => none
 | i + 1 => if cat c i + c.length = n + i then nxI c n i else some (c.take i ++ (List.range (c.length - i)).map fun j => cat c i + 1 + j)
def nxt (c : List Nat) (n : Nat) : Option (List Nat):=nxI c n c.length
def ith (K n : Nat) : Nat→Option (List Nat)
 | 0 => if K ≤ n then some (List.range K) else none
 | t + 1 => (ith K n t).bind fun c => nxt c n
def CI (K n : Nat) (c : List Nat) : Prop:=c.length = K∧∀ i,i < K→cat c i + K ≤ n + i
theorem cat_at {c : List Nat} {i x : Nat} (h : c[i]? = some x) : cat c i = x:=by rw [cat,h]; rfl
theorem cat_get {c : List Nat} {i : Nat} (h : i < c.length) : c[i]? = some (cat c i):=by rw [cat,List.getElem?_eq_getElem h]; rfl
theorem cat_up {c : List Nat} {i j : Nat} (hi : i ≤ c.length) : cat (c.take i ++ (List.range (c.length - i)).map fun j => cat c i + 1 + j) j = if j < i then cat c j else if j < c.length then cat c i + 1 + (j - i) else 0:=by
 by_cases h : j < i
 ·rw [if_pos h,cat,List.getElem?_append_left (by rw [List.length_take]; omega),List.getElem?_take,if_pos h,← cat]
 ·rw [if_neg h,cat,List.getElem?_append_right (by rw [List.length_take]; omega),List.length_take,show min i c.length = i by omega,List.getElem?_map]
  by_cases h2 : j < c.length
  ·rw [if_pos h2,List.getElem?_range (by omega)]; rfl
  ·rw [if_neg h2,List.getElem?_eq_none (by rw [List.length_range]; omega)]; rfl
theorem ci_nxI {K n : Nat} {c c' : List Nat} (h : CI K n c) : ∀ {i : Nat},i ≤ K→nxI c n i = some c'→CI K n c'
 | 0,_,e => by rw [nxI] at e; cases e
 | i + 1,hi,e => by
  rw [nxI] at e
  obtain ⟨hl,hc⟩:=h
  split at e
  ·exact ci_nxI ⟨hl,hc⟩ (by omega) e
  ·rename_i hne
   cases e
   have h1:=hc i (by omega)
   refine ⟨by simp; omega,fun j hj => ?_⟩
   rw [cat_up (by omega)]
   by_cases h : j < i
   ·rw [if_pos h]; exact hc j hj
   ·rw [if_neg h,if_pos (by omega)]; omega
theorem ci_ith {K n : Nat} : ∀ {t : Nat} {c : List Nat},ith K n t = some c→CI K n c
 | 0,c,h => by
  rw [ith] at h
  split at h
  ·cases h
   refine ⟨by simp,fun i hi => ?_⟩
   rw [cat,List.getElem?_range hi]
   show i + K ≤ n + i
   omega
  ·cases h
 | t + 1,c,h => by
  rw [ith] at h
  obtain ⟨c0,h0,h1⟩:=Option.bind_eq_some_iff.1 h
  have hc:=ci_ith h0
  exact ci_nxI hc (by rw [hc.1]; exact Nat.le_refl _) h1
theorem ci_lt {K n : Nat} {c : List Nat} (h : CI K n c) {i : Nat} (hi : i < K) : cat c i < n:=by have:=h.2 i hi; omega
def pick (f : List Zq.SX) (c : List Nat) : List Zq.SX:=c.map (lx f)
theorem pick_len (f : List Zq.SX) (c : List Nat) : (pick f c).length = c.length:=by simp [pick]
theorem pick_at {f : List Zq.SX} {c : List Nat} {i : Nat} (h : i < c.length) : lx (pick f c) i = lx f (cat c i):=by
 rw [lx,pick,List.getElem?_map,cat_get h]; rfl
noncomputable def gthN (K : Nat) (f : List Zq.SX) : Nat→Nat→Option ByteArray
 | 0,_ => none
 | m + 1,t => match ith K f.length t with
  | none => none
  | some c => match gaV (pick f c) with
   | some d => some d
   | none => gthN K f m (t + 1)
noncomputable def gth (K : Nat) (f : List Zq.SX) : Option ByteArray:=gthN K f 1000 0
def Fl (K : Nat) (f : List Zq.SX) (t : Nat) : Prop:=∀ s,s < t→∃ c,ith K f.length s = some c∧gaV (pick f c) = none
theorem fl_gth {K : Nat} {f : List Zq.SX} : ∀ {t : Nat},Fl K f t→t ≤ 1000→gth K f = gthN K f (1000 - t) t
 | 0,_,_ => rfl
 | t + 1,h,ht => by
  rw [fl_gth (t:=t) (fun s hs => h s (by omega)) (by omega)]
  obtain ⟨c,h1,h2⟩:=h t (by omega)
  rw [show 1000 - t = (1000 - (t + 1)) + 1 by omega,gthN,h1]
  simp only [h2]
theorem gth_ret {K t : Nat} {f : List Zq.SX} {c : List Nat} {d : ByteArray} (h : Fl K f t) (ht : t < 1000) (h1 : ith K f.length t = some c) (h2 : gaV (pick f c) = some d) : gth K f = some d:=by
 rw [fl_gth h (by omega),show 1000 - t = (1000 - t - 1) + 1 by omega,gthN,h1]
 simp only [h2]
theorem gth_none {K t : Nat} {f : List Zq.SX} (h : Fl K f t) (ht : t ≤ 1000) (h1 : ith K f.length t = none ∨ t = 1000) : gth K f = none:=by
 rw [fl_gth h ht]
 rcases h1 with h1 | h1
 ·cases hm : 1000 - t with
  | zero => rw [gthN]
  | succ m => rw [gthN,h1]
 ·subst h1; rw [gthN]
theorem Fl.snoc {K t : Nat} {f : List Zq.SX} {c : List Nat} (h : Fl K f t) (h1 : ith K f.length t = some c) (h2 : gaV (pick f c) = none) : Fl K f (t + 1):=fun s hs => by
 by_cases e : s < t
 ·exact h s e
 ·obtain rfl : s = t:=by omega
  exact ⟨c,h1,h2⟩
/-! ### Good shards,families -/
open Classical in
noncomputable def gdX (K M : Nat) (i : Nat) (x : RR) : Option Zq.SX :=
 if x.c = 0∧Zq.decOK x.d.data.toList∧(Zq.decX x.d.data.toList).k = K∧(Zq.decX x.d.data.toList).m = M∧(Zq.decX x.d.data.toList).i = i then some (Zq.decX x.d.data.toList) else none
noncomputable def gdL (K M : Nat) (A : List RR) : List Zq.SX:=(List.range A.length).filterMap fun i => (A[i]?).bind (gdX K M i)
theorem gdL_snoc (K M : Nat) (A : List RR) (x : RR) : gdL K M (A ++ [x]) = gdL K M A ++ (gdX K M A.length x).toList:=by
 rw [gdL,gdL,List.length_append,List.length_singleton,List.range_succ,List.filterMap_append]
 congr 1
 ·have : ∀ (l : List Nat),(∀ i ∈ l,i < A.length)→l.filterMap (fun i => ((A ++ [x])[i]?).bind (gdX K M i)) = l.filterMap (fun i => (A[i]?).bind (gdX K M i)):=by
   intro l
   induction l with
   | nil => intro _; rfl
   | cons j r ih =>
    intro h
    rw [List.filterMap_cons,List.filterMap_cons,ih fun i hi => h i (by simp [hi]),List.getElem?_append_left (h j (by simp))]
  exact this _ fun i hi => List.mem_range.1 hi
 ·rw [List.filterMap_cons]
  have : (A ++ [x])[A.length]? = some x:=by simp
  rw [this]
  simp only [Option.bind_some]
  cases gdX K M A.length x <;> rfl
def ofF (f : List Zq.SX) (x : Zq.SX) : Prop:=(lx f 0).long = x.long∧(lx f 0).id = x.id
open Classical in
noncomputable def addF : List (List Zq.SX)→Zq.SX→List (List Zq.SX)
 | [],x => [[x]]
 | f :: r,x => if ofF f x then (f ++ [x]) :: r else f :: addF r x
noncomputable def famL (L : List Zq.SX) : List (List Zq.SX):=L.foldl addF []
theorem famL_snoc (L : List Zq.SX) (x : Zq.SX) : famL (L ++ [x]) = addF (famL L) x:=by rw [famL,List.foldl_append]; rfl
theorem addF_yes {x : Zq.SX} : ∀ {l : List (List Zq.SX)} {p : Nat} {f : List Zq.SX},l[p]? = some f→ofF f x→(∀ q g,q < p→l[q]? = some g→¬ ofF g x)→addF l x = l.set p (f ++ [x])
 | [],p,f,h,_,_ => by simp at h
 | g :: r,0,f,h,hf,_ => by
  simp at h; subst h
  rw [addF,if_pos hf]; rfl
 | g :: r,p + 1,f,h,hf,hn => by
  have h0:=hn 0 g (by omega) rfl
  rw [addF,if_neg h0,List.set_cons_succ,addF_yes (l:=r) (by simpa using h) hf fun q g' hq hg => hn (q + 1) g' (by omega) (by simpa using hg)]
theorem addF_no {x : Zq.SX} : ∀ {l : List (List Zq.SX)},(∀ g ∈ l,¬ ofF g x)→addF l x = l ++ [[x]]
 | [],_ => rfl
 | g :: r,hn => by rw [addF,if_neg (hn g (by simp)),addF_no (l:=r) fun g' hg => hn g' (by simp [hg])]; rfl
structure FA (l : List (List Zq.SX)) : Prop where
 ne : ∀ f ∈ l,f ≠ []
 ap : ∀ (p q : Nat) (f g : List Zq.SX),l[p]? = some f→l[q]? = some g→p ≠ q→¬ ofF f (lx g 0)
theorem lx_app {f : List Zq.SX} (h : f ≠ []) (x : Zq.SX) : lx (f ++ [x]) 0 = lx f 0:=by
 cases f with
 | nil => exact absurd rfl h
 | cons y r => rfl
theorem ofF_symm {f g : List Zq.SX} : ofF f (lx g 0)→ofF g (lx f 0):=fun h => ⟨h.1.symm,h.2.symm⟩
theorem FA.add {l : List (List Zq.SX)} (h : FA l) (x : Zq.SX) : FA (addF l x):=by
 by_cases hx : ∃ (p : Nat) (f : List Zq.SX),l[p]? = some f∧ofF f x
 ·obtain ⟨p,f,hp,hf⟩:=hx
  have hu : ∀ (q : Nat) (g : List Zq.SX),l[q]? = some g→ofF g x→q = p:=fun q g hq hg => by
   refine Classical.byContradiction fun hne => h.ap q p g f hq hp hne ⟨?_,?_⟩
   ·rw [hg.1,hf.1]
   ·rw [hg.2,hf.2]
  have hpl : p < l.length:=(List.getElem?_eq_some_iff.1 hp).1
  have e:=addF_yes hp hf fun q g hq hg hof => by have:=hu q g hg hof; omega
  rw [e]
  have hfn:=h.ne f (List.mem_of_getElem? hp)
  have hat : ∀ (q : Nat) (g : List Zq.SX),(l.set p (f ++ [x]))[q]? = some g→∃ g',l[q]? = some g'∧lx g 0 = lx g' 0:=fun q g hg => by
   rw [List.getElem?_set] at hg
   by_cases e : p = q
   ·subst e
    rw [if_pos rfl,if_pos hpl] at hg
    cases hg
    exact ⟨f,hp,lx_app hfn x⟩
   ·rw [if_neg e] at hg; exact ⟨g,hg,rfl⟩
  refine ⟨fun g hg => ?_,fun q1 q2 g1 g2 h1 h2 hne hof => ?_⟩
  ·rcases List.mem_or_eq_of_mem_set hg with hg | hg
   ·exact h.ne g hg
   ·rw [hg]; simp
  ·obtain ⟨k1,a1,b1⟩:=hat q1 g1 h1
   obtain ⟨k2,a2,b2⟩:=hat q2 g2 h2
   rw [ofF,b1,b2] at hof
   exact h.ap q1 q2 k1 k2 a1 a2 hne hof
 ·have hno : ∀ g ∈ l,¬ ofF g x:=fun g hg hof => by
   obtain ⟨p,hp⟩:=List.mem_iff_getElem?.1 hg
   exact hx ⟨p,g,hp,hof⟩
  rw [addF_no hno]
  refine ⟨fun g hg => ?_,fun q1 q2 g1 g2 h1 h2 hne hof => ?_⟩
  ·rcases List.mem_append.1 hg with hg | hg
   ·exact h.ne g hg
   ·simp at hg; subst hg; simp
  ·have cs : ∀ (q : Nat) (g : List Zq.SX),(l ++ [[x]])[q]? = some g→(l[q]? = some g) ∨ (q = l.length∧g = [x]):=fun q g hg => by
    by_cases hq : q < l.length
    ·rw [List.getElem?_append_left hq] at hg; exact .inl hg
    ·rw [List.getElem?_append_right (by omega)] at hg
     have : q - l.length = 0:=by have:=(List.getElem?_eq_some_iff.1 hg).1; simp at this; omega
     rw [this] at hg
     simp at hg
     exact .inr ⟨by omega,hg.symm⟩
   rcases cs q1 g1 h1 with k1 | ⟨k1,rfl⟩ <;> rcases cs q2 g2 h2 with k2 | ⟨k2,rfl⟩
   ·exact h.ap q1 q2 g1 g2 k1 k2 hne hof
   ·exact hno g1 (List.mem_of_getElem? k1) hof
   ·exact hno g2 (List.mem_of_getElem? k2) (ofF_symm (f:=[x]) hof)
   ·omega
theorem famL_fa (L : List Zq.SX) : FA (famL L):=by
 have : ∀ (L : List Zq.SX) (l : List (List Zq.SX)),FA l→FA (L.foldl addF l):=by
  intro L
  induction L with
  | nil => intro l h; exact h
  | cons x r ih => intro l h; exact ih _ (h.add x)
 exact this L [] ⟨fun f hf => by simp at hf,fun p q f g hf => by simp at hf⟩
structure FV where
 d : ByteArray
 had : List Zq.SX
 e : Int
open Classical in
noncomputable def fndL (K : Nat) (want : ByteArray) : List (List Zq.SX)→Option (ByteArray × List Zq.SX)
 | [] => none
 | f :: r => if want ≠ ⟨#[]⟩∧(lx f 0).id ≠ want then fndL K want r else match gth K f with
  | some d => some (d,f)
  | none => fndL K want r
def cntC (c : Int) (A : List RR) : Nat:=(A.filter fun x => x.c = c).length
def awy : List RR→Int
 | [] => 0
 | x :: r => if x.c = 0 ∨ x.c = 5 then awy r else x.c
def rfs (M : Nat) (A : List RR) : Int:=if awy A ≠ 0∧cntC 5 A + cntC 0 A ≤ M then awy A else if 0 < cntC 0 A then 100 else 5
noncomputable def fnd (K M : Nat) (want : ByteArray) (A : List RR) : FV :=
 match fndL K want (famL (gdL K M A)) with
 | some (d,f) => ⟨d,f,0⟩
 | none => ⟨⟨#[]⟩,[],rfs M A⟩
end Go.Proofs.YtagijldedngcoaaGreatDoor

namespace Go.Proofs.YtagijldedngcoaaGreatDoor
open Go.RowKit Go.Lib Go.Maps
def c1 (c : Int) : List Value:=[.int .i64 c]
theorem c1_len (c : Int) : (c1 c).length = 1:=rfl
theorem c1_one (c : Int) : ∀ u ∈ c1 c,u.oneCell' = true:=by intro u hu; simp [c1] at hu; subst hu; rfl
theorem Tryz.infoC : (Tryz.prog.info? 33).map (fun i => (i.zero,i.size,i.bytes)) = some (some (.int .i64 0),1,8):=by kernel_rfl
def frs (k : List Int) : List Int→Int
 | [] => 0
 | c :: r => if c = 0 ∨ c ∈ k then frs k r else c
def gds : List Int→Nat
 | [] => 0
 | c :: r => (if c = 0 then 1 else 0) + gds r
theorem gds_le : ∀ l : List Int,gds l ≤ l.length
 | [] => Nat.le_refl _
 | c :: r => by have:=gds_le r; rw [gds,List.length_cons]; split <;> omega
theorem gds_snoc : ∀ (l : List Int) (c : Int),gds (l ++ [c]) = gds l + if c = 0 then 1 else 0
 | [],c => by simp [gds]
 | d :: r,c => by rw [List.cons_append,gds,gds,gds_snoc r]; omega
theorem drop_at {α : Type} {l : List α} {j : Nat} {x : α} (h : l[j]? = some x) : l.drop j = x :: l.drop (j + 1):=by
 obtain ⟨h1,rfl⟩:=List.getElem?_eq_some_iff.1 h
 exact List.drop_eq_getElem_cons h1
theorem frs_at {k l : List Int} {j : Nat} {c : Int} (h : l[j]? = some c) : frs k (l.drop j) = if c = 0 ∨ c ∈ k then frs k (l.drop (j + 1)) else c:=by rw [drop_at h,frs]
section
variable {w : World} {lv kv : Value} {l k : List Int} {r r' : Nat→Prop}
theorem LS.at1 {α : Type} {f : α→List Value} {a : Option Addr} {n c : Nat} {L : List α} (h : LS f 1 r w (.slice a n c) L) {j : Nat} {x : α} {u : Value} (hx : L[j]? = some x) (hu : (f x)[0]? = some u) : ∃ g o,a = some ⟨g,o,none⟩∧g < w.heap.size∧w.cell? ⟨g,o + j,none⟩ = some u:=by
 obtain ⟨a',c',e,_,h2 | ⟨g,o,ea,_,hg,hG⟩⟩:=h
 ·rw [h2] at hx; simp at hx
 ·simp only [Value.slice.injEq] at e
  obtain ⟨rfl,rfl,rfl⟩:=e
  have:=hG j x hx 0 u hu
  rw [Nat.mul_one,Nat.add_zero] at this
  exact ⟨g,o,ea,hg,this⟩
end
section
variable {w w' : World} {v : Value} {l : List Int} {B : Nat}
theorem cpush (h : OW c1 1 33 B v l w) (c : Int) (hb : (l.length + 1) * 8 ≤ 140737488355328) (hB : B ≤ w.heap.size) :
  ∃ v' w',(Builtin.append_ #[166,166] 166 #[v,.slice (some ⟨w.heap.size,0,none⟩) 1 1]).run Tryz.prog (w.alloc (.cells #[.int .i64 c] 33)) = .ok v' w'∧OW c1 1 33 B v' (l ++ [c]) w'∧Gs (fun i => v.ownBlock = some i) w w':=by
 have hb0 : Below w.heap.size w (w.alloc (.cells #[.int .i64 c] 33)):=(Below.refl _ _).alloc (Nat.le_refl _) _
 obtain ⟨v',w',h1,h2,h3,h4⟩:=OW.app (ST:=166) (m:=[c]) (r:=fun _ => True) c1_len (by decide) (fun x _ => c1_one x) Tryz.underlying166 Tryz.infoC rfl (h.keep hb0) (LS.one c 33 w c1 1 _ trivial) (by simpa using hb) (by simp; omega) (by simp; omega)
 refine ⟨v',w',h1,h2,⟨h3.os.trans hb0.os,h3.tape.trans hb0.tape,h3.output.trans hb0.output,Nat.le_trans hb0.size h3.size,fun i hi hn => ?_⟩⟩
 exact (h3.block i (Nat.lt_of_lt_of_le hi hb0.size) (fun e => hn e.symm)).trans (hb0.block i hi)
end
def pq (n : ByteArray) (ds : List ByteArray) : List QT:=ds.mapIdx fun i d => ⟨(i : Int),1,n,d⟩
theorem pq_snoc (n : ByteArray) (ds : List ByteArray) (d : ByteArray) : pq n (ds ++ [d]) = pq n ds ++ [⟨(ds.length : Int),1,n,d⟩]:=by rw [pq,List.mapIdx_concat]; rfl
theorem pq_len (n : ByteArray) (ds : List ByteArray) : (pq n ds).length = ds.length:=by simp [pq]
def aq (k : Int) (n d : ByteArray) (m : Nat) : List QT:=(List.range m).map fun i : Nat => ⟨(i : Int),k,n,d⟩
theorem aq_snoc (k : Int) (n d : ByteArray) (m : Nat) : aq k n d (m + 1) = aq k n d m ++ [⟨(m : Int),k,n,d⟩]:=by rw [aq,List.range_succ,List.map_append]; rfl
theorem aq_len (k : Int) (n d : ByteArray) (m : Nat) : (aq k n d m).length = m:=by simp [aq]
end Go.Proofs.YtagijldedngcoaaGreatDoor

namespace Go.Proofs.YtagijldedngcoaaGreatDoor
open Go.RowKit Go.Lib Go.Maps
section
variable {w w' : World} {lv kv av : Value} {l k : List Int} {r r' : Nat→Prop} {X : List (RR × Value)}
theorem mayBe_yes {n : Int} (h1 : 1 ≤ n) (h2 : n ≤ 255) : Calls Tryz.prog 207 #[.int .i64 n] w fun e w' => e = .returned (.bool true)∧w' = w:=by
 go_enter Tryz.func207,Tryz.ntmps207
 go_wp2
 go_ret
 exact ⟨rfl,rfl⟩
theorem mayBe_no {n : Int} (h : n < 1 ∨ 255 < n) : Calls Tryz.prog 207 #[.int .i64 n] w fun e w' => e = .returned (.bool false)∧w' = w:=by
 rcases h with h | h
 ·have h1 : ¬ 1 ≤ n:=by omega
  go_enter Tryz.func207,Tryz.ntmps207
  go_wp2
  go_ret
  exact ⟨rfl,rfl⟩
 ·have h1 : 1 ≤ n:=by omega
  have h2 : ¬ n ≤ 255:=by omega
  go_enter Tryz.func207,Tryz.ntmps207
  go_wp2
  go_ret
  exact ⟨rfl,rfl⟩
theorem index_any (hk : LS c1 1 r w kv k) (x : Int) (hn : k.length ≤ 4611686018427387904) :
  Calls Tryz.prog 165 #[kv,.int .i64 x] w fun e w' => ∃ q : Int,e = .returned (.int .i64 q)∧(0 ≤ q ↔ x ∈ k)∧w' = w:=by
 obtain ⟨a,c,e⟩:=hk.shp
 subst e
 have HC : Hid (∀ j y,k[j]? = some y→∃ g o,a = some ⟨g,o,none⟩∧w.cell? ⟨g,o + j,none⟩ = some (.int .i64 y)):=fun j y hy => by
  obtain ⟨g,o,h1,_,h2⟩:=hk.at1 hy rfl
  exact ⟨g,o,h1,h2⟩
 obtain ⟨m,hm⟩ : ∃ m,m = k.length:=⟨_,rfl⟩
 rw [← hm] at hn ⊢
 have HM:=hide hm
 clear hm hk
 go_enter Tryz.func165,Tryz.ntmps165
 go_wp2
 go_loopw [8] (fun i wr => ∃ j : Nat,j ≤ m∧i = .int .i64 j∧x ∉ k.take j∧wr = w) (fun i _ => m - (intOf i).toNat)
 case atStart => exact ⟨0,Nat.zero_le _,rfl,by simp,rfl⟩
 case round =>
  obtain ⟨j,hj,rfl,hx0,rfl⟩:=hrel
  by_cases hlt : j < m
  ·have b1 : (j : Int) < (m : Int):=by omega
   have b0 : (0 : Int) ≤ (j : Int):=by omega
   obtain ⟨y,hy⟩ : ∃ y,k[j]? = some y:=⟨_,List.getElem?_eq_getElem (by rw [← HM.out]; exact hlt)⟩
   obtain ⟨g,o,rfl,z0⟩:=HC.out j y hy
   by_cases h0 : x = y
   ·have HE : Hid (x ∈ k):=by show x ∈ k; rw [h0]; exact List.mem_of_getElem? hy
    clear hx0 hy
    go_wp2
    go_ret
    exact ⟨j,rfl,⟨fun _ => HE.out,fun _ => by omega⟩,rfl⟩
   ·have HE : Hid (x ∉ k.take (j + 1)):=by show x ∉ k.take (j + 1); rw [take_snoc_at hy]; simp [hx0,h0]
    clear hx0 hy
    go_wp2
    exact ⟨⟨j + 1,by omega,by go_num,HE.out,trivial⟩,by simp [intOf]; omega⟩
  ·obtain rfl : j = m:=by omega
   have e : k.take j = k:=List.take_of_length_le (by have:=HM.out; omega)
   rw [e] at hx0
   have HE:=hide hx0
   clear hx0 e
   go_wp2
   go_ret
   exact ⟨-1,rfl,⟨fun h => by omega,fun h => absurd h HE.out⟩,rfl⟩
theorem contains_any (hk : LS c1 1 r w kv k) (x : Int) (hn : k.length ≤ 4611686018427387904) :
  Calls Tryz.prog 119 #[kv,.int .i64 x] w fun e w' => e = .returned (.bool (decide (x ∈ k)))∧w' = w:=by
 have HI:=hide (index_any hk x hn)
 obtain ⟨a,c,e⟩:=hk.shp
 subst e
 clear hk
 by_cases h : x ∈ k
 ·rw [decide_eq_true h]
  have Hh:=hide h
  clear h
  go_enter Tryz.func119,Tryz.ntmps119
  go_wp2_with fail
  refine HI.out.mono ?_
  rintro e w1 ⟨q,rfl,hq,rfl⟩
  have h1 : 0 ≤ q:=hq.2 Hh.out
  clear hq
  go_wp2
  go_ret
  exact ⟨rfl,rfl⟩
 ·rw [decide_eq_false h]
  have Hh:=hide h
  clear h
  go_enter Tryz.func119,Tryz.ntmps119
  go_wp2_with fail
  refine HI.out.mono ?_
  rintro e w1 ⟨q,rfl,hq,rfl⟩
  have h1 : decide (0 ≤ q) = false:=decide_eq_false fun h1 => Hh.out (hq.1 h1)
  clear hq
  go_wp2
  go_ret
  exact ⟨rfl,rfl⟩
theorem first_any (hl : LS c1 1 r w lv l) (hk : LS c1 1 r' w kv k) (hn : l.length ≤ 4611686018427387904) (hn2 : k.length ≤ 4611686018427387904) :
  Calls Tryz.prog 118 #[lv,kv] w fun e w' => e = .returned (.int .i64 (frs k l))∧Below w.heap.size w w':=by
 obtain ⟨a,c,e⟩:=hl.shp
 subst e
 have HC : Hid (∀ j x,l[j]? = some x→∀ wr,Below w.heap.size w wr→∃ g o,a = some ⟨g,o,none⟩∧wr.cell? ⟨g,o + j,none⟩ = some (.int .i64 x)):=fun j x hx wr hb => by
  obtain ⟨g,o,h1,_,h2⟩:=(hl.bel hb).at1 hx rfl
  exact ⟨g,o,h1,h2⟩
 have HK:=hide hk
 obtain ⟨m,hm⟩ : ∃ m,m = l.length:=⟨_,rfl⟩
 rw [← hm] at hn ⊢
 have HM:=hide hm
 clear hm hl hk
 go_enter Tryz.func118,Tryz.ntmps118
 go_wp2
 go_loopw [9] (fun i wr => ∃ j : Nat,j ≤ m∧i = .int .i64 j∧frs k l = frs k (l.drop j)∧Below w.heap.size w wr) (fun i _ => m - (intOf i).toNat)
 case atStart => exact ⟨0,Nat.zero_le _,rfl,by rw [List.drop_zero],Below.refl _ _⟩
 case round =>
  obtain ⟨j,hj,rfl,hf,hB⟩:=hrel
  by_cases hlt : j < m
  ·have b1 : (j : Int) < (m : Int):=by omega
   have b0 : (0 : Int) ≤ (j : Int):=by omega
   obtain ⟨x,hx⟩ : ∃ x,l[j]? = some x:=⟨_,List.getElem?_eq_getElem (by rw [← HM.out]; exact hlt)⟩
   obtain ⟨g,o,rfl,z0⟩:=HC.out j x hx wr hB
   rw [frs_at hx] at hf
   have HF:=hide hf
   have HB:=hide hB
   have HK2:=hide (contains_any (HK.out.bel hB) x hn2)
   clear hf hB hx
   by_cases h0 : x = 0
   ·go_wp2
    exact ⟨⟨j + 1,by omega,by go_num,by rw [HF.out,if_pos (.inl h0)],HB.out⟩,by simp [intOf]; omega⟩
   ·by_cases h1 : x ∈ k
    ·rw [decide_eq_true h1] at HK2
     have H1:=hide h1
     clear h1
     go_wp2_with (go_at_call 119; refine HK2.out.mono ?_; rintro e w1 ⟨rfl,rfl⟩)
     exact ⟨⟨j + 1,by omega,by go_num,by rw [HF.out,if_pos (.inr H1.out)],HB.out⟩,by simp [intOf]; omega⟩
    ·rw [decide_eq_false h1] at HK2
     have H1:=hide h1
     clear h1
     go_wp2_with (go_at_call 119; refine HK2.out.mono ?_; rintro e w1 ⟨rfl,rfl⟩)
     go_ret
     exact ⟨by rw [HF.out,if_neg (fun h => by rcases h with h | h; exact h0 h; exact H1.out h)]; first | rfl | simp,HB.out⟩
  ·obtain rfl : j = m:=by omega
   have e : l.drop j = []:=List.drop_eq_nil_of_le (by have:=HM.out; omega)
   rw [e] at hf
   have HF:=hide hf
   have HB:=hide hB
   clear hf hB
   go_wp2
   go_ret
   exact ⟨by rw [HF.out]; rfl,HB.out⟩
theorem codesOf_any (hL : LS x3 3 r w av X) (hS : ∀ x ∈ X,∃ a n c,x.2 = .slice a n c) (hn : X.length ≤ 1000000) :
  Calls Tryz.prog 209 #[av] w fun e w' => ∃ v,e = .returned v∧OW c1 1 33 w.heap.size v (X.map (·.1.c)) w'∧Below w.heap.size w w':=by
 obtain ⟨a,c,rfl,h1,h2⟩:=hL
 have HC : Hid (∀ j x,X[j]? = some x→∀ wr,Below w.heap.size w wr→∃ g o,a = some ⟨g,o,none⟩∧wr.cell? ⟨g,o + j * 3,none⟩ = some (.int .i64 x.1.c)∧wr.cell? ⟨g,o + j * 3 + 1,none⟩ = some (.string x.1.d)∧wr.cell? ⟨g,o + j * 3 + 2,none⟩ = some x.2):=fun j x hx wr hb => by
  rcases h2 with h2 | ⟨g,o,ea,hr,hg,hG⟩
  ·rw [h2] at hx; simp at hx
  ·exact ⟨g,o,ea,(hb.cell (p:=⟨g,o + j * 3,none⟩) hg).trans (hG j x hx 0 _ rfl),(hb.cell (p:=⟨g,o + j * 3 + 1,none⟩) hg).trans (hG j x hx 1 _ rfl),(hb.cell (p:=⟨g,o + j * 3 + 2,none⟩) hg).trans (hG j x hx 2 _ rfl)⟩
 obtain ⟨m,hm⟩ : ∃ m,m = X.length:=⟨_,rfl⟩
 rw [← hm] at hn ⊢
 have HM:=hide hm
 have HS:=hide hS
 clear hm h1 h2 hS
 go_enter Tryz.func209,Tryz.ntmps209
 go_wp2
 go_loopw [3,8] (fun v i wr => ∃ j : Nat,j ≤ m∧i = .int .i64 j∧OW c1 1 33 w.heap.size v ((X.take j).map (·.1.c)) wr∧Below w.heap.size w wr) (fun _ i _ => m - (intOf i).toNat)
 case atStart => exact ⟨0,Nat.zero_le _,rfl,by rw [List.take_zero]; exact OW.nil _ _ _ _ _,Below.refl _ _⟩
 case round =>
  obtain ⟨j,hj,rfl,hO,hB⟩:=hrel
  by_cases hlt : j < m
  ·have b1 : (j : Int) < (m : Int):=by omega
   have b0 : (0 : Int) ≤ (j : Int):=by omega
   obtain ⟨x,hx⟩ : ∃ x,X[j]? = some x:=⟨_,List.getElem?_eq_getElem (by rw [← HM.out]; exact hlt)⟩
   obtain ⟨g,o,rfl,z0,z1,z2⟩:=HC.out j x hx _ hB
   have hsx:=HS.out x (List.mem_of_getElem? hx)
   obtain ⟨xr,xu⟩:=x
   obtain ⟨ua,un,uc,hu⟩:=hsx
   dsimp only at hu z0 z1 z2
   subst hu
   obtain ⟨cc,hcc⟩ : ∃ cc,cc = xr.c:=⟨_,rfl⟩
   obtain ⟨dd,hdd⟩ : ∃ dd,dd = xr.d:=⟨_,rfl⟩
   rw [← hcc] at z0
   rw [← hdd] at z1
   obtain ⟨n5,hn5⟩ : ∃ n5,n5 = wr.heap.size:=⟨_,rfl⟩
   obtain ⟨Zw,hZw⟩ : ∃ Zw,Zw = wr.alloc (.cells #[.int .i64 cc,.string dd,.slice ua un uc] 87):=⟨_,rfl⟩
   have hZB : Below wr.heap.size wr Zw:=by rw [hZw]; exact (Below.refl _ _).alloc (Nat.le_refl _) _
   have hblk : Zw.heap[n5]? = some (.cells #[.int .i64 cc,.string dd,.slice ua un uc] 87 (0,0)):=by rw [hZw,hn5]; exact heap_alloc_new wr _
   have k0 : Zw.cell? ⟨n5,0,none⟩ = some (.int .i64 cc):=by simp [World.cell?,hblk]
   obtain ⟨v2,w2,hr1,hO2,hG2⟩:=cpush (hO.keep hZB) cc (by rw [List.length_map,List.length_take]; omega) (Nat.le_trans hB.size hZB.size)
   have HE : Hid (OW c1 1 33 w.heap.size v2 ((X.take (j + 1)).map (·.1.c)) w2∧Below w.heap.size w w2):=by
    refine ⟨?_,hG2.below (hB.trans (hZB.mono hB.size)) (Nat.le_trans hB.size hZB.size) fun i e => (hO.lt i e).1⟩
    rw [take_snoc_at hx,List.map_append]
    show OW c1 1 33 w.heap.size v2 ((X.take j).map (·.1.c) ++ [xr.c]) w2
    rw [← hcc]
    exact hO2
   have HZw:=hide hZw
   have Hn5:=hide hn5
   clear hO hB hO2 hG2 hZw hn5 hZB hblk hcc hdd hx
   go_upto_region 5 with fail
   rw [← HZw.out,← Hn5.out]
   go_wp2_with (at_builtin; refine Lib.wpList_append_run _ rfl _ _ _ _ rfl _ _ rfl rfl _ _ hr1 ?_)
   exact ⟨⟨j + 1,by omega,by go_num,HE.out⟩,by simp [intOf]; omega⟩
  ·obtain rfl : j = m:=by omega
   have e : X.take j = X:=List.take_of_length_le (by have:=HM.out; omega)
   rw [e] at hO
   have HE:=hide (And.intro hO hB)
   clear hO hB
   go_wp2
   go_ret
   exact ⟨_,rfl,HE.out⟩
end
end Go.Proofs.YtagijldedngcoaaGreatDoor

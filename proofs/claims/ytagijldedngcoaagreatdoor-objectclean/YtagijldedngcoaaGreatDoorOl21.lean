/-
  Contracts of the program and of the statements (part 21 of 28).
-/
import Derived.Test.YtagijldedngcoaaGreatDoorOl20
import Derived.Deep.DeepCutAuto
import Derived.Deep.CutBlock
set_option maxRecDepth 100000
set_option maxHeartbeats 3200000

namespace Go.Proofs.YtagijldedngcoaaGreatDoor
open Go.RowKit Go.Lib
theorem wpList_lookup_run {ops : Array Oper} {rest : List Oper} {op : Oper} {a : Act} {w w1 : World} {Q : Exit→Act→World→Prop} (hgd : op.guard = none) (ty : TypeId) (x y : Operand) (b : Bool) (ho : op.op = .lookup ty x y b)
  (p v u : Value) (hx : a.eval x = p) (hy : a.eval y = v) (hr : (Instr.lookup ty p v b).run Tryz.prog w = .ok u w1)
  (h : wpList Tryz.prog ops Q rest (a.put op.dst u) w1) : wpList Tryz.prog ops Q (op :: rest) a w :=
 wpList_plain hgd fun _ hK => by
  unfold Oper.wp execOp
  simp only [ho,hx,hy,Sem.run_bind,Sem.run_pure,Result.andThen_ok,hr]
  exact hK _ _ h
/-! ### How great families are -/
theorem addF_len (x : Zq.SX) : ∀ l : List (List Zq.SX),(addF l x).length ≤ l.length + 1
 | [] => by simp [addF]
 | f :: r => by
  rw [addF]
  split
  ·simp
  ·have:=addF_len x r; simp; omega
theorem addF_mem (x : Zq.SX) : ∀ {l : List (List Zq.SX)} {g : List Zq.SX},g ∈ addF l x→g ∈ l ∨ g = [x] ∨ ∃ f ∈ l,g = f ++ [x]
 | [],g,h => by simp [addF] at h; exact .inr (.inl h)
 | f :: r,g,h => by
  rw [addF] at h
  split at h
  ·rcases List.mem_cons.1 h with h | h
   ·exact .inr (.inr ⟨f,by simp,h⟩)
   ·exact .inl (by simp [h])
  ·rcases List.mem_cons.1 h with h | h
   ·exact .inl (by simp [h])
   ·rcases addF_mem x h with h | h | ⟨f',h1,h2⟩
    ·exact .inl (by simp [h])
    ·exact .inr (.inl h)
    ·exact .inr (.inr ⟨f',by simp [h1],h2⟩)
theorem famL_bd : ∀ (n : Nat) (L : List Zq.SX),L.length = n→(famL L).length ≤ L.length∧∀ f ∈ famL L,f.length ≤ L.length∧∀ y ∈ f,y ∈ L
 | 0,L,h => by
  have:=List.length_eq_zero_iff.1 h
  subst this
  exact ⟨Nat.le_refl _,fun f hf => by simp [famL] at hf⟩
 | n + 1,L,h => by
  obtain ⟨L0,x,rfl⟩ : ∃ L0 x,L = L0 ++ [x]:=⟨L.dropLast,L.getLast (by intro e; rw [e] at h; simp at h),(List.dropLast_concat_getLast _).symm⟩
  have hl : L0.length = n:=by simpa using h
  obtain ⟨h1,h2⟩:=famL_bd n L0 hl
  rw [famL_snoc]
  refine ⟨by have:=addF_len x (famL L0); simp; omega,fun f hf => ?_⟩
  rcases addF_mem x hf with hf | rfl | ⟨g,hg,rfl⟩
  ·have:=h2 f hf
   exact ⟨by simp; omega,fun y hy => by simp [this.2 y hy]⟩
  ·exact ⟨by simp,fun y hy => by simp at hy; simp [hy]⟩
  ·have:=h2 g hg
   refine ⟨by simp; omega,fun y hy => ?_⟩
   rcases List.mem_append.1 hy with hy | hy
   ·simp [this.2 y hy]
   ·simp at hy; simp [hy]
theorem gdX_ok {K M i : Nat} {x : RR} {y : Zq.SX} (h : gdX K M i x = some y) : Zq.okS y∧y.k = K∧y.m = M∧y.i = i:=by
 rw [gdX] at h
 split at h
 ·rename_i hc
  cases h
  exact ⟨hc.2.1.2.1,hc.2.2⟩
 ·cases h
theorem gdL_ok {K M : Nat} {A : List RR} {y : Zq.SX} (h : y ∈ gdL K M A) : Zq.okS y∧y.k = K∧y.m = M:=by
 obtain ⟨i,_,hi⟩:=List.mem_filterMap.1 h
 obtain ⟨x,_,hx⟩:=Option.bind_eq_some_iff.1 hi
 have:=gdX_ok hx
 exact ⟨this.1,this.2.1,this.2.2.1⟩
theorem gdL_len (K M : Nat) (A : List RR) : (gdL K M A).length ≤ A.length:=by
 have:=List.length_filterMap_le (fun i => (A[i]?).bind (gdX K M i)) (List.range A.length)
 rw [List.length_range] at this
 exact this
def Tl (f : Int→ByteArray→Option Nat) (all : List (List Zq.SX)) : Prop:=∀ z d p,f z d = some p ↔ ∃ g,all[p]? = some g∧(lx g 0).long = z∧(lx g 0).id = d
theorem Tl.put {f : Int→ByteArray→Option Nat} {all : List (List Zq.SX)} (h : Tl f all) {p : Nat} {g : List Zq.SX} (hp : all[p]? = some g) (hne : g ≠ []) (x : Zq.SX) : Tl f (all.set p (g ++ [x])):=by
 intro z d q
 rw [h z d q]
 have hpl : p < all.length:=(List.getElem?_eq_some_iff.1 hp).1
 by_cases e : p = q
 ·subst e
  rw [List.getElem?_set_self hpl,hp]
  constructor
  ·rintro ⟨g',e1,h1⟩; cases e1; exact ⟨_,rfl,by rw [lx_app hne]; exact h1⟩
  ·rintro ⟨g',e1,h1⟩; cases e1; rw [lx_app hne] at h1; exact ⟨_,rfl,h1⟩
 ·rw [List.getElem?_set_ne e]
theorem Tl.more {f : Int→ByteArray→Option Nat} {all : List (List Zq.SX)} (h : Tl f all) (x : Zq.SX) (hn : f x.long x.id = none) : Tl (fun y e => if y = x.long∧e = x.id then some all.length else f y e) (all ++ [[x]]):=by
 intro z d q
 by_cases e : z = x.long∧d = x.id
 ·show (if z = x.long∧d = x.id then some all.length else f z d) = some q ↔ _
  rw [if_pos e]
  constructor
  ·intro hq; cases hq
   exact ⟨[x],by simp,e.1.symm,e.2.symm⟩
  ·rintro ⟨g,hg,h1,h2⟩
   rcases snocGet hg with ⟨_,hg⟩ | ⟨hq,rfl⟩
   ·have:=(h z d q).2 ⟨g,hg,h1,h2⟩
    rw [e.1,e.2,hn] at this
    cases this
   ·rw [hq]
 ·show (if z = x.long∧d = x.id then some all.length else f z d) = some q ↔ _
  rw [if_neg e,h z d q]
  constructor
  ·rintro ⟨g,hg,h1⟩
   exact ⟨g,by rw [List.getElem?_append_left (List.getElem?_eq_some_iff.1 hg).1]; exact hg,h1⟩
  ·rintro ⟨g,hg,h1,h2⟩
   rcases snocGet hg with ⟨_,hg⟩ | ⟨_,rfl⟩
   ·exact ⟨g,hg,h1,h2⟩
   ·exact absurd ⟨h1.symm,h2.symm⟩ e
theorem ok_key {y : Zq.SX} (h : Zq.okS y) : 0 ≤ y.long∧y.long ≤ 65536∧y.id.size ≤ 1000000:=⟨h.2.2.1.1,h.2.2.1.2,by have:=h.2.2.2.1; omega⟩
structure FW (w : World) (n0 K M : Nat) (L : List Zq.SX) (j : Nat) (v : Value) (us : List Value) (wr : World) : Prop where
 fm : FM n0 v us (famL L) wr
 mp : ∃ f,MW wr (n0 + 1) j f∧Tl f (famL L)
 kb : wr.heap[n0]? = some (.cells #[.int .i64 (K : Int),.int .i64 (M : Int)] 27 (0,0))
 be : Below w.heap.size w wr
theorem FW.bel {w wr w' : World} {n0 K M j : Nat} {L : List Zq.SX} {v : Value} {us : List Value} (h : FW w n0 K M L j v us wr) (hb : Below wr.heap.size wr w') : FW w n0 K M L j v us w':=by
 obtain ⟨f,h1,h2⟩:=h.mp
 exact ⟨h.fm.bel hb,⟨f,h1.bel hb,h2⟩,(hb.block n0 (lt_of_block h.kb)).trans h.kb,h.be.trans (hb.mono h.be.size)⟩
section
variable {w : World} {K M : Nat} {r : Nat→Prop} {av : Value} {X : List (RR × Value)}
theorem families_any (hL : LS x3 3 r w av X) (hS : ∀ x ∈ X,∃ a n c,x.2 = .slice a n c) (hd : ∀ x ∈ X,x.1.d.size ≤ 1000000) (hn : X.length ≤ 255) :
  Calls Tryz.prog 154 #[.agg #[.int .i64 (K : Int),.int .i64 (M : Int)],av] w fun e w' => ∃ v us,e = .returned v∧FM w.heap.size v us (famL (gdL K M (X.map (·.1)))) w'∧Below w.heap.size w w':=by
 obtain ⟨a,c,hav⟩:=hL.shp
 obtain ⟨n,hnn⟩ : ∃ n,n = X.length:=⟨_,rfl⟩
 rw [← hnn] at hav
 obtain ⟨n0,hn0⟩ : ∃ n0,n0 = w.heap.size:=⟨_,rfl⟩
 obtain ⟨W,hW⟩ : ∃ W,W = (w.alloc (.cells #[.int .i64 (K : Int),.int .i64 (M : Int)] 27)).alloc (.map #[] 0):=⟨_,rfl⟩
 have hB : Below w.heap.size w W:=by rw [hW]; exact ((Below.refl _ _).alloc (Nat.le_refl _) _).alloc (by simp) _
 have k0 : W.heap[n0]? = some (.cells #[.int .i64 (K : Int),.int .i64 (M : Int)] 27 (0,0)):=by
  rw [hW,hn0,Below.heap_alloc _ _ _ (by simp)]; exact heap_alloc_new w _
 have k1 : MW W (n0 + 1) 0 (fun _ _ => none):=by
  have:=MW.made (w.alloc (.cells #[.int .i64 (K : Int),.int .i64 (M : Int)] 27))
  rw [World.size_alloc,← hn0,← hW] at this
  exact this
 have H0 : Hid (FW w n0 K M (gdL K M ((X.take 0).map (·.1))) 0 (.slice none 0 0) [] W):=⟨FM.nil _ _,⟨_,k1,fun z d p => by simp [famL,gdL]⟩,k0,hB⟩
 have HX : Hid (∀ (j : Nat) (x : RR × Value),X[j]? = some x→∀ wr,Below w.heap.size w wr→∃ g o,a = some ⟨g,o,none⟩∧wr.cell? ⟨g,o + j * 3,none⟩ = some (.int .i64 x.1.c)∧wr.cell? ⟨g,o + j * 3 + 1,none⟩ = some (.string x.1.d)∧wr.cell? ⟨g,o + j * 3 + 2,none⟩ = some x.2):=fun j x hx wr hb => by
  obtain ⟨a',c',e,_,h2 | ⟨g,o,ea,_,_,hG⟩⟩:=hL.bel hb
  ·rw [h2] at hx; simp at hx
  ·rw [hav] at e
   simp only [Value.slice.injEq] at e
   refine ⟨g,o,by rw [e.1,ea],hG j x hx 0 _ rfl,hG j x hx 1 _ rfl,hG j x hx 2 _ rfl⟩
 have HW:=hide hW
 have HN0:=hide hn0
 have HS:=hide (And.intro hS (And.intro hd (And.intro hn hnn)))
 have hmm:=@run_makeMap Tryz.prog
 rw [hav]
 clear hL hS hd hn hnn hav hW hn0 hB k0 k1
 go_enter Tryz.func154,Tryz.ntmps154
 go_upto_region 3 with fail
 rw [← HW.out,← HN0.out]
 go_wp2
 go_loopw [5,16] (fun v i wr => ∃ (j : Nat) (us : List Value),j ≤ n∧i = .int .i64 (j : Int)∧FW w n0 K M (gdL K M ((X.take j).map (·.1))) j v us wr) (fun _ i _ => n - (intOf i).toNat)
 case atStart => exact ⟨0,[],Nat.zero_le _,rfl,H0.out⟩
 case round =>
  clear H0
  obtain ⟨j,us,hj,rfl,hF⟩:=hrel
  have hn255 : n ≤ 255:=by have:=HS.out.2.2; omega
  obtain ⟨va,vc,hva⟩:=hF.fm.o.shp
  subst hva
  have HF:=hide hF
  clear hF
  by_cases hlt : j < n
  ·have b1 : (j : Int) < (n : Int):=by omega
   have b0 : (0 : Int) ≤ (j : Int):=by omega
   obtain ⟨hS,hd,hn,hnn⟩:=HS.out
   obtain ⟨x,hx⟩ : ∃ x,X[j]? = some x:=⟨_,List.getElem?_eq_getElem (by omega)⟩
   obtain ⟨g,o,rfl,u0,u1,u2⟩:=HX.out j x hx wr HF.out.be
   obtain ⟨xa,xn,xc,hxs⟩:=hS x (List.mem_of_getElem? hx)
   have hxd:=hd x (List.mem_of_getElem? hx)
   have HTK : Hid ((X.take (j + 1)).map (·.1) = (X.take j).map (·.1) ++ [x.1]):=by
    show (X.take (j + 1)).map (·.1) = _
    rw [take_snoc_at hx,List.map_append]; rfl
   have HTL : Hid (((X.take j).map (·.1)).length = j):=by show ((X.take j).map (·.1)).length = j; rw [List.length_map,List.length_take]; omega
   obtain ⟨V,hV⟩ : ∃ V,V = wr.alloc (.cells #[.int .i64 x.1.c,.string x.1.d,x.2] 87):=⟨_,rfl⟩
   have hBV : Below wr.heap.size wr V:=by rw [hV]; exact (Below.refl _ _).alloc (Nat.le_refl _) _
   have kV : V.heap[wr.heap.size]? = some (.cells #[.int .i64 x.1.c,.string x.1.d,x.2] 87 (0,0)):=by rw [hV]; exact heap_alloc_new wr _
   have hFV:=HF.out.bel hBV
   have HG:=hide (good_any (w:=V) (K:=K) (M:=M) (i:=j) (x:=x.1) hxd ⟨xa,xn,xc,hxs⟩)
   obtain ⟨bx,hbx⟩ : ∃ bx,bx = wr.heap.size:=⟨_,rfl⟩
   rw [← hbx] at kV
   have z0 : V.cell? ⟨bx,0,none⟩ = some (.int .i64 x.1.c):=by simp [World.cell?,kV]
   have z1 : V.cell? ⟨bx,1,none⟩ = some (.string x.1.d):=by simp [World.cell?,kV]
   have z2 : V.cell? ⟨bx,2,none⟩ = some x.2:=by simp [World.cell?,kV]
   have q0 : V.cell? ⟨n0,0,none⟩ = some (.int .i64 (K : Int)):=by simp [World.cell?,hFV.kb]
   have q1 : V.cell? ⟨n0,1,none⟩ = some (.int .i64 (M : Int)):=by simp [World.cell?,hFV.kb]
   have HV:=hide (And.intro hV hbx)
   have HFV:=hide hFV
   rw [hxs] at u2 z2 HG HV
   have HBX:=hide hxs
   clear hV hBV kV hFV hbx hS hd hn hnn hx hxd hxs
   go_upto_region 6 with fail
   rw [← HV.out.1,← HV.out.2]
   go_wp2_with fail
   refine HG.out.mono ?_
   rintro e V1 ⟨y,b,rfl,hy,hB1⟩
   obtain ⟨V2,hV2⟩ : ∃ V2,V2 = V1.alloc (.cells #[.int .i64 y.k,.int .i64 y.m,.int .i64 y.i,.int .i64 y.long,.string y.id,.string y.data] 232):=⟨_,rfl⟩
   have hB2 : Below V1.heap.size V1 V2:=by rw [hV2]; exact (Below.refl _ _).alloc (Nat.le_refl _) _
   have kx : SB6 V2 V1.heap.size y:=by rw [hV2]; exact heap_alloc_new V1 _
   have hF1:=HFV.out.bel hB1
   have hF2:=hF1.bel hB2
   have HLT : Hid (∀ (i : Nat) (u : Value) (f : List Zq.SX),us[i]? = some u→(famL (gdL K M ((X.take j).map (·.1))))[i]? = some f→∀ b,u.ownBlock = some b→b < V1.heap.size):=fun i u f hu hf b hb => ((hF1.fm.e i u f hu hf).lt b hb).2
   clear hF1
   obtain ⟨b9,hb9⟩ : ∃ b9,b9 = V1.heap.size:=⟨_,rfl⟩
   rw [← hb9] at kx
   have HV2:=hide (And.intro hV2 hb9)
   have HF2:=hide hF2
   have HKX:=hide kx
   have hgd : gdL K M ((X.take (j + 1)).map (·.1)) = gdL K M ((X.take j).map (·.1)) ++ (gdX K M j x.1).toList:=by rw [HTK.out,gdL_snoc,HTL.out]
   have HGD:=hide hgd
   clear hV2 hB2 kx hF2 hb9 hgd hB1 HFV HV HG HF u0 u1 u2 z0 z1 z2 q0 q1
   rcases hy with ⟨rfl,hy⟩ | ⟨rfl,hy⟩
   ·have hok:=gdX_ok hy
    obtain ⟨kz0,kz1,kz2⟩:=ok_key hok.1
    have HGF : Hid (gdL K M ((X.take (j + 1)).map (·.1)) = gdL K M ((X.take j).map (·.1)) ++ [y]):=by
     show gdL K M ((X.take (j + 1)).map (·.1)) = _
     rw [HGD.out,hy]; rfl
    obtain ⟨L,hL⟩ : ∃ L,L = gdL K M ((X.take j).map (·.1)):=⟨_,rfl⟩
    rw [← hL] at HGF HF2 HLT
    rw [← HV2.out.2] at HLT
    have hLl : L.length ≤ j:=by
     rw [hL]
     have:=gdL_len K M ((X.take j).map (·.1))
     have h2:=HTL.out
     omega
    obtain ⟨hb1,hb2⟩:=famL_bd _ L rfl
    have hFA:=famL_fa L
    obtain ⟨f,m1,m2⟩:=HF2.out.mp
    have hlook:=m1.look kz0 kz1 kz2
    have d3:=HKX.out.cell (j:=3) rfl
    have d4:=HKX.out.cell (j:=4) rfl
    have HUL:=hide HF2.out.fm.l
    have HM:=hide (And.intro m1 m2)
    have HFA:=hide (And.intro hFA (And.intro hb1 (And.intro hb2 hLl)))
    have HKZ:=hide (And.intro kz0 (And.intro kz1 kz2))
    clear hy HGD hL hLl hb1 hb2 hFA m1 m2 kz0 kz1 kz2 hok HTK HTL
    cases hf : f y.long y.id with
    | some P =>
     rw [hf] at hlook
     simp only [Option.getD_some,Option.isSome_some] at hlook
     obtain ⟨g0,hg0,hk1,hk2⟩:=(HM.out.2 y.long y.id P).1 hf
     obtain ⟨hFA,hb1,hb2,hLl⟩:=HFA.out
     have hgne:=hFA.ne g0 (List.mem_of_getElem? hg0)
     have HADD : Hid (famL (L ++ [y]) = (famL L).set P (g0 ++ [y])):=by
      show famL (L ++ [y]) = _
      rw [famL_snoc]
      exact addF_yes hg0 ⟨hk1,hk2⟩ fun q g hq hg hof => hFA.ap q P g g0 hg hg0 (by omega) ⟨by rw [hof.1,hk1],by rw [hof.2,hk2]⟩
     obtain ⟨u,g1,c1,hu,hou,hv,hcell⟩:=HF2.out.fm.at_ hg0
     obtain ⟨all1,hall⟩ : ∃ all1,all1 = famL L:=⟨_,rfl⟩
     simp only [Value.slice.injEq,true_and] at hv
     obtain ⟨rfl,rfl⟩:=hv
     obtain ⟨N1,hN1⟩ : ∃ N1,N1 = us.length:=⟨_,rfl⟩
     obtain ⟨us1,hus1⟩ : ∃ us1,us1 = us:=⟨_,rfl⟩
     obtain ⟨Vx,hVx⟩ : ∃ Vx,Vx = V2:=⟨_,rfl⟩
     have hPl : P < us.length:=(List.getElem?_eq_some_iff.1 hu).1
     have HAPT : Hid (u.ownBlock ≠ some g1∧u.ownBlock ≠ some b9):=by
      refine ⟨fun e => ?_,fun e => ?_⟩
      ·obtain ⟨cs,hc⟩:=hou.typ g1 e
       obtain ⟨cs',hc'⟩:=HF2.out.fm.o.typ g1 rfl
       rw [hc] at hc'
       simp at hc'
      ·have:=HLT.out P u g0 hu hg0 b9 e; omega
     have HPS : Hid (∃ a n c,u = .slice a n c):=by obtain ⟨a,c,e⟩:=hou.shp; exact ⟨a,_,c,e⟩
     have HFMx : Hid (FM n0 (.slice (some ⟨g1,0,none⟩) N1 vc) us1 all1 Vx∧Vx.cell? ⟨g1,P,none⟩ = some u):=by
      rw [hN1,hus1,hall,hVx]; exact ⟨HF2.out.fm,hcell⟩
     have HPF : Hid (all1[P]? = some g0∧us1[P]? = some u∧g0.length ≤ 1000∧n0 ≤ Vx.drew.heap.size∧N1 = us1.length):=by
      rw [hall,hus1,hVx]
      exact ⟨hg0,hu,by have:=(hb2 g0 (List.mem_of_getElem? hg0)).1; omega,by show n0 ≤ V2.heap.size; have:=lt_of_block HF2.out.kb; omega,hN1⟩
     have HKX2 : Hid (SB6 Vx b9 y):=by rw [hVx]; exact HKX.out
     have HEND : Hid (∀ (w2 : World) (us2 : List Value),FM n0 (.slice (some ⟨g1,0,none⟩) N1 vc) us2 (all1.set P (g0 ++ [y])) w2→(∀ i,i < Vx.drew.heap.size→(∀ cs,Vx.drew.heap[i]? ≠ some (.cells cs 232 (0,0)))→i ≠ g1→w2.heap[i]? = Vx.drew.heap[i]?)→∀ {w1 : World} {z : Obj},(Vx.drew.alloc z).grownBy w1 u.ownBlock→w1.grownBy w2 (some g1)→FW w n0 K M (gdL K M ((X.take (j + 1)).map (·.1))) (j + 1) (.slice (some ⟨g1,0,none⟩) N1 vc) us2 w2):=by
      intro w2 us2 hFM hfr w1 z hgr1 hgr2
      rw [hall] at hFM
      rw [hVx] at hfr hgr1
      rw [HGF.out]
      obtain ⟨es,clock,hmap⟩:=HM.out.1.isMap
      have hkb:=HF2.out.kb
      obtain ⟨cs',hc'⟩:=HF2.out.fm.o.typ g1 rfl
      have hn0:=HN0.out
      have hbe:=HF2.out.be
      have hbd : Below w.heap.size w V2.drew:=⟨hbe.os,hbe.tape,hbe.output,hbe.size,hbe.block⟩
      have hbz : Below w.heap.size w (V2.drew.alloc z):=hbd.alloc hbd.size _
      have hb1' : Below w.heap.size w w1:=hbz.grown hgr1 hbz.size (fun k hk => by have:=(hou.lt k hk).1; omega)
      refine ⟨by rw [HADD.out]; exact hFM,⟨f,?_,by rw [HADD.out]; exact HM.out.2.put hg0 hgne y⟩,?_,hb1'.grown hgr2 hb1'.size (fun k hk => by cases hk; have:=(HF2.out.fm.o.lt g1 rfl).1; omega)⟩
      ·refine (HM.out.1.kb (hfr (n0 + 1) (lt_of_block' hmap) (fun cs h => ?_) (fun e => ?_))).up (by omega)
       ·have : V2.heap[n0 + 1]? = some (.cells cs 232 (0,0)):=h
        rw [hmap] at this; cases this
       ·rw [← e,hmap] at hc'; cases hc'
      ·refine (hfr n0 (lt_of_block hkb) (fun cs h => ?_) (fun e => ?_)).trans hkb
       ·have : V2.heap[n0]? = some (.cells cs 232 (0,0)):=h
        rw [hkb] at this; simp at this
       ·rw [← e,hkb] at hc'; simp at hc'
     rw [← hN1]
     have HN1:=hide hN1
     have hPN : P < N1:=by omega
     clear hf hg0 hk1 hk2 hFA hb1 hb2 hLl hgne hu hou hcell hall hus1 hPl hN1
     go_upto_region 7 with fail
     rw [← HV2.out.1,← HV2.out.2,← hVx]
     rw [← hVx] at hlook d3 d4
     clear hVx
     go_wp2_with (refine wpList_lookup_run rfl 274 _ _ _ rfl _ _ _ rfl rfl hlook ?_)
     have hFMd : FM n0 (.slice (some ⟨g1,0,none⟩) N1 vc) us1 all1 Vx.drew:=HFMx.out.1.kb fun _ _ _ _ _ => rfl
     obtain ⟨u',w1,w2,hr1,hsh,hr2,hFM2,hfr,hgr1,hgr2⟩:=hFMd.put HPF.out.1 HPF.out.2.1 y HPF.out.2.2.1 HPF.out.2.2.2.1 (by rw [HPF.out.2.2.2.2])
     obtain ⟨ua',un',uc',rfl⟩:=hsh
     have HS0 : Hid (Vx.drew.cell? ⟨g1,P,none⟩ = some u∧Vx.drew.cell? ⟨b9,0,none⟩ = some (.int .i64 y.k)∧Vx.drew.cell? ⟨b9,1,none⟩ = some (.int .i64 y.m)∧Vx.drew.cell? ⟨b9,2,none⟩ = some (.int .i64 y.i)∧Vx.drew.cell? ⟨b9,3,none⟩ = some (.int .i64 y.long)∧Vx.drew.cell? ⟨b9,4,none⟩ = some (.string y.id)∧Vx.drew.cell? ⟨b9,5,none⟩ = some (.string y.data)):=⟨HFMx.out.2,HKX2.out.cell (j:=0) rfl,HKX2.out.cell (j:=1) rfl,HKX2.out.cell (j:=2) rfl,HKX2.out.cell (j:=3) rfl,HKX2.out.cell (j:=4) rfl,HKX2.out.cell (j:=5) rfl⟩
     have HSA : Hid (∀ o,(Vx.drew.alloc o).cell? ⟨g1,P,none⟩ = some u∧(Vx.drew.alloc o).cell? ⟨b9,0,none⟩ = some (.int .i64 y.k)∧(Vx.drew.alloc o).cell? ⟨b9,1,none⟩ = some (.int .i64 y.m)∧(Vx.drew.alloc o).cell? ⟨b9,2,none⟩ = some (.int .i64 y.i)∧(Vx.drew.alloc o).cell? ⟨b9,3,none⟩ = some (.int .i64 y.long)∧(Vx.drew.alloc o).cell? ⟨b9,4,none⟩ = some (.string y.id)∧(Vx.drew.alloc o).cell? ⟨b9,5,none⟩ = some (.string y.data)):=fun o => by
      have h9 : Below Vx.drew.heap.size Vx.drew (Vx.drew.alloc o):=(Below.refl _ _).alloc (Nat.le_refl _) _
      have kx9 : SB6 (Vx.drew.alloc o) b9 y:=(h9.block b9 (lt_of_block HKX2.out)).trans HKX2.out
      exact ⟨by have:=h9.cell (p:=⟨g1,P,none⟩) (World.block_lt_of_cell? Vx.drew _ HS0.out.1); rw [this]; exact HS0.out.1,kx9.cell (j:=0) rfl,kx9.cell (j:=1) rfl,kx9.cell (j:=2) rfl,kx9.cell (j:=3) rfl,kx9.cell (j:=4) rfl,kx9.cell (j:=5) rfl⟩
     have HEN:=hide (HEND.out w2 _ hFM2 hfr hgr1 hgr2)
     have HS1 : Hid (w1.cell? ⟨g1,P,none⟩ = some u∧w1.cell? ⟨b9,0,none⟩ = some (.int .i64 y.k)∧w1.cell? ⟨b9,1,none⟩ = some (.int .i64 y.m)∧w1.cell? ⟨b9,2,none⟩ = some (.int .i64 y.i)∧w1.cell? ⟨b9,3,none⟩ = some (.int .i64 y.long)∧w1.cell? ⟨b9,4,none⟩ = some (.string y.id)∧w1.cell? ⟨b9,5,none⟩ = some (.string y.data)):=by
      have hz:=HSA.out (.cells #[.int .i64 y.k,.int .i64 y.m,.int .i64 y.i,.int .i64 y.long,.string y.id,.string y.data] 232)
      have hc : ∀ (bb jj : Nat) (vv : Value),bb < Vx.drew.heap.size→u.ownBlock ≠ some bb→(Vx.drew.alloc (.cells #[.int .i64 y.k,.int .i64 y.m,.int .i64 y.i,.int .i64 y.long,.string y.id,.string y.data] 232)).cell? ⟨bb,jj,none⟩ = some vv→w1.cell? ⟨bb,jj,none⟩ = some vv:=fun bb jj vv h1 h2 h3 => by
       have:=hgr1.block bb (by rw [World.size_alloc]; omega) (fun e => h2 e.symm)
       simp only [World.cell?,this] at h3 ⊢
       exact h3
      have n1:=HAPT.out.1
      have n2:=HAPT.out.2
      have l1 : g1 < Vx.drew.heap.size:=World.block_lt_of_cell? Vx.drew _ HS0.out.1
      have l2 : b9 < Vx.drew.heap.size:=lt_of_block HKX2.out
      exact ⟨hc _ _ _ l1 n1 hz.1,hc _ _ _ l2 n2 hz.2.1,hc _ _ _ l2 n2 hz.2.2.1,hc _ _ _ l2 n2 hz.2.2.2.1,hc _ _ _ l2 n2 hz.2.2.2.2.1,hc _ _ _ l2 n2 hz.2.2.2.2.2.1,hc _ _ _ l2 n2 hz.2.2.2.2.2.2⟩
     have c0 : (0 : Int) ≤ (P : Int):=by omega
     have c9 : (P : Int) < (N1 : Int):=by omega
     obtain ⟨ua,un,uc,hua⟩:=HPS.out
     rw [hua] at hr1 HS0 HS1 HSA
     clear hFMd hFM2 hfr hgr1 hgr2 HFMx HPF HEND HAPT HPS
     refine AnyZ.start (S:=fun w' => w'.cell? ⟨g1,P,none⟩ = some (.slice ua un uc)∧w'.cell? ⟨b9,0,none⟩ = some (.int .i64 y.k)∧w'.cell? ⟨b9,1,none⟩ = some (.int .i64 y.m)∧w'.cell? ⟨b9,2,none⟩ = some (.int .i64 y.i)∧w'.cell? ⟨b9,3,none⟩ = some (.int .i64 y.long)∧w'.cell? ⟨b9,4,none⟩ = some (.string y.id)∧w'.cell? ⟨b9,5,none⟩ = some (.string y.data)) (z:=10) (by kernel_rfl) ?_
     have hHeld:=HS0.out
     refine AnyZ.take (i:=0) (d:=54) (v:=.slice (some ⟨g1,0,none⟩) N1 vc) rfl rfl (by kernel_rfl) (fun _ _ _ h => h) (Or.inl ⟨by rfl,fun w' hSw => ?_⟩) hHeld ?_
     ·obtain ⟨_,_,_,_,_,_,_⟩:=hSw
      go_simp
     try simp only [List.setIfInBounds_toArray,List.set_cons_zero,List.set_cons_succ]
     refine AnyZ.take (i:=1) (d:=55) (v:=.int .i64 (P : Int)) rfl rfl (by kernel_rfl) (fun _ _ _ h => h) (Or.inl ⟨by rfl,fun w' hSw => ?_⟩) hHeld ?_
     ·obtain ⟨_,_,_,_,_,_,_⟩:=hSw
      go_simp
     try simp only [List.setIfInBounds_toArray,List.set_cons_zero,List.set_cons_succ]
     refine AnyZ.take (i:=2) (d:=56) (v:=.slice (some ⟨g1,0,none⟩) N1 vc) rfl rfl (by kernel_rfl) (fun _ _ _ h => h) (Or.inl ⟨by rfl,fun w' hSw => ?_⟩) hHeld ?_
     ·obtain ⟨_,_,_,_,_,_,_⟩:=hSw
      go_simp
     try simp only [List.setIfInBounds_toArray,List.set_cons_zero,List.set_cons_succ]
     refine AnyZ.take (i:=3) (d:=57) (v:=.int .i64 (P : Int)) rfl rfl (by kernel_rfl) (fun _ _ _ h => h) (Or.inl ⟨by rfl,fun w' hSw => ?_⟩) hHeld ?_
     ·obtain ⟨_,_,_,_,_,_,_⟩:=hSw
      go_simp
     try simp only [List.setIfInBounds_toArray,List.set_cons_zero,List.set_cons_succ]
     refine AnyZ.take (i:=4) (d:=58) (v:=.pointer (some ⟨g1,P,none⟩)) rfl rfl (by kernel_rfl) (fun _ _ _ h => h) (Or.inl ⟨by rfl,fun w' hSw => ?_⟩) hHeld ?_
     ·obtain ⟨_,_,_,_,_,_,_⟩:=hSw
      go_simp
     try simp only [List.setIfInBounds_toArray,List.set_cons_zero,List.set_cons_succ]
     refine AnyZ.take (i:=5) (d:=59) (v:=.slice ua un uc) rfl rfl (by kernel_rfl) (fun _ _ _ h => h) (Or.inl ⟨by rfl,fun w' hSw => ?_⟩) hHeld ?_
     ·obtain ⟨_,_,_,_,_,_,_⟩:=hSw
      go_simp
     try simp only [List.setIfInBounds_toArray,List.set_cons_zero,List.set_cons_succ]
     refine AnyZ.take (i:=6) (d:=60) (v:=.agg #[.int .i64 y.k,.int .i64 y.m,.int .i64 y.i,.int .i64 y.long,.string y.id,.string y.data]) rfl rfl (by kernel_rfl) (fun _ _ _ h => h) (Or.inl ⟨by rfl,fun w' hSw => ?_⟩) hHeld ?_
     ·obtain ⟨_,_,_,_,_,_,_⟩:=hSw
      go_simp
     try simp only [List.setIfInBounds_toArray,List.set_cons_zero,List.set_cons_succ]
     refine AnyZ.one (i:=7) (by kernel_rfl) rfl fun K hK => ?_
     go_simp
     refine hK.out _ _ (fun _ => HSA.out _) (fun hHeld => ?_)
     clear hK K
     try simp only [Act.put,List.setIfInBounds_toArray]
     refine AnyZ.one (i:=8) (by kernel_rfl) rfl fun K hK => ?_
     refine Zq.step_append_run rfl _ _ 189 189 rfl _ _ rfl rfl _ _ hr1 ?_
     refine hK.out _ _ (fun _ => HS1.out) (fun hHeld9 => ?_)
     clear hK K
     try simp only [Act.put,List.setIfInBounds_toArray]
     have hHeld:=HS1.out
     refine AnyZ.take (i:=9) (d:=63) (v:=.pointer (some ⟨g1,P,none⟩)) rfl rfl (by kernel_rfl) (fun _ _ _ h => h) (Or.inl ⟨by rfl,fun w' hSw => ?_⟩) hHeld ?_
     ·obtain ⟨_,_,_,_,_,_,_⟩:=hSw
      go_simp
     try simp only [List.setIfInBounds_toArray,List.set_cons_zero,List.set_cons_succ]
     refine AnyZ.one (i:=10) (by kernel_rfl) rfl fun K hK => ?_
     refine step_store_run rfl 189 _ _ rfl _ _ rfl rfl w2 hr2 ?_
     refine hK.out _ _ (fun h => absurd rfl h) (fun hHeld => ?_)
     clear hK K
     try simp only [Act.put]
     refine AnyZ.done (by kernel_rfl) ?_ _
     go_wp2
     exact ⟨⟨j + 1,_,by omega,by go_num,HEN.out⟩,by simp [intOf]; omega⟩
    | none =>
     rw [hf] at hlook
     simp only [Option.getD_none,Option.isSome_none] at hlook
     obtain ⟨hFA,hb1,hb2,hLl⟩:=HFA.out
     have hno : ∀ g ∈ famL L,¬ ofF g y:=fun g hg hof => by
      obtain ⟨q,hq⟩:=List.mem_iff_getElem?.1 hg
      have:=(HM.out.2 y.long y.id q).2 ⟨g,hq,hof.1,hof.2⟩
      rw [hf] at this
      cases this
     have hul:=HUL.out
     have HADD : Hid (famL (L ++ [y]) = famL L ++ [[y]]):=by
      show famL (L ++ [y]) = _
      rw [famL_snoc,addF_no hno]
     obtain ⟨Vm,hup,hMm,hgm⟩:=HM.out.1.update (by omega) HKZ.out.1 HKZ.out.2.1 HKZ.out.2.2 (i:=us.length) (by omega)
     obtain ⟨es,clock,hmap⟩:=HM.out.1.isMap
     have hFMm : FM n0 (.slice va us.length vc) us (famL L) Vm:=HF2.out.fm.kb fun i cs T hc _ => hgm.block i (lt_of_block hc) fun e => by
      cases e; rw [hmap] at hc; cases hc
     have kxm : SB6 Vm b9 y:=(hgm.block b9 (lt_of_block HKX.out) (fun e => by cases e; rw [show V2.heap[n0 + 1]? = _ from HKX.out] at hmap; cases hmap)).trans HKX.out
     have kbm : Vm.heap[n0]? = some (.cells #[.int .i64 (K : Int),.int .i64 (M : Int)] 27 (0,0)):=(hgm.block n0 (lt_of_block HF2.out.kb) (by simp)).trans HF2.out.kb
     have hn0:=HN0.out
     have hbm : Below w.heap.size w Vm:=HF2.out.be.grown hgm HF2.out.be.size (fun k hk => by cases hk; omega)
     obtain ⟨va1,vc1,Vx,hra,hFMa,hga⟩:=hFMm.more (by omega) (by have:=hbm.size; omega)
     obtain ⟨P,hP⟩ : ∃ P,P = us.length:=⟨_,rfl⟩
     obtain ⟨N1,hN1⟩ : ∃ N1,N1 = us.length + 1:=⟨_,rfl⟩
     rw [← hN1] at hra hFMa
     obtain ⟨us1,hus1⟩ : ∃ us1,us1 = us ++ [Value.slice none 0 0]:=⟨_,rfl⟩
     obtain ⟨all1,hall⟩ : ∃ all1,all1 = famL L ++ [[]]:=⟨_,rfl⟩
     rw [← hus1,← hall] at hFMa
     obtain ⟨u,hu0⟩ : ∃ u,u = Value.slice none 0 0:=⟨_,rfl⟩
     have hPf : all1[P]? = some []:=by rw [hall,hP,hul]; simp
     have hPu : us1[P]? = some u:=by rw [hus1,hP,hu0]; simp
     obtain ⟨u2,g1,c1,hu2,hou,hv,hcell⟩:=hFMa.at_ hPf
     rw [hPu] at hu2
     cases hu2
     have hus1l : us1.length = N1:=by rw [hus1,hN1]; simp
     rw [hus1l] at hv
     simp only [Value.slice.injEq,true_and] at hv
     obtain ⟨rfl,rfl⟩:=hv
     have hbA : Below Vm.heap.size Vm (Vm.alloc (.cells #[.slice none 0 0] 189)):=(Below.refl _ _).alloc (Nat.le_refl _) _
     have hkeep : ∀ (i : Nat) (o : Obj),Vm.heap[i]? = some o→(∀ cs,o ≠ .cells cs 189 (0,0))→Vx.heap[i]? = some o:=fun i o hi hno => by
      have e1:=(hbA.block i (lt_of_block' hi)).trans hi
      refine (hga.block i (lt_of_block' e1) fun e => ?_).trans e1
      obtain ⟨cs,hc⟩:=hFMm.o.typ i e.symm
      rw [hi] at hc
      cases hc
      exact hno cs rfl
     have kxx : SB6 Vx b9 y:=hkeep b9 _ kxm (fun cs h => by simp at h)
     have kbx:=hkeep n0 _ kbm (fun cs h => by simp at h)
     obtain ⟨es2,clock2,hmap2⟩:=hMm.isMap
     have hmapx:=hkeep (n0 + 1) _ hmap2 (fun cs h => by cases h)
     have hMx:=hMm.kb (hmapx.trans hmap2.symm)
     have hbx : Below w.heap.size w Vx:=by
      have h1 : Below w.heap.size w (Vm.alloc (.cells #[.slice none 0 0] 189)):=hbm.alloc hbm.size _
      exact h1.grown hga h1.size (fun k hk => by have:=(hFMm.o.lt k hk).1; omega)
     have HAPT : Hid (u.ownBlock ≠ some g1∧u.ownBlock ≠ some b9):=by rw [hu0]; exact ⟨by simp [Value.ownBlock],by simp [Value.ownBlock]⟩
     have HPS : Hid (∃ a n c,u = .slice a n c):=⟨_,_,_,hu0⟩
     have HFMx : Hid (FM n0 (.slice (some ⟨g1,0,none⟩) N1 vc1) us1 all1 Vx∧Vx.cell? ⟨g1,P,none⟩ = some u):=⟨hFMa,hcell⟩
     have HPF : Hid (all1[P]? = some []∧us1[P]? = some u∧([] : List Zq.SX).length ≤ 1000∧n0 ≤ Vx.drew.heap.size∧N1 = us1.length):=⟨hPf,hPu,by simp,by show n0 ≤ Vx.heap.size; have:=lt_of_block kbx; omega,hus1l.symm⟩
     have HKX2 : Hid (SB6 Vx b9 y):=kxx
     have HEND : Hid (∀ (w2 : World) (us2 : List Value),FM n0 (.slice (some ⟨g1,0,none⟩) N1 vc1) us2 (all1.set P ([] ++ [y])) w2→(∀ i,i < Vx.drew.heap.size→(∀ cs,Vx.drew.heap[i]? ≠ some (.cells cs 232 (0,0)))→i ≠ g1→w2.heap[i]? = Vx.drew.heap[i]?)→∀ {w1 : World} {z : Obj},(Vx.drew.alloc z).grownBy w1 u.ownBlock→w1.grownBy w2 (some g1)→FW w n0 K M (gdL K M ((X.take (j + 1)).map (·.1))) (j + 1) (.slice (some ⟨g1,0,none⟩) N1 vc1) us2 w2):=by
      intro w2 us2 hFM hfr w1 z hgr1 hgr2
      have eset : all1.set P ([] ++ [y]) = famL L ++ [[y]]:=by
       rw [hall,hP,hul,List.set_append_right _ _ (Nat.le_refl _),Nat.sub_self]; rfl
      rw [eset] at hFM
      rw [HGF.out]
      obtain ⟨cs',hc'⟩:=hFMa.o.typ g1 rfl
      have hbd : Below w.heap.size w Vx.drew:=⟨hbx.os,hbx.tape,hbx.output,hbx.size,hbx.block⟩
      have hbz : Below w.heap.size w (Vx.drew.alloc z):=hbd.alloc hbd.size _
      have hb1' : Below w.heap.size w w1:=hbz.grown hgr1 hbz.size (fun k hk => by rw [hu0] at hk; cases hk)
      refine ⟨by rw [HADD.out]; exact hFM,⟨fun yy ee => if yy = y.long∧ee = y.id then some us.length else f yy ee,?_,by rw [HADD.out]; have h9:=HM.out.2.more y hf; rw [← hul] at h9; exact h9⟩,?_,hb1'.grown hgr2 hb1'.size (fun k hk => by cases hk; have:=(hFMa.o.lt g1 rfl).1; omega)⟩
      ·refine hMx.kb (hfr (n0 + 1) (lt_of_block' hmapx) (fun cs h => ?_) (fun e => ?_))
       ·have : Vx.heap[n0 + 1]? = some (.cells cs 232 (0,0)):=h
        rw [hmapx] at this; cases this
       ·rw [← e,hmapx] at hc'; cases hc'
      ·refine (hfr n0 (lt_of_block kbx) (fun cs h => ?_) (fun e => ?_)).trans kbx
       ·have : Vx.heap[n0]? = some (.cells cs 232 (0,0)):=h
        rw [kbx] at this; simp at this
       ·rw [← e,kbx] at hc'; simp at hc'
     have hPN : P < N1:=by omega
     have hN255 : N1 ≤ 1000:=by omega
     rw [← hP] at hup hra ⊢
     have d3m:=kxm.cell (j:=3) rfl
     have d4m:=kxm.cell (j:=4) rfl
     clear hf hFA hb1 hb2 hLl hno hul hMm hgm hmap hFMm kxm kbm hn0 hbm hFMa hga hus1 hall hu0 hPf hPu hou hcell hus1l hbA hkeep kxx kbx hmap2 hmapx hMx hbx
     have HPN:=hide (And.intro hP hN1)
     clear hP hN1
     go_upto_region 7 with fail
     rw [← HV2.out.1,← HV2.out.2]
     go_wp2_with (first | (refine wpList_lookup_run rfl 274 _ _ _ rfl _ _ _ rfl rfl hlook ?_) | (refine wpList_mapUpdate_run rfl 274 _ _ _ rfl _ _ _ rfl rfl rfl hup ?_) | (at_builtin; refine Lib.wpList_append_run _ rfl _ _ _ _ rfl _ _ rfl rfl _ _ hra ?_))
     have hFMd : FM n0 (.slice (some ⟨g1,0,none⟩) N1 vc1) us1 all1 Vx.drew:=HFMx.out.1.kb fun _ _ _ _ _ => rfl
     obtain ⟨u',w1,w2,hr1,hsh,hr2,hFM2,hfr,hgr1,hgr2⟩:=hFMd.put HPF.out.1 HPF.out.2.1 y HPF.out.2.2.1 HPF.out.2.2.2.1 (by rw [HPF.out.2.2.2.2])
     obtain ⟨ua',un',uc',rfl⟩:=hsh
     have HS0 : Hid (Vx.drew.cell? ⟨g1,P,none⟩ = some u∧Vx.drew.cell? ⟨b9,0,none⟩ = some (.int .i64 y.k)∧Vx.drew.cell? ⟨b9,1,none⟩ = some (.int .i64 y.m)∧Vx.drew.cell? ⟨b9,2,none⟩ = some (.int .i64 y.i)∧Vx.drew.cell? ⟨b9,3,none⟩ = some (.int .i64 y.long)∧Vx.drew.cell? ⟨b9,4,none⟩ = some (.string y.id)∧Vx.drew.cell? ⟨b9,5,none⟩ = some (.string y.data)):=⟨HFMx.out.2,HKX2.out.cell (j:=0) rfl,HKX2.out.cell (j:=1) rfl,HKX2.out.cell (j:=2) rfl,HKX2.out.cell (j:=3) rfl,HKX2.out.cell (j:=4) rfl,HKX2.out.cell (j:=5) rfl⟩
     have HSA : Hid (∀ o,(Vx.drew.alloc o).cell? ⟨g1,P,none⟩ = some u∧(Vx.drew.alloc o).cell? ⟨b9,0,none⟩ = some (.int .i64 y.k)∧(Vx.drew.alloc o).cell? ⟨b9,1,none⟩ = some (.int .i64 y.m)∧(Vx.drew.alloc o).cell? ⟨b9,2,none⟩ = some (.int .i64 y.i)∧(Vx.drew.alloc o).cell? ⟨b9,3,none⟩ = some (.int .i64 y.long)∧(Vx.drew.alloc o).cell? ⟨b9,4,none⟩ = some (.string y.id)∧(Vx.drew.alloc o).cell? ⟨b9,5,none⟩ = some (.string y.data)):=fun o => by
      have h9 : Below Vx.drew.heap.size Vx.drew (Vx.drew.alloc o):=(Below.refl _ _).alloc (Nat.le_refl _) _
      have kx9 : SB6 (Vx.drew.alloc o) b9 y:=(h9.block b9 (lt_of_block HKX2.out)).trans HKX2.out
      exact ⟨by have:=h9.cell (p:=⟨g1,P,none⟩) (World.block_lt_of_cell? Vx.drew _ HS0.out.1); rw [this]; exact HS0.out.1,kx9.cell (j:=0) rfl,kx9.cell (j:=1) rfl,kx9.cell (j:=2) rfl,kx9.cell (j:=3) rfl,kx9.cell (j:=4) rfl,kx9.cell (j:=5) rfl⟩
     have HEN:=hide (HEND.out w2 _ hFM2 hfr hgr1 hgr2)
     have HS1 : Hid (w1.cell? ⟨g1,P,none⟩ = some u∧w1.cell? ⟨b9,0,none⟩ = some (.int .i64 y.k)∧w1.cell? ⟨b9,1,none⟩ = some (.int .i64 y.m)∧w1.cell? ⟨b9,2,none⟩ = some (.int .i64 y.i)∧w1.cell? ⟨b9,3,none⟩ = some (.int .i64 y.long)∧w1.cell? ⟨b9,4,none⟩ = some (.string y.id)∧w1.cell? ⟨b9,5,none⟩ = some (.string y.data)):=by
      have hz:=HSA.out (.cells #[.int .i64 y.k,.int .i64 y.m,.int .i64 y.i,.int .i64 y.long,.string y.id,.string y.data] 232)
      have hc : ∀ (bb jj : Nat) (vv : Value),bb < Vx.drew.heap.size→u.ownBlock ≠ some bb→(Vx.drew.alloc (.cells #[.int .i64 y.k,.int .i64 y.m,.int .i64 y.i,.int .i64 y.long,.string y.id,.string y.data] 232)).cell? ⟨bb,jj,none⟩ = some vv→w1.cell? ⟨bb,jj,none⟩ = some vv:=fun bb jj vv h1 h2 h3 => by
       have:=hgr1.block bb (by rw [World.size_alloc]; omega) (fun e => h2 e.symm)
       simp only [World.cell?,this] at h3 ⊢
       exact h3
      have n1:=HAPT.out.1
      have n2:=HAPT.out.2
      have l1 : g1 < Vx.drew.heap.size:=World.block_lt_of_cell? Vx.drew _ HS0.out.1
      have l2 : b9 < Vx.drew.heap.size:=lt_of_block HKX2.out
      exact ⟨hc _ _ _ l1 n1 hz.1,hc _ _ _ l2 n2 hz.2.1,hc _ _ _ l2 n2 hz.2.2.1,hc _ _ _ l2 n2 hz.2.2.2.1,hc _ _ _ l2 n2 hz.2.2.2.2.1,hc _ _ _ l2 n2 hz.2.2.2.2.2.1,hc _ _ _ l2 n2 hz.2.2.2.2.2.2⟩
     have c0 : (0 : Int) ≤ (P : Int):=by omega
     have c9 : (P : Int) < (N1 : Int):=by omega
     obtain ⟨ua,un,uc,hua⟩:=HPS.out
     rw [hua] at hr1 HS0 HS1 HSA
     clear hFMd hFM2 hfr hgr1 hgr2 HFMx HPF HEND HAPT HPS
     refine AnyZ.start (S:=fun w' => w'.cell? ⟨g1,P,none⟩ = some (.slice ua un uc)∧w'.cell? ⟨b9,0,none⟩ = some (.int .i64 y.k)∧w'.cell? ⟨b9,1,none⟩ = some (.int .i64 y.m)∧w'.cell? ⟨b9,2,none⟩ = some (.int .i64 y.i)∧w'.cell? ⟨b9,3,none⟩ = some (.int .i64 y.long)∧w'.cell? ⟨b9,4,none⟩ = some (.string y.id)∧w'.cell? ⟨b9,5,none⟩ = some (.string y.data)) (z:=10) (by kernel_rfl) ?_
     have hHeld:=HS0.out
     refine AnyZ.take (i:=0) (d:=54) (v:=.slice (some ⟨g1,0,none⟩) N1 vc1) rfl rfl (by kernel_rfl) (fun _ _ _ h => h) (Or.inl ⟨by rfl,fun w' hSw => ?_⟩) hHeld ?_
     ·obtain ⟨_,_,_,_,_,_,_⟩:=hSw
      go_simp
     try simp only [List.setIfInBounds_toArray,List.set_cons_zero,List.set_cons_succ]
     refine AnyZ.take (i:=1) (d:=55) (v:=.int .i64 (P : Int)) rfl rfl (by kernel_rfl) (fun _ _ _ h => h) (Or.inl ⟨by rfl,fun w' hSw => ?_⟩) hHeld ?_
     ·obtain ⟨_,_,_,_,_,_,_⟩:=hSw
      go_simp
     try simp only [List.setIfInBounds_toArray,List.set_cons_zero,List.set_cons_succ]
     refine AnyZ.take (i:=2) (d:=56) (v:=.slice (some ⟨g1,0,none⟩) N1 vc1) rfl rfl (by kernel_rfl) (fun _ _ _ h => h) (Or.inl ⟨by rfl,fun w' hSw => ?_⟩) hHeld ?_
     ·obtain ⟨_,_,_,_,_,_,_⟩:=hSw
      go_simp
     try simp only [List.setIfInBounds_toArray,List.set_cons_zero,List.set_cons_succ]
     refine AnyZ.take (i:=3) (d:=57) (v:=.int .i64 (P : Int)) rfl rfl (by kernel_rfl) (fun _ _ _ h => h) (Or.inl ⟨by rfl,fun w' hSw => ?_⟩) hHeld ?_
     ·obtain ⟨_,_,_,_,_,_,_⟩:=hSw
      go_simp
     try simp only [List.setIfInBounds_toArray,List.set_cons_zero,List.set_cons_succ]
     refine AnyZ.take (i:=4) (d:=58) (v:=.pointer (some ⟨g1,P,none⟩)) rfl rfl (by kernel_rfl) (fun _ _ _ h => h) (Or.inl ⟨by rfl,fun w' hSw => ?_⟩) hHeld ?_
     ·obtain ⟨_,_,_,_,_,_,_⟩:=hSw
      go_simp
     try simp only [List.setIfInBounds_toArray,List.set_cons_zero,List.set_cons_succ]
     refine AnyZ.take (i:=5) (d:=59) (v:=.slice ua un uc) rfl rfl (by kernel_rfl) (fun _ _ _ h => h) (Or.inl ⟨by rfl,fun w' hSw => ?_⟩) hHeld ?_
     ·obtain ⟨_,_,_,_,_,_,_⟩:=hSw
      go_simp
     try simp only [List.setIfInBounds_toArray,List.set_cons_zero,List.set_cons_succ]
     refine AnyZ.take (i:=6) (d:=60) (v:=.agg #[.int .i64 y.k,.int .i64 y.m,.int .i64 y.i,.int .i64 y.long,.string y.id,.string y.data]) rfl rfl (by kernel_rfl) (fun _ _ _ h => h) (Or.inl ⟨by rfl,fun w' hSw => ?_⟩) hHeld ?_
     ·obtain ⟨_,_,_,_,_,_,_⟩:=hSw
      go_simp
     try simp only [List.setIfInBounds_toArray,List.set_cons_zero,List.set_cons_succ]
     refine AnyZ.one (i:=7) (by kernel_rfl) rfl fun K hK => ?_
     go_simp
     refine hK.out _ _ (fun _ => HSA.out _) (fun hHeld => ?_)
     clear hK K
     try simp only [Act.put,List.setIfInBounds_toArray]
     refine AnyZ.one (i:=8) (by kernel_rfl) rfl fun K hK => ?_
     refine Zq.step_append_run rfl _ _ 189 189 rfl _ _ rfl rfl _ _ hr1 ?_
     refine hK.out _ _ (fun _ => HS1.out) (fun hHeld9 => ?_)
     clear hK K
     try simp only [Act.put,List.setIfInBounds_toArray]
     have hHeld:=HS1.out
     refine AnyZ.take (i:=9) (d:=63) (v:=.pointer (some ⟨g1,P,none⟩)) rfl rfl (by kernel_rfl) (fun _ _ _ h => h) (Or.inl ⟨by rfl,fun w' hSw => ?_⟩) hHeld ?_
     ·obtain ⟨_,_,_,_,_,_,_⟩:=hSw
      go_simp
     try simp only [List.setIfInBounds_toArray,List.set_cons_zero,List.set_cons_succ]
     refine AnyZ.one (i:=10) (by kernel_rfl) rfl fun K hK => ?_
     refine step_store_run rfl 189 _ _ rfl _ _ rfl rfl w2 hr2 ?_
     refine hK.out _ _ (fun h => absurd rfl h) (fun hHeld => ?_)
     clear hK K
     try simp only [Act.put]
     refine AnyZ.done (by kernel_rfl) ?_ _
     go_wp2
     exact ⟨⟨j + 1,_,by omega,by go_num,HEN.out⟩,by simp [intOf]; omega⟩
   ·have HE : Hid (FW w n0 K M (gdL K M ((X.take (j + 1)).map (·.1))) (j + 1) (.slice va us.length vc) us V2):=by
     obtain ⟨f,m1,m2⟩:=HF2.out.mp
     have e : gdL K M ((X.take (j + 1)).map (·.1)) = gdL K M ((X.take j).map (·.1)):=by rw [HGD.out,hy]; simp
     rw [e]
     obtain ⟨D,m3,m4⟩:=m1
     exact ⟨HF2.out.fm,⟨f,⟨D,m3.mono (by omega),m4⟩,m2⟩,HF2.out.kb,HF2.out.be⟩
    clear hy HGD HF2 HKX
    go_upto_region 7 with fail
    rw [← HV2.out.1,← HV2.out.2]
    go_wp2
    exact ⟨⟨j + 1,us,by omega,by go_num,HE.out⟩,by simp [intOf]; omega⟩
  ·obtain rfl : j = n:=by omega
   have HE : Hid (FM w.heap.size (.slice va us.length vc) us (famL (gdL K M (X.map (·.1)))) wr∧Below w.heap.size w wr):=by
    have e : X.take j = X:=List.take_of_length_le (by have:=HS.out.2.2.2; omega)
    have h1:=HF.out
    rw [e] at h1
    rw [← HN0.out]
    exact ⟨h1.fm,by rw [HN0.out]; exact h1.be⟩
   go_wp2
   go_ret
   exact ⟨_,us,rfl,HE.out⟩
end
end Go.Proofs.YtagijldedngcoaaGreatDoor

namespace Go.Proofs.YtagijldedngcoaaGreatDoor
open Go.RowKit Go.Lib
theorem cntC_snoc (c : Int) (A : List RR) (x : RR) : cntC c (A ++ [x]) = cntC c A + if x.c = c then 1 else 0:=by
 unfold cntC
 rw [List.filter_append,List.length_append]
 by_cases h : x.c = c <;> simp [h]
theorem awy_snoc : ∀ (A : List RR) (x : RR),awy (A ++ [x]) = if awy A = 0 then (if x.c = 0 ∨ x.c = 5 then 0 else x.c) else awy A
 | [],x => by simp [awy]
 | y :: A,x => by
  rw [List.cons_append,awy,awy]
  by_cases h : y.c = 0 ∨ y.c = 5
  ·rw [if_pos h,if_pos h]; exact awy_snoc A x
  ·rw [if_neg h,if_neg h,if_neg (by omega)]
theorem cntC_le (c : Int) (A : List RR) : cntC c A ≤ A.length:=List.length_filter_le _ _
section
variable {w : World} {K M : Nat} {r : Nat→Prop} {av : Value} {X : List (RR × Value)}
theorem stores_any (h : K + M ≤ 255) : Calls Tryz.prog 57 #[.agg #[.int .i64 (K : Int),.int .i64 (M : Int)]] w fun e w' => e = .returned (.int .i64 ((K + M : Nat) : Int))∧Below w.heap.size w w':=by
 have e : ((K + M : Nat) : Int) = (K : Int) + (M : Int):=by omega
 have h1 : (K : Int) + (M : Int) ≤ 255:=by omega
 have h2 : (0 : Int) ≤ (K : Int) + (M : Int):=by omega
 have HE:=hide e
 clear e
 go_enter Tryz.func57,Tryz.ntmps57
 go_wp2
 go_ret
 exact ⟨by rw [HE.out]; rfl,(Below.refl _ _).alloc (Nat.le_refl _) _⟩
theorem refusal_any (hL : LS x3 3 r w av X) (hS : ∀ x ∈ X,∃ a n c,x.2 = .slice a n c) (hn : X.length ≤ 255) (hM : M ≤ 255) :
  Calls Tryz.prog 156 #[.agg #[.int .i64 (K : Int),.int .i64 (M : Int)],av] w fun e w' => e = .returned (.int .i64 (rfs M (X.map (·.1))))∧Below w.heap.size w w':=by
 obtain ⟨a,c,hav⟩:=hL.shp
 obtain ⟨n,hnn⟩ : ∃ n,n = X.length:=⟨_,rfl⟩
 rw [← hnn] at hav
 obtain ⟨n0,hn0⟩ : ∃ n0,n0 = w.heap.size:=⟨_,rfl⟩
 obtain ⟨W,hW⟩ : ∃ W,W = w.alloc (.cells #[.int .i64 (K : Int),.int .i64 (M : Int)] 27):=⟨_,rfl⟩
 have hB : Below w.heap.size w W:=by rw [hW]; exact (Below.refl _ _).alloc (Nat.le_refl _) _
 have k0 : W.heap[n0]? = some (.cells #[.int .i64 (K : Int),.int .i64 (M : Int)] 27 (0,0)):=by rw [hW,hn0]; exact heap_alloc_new w _
 have HX : Hid (∀ (j : Nat) (x : RR × Value),X[j]? = some x→∀ wr,Below w.heap.size w wr→∃ g o,a = some ⟨g,o,none⟩∧wr.cell? ⟨g,o + j * 3,none⟩ = some (.int .i64 x.1.c)∧wr.cell? ⟨g,o + j * 3 + 1,none⟩ = some (.string x.1.d)∧wr.cell? ⟨g,o + j * 3 + 2,none⟩ = some x.2):=fun j x hx wr hb => by
  obtain ⟨a',c',e,_,h2 | ⟨g,o,ea,_,_,hG⟩⟩:=hL.bel hb
  ·rw [h2] at hx; simp at hx
  ·rw [hav] at e
   simp only [Value.slice.injEq] at e
   refine ⟨g,o,by rw [e.1,ea],hG j x hx 0 _ rfl,hG j x hx 1 _ rfl,hG j x hx 2 _ rfl⟩
 have H0 : Hid (W.heap[n0]? = some (.cells #[.int .i64 (K : Int),.int .i64 (M : Int)] 27 (0,0))∧Below w.heap.size w W):=⟨k0,hB⟩
 have HW:=hide hW
 have HN0:=hide hn0
 have HS:=hide (And.intro hS hnn)
 have hn255 : n ≤ 255:=by omega
 rw [hav]
 clear hL hS hn hnn hav hW hn0 hB k0
 go_enter Tryz.func156,Tryz.ntmps156
 go_upto_region 1 with fail
 rw [← HW.out,← HN0.out]
 go_wp2
 go_loopw [5,6,7,12] (fun ab ro aw i wr => ∃ j : Nat,j ≤ n∧i = .int .i64 (j : Int)∧ab = .int .i64 (cntC 5 ((X.take j).map (·.1)) : Nat)∧ro = .int .i64 (cntC 0 ((X.take j).map (·.1)) : Nat)∧aw = .int .i64 (awy ((X.take j).map (·.1)))∧wr.heap[n0]? = some (.cells #[.int .i64 (K : Int),.int .i64 (M : Int)] 27 (0,0))∧Below w.heap.size w wr) (fun _ _ _ i _ => n - (intOf i).toNat)
 case atStart => exact ⟨0,Nat.zero_le _,rfl,by simp [cntC],by simp [cntC],by simp [awy],H0.out⟩
 case round =>
  obtain ⟨j,hj,rfl,rfl,rfl,rfl,hk,hb⟩:=hrel
  have l5:=cntC_le 5 ((X.take j).map (·.1))
  have l0:=cntC_le 0 ((X.take j).map (·.1))
  rw [List.length_map,List.length_take] at l5 l0
  obtain ⟨p5,hp5⟩ : ∃ p,p = cntC 5 ((X.take j).map (·.1)):=⟨_,rfl⟩
  obtain ⟨p0,hp0⟩ : ∃ p,p = cntC 0 ((X.take j).map (·.1)):=⟨_,rfl⟩
  obtain ⟨aw,haw⟩ : ∃ p,p = awy ((X.take j).map (·.1)):=⟨_,rfl⟩
  rw [← hp5,← hp0,← haw]
  rw [← hp5] at l5
  rw [← hp0] at l0
  have HP:=hide (And.intro hp5 (And.intro hp0 haw))
  have HK:=hide (And.intro hk hb)
  clear hp5 hp0 haw hk hb
  by_cases hlt : j < n
  ·have b1 : (j : Int) < (n : Int):=by omega
   have b0 : (0 : Int) ≤ (j : Int):=by omega
   have hp5b : (p5 : Int) ≤ 255:=by omega
   have hp0b : (p0 : Int) ≤ 255:=by omega
   obtain ⟨x,hx⟩ : ∃ x,X[j]? = some x:=⟨_,List.getElem?_eq_getElem (by have:=HS.out.2; omega)⟩
   obtain ⟨g,o,rfl,u0,u1,u2⟩:=HX.out j x hx wr HK.out.2
   obtain ⟨xa,xn,xc,hxs⟩:=HS.out.1 x (List.mem_of_getElem? hx)
   obtain ⟨V,hV⟩ : ∃ V,V = wr.alloc (.cells #[.int .i64 x.1.c,.string x.1.d,x.2] 87):=⟨_,rfl⟩
   have hBV : Below wr.heap.size wr V:=by rw [hV]; exact (Below.refl _ _).alloc (Nat.le_refl _) _
   have kV : V.heap[wr.heap.size]? = some (.cells #[.int .i64 x.1.c,.string x.1.d,x.2] 87 (0,0)):=by rw [hV]; exact heap_alloc_new wr _
   obtain ⟨bx,hbx⟩ : ∃ bx,bx = wr.heap.size:=⟨_,rfl⟩
   rw [← hbx] at kV
   have z0 : V.cell? ⟨bx,0,none⟩ = some (.int .i64 x.1.c):=by simp [World.cell?,kV]
   have HE : Hid ((V.heap[n0]? = some (.cells #[.int .i64 (K : Int),.int .i64 (M : Int)] 27 (0,0))∧Below w.heap.size w V)):=⟨(hBV.block n0 (lt_of_block HK.out.1)).trans HK.out.1,HK.out.2.trans (hBV.mono HK.out.2.size)⟩
   have HT : Hid ((X.take (j + 1)).map (·.1) = (X.take j).map (·.1) ++ [x.1]):=by
    show (X.take (j + 1)).map (·.1) = _
    rw [take_snoc_at hx,List.map_append]; rfl
   have HV:=hide (And.intro hV hbx)
   rw [hxs] at u2 HV
   clear hV hBV kV hbx hx hxs
   have fin : Hid (∀ (q5 q0 : Nat) (q : Int),q5 = p5 + (if x.1.c = 5 then 1 else 0)→q0 = p0 + (if x.1.c = 0 then 1 else 0)→q = (if aw = 0 then (if x.1.c = 0 ∨ x.1.c = 5 then 0 else x.1.c) else aw)→q5 = cntC 5 ((X.take (j + 1)).map (·.1))∧q0 = cntC 0 ((X.take (j + 1)).map (·.1))∧q = awy ((X.take (j + 1)).map (·.1))):=fun q5 q0 q h1 h2 h3 => by
    obtain ⟨hp5,hp0,haw⟩:=HP.out
    rw [HT.out,cntC_snoc,cntC_snoc,awy_snoc,← hp5,← hp0,← haw]
    exact ⟨h1,h2,h3⟩
   obtain ⟨cc,hcc⟩ : ∃ cc,cc = x.1.c:=⟨_,rfl⟩
   rw [← hcc] at fin z0 HV u0
   clear hcc HT HP
   by_cases h0 : cc = 0
   ·obtain ⟨f1,f2,f3⟩:=fin.out p5 (p0 + 1) aw (by rw [if_neg (by omega)]; rfl) (by rw [if_pos h0]) (by by_cases e : aw = 0; rw [if_pos e,if_pos (.inl h0)]; exact e; rw [if_neg e])
    have HF:=hide (And.intro f1 (And.intro f2 f3))
    subst h0
    clear f1 f2 f3 fin
    go_upto_region 5 with fail
    rw [← HV.out.1,← HV.out.2]
    go_wp2
    exact ⟨⟨j + 1,by omega,by go_num,by rw [← HF.out.1],by rw [← HF.out.2.1]; go_num,by rw [← HF.out.2.2],HE.out⟩,by simp [intOf]; omega⟩
   ·by_cases h5 : cc = 5
    ·obtain ⟨f1,f2,f3⟩:=fin.out (p5 + 1) p0 aw (by rw [if_pos h5]) (by rw [if_neg h0]; rfl) (by by_cases e : aw = 0; rw [if_pos e,if_pos (.inr h5)]; exact e; rw [if_neg e])
     have HF:=hide (And.intro f1 (And.intro f2 f3))
     subst h5
     clear f1 f2 f3 fin
     go_upto_region 5 with fail
     rw [← HV.out.1,← HV.out.2]
     go_wp2
     exact ⟨⟨j + 1,by omega,by go_num,by rw [← HF.out.1]; go_num,by rw [← HF.out.2.1],by rw [← HF.out.2.2],HE.out⟩,by simp [intOf]; omega⟩
    ·by_cases ha : aw = 0
     ·obtain ⟨f1,f2,f3⟩:=fin.out p5 p0 cc (by rw [if_neg h5]; rfl) (by rw [if_neg h0]; rfl) (by rw [if_pos ha,if_neg (by omega)])
      have HF:=hide (And.intro f1 (And.intro f2 f3))
      subst ha
      clear f1 f2 f3 fin
      go_upto_region 5 with fail
      rw [← HV.out.1,← HV.out.2]
      go_wp2
      exact ⟨⟨j + 1,by omega,by go_num,by rw [← HF.out.1],by rw [← HF.out.2.1],by rw [← HF.out.2.2],HE.out⟩,by simp [intOf]; omega⟩
     ·obtain ⟨f1,f2,f3⟩:=fin.out p5 p0 aw (by rw [if_neg h5]; rfl) (by rw [if_neg h0]; rfl) (by rw [if_neg ha])
      have HF:=hide (And.intro f1 (And.intro f2 f3))
      clear f1 f2 f3 fin
      go_upto_region 5 with fail
      rw [← HV.out.1,← HV.out.2]
      go_wp2
      exact ⟨⟨j + 1,by omega,by go_num,by rw [← HF.out.1],by rw [← HF.out.2.1],by rw [← HF.out.2.2],HE.out⟩,by simp [intOf]; omega⟩
  ·obtain rfl : j = n:=by omega
   have HR : Hid (rfs M (X.map (·.1)) = if aw ≠ 0∧p5 + p0 ≤ M then aw else if 0 < p0 then 100 else 5):=by
    show rfs M (X.map (·.1)) = _
    have e : X.take j = X:=List.take_of_length_le (by have:=HS.out.2; omega)
    have h9:=HP.out
    rw [e] at h9
    rw [h9.1,h9.2.1,h9.2.2]; rfl
   have z1 : wr.cell? ⟨n0,1,none⟩ = some (.int .i64 (M : Int)):=by simp [World.cell?,HK.out.1]
   have hp5b : (p5 : Int) ≤ 255:=by omega
   have hp0b : (p0 : Int) ≤ 255:=by omega
   have hMb : (M : Int) ≤ 255:=by omega
   clear HP
   by_cases ha : aw = 0
   ·by_cases h0 : 0 < p0
    ·have HF : Hid (rfs M (X.map (·.1)) = 100):=by show rfs M (X.map (·.1)) = 100; rw [HR.out,if_neg (fun h => h.1 ha),if_pos h0]
     have h0' : (0 : Int) < (p0 : Int):=by omega
     subst ha
     go_wp2
     go_ret
     exact ⟨by rw [HF.out]; rfl,HK.out.2⟩
    ·have HF : Hid (rfs M (X.map (·.1)) = 5):=by show rfs M (X.map (·.1)) = 5; rw [HR.out,if_neg (fun h => h.1 ha),if_neg h0]
     have h0' : ¬ (0 : Int) < (p0 : Int):=by omega
     subst ha
     go_wp2
     go_ret
     exact ⟨by rw [HF.out]; rfl,HK.out.2⟩
   ·by_cases hle : p5 + p0 ≤ M
    ·have HF : Hid (rfs M (X.map (·.1)) = aw):=by show rfs M (X.map (·.1)) = aw; rw [HR.out,if_pos ⟨ha,hle⟩]
     have hle' : (p5 : Int) + (p0 : Int) ≤ (M : Int):=by omega
     go_wp2
     go_ret
     exact ⟨by rw [HF.out]; rfl,HK.out.2⟩
    ·have hle' : ¬ (p5 : Int) + (p0 : Int) ≤ (M : Int):=by omega
     by_cases h0 : 0 < p0
     ·have HF : Hid (rfs M (X.map (·.1)) = 100):=by show rfs M (X.map (·.1)) = 100; rw [HR.out,if_neg (fun h => hle h.2),if_pos h0]
      have h0' : (0 : Int) < (p0 : Int):=by omega
      go_wp2
      go_ret
      exact ⟨by rw [HF.out]; rfl,HK.out.2⟩
     ·have HF : Hid (rfs M (X.map (·.1)) = 5):=by show rfs M (X.map (·.1)) = 5; rw [HR.out,if_neg (fun h => hle h.2),if_neg h0]
      have h0' : ¬ (0 : Int) < (p0 : Int):=by omega
      go_wp2
      go_ret
      exact ⟨by rw [HF.out]; rfl,HK.out.2⟩
end
end Go.Proofs.YtagijldedngcoaaGreatDoor

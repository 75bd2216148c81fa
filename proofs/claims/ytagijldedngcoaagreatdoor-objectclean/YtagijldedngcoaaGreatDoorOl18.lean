/-
  Contracts of the program and of the statements (part 18 of 28).
-/
import Derived.Test.YtagijldedngcoaaGreatDoorOl17
import Derived.Deep.RegionHeldLaw
set_option maxRecDepth 100000
set_option maxHeartbeats 3200000

namespace Go.Proofs.YtagijldedngcoaaGreatDoor
open Go.RowKit Go.Lib
theorem step_store_run {P : Program} {ops : Array Oper} {o : Oper} {a : Act} {w : World} {K : Act→World→Prop} {Q : Exit→Act→World→Prop} {E : Prop} (hgd : o.guard = none) (ty : TypeId) (x y : Operand) (ho : o.op = .store ty x y)
  (p v : Value) (hx : a.eval x = p) (hy : a.eval y = v) (w' : World) (hr : (Instr.storeAt ty p v).run P w = .ok () w') (h : K (a.put o.dst undef) w') :
  if Region.wanted o (yielded ops a.tmps) = true then Oper.wp P o a w K Q else E:=by
 have hw : Region.wanted o (yielded ops a.tmps) = true:=by simp [Region.wanted,hgd]
 rw [if_pos hw]
 unfold Oper.wp execOp
 simp only [ho,hx,hy,Sem.run_bind,Sem.run_pure,Result.andThen_ok,hr]
 exact h
theorem take_at {ops : Array Oper} {Q : Exit→Act→World→Prop} {S : World→Prop} {i d : Nat} {oi : Oper} {v : Value} {fuel : Nat} {listed : Array Bool} {a : Act} {w : World} (hi : ops[i]? = some oi) (hd : oi.dst = some d)
  (hc : (Region.noSelect ops && Region.free .any ops listed i && (Region.ready .any ops listed).contains i) = true)
  (hQ : ∀ c a w,Q (.panic c) (a.put oi.dst v) w→Q (.panic c) a w) (hy : YieldsIf Tryz.prog ops S oi v a) (hS : S w)
  (h : wpAnyH Tryz.prog .any ops Q S fuel (listed.setIfInBounds i true) ⟨a.tmps.setIfInBounds d v,a.defers⟩ w) : wpAnyH Tryz.prog .any ops Q S (fuel + 1) listed a w :=
 by simp only [Bool.and_eq_true] at hc; exact wpAnyH_take hi hc.1.1 hc.1.2 hc.2 hQ hy hS (by rw [hd]; exact h)

def SB6 (w : World) (b : Nat) (x : Zq.SX) : Prop:=w.heap[b]? = some (.cells (Zq.six x).toArray 232 (0,0))
theorem SB6.cell {w : World} {b : Nat} {x : Zq.SX} (h : SB6 w b x) {j : Nat} {u : Value} (hu : (Zq.six x)[j]? = some u) : w.cell? ⟨b,j,none⟩ = some u:=by
 rw [cell_of_row w b _ _ _ _ h]; simpa using hu
theorem SB6.store {w : World} {b : Nat} {x : Zq.SX} (h : SB6 w b x) (y : Zq.SX) : ∃ w',(Instr.storeAt 232 (.pointer (some ⟨b,0,none⟩)) (.agg #[.int .i64 y.k,.int .i64 y.m,.int .i64 y.i,.int .i64 y.long,.string y.id,.string y.data])).run Tryz.prog w = .ok () w'∧SB6 w' b y∧Gs (fun i => i = b) w w':=by
 refine ⟨_,store_run (t:=232) (o:=0) h #[.int .i64 y.k,.int .i64 y.m,.int .i64 y.i,.int .i64 y.long,.string y.id,.string y.data] (by simp [Zq.six]) Tryz.sizeSh (by simp [Value.oneCell']),?_,Gs.cells _ _ _ (Gs.refl _ _) (.inl rfl)⟩
 have h1:=setCells_self [.int .i64 y.k,.int .i64 y.m,.int .i64 y.i,.int .i64 y.long,.string y.id,.string y.data] 0 w _ h
 simpa [putAll,SB6,Zq.six] using h1
def GR (K M i : Nat) (x : RR) (w : World) (e : Ending) (w' : World) : Prop:=∃ y b,e = .returned (.tuple #[.agg #[.int .i64 y.k,.int .i64 y.m,.int .i64 y.i,.int .i64 y.long,.string y.id,.string y.data],.bool b])∧((b = true∧gdX K M i x = some y) ∨ (b = false∧gdX K M i x = none))∧Below w.heap.size w w'
section
variable {w : World} {K M i : Nat} {x : RR} {u : Value}
theorem good_any (hd : x.d.size ≤ 1000000) (hu : ∃ a n c,u = .slice a n c) :
  Calls Tryz.prog 201 #[.agg #[.int .i64 (K : Int),.int .i64 (M : Int)],.int .i64 (i : Int),.agg #[.int .i64 x.c,.string x.d,u]] w fun e w' => GR K M i x w e w':=by
 obtain ⟨cc,dd,ll⟩:=x
 obtain ⟨ua,un,uc,rfl⟩:=hu
 obtain ⟨W,hW⟩ : ∃ W,W = ((w.alloc (.cells #[.int .i64 (K : Int),.int .i64 (M : Int)] 27)).alloc (.cells #[.int .i64 cc,.string dd,.slice ua un uc] 87)).alloc (.cells #[.int .i64 0,.int .i64 0,.int .i64 0,.int .i64 0,.string ⟨#[]⟩,.string ⟨#[]⟩] 232):=⟨_,rfl⟩
 obtain ⟨n0,hn0⟩ : ∃ n0,n0 = w.heap.size:=⟨_,rfl⟩
 have hB : Below w.heap.size w W:=by rw [hW]; exact (((Below.refl _ _).alloc (Nat.le_refl _) _).alloc (by simp) _).alloc (by simp; omega) _
 have k0 : W.heap[n0]? = some (.cells #[.int .i64 (K : Int),.int .i64 (M : Int)] 27 (0,0)):=by
  rw [hW,hn0,Below.heap_alloc _ _ _ (by simp; omega),Below.heap_alloc _ _ _ (by simp)]; exact heap_alloc_new w _
 have k1 : W.heap[n0 + 1]? = some (.cells #[.int .i64 cc,.string dd,.slice ua un uc] 87 (0,0)):=by
  rw [hW,hn0,Below.heap_alloc _ _ _ (by simp)]
  have:=heap_alloc_new (w.alloc (.cells #[.int .i64 (K : Int),.int .i64 (M : Int)] 27)) (.cells #[.int .i64 cc,.string dd,.slice ua un uc] 87 (0,0))
  simpa using this
 have k2 : SB6 W (n0 + 2) sx0:=by
  rw [hW,hn0]
  have:=heap_alloc_new ((w.alloc (.cells #[.int .i64 (K : Int),.int .i64 (M : Int)] 27)).alloc (.cells #[.int .i64 cc,.string dd,.slice ua un uc] 87)) (.cells #[.int .i64 0,.int .i64 0,.int .i64 0,.int .i64 0,.string ⟨#[]⟩,.string ⟨#[]⟩] 232 (0,0))
  simpa [SB6,Zq.six,sx0] using this
 have y0 : W.cell? ⟨n0 + 1,0,none⟩ = some (.int .i64 cc):=by simp [World.cell?,k1]
 have y1 : W.cell? ⟨n0 + 1,1,none⟩ = some (.string dd):=by simp [World.cell?,k1]
 have HW:=hide hW
 have HN:=hide hn0
 have HB:=hide hB
 have H0:=hide (And.intro k0 k2)
 by_cases hc : cc = 0
 case neg =>
  have HG : Hid (gdX K M i ⟨cc,dd,ll⟩ = none):=by show gdX K M i ⟨cc,dd,ll⟩ = none; rw [gdX,if_neg fun h => hc h.1]
  obtain ⟨V,hr,hS,hG⟩:=k2.store sx0
  have HE : Hid (Below w.heap.size w V):=hG.below hB hB.size (fun i e => by omega)
  have c0:=hS.cell (j:=0) rfl
  have c1:=hS.cell (j:=1) rfl
  have c2:=hS.cell (j:=2) rfl
  have c3:=hS.cell (j:=3) rfl
  have c4:=hS.cell (j:=4) rfl
  have c5:=hS.cell (j:=5) rfl
  simp only [sx0] at hr c0 c1 c2 c3 c4 c5
  clear k0 k1 k2 hW hn0 hB hS hG
  go_enter Tryz.func201,Tryz.ntmps201
  go_upto_region 1 with fail
  rw [← HW.out,← HN.out]
  go_wp2_with (refine wpList_store_run rfl 232 _ _ rfl _ _ rfl rfl hr ?_)
  exact bodyPost_ret (v:=.tuple #[.agg #[.int .i64 0,.int .i64 0,.int .i64 0,.int .i64 0,.string ⟨#[]⟩,.string ⟨#[]⟩],.bool false]) (by simp [results,Tryz.results201,go_sem,c0,c1,c2,c3,c4,c5]) rfl ⟨sx0,false,rfl,.inr ⟨rfl,HG.out⟩,HE.out⟩
 case pos =>
 subst hc
 have HL:=hide (And.intro k0 k2)
 have hsz : W.heap.size = n0 + 3:=by rw [hW,hn0]; simp
 have HSZ:=hide hsz
 have fin : Hid (∀ (V V' : World) (y : Zq.SX) (b : Bool),((b = true∧gdX K M i ⟨0,dd,ll⟩ = some y) ∨ (b = false∧gdX K M i ⟨0,dd,ll⟩ = none))→Below W.heap.size W V→SB6 V' (n0 + 2) y→Gs (fun i => i = n0 + 2) V V'→GR K M i ⟨0,dd,ll⟩ w (.returned (.tuple #[.agg #[.int .i64 y.k,.int .i64 y.m,.int .i64 y.i,.int .i64 y.long,.string y.id,.string y.data],.bool b])) V'):=fun V V' y b hb h1 h2 h3 =>
  ⟨y,b,rfl,hb,h3.below (hB.trans (h1.mono hB.size)) (Nat.le_trans hB.size h1.size) (fun i e => by omega)⟩
 have nxt : Hid (∀ (V1 : World) (y : Zq.SX),Below W.heap.size W V1→∃ V2,V2 = V1.alloc (.cells #[.int .i64 y.k,.int .i64 y.m,.int .i64 y.i,.int .i64 y.long,.string y.id,.string y.data] 232)∧SB6 V2 V1.heap.size y∧V2.heap[n0]? = some (.cells #[.int .i64 (K : Int),.int .i64 (M : Int)] 27 (0,0))∧SB6 V2 (n0 + 2) sx0∧Below W.heap.size W V2∧V1.heap.size ≠ n0 + 2):=fun V1 y hB1 => by
  have hs1:=hB1.size
  refine ⟨_,rfl,heap_alloc_new V1 _,?_,?_,hB1.alloc hs1 _,by omega⟩
  ·exact (Below.heap_alloc _ _ _ (by omega)).trans ((hB1.block n0 (by omega)).trans k0)
  ·exact (Below.heap_alloc _ _ _ (by omega)).trans ((hB1.block (n0 + 2) (by omega)).trans k2)
 by_cases hdec : Zq.decOK dd.data.toList
 ·have HD:=hide (Zq.decode_ok dd W hd hdec)
  clear k0 k1 k2 hW hn0 hB hsz
  go_enter Tryz.func201,Tryz.ntmps201
  go_upto_region 1 with fail
  rw [← HW.out,← HN.out]
  go_wp2_with fail
  refine HD.out.mono ?_
  rintro e V1 ⟨k,m,j,long,id,data,rfl,hdx,hB1⟩
  obtain ⟨y,hy⟩ : ∃ y : Zq.SX,y = ⟨k,m,j,long,id,data⟩:=⟨_,rfl⟩
  have e1 : (k : Int) = y.k:=by rw [hy]
  have e2 : (m : Int) = y.m:=by rw [hy]
  have e3 : (j : Int) = y.i:=by rw [hy]
  have e4 : (long : Int) = y.long:=by rw [hy]
  have e5 : id = y.id:=by rw [hy]
  have e6 : data = y.data:=by rw [hy]
  rw [← hy] at hdx
  rw [e1,e2,e3,e4,e5,e6]
  clear e1 e2 e3 e4 e5 e6 hy
  have hgd : gdX K M i ⟨0,dd,ll⟩ = if y.k = K∧y.m = M∧y.i = i then some y else none:=by
   rw [gdX,← hdx]
   by_cases h : y.k = K∧y.m = M∧y.i = i
   ·rw [if_pos h,if_pos ⟨rfl,hdec,h⟩]
   ·rw [if_neg h,if_neg fun h2 => h h2.2.2]
  clear hdx
  by_cases q1 : y.k = K
  ·by_cases q2 : y.m = M
   ·by_cases q3 : y.i = i
    ·have HGD : Hid (gdX K M i ⟨0,dd,ll⟩ = some y):=by show gdX K M i ⟨0,dd,ll⟩ = some y; rw [hgd,if_pos ⟨q1,q2,q3⟩]
     clear hgd
     have Q1:=hide q1
     have Q2:=hide q2
     have Q3:=hide q3
     clear q1 q2 q3
     obtain ⟨V2,hV2,hS2,hK2,hR2,hB2,hne⟩:=nxt.out V1 y hB1
     have hR2d : SB6 V2.drew (n0 + 2) sx0:=hR2
     obtain ⟨V3,hr3,hS3,hG3⟩:=hR2d.store y
     have hG3' : Gs (fun i => i = n0 + 2) V2 V3:=hG3.und
     have HE:=hide (fin.out V2 V3 y true (.inl ⟨rfl,HGD.out⟩) hB2 hS3 hG3')
     have c0:=hS3.cell (j:=0) rfl
     have c1:=hS3.cell (j:=1) rfl
     have c2:=hS3.cell (j:=2) rfl
     have c3:=hS3.cell (j:=3) rfl
     have c4:=hS3.cell (j:=4) rfl
     have c5:=hS3.cell (j:=5) rfl
     obtain ⟨x8,hx8⟩ : ∃ x8,x8 = V1.heap.size:=⟨_,rfl⟩
     rw [← hx8] at hS2 hne
     have HS0 : Hid (V2.drew.cell? ⟨x8,0,none⟩ = some (.int .i64 y.k)∧V2.drew.cell? ⟨x8,1,none⟩ = some (.int .i64 y.m)∧V2.drew.cell? ⟨x8,2,none⟩ = some (.int .i64 y.i)∧V2.drew.cell? ⟨x8,3,none⟩ = some (.int .i64 y.long)∧V2.drew.cell? ⟨x8,4,none⟩ = some (.string y.id)∧V2.drew.cell? ⟨x8,5,none⟩ = some (.string y.data)∧V2.drew.cell? ⟨n0,0,none⟩ = some (.int .i64 (K : Int))∧V2.drew.cell? ⟨n0,1,none⟩ = some (.int .i64 (M : Int))):=⟨hS2.cell (j:=0) rfl,hS2.cell (j:=1) rfl,hS2.cell (j:=2) rfl,hS2.cell (j:=3) rfl,hS2.cell (j:=4) rfl,hS2.cell (j:=5) rfl,(show V2.cell? ⟨n0,0,none⟩ = _ by simp [World.cell?,hK2]),(show V2.cell? ⟨n0,1,none⟩ = _ by simp [World.cell?,hK2])⟩
     have hS8 : SB6 V3 x8 y:=(hG3'.block x8 (lt_of_block hS2) hne).trans hS2
     have hK8:=(hG3'.block n0 (lt_of_block hK2) (by omega)).trans hK2
     have HS3 : Hid (V3.cell? ⟨x8,0,none⟩ = some (.int .i64 y.k)∧V3.cell? ⟨x8,1,none⟩ = some (.int .i64 y.m)∧V3.cell? ⟨x8,2,none⟩ = some (.int .i64 y.i)∧V3.cell? ⟨x8,3,none⟩ = some (.int .i64 y.long)∧V3.cell? ⟨x8,4,none⟩ = some (.string y.id)∧V3.cell? ⟨x8,5,none⟩ = some (.string y.data)∧V3.cell? ⟨n0,0,none⟩ = some (.int .i64 (K : Int))∧V3.cell? ⟨n0,1,none⟩ = some (.int .i64 (M : Int))):=⟨hS8.cell (j:=0) rfl,hS8.cell (j:=1) rfl,hS8.cell (j:=2) rfl,hS8.cell (j:=3) rfl,hS8.cell (j:=4) rfl,hS8.cell (j:=5) rfl,by simp [World.cell?,hK8],by simp [World.cell?,hK8]⟩
     have d0:=HS0.out.1
     have d1:=HS0.out.2.1
     have d2:=HS0.out.2.2.1
     have d3:=HS0.out.2.2.2.1
     have d4:=HS0.out.2.2.2.2.1
     have d5:=HS0.out.2.2.2.2.2.1
     have HV2:=hide (And.intro hV2 hx8)
     clear hV2 hS2 hK2 hR2 hR2d hB2 hS3 hG3 hG3' hne hx8 hB1 nxt fin HL H0 HB HD hS8 hK8 d0 d1 d2 d3 d4 d5
     go_upto_region 4 with fail
     rw [← HV2.out.1,← HV2.out.2]
     refine wp_region_noPanic ?_
     refine wp_region_held_drew (S:=fun w' => w'.cell? ⟨x8,0,none⟩ = some (.int .i64 y.k)∧w'.cell? ⟨x8,1,none⟩ = some (.int .i64 y.m)∧w'.cell? ⟨x8,2,none⟩ = some (.int .i64 y.i)∧w'.cell? ⟨x8,3,none⟩ = some (.int .i64 y.long)∧w'.cell? ⟨x8,4,none⟩ = some (.string y.id)∧w'.cell? ⟨x8,5,none⟩ = some (.string y.data)∧w'.cell? ⟨n0,0,none⟩ = some (.int .i64 (K : Int))∧w'.cell? ⟨n0,1,none⟩ = some (.int .i64 (M : Int))) (by kernel_rfl) HS0.out (fun hHeld => ?_)
     refine take_at (i:=0) (d:=20) (v:=.agg #[.int .i64 y.k,.int .i64 y.m,.int .i64 y.i,.int .i64 y.long,.string y.id,.string y.data]) rfl rfl (by kernel_rfl) (fun _ _ _ h => h) (Or.inl ⟨by rfl,fun w' hSw => ?_⟩) hHeld ?_
     ·obtain ⟨_,_,_,_,_,_,_,_⟩:=hSw
      go_simp
     try simp only [List.setIfInBounds_toArray,List.set_cons_zero,List.set_cons_succ]
     refine take_at (i:=1) (d:=21) (v:=.int .i64 0) rfl rfl (by kernel_rfl) (fun _ _ _ h => h) (Or.inl ⟨by rfl,fun w' hSw => ?_⟩) hHeld ?_
     ·obtain ⟨_,_,_,_,_,_,_,_⟩:=hSw
      go_simp
     try simp only [List.setIfInBounds_toArray,List.set_cons_zero,List.set_cons_succ]
     refine take_at (i:=2) (d:=22) (v:=.bool true) rfl rfl (by kernel_rfl) (fun _ _ _ h => h) (Or.inl ⟨by rfl,fun w' hSw => ?_⟩) hHeld ?_
     ·obtain ⟨_,_,_,_,_,_,_,_⟩:=hSw
      go_simp
     try simp only [List.setIfInBounds_toArray,List.set_cons_zero,List.set_cons_succ]
     refine take_at (i:=3) (d:=23) (v:=.bool true) rfl rfl (by kernel_rfl) (fun _ _ _ h => h) (Or.inl ⟨by rfl,fun w' hSw => ?_⟩) hHeld ?_
     ·obtain ⟨_,_,_,_,_,_,_,_⟩:=hSw
      go_simp
     try simp only [List.setIfInBounds_toArray,List.set_cons_zero,List.set_cons_succ]
     refine take_at (i:=4) (d:=24) (v:=.pointer (some ⟨x8,0,none⟩)) rfl rfl (by kernel_rfl) (fun _ _ _ h => h) (Or.inl ⟨by rfl,fun w' hSw => ?_⟩) hHeld ?_
     ·obtain ⟨_,_,_,_,_,_,_,_⟩:=hSw
      go_simp
     try simp only [List.setIfInBounds_toArray,List.set_cons_zero,List.set_cons_succ]
     refine take_at (i:=5) (d:=25) (v:=.int .i64 y.k) rfl rfl (by kernel_rfl) (fun _ _ _ h => h) (Or.inl ⟨by rfl,fun w' hSw => ?_⟩) hHeld ?_
     ·obtain ⟨_,_,_,_,_,_,_,_⟩:=hSw
      go_simp
     try simp only [List.setIfInBounds_toArray,List.set_cons_zero,List.set_cons_succ]
     refine take_at (i:=6) (d:=26) (v:=.pointer (some ⟨n0,0,none⟩)) rfl rfl (by kernel_rfl) (fun _ _ _ h => h) (Or.inl ⟨by rfl,fun w' hSw => ?_⟩) hHeld ?_
     ·obtain ⟨_,_,_,_,_,_,_,_⟩:=hSw
      go_simp
     try simp only [List.setIfInBounds_toArray,List.set_cons_zero,List.set_cons_succ]
     refine take_at (i:=7) (d:=27) (v:=.int .i64 (K : Int)) rfl rfl (by kernel_rfl) (fun _ _ _ h => h) (Or.inl ⟨by rfl,fun w' hSw => ?_⟩) hHeld ?_
     ·obtain ⟨_,_,_,_,_,_,_,_⟩:=hSw
      go_simp
     try simp only [List.setIfInBounds_toArray,List.set_cons_zero,List.set_cons_succ]
     refine take_at (i:=8) (d:=28) (v:=.bool true) rfl rfl (by kernel_rfl) (fun _ _ _ h => h) (Or.inl ⟨by rfl,fun w' hSw => ?_⟩) hHeld ?_
     ·obtain ⟨_,_,_,_,_,_,_,_⟩:=hSw
      have q1:=Q1.out
      go_simp
     try simp only [List.setIfInBounds_toArray,List.set_cons_zero,List.set_cons_succ]
     refine take_at (i:=9) (d:=29) (v:=.bool true) rfl rfl (by kernel_rfl) (fun _ _ _ h => h) (Or.inl ⟨by rfl,fun w' hSw => ?_⟩) hHeld ?_
     ·obtain ⟨_,_,_,_,_,_,_,_⟩:=hSw
      go_simp
     try simp only [List.setIfInBounds_toArray,List.set_cons_zero,List.set_cons_succ]
     refine take_at (i:=10) (d:=30) (v:=.bool true) rfl rfl (by kernel_rfl) (fun _ _ _ h => h) (Or.inl ⟨by rfl,fun w' hSw => ?_⟩) hHeld ?_
     ·obtain ⟨_,_,_,_,_,_,_,_⟩:=hSw
      go_simp
     try simp only [List.setIfInBounds_toArray,List.set_cons_zero,List.set_cons_succ]
     refine take_at (i:=11) (d:=31) (v:=.pointer (some ⟨x8,1,none⟩)) rfl rfl (by kernel_rfl) (fun _ _ _ h => h) (Or.inl ⟨by rfl,fun w' hSw => ?_⟩) hHeld ?_
     ·obtain ⟨_,_,_,_,_,_,_,_⟩:=hSw
      go_simp
     try simp only [List.setIfInBounds_toArray,List.set_cons_zero,List.set_cons_succ]
     refine take_at (i:=12) (d:=32) (v:=.int .i64 y.m) rfl rfl (by kernel_rfl) (fun _ _ _ h => h) (Or.inl ⟨by rfl,fun w' hSw => ?_⟩) hHeld ?_
     ·obtain ⟨_,_,_,_,_,_,_,_⟩:=hSw
      go_simp
     try simp only [List.setIfInBounds_toArray,List.set_cons_zero,List.set_cons_succ]
     refine take_at (i:=13) (d:=33) (v:=.pointer (some ⟨n0,1,none⟩)) rfl rfl (by kernel_rfl) (fun _ _ _ h => h) (Or.inl ⟨by rfl,fun w' hSw => ?_⟩) hHeld ?_
     ·obtain ⟨_,_,_,_,_,_,_,_⟩:=hSw
      go_simp
     try simp only [List.setIfInBounds_toArray,List.set_cons_zero,List.set_cons_succ]
     refine take_at (i:=14) (d:=34) (v:=.int .i64 (M : Int)) rfl rfl (by kernel_rfl) (fun _ _ _ h => h) (Or.inl ⟨by rfl,fun w' hSw => ?_⟩) hHeld ?_
     ·obtain ⟨_,_,_,_,_,_,_,_⟩:=hSw
      go_simp
     try simp only [List.setIfInBounds_toArray,List.set_cons_zero,List.set_cons_succ]
     refine take_at (i:=15) (d:=35) (v:=.bool true) rfl rfl (by kernel_rfl) (fun _ _ _ h => h) (Or.inl ⟨by rfl,fun w' hSw => ?_⟩) hHeld ?_
     ·obtain ⟨_,_,_,_,_,_,_,_⟩:=hSw
      have q2:=Q2.out
      go_simp
     try simp only [List.setIfInBounds_toArray,List.set_cons_zero,List.set_cons_succ]
     refine take_at (i:=16) (d:=36) (v:=.bool true) rfl rfl (by kernel_rfl) (fun _ _ _ h => h) (Or.inl ⟨by rfl,fun w' hSw => ?_⟩) hHeld ?_
     ·obtain ⟨_,_,_,_,_,_,_,_⟩:=hSw
      go_simp
     try simp only [List.setIfInBounds_toArray,List.set_cons_zero,List.set_cons_succ]
     refine take_at (i:=17) (d:=37) (v:=.bool true) rfl rfl (by kernel_rfl) (fun _ _ _ h => h) (Or.inl ⟨by rfl,fun w' hSw => ?_⟩) hHeld ?_
     ·obtain ⟨_,_,_,_,_,_,_,_⟩:=hSw
      go_simp
     try simp only [List.setIfInBounds_toArray,List.set_cons_zero,List.set_cons_succ]
     refine take_at (i:=18) (d:=38) (v:=.pointer (some ⟨x8,2,none⟩)) rfl rfl (by kernel_rfl) (fun _ _ _ h => h) (Or.inl ⟨by rfl,fun w' hSw => ?_⟩) hHeld ?_
     ·obtain ⟨_,_,_,_,_,_,_,_⟩:=hSw
      go_simp
     try simp only [List.setIfInBounds_toArray,List.set_cons_zero,List.set_cons_succ]
     refine take_at (i:=19) (d:=39) (v:=.int .i64 y.i) rfl rfl (by kernel_rfl) (fun _ _ _ h => h) (Or.inl ⟨by rfl,fun w' hSw => ?_⟩) hHeld ?_
     ·obtain ⟨_,_,_,_,_,_,_,_⟩:=hSw
      go_simp
     try simp only [List.setIfInBounds_toArray,List.set_cons_zero,List.set_cons_succ]
     refine take_at (i:=20) (d:=40) (v:=.int .i64 (i : Int)) rfl rfl (by kernel_rfl) (fun _ _ _ h => h) (Or.inl ⟨by rfl,fun w' hSw => ?_⟩) hHeld ?_
     ·obtain ⟨_,_,_,_,_,_,_,_⟩:=hSw
      go_simp
     try simp only [List.setIfInBounds_toArray,List.set_cons_zero,List.set_cons_succ]
     refine take_at (i:=21) (d:=41) (v:=.bool true) rfl rfl (by kernel_rfl) (fun _ _ _ h => h) (Or.inl ⟨by rfl,fun w' hSw => ?_⟩) hHeld ?_
     ·obtain ⟨_,_,_,_,_,_,_,_⟩:=hSw
      have q3:=Q3.out
      go_simp
     try simp only [List.setIfInBounds_toArray,List.set_cons_zero,List.set_cons_succ]
     refine take_at (i:=22) (d:=42) (v:=.bool true) rfl rfl (by kernel_rfl) (fun _ _ _ h => h) (Or.inl ⟨by rfl,fun w' hSw => ?_⟩) hHeld ?_
     ·obtain ⟨_,_,_,_,_,_,_,_⟩:=hSw
      go_simp
     try simp only [List.setIfInBounds_toArray,List.set_cons_zero,List.set_cons_succ]
     refine wpAnyH_ready (rs:=[23]) (by kernel_rfl) (by simp) ?_
     refine AllReadyH.cons rfl (fun K hK => ?_) AllReadyH.nil
     refine step_store_run rfl 232 _ _ rfl _ _ rfl rfl V3 hr3 ?_
     refine hK.out _ _ HS3.out (fun hHeld => ?_)
     clear hK K
     try simp only [Act.put]
     refine take_at (i:=24) (d:=7) (v:=.bool true) rfl rfl (by kernel_rfl) (fun _ _ _ h => h) (Or.inl ⟨by rfl,fun w' hSw => ?_⟩) hHeld ?_
     ·obtain ⟨_,_,_,_,_,_,_,_⟩:=hSw
      go_simp
     refine wpAnyH_done (by kernel_rfl) ?_ _
     refine NoPanic.normal ?_
     go_wp2
     exact bodyPost_ret (v:=.tuple #[.agg #[.int .i64 y.k,.int .i64 y.m,.int .i64 y.i,.int .i64 y.long,.string y.id,.string y.data],.bool true]) (by simp [results,Tryz.results201,go_sem,c0,c1,c2,c3,c4,c5]) rfl HE.out
    ·have HGD : Hid (gdX K M i ⟨0,dd,ll⟩ = none):=by show gdX K M i ⟨0,dd,ll⟩ = none; rw [hgd,if_neg fun h => q3 h.2.2]
     clear hgd
     have Q1:=hide q1
     have Q2:=hide q2
     have Q3:=hide q3
     clear q1 q2 q3
     obtain ⟨V2,hV2,hS2,hK2,hR2,hB2,hne⟩:=nxt.out V1 y hB1
     have hR2d : SB6 V2.drew (n0 + 2) sx0:=hR2
     obtain ⟨V3,hr3,hS3,hG3⟩:=hR2d.store y
     have hG3' : Gs (fun i => i = n0 + 2) V2 V3:=hG3.und
     have HE:=hide (fin.out V2 V3 y false (.inr ⟨rfl,HGD.out⟩) hB2 hS3 hG3')
     have c0:=hS3.cell (j:=0) rfl
     have c1:=hS3.cell (j:=1) rfl
     have c2:=hS3.cell (j:=2) rfl
     have c3:=hS3.cell (j:=3) rfl
     have c4:=hS3.cell (j:=4) rfl
     have c5:=hS3.cell (j:=5) rfl
     obtain ⟨x8,hx8⟩ : ∃ x8,x8 = V1.heap.size:=⟨_,rfl⟩
     rw [← hx8] at hS2 hne
     have HS0 : Hid (V2.drew.cell? ⟨x8,0,none⟩ = some (.int .i64 y.k)∧V2.drew.cell? ⟨x8,1,none⟩ = some (.int .i64 y.m)∧V2.drew.cell? ⟨x8,2,none⟩ = some (.int .i64 y.i)∧V2.drew.cell? ⟨x8,3,none⟩ = some (.int .i64 y.long)∧V2.drew.cell? ⟨x8,4,none⟩ = some (.string y.id)∧V2.drew.cell? ⟨x8,5,none⟩ = some (.string y.data)∧V2.drew.cell? ⟨n0,0,none⟩ = some (.int .i64 (K : Int))∧V2.drew.cell? ⟨n0,1,none⟩ = some (.int .i64 (M : Int))):=⟨hS2.cell (j:=0) rfl,hS2.cell (j:=1) rfl,hS2.cell (j:=2) rfl,hS2.cell (j:=3) rfl,hS2.cell (j:=4) rfl,hS2.cell (j:=5) rfl,(show V2.cell? ⟨n0,0,none⟩ = _ by simp [World.cell?,hK2]),(show V2.cell? ⟨n0,1,none⟩ = _ by simp [World.cell?,hK2])⟩
     have hS8 : SB6 V3 x8 y:=(hG3'.block x8 (lt_of_block hS2) hne).trans hS2
     have hK8:=(hG3'.block n0 (lt_of_block hK2) (by omega)).trans hK2
     have HS3 : Hid (V3.cell? ⟨x8,0,none⟩ = some (.int .i64 y.k)∧V3.cell? ⟨x8,1,none⟩ = some (.int .i64 y.m)∧V3.cell? ⟨x8,2,none⟩ = some (.int .i64 y.i)∧V3.cell? ⟨x8,3,none⟩ = some (.int .i64 y.long)∧V3.cell? ⟨x8,4,none⟩ = some (.string y.id)∧V3.cell? ⟨x8,5,none⟩ = some (.string y.data)∧V3.cell? ⟨n0,0,none⟩ = some (.int .i64 (K : Int))∧V3.cell? ⟨n0,1,none⟩ = some (.int .i64 (M : Int))):=⟨hS8.cell (j:=0) rfl,hS8.cell (j:=1) rfl,hS8.cell (j:=2) rfl,hS8.cell (j:=3) rfl,hS8.cell (j:=4) rfl,hS8.cell (j:=5) rfl,by simp [World.cell?,hK8],by simp [World.cell?,hK8]⟩
     have d0:=HS0.out.1
     have d1:=HS0.out.2.1
     have d2:=HS0.out.2.2.1
     have d3:=HS0.out.2.2.2.1
     have d4:=HS0.out.2.2.2.2.1
     have d5:=HS0.out.2.2.2.2.2.1
     have HV2:=hide (And.intro hV2 hx8)
     clear hV2 hS2 hK2 hR2 hR2d hB2 hS3 hG3 hG3' hne hx8 hB1 nxt fin HL H0 HB HD hS8 hK8 d0 d1 d2 d3 d4 d5
     go_upto_region 4 with fail
     rw [← HV2.out.1,← HV2.out.2]
     refine wp_region_noPanic ?_
     refine wp_region_held_drew (S:=fun w' => w'.cell? ⟨x8,0,none⟩ = some (.int .i64 y.k)∧w'.cell? ⟨x8,1,none⟩ = some (.int .i64 y.m)∧w'.cell? ⟨x8,2,none⟩ = some (.int .i64 y.i)∧w'.cell? ⟨x8,3,none⟩ = some (.int .i64 y.long)∧w'.cell? ⟨x8,4,none⟩ = some (.string y.id)∧w'.cell? ⟨x8,5,none⟩ = some (.string y.data)∧w'.cell? ⟨n0,0,none⟩ = some (.int .i64 (K : Int))∧w'.cell? ⟨n0,1,none⟩ = some (.int .i64 (M : Int))) (by kernel_rfl) HS0.out (fun hHeld => ?_)
     refine take_at (i:=0) (d:=20) (v:=.agg #[.int .i64 y.k,.int .i64 y.m,.int .i64 y.i,.int .i64 y.long,.string y.id,.string y.data]) rfl rfl (by kernel_rfl) (fun _ _ _ h => h) (Or.inl ⟨by rfl,fun w' hSw => ?_⟩) hHeld ?_
     ·obtain ⟨_,_,_,_,_,_,_,_⟩:=hSw
      go_simp
     try simp only [List.setIfInBounds_toArray,List.set_cons_zero,List.set_cons_succ]
     refine take_at (i:=1) (d:=21) (v:=.int .i64 0) rfl rfl (by kernel_rfl) (fun _ _ _ h => h) (Or.inl ⟨by rfl,fun w' hSw => ?_⟩) hHeld ?_
     ·obtain ⟨_,_,_,_,_,_,_,_⟩:=hSw
      go_simp
     try simp only [List.setIfInBounds_toArray,List.set_cons_zero,List.set_cons_succ]
     refine take_at (i:=2) (d:=22) (v:=.bool true) rfl rfl (by kernel_rfl) (fun _ _ _ h => h) (Or.inl ⟨by rfl,fun w' hSw => ?_⟩) hHeld ?_
     ·obtain ⟨_,_,_,_,_,_,_,_⟩:=hSw
      go_simp
     try simp only [List.setIfInBounds_toArray,List.set_cons_zero,List.set_cons_succ]
     refine take_at (i:=3) (d:=23) (v:=.bool true) rfl rfl (by kernel_rfl) (fun _ _ _ h => h) (Or.inl ⟨by rfl,fun w' hSw => ?_⟩) hHeld ?_
     ·obtain ⟨_,_,_,_,_,_,_,_⟩:=hSw
      go_simp
     try simp only [List.setIfInBounds_toArray,List.set_cons_zero,List.set_cons_succ]
     refine take_at (i:=4) (d:=24) (v:=.pointer (some ⟨x8,0,none⟩)) rfl rfl (by kernel_rfl) (fun _ _ _ h => h) (Or.inl ⟨by rfl,fun w' hSw => ?_⟩) hHeld ?_
     ·obtain ⟨_,_,_,_,_,_,_,_⟩:=hSw
      go_simp
     try simp only [List.setIfInBounds_toArray,List.set_cons_zero,List.set_cons_succ]
     refine take_at (i:=5) (d:=25) (v:=.int .i64 y.k) rfl rfl (by kernel_rfl) (fun _ _ _ h => h) (Or.inl ⟨by rfl,fun w' hSw => ?_⟩) hHeld ?_
     ·obtain ⟨_,_,_,_,_,_,_,_⟩:=hSw
      go_simp
     try simp only [List.setIfInBounds_toArray,List.set_cons_zero,List.set_cons_succ]
     refine take_at (i:=6) (d:=26) (v:=.pointer (some ⟨n0,0,none⟩)) rfl rfl (by kernel_rfl) (fun _ _ _ h => h) (Or.inl ⟨by rfl,fun w' hSw => ?_⟩) hHeld ?_
     ·obtain ⟨_,_,_,_,_,_,_,_⟩:=hSw
      go_simp
     try simp only [List.setIfInBounds_toArray,List.set_cons_zero,List.set_cons_succ]
     refine take_at (i:=7) (d:=27) (v:=.int .i64 (K : Int)) rfl rfl (by kernel_rfl) (fun _ _ _ h => h) (Or.inl ⟨by rfl,fun w' hSw => ?_⟩) hHeld ?_
     ·obtain ⟨_,_,_,_,_,_,_,_⟩:=hSw
      go_simp
     try simp only [List.setIfInBounds_toArray,List.set_cons_zero,List.set_cons_succ]
     refine take_at (i:=8) (d:=28) (v:=.bool true) rfl rfl (by kernel_rfl) (fun _ _ _ h => h) (Or.inl ⟨by rfl,fun w' hSw => ?_⟩) hHeld ?_
     ·obtain ⟨_,_,_,_,_,_,_,_⟩:=hSw
      have q1:=Q1.out
      go_simp
     try simp only [List.setIfInBounds_toArray,List.set_cons_zero,List.set_cons_succ]
     refine take_at (i:=9) (d:=29) (v:=.bool true) rfl rfl (by kernel_rfl) (fun _ _ _ h => h) (Or.inl ⟨by rfl,fun w' hSw => ?_⟩) hHeld ?_
     ·obtain ⟨_,_,_,_,_,_,_,_⟩:=hSw
      go_simp
     try simp only [List.setIfInBounds_toArray,List.set_cons_zero,List.set_cons_succ]
     refine take_at (i:=10) (d:=30) (v:=.bool true) rfl rfl (by kernel_rfl) (fun _ _ _ h => h) (Or.inl ⟨by rfl,fun w' hSw => ?_⟩) hHeld ?_
     ·obtain ⟨_,_,_,_,_,_,_,_⟩:=hSw
      go_simp
     try simp only [List.setIfInBounds_toArray,List.set_cons_zero,List.set_cons_succ]
     refine take_at (i:=11) (d:=31) (v:=.pointer (some ⟨x8,1,none⟩)) rfl rfl (by kernel_rfl) (fun _ _ _ h => h) (Or.inl ⟨by rfl,fun w' hSw => ?_⟩) hHeld ?_
     ·obtain ⟨_,_,_,_,_,_,_,_⟩:=hSw
      go_simp
     try simp only [List.setIfInBounds_toArray,List.set_cons_zero,List.set_cons_succ]
     refine take_at (i:=12) (d:=32) (v:=.int .i64 y.m) rfl rfl (by kernel_rfl) (fun _ _ _ h => h) (Or.inl ⟨by rfl,fun w' hSw => ?_⟩) hHeld ?_
     ·obtain ⟨_,_,_,_,_,_,_,_⟩:=hSw
      go_simp
     try simp only [List.setIfInBounds_toArray,List.set_cons_zero,List.set_cons_succ]
     refine take_at (i:=13) (d:=33) (v:=.pointer (some ⟨n0,1,none⟩)) rfl rfl (by kernel_rfl) (fun _ _ _ h => h) (Or.inl ⟨by rfl,fun w' hSw => ?_⟩) hHeld ?_
     ·obtain ⟨_,_,_,_,_,_,_,_⟩:=hSw
      go_simp
     try simp only [List.setIfInBounds_toArray,List.set_cons_zero,List.set_cons_succ]
     refine take_at (i:=14) (d:=34) (v:=.int .i64 (M : Int)) rfl rfl (by kernel_rfl) (fun _ _ _ h => h) (Or.inl ⟨by rfl,fun w' hSw => ?_⟩) hHeld ?_
     ·obtain ⟨_,_,_,_,_,_,_,_⟩:=hSw
      go_simp
     try simp only [List.setIfInBounds_toArray,List.set_cons_zero,List.set_cons_succ]
     refine take_at (i:=15) (d:=35) (v:=.bool true) rfl rfl (by kernel_rfl) (fun _ _ _ h => h) (Or.inl ⟨by rfl,fun w' hSw => ?_⟩) hHeld ?_
     ·obtain ⟨_,_,_,_,_,_,_,_⟩:=hSw
      have q2:=Q2.out
      go_simp
     try simp only [List.setIfInBounds_toArray,List.set_cons_zero,List.set_cons_succ]
     refine take_at (i:=16) (d:=36) (v:=.bool true) rfl rfl (by kernel_rfl) (fun _ _ _ h => h) (Or.inl ⟨by rfl,fun w' hSw => ?_⟩) hHeld ?_
     ·obtain ⟨_,_,_,_,_,_,_,_⟩:=hSw
      go_simp
     try simp only [List.setIfInBounds_toArray,List.set_cons_zero,List.set_cons_succ]
     refine take_at (i:=17) (d:=37) (v:=.bool true) rfl rfl (by kernel_rfl) (fun _ _ _ h => h) (Or.inl ⟨by rfl,fun w' hSw => ?_⟩) hHeld ?_
     ·obtain ⟨_,_,_,_,_,_,_,_⟩:=hSw
      go_simp
     try simp only [List.setIfInBounds_toArray,List.set_cons_zero,List.set_cons_succ]
     refine take_at (i:=18) (d:=38) (v:=.pointer (some ⟨x8,2,none⟩)) rfl rfl (by kernel_rfl) (fun _ _ _ h => h) (Or.inl ⟨by rfl,fun w' hSw => ?_⟩) hHeld ?_
     ·obtain ⟨_,_,_,_,_,_,_,_⟩:=hSw
      go_simp
     try simp only [List.setIfInBounds_toArray,List.set_cons_zero,List.set_cons_succ]
     refine take_at (i:=19) (d:=39) (v:=.int .i64 y.i) rfl rfl (by kernel_rfl) (fun _ _ _ h => h) (Or.inl ⟨by rfl,fun w' hSw => ?_⟩) hHeld ?_
     ·obtain ⟨_,_,_,_,_,_,_,_⟩:=hSw
      go_simp
     try simp only [List.setIfInBounds_toArray,List.set_cons_zero,List.set_cons_succ]
     refine take_at (i:=20) (d:=40) (v:=.int .i64 (i : Int)) rfl rfl (by kernel_rfl) (fun _ _ _ h => h) (Or.inl ⟨by rfl,fun w' hSw => ?_⟩) hHeld ?_
     ·obtain ⟨_,_,_,_,_,_,_,_⟩:=hSw
      go_simp
     try simp only [List.setIfInBounds_toArray,List.set_cons_zero,List.set_cons_succ]
     refine take_at (i:=21) (d:=41) (v:=.bool false) rfl rfl (by kernel_rfl) (fun _ _ _ h => h) (Or.inl ⟨by rfl,fun w' hSw => ?_⟩) hHeld ?_
     ·obtain ⟨_,_,_,_,_,_,_,_⟩:=hSw
      have q3:=Q3.out
      go_simp
     try simp only [List.setIfInBounds_toArray,List.set_cons_zero,List.set_cons_succ]
     refine take_at (i:=22) (d:=42) (v:=.bool false) rfl rfl (by kernel_rfl) (fun _ _ _ h => h) (Or.inl ⟨by rfl,fun w' hSw => ?_⟩) hHeld ?_
     ·obtain ⟨_,_,_,_,_,_,_,_⟩:=hSw
      go_simp
     try simp only [List.setIfInBounds_toArray,List.set_cons_zero,List.set_cons_succ]
     refine wpAnyH_ready (rs:=[23]) (by kernel_rfl) (by simp) ?_
     refine AllReadyH.cons rfl (fun K hK => ?_) AllReadyH.nil
     refine step_store_run rfl 232 _ _ rfl _ _ rfl rfl V3 hr3 ?_
     refine hK.out _ _ HS3.out (fun hHeld => ?_)
     clear hK K
     try simp only [Act.put]
     refine take_at (i:=24) (d:=7) (v:=.bool false) rfl rfl (by kernel_rfl) (fun _ _ _ h => h) (Or.inl ⟨by rfl,fun w' hSw => ?_⟩) hHeld ?_
     ·obtain ⟨_,_,_,_,_,_,_,_⟩:=hSw
      go_simp
     refine wpAnyH_done (by kernel_rfl) ?_ _
     refine NoPanic.normal ?_
     go_wp2
     exact bodyPost_ret (v:=.tuple #[.agg #[.int .i64 y.k,.int .i64 y.m,.int .i64 y.i,.int .i64 y.long,.string y.id,.string y.data],.bool false]) (by simp [results,Tryz.results201,go_sem,c0,c1,c2,c3,c4,c5]) rfl HE.out
   ·have HGD : Hid (gdX K M i ⟨0,dd,ll⟩ = none):=by show gdX K M i ⟨0,dd,ll⟩ = none; rw [hgd,if_neg fun h => q2 h.2.1]
    clear hgd
    have Q1:=hide q1
    have Q2:=hide q2
    clear q1 q2
    obtain ⟨V2,hV2,hS2,hK2,hR2,hB2,hne⟩:=nxt.out V1 y hB1
    have hR2d : SB6 V2.drew (n0 + 2) sx0:=hR2
    obtain ⟨V3,hr3,hS3,hG3⟩:=hR2d.store y
    have hG3' : Gs (fun i => i = n0 + 2) V2 V3:=hG3.und
    have HE:=hide (fin.out V2 V3 y false (.inr ⟨rfl,HGD.out⟩) hB2 hS3 hG3')
    have c0:=hS3.cell (j:=0) rfl
    have c1:=hS3.cell (j:=1) rfl
    have c2:=hS3.cell (j:=2) rfl
    have c3:=hS3.cell (j:=3) rfl
    have c4:=hS3.cell (j:=4) rfl
    have c5:=hS3.cell (j:=5) rfl
    obtain ⟨x8,hx8⟩ : ∃ x8,x8 = V1.heap.size:=⟨_,rfl⟩
    rw [← hx8] at hS2 hne
    have HS0 : Hid (V2.drew.cell? ⟨x8,0,none⟩ = some (.int .i64 y.k)∧V2.drew.cell? ⟨x8,1,none⟩ = some (.int .i64 y.m)∧V2.drew.cell? ⟨x8,2,none⟩ = some (.int .i64 y.i)∧V2.drew.cell? ⟨x8,3,none⟩ = some (.int .i64 y.long)∧V2.drew.cell? ⟨x8,4,none⟩ = some (.string y.id)∧V2.drew.cell? ⟨x8,5,none⟩ = some (.string y.data)∧V2.drew.cell? ⟨n0,0,none⟩ = some (.int .i64 (K : Int))∧V2.drew.cell? ⟨n0,1,none⟩ = some (.int .i64 (M : Int))):=⟨hS2.cell (j:=0) rfl,hS2.cell (j:=1) rfl,hS2.cell (j:=2) rfl,hS2.cell (j:=3) rfl,hS2.cell (j:=4) rfl,hS2.cell (j:=5) rfl,(show V2.cell? ⟨n0,0,none⟩ = _ by simp [World.cell?,hK2]),(show V2.cell? ⟨n0,1,none⟩ = _ by simp [World.cell?,hK2])⟩
    have hS8 : SB6 V3 x8 y:=(hG3'.block x8 (lt_of_block hS2) hne).trans hS2
    have hK8:=(hG3'.block n0 (lt_of_block hK2) (by omega)).trans hK2
    have HS3 : Hid (V3.cell? ⟨x8,0,none⟩ = some (.int .i64 y.k)∧V3.cell? ⟨x8,1,none⟩ = some (.int .i64 y.m)∧V3.cell? ⟨x8,2,none⟩ = some (.int .i64 y.i)∧V3.cell? ⟨x8,3,none⟩ = some (.int .i64 y.long)∧V3.cell? ⟨x8,4,none⟩ = some (.string y.id)∧V3.cell? ⟨x8,5,none⟩ = some (.string y.data)∧V3.cell? ⟨n0,0,none⟩ = some (.int .i64 (K : Int))∧V3.cell? ⟨n0,1,none⟩ = some (.int .i64 (M : Int))):=⟨hS8.cell (j:=0) rfl,hS8.cell (j:=1) rfl,hS8.cell (j:=2) rfl,hS8.cell (j:=3) rfl,hS8.cell (j:=4) rfl,hS8.cell (j:=5) rfl,by simp [World.cell?,hK8],by simp [World.cell?,hK8]⟩
    have d0:=HS0.out.1
    have d1:=HS0.out.2.1
    have d2:=HS0.out.2.2.1
    have d3:=HS0.out.2.2.2.1
    have d4:=HS0.out.2.2.2.2.1
    have d5:=HS0.out.2.2.2.2.2.1
    have HV2:=hide (And.intro hV2 hx8)
    clear hV2 hS2 hK2 hR2 hR2d hB2 hS3 hG3 hG3' hne hx8 hB1 nxt fin HL H0 HB HD hS8 hK8 d0 d1 d2 d3 d4 d5
    go_upto_region 4 with fail
    rw [← HV2.out.1,← HV2.out.2]
    refine wp_region_noPanic ?_
    refine wp_region_held_drew (S:=fun w' => w'.cell? ⟨x8,0,none⟩ = some (.int .i64 y.k)∧w'.cell? ⟨x8,1,none⟩ = some (.int .i64 y.m)∧w'.cell? ⟨x8,2,none⟩ = some (.int .i64 y.i)∧w'.cell? ⟨x8,3,none⟩ = some (.int .i64 y.long)∧w'.cell? ⟨x8,4,none⟩ = some (.string y.id)∧w'.cell? ⟨x8,5,none⟩ = some (.string y.data)∧w'.cell? ⟨n0,0,none⟩ = some (.int .i64 (K : Int))∧w'.cell? ⟨n0,1,none⟩ = some (.int .i64 (M : Int))) (by kernel_rfl) HS0.out (fun hHeld => ?_)
    refine take_at (i:=0) (d:=20) (v:=.agg #[.int .i64 y.k,.int .i64 y.m,.int .i64 y.i,.int .i64 y.long,.string y.id,.string y.data]) rfl rfl (by kernel_rfl) (fun _ _ _ h => h) (Or.inl ⟨by rfl,fun w' hSw => ?_⟩) hHeld ?_
    ·obtain ⟨_,_,_,_,_,_,_,_⟩:=hSw
     go_simp
    try simp only [List.setIfInBounds_toArray,List.set_cons_zero,List.set_cons_succ]
    refine take_at (i:=1) (d:=21) (v:=.int .i64 0) rfl rfl (by kernel_rfl) (fun _ _ _ h => h) (Or.inl ⟨by rfl,fun w' hSw => ?_⟩) hHeld ?_
    ·obtain ⟨_,_,_,_,_,_,_,_⟩:=hSw
     go_simp
    try simp only [List.setIfInBounds_toArray,List.set_cons_zero,List.set_cons_succ]
    refine take_at (i:=2) (d:=22) (v:=.bool true) rfl rfl (by kernel_rfl) (fun _ _ _ h => h) (Or.inl ⟨by rfl,fun w' hSw => ?_⟩) hHeld ?_
    ·obtain ⟨_,_,_,_,_,_,_,_⟩:=hSw
     go_simp
    try simp only [List.setIfInBounds_toArray,List.set_cons_zero,List.set_cons_succ]
    refine take_at (i:=3) (d:=23) (v:=.bool true) rfl rfl (by kernel_rfl) (fun _ _ _ h => h) (Or.inl ⟨by rfl,fun w' hSw => ?_⟩) hHeld ?_
    ·obtain ⟨_,_,_,_,_,_,_,_⟩:=hSw
     go_simp
    try simp only [List.setIfInBounds_toArray,List.set_cons_zero,List.set_cons_succ]
    refine take_at (i:=4) (d:=24) (v:=.pointer (some ⟨x8,0,none⟩)) rfl rfl (by kernel_rfl) (fun _ _ _ h => h) (Or.inl ⟨by rfl,fun w' hSw => ?_⟩) hHeld ?_
    ·obtain ⟨_,_,_,_,_,_,_,_⟩:=hSw
     go_simp
    try simp only [List.setIfInBounds_toArray,List.set_cons_zero,List.set_cons_succ]
    refine take_at (i:=5) (d:=25) (v:=.int .i64 y.k) rfl rfl (by kernel_rfl) (fun _ _ _ h => h) (Or.inl ⟨by rfl,fun w' hSw => ?_⟩) hHeld ?_
    ·obtain ⟨_,_,_,_,_,_,_,_⟩:=hSw
     go_simp
    try simp only [List.setIfInBounds_toArray,List.set_cons_zero,List.set_cons_succ]
    refine take_at (i:=6) (d:=26) (v:=.pointer (some ⟨n0,0,none⟩)) rfl rfl (by kernel_rfl) (fun _ _ _ h => h) (Or.inl ⟨by rfl,fun w' hSw => ?_⟩) hHeld ?_
    ·obtain ⟨_,_,_,_,_,_,_,_⟩:=hSw
     go_simp
    try simp only [List.setIfInBounds_toArray,List.set_cons_zero,List.set_cons_succ]
    refine take_at (i:=7) (d:=27) (v:=.int .i64 (K : Int)) rfl rfl (by kernel_rfl) (fun _ _ _ h => h) (Or.inl ⟨by rfl,fun w' hSw => ?_⟩) hHeld ?_
    ·obtain ⟨_,_,_,_,_,_,_,_⟩:=hSw
     go_simp
    try simp only [List.setIfInBounds_toArray,List.set_cons_zero,List.set_cons_succ]
    refine take_at (i:=8) (d:=28) (v:=.bool true) rfl rfl (by kernel_rfl) (fun _ _ _ h => h) (Or.inl ⟨by rfl,fun w' hSw => ?_⟩) hHeld ?_
    ·obtain ⟨_,_,_,_,_,_,_,_⟩:=hSw
     have q1:=Q1.out
     go_simp
    try simp only [List.setIfInBounds_toArray,List.set_cons_zero,List.set_cons_succ]
    refine take_at (i:=9) (d:=29) (v:=.bool true) rfl rfl (by kernel_rfl) (fun _ _ _ h => h) (Or.inl ⟨by rfl,fun w' hSw => ?_⟩) hHeld ?_
    ·obtain ⟨_,_,_,_,_,_,_,_⟩:=hSw
     go_simp
    try simp only [List.setIfInBounds_toArray,List.set_cons_zero,List.set_cons_succ]
    refine take_at (i:=10) (d:=30) (v:=.bool true) rfl rfl (by kernel_rfl) (fun _ _ _ h => h) (Or.inl ⟨by rfl,fun w' hSw => ?_⟩) hHeld ?_
    ·obtain ⟨_,_,_,_,_,_,_,_⟩:=hSw
     go_simp
    try simp only [List.setIfInBounds_toArray,List.set_cons_zero,List.set_cons_succ]
    refine take_at (i:=11) (d:=31) (v:=.pointer (some ⟨x8,1,none⟩)) rfl rfl (by kernel_rfl) (fun _ _ _ h => h) (Or.inl ⟨by rfl,fun w' hSw => ?_⟩) hHeld ?_
    ·obtain ⟨_,_,_,_,_,_,_,_⟩:=hSw
     go_simp
    try simp only [List.setIfInBounds_toArray,List.set_cons_zero,List.set_cons_succ]
    refine take_at (i:=12) (d:=32) (v:=.int .i64 y.m) rfl rfl (by kernel_rfl) (fun _ _ _ h => h) (Or.inl ⟨by rfl,fun w' hSw => ?_⟩) hHeld ?_
    ·obtain ⟨_,_,_,_,_,_,_,_⟩:=hSw
     go_simp
    try simp only [List.setIfInBounds_toArray,List.set_cons_zero,List.set_cons_succ]
    refine take_at (i:=13) (d:=33) (v:=.pointer (some ⟨n0,1,none⟩)) rfl rfl (by kernel_rfl) (fun _ _ _ h => h) (Or.inl ⟨by rfl,fun w' hSw => ?_⟩) hHeld ?_
    ·obtain ⟨_,_,_,_,_,_,_,_⟩:=hSw
     go_simp
    try simp only [List.setIfInBounds_toArray,List.set_cons_zero,List.set_cons_succ]
    refine take_at (i:=14) (d:=34) (v:=.int .i64 (M : Int)) rfl rfl (by kernel_rfl) (fun _ _ _ h => h) (Or.inl ⟨by rfl,fun w' hSw => ?_⟩) hHeld ?_
    ·obtain ⟨_,_,_,_,_,_,_,_⟩:=hSw
     go_simp
    try simp only [List.setIfInBounds_toArray,List.set_cons_zero,List.set_cons_succ]
    refine take_at (i:=15) (d:=35) (v:=.bool false) rfl rfl (by kernel_rfl) (fun _ _ _ h => h) (Or.inl ⟨by rfl,fun w' hSw => ?_⟩) hHeld ?_
    ·obtain ⟨_,_,_,_,_,_,_,_⟩:=hSw
     have q2:=Q2.out
     go_simp
    try simp only [List.setIfInBounds_toArray,List.set_cons_zero,List.set_cons_succ]
    refine take_at (i:=16) (d:=36) (v:=.bool false) rfl rfl (by kernel_rfl) (fun _ _ _ h => h) (Or.inl ⟨by rfl,fun w' hSw => ?_⟩) hHeld ?_
    ·obtain ⟨_,_,_,_,_,_,_,_⟩:=hSw
     go_simp
    try simp only [List.setIfInBounds_toArray,List.set_cons_zero,List.set_cons_succ]
    refine take_at (i:=17) (d:=37) (v:=.bool false) rfl rfl (by kernel_rfl) (fun _ _ _ h => h) (Or.inl ⟨by rfl,fun w' hSw => ?_⟩) hHeld ?_
    ·obtain ⟨_,_,_,_,_,_,_,_⟩:=hSw
     go_simp
    try simp only [List.setIfInBounds_toArray,List.set_cons_zero,List.set_cons_succ]
    refine take_at (i:=18) (d:=38) (v:=undef) rfl rfl (by kernel_rfl) (fun _ _ _ h => h) (Or.inr ⟨by rfl,rfl⟩) hHeld ?_
    try simp only [List.setIfInBounds_toArray,List.set_cons_zero,List.set_cons_succ]
    refine take_at (i:=19) (d:=39) (v:=undef) rfl rfl (by kernel_rfl) (fun _ _ _ h => h) (Or.inr ⟨by rfl,rfl⟩) hHeld ?_
    try simp only [List.setIfInBounds_toArray,List.set_cons_zero,List.set_cons_succ]
    refine take_at (i:=20) (d:=40) (v:=undef) rfl rfl (by kernel_rfl) (fun _ _ _ h => h) (Or.inr ⟨by rfl,rfl⟩) hHeld ?_
    try simp only [List.setIfInBounds_toArray,List.set_cons_zero,List.set_cons_succ]
    refine take_at (i:=21) (d:=41) (v:=undef) rfl rfl (by kernel_rfl) (fun _ _ _ h => h) (Or.inr ⟨by rfl,rfl⟩) hHeld ?_
    try simp only [List.setIfInBounds_toArray,List.set_cons_zero,List.set_cons_succ]
    refine take_at (i:=22) (d:=42) (v:=.bool false) rfl rfl (by kernel_rfl) (fun _ _ _ h => h) (Or.inl ⟨by rfl,fun w' hSw => ?_⟩) hHeld ?_
    ·obtain ⟨_,_,_,_,_,_,_,_⟩:=hSw
     go_simp
    try simp only [List.setIfInBounds_toArray,List.set_cons_zero,List.set_cons_succ]
    refine wpAnyH_ready (rs:=[23]) (by kernel_rfl) (by simp) ?_
    refine AllReadyH.cons rfl (fun K hK => ?_) AllReadyH.nil
    refine step_store_run rfl 232 _ _ rfl _ _ rfl rfl V3 hr3 ?_
    refine hK.out _ _ HS3.out (fun hHeld => ?_)
    clear hK K
    try simp only [Act.put]
    refine take_at (i:=24) (d:=7) (v:=.bool false) rfl rfl (by kernel_rfl) (fun _ _ _ h => h) (Or.inl ⟨by rfl,fun w' hSw => ?_⟩) hHeld ?_
    ·obtain ⟨_,_,_,_,_,_,_,_⟩:=hSw
     go_simp
    refine wpAnyH_done (by kernel_rfl) ?_ _
    refine NoPanic.normal ?_
    go_wp2
    exact bodyPost_ret (v:=.tuple #[.agg #[.int .i64 y.k,.int .i64 y.m,.int .i64 y.i,.int .i64 y.long,.string y.id,.string y.data],.bool false]) (by simp [results,Tryz.results201,go_sem,c0,c1,c2,c3,c4,c5]) rfl HE.out
  ·have HGD : Hid (gdX K M i ⟨0,dd,ll⟩ = none):=by show gdX K M i ⟨0,dd,ll⟩ = none; rw [hgd,if_neg fun h => q1 h.1]
   clear hgd
   have Q1:=hide q1
   clear q1
   obtain ⟨V2,hV2,hS2,hK2,hR2,hB2,hne⟩:=nxt.out V1 y hB1
   have hR2d : SB6 V2.drew (n0 + 2) sx0:=hR2
   obtain ⟨V3,hr3,hS3,hG3⟩:=hR2d.store y
   have hG3' : Gs (fun i => i = n0 + 2) V2 V3:=hG3.und
   have HE:=hide (fin.out V2 V3 y false (.inr ⟨rfl,HGD.out⟩) hB2 hS3 hG3')
   have c0:=hS3.cell (j:=0) rfl
   have c1:=hS3.cell (j:=1) rfl
   have c2:=hS3.cell (j:=2) rfl
   have c3:=hS3.cell (j:=3) rfl
   have c4:=hS3.cell (j:=4) rfl
   have c5:=hS3.cell (j:=5) rfl
   obtain ⟨x8,hx8⟩ : ∃ x8,x8 = V1.heap.size:=⟨_,rfl⟩
   rw [← hx8] at hS2 hne
   have HS0 : Hid (V2.drew.cell? ⟨x8,0,none⟩ = some (.int .i64 y.k)∧V2.drew.cell? ⟨x8,1,none⟩ = some (.int .i64 y.m)∧V2.drew.cell? ⟨x8,2,none⟩ = some (.int .i64 y.i)∧V2.drew.cell? ⟨x8,3,none⟩ = some (.int .i64 y.long)∧V2.drew.cell? ⟨x8,4,none⟩ = some (.string y.id)∧V2.drew.cell? ⟨x8,5,none⟩ = some (.string y.data)∧V2.drew.cell? ⟨n0,0,none⟩ = some (.int .i64 (K : Int))∧V2.drew.cell? ⟨n0,1,none⟩ = some (.int .i64 (M : Int))):=⟨hS2.cell (j:=0) rfl,hS2.cell (j:=1) rfl,hS2.cell (j:=2) rfl,hS2.cell (j:=3) rfl,hS2.cell (j:=4) rfl,hS2.cell (j:=5) rfl,(show V2.cell? ⟨n0,0,none⟩ = _ by simp [World.cell?,hK2]),(show V2.cell? ⟨n0,1,none⟩ = _ by simp [World.cell?,hK2])⟩
   have hS8 : SB6 V3 x8 y:=(hG3'.block x8 (lt_of_block hS2) hne).trans hS2
   have hK8:=(hG3'.block n0 (lt_of_block hK2) (by omega)).trans hK2
   have HS3 : Hid (V3.cell? ⟨x8,0,none⟩ = some (.int .i64 y.k)∧V3.cell? ⟨x8,1,none⟩ = some (.int .i64 y.m)∧V3.cell? ⟨x8,2,none⟩ = some (.int .i64 y.i)∧V3.cell? ⟨x8,3,none⟩ = some (.int .i64 y.long)∧V3.cell? ⟨x8,4,none⟩ = some (.string y.id)∧V3.cell? ⟨x8,5,none⟩ = some (.string y.data)∧V3.cell? ⟨n0,0,none⟩ = some (.int .i64 (K : Int))∧V3.cell? ⟨n0,1,none⟩ = some (.int .i64 (M : Int))):=⟨hS8.cell (j:=0) rfl,hS8.cell (j:=1) rfl,hS8.cell (j:=2) rfl,hS8.cell (j:=3) rfl,hS8.cell (j:=4) rfl,hS8.cell (j:=5) rfl,by simp [World.cell?,hK8],by simp [World.cell?,hK8]⟩
   have d0:=HS0.out.1
   have d1:=HS0.out.2.1
   have d2:=HS0.out.2.2.1
   have d3:=HS0.out.2.2.2.1
   have d4:=HS0.out.2.2.2.2.1
   have d5:=HS0.out.2.2.2.2.2.1
   have HV2:=hide (And.intro hV2 hx8)
   clear hV2 hS2 hK2 hR2 hR2d hB2 hS3 hG3 hG3' hne hx8 hB1 nxt fin HL H0 HB HD hS8 hK8 d0 d1 d2 d3 d4 d5
   go_upto_region 4 with fail
   rw [← HV2.out.1,← HV2.out.2]
   refine wp_region_noPanic ?_
   refine wp_region_held_drew (S:=fun w' => w'.cell? ⟨x8,0,none⟩ = some (.int .i64 y.k)∧w'.cell? ⟨x8,1,none⟩ = some (.int .i64 y.m)∧w'.cell? ⟨x8,2,none⟩ = some (.int .i64 y.i)∧w'.cell? ⟨x8,3,none⟩ = some (.int .i64 y.long)∧w'.cell? ⟨x8,4,none⟩ = some (.string y.id)∧w'.cell? ⟨x8,5,none⟩ = some (.string y.data)∧w'.cell? ⟨n0,0,none⟩ = some (.int .i64 (K : Int))∧w'.cell? ⟨n0,1,none⟩ = some (.int .i64 (M : Int))) (by kernel_rfl) HS0.out (fun hHeld => ?_)
   refine take_at (i:=0) (d:=20) (v:=.agg #[.int .i64 y.k,.int .i64 y.m,.int .i64 y.i,.int .i64 y.long,.string y.id,.string y.data]) rfl rfl (by kernel_rfl) (fun _ _ _ h => h) (Or.inl ⟨by rfl,fun w' hSw => ?_⟩) hHeld ?_
   ·obtain ⟨_,_,_,_,_,_,_,_⟩:=hSw
    go_simp
   try simp only [List.setIfInBounds_toArray,List.set_cons_zero,List.set_cons_succ]
   refine take_at (i:=1) (d:=21) (v:=.int .i64 0) rfl rfl (by kernel_rfl) (fun _ _ _ h => h) (Or.inl ⟨by rfl,fun w' hSw => ?_⟩) hHeld ?_
   ·obtain ⟨_,_,_,_,_,_,_,_⟩:=hSw
    go_simp
   try simp only [List.setIfInBounds_toArray,List.set_cons_zero,List.set_cons_succ]
   refine take_at (i:=2) (d:=22) (v:=.bool true) rfl rfl (by kernel_rfl) (fun _ _ _ h => h) (Or.inl ⟨by rfl,fun w' hSw => ?_⟩) hHeld ?_
   ·obtain ⟨_,_,_,_,_,_,_,_⟩:=hSw
    go_simp
   try simp only [List.setIfInBounds_toArray,List.set_cons_zero,List.set_cons_succ]
   refine take_at (i:=3) (d:=23) (v:=.bool true) rfl rfl (by kernel_rfl) (fun _ _ _ h => h) (Or.inl ⟨by rfl,fun w' hSw => ?_⟩) hHeld ?_
   ·obtain ⟨_,_,_,_,_,_,_,_⟩:=hSw
    go_simp
   try simp only [List.setIfInBounds_toArray,List.set_cons_zero,List.set_cons_succ]
   refine take_at (i:=4) (d:=24) (v:=.pointer (some ⟨x8,0,none⟩)) rfl rfl (by kernel_rfl) (fun _ _ _ h => h) (Or.inl ⟨by rfl,fun w' hSw => ?_⟩) hHeld ?_
   ·obtain ⟨_,_,_,_,_,_,_,_⟩:=hSw
    go_simp
   try simp only [List.setIfInBounds_toArray,List.set_cons_zero,List.set_cons_succ]
   refine take_at (i:=5) (d:=25) (v:=.int .i64 y.k) rfl rfl (by kernel_rfl) (fun _ _ _ h => h) (Or.inl ⟨by rfl,fun w' hSw => ?_⟩) hHeld ?_
   ·obtain ⟨_,_,_,_,_,_,_,_⟩:=hSw
    go_simp
   try simp only [List.setIfInBounds_toArray,List.set_cons_zero,List.set_cons_succ]
   refine take_at (i:=6) (d:=26) (v:=.pointer (some ⟨n0,0,none⟩)) rfl rfl (by kernel_rfl) (fun _ _ _ h => h) (Or.inl ⟨by rfl,fun w' hSw => ?_⟩) hHeld ?_
   ·obtain ⟨_,_,_,_,_,_,_,_⟩:=hSw
    go_simp
   try simp only [List.setIfInBounds_toArray,List.set_cons_zero,List.set_cons_succ]
   refine take_at (i:=7) (d:=27) (v:=.int .i64 (K : Int)) rfl rfl (by kernel_rfl) (fun _ _ _ h => h) (Or.inl ⟨by rfl,fun w' hSw => ?_⟩) hHeld ?_
   ·obtain ⟨_,_,_,_,_,_,_,_⟩:=hSw
    go_simp
   try simp only [List.setIfInBounds_toArray,List.set_cons_zero,List.set_cons_succ]
   refine take_at (i:=8) (d:=28) (v:=.bool false) rfl rfl (by kernel_rfl) (fun _ _ _ h => h) (Or.inl ⟨by rfl,fun w' hSw => ?_⟩) hHeld ?_
   ·obtain ⟨_,_,_,_,_,_,_,_⟩:=hSw
    have q1:=Q1.out
    go_simp
   try simp only [List.setIfInBounds_toArray,List.set_cons_zero,List.set_cons_succ]
   refine take_at (i:=9) (d:=29) (v:=.bool false) rfl rfl (by kernel_rfl) (fun _ _ _ h => h) (Or.inl ⟨by rfl,fun w' hSw => ?_⟩) hHeld ?_
   ·obtain ⟨_,_,_,_,_,_,_,_⟩:=hSw
    go_simp
   try simp only [List.setIfInBounds_toArray,List.set_cons_zero,List.set_cons_succ]
   refine take_at (i:=10) (d:=30) (v:=.bool false) rfl rfl (by kernel_rfl) (fun _ _ _ h => h) (Or.inl ⟨by rfl,fun w' hSw => ?_⟩) hHeld ?_
   ·obtain ⟨_,_,_,_,_,_,_,_⟩:=hSw
    go_simp
   try simp only [List.setIfInBounds_toArray,List.set_cons_zero,List.set_cons_succ]
   refine take_at (i:=11) (d:=31) (v:=undef) rfl rfl (by kernel_rfl) (fun _ _ _ h => h) (Or.inr ⟨by rfl,rfl⟩) hHeld ?_
   try simp only [List.setIfInBounds_toArray,List.set_cons_zero,List.set_cons_succ]
   refine take_at (i:=12) (d:=32) (v:=undef) rfl rfl (by kernel_rfl) (fun _ _ _ h => h) (Or.inr ⟨by rfl,rfl⟩) hHeld ?_
   try simp only [List.setIfInBounds_toArray,List.set_cons_zero,List.set_cons_succ]
   refine take_at (i:=13) (d:=33) (v:=undef) rfl rfl (by kernel_rfl) (fun _ _ _ h => h) (Or.inr ⟨by rfl,rfl⟩) hHeld ?_
   try simp only [List.setIfInBounds_toArray,List.set_cons_zero,List.set_cons_succ]
   refine take_at (i:=14) (d:=34) (v:=undef) rfl rfl (by kernel_rfl) (fun _ _ _ h => h) (Or.inr ⟨by rfl,rfl⟩) hHeld ?_
   try simp only [List.setIfInBounds_toArray,List.set_cons_zero,List.set_cons_succ]
   refine take_at (i:=15) (d:=35) (v:=undef) rfl rfl (by kernel_rfl) (fun _ _ _ h => h) (Or.inr ⟨by rfl,rfl⟩) hHeld ?_
   try simp only [List.setIfInBounds_toArray,List.set_cons_zero,List.set_cons_succ]
   refine take_at (i:=16) (d:=36) (v:=.bool false) rfl rfl (by kernel_rfl) (fun _ _ _ h => h) (Or.inl ⟨by rfl,fun w' hSw => ?_⟩) hHeld ?_
   ·obtain ⟨_,_,_,_,_,_,_,_⟩:=hSw
    go_simp
   try simp only [List.setIfInBounds_toArray,List.set_cons_zero,List.set_cons_succ]
   refine take_at (i:=17) (d:=37) (v:=.bool false) rfl rfl (by kernel_rfl) (fun _ _ _ h => h) (Or.inl ⟨by rfl,fun w' hSw => ?_⟩) hHeld ?_
   ·obtain ⟨_,_,_,_,_,_,_,_⟩:=hSw
    go_simp
   try simp only [List.setIfInBounds_toArray,List.set_cons_zero,List.set_cons_succ]
   refine take_at (i:=18) (d:=38) (v:=undef) rfl rfl (by kernel_rfl) (fun _ _ _ h => h) (Or.inr ⟨by rfl,rfl⟩) hHeld ?_
   try simp only [List.setIfInBounds_toArray,List.set_cons_zero,List.set_cons_succ]
   refine take_at (i:=19) (d:=39) (v:=undef) rfl rfl (by kernel_rfl) (fun _ _ _ h => h) (Or.inr ⟨by rfl,rfl⟩) hHeld ?_
   try simp only [List.setIfInBounds_toArray,List.set_cons_zero,List.set_cons_succ]
   refine take_at (i:=20) (d:=40) (v:=undef) rfl rfl (by kernel_rfl) (fun _ _ _ h => h) (Or.inr ⟨by rfl,rfl⟩) hHeld ?_
   try simp only [List.setIfInBounds_toArray,List.set_cons_zero,List.set_cons_succ]
   refine take_at (i:=21) (d:=41) (v:=undef) rfl rfl (by kernel_rfl) (fun _ _ _ h => h) (Or.inr ⟨by rfl,rfl⟩) hHeld ?_
   try simp only [List.setIfInBounds_toArray,List.set_cons_zero,List.set_cons_succ]
   refine take_at (i:=22) (d:=42) (v:=.bool false) rfl rfl (by kernel_rfl) (fun _ _ _ h => h) (Or.inl ⟨by rfl,fun w' hSw => ?_⟩) hHeld ?_
   ·obtain ⟨_,_,_,_,_,_,_,_⟩:=hSw
    go_simp
   try simp only [List.setIfInBounds_toArray,List.set_cons_zero,List.set_cons_succ]
   refine wpAnyH_ready (rs:=[23]) (by kernel_rfl) (by simp) ?_
   refine AllReadyH.cons rfl (fun K hK => ?_) AllReadyH.nil
   refine step_store_run rfl 232 _ _ rfl _ _ rfl rfl V3 hr3 ?_
   refine hK.out _ _ HS3.out (fun hHeld => ?_)
   clear hK K
   try simp only [Act.put]
   refine take_at (i:=24) (d:=7) (v:=.bool false) rfl rfl (by kernel_rfl) (fun _ _ _ h => h) (Or.inl ⟨by rfl,fun w' hSw => ?_⟩) hHeld ?_
   ·obtain ⟨_,_,_,_,_,_,_,_⟩:=hSw
    go_simp
   refine wpAnyH_done (by kernel_rfl) ?_ _
   refine NoPanic.normal ?_
   go_wp2
   exact bodyPost_ret (v:=.tuple #[.agg #[.int .i64 y.k,.int .i64 y.m,.int .i64 y.i,.int .i64 y.long,.string y.id,.string y.data],.bool false]) (by simp [results,Tryz.results201,go_sem,c0,c1,c2,c3,c4,c5]) rfl HE.out
 ·have HD:=hide (Zq.decode_bad dd W hd hdec)
  have HGD : Hid (gdX K M i ⟨0,dd,ll⟩ = none):=by show gdX K M i ⟨0,dd,ll⟩ = none; rw [gdX,if_neg fun h => hdec h.2.1]
  clear k0 k1 k2 hW hn0 hB hsz
  go_enter Tryz.func201,Tryz.ntmps201
  go_upto_region 1 with fail
  rw [← HW.out,← HN.out]
  go_wp2_with fail
  refine HD.out.mono ?_
  rintro e V1 ⟨rfl,hB1⟩
  obtain ⟨y,hy⟩ : ∃ y : Zq.SX,y = sx0:=⟨_,rfl⟩
  have e1 : (0 : Int) = y.k:=by rw [hy]; rfl
  have e7 : (Value.agg #[.int .i64 0,.int .i64 0,.int .i64 0,.int .i64 0,.string ⟨#[]⟩,.string ⟨#[]⟩]) = .agg #[.int .i64 y.k,.int .i64 y.m,.int .i64 y.i,.int .i64 y.long,.string y.id,.string y.data]:=by rw [hy]; rfl
  rw [e7]
  clear e1 e7 hy
  obtain ⟨V2,hV2,hS2,hK2,hR2,hB2,hne⟩:=nxt.out V1 y hB1
  have hR2d : SB6 V2.drew (n0 + 2) sx0:=hR2
  obtain ⟨V3,hr3,hS3,hG3⟩:=hR2d.store y
  have hG3' : Gs (fun i => i = n0 + 2) V2 V3:=hG3.und
  have HE:=hide (fin.out V2 V3 y false (.inr ⟨rfl,HGD.out⟩) hB2 hS3 hG3')
  have c0:=hS3.cell (j:=0) rfl
  have c1:=hS3.cell (j:=1) rfl
  have c2:=hS3.cell (j:=2) rfl
  have c3:=hS3.cell (j:=3) rfl
  have c4:=hS3.cell (j:=4) rfl
  have c5:=hS3.cell (j:=5) rfl
  obtain ⟨x8,hx8⟩ : ∃ x8,x8 = V1.heap.size:=⟨_,rfl⟩
  rw [← hx8] at hS2 hne
  have HS0 : Hid (V2.drew.cell? ⟨x8,0,none⟩ = some (.int .i64 y.k)∧V2.drew.cell? ⟨x8,1,none⟩ = some (.int .i64 y.m)∧V2.drew.cell? ⟨x8,2,none⟩ = some (.int .i64 y.i)∧V2.drew.cell? ⟨x8,3,none⟩ = some (.int .i64 y.long)∧V2.drew.cell? ⟨x8,4,none⟩ = some (.string y.id)∧V2.drew.cell? ⟨x8,5,none⟩ = some (.string y.data)∧V2.drew.cell? ⟨n0,0,none⟩ = some (.int .i64 (K : Int))∧V2.drew.cell? ⟨n0,1,none⟩ = some (.int .i64 (M : Int))):=⟨hS2.cell (j:=0) rfl,hS2.cell (j:=1) rfl,hS2.cell (j:=2) rfl,hS2.cell (j:=3) rfl,hS2.cell (j:=4) rfl,hS2.cell (j:=5) rfl,(show V2.cell? ⟨n0,0,none⟩ = _ by simp [World.cell?,hK2]),(show V2.cell? ⟨n0,1,none⟩ = _ by simp [World.cell?,hK2])⟩
  have hS8 : SB6 V3 x8 y:=(hG3'.block x8 (lt_of_block hS2) hne).trans hS2
  have hK8:=(hG3'.block n0 (lt_of_block hK2) (by omega)).trans hK2
  have HS3 : Hid (V3.cell? ⟨x8,0,none⟩ = some (.int .i64 y.k)∧V3.cell? ⟨x8,1,none⟩ = some (.int .i64 y.m)∧V3.cell? ⟨x8,2,none⟩ = some (.int .i64 y.i)∧V3.cell? ⟨x8,3,none⟩ = some (.int .i64 y.long)∧V3.cell? ⟨x8,4,none⟩ = some (.string y.id)∧V3.cell? ⟨x8,5,none⟩ = some (.string y.data)∧V3.cell? ⟨n0,0,none⟩ = some (.int .i64 (K : Int))∧V3.cell? ⟨n0,1,none⟩ = some (.int .i64 (M : Int))):=⟨hS8.cell (j:=0) rfl,hS8.cell (j:=1) rfl,hS8.cell (j:=2) rfl,hS8.cell (j:=3) rfl,hS8.cell (j:=4) rfl,hS8.cell (j:=5) rfl,by simp [World.cell?,hK8],by simp [World.cell?,hK8]⟩
  have d0:=HS0.out.1
  have d1:=HS0.out.2.1
  have d2:=HS0.out.2.2.1
  have d3:=HS0.out.2.2.2.1
  have d4:=HS0.out.2.2.2.2.1
  have d5:=HS0.out.2.2.2.2.2.1
  have HV2:=hide (And.intro hV2 hx8)
  clear hV2 hS2 hK2 hR2 hR2d hB2 hS3 hG3 hG3' hne hx8 hB1 nxt fin HL H0 HB HD hS8 hK8 d0 d1 d2 d3 d4 d5
  go_upto_region 4 with fail
  rw [← HV2.out.1,← HV2.out.2]
  refine wp_region_noPanic ?_
  refine wp_region_held_drew (S:=fun w' => w'.cell? ⟨x8,0,none⟩ = some (.int .i64 y.k)∧w'.cell? ⟨x8,1,none⟩ = some (.int .i64 y.m)∧w'.cell? ⟨x8,2,none⟩ = some (.int .i64 y.i)∧w'.cell? ⟨x8,3,none⟩ = some (.int .i64 y.long)∧w'.cell? ⟨x8,4,none⟩ = some (.string y.id)∧w'.cell? ⟨x8,5,none⟩ = some (.string y.data)∧w'.cell? ⟨n0,0,none⟩ = some (.int .i64 (K : Int))∧w'.cell? ⟨n0,1,none⟩ = some (.int .i64 (M : Int))) (by kernel_rfl) HS0.out (fun hHeld => ?_)
  refine take_at (i:=0) (d:=20) (v:=.agg #[.int .i64 y.k,.int .i64 y.m,.int .i64 y.i,.int .i64 y.long,.string y.id,.string y.data]) rfl rfl (by kernel_rfl) (fun _ _ _ h => h) (Or.inl ⟨by rfl,fun w' hSw => ?_⟩) hHeld ?_
  ·obtain ⟨_,_,_,_,_,_,_,_⟩:=hSw
   go_simp
  try simp only [List.setIfInBounds_toArray,List.set_cons_zero,List.set_cons_succ]
  refine take_at (i:=1) (d:=21) (v:=.int .i64 60) rfl rfl (by kernel_rfl) (fun _ _ _ h => h) (Or.inl ⟨by rfl,fun w' hSw => ?_⟩) hHeld ?_
  ·obtain ⟨_,_,_,_,_,_,_,_⟩:=hSw
   go_simp
  try simp only [List.setIfInBounds_toArray,List.set_cons_zero,List.set_cons_succ]
  refine take_at (i:=2) (d:=22) (v:=.bool false) rfl rfl (by kernel_rfl) (fun _ _ _ h => h) (Or.inl ⟨by rfl,fun w' hSw => ?_⟩) hHeld ?_
  ·obtain ⟨_,_,_,_,_,_,_,_⟩:=hSw
   go_simp
  try simp only [List.setIfInBounds_toArray,List.set_cons_zero,List.set_cons_succ]
  refine take_at (i:=3) (d:=23) (v:=.bool false) rfl rfl (by kernel_rfl) (fun _ _ _ h => h) (Or.inl ⟨by rfl,fun w' hSw => ?_⟩) hHeld ?_
  ·obtain ⟨_,_,_,_,_,_,_,_⟩:=hSw
   go_simp
  try simp only [List.setIfInBounds_toArray,List.set_cons_zero,List.set_cons_succ]
  refine take_at (i:=4) (d:=24) (v:=undef) rfl rfl (by kernel_rfl) (fun _ _ _ h => h) (Or.inr ⟨by rfl,rfl⟩) hHeld ?_
  try simp only [List.setIfInBounds_toArray,List.set_cons_zero,List.set_cons_succ]
  refine take_at (i:=5) (d:=25) (v:=undef) rfl rfl (by kernel_rfl) (fun _ _ _ h => h) (Or.inr ⟨by rfl,rfl⟩) hHeld ?_
  try simp only [List.setIfInBounds_toArray,List.set_cons_zero,List.set_cons_succ]
  refine take_at (i:=6) (d:=26) (v:=undef) rfl rfl (by kernel_rfl) (fun _ _ _ h => h) (Or.inr ⟨by rfl,rfl⟩) hHeld ?_
  try simp only [List.setIfInBounds_toArray,List.set_cons_zero,List.set_cons_succ]
  refine take_at (i:=7) (d:=27) (v:=undef) rfl rfl (by kernel_rfl) (fun _ _ _ h => h) (Or.inr ⟨by rfl,rfl⟩) hHeld ?_
  try simp only [List.setIfInBounds_toArray,List.set_cons_zero,List.set_cons_succ]
  refine take_at (i:=8) (d:=28) (v:=undef) rfl rfl (by kernel_rfl) (fun _ _ _ h => h) (Or.inr ⟨by rfl,rfl⟩) hHeld ?_
  try simp only [List.setIfInBounds_toArray,List.set_cons_zero,List.set_cons_succ]
  refine take_at (i:=9) (d:=29) (v:=.bool false) rfl rfl (by kernel_rfl) (fun _ _ _ h => h) (Or.inl ⟨by rfl,fun w' hSw => ?_⟩) hHeld ?_
  ·obtain ⟨_,_,_,_,_,_,_,_⟩:=hSw
   go_simp
  try simp only [List.setIfInBounds_toArray,List.set_cons_zero,List.set_cons_succ]
  refine take_at (i:=10) (d:=30) (v:=.bool false) rfl rfl (by kernel_rfl) (fun _ _ _ h => h) (Or.inl ⟨by rfl,fun w' hSw => ?_⟩) hHeld ?_
  ·obtain ⟨_,_,_,_,_,_,_,_⟩:=hSw
   go_simp
  try simp only [List.setIfInBounds_toArray,List.set_cons_zero,List.set_cons_succ]
  refine take_at (i:=11) (d:=31) (v:=undef) rfl rfl (by kernel_rfl) (fun _ _ _ h => h) (Or.inr ⟨by rfl,rfl⟩) hHeld ?_
  try simp only [List.setIfInBounds_toArray,List.set_cons_zero,List.set_cons_succ]
  refine take_at (i:=12) (d:=32) (v:=undef) rfl rfl (by kernel_rfl) (fun _ _ _ h => h) (Or.inr ⟨by rfl,rfl⟩) hHeld ?_
  try simp only [List.setIfInBounds_toArray,List.set_cons_zero,List.set_cons_succ]
  refine take_at (i:=13) (d:=33) (v:=undef) rfl rfl (by kernel_rfl) (fun _ _ _ h => h) (Or.inr ⟨by rfl,rfl⟩) hHeld ?_
  try simp only [List.setIfInBounds_toArray,List.set_cons_zero,List.set_cons_succ]
  refine take_at (i:=14) (d:=34) (v:=undef) rfl rfl (by kernel_rfl) (fun _ _ _ h => h) (Or.inr ⟨by rfl,rfl⟩) hHeld ?_
  try simp only [List.setIfInBounds_toArray,List.set_cons_zero,List.set_cons_succ]
  refine take_at (i:=15) (d:=35) (v:=undef) rfl rfl (by kernel_rfl) (fun _ _ _ h => h) (Or.inr ⟨by rfl,rfl⟩) hHeld ?_
  try simp only [List.setIfInBounds_toArray,List.set_cons_zero,List.set_cons_succ]
  refine take_at (i:=16) (d:=36) (v:=.bool false) rfl rfl (by kernel_rfl) (fun _ _ _ h => h) (Or.inl ⟨by rfl,fun w' hSw => ?_⟩) hHeld ?_
  ·obtain ⟨_,_,_,_,_,_,_,_⟩:=hSw
   go_simp
  try simp only [List.setIfInBounds_toArray,List.set_cons_zero,List.set_cons_succ]
  refine take_at (i:=17) (d:=37) (v:=.bool false) rfl rfl (by kernel_rfl) (fun _ _ _ h => h) (Or.inl ⟨by rfl,fun w' hSw => ?_⟩) hHeld ?_
  ·obtain ⟨_,_,_,_,_,_,_,_⟩:=hSw
   go_simp
  try simp only [List.setIfInBounds_toArray,List.set_cons_zero,List.set_cons_succ]
  refine take_at (i:=18) (d:=38) (v:=undef) rfl rfl (by kernel_rfl) (fun _ _ _ h => h) (Or.inr ⟨by rfl,rfl⟩) hHeld ?_
  try simp only [List.setIfInBounds_toArray,List.set_cons_zero,List.set_cons_succ]
  refine take_at (i:=19) (d:=39) (v:=undef) rfl rfl (by kernel_rfl) (fun _ _ _ h => h) (Or.inr ⟨by rfl,rfl⟩) hHeld ?_
  try simp only [List.setIfInBounds_toArray,List.set_cons_zero,List.set_cons_succ]
  refine take_at (i:=20) (d:=40) (v:=undef) rfl rfl (by kernel_rfl) (fun _ _ _ h => h) (Or.inr ⟨by rfl,rfl⟩) hHeld ?_
  try simp only [List.setIfInBounds_toArray,List.set_cons_zero,List.set_cons_succ]
  refine take_at (i:=21) (d:=41) (v:=undef) rfl rfl (by kernel_rfl) (fun _ _ _ h => h) (Or.inr ⟨by rfl,rfl⟩) hHeld ?_
  try simp only [List.setIfInBounds_toArray,List.set_cons_zero,List.set_cons_succ]
  refine take_at (i:=22) (d:=42) (v:=.bool false) rfl rfl (by kernel_rfl) (fun _ _ _ h => h) (Or.inl ⟨by rfl,fun w' hSw => ?_⟩) hHeld ?_
  ·obtain ⟨_,_,_,_,_,_,_,_⟩:=hSw
   go_simp
  try simp only [List.setIfInBounds_toArray,List.set_cons_zero,List.set_cons_succ]
  refine wpAnyH_ready (rs:=[23]) (by kernel_rfl) (by simp) ?_
  refine AllReadyH.cons rfl (fun K hK => ?_) AllReadyH.nil
  refine step_store_run rfl 232 _ _ rfl _ _ rfl rfl V3 hr3 ?_
  refine hK.out _ _ HS3.out (fun hHeld => ?_)
  clear hK K
  try simp only [Act.put]
  refine take_at (i:=24) (d:=7) (v:=.bool false) rfl rfl (by kernel_rfl) (fun _ _ _ h => h) (Or.inl ⟨by rfl,fun w' hSw => ?_⟩) hHeld ?_
  ·obtain ⟨_,_,_,_,_,_,_,_⟩:=hSw
   go_simp
  refine wpAnyH_done (by kernel_rfl) ?_ _
  refine NoPanic.normal ?_
  go_wp2
  exact bodyPost_ret (v:=.tuple #[.agg #[.int .i64 y.k,.int .i64 y.m,.int .i64 y.i,.int .i64 y.long,.string y.id,.string y.data],.bool false]) (by simp [results,Tryz.results201,go_sem,c0,c1,c2,c3,c4,c5]) rfl HE.out
end
end Go.Proofs.YtagijldedngcoaaGreatDoor

/-
  Contracts of the program and of the statements (part 26 of 28).
-/
import Derived.Test.YtagijldedngcoaaGreatDoorOl5
import Derived.Test.YtagijldedngcoaaGreatDoorOl11
import Derived.Test.YtagijldedngcoaaGreatDoorOl25
import Derived.Test.YtagijldedngcoaaGreatDoorOl19
import Derived.Test.YtagijldedngcoaaGreatDoorOl24
import Derived.Deep.DeepCutAuto
import Derived.Deep.CutBlock
import Derived.Maps.OwnSet
set_option maxRecDepth 100000
set_option maxHeartbeats 3200000

namespace Go.Proofs.YtagijldedngcoaaGreatDoor.Zq
open Go.RowKit Go.Lib
def HT (S t : ByteArray) : Prop:=t.size ≤ S.size∧∀ x,okS x→S.data.toList = fullL x→t = S ∨ ¬ decOK t.data.toList
theorem harmed_any (S : ByteArray) (h1 : 1 ≤ S.size) (h2 : S.size ≤ 10000) (kd st n pt : Int) (w : World) :
  Calls Tryz.prog 35 #[.string S,.agg #[.int .i64 kd,.int .i64 st,.int .i64 n,.int .i64 pt]] w fun e w' => ∃ t,e = .returned (.string t)∧HT S t∧Below w.heap.size w w':=by
 obtain ⟨U,hU⟩ : ∃ U,U = w.alloc (.cells #[.int .i64 kd,.int .i64 st,.int .i64 n,.int .i64 pt] 73):=⟨_,rfl⟩
 obtain ⟨X,hX⟩ : ∃ X,X = w.heap.size:=⟨_,rfl⟩
 have hBU : Below w.heap.size w U:=by rw [hU]; exact (Below.refl _ _).alloc (Nat.le_refl _) _
 have hk : U.heap[X]? = some (.cells #[.int .i64 kd,.int .i64 st,.int .i64 n,.int .i64 pt] 73 (0,0)):=by rw [hU,hX]; exact heap_alloc_new w _
 have HA : Hid (∀ W,Below U.heap.size U W→W.cell? ⟨X,0,none⟩ = some (.int .i64 kd)∧W.cell? ⟨X,2,none⟩ = some (.int .i64 n)∧W.cell? ⟨X,3,none⟩ = some (.int .i64 pt)):=fun W hb => by
  have e:=(hb.block X (lt_of_block hk)).trans hk
  exact ⟨by simp [World.cell?,e],by simp [World.cell?,e],by simp [World.cell?,e]⟩
 obtain ⟨x0,x2,x3⟩:=HA.out U (Below.refl _ _)
 have HU:=hide hU
 have HX:=hide hX
 have HBU:=hide hBU
 clear hU hX hBU hk
 go_enter Tryz.func35,Tryz.ntmps35
 go_upto_region 1 with fail
 rw [← HU.out,← HX.out]
 go_wp2_with fail
 refine (among_any _ kd 2 (by decide) (by decide)).mono ?_
 rintro e w3 ⟨rfl,rfl⟩
 generalize amg kd 2 = kk at *
 by_cases h0 : kk = 0
 ·subst h0
  have hcn:=(amg_spec n S.size (by omega)).2.1
  go_wp2_with fail
  refine (among_any _ n S.size (by omega) (by omega)).mono ?_
  rintro e w4 ⟨rfl,rfl⟩
  generalize amg n S.size = c at *
  have b5 : (0 : Int) ≤ (c : Int):=by omega
  have b6 : (c : Int) ≤ (S.size : Int):=by omega
  have HE : Hid (HT S (S.extract 0 c)):=by
   refine ⟨by simp; omega,fun x hx hS => .inr ?_⟩
   rw [ext_list,List.drop_zero,Nat.sub_zero,hS]
   exact cut_found hx (by rw [← hS,bsize]; exact hcn)
  go_wp2
  go_ret
  exact ⟨_,rfl,HE.out,HBU.out⟩
 ·have d0 : ((kk : Int) == 0) = false:=by simpa using h0
  have hconv:=run_bytes_of_string (P:=Tryz.prog) w3 9 79 5 S Tryz.underlying9 Tryz.underlying79 Tryz.underlying5
  have hge:=grownCap_ge w3 S.size 0 5
  generalize grownCap w3 S.size 0 5 = cap at *
  obtain ⟨V,hV⟩ : ∃ V,V = w3.drew.alloc (.cells (bytesRow S cap) 5 ((bytesRow S cap).size,(bytesRow S cap).size + 1)):=⟨_,rfl⟩
  rw [← hV] at hconv
  have HBV : Hid (Fd.BR V w3.heap.size S.data.toList):=by rw [hV]; exact Fd.BR.turned S cap _ hge rfl (heap_alloc_new w3.drew _)
  have HbV : Hid (Below w3.heap.size w3 V):=by rw [hV]; exact (Below.refl _ _).drew.alloc (Nat.le_refl _) _
  obtain ⟨_,v2,v3⟩:=HA.out V HbV.out
  obtain ⟨N,hN⟩ : ∃ N,N = 8 * S.size:=⟨_,rfl⟩
  have hNi : (8 : Int) * (S.size : Int) = (N : Int):=by omega
  have hN1 : 0 < N:=by omega
  have hN2 : N < 100000:=by omega
  have HN:=hide hN
  obtain ⟨g,hg⟩ : ∃ g,g = w3.heap.size:=⟨_,rfl⟩
  have HGZ:=hide hg
  rw [← hg] at HBV hconv
  clear hV hge hN x0 x2 x3 hg
  go_upto_if 28 with fail
  go_cut [6] (fun pv wx => ∃ p : Nat,pv = .int .u32 (p : Int)∧p < 4294967296∧wx = V)
  case first =>
   by_cases hp : pt % 4294967296 = 0
   ·have hp2 : (pt % 4294967296 == 0) = true:=by simpa using hp
    clear hp
    go_wp2
    go_meet
    case rel => exact ⟨1,rfl,by decide,rfl⟩
   ·have hp2 : (pt % 4294967296 == 0) = false:=by simpa using hp
    obtain ⟨p,hpp⟩ : ∃ p : Nat,pt % 4294967296 = p:=⟨(pt % 4294967296).toNat,by omega⟩
    have hpl : p < 4294967296:=by omega
    rw [hpp] at hp2 ⊢
    clear hp hpp
    go_wp2
    go_meet
    case rel => exact ⟨p,rfl,hpl,rfl⟩
  case rest =>
   obtain ⟨p,rfl,hp,hwc⟩:=hcut
   subst hwc
   go_wp2_with fail
   refine (among_any _ n N hN1 hN2).mono ?_
   rintro e w5 ⟨rfl,hw5⟩
   rw [hw5]
   clear hw5 w5
   have hfi:=(amg_spec n N hN1).2.1
   generalize amg n N = first at *
   clear hconv
   go_wp2
   go_loopw [35] (fun z wr => ∃ (j : Nat) (L : List UInt8),j ≤ 32∧z = .int .i64 j∧Fd.BR wr g L∧TL S.data.toList L p first j∧Below w3.heap.size w3 wr) (fun z _ => 32 - (RowKit.intOf z).toNat)
   case atStart => exact ⟨0,_,Nat.zero_le _,rfl,HBV.out,TL.start _ _ _,HbV.out⟩
   case round =>
    clear HBV HbV
    obtain ⟨j,L,hj,rfl,hBL,hTL,hbL⟩:=hrel
    have hlen : L.length = S.size:=by rw [hTL.len,bsize]
    have HBL:=hide hBL
    have HTL:=hide hTL
    have HbL:=hide hbL
    clear hBL hTL hbL
    by_cases hlt : j < 32
    ·have b1 : (j : Int) < 32:=by omega
     have htb:=test_bit (j:=j) hp
     by_cases hb : p.testBit j = true
     ·rw [hb] at htb
      by_cases hq : first + j < N
      ·have b2 : (first : Int) + (j : Int) < (N : Int):=by omega
       obtain ⟨A,hA⟩ : ∃ A,A = (first + j) / 8:=⟨_,rfl⟩
       obtain ⟨r,hr⟩ : ∃ r,r = (first + j) % 8:=⟨_,rfl⟩
       have d1 : ((first : Int) + (j : Int)) / 8 = (A : Int):=by omega
       have d2 : ((first : Int) + (j : Int)) % 8 = (r : Int):=by omega
       have hAS : A < S.size:=by omega
       have b3 : (A : Int) < (S.size : Int):=by omega
       have b4 : (0 : Int) ≤ (A : Int):=by omega
       obtain ⟨x,hx⟩:=Fd.get_some L A (by rw [hlen]; exact hAS)
       have cA:=HBL.out.cell A _ hx
       have fA:=HBL.out.free A (by rw [hlen]; exact hAS)
       have HQA:=hide (And.intro hA hr)
       have hpw : 2 ^ r < 256:=Nat.lt_of_le_of_lt (Nat.pow_le_pow_right (by decide) (show r ≤ 7 by omega)) (by decide)
       have hxr : bits .xor .u8 (x.toNat : Int) (2 ^ r % 256) = (((x ^^^ UInt8.ofNat (2 ^ r)).toNat : Nat) : Int):=by
        rw [show ((2 : Int) ^ r % 256) = (((UInt8.ofNat (2 ^ r)).toNat : Nat) : Int) by
         rw [UInt8.toNat_ofNat',Nat.mod_eq_of_lt hpw,show ((2 : Int) ^ r) = ((2 ^ r : Nat) : Int) by simp]
         generalize 2 ^ r = y at *
         omega]
        exact Fd.u8_xor x (UInt8.ofNat (2 ^ r))
       have hT2 : tbit L (first + j) = L.set A (x ^^^ UInt8.ofNat (2 ^ r)):=by
        rw [tbit,← hA,← hr,List.getD_eq_getElem?_getD,hx,Option.getD_some]
       have hB2:=HBL.out.set A (by rw [hlen]; exact hAS) (x ^^^ UInt8.ofNat (2 ^ r))
       rw [← hT2] at hB2
       have HB2':=hide hB2
       have HT2:=hide (HTL.out.on hb (by rw [bsize,← HN.out]; exact hq))
       have Hb2:=hide (HbL.out.setCell (p:=⟨g,A,none⟩) (by rw [HGZ.out]; exact Nat.le_refl _) (.int .u8 (((x ^^^ UInt8.ofNat (2 ^ r)).toNat : Nat) : Int)))
       clear hA hr hpw hT2 hB2 HBL HTL HbL hx
       go_upto_region 14 with fail
       go_region
       go_wp2
       exact ⟨⟨j + 1,_,by omega,by go_num,HB2'.out.drew,HT2.out,Hb2.out.drew⟩,by simp [RowKit.intOf]; omega⟩
      ·have b2 : ¬ ((first : Int) + (j : Int) < (N : Int)):=by omega
       have HT2:=hide (HTL.out.off (.inr (by rw [bsize,← HN.out]; omega)))
       clear HTL
       go_wp2
       exact ⟨⟨j + 1,_,by omega,by go_num,HBL.out,HT2.out,HbL.out⟩,by simp [RowKit.intOf]; omega⟩
     ·have hb2 : p.testBit j = false:=by simpa using hb
      rw [hb2] at htb
      have HT2:=hide (HTL.out.off (.inl hb2))
      clear HTL hb hb2
      go_wp2
      exact ⟨⟨j + 1,_,by omega,by go_num,HBL.out,HT2.out,HbL.out⟩,by simp [RowKit.intOf]; omega⟩
    ·obtain rfl : j = 32:=by omega
     obtain ⟨Y,hY⟩ : ∃ Y,Y = Fd.strOf L:=⟨_,rfl⟩
     have hYL : Y.data.toList = L:=by rw [hY]; exact Fd.strOf_toList L
     have hYz : Y.size = S.size:=by rw [← bsize,hYL]; exact hlen
     have hstr:=HBL.out.str_all cap S.size hlen.symm
     rw [← hY] at hstr
     have HE : Hid (HT S Y∧Below w.heap.size w wr):=by
      refine ⟨⟨by omega,fun x hx hS => ?_⟩,HBU.out.trans (HbL.out.mono HBU.out.size)⟩
      by_cases hd : decOK Y.data.toList
      ·left
       have:=TL.found (x:=x) (L:=L) (p:=p) (first:=first) (by rw [← hS]; exact HTL.out) hp (by rw [← hS,bsize,← HN.out]; omega) (by rw [← hYL]; exact hd)
       apply ByteArray.ext
       apply Array.toList_inj.1
       rw [hYL,this,hS]
      ·exact .inr hd
     clear hY HBL HTL HbL
     go_wp2
     go_ret
     exact ⟨_,rfl,HE.out⟩
end Go.Proofs.YtagijldedngcoaaGreatDoor.Zq

namespace Go.Proofs.YtagijldedngcoaaGreatDoor
open Go.RowKit Go.Lib Go.Maps
def MH (w : World) (b : Nat) (L : List Nat) : Prop :=
 ∃ D : DataW Unit,w.ownsMap Tryz.prog 3 (plainElem Tryz.prog 4) b L.length D∧(∀ x : Nat,x ≤ 1000→has D (.int .i64 (x : Int)) = decide (x ∈ L))∧(∀ x : Nat,x ∈ L→∀ z,D.atKey (.int .i64 (x : Int)) z = .lit (.bool true))∧size D = L.length
theorem bzero (w : World) : (zeroValue 4).run Tryz.prog w = .ok (.bool false) w:=by kernel_rfl
section
variable {w w' : World} {b : Nat} {L : List Nat} {x : Nat}
theorem MH.made (w : World) : MH (w.alloc (.map #[] 0)) w.heap.size [] :=
 ⟨_,World.ownsMap_made w _ _ _,(fun x _ => by simp [has]),(fun x h => by cases h),rfl⟩
theorem MH.lt (h : MH w b L) : b < w.heap.size:=by obtain ⟨D,h,_⟩:=h; exact h.lt
theorem MH.kb (h : MH w b L) (e : w'.heap[b]? = w.heap[b]?) : MH w' b L:=by
 obtain ⟨D,⟨es,clock,hb,h1⟩,h2⟩:=h
 exact ⟨D,⟨es,clock,e.trans hb,h1⟩,h2⟩
theorem MH.len (h : MH w b L) (ty : TypeId) : (Builtin.len_ #[71] ty #[.map (some b)]).run Tryz.prog w = .ok (.int .i64 (L.length : Int)) w:=by
 obtain ⟨D,hD,_,_,hs⟩:=h
 rw [hD.len Tryz.underlying71 ty,hs]
theorem iwf (h : x ≤ 1000) : (Lit.int .i64 (x : Int)).wf = true:=WalkArith.wf_i64 ⟨by omega,by omega⟩
theorem MH.look (h : MH w b L) (hx : x ≤ 1000) : (Instr.lookup 71 (.map (some b)) (.int .i64 (x : Int)) false).run Tryz.prog w = .ok (.bool (decide (x ∈ L))) w:=by
 obtain ⟨D,hD,hh,ha,hs⟩:=h
 obtain ⟨v,ps,hr,hv⟩:=hD.lookup (int_keyed Tryz.underlying3) Tryz.underlying71 (bzero w) (plainElem_bool Tryz.underlying4 false) (keyOf_int_mk Tryz.underlying3 (iwf hx))
 rw [hr]
 have hb : ∀ c : Bool,D.atKey (.int .i64 (x : Int)) (.lit (.bool false)) = .lit (.bool c)→v = .bool c:=fun c hc => by
  rw [hc] at hv
  cases v <;> simp [plainElem,Tryz.underlying4] at hv
  rw [hv.1]
 by_cases hm : x ∈ L
 ·rw [hb true (ha x hm _),decide_eq_true hm]
 ·rw [hb false (by rw [atKey_of_not_has (by rw [hh x hx,decide_eq_false hm])]),decide_eq_false hm]
theorem MH.update (h : MH w b L) (hl : L.length ≤ 1000) (hx : x ≤ 1000) (hn : x ∉ L) :
  ∃ w',(Instr.mapUpdate 71 (.map (some b)) (.int .i64 (x : Int)) (.bool true)).run Tryz.prog w = .ok () w'∧MH w' b (x :: L)∧w.grownBy w' (some b):=by
 obtain ⟨D,hD,hh,ha,hs⟩:=h
 have K:=int_keyed (P:=Tryz.prog) (k:=3) Tryz.underlying3
 obtain ⟨w',hr,hD',hg⟩:=hD.update K Tryz.underlying71 (by unfold maxLen; omega) (keyOf_int_mk Tryz.underlying3 (iwf hx)) (plainElem_bool Tryz.underlying4 true)
 have hM:=hD.isMap
 have hkl : WideAt.IsKeyLit (.int .i64 (x : Int)):=K.key (keyOf_int_mk Tryz.underlying3 (iwf hx))
 have hne : ∀ {y : Nat},y ≠ x→(Lit.int .i64 (y : Int)) ≠ .int .i64 (x : Int):=fun hn e => hn (by have:=(Lit.int.inj e).2; omega)
 refine ⟨w',hr,⟨_,hD',fun y hy => ?_,fun y hy z => ?_,?_⟩,hg⟩
 ·by_cases he : y = x
  ·subst he
   rw [has_true_of_atKey (fun z => atKey_put_same hM hkl _ z)]
   simp
  ·rw [has_put_other (hne he),hh y hy]
   simp [he]
 ·by_cases he : y = x
  ·subst he
   exact atKey_put_same hM hkl _ z
  ·rw [atKey_put_other (hne he)]
   exact ha y (by simpa [he] using hy) z
 ·rw [size_put (hD.tidy K),if_neg (by rw [hh x hx]; simpa using hn),hs,List.length_cons]
end
end Go.Proofs.YtagijldedngcoaaGreatDoor

namespace Go.Proofs.YtagijldedngcoaaGreatDoor
open Go.RowKit Go.Lib Go.Maps
section
variable {K M a : Nat} {s nm t : ByteArray} {q m : Int} {O : List (Option ByteArray)} {o : Option ByteArray}
theorem flt_one {p p' : Nat→Bool} (h1 : ∀ i,i ≠ a→p' i = p i) (h2 : p a = false) : ∀ n,((List.range n).filter p').length = ((List.range n).filter p).length + (if a < n∧p' a = true then 1 else 0)
 | 0 => by simp
 | n + 1 => by
  have ih:=flt_one h1 h2 n
  rw [List.range_succ,List.filter_append,List.filter_append,List.length_append,List.length_append,ih]
  by_cases hn : a = n
  ·subst hn
   have e1 : ([a].filter p).length = 0:=by simp [h2]
   rw [e1,if_neg (fun h => by omega)]
   by_cases hp : p' a = true
   ·rw [if_pos ⟨by omega,hp⟩]; simp [hp]
   ·rw [if_neg (fun h => hp h.2)]; simp [hp]
  ·have e1 : [n].filter p' = [n].filter p:=by simp only [List.filter_cons,List.filter_nil,h1 n (fun e => hn e.symm)]
   rw [e1]
   by_cases h : a < n∧p' a = true
   ·rw [if_pos h,if_pos ⟨by omega,h.2⟩]; omega
   ·rw [if_neg h,if_neg (fun k => h ⟨by omega,k.2⟩)]; omega
theorem hN_set (ha : a < K + M) (hO : O[a]? = some (some (Zq.shB K M s a))) : hN K M s (O.set a o) = hN K M s O + (if o = some (Zq.shB K M s a) then 0 else 1):=by
 have hl : a < O.length:=(List.getElem?_eq_some_iff.1 hO).1
 have h1 : ∀ i,i ≠ a→@decide ((O.set a o)[i]? ≠ some (some (Zq.shB K M s i))) (Classical.propDecidable _) = @decide (O[i]? ≠ some (some (Zq.shB K M s i))) (Classical.propDecidable _):=fun i hi => by
  have : (O.set a o)[i]? = O[i]?:=by rw [List.getElem?_set,if_neg (fun e => hi e.symm)]
  rw [Bool.eq_iff_iff,@decide_eq_true_iff _ (Classical.propDecidable _),@decide_eq_true_iff _ (Classical.propDecidable _),this]
 have h2 : @decide (O[a]? ≠ some (some (Zq.shB K M s a))) (Classical.propDecidable _) = false:=@decide_eq_false _ (Classical.propDecidable _) (fun h => h hO)
 have h3:=flt_one (p:=fun i => @decide (O[i]? ≠ some (some (Zq.shB K M s i))) (Classical.propDecidable _)) (p':=fun i => @decide ((O.set a o)[i]? ≠ some (some (Zq.shB K M s i))) (Classical.propDecidable _)) h1 h2 (K + M)
 rw [hN,hN,h3]
 ·congr 1
  have e : (O.set a o)[a]? = some o:=by rw [List.getElem?_set,if_pos rfl,if_pos hl]
  by_cases ho : o = some (Zq.shB K M s a)
  ·rw [if_pos ho,if_neg]
   rintro ⟨_,h⟩
   exact @of_decide_eq_true _ (Classical.propDecidable _) h (by rw [e,ho])
  ·rw [if_neg ho,if_pos]
   exact ⟨ha,@decide_eq_true _ (Classical.propDecidable _) (by rw [e]; intro h; injection h with h; exact ho h)⟩
theorem hN_zero : hN K M s ((shL K M s).map some) = 0:=by
 rw [hN,List.length_eq_zero_iff,List.filter_eq_nil_iff]
 intro i hi h
 refine @of_decide_eq_true _ (Classical.propDecidable _) h ?_
 rw [List.getElem?_map,shL,List.getElem?_map,List.getElem?_range (List.mem_range.1 hi)]
 rfl
structure HL (K M : Nat) (s : ByteArray) (O : List (Option ByteArray)) (L : List Nat) (c : Nat) : Prop where
 ho : HO K M s O
 un : ∀ i,i < K + M→i ∉ L→O[i]? = some (some (Zq.shB K M s i))
 lt : ∀ i ∈ L,i < K + M
 cn : c = hN K M s O
 le : c ≤ L.length
 sm : ∀ d,some d ∈ O→d.size ≤ 131072
theorem HL.start (hK : 1 ≤ K) (hKM : K + M ≤ 9) (hs : s.size ≤ 204) : HL K M s ((shL K M s).map some) [] 0:=by
 have hat : ∀ i,i < K + M→((shL K M s).map some)[i]? = some (some (Zq.shB K M s i)):=fun i hi => by rw [List.getElem?_map,shL,List.getElem?_map,List.getElem?_range hi]; rfl
 refine ⟨⟨by rw [List.length_map,shL_len],fun i o ho => .inl ?_⟩,fun i hi _ => hat i hi,(fun i h => by cases h),hN_zero.symm,Nat.le_refl _,sh_sm hK hKM hs⟩
 have hi : i < K + M:=by have:=(List.getElem?_eq_some_iff.1 ho).1; rwa [List.length_map,shL_len] at this
 rw [hat i hi] at ho
 injection ho with ho
 exact ho.symm
theorem HL.hit {L : List Nat} {c : Nat} (h : HL K M s O L c) (ha : a < K + M) (hn : a ∉ L) (ho : o = some (Zq.shB K M s a) ∨ gdX K M a (gans o) = none) (hsm : ∀ d,o = some d→d.size ≤ 131072) (hd : DecidableEq (Option ByteArray)) : HL K M s (O.set a o) (a :: L) (c + @ite _ (o = some (Zq.shB K M s a)) (hd _ _) 0 1):=by
 have hO:=h.un a ha hn
 have hl : a < O.length:=(List.getElem?_eq_some_iff.1 hO).1
 have hle:=h.le
 refine ⟨⟨by rw [List.length_set]; exact h.ho.len,fun i x hx => ?_⟩,fun i hi hni => ?_,fun i hi => ?_,?_,?_,fun d hm => ?_⟩
 ·rw [List.getElem?_set] at hx
  split at hx
  ·rename_i e
   subst e
   injection hx with hx
   rw [← hx]
   exact ho
  ·exact h.ho.ok i x hx
 ·have hia : a ≠ i:=fun e => hni (by simp [e])
  rw [List.getElem?_set,if_neg hia]
  exact h.un i hi (fun hm => hni (by simp [hm]))
 ·rcases List.mem_cons.1 hi with rfl | hi
  ·exact ha
  ·exact h.lt i hi
 ·rw [hN_set ha hO,h.cn]
  congr 1
  by_cases e : o = some (Zq.shB K M s a)
  ·rw [if_pos e,if_pos e]
  ·rw [if_neg e,if_neg e]
 ·rw [List.length_cons]
  split <;> omega
 ·obtain ⟨i,hi⟩:=List.mem_iff_getElem?.1 hm
  rw [List.getElem?_set] at hi
  split at hi
  ·rename_i e
   subst e
   injection hi with hi
   exact hsm d hi
  ·exact h.sm d (List.mem_of_getElem? hi)
theorem gdX_bad {i : Nat} (h : ¬ Zq.decOK t.data.toList) : gdX K M i (gans (some t)) = none:=by
 rw [gdX,if_neg]
 rintro ⟨_,h2,_⟩
 exact h h2
theorem ht_ok (hK : 1 ≤ K) (hKM : K + M ≤ 255) (hs : s.size ≤ 65536) (ha : a < K + M) (h : Zq.HT (Zq.shB K M s a) t) : (some t = some (Zq.shB K M s a) ∨ gdX K M a (gans (some t)) = none):=by
 rcases h.2 (Zq.shX K M s a) (Zq.shX_ok hK hKM hs ha) (by show (Zq.bs _).data.toList = _; simp [Zq.bs]) with h | h
 ·exact .inl (by rw [h])
 ·exact .inr (gdX_bad h)
end
section
variable {w W : World} {X Bd K M j : Nat} {sv : Value} {S : List SS} {bs : List (Nat × Nat)} {q m : Int} {nm d : ByteArray} {O : List (Option ByteArray)} {o : Option ByteArray}
theorem GQ.at (h : GQ w W X Bd K M sv S bs) (hj : j < S.length) : ∃ g o c e s,sv = .slice (some ⟨g,o,none⟩) S.length c∧W.cell? ⟨g,o + j,none⟩ = some (.pointer (some ⟨e.1,0,none⟩))∧bs[j]? = some e∧S[j]? = some s∧PX W e.1 e.2 s:=by
 have hbl : bs.length = S.length:=h.yp.len
 obtain ⟨e1,he1⟩ : ∃ e1,bs[j]? = some e1:=⟨_,List.getElem?_eq_getElem (by omega)⟩
 obtain ⟨s1,hs1⟩ : ∃ s1,S[j]? = some s1:=⟨_,List.getElem?_eq_getElem hj⟩
 obtain ⟨a,c,e,hn | ⟨g,o,ea,hr,hg,hG⟩⟩:=h.yp.rp
 ·have : bs.length = 0:=by simpa using congrArg List.length hn
  omega
 rw [List.length_map,hbl] at e
 subst ea
 exact ⟨g,o,c,e1,s1,e,hG j e1.1 (by rw [List.getElem?_map,he1]; rfl),he1,hs1,h.yp.px j e1 s1 he1 hs1⟩
theorem gq_turn {e : Nat × Nat} {s s' : SS} {W' : World} (h : GQ w W X Bd K M sv S bs) (he : bs[j]? = some e) (hs : S[j]? = some s) (hg : Gs (two e.1 e.2) W W') (hX : PX W' e.1 e.2 s') : GQ w W' X Bd K M sv (S.set j s') bs:=by
 have hin:=h.yp.inP e (List.mem_of_getElem? he)
 have hxx:=h.xx
 have hw2:=h.w2
 refine ⟨h.yp.put he hs hg hX,?_,?_,?_,h.xx,h.xb,Nat.le_trans h.bd hg.size,h.w2⟩
 ·rw [hg.block X (lt_of_block h.kt) (fun hi => by rcases hi with hi | hi <;> omega)]; exact h.kt
 ·exact hg.below h.be h.be.size fun i hi => by rcases hi with hi | hi <;> omega
 ·exact laid_gs h.la hg fun i hi => by rcases hi with hi | hi <;> omega
theorem gq_set (h : GQ w W X Bd K M sv (sts q m nm O) bs) (hj : j < O.length) (hn : mayB nm = true) (hnl : nm.size ≤ 96) (hd : d.size ≤ 131072) : ∃ g o c e1,sv = .slice (some ⟨g,o,none⟩) O.length c∧W.cell? ⟨g,o + j,none⟩ = some (.pointer (some ⟨e1,0,none⟩)) ∧
  Calls Tryz.prog 36 #[.pointer (some ⟨e1,0,none⟩),.string nm,.string d] W fun e w' => e = .returned (.int .i64 0)∧Hid (GQ w w' X Bd K M sv (sts q m nm (O.set j (some d))) bs∧Gs (Qs bs) W w'):=by
 obtain ⟨g,o,c,e,s,h1,h2,h3,h4,h5⟩:=h.at (j:=j) (by rw [sts_len]; exact hj)
 rw [sts_len] at h1
 obtain ⟨ob,hob⟩ : ∃ ob,O[j]? = some ob:=⟨_,List.getElem?_eq_getElem hj⟩
 have hs1:=sts_at (q:=q) (m:=m) (nm:=nm) hob
 rw [hs1] at h4
 cases h4
 have hX1 : PS W e.1 e.2 q 0 false m (st1 q m nm ob).L:=h5
 have hf : fcode nm d = 0:=by unfold fcode; rw [if_pos hn,if_pos hd]
 refine ⟨g,o,c,e.1,h1,h2,(set_any hX1 nm d (by unfold maxLen; omega) (by unfold maxLen; omega) (by cases ob <;> simp [st1])).mono ?_⟩
 rintro er w' ⟨rfl,hP,hG⟩
 rw [setL,if_pos hf,st1_lay] at hP
 have hX6 : PX w' e.1 e.2 (st1 q m nm (some d)):=hP
 have:=gq_turn h h3 hs1 hG hX6
 rw [sts_set] at this
 refine ⟨by rw [hf],this,hG.mono fun i _ hi => ⟨e,List.mem_of_getElem? h3,hi⟩⟩
theorem gq_sget (h : GQ w W X Bd K M sv S bs) {s : SS} (hs : S[j]? = some s) (hnl : nm.size ≤ 96) : ∃ g o c e1,sv = .slice (some ⟨g,o,none⟩) S.length c∧W.cell? ⟨g,o + j,none⟩ = some (.pointer (some ⟨e1,0,none⟩)) ∧
  Calls Tryz.prog 18 #[.pointer (some ⟨e1,0,none⟩),.string nm] W fun e w' => e = .returned (.tuple #[.string ((thr s.L nm).getD ⟨#[]⟩),.bool (thr s.L nm).isSome])∧Below W.heap.size W w':=by
 obtain ⟨g,o,c,e,s',h1,h2,h3,h4,h5⟩:=h.at (j:=j) (List.getElem?_eq_some_iff.1 hs).1
 rw [hs] at h4
 cases h4
 exact ⟨g,o,c,e.1,h1,h2,pget_any (show PS W e.1 e.2 s.q s.f s.off s.m s.L from h5) nm (by unfold maxLen; omega)⟩
end
end Go.Proofs.YtagijldedngcoaaGreatDoor

namespace Go.Proofs.YtagijldedngcoaaGreatDoor
open Go.RowKit Go.Lib Go.Maps
structure HR4 where
 kd : Int
 st : Int
 n : Int
 pt : Int
def h4 (x : HR4) : List Value:=[.int .i64 x.kd,.int .i64 x.st,.int .i64 x.n,.int .i64 x.pt]
theorem Tryz.infoSt : (Tryz.prog.info? 9).map (fun i => (i.zero,i.size,i.bytes)) = some (some (.string ⟨#[]⟩),1,16):=by kernel_rfl
section
variable {w : World} {v : Value} {l : List ByteArray} {B : Nat}
theorem tpush (h : OW t1 1 9 B v l w) (x : ByteArray) (hb : (l.length + 1) * 16 ≤ 140737488355328) (hB : B ≤ w.heap.size) :
  ∃ v' w',(Builtin.append_ #[44,44] 44 #[v,.slice (some ⟨w.heap.size,0,none⟩) 1 1]).run Tryz.prog (w.alloc (.cells #[.string x] 9)) = .ok v' w'∧OW t1 1 9 B v' (l ++ [x]) w'∧Gs (fun i => v.ownBlock = some i) w w':=by
 have hb0 : Below w.heap.size w (w.alloc (.cells #[.string x] 9)):=(Below.refl _ _).alloc (Nat.le_refl _) _
 obtain ⟨v',w',h1,h2,h3,h4⟩:=OW.app (ST:=44) (m:=[x]) (r:=fun _ => True) t1_len (by decide) (fun x _ => by intro u hu; simp [t1] at hu; subst hu; rfl) Tryz.underlying44 Tryz.infoSt rfl (h.keep hb0) (LS.one x 9 w t1 1 _ trivial) (by simpa using hb) (by simp; omega) (by simp; omega)
 refine ⟨v',w',h1,h2,⟨h3.os.trans hb0.os,h3.tape.trans hb0.tape,h3.output.trans hb0.output,Nat.le_trans hb0.size h3.size,fun i hi hn => ?_⟩⟩
 exact (h3.block i (Nat.lt_of_lt_of_le hi hb0.size) (fun e => hn e.symm)).trans (hb0.block i hi)
end
end Go.Proofs.YtagijldedngcoaaGreatDoor

namespace Go.Proofs.YtagijldedngcoaaGreatDoor
open Go.RowKit Go.Lib Go.Maps
section
variable {w W W' : World} {X Bd K M bm a c n : Nat} {sv hv : Value} {bs : List (Nat × Nat)} {s t : ByteArray} {O : List (Option ByteArray)} {L : List Nat}
structure LZ (w W : World) (X Bd K M bm : Nat) (sv hv : Value) (bs : List (Nat × Nat)) (s : ByteArray) (O : List (Option ByteArray)) (L : List Nat) : Prop where
 gq : GQ w W X Bd K M sv (sts 10000 2 nmN O) bs
 mh : MH W bm L
 hd : LS t1 1 (fun i => Bd ≤ i∧i ≠ bm) W hv (shL K M s)
 bd : Bd ≤ bm
theorem LZ.bel (h : LZ w W X Bd K M bm sv hv bs s O L) (hb : Below W.heap.size W W') : LZ w W' X Bd K M bm sv hv bs s O L :=
 ⟨h.gq.bel hb,h.mh.kb (hb.block bm h.mh.lt),h.hd.bel hb,h.bd⟩
theorem LZ.gs {O' : List (Option ByteArray)} (h : LZ w W X Bd K M bm sv hv bs s O L) (hG : GQ w W' X Bd K M sv (sts 10000 2 nmN O') bs) (hg : Gs (Qs bs) W W') : LZ w W' X Bd K M bm sv hv bs s O' L:=by
 have hq : ∀ i,Bd ≤ i→¬ Qs bs i:=fun i hi hm => by have:=h.gq.yp.qs hm; omega
 exact ⟨hG,h.mh.kb (hg.block bm h.mh.lt (hq bm h.bd)),h.hd.gs hg fun i hi => hq i hi.1,h.bd⟩
theorem LZ.update (h : LZ w W X Bd K M bm sv hv bs s O L) (hl : L.length ≤ 1000) (ha : a ≤ 1000) (hn : a ∉ L) :
  ∃ W',(Instr.mapUpdate 71 (.map (some bm)) (.int .i64 (a : Int)) (.bool true)).run Tryz.prog W = .ok () W'∧Hid (LZ w W' X Bd K M bm sv hv bs s O (a :: L)):=by
 obtain ⟨W',hr,hM,hg⟩:=h.mh.update hl ha hn
 refine ⟨W',hr,?_⟩
 have hG : Gs (fun i => i = bm) W W':=⟨hg.os,hg.tape,hg.output,hg.size,fun i hi hne => hg.block i hi (fun e => hne (by injection e with e))⟩
 have hbd:=h.bd
 have hxb:=h.gq.xb
 have hxx:=h.gq.xx
 have hw2:=h.gq.w2
 refine ⟨⟨h.gq.yp.gs hG fun i hi e => by omega,(hG.block X (lt_of_block h.gq.kt) (by omega)).trans h.gq.kt,hG.below h.gq.be h.gq.be.size fun i hi => by omega,laid_gs h.gq.la hG fun i hi => by omega,h.gq.xx,h.gq.xb,Nat.le_trans h.gq.bd hG.size,h.gq.w2⟩,hM,h.hd.gs hG fun i hi e => hi.2 e,h.bd⟩
theorem LZ.hat {ra : Option Addr} {rn rc : Nat} (h : LZ w W X Bd K M bm sv (.slice ra rn rc) bs s O L) (ha : a < K + M) : ∃ g o,ra = some ⟨g,o,none⟩∧W.cell? ⟨g,o + a,none⟩ = some (.string (Zq.shB K M s a)):=by
 obtain ⟨g,o,h1,_,h2⟩:=h.hd.at1 (j:=a) (x:=Zq.shB K M s a) (by rw [shL,List.getElem?_map,List.getElem?_range ha]; rfl) rfl
 exact ⟨g,o,h1,h2⟩
theorem LZ.wipe (h : LZ w W X Bd K M bm sv hv bs s O L) (ha : a < O.length) : ∃ g o c e1,sv = .slice (some ⟨g,o,none⟩) O.length c∧W.cell? ⟨g,o + a,none⟩ = some (.pointer (some ⟨e1,0,none⟩)) ∧
  Calls Tryz.prog 34 #[.pointer (some ⟨e1,0,none⟩)] W fun e w' => e = .returned (.tuple #[])∧Hid (LZ w w' X Bd K M bm sv hv bs s (O.set a none) L):=by
 obtain ⟨g,o,c,e,s',h1,h2,h3,h4,h5⟩:=h.gq.at (j:=a) (by rw [sts_len]; exact ha)
 rw [sts_len] at h1
 obtain ⟨ob,hob⟩ : ∃ ob,O[a]? = some ob:=⟨_,List.getElem?_eq_getElem ha⟩
 have hs1:=sts_at (q:=10000) (m:=2) (nm:=nmN) hob
 rw [hs1] at h4
 cases h4
 have hX1 : PS W e.1 e.2 10000 0 false 2 (st1 10000 2 nmN ob).L:=h5
 refine ⟨g,o,c,e.1,h1,h2,(wipe_any hX1).mono ?_⟩
 rintro er w6 ⟨rfl,hP6,hG6⟩
 have hX6 : PX w6 e.1 e.2 (st1 10000 2 nmN none):=hP6
 have hG:=gq_turn h.gq h3 hs1 hG6 hX6
 rw [sts_set] at hG
 exact ⟨rfl,h.gs hG (hG6.mono fun i _ hi => ⟨e,List.mem_of_getElem? h3,hi⟩)⟩
theorem LZ.set (h : LZ w W X Bd K M bm sv hv bs s O L) (ha : a < O.length) (ht : t.size ≤ 131072) : ∃ g o c e1,sv = .slice (some ⟨g,o,none⟩) O.length c∧W.cell? ⟨g,o + a,none⟩ = some (.pointer (some ⟨e1,0,none⟩)) ∧
  Calls Tryz.prog 36 #[.pointer (some ⟨e1,0,none⟩),.string nmN,.string t] W fun e w' => e = .returned (.int .i64 0)∧Hid (LZ w w' X Bd K M bm sv hv bs s (O.set a (some t)) L):=by
 obtain ⟨g,o,c,e1,h1,h2,h3⟩:=gq_set (d:=t) h.gq ha nmN_may (by decide) ht
 refine ⟨g,o,c,e1,h1,h2,h3.mono ?_⟩
 rintro er w' ⟨rfl,hG⟩
 exact ⟨rfl,h.gs hG.out.1 hG.out.2⟩
end
end Go.Proofs.YtagijldedngcoaaGreatDoor

namespace Go.Proofs.YtagijldedngcoaaGreatDoor
open Go.RowKit Go.Lib Go.Maps
section
variable {P : Program} {md : Region.Mode} {ops : Array Oper} {Q : Exit→Act→World→Prop}
theorem AnyZ.two {S : World→Prop} {z i j : Nat} {oi oj : Oper} {f : Nat} {lis : Array Bool} {a : Act} {w : World} (hr : Region.ready md ops lis = [i,j]) (hi : ops[i]? = some oi) (hj : ops[j]? = some oj)
  (h1 : ∀ K' : Act→World→Prop,Shut (∀ a w,(i ≠ z→S w)→((i ≠ z→S w)→AnyZ P md ops Q S z f (lis.setIfInBounds i true) a w)→K' a w)→if Region.wanted oi (yielded ops a.tmps) = true then Oper.wp P oi a w K' Q else K' (a.put oi.dst undef) w)
  (h2 : ∀ K' : Act→World→Prop,Shut (∀ a w,(j ≠ z→S w)→((j ≠ z→S w)→AnyZ P md ops Q S z f (lis.setIfInBounds j true) a w)→K' a w)→if Region.wanted oj (yielded ops a.tmps) = true then Oper.wp P oj a w K' Q else K' (a.put oj.dst undef) w) :
  AnyZ P md ops Q S z (f + 1) lis a w:=by
 refine ⟨fun h0 => (by rw [hr] at h0; cases h0),fun t ht => ?_⟩
 rw [hr] at ht
 have : t = i ∨ t = j:=by simpa using ht
 rcases this with rfl | rfl
 ·exact wpOp_step hi fun K' hK => h1 K' fun a w hS hW => hK a w ⟨hS,hW hS⟩
 ·exact wpOp_step hj fun K' hK => h2 K' fun a w hS hW => hK a w ⟨hS,hW hS⟩
end
end Go.Proofs.YtagijldedngcoaaGreatDoor

namespace Go.Proofs.YtagijldedngcoaaGreatDoor
open Go.RowKit Go.Lib Go.Maps
section
variable {w w6 W : World} {X b b2 q : Nat} {sv : Value} {bs : List (Nat × Nat)} {z : Option Nat}
theorem sum_at {B : Nat} {s : ByteArray} (hL : Zq.Sh.Laid W) (hB : B < W.heap.size) (hc : W.cell? ⟨B,0,none⟩ = some (.string s)) (hs : s.size ≤ 1000000) :
  Calls Tryz.prog 37 #[.slice (some ⟨B,0,none⟩) 1 1] W fun e w' => e = .returned (.string (Zq.bs (Zq.Sh.digest s.data.toList)))∧Below W.heap.size W w':=by
 have hp : Zq.Sh.Pieces W (.slice (some ⟨B,0,none⟩) 1 1) [s]:=⟨_,1,rfl,.inr ⟨B,0,rfl,hB,fun k hk => by
  have : k = 0:=by simpa using hk
  subst this
  exact hc⟩⟩
 refine (Zq.Sh.sum_any hL hp (by simp) (by simp [Zq.Sh.joined]; omega)).mono ?_
 rintro e w1 ⟨rfl,hb1⟩
 rw [Zq.joined_one]
 exact ⟨rfl,hb1⟩
abbrev KC2 (X : Nat) (W : World) : Prop:=W.cell? ⟨X,0,none⟩ = some (.int .i64 2)∧W.cell? ⟨X,1,none⟩ = some (.int .i64 1)
theorem KC2.of (h : W.heap[X]? = some (.cells #[.int .i64 2,.int .i64 1] 27 (0,0))) : KC2 X W:=⟨by simp [World.cell?,h],by simp [World.cell?,h]⟩
theorem W6.kc (h : W6 w w6 X b sv bs) (hb : Below w6.heap.size w6 W) : KC2 X W:=KC2.of ((hb.block X (lt_of_block h.kt)).trans h.kt)
theorem w_sum {B : Nat} (h : W6 w w6 X b sv bs) (hz : BW w6 W z) (hB : B < W.heap.size) (hc : W.cell? ⟨B,0,none⟩ = some (.string ⟨#[97,98,99]⟩)) :
  Calls Tryz.prog 37 #[.slice (some ⟨B,0,none⟩) 1 1] W fun e w7 => e = .returned (.string wD)∧Hid (BW w6 w7 z)∧KC2 X w7:=by
 refine (sum_at (h.la.below hz.be h.la.size) hB hc (by decide)).mono ?_
 rintro e w7 ⟨rfl,hb⟩
 have:=hz.bel hb
 exact ⟨rfl,this,h.kc this.be⟩
theorem w_job (h : W6 w w6 X b sv bs) (hz : BW w6 W z) :
  Calls Tryz.prog 25 #[.agg #[.int .i64 2,.int .i64 1],.string ⟨#[97]⟩,.string wD] W fun e w' => ∃ b2,e = .returned (.pointer (some ⟨b2,0,none⟩))∧Hid (JW w6 w' b2 (getP 2 1 wA wD kGet) z)∧KC2 X w':=by
 have hox : OXGet 2 1 wA wD (getP 2 1 wA wD kGet):=ox_get (K:=2) (M:=1) (by decide) (by decide)
 refine (ogetjob (w:=W) hox (h.la.below hz.be h.la.size)).mono ?_
 intro e w' hM
 obtain ⟨b2,rfl,hJ⟩:=JW.of hM hz
 exact ⟨b2,rfl,hJ,h.kc hJ.out.be⟩
theorem w_run (h : W6 w w6 X b sv bs) (hJ : JW w6 W b2 (getP 2 1 wA wD kGet) z) :
  Calls Tryz.prog 33 #[.pointer (some ⟨b2,0,none⟩),sv] W fun e w9 => ∃ ai ci at_ ct,e = .returned (.tuple #[.agg #[.int .i64 0,.string ⟨#[]⟩,.int .i64 0,.slice ai 0 ci,.slice at_ 1 ct,.slice none 0 0,.slice none 0 0],.bool true])∧Hid (RW w6 w9 b2 ⟨0,0,[],[wT]⟩ 3 (fun i => X < i∧i < b) sv (sts 1000 3 wA wO) bs (.slice ai 0 ci) (.slice at_ 1 ct) z)∧KC2 X w9:=by
 obtain ⟨ids,tx,hj⟩:=h.jb
 have hbl:=hj.lt
 have hk : kGet ((fnd 2 1 wD (wO.map gans)).d,(fnd 2 1 wD (wO.map gans)).e) = .fin ⟨0,0,[],[wT]⟩:=by
  rw [wD,wF]; rfl
 obtain ⟨t1,t2,t3⟩:=getP_sts (K:=2) (M:=1) (q:=1000) (m:=2) (nm:=wA) (O:=wO) rfl hk
 have hX:=lt_of_block h.kt
 have hw2:=h.w2
 have hxx:=h.xx
 refine (go_run (g:=2) hJ h.yp (fun i hi => by omega) (sts_gd (by decide) (by decide) (by decide) (by decide) (fun d hd => by
  have : d = Zq.shB 2 1 wT 0 ∨ d = Zq.shB 2 1 wT 2:=by simpa [wO] using hd
  rcases this with rfl | rfl <;> (rw [shB_size (by decide)]; decide))) t1 t2 t3 (by rw [aq_len]; decide) (by
   intro q hq
   obtain ⟨i,_,rfl⟩:=List.mem_map.1 hq
   exact ⟨show wA.size ≤ maxLen by decide,show (⟨#[]⟩ : ByteArray).size ≤ maxLen by decide⟩) (by simp) (by simp) h.la).mono ?_
 rintro e w9 ⟨ai,ci,at_,ct,rfl,hR⟩
 rw [aq_len] at hR
 refine ⟨ai,ci,at_,ct,rfl,hR,KC2.of ?_⟩
 rw [hR.out.gs.block X hX (fun hi => by have:=h.yp.qs hi; omega)]
 exact h.kt
theorem w_store {ids tx : Value} (h : W6 w w6 X b sv bs) (hR : RW w6 W b2 ⟨0,0,[],[wT]⟩ 3 (fun i => X < i∧i < b) sv (sts 1000 3 wA wO) bs ids tx (some q)) :
  ∃ V,(Instr.storeAt 63 (.pointer (some ⟨q,0,none⟩)) (.agg #[.int .i64 0,.string ⟨#[]⟩,.int .i64 0,ids,tx,.slice none 0 0,.slice none 0 0])).run Tryz.prog W = .ok () V∧Hid (RV w6 V b2 ⟨0,0,[],[wT]⟩ 3 (fun i => X < i∧i < b) sv (sts 1000 3 wA wO) bs ids tx q)∧KC2 X V:=by
 obtain ⟨_,_,hj⟩:=h.jb
 have hbl:=hj.lt
 have hX:=lt_of_block h.kt
 have hw2:=h.w2
 have hxx:=h.xx
 obtain ⟨V,h1,h2⟩:=hR.store (fun i hi => by omega) (by omega)
 refine ⟨V,h1,h2,KC2.of ?_⟩
 rw [h2.out.gs.block X hX (fun hi => by have:=h.yp.qs hi; omega)]
 exact h.kt
theorem w_end {ai at_ : Option Addr} {ci ct : Nat} {V : World} (h : W6 w w6 X b sv bs) (hV : RV w6 V b2 ⟨0,0,[],[wT]⟩ 3 (fun i => X < i∧i < b) sv (sts 1000 3 wA wO) bs (.slice ai 0 ci) (.slice at_ 1 ct) q) :
  ∃ gt ot,at_ = some ⟨gt,ot,none⟩∧V.cell? ⟨q,0,none⟩ = some (.int .i64 0)∧V.cell? ⟨q,4,none⟩ = some (.slice (some ⟨gt,ot,none⟩) 1 ct)∧V.cell? ⟨gt,ot,none⟩ = some (.string ⟨#[97,98,99]⟩)∧Hid (Calls Tryz.prog 31 #[.pointer (some ⟨b,0,none⟩)] V fun e w' => e = .returned (.int .i64 6)∧w' = V)∧Hid (Below w.heap.size w V):=by
 obtain ⟨ids,tx,hj⟩:=h.jb
 obtain ⟨a,c,e,_,hl | ⟨gt,ot,ea,hr,hg,hG⟩⟩:=hV.tt.ls (r:=fun i => (Value.slice at_ 1 ct).ownBlock = some i) fun i hi => hi
 ·cases hl
 injection e with e1 _ _
 subst e1
 subst ea
 have hxx:=h.xx
 refine ⟨gt,ot,rfl,hV.r7.cell 0,hV.r7.cell 4,?_,steps_any (hj.gs hV.gs fun hi => by have:=h.yp.qs hi; omega),hV.gs.below h.be h.be.size fun i hi => by have:=h.yp.qs hi; omega⟩
 have:=hG 0 wT rfl 0 _ rfl
 simpa [wT] using this
end
end Go.Proofs.YtagijldedngcoaaGreatDoor

namespace Go.Proofs.YtagijldedngcoaaGreatDoor
open Go.RowKit Go.Lib Go.Maps
section
variable {w w6 W V : World} {X Bd K M bm b2 q : Nat} {sv hv ids tx : Value} {bs : List (Nat × Nat)} {s : ByteArray} {O : List (Option ByteArray)} {L : List Nat} {z : Option Nat}
noncomputable def idB (s : ByteArray) : ByteArray:=Zq.bs (Zq.Sh.digest s.data.toList)
theorem l_sum {B : Nat} (h : GQ w w6 X Bd K M sv (sts 10000 2 nmN O) bs) (hs : s.size ≤ 65536) (hz : BW w6 W z) (hB : B < W.heap.size) (hc : W.cell? ⟨B,0,none⟩ = some (.string s)) :
  Calls Tryz.prog 37 #[.slice (some ⟨B,0,none⟩) 1 1] W fun e w7 => e = .returned (.string (idB s))∧Hid (BW w6 w7 z)∧KK X K M w7:=by
 refine (sum_at (h.la.below hz.be h.la.size) hB hc (by omega)).mono ?_
 rintro e w7 ⟨rfl,hb⟩
 have:=hz.bel hb
 exact ⟨rfl,this,h.kb this.be⟩
theorem l_job (h : GQ w w6 X Bd K M sv (sts 10000 2 nmN O) bs) (hz : BW w6 W z) (hK : 1 ≤ K) (hKM : K + M ≤ 255) :
  Calls Tryz.prog 25 #[.agg #[.int .i64 (K : Int),.int .i64 (M : Int)],.string ⟨#[110,97,109,101]⟩,.string (idB s)] W fun e w' => ∃ b2,e = .returned (.pointer (some ⟨b2,0,none⟩))∧Hid (JW w6 w' b2 (getP K M nmN (idB s) kGet) z)∧KK X K M w' :=
 gq_get (nm:=nmN) h hz hK hKM
theorem l_run (h : GQ w w6 X Bd K M sv (sts 10000 2 nmN O) bs) (hO : HO K M s O) (hM : hN K M s O ≤ M) (hsm : ∀ d,some d ∈ O→d.size ≤ 131072) (hK : 1 ≤ K) (hKM : K + M ≤ 9) (hs : s.size ≤ 65536) (hJ : JW w6 W b2 (getP K M nmN (idB s) kGet) z) :
  Calls Tryz.prog 33 #[.pointer (some ⟨b2,0,none⟩),sv] W fun e w9 => ∃ ai ci at_ ct,e = .returned (.tuple #[.agg #[.int .i64 0,.string ⟨#[]⟩,.int .i64 0,.slice ai 0 ci,.slice at_ 1 ct,.slice none 0 0,.slice none 0 0],.bool true])∧Hid (RW w6 w9 b2 ⟨0,0,[],[s]⟩ (K + M) (fun i => X < i∧i < Bd) sv (sts 10000 3 nmN O) bs (.slice ai 0 ci) (.slice at_ 1 ct) z)∧KK X K M w9:=by
 obtain ⟨t1,t2,t3⟩:=getP_sts (q:=10000) (m:=2) (nm:=nmN) (k:=kGet) (want:=idB s) (y:=⟨0,0,[],[s]⟩) hO.len (by rw [hO.found (want:=idB s) hK (by omega) hs hM (.inr rfl)]; rfl)
 refine (gq_run (g:=100) h hJ (sts_gd (by decide) (by decide) (by decide) (by decide) hsm) t1 t2 t3 (by rw [aq_len]; omega) (aq_small (by decide)) (by simp) (by simp)).mono ?_
 rintro e w2 ⟨ai,ci,at_,ct,rfl,hR,hk⟩
 rw [aq_len] at hR
 exact ⟨ai,ci,at_,ct,rfl,hR,hk⟩
theorem l_store (h : GQ w w6 X Bd K M sv (sts 10000 2 nmN O) bs) (hR : RW w6 W b2 ⟨0,0,[],[s]⟩ (K + M) (fun i => X < i∧i < Bd) sv (sts 10000 3 nmN O) bs ids tx (some q)) :
  ∃ V,(Instr.storeAt 63 (.pointer (some ⟨q,0,none⟩)) (.agg #[.int .i64 0,.string ⟨#[]⟩,.int .i64 0,ids,tx,.slice none 0 0,.slice none 0 0])).run Tryz.prog W = .ok () V∧Hid (RV w6 V b2 ⟨0,0,[],[s]⟩ (K + M) (fun i => X < i∧i < Bd) sv (sts 10000 3 nmN O) bs ids tx q)∧KK X K M V:=by
 obtain ⟨V,h1,h2,h3⟩:=gq_store h hR
 exact ⟨V,h1,h2,h3⟩
structure LG (w V : World) (X Bd K M bm : Nat) (sv hv : Value) (bs : List (Nat × Nat)) (s : ByteArray) (O : List (Option ByteArray)) (q : Nat) : Prop where
 gq : GQ w V X Bd K M sv (sts 10000 3 nmN O) bs
 hd : LS t1 1 (fun i => Bd ≤ i∧i ≠ bm) V hv (shL K M s)
 r : ∃ ids gt ot ct,R7 V q 0 0 ids (.slice (some ⟨gt,ot,none⟩) 1 ct)∧V.cell? ⟨gt,ot,none⟩ = some (.string s)
theorem l_end {ai at_ : Option Addr} {ci ct : Nat} (h : LZ w w6 X Bd K M bm sv hv bs s O L) (hV : RV w6 V b2 ⟨0,0,[],[s]⟩ (K + M) (fun i => X < i∧i < Bd) sv (sts 10000 3 nmN O) bs (.slice ai 0 ci) (.slice at_ 1 ct) q) : LG w V X Bd K M bm sv hv bs s O q:=by
 obtain ⟨a9,c9,e,_,hl9 | ⟨gt,ot,ea,hr,hg,hG⟩⟩:=hV.tt.ls (r:=fun i => (Value.slice at_ 1 ct).ownBlock = some i) fun i hi => hi
 ·cases hl9
 injection e with e1 _ _
 subst e1
 subst ea
 refine ⟨h.gq.rv hV,h.hd.gs hV.gs (fun i hi hm => by have:=h.gq.yp.qs hm; omega),_,gt,ot,ct,hV.r7,?_⟩
 have:=hG 0 s rfl 0 _ rfl
 simpa using this
theorem l_scrub (h : GQ w W X Bd K M sv (sts 10000 3 nmN O) bs) (hO : HO K M s O) (hM : hN K M s O ≤ M) (hsm : ∀ d,some d ∈ O→d.size ≤ 131072) (hK : 1 ≤ K) (hKM : K + M ≤ 9) (hs : s.size ≤ 204) :
  Calls Tryz.prog 28 #[.agg #[.int .i64 (K : Int),.int .i64 (M : Int)],.string ⟨#[110,97,109,101]⟩,.string ⟨#[]⟩] W fun e w1 => ∃ b2,e = .returned (.pointer (some ⟨b2,0,none⟩))∧KK X K M w1∧Hid (Calls Tryz.prog 33 #[.pointer (some ⟨b2,0,none⟩),sv] w1 fun e w2 => ∃ ai ci at_ ct,e = .returned (.tuple #[.agg #[.int .i64 0,.string ⟨#[]⟩,.int .i64 (hN K M s O : Nat),.slice ai 0 ci,.slice at_ 0 ct,.slice none 0 0,.slice none 0 0],.bool true]) ∧
   Hid (∀ W3,W3 = w2.alloc (.cells #[.int .i64 0,.string ⟨#[]⟩,.int .i64 (hN K M s O : Nat),.slice ai 0 ci,.slice at_ 0 ct,.slice none 0 0,.slice none 0 0] 63)→∃ S',GQ w W3 X Bd K M sv S' bs∧RQ9 W W3 ⟨0,(hN K M s O : Nat),[],[]⟩ bs (.slice ai 0 ci) (.slice at_ 0 ct) w2.heap.size∧S'.length = K + M∧∀ i,i < K + M→∃ m',S'[i]? = some (st1 10000 m' nmN (some (Zq.shB K M s i))))):=by
 refine (gq_scrub (nm:=nmN) (want:=⟨#[]⟩) h (BW.start W) hK (by omega)).mono ?_
 rintro e w1 ⟨b2,rfl,hJ,hk⟩
 refine ⟨b2,rfl,hk,?_⟩
 have hds : ∀ d ∈ shL K M s,d.size ≤ 131072∧((nmN.size + d.size : Nat) : Int) ≤ 10000:=by
  intro d hd
  obtain ⟨i,_,rfl⟩:=List.mem_map.1 hd
  rw [shB_size hK]
  have : Zq.eachN K s.size ≤ s.size + K - 1:=Nat.div_le_self _ _
  have hn4 : nmN.size = 4:=rfl
  omega
 obtain ⟨Lq,S',t1,t2,t3,tl,tq,tS,tat⟩:=scrubP_ho (q:=10000) (m:=3) (nm:=nmN) hK (by omega) (by omega) hO hM nmN_may hds
 refine (gq_run (g:=100) h hJ.out (sts_gd (by decide) (by decide) (by decide) (by decide) hsm) t1 t2 t3 (by rw [tl]; omega) (fun t ht => ?_) (by simp) (by simp)).mono ?_
 ·obtain ⟨e1,e2⟩:=tq t ht
  refine ⟨by rw [e1]; decide,?_⟩
  rcases e2 with e2 | e2
  ·rw [e2]; decide
  ·have:=(hds _ e2).1
   unfold maxLen
   omega
 rintro e w2 ⟨ai,ci,at_,ct,rfl,hR,_⟩
 refine ⟨ai,ci,at_,ct,rfl,fun W3 hW => ?_⟩
 obtain ⟨k1,k2⟩:=rq_of h hR.out hW
 exact ⟨S',k1,k2,tS,tat⟩
end
end Go.Proofs.YtagijldedngcoaaGreatDoor

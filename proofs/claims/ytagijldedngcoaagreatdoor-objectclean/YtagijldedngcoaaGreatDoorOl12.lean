/-
  Contracts of the program and of the statements (part 12 of 28).
-/
import Derived.Test.YtagijldedngcoaaGreatDoorOl11
import Derived.Test.YtagijldedngcoaaGreatDoorRows
import Derived.Deep.RegionHeldLaw
import Derived.Maps.Views
import Derived.WalkKit
import Derived.WalkSpells
import Derived.WalkLawsBesides
import Derived.Below
import Derived.Laws.OwnMore
import Derived.Laws.LoneSync
import Derived.Lib.VarintMem
import Derived.Lib.SliceRun
import Derived.Lib.AppendZeros
import Derived.BigRegion
import Derived.Maps.AppendAt
import Derived.Maps.RangeWalk
import Derived.Maps.OwnSet
import Derived.Deep.RegionHeld3
import Derived.Deep.DeepCutAuto
import Derived.Deep.CutBlock
import Derived.StringKeys
set_option maxRecDepth 100000
set_option maxHeartbeats 3200000

namespace Go.Proofs.YtagijldedngcoaaGreatDoor.Zq
open Go.RowKit Go.Lib

theorem made_parts (n : Nat) : (madeCells #[.int .i64 0,.string ⟨#[]⟩] (n * 2)).toList = pcells (fun _ => 0) (fun _ => ⟨#[]⟩) n:=by
 apply List.ext_getElem?
 intro j
 by_cases hj : j < n * 2
 ·have hi : j / 2 < n:=by omega
  have e : (madeCells #[.int .i64 0,.string ⟨#[]⟩] (n * 2)).toList[j]? = some ((#[.int .i64 0,.string ⟨#[]⟩] : Array Value)[j % 2]!):=by
   simp [madeCells,hj]
  rw [e]
  rcases Nat.mod_two_eq_zero_or_one j with h | h
  ·have:=pcells_get0 (I:=fun _ => 0) (X:=fun _ => (⟨#[]⟩ : ByteArray)) hi
   rw [show j / 2 * 2 = j by omega] at this
   rw [this,h]
   rfl
  ·have:=pcells_get1 (I:=fun _ => 0) (X:=fun _ => (⟨#[]⟩ : ByteArray)) hi
   rw [show j / 2 * 2 + 1 = j by omega] at this
   rw [this,h]
   rfl
 ·rw [List.getElem?_eq_none (by rw [Array.length_toList,size_madeCells]; omega),List.getElem?_eq_none (by rw [pcells_length]; omega)]
theorem pcells_set {I : Nat→Int} {X : Nat→ByteArray} {n i : Nat} (x : Int) (y : ByteArray) (hi : i < n) :
  ((pcells I X n).set (i * 2) (.int .i64 x)).set (i * 2 + 1) (.string y) = pcells (fun t => if t = i then x else I t) (fun t => if t = i then y else X t) n:=by
 apply List.ext_getElem?
 intro j
 by_cases hj : j < n * 2
 ·have hq : j / 2 < n:=by omega
  have g0:=pcells_get0 (I:=I) (X:=X) hq
  have g1:=pcells_get1 (I:=I) (X:=X) hq
  have k0:=pcells_get0 (I:=fun t => if t = i then x else I t) (X:=fun t => if t = i then y else X t) hq
  have k1:=pcells_get1 (I:=fun t => if t = i then x else I t) (X:=fun t => if t = i then y else X t) hq
  rw [List.getElem?_set,List.getElem?_set,List.length_set,pcells_length]
  rcases Nat.mod_two_eq_zero_or_one j with h | h
  ·rw [show j / 2 * 2 = j by omega] at g0 k0
   rw [if_neg (by omega),k0]
   by_cases e : j / 2 = i
   ·rw [if_pos (by omega),if_pos (by omega),if_pos e]
   ·rw [if_neg (by omega),g0,if_neg e]
  ·rw [show j / 2 * 2 + 1 = j by omega] at g1 k1
   rw [k1]
   by_cases e : j / 2 = i
   ·rw [if_pos (by omega),if_pos (by omega),if_pos e]
   ·rw [if_neg (by omega),if_neg (by omega),g1,if_neg e]
 ·rw [List.getElem?_eq_none (by rw [List.length_set,List.length_set,pcells_length]; omega),List.getElem?_eq_none (by rw [pcells_length]; omega)]
theorem IP.set2 {B p n : Nat} {I : Nat→Int} {X : Nat→ByteArray} {w : World} (h : IP B (.slice (some ⟨p,0,none⟩) n n) n I X w) {i : Nat} (hi : i < n) (x : Int) (y : ByteArray) :
  IP B (.slice (some ⟨p,0,none⟩) n n) n (fun t => if t = i then x else I t) (fun t => if t = i then y else X t) ((w.setCell ⟨p,i * 2,none⟩ (.int .i64 x)).setCell ⟨p,i * 2 + 1,none⟩ (.string y)):=by
 have h1:=(h.own.stored (i * 2) (.int .i64 x)).1
 have h2:=(h1.stored (i * 2 + 1) (.string y)).1
 rw [pcells_set x y hi] at h2
 exact ⟨h2⟩
theorem IP.free {B p n : Nat} {I : Nat→Int} {X : Nat→ByteArray} {w : World} (h : IP B (.slice (some ⟨p,0,none⟩) n n) n I X w) (j : Nat) : w.frozen? ⟨p,j,none⟩ = false:=h.own.frozenAt j
theorem IP.cells {B p n : Nat} {I : Nat→Int} {X : Nat→ByteArray} {w : World} (h : IP B (.slice (some ⟨p,0,none⟩) n n) n I X w) {i : Nat} (hi : i < n) : w.cell? ⟨p,i * 2,none⟩ = some (.int .i64 (I i))∧w.cell? ⟨p,i * 2 + 1,none⟩ = some (.string (X i)):=by
 obtain ⟨a,c,e,h0 | ⟨bl,off,ea,hl,hc⟩⟩:=h.px
 ·omega
 ·simp only [Value.slice.injEq,true_and] at e
  obtain ⟨e1,_⟩:=e
  rw [← e1] at ea
  simp only [Option.some.injEq,Addr.mk.injEq,and_true] at ea
  obtain ⟨rfl,rfl⟩:=ea
  have:=hc i hi
  rw [Nat.zero_add] at this
  exact this
theorem IP.blk {B p n : Nat} {I : Nat→Int} {X : Nat→ByteArray} {w : World} (h : IP B (.slice (some ⟨p,0,none⟩) n n) n I X w) : ∃ cs fr,w.heap[p]? = some (.cells cs 309 fr):=by
 rcases h.own.2 with ⟨e,_⟩ | ⟨g,cap,cur,e,hB,hg,_⟩
 ·simp at e
 ·simp only [Value.slice.injEq,Option.some.injEq,Addr.mk.injEq,and_true,true_and] at e
  obtain ⟨rfl,_⟩:=e
  exact ⟨_,_,hg⟩
theorem jnS_le (k m : Nat) (long : Int) (I : Nat→Int) (X : Nat→ByteArray) (n : Nat) : (jnS k m long I X n).size ≤ 65536:=by
 unfold jnS
 split
 ·exact Nat.zero_le _
 ·rename_i h
  have hf : faultV k m long I X n = 0:=by simpa using h
  obtain ⟨h0,h1,_,_⟩:=faultV_zero hf
  split
  ·exact Nat.zero_le _
  ·rw [joinB,ByteArray.size_extract]
   omega
theorem allS_zero {X : Nat→SX} {n : Nat} (h : 0 < n) (ha : allS X n) : okS (X 0):=(ha 0 h).1
theorem okS_plan {x : SX} (h : ¬ (1 ≤ x.k∧0 ≤ x.m∧x.k ≤ 255 - x.m)) : ¬ okS x:=fun h2 => h ⟨h2.1.1,h2.1.2.1,by have:=h2.1.2.2; omega⟩
theorem okS_okB {x : SX} {K M : Nat} (hk : x.k = K) (hm : x.m = M) (k1 : 1 ≤ K) (km : K + M ≤ 255) : okS x ↔ okB K M x.i x.long x.id x.data:=by
 obtain ⟨k,m,i,long,id,data⟩:=x
 simp only at hk hm
 subst hk hm
 exact okS_iff K M k1 km i long id data

theorem gather_any {w : World} (hL : Sh.Laid w) {v : Value} {n : Nat} {X : Nat→SX} (hn : n ≤ 1000) (hX : LX w v n X) (hM : 0 < n→(X 0).m ≤ 9223372036854775807) (hD : ∀ i,i < n→(X i).data.size ≤ 9223372036854775807) :
  Calls Tryz.prog 203 #[v] w fun e w' => ∃ S c,e = .returned (.tuple #[.string S,.int .i64 c])∧GA X n S c∧Below w.heap.size w w':=by
 obtain ⟨a,c,rfl,hX⟩:=hX
 rcases Nat.eq_zero_or_pos n with h0 | h0
 ·subst h0
  clear hX hM hD
  go_enter Tryz.func203,Tryz.ntmps203
  go_wp2
  go_ret2
  exact ⟨⟨#[]⟩,4,rfl,.inl ⟨fun h => absurd h.1 (by decide),rfl,rfl⟩,Below.refl _ _⟩
 obtain ⟨bl,off,rfl,hbl,hC⟩:=hX.resolve_left (by omega)
 have HC:=hide hC
 have HD:=hide hD
 have HM:=hide (hM h0)
 have HL:=hide hL
 have hC0:=hC 0 h0
 rw [Nat.zero_mul,Nat.add_zero] at hC0
 obtain ⟨x0,hx0⟩ : ∃ x,x = X 0:=⟨_,rfl⟩
 rw [← hx0] at hC0 HM
 have HX0:=hide hx0
 have y0:=hC0.c0
 have y1:=hC0.c1
 have y2:=hC0.c2
 have y3:=hC0.c3
 have y4:=hC0.c4
 have y5:=hC0.c5
 have nz : ((n : Int) == 0) = false:=by simp; omega
 have hn0 : (0 : Int) < (n : Int):=by omega
 obtain ⟨W,hW⟩ : ∃ W,W = w.alloc (oneS x0 232):=⟨_,rfl⟩
 have HF : Hid (SK 232 W w.heap.size x0.k x0.m x0.i x0.long x0.id x0.data):=by rw [hW]; exact SK.new 232 w x0.k x0.m x0.i x0.long x0.id x0.data
 have HB : Hid (Below w.heap.size w W):=by rw [hW]; exact below_alloc (Below.refl _ _) _
 have HW : Hid (W = w.alloc (.cells #[.int .i64 x0.k,.int .i64 x0.m,.int .i64 x0.i,.int .i64 x0.long,.string x0.id,.string x0.data] 232)):=hW
 have f0:=HF.out.cell0
 have f1':=HF.out.cell1
 clear hC hD hM hL hX hW hC0 hx0
 by_cases hp : 1 ≤ x0.k∧0 ≤ x0.m∧x0.k ≤ 255 - x0.m
 case neg =>
  have HN : Hid (¬ (0 < n∧allS X n)):=fun h => okS_plan hp (by rw [HX0.out]; exact allS_zero h.1 h.2)
  have HPB : Hid (x0.k < 1 ∨ x0.m < 0 ∨ 255 - x0.m < x0.k):=by show _ ∨ _ ∨ _; omega
  clear hp
  go_enter Tryz.func203,Tryz.ntmps203
  go_upto_region 4 with fail
  rw [← HW.out]
  clear y0 y1 y2 y3 y4 y5
  go_wp2_with fail
  refine (snew_bad x0.k x0.m HM.out HPB.out).mono ?_
  rintro e w1 ⟨rfl,hb1⟩
  have HB1:=hide (HB.out.trans (hb1.mono HB.out.size))
  clear hb1
  go_wp2
  go_ret2
  exact ⟨⟨#[]⟩,4,rfl,.inl ⟨HN.out,rfl,rfl⟩,HB1.out⟩
 case pos =>
 obtain ⟨K,hK⟩ : ∃ K : Nat,x0.k = K:=⟨x0.k.toNat,by omega⟩
 obtain ⟨M,hMm⟩ : ∃ M : Nat,x0.m = M:=⟨x0.m.toNat,by omega⟩
 have k1 : 1 ≤ K:=by omega
 have km : K + M ≤ 255:=by omega
 have HKM:=hide (And.intro k1 km)
 have HKK:=hide (And.intro hK hMm)
 rw [hK] at f0
 rw [hMm] at f1'
 clear hp k1 km hK hMm
 go_enter Tryz.func203,Tryz.ntmps203
 go_upto_region 4 with fail
 rw [← HW.out]
 clear y0 y1 y2 y3 y4 y5
 go_wp2_with fail
 refine (snew_ok2 HKM.out.1 HKM.out.2).mono ?_
 rintro e w1 ⟨b,sb,f1,f2,g,rfl,hP,hf1,hf2,hb1⟩
 have HP:=hide hP
 have HFF : Hid (w.heap.size < f1∧w.heap.size < f2):=⟨Nat.lt_of_lt_of_le HF.out.lt hf1,Nat.lt_of_lt_of_le HF.out.lt hf2⟩
 have HB1:=hide (HB.out.trans (hb1.mono HB.out.size))
 have HF1:=hide (HF.out.below hb1 HF.out.lt)
 clear hP hf1 hf2 hb1 f0 f1' HF HB HW
 obtain ⟨i0,hi,hz0,hz1,hz2⟩:=info_parts Tryz.infoPart
 go_wp2_with (at_make; refine wpList_make_full _ rfl _ _ 305 rfl w1.heap.size 309 i0 (.agg #[.int .i64 0,.string ⟨#[]⟩]) 2 Tryz.underlying305 hi hz0 hz1 _ _ _ _ n rfl rfl rfl rfl (by rw [hz2]; omega) (by unfold maxLen; omega) (Nat.le_refl _) ?_)
 intro w2 hown2 hgrow2
 have hb2 : Below w1.heap.size w1 w2:=(Below.refl _ _).grown hgrow2 (Nat.le_refl _) (fun k hk => by cases hk)
 have HI2 : Hid (IP w1.heap.size (.slice (some ⟨w1.heap.size,0,none⟩) n n) n (fun _ => 0) (fun _ => ⟨#[]⟩) w2):=⟨by rw [← made_parts]; exact hown2⟩
 have HB2:=hide (below_step HB1.out hb2)
 have HP2:=hide (HP.out.below hb2)
 have HF2:=hide (HF1.out.below hb2 HF1.out.lt)
 obtain ⟨p,hp⟩ : ∃ p,p = w1.heap.size:=⟨_,rfl⟩
 have HPZ : Hid (w.heap.size < p):=by rw [hp]; exact HF1.out.lt
 rw [← hp] at HI2 ⊢
 clear hown2 hgrow2 hb2 hi hz0 hz1 hz2 HB1 HP HF1 hp
 go_wp2
 go_loopw [32] (fun z wr => ∃ i : Nat,i ≤ n∧z = .int .i64 i∧IP p (.slice (some ⟨p,0,none⟩) n n) n (fun t => if t < i then (X t).i else 0) (fun t => if t < i then (X t).data else ⟨#[]⟩) wr∧PP wr b sb f1 f2 g K M∧SK 232 wr w.heap.size x0.k x0.m x0.i x0.long x0.id x0.data∧allS X i∧Below w.heap.size w wr) (fun z _ => n - (RowKit.intOf z).toNat)
 case atStart => exact ⟨0,Nat.zero_le _,rfl,HI2.out.congr (fun i hi => by simp),HP2.out,HF2.out,fun i hi => by omega,HB2.out⟩
 case round =>
  clear HI2 HP2 HF2 HB2
  obtain ⟨i,hi,rfl,hI,hP,hF,hA,hb⟩:=hrel
  have HIr:=hide hI
  have HPr:=hide hP
  have HFr:=hide hF
  have HAr:=hide hA
  have HBr:=hide hb
  clear hI hP hF hA hb
  by_cases hlt : i < n
  ·have b1 : (i : Int) < (n : Int):=by omega
   have b0 : (0 : Int) ≤ (i : Int):=by omega
   obtain ⟨x,hx⟩ : ∃ x,x = X i:=⟨_,rfl⟩
   have hC:=(HC.out i hlt).below HBr.out hbl
   rw [← hx] at hC
   have HXi:=hide hx
   have y0:=hC.c0
   have y1:=hC.c1
   have y2:=hC.c2
   have y3:=hC.c3
   have y4:=hC.c4
   have y5:=hC.c5
   obtain ⟨V,hV⟩ : ∃ V,V = wr.alloc (oneS x 232):=⟨_,rfl⟩
   have hbV : Below wr.heap.size wr V:=by rw [hV]; exact below_alloc (Below.refl _ _) _
   have HGV : Hid (SK 232 V wr.heap.size x.k x.m x.i x.long x.id x.data):=by rw [hV]; exact SK.new 232 wr x.k x.m x.i x.long x.id x.data
   have HFV:=hide (HFr.out.below hbV HFr.out.lt)
   have HPV:=hide (HPr.out.below hbV)
   have HIV:=hide (HIr.out.keep hbV)
   have HBV:=hide (below_step HBr.out hbV)
   have HV : Hid (V = wr.alloc (.cells #[.int .i64 x.k,.int .i64 x.m,.int .i64 x.i,.int .i64 x.long,.string x.id,.string x.data] 232)):=hV
   have HWL : Hid (w.heap.size < wr.heap.size):=HFr.out.lt
   have HPL : Hid (p < wr.heap.size):=(HIr.out.lt p rfl).2
   clear hx hC hV hbV HIr HPr HFr HBr
   go_upto_region 11 with fail
   rw [← HV.out]
   obtain ⟨gx,hgx⟩ : ∃ g,g = wr.heap.size:=⟨_,rfl⟩
   rw [← hgx] at HGV ⊢
   have HGX : Hid (w.heap.size < gx∧p < gx):=by rw [hgx]; exact ⟨HWL.out,HPL.out⟩
   clear HV y0 y1 y2 y3 y4 y5 hgx HWL HPL
   have c0:=HGV.out.cell0
   have c1:=HGV.out.cell1
   have c2:=HGV.out.cell2
   have c3:=HGV.out.cell3
   have c4:=HGV.out.cell4
   have c5:=HGV.out.cell5
   have d0:=HFV.out.cell0
   have d1:=HFV.out.cell1
   have d2:=HFV.out.cell2
   have d3:=HFV.out.cell3
   have d4:=HFV.out.cell4
   have d5:=HFV.out.cell5
   obtain ⟨t,ht⟩:=ft_bool x x0
   go_wp2_with fail
   refine (fits_any x x0 _ t ht).mono ?_
   rintro e w5 ⟨rfl,hb5⟩
   have HG5:=hide (HGV.out.below hb5 HGV.out.lt)
   have HF5:=hide (HFV.out.below hb5 HFV.out.lt)
   have HP5:=hide (HPV.out.below hb5)
   have HI5:=hide (HIV.out.keep hb5)
   have HB5:=hide (below_step HBV.out hb5)
   clear hb5 HGV HFV HPV HIV HBV c0 c1 c2 c3 c4 c5 d0 d1 d2 d3 d4 d5
   by_cases hft : ftS x x0
   case neg =>
    obtain rfl : t = false:=by
     cases t
     ·rfl
     ·exact absurd (ht.1 rfl) hft
    have HN : Hid (¬ (0 < n∧allS X n)):=fun h => by
     have h2:=(h.2 i hlt).2
     rw [← HXi.out,← HX0.out] at h2
     exact hft ⟨h2.1.symm,h2.2.1.symm,h2.2.2.1.symm,h2.2.2.2.symm⟩
    clear hft ht
    go_wp2
    go_ret2
    exact ⟨⟨#[]⟩,4,rfl,.inl ⟨HN.out,rfl,rfl⟩,HB5.out⟩
   case pos =>
   obtain rfl:=ht.2 hft
   have HKx : Hid (x.k = (K : Int)∧x.m = (M : Int)):=⟨hft.1.trans HKK.out.1,hft.2.1.trans HKK.out.2⟩
   have HFT:=hide hft
   have c0:=HG5.out.cell0
   have c1:=HG5.out.cell1
   have c2:=HG5.out.cell2
   have c3:=HG5.out.cell3
   have c4:=HG5.out.cell4
   have c5:=HG5.out.cell5
   clear ht hft
   by_cases hok : okS x
   case neg =>
    have HN : Hid (¬ (0 < n∧allS X n)):=fun h => by
     have h2:=(h.2 i hlt).1
     rw [← HXi.out] at h2
     exact hok h2
    have HNB : Hid (¬ okB K M x.i x.long x.id x.data):=fun h => hok ((okS_okB HKx.out.1 HKx.out.2 HKM.out.1 HKM.out.2).2 h)
    clear hok
    go_wp2_with fail
    refine (checkBy_bad HP5.out HKM.out.1 HKM.out.2 x.k x.m x.i x.long x.id x.data HNB.out).mono ?_
    rintro e w6 ⟨rfl,hb6⟩
    have HB6:=hide (below_step HB5.out hb6)
    clear hb6
    go_wp2
    go_ret2
    exact ⟨⟨#[]⟩,4,rfl,.inl ⟨HN.out,rfl,rfl⟩,HB6.out⟩
   case pos =>
   have HOB:=hide ((okS_okB HKx.out.1 HKx.out.2 HKM.out.1 HKM.out.2).1 hok)
   have HA6 : Hid (allS X (i + 1)):=fun j hj => by
    by_cases e : j < i
    ·exact HAr.out j e
    ·obtain rfl : j = i:=by omega
     rw [← HXi.out,← HX0.out]
     have h2:=HFT.out
     exact ⟨hok,h2.1.symm,h2.2.1.symm,h2.2.2.1.symm,h2.2.2.2.symm⟩
   clear hok
   go_wp2_with fail
   refine (checkBy_ok HP5.out HKM.out.1 HKM.out.2 x.k x.m x.i x.long x.id x.data HOB.out).mono ?_
   rintro e w6 ⟨rfl,hb6⟩
   have HG6:=hide (HG5.out.below hb6 HG5.out.lt)
   have hF6:=HF5.out.below hb6 HF5.out.lt
   have hP6:=HP5.out.below hb6
   have hI6:=HI5.out.keep hb6
   have HB6:=hide (below_step HB5.out hb6)
   have hset:=hI6.set2 hlt x.i x.data
   have HS7 : Hid (IP p (.slice (some ⟨p,0,none⟩) n n) n (fun t => if t < i + 1 then (X t).i else 0) (fun t => if t < i + 1 then (X t).data else ⟨#[]⟩) ((w6.setCell ⟨p,i * 2,none⟩ (.int .i64 x.i)).setCell ⟨p,i * 2 + 1,none⟩ (.string x.data))):=hset.congr (fun j hj => by
    by_cases e1 : j = i
    ·subst e1
     rw [if_pos rfl,if_pos rfl,if_pos (by omega),if_pos (by omega),HXi.out]
     exact ⟨rfl,rfl⟩
    ·rw [if_neg e1,if_neg e1]
     by_cases e2 : j < i
     ·rw [if_pos e2,if_pos e2,if_pos (by omega),if_pos (by omega)]
      exact ⟨rfl,rfl⟩
     ·rw [if_neg e2,if_neg e2,if_neg (by omega),if_neg (by omega)]
      exact ⟨rfl,rfl⟩)
   have hpb:=(hI6.lt p rfl)
   have g1:=gb_set w6 p (i * 2) (.int .i64 x.i)
   have g2:=gb_set (w6.setCell ⟨p,i * 2,none⟩ (.int .i64 x.i)) p (i * 2 + 1) (.string x.data)
   have g12:=gb_trans g1 g2
   have HF7:=hide (hF6.grown g12 (by have:=HPZ.out; simp; omega))
   obtain ⟨cs6,fr6,hblk⟩:=hI6.blk
   have HP7:=hide (hP6.putp hblk g12)
   have HB7:=hide ((HB6.out.setCell (p:=⟨p,i * 2,none⟩) (Nat.le_of_lt HPZ.out) (.int .i64 x.i)).setCell (p:=⟨p,i * 2 + 1,none⟩) (Nat.le_of_lt HPZ.out) (.string x.data))
   obtain ⟨z0,z1⟩:=hI6.cells hlt
   have q0:=hI6.free (i * 2)
   have q1:=hI6.free (i * 2 + 1)
   clear c0 c1 c2 c3 c4 c5
   have c2:=HG6.out.cell2
   have c5:=HG6.out.cell5
   have nn1 : ¬ gx = p:=by have:=HGX.out; omega
   have nn2 : ¬ p = gx:=by have:=HGX.out; omega
   clear hset hpb g1 g2 g12 hblk hI6 hP6 hF6 hb6 HG5 HF5 HP5 HI5 HB5 HB6
   go_wp2
   exact ⟨⟨i + 1,by omega,by go_num,HS7.out,HP7.out,HF7.out,HA6.out,HB7.out⟩,by simp [RowKit.intOf]; omega⟩
  ·obtain rfl : i = n:=by omega
   have HPX:=hide (HIr.out.congr (I':=fun t => (X t).i) (X':=fun t => (X t).data) (fun j hj => ⟨if_pos hj,if_pos hj⟩)).px
   have c3:=HFr.out.cell3
   have HJC : Hid (jnC K M x0.long (fun t => (X t).i) (fun t => (X t).data) i = gJC X i):=by
    show _ = _
    rw [gJC,← HX0.out,HKK.out.1,HKK.out.2,Int.toNat_natCast,Int.toNat_natCast]
   have HJS : Hid (jnS K M x0.long (fun t => (X t).i) (fun t => (X t).data) i = gJS X i):=by
    show _ = _
    rw [gJS,← HX0.out,HKK.out.1,HKK.out.2,Int.toNat_natCast,Int.toNat_natCast]
   go_wp2_with fail
   refine (pjoin_all HPr.out HKM.out.1 HKM.out.2 (by unfold maxLen; omega) HPX.out HD.out x0.long).mono ?_
   rintro e w7 ⟨rfl,hP7,hG7⟩
   rw [HJC.out,HJS.out]
   have HB7:=hide (hG7.below HBr.out HBr.out.size (fun j hj => by have:=HFF.out; rcases hj with rfl | rfl <;> omega))
   have HF7:=hide (HFr.out.of_block (hG7.block w.heap.size HFr.out.lt (by have:=HFF.out; intro h; rcases h with h | h <;> omega)))
   have HAA : Hid (0 < i∧allS X i):=⟨h0,HAr.out⟩
   have hJz : (gJS X i).size ≤ 65536:=by rw [← HJS.out]; exact jnS_le _ _ _ _ _ _
   clear hP7 hG7 HPr HFr HBr HIr HPX c3 HJC HJS HC HD
   obtain ⟨J,hJ⟩ : ∃ J,J = gJS X i:=⟨_,rfl⟩
   obtain ⟨jc,hjc⟩ : ∃ j,j = gJC X i:=⟨_,rfl⟩
   rw [← hJ] at hJz ⊢
   rw [← hjc]
   have HJ:=hide hJ
   have HJc:=hide hjc
   clear hJ hjc
   by_cases hz : jc = 0
   case neg =>
    have hz2 : (jc != 0) = true:=by simpa using hz
    have HZ:=hide hz
    clear hz
    go_wp2
    go_ret2
    exact ⟨⟨#[]⟩,jc,rfl,.inr ⟨HAA.out,.inl ⟨by rw [← HJc.out]; exact HZ.out,rfl,HJc.out⟩⟩,HB7.out⟩
   case pos =>
   subst hz
   have HL7:=hide (HL.out.below HB7.out HL.out.size)
   have KS : Hid (∀ w',Below w7.heap.size w7 w'→(Below w7.heap.size w7 w'∧w'.cell? ⟨w.heap.size,4,none⟩ = some (.string x0.id))):=fun w' hb => ⟨hb,(HF7.out.below hb HF7.out.lt).cell4⟩
   have S0 : Hid (Below w7.heap.size w7 w7.drew):=(Below.refl _ _).drew
   have S1 : Hid (∀ o,Below w7.heap.size w7 (w7.alloc o).drew):=fun o => (below_alloc (Below.refl _ _) o).drew
   obtain ⟨D,hD⟩ : ∃ D,D = bs (Sh.digest J.data.toList):=⟨_,rfl⟩
   have HDD:=hide hD
   have CS : Hid (∀ (v : Value) (w' : World),v = .slice (some ⟨w7.heap.size,0,none⟩) 1 1→w' = (w7.alloc (.cells #[.string J] 9)).drew→Calls Tryz.prog 37 #[v] w' fun e w'' => e = .returned (.string D)∧(Below w7.heap.size w7 w''∧w''.cell? ⟨w.heap.size,4,none⟩ = some (.string x0.id))):=fun v w' hv hw => by
    subst hv
    have:=sum_one (w:=w7.drew) (HL7.out.below S0.out HL7.out.size) J (by omega)
    rw [hw,hD]
    exact this.mono fun _ _ ⟨he,hk⟩ => ⟨he,KS.out _ (below_step S0.out hk)⟩
   clear hD
   go_upto_region 18 with fail
   go_region_held_law (fun w' => Below w7.heap.size w7 w'∧w'.cell? ⟨w.heap.size,4,none⟩ = some (.string x0.id)) (first | assumption | with_reducible exact KS.out _ S0.out | with_reducible exact KS.out _ (S1.out _))
    (first
     | (go_at_call 37; refine (CS.out _ _ (by with_reducible rfl) (by with_reducible rfl)).mono ?_; rintro e w9 ⟨rfl,k9⟩))
   have HB9:=hide (below_step HB7.out k9.1)
   clear k9 CS KS S0 S1 HF7 HB7
   by_cases hDi : D = x0.id
   ·have t1 : (!(D.toList == x0.id.toList)) = false:=by rw [hDi]; simp
    have HDI:=hide hDi
    rw [t1]
    clear hDi t1
    go_wp2
    go_ret2
    exact ⟨J,0,rfl,.inr ⟨HAA.out,.inr ⟨HJc.out.symm,.inr ⟨by rw [← HJ.out,← HX0.out,← HDD.out]; exact HDI.out,HJ.out,rfl⟩⟩⟩,HB9.out⟩
   ·have t1 : (!(D.toList == x0.id.toList)) = true:=by rw [(unlike_tests hDi).2]; rfl
    have HDI:=hide hDi
    rw [t1]
    clear hDi t1
    go_wp2
    go_ret2
    exact ⟨⟨#[]⟩,60,rfl,.inr ⟨HAA.out,.inr ⟨HJc.out.symm,.inl ⟨by rw [← HJ.out,← HX0.out,← HDD.out]; exact HDI.out,rfl,rfl⟩⟩⟩,HB9.out⟩
end Go.Proofs.YtagijldedngcoaaGreatDoor.Zq


namespace Go.Proofs.YtagijldedngcoaaGreatDoor
open Go.WideShapes

structure OB where
 n : ByteArray
 d : ByteArray
def bl (x y : ByteArray) : Bool:=bytesBefore x.data.toList y.data.toList
theorem bl_irrefl (x : ByteArray) : bl x x = false:=WideAt.bytes_irrefl _
theorem bl_trans {x y z : ByteArray} (h : bl x y = true) (h' : bl y z = true) : bl x z = true:=bytes_trans _ _ _ h h'
theorem list_ne {x y : ByteArray} (h : x ≠ y) : x.data.toList ≠ y.data.toList:=fun e => h (ByteArray.ext (Array.toList_inj.1 e))
theorem bl_total {x y : ByteArray} (h : x ≠ y) : bl x y = true ∨ bl y x = true:=WideAt.bytes_total _ _ (list_ne h)
theorem bl_asymm {x y : ByteArray} (h : bl x y = true) : bl y x = false:=by
 cases e : bl y x
 ·rfl
 ·exact absurd (bl_trans h e) (by rw [bl_irrefl]; decide)
theorem bl_ne {x y : ByteArray} (h : bl x y = true) : x ≠ y:=fun e => by subst e; rw [bl_irrefl] at h; cases h
def Ris (L : List OB) : Prop:=L.Pairwise (fun p q => bl p.n q.n = true)
def thr : List OB→ByteArray→Option ByteArray
 | [],_ => none
 | p :: r,n => if p.n = n then some p.d else thr r n
def layL : List OB→ByteArray→ByteArray→List OB
 | [],n,d => [⟨n,d⟩]
 | p :: r,n,d => if bl p.n n = true then p :: layL r n d else if p.n = n then ⟨n,d⟩ :: r else ⟨n,d⟩ :: p :: r
def delL : List OB→ByteArray→List OB
 | [],_ => []
 | p :: r,n => if p.n = n then r else p :: delL r n
def usedL : List OB→Nat
 | [] => 0
 | p :: r => p.n.size + p.d.size + usedL r
def begins (b n : ByteArray) : Bool:=decide (b.size ≤ n.size) && decide (n.extract 0 b.size = b)
def namesL (L : List OB) (b : ByteArray) : List ByteArray:=(L.filter (fun p => begins b p.n)).map (·.n)

theorem thr_none {L : List OB} {n : ByteArray} : thr L n = none ↔ ∀ p ∈ L,p.n ≠ n:=by
 induction L with
 | nil => simp [thr]
 | cons p r ih =>
  by_cases e : p.n = n
  ·simp [thr,e]
  ·simp [thr,e,ih]
theorem ris_tail {p : OB} {L : List OB} (h : Ris (p :: L)) : Ris L:=(List.pairwise_cons.1 h).2
theorem ris_head {p : OB} {L : List OB} (h : Ris (p :: L)) : ∀ q ∈ L,bl p.n q.n = true:=(List.pairwise_cons.1 h).1
theorem thr_ahead {p : OB} {L : List OB} {n : ByteArray} (h : Ris (p :: L)) (hn : bl n p.n = true ∨ n = p.n) : thr L n = none:=by
 rw [thr_none]
 intro q hq e
 have h1:=ris_head h q hq
 rw [e] at h1
 rcases hn with h2 | h2
 ·exact absurd (bl_trans h1 h2) (by rw [bl_irrefl]; decide)
 ·rw [h2,bl_irrefl] at h1; cases h1
theorem mem_lay {L : List OB} {n d : ByteArray} : ∀ {q : OB},q ∈ layL L n d→q = ⟨n,d⟩ ∨ q ∈ L:=by
 induction L with
 | nil => intro q h; simp [layL] at h; exact .inl h
 | cons p r ih =>
  intro q h
  rw [layL] at h
  split at h
  ·rcases List.mem_cons.1 h with h | h
   ·exact .inr (by rw [h]; exact List.mem_cons_self)
   ·rcases ih h with h | h
    ·exact .inl h
    ·exact .inr (List.mem_cons_of_mem _ h)
  split at h
  ·rcases List.mem_cons.1 h with h | h
   ·exact .inl h
   ·exact .inr (List.mem_cons_of_mem _ h)
  ·rcases List.mem_cons.1 h with h | h
   ·exact .inl h
   ·exact .inr h
theorem mem_del {L : List OB} {n : ByteArray} : ∀ {q : OB},q ∈ delL L n→q ∈ L:=by
 induction L with
 | nil => intro q h; exact h
 | cons p r ih =>
  intro q h
  rw [delL] at h
  split at h
  ·exact List.mem_cons_of_mem _ h
  ·rcases List.mem_cons.1 h with h | h
   ·rw [h]; exact List.mem_cons_self
   ·exact List.mem_cons_of_mem _ (ih h)
theorem ris_lay {L : List OB} (h : Ris L) (n d : ByteArray) : Ris (layL L n d):=by
 induction L with
 | nil => simp [layL,Ris]
 | cons p r ih =>
  rw [layL]
  split
  ·rename_i hb
   refine List.pairwise_cons.2 ⟨fun q hq => ?_,ih (ris_tail h)⟩
   rcases mem_lay hq with e | e
   ·rw [e]; exact hb
   ·exact ris_head h q e
  ·rename_i hb
   split
   ·rename_i e
    refine List.pairwise_cons.2 ⟨fun q hq => ?_,ris_tail h⟩
    rw [← e]; exact ris_head h q hq
   ·rename_i e
    have hn : bl n p.n = true:=by
     rcases bl_total e with h1 | h1
     ·exact absurd h1 hb
     ·exact h1
    refine List.pairwise_cons.2 ⟨fun q hq => ?_,h⟩
    rcases List.mem_cons.1 hq with e2 | e2
    ·rw [e2]; exact hn
    ·exact bl_trans hn (ris_head h q e2)
theorem ris_del {L : List OB} (h : Ris L) (n : ByteArray) : Ris (delL L n):=by
 induction L with
 | nil => exact h
 | cons p r ih =>
  rw [delL]
  split
  ·exact ris_tail h
  ·exact List.pairwise_cons.2 ⟨fun q hq => ris_head h q (mem_del hq),ih (ris_tail h)⟩
def szO (n : ByteArray) : Option ByteArray→Nat
 | some d => n.size + d.size
 | none => 0
theorem used_del (L : List OB) (n : ByteArray) : usedL L = usedL (delL L n) + szO n (thr L n):=by
 induction L with
 | nil => rfl
 | cons p r ih =>
  by_cases e : p.n = n
  ·subst e
   simp only [delL,thr,usedL,if_true,szO]
   omega
  ·simp only [delL,thr,usedL,if_neg e]
   omega
theorem used_lay {L : List OB} (h : Ris L) (n d : ByteArray) : usedL (layL L n d) + szO n (thr L n) = usedL L + n.size + d.size:=by
 induction L with
 | nil => simp only [layL,thr,usedL,szO]; omega
 | cons p r ih =>
  rw [layL]
  split
  ·rename_i hb
   have:=ih (ris_tail h)
   simp only [thr,if_neg (bl_ne hb),usedL]
   omega
  ·rename_i hb
   split
   ·rename_i e
    subst e
    simp only [thr,if_true,usedL,szO]
    omega
   ·rename_i e
    have hn : bl n p.n = true:=by
     rcases bl_total e with h1 | h1
     ·exact absurd h1 hb
     ·exact h1
    rw [thr,if_neg e,thr_ahead h (.inl hn)]
    simp only [usedL,szO]
    omega
theorem del_none {L : List OB} {n : ByteArray} (ht : thr L n = none) : delL L n = L:=by
 induction L with
 | nil => rfl
 | cons q r ih =>
  rw [thr] at ht
  split at ht
  ·cases ht
  ·rename_i e
   rw [delL,if_neg e,ih ht]

/-! ### As a map reads -/
section
variable {H : Type} (E : ByteArray→DataW H)
def entr (p : OB) : Lit × DataW H:=(.string p.n.data.toList,E p.d)
def datL (L : List OB) : DataW H:=.map (L.map (entr E))
theorem same_name (x y : ByteArray) : (Lit.string x.data.toList).sameKey (.string y.data.toList) = decide (x = y):=by
 by_cases e : x = y
 ·subst e; simp [Lit.sameKey]
 ·rw [decide_eq_false e,Lit.sameKey,beq_eq_false_iff_ne]
  exact list_ne e
theorem dat_del {L : List OB} (h : Ris L) (n : ByteArray) : (datL E L).del (.string n.data.toList) = datL E (delL L n):=by
 show DataW.map ((L.map (entr E)).filter _) = DataW.map _
 congr 1
 induction L with
 | nil => rfl
 | cons p r ih =>
  rw [List.map_cons,List.filter_cons,delL]
  simp only [entr,same_name]
  by_cases e : p.n = n
  ·simp only [e,decide_true,Bool.not_true,if_true]
   rw [if_neg (by decide)]
   refine List.filter_eq_self.2 fun q hq => ?_
   obtain ⟨x,hx,rfl⟩:=List.mem_map.1 hq
   have h1:=ris_head h x hx
   rw [e] at h1
   show (!(Lit.string x.n.data.toList).sameKey (.string n.data.toList)) = true
   rw [same_name,decide_eq_false (bl_ne h1).symm]
   rfl
  ·simp only [e,decide_false,Bool.not_false,if_true,if_false]
   rw [List.map_cons]
   exact congrArg _ (ih (ris_tail h))
theorem dat_has (L : List OB) (n : ByteArray) : Maps.has (datL E L) (.string n.data.toList) = (thr L n).isSome:=by
 show (L.map (entr E)).any _ = _
 induction L with
 | nil => rfl
 | cons p r ih =>
  rw [List.map_cons,List.any_cons,ih,thr]
  simp only [entr,same_name]
  by_cases e : p.n = n
  ·simp [e]
  ·simp [e]
theorem dat_at (L : List OB) (n : ByteArray) (z : DataW H) : (datL E L).atKey (.string n.data.toList) z = match thr L n with | some d => E d | none => z:=by
 show (match (L.map (entr E)).find? _ with | some p => p.2 | none => z) = _
 induction L with
 | nil => rfl
 | cons p r ih =>
  rw [List.map_cons,List.find?_cons,thr]
  simp only [entr,same_name]
  by_cases e : p.n = n
  ·simp [e]
  ·simp only [e,decide_false,if_false]
   exact ih
theorem dat_size (L : List OB) : Maps.size (datL E L) = L.length:=by
 show (L.map (entr E)).length = _
 simp
theorem dat_put {L : List OB} (h : Ris L) (n d : ByteArray) : (datL E L).put (.string n.data.toList) (E d) = datL E (layL L n d):=by
 have e0 : (datL E L).put (.string n.data.toList) (E d) = .map (DataW.insert (entr E ⟨n,d⟩) ((delL L n).map (entr E))):=by
  have:=dat_del E h n
  simp only [datL,DataW.del,DataW.map.injEq] at this
  show DataW.map (DataW.insert _ _) = _
  rw [this]
  rfl
 rw [e0]
 show DataW.map _ = DataW.map _
 congr 1
 clear e0
 induction L with
 | nil => rfl
 | cons p r ih =>
  rw [delL,layL]
  by_cases e : p.n = n
  ·have hb : ¬ bl p.n n = true:=by rw [e,bl_irrefl]; decide
   rw [if_pos e,if_neg hb,if_pos e]
   cases r with
   | nil => rfl
   | cons q s =>
    have h1:=ris_head h q List.mem_cons_self
    rw [e] at h1
    rw [List.map_cons,DataW.insert]
    exact if_pos (show (Lit.string n.data.toList).before (.string q.n.data.toList) = true from h1)
  ·rw [if_neg e,List.map_cons,DataW.insert]
   by_cases hb : bl p.n n = true
   ·have hx : ¬ (entr E ⟨n,d⟩).1.before (entr E p).1 = true:=by
     show ¬ bl n p.n = true
     rw [bl_asymm hb]; decide
    rw [if_pos hb,if_neg hx,ih (ris_tail h),List.map_cons]
   ·have hn : bl n p.n = true:=by
     rcases bl_total e with h1 | h1
     ·exact absurd h1 hb
     ·exact h1
    have hx : (entr E ⟨n,d⟩).1.before (entr E p).1 = true:=hn
    rw [if_neg hb,if_neg e,if_pos hx,del_none (thr_ahead h (.inl hn))]
    rfl
end
end Go.Proofs.YtagijldedngcoaaGreatDoor

namespace Go.Proofs.YtagijldedngcoaaGreatDoor
open Go.RowKit Go.Lib Go.Maps

theorem hide {p : Prop} (h : p) : Hid p:=h
theorem take_snoc (s : ByteArray) (k : Nat) (h : k < s.size) : s.data.toList.take (k + 1) = s.data.toList.take k ++ [s[k]]:=by
 have hk : k < s.data.toList.length:=by simpa using h
 rw [List.take_add_one,List.getElem?_eq_getElem hk]
 rfl
def okB (x : UInt8) : Bool:=decide (32 < x.toNat) && decide (x.toNat < 127)
def mayB (n : ByteArray) : Bool:=decide (1 ≤ n.size) && decide (n.size ≤ 96) && n.data.toList.all okB

theorem Tryz.infoTx : (Tryz.prog.info? 9).map (fun i => (i.zero,i.size,i.bytes)) = some (some (.string ⟨#[]⟩),1,16):=by kernel_rfl
theorem info_parts {o : Option TypeInfo} {z : Option Value} {s b : Nat} (h : o.map (fun i => (i.zero,i.size,i.bytes)) = some (z,s,b)) : ∃ i,o = some i∧i.zero = z∧i.size = s∧i.bytes = b:=by
 cases o with
 | none => cases h
 | some i =>
  simp only [Option.map_some,Option.some.injEq,Prod.mk.injEq] at h
  exact ⟨i,rfl,h⟩
def tc (l : List ByteArray) : List Value:=l.map .string
structure TS (B : Nat) (v : Value) (l : List ByteArray) (w : World) : Prop where
 own : w.ownsRow B 9 1 v l.length (tc l)
section
variable {B : Nat} {v : Value} {l : List ByteArray} {w w' : World}
theorem TS.nil (B : Nat) (w : World) : TS B (.slice none 0 0) [] w:=⟨World.ownsRow_nil w B 9 1⟩
theorem TS.shp (h : TS B v l w) : ∃ a c,v = .slice a l.length c:=by
 obtain ⟨h1,⟨rfl,h2⟩ | ⟨g,cap,cur,rfl,_⟩⟩:=h.own
 ·rw [h2]; exact ⟨_,_,rfl⟩
 ·exact ⟨_,_,rfl⟩
theorem TS.keep (h : TS B v l w) (hb : Below w.heap.size w w') : TS B v l w':=by
 refine ⟨h.own.1,?_⟩
 rcases h.own.2 with h2 | ⟨g,cap,cur,e,hB,hg,r⟩
 ·exact .inl h2
 ·exact .inr ⟨g,cap,cur,e,hB,(hb.block g (lt_of_block hg)).trans hg,r⟩
theorem TS.lt (h : TS B v l w) (b : Nat) (hb : v.ownBlock = some b) : B ≤ b∧b < w.heap.size:=by
 obtain ⟨h1,⟨rfl,h2⟩ | ⟨g,cap,cur,rfl,hB,hg,_⟩⟩:=h.own
 ·simp [Value.ownBlock] at hb
 ·simp only [Value.ownBlock,Option.some.injEq] at hb
  subst hb
  exact ⟨hB,lt_of_block hg⟩
theorem TS.one (h : TS B v l w) (x : ByteArray) (hb : l.length + 1 ≤ 1000001) (hB : B ≤ w.heap.size) :
  ∃ v' w',(Builtin.append_ #[44,44] 44 #[v,.slice (some ⟨w.heap.size,0,none⟩) 1 1]).run Tryz.prog (w.alloc (.cells #[.string x] 9)) = .ok v' w'∧TS B v' (l ++ [x]) w'∧(∀ w0,Below B w0 w→Below B w0 w')∧(w.alloc (.cells #[.string x] 9)).grownBy w' v.ownBlock:=by
 have hal : Below w.heap.size w (w.alloc (.cells #[.string x] 9)):=(Below.refl _ _).alloc (Nat.le_refl _) _
 have h':=h.keep hal
 obtain ⟨i0,hi,hz0,hz1,hz2⟩:=info_parts Tryz.infoTx
 obtain ⟨v',w',h1,h2,h3,_⟩:=run_append_own_at (P:=Tryz.prog) (w.alloc (.cells #[.string x] 9)) B 44 44 9 i0 (.string ⟨#[]⟩) 1 16 Tryz.underlying44 hi hz0 hz1 hz2 rfl (by decide) v l.length (tc l) h'.own ⟨w.heap.size,0,none⟩ 1 1 [.string x] rfl (fun j u hj => by
   rw [Addr.add_mid,Nat.zero_add,cell_of_row _ _ _ _ _ _ (heap_alloc_new w _)]
   simpa using hj) (by simp [Value.oneCell']) (by unfold maxLen; omega) (by omega) (by simp; omega)
 refine ⟨v',w',h1,⟨by rw [List.length_append,tc,List.map_append]; exact h2⟩,fun w0 hb0 => ?_,h3⟩
 exact (hb0.trans (hal.mono hB)).grown h3 (by simp; omega) (fun k hk => (h'.lt k hk).1)
end
theorem heap_set_self {T : TypeId} {w : World} {b j : Nat} {u : Value} {c : Array Value} {fr : Nat × Nat} (h : w.heap[b]? = some (.cells c T fr)) : (w.setCell ⟨b,j,none⟩ u).heap[b]? = some (.cells (c.setIfInBounds j u) T fr):=by
 have hlt:=lt_of_block h
 have h' : w.heap[b] = .cells c T fr:=by simpa [Array.getElem?_eq_getElem hlt] using h
 show (w.heap.modify b _)[b]? = _
 rw [Array.getElem?_eq_getElem (by simpa using hlt),Array.getElem_modify_self,h']
 rfl
structure Gs (p : Nat→Prop) (w w' : World) : Prop where
 os : w'.os = w.os
 tape : w'.tape = w.tape
 output : w'.output = w.output
 size : w.heap.size ≤ w'.heap.size
 block : ∀ i,i < w.heap.size→¬ p i→w'.heap[i]? = w.heap[i]?
section
variable {p : Nat→Prop} {w w1 w' : World}
theorem Gs.refl (p : Nat→Prop) (w : World) : Gs p w w:=⟨rfl,rfl,rfl,Nat.le_refl _,fun _ _ _ => rfl⟩
theorem Gs.trans (h : Gs p w w1) (k : Gs p w1 w') : Gs p w w' :=
 ⟨k.os.trans h.os,k.tape.trans h.tape,k.output.trans h.output,Nat.le_trans h.size k.size,fun i hi hp => (k.block i (Nat.lt_of_lt_of_le hi h.size) hp).trans (h.block i hi hp)⟩
theorem Gs.gb {b : Nat} (h : Gs p w w1) (k : w1.grownBy w' (some b)) (hb : p b ∨ w.heap.size ≤ b) : Gs p w w' :=
 ⟨k.os.trans h.os,k.tape.trans h.tape,k.output.trans h.output,Nat.le_trans h.size k.size,fun i hi hp => (k.block i (Nat.lt_of_lt_of_le hi h.size) (by
  intro e
  cases e
  rcases hb with hb | hb
  ·exact hp hb
  ·omega)).trans (h.block i hi hp)⟩
theorem Gs.bel (h : Gs p w w1) (k : Below w1.heap.size w1 w') : Gs p w w' :=
 ⟨k.os.trans h.os,k.tape.trans h.tape,k.output.trans h.output,Nat.le_trans h.size k.size,fun i hi hp => (k.block i (Nat.lt_of_lt_of_le hi h.size)).trans (h.block i hi hp)⟩
theorem Gs.of_below (p : Nat→Prop) (k : Below w.heap.size w w') : Gs p w w':=(Gs.refl p w).bel k
theorem Gs.below (h : Gs p w w') {B : Nat} {w0 : World} (h0 : Below B w0 w) (hB : B ≤ w.heap.size) (hp : ∀ i,p i→B ≤ i) : Below B w0 w' :=
 ⟨h.os.trans h0.os,h.tape.trans h0.tape,h.output.trans h0.output,Nat.le_trans h0.size h.size,fun i hi => (h.block i (by omega) (fun e => by have:=hp i e; omega)).trans (h0.block i hi)⟩
theorem Gs.mono {q : Nat→Prop} (h : Gs p w w') (hq : ∀ i,i < w.heap.size→p i→q i) : Gs q w w':=⟨h.os,h.tape,h.output,h.size,fun i hi hn => h.block i hi (fun e => hn (hq i hi e))⟩
end
theorem names_len (L : List OB) (b : ByteArray) : (namesL L b).length ≤ L.length:=by
 rw [namesL,List.length_map]
 exact List.length_filter_le _ _
end Go.Proofs.YtagijldedngcoaaGreatDoor

namespace Go.Proofs.YtagijldedngcoaaGreatDoor
open Go.RowKit Go.Lib

end Go.Proofs.YtagijldedngcoaaGreatDoor

namespace Go.Proofs.YtagijldedngcoaaGreatDoor
open Go.RowKit Go.Lib

section
variable {w w' : World} {b : Nat} {q f m : Int} {off : Bool} {v : Value} {L : List OB}
end
end Go.Proofs.YtagijldedngcoaaGreatDoor

namespace Go.Proofs.YtagijldedngcoaaGreatDoor
open Go.RowKit Go.Lib

section
variable {w w' : World} {g o : Nat} {L : List OB}
end
section
variable {B : Nat} {v : Value} {L M : List OB} {w w' : World}
end
end Go.Proofs.YtagijldedngcoaaGreatDoor

namespace Go.Proofs.YtagijldedngcoaaGreatDoor
open Go.RowKit Go.Lib

end Go.Proofs.YtagijldedngcoaaGreatDoor

namespace Go.Proofs.YtagijldedngcoaaGreatDoor
open Go.RowKit Go.Lib

section
variable {B : Nat} {v vs : Value} {L M : List OB} {w w' : World}
end

end Go.Proofs.YtagijldedngcoaaGreatDoor

namespace Go.Proofs.YtagijldedngcoaaGreatDoor
open Go.RowKit Go.Lib Go.Maps Go.MapKept Go.ChangeMaps
open Go.WideElems (Fit)

def obE (v : Value) : Option (DataW Unit × List MemPlace) :=
 match v with
 | .agg cs => match cs.toList with
  | [.string s] => if s.size ≤ maxLen then some (.agg [.lit (.string s.data.toList)],[]) else none
  | _ => none
 | _ => none
def obD (d : ByteArray) : DataW Unit:=.agg [.lit (.string d.data.toList)]
theorem obE_mk {s : ByteArray} (h : s.size ≤ maxLen) : obE (.agg #[.string s]) = some (obD s,[]):=by
 show (if s.size ≤ maxLen then _ else _) = _
 rw [if_pos h]; rfl
theorem obE_inv {v : Value} {z : DataW Unit × List MemPlace} (h : obE v = some z) : ∃ s : ByteArray,v = .agg #[.string s]∧z = (obD s,[])∧s.size ≤ maxLen:=by
 unfold obE at h
 split at h
 ·rename_i cs
  split at h
  ·rename_i s e
   split at h
   ·rename_i hs
    cases h
    exact ⟨s,by rw [show cs = #[.string s] from Array.toList_inj.1 e],rfl,hs⟩
   ·cases h
  ·cases h
 ·cases h
theorem obD_inj {a b : ByteArray} (h : obD a = obD b) : a = b:=by
 simp only [obD,DataW.agg.injEq,List.cons.injEq,DataW.lit.injEq,Lit.string.injEq,and_true] at h
 exact ByteArray.ext (Array.toList_inj.1 h)
theorem tight {H : Type} {P : Program} {k : TypeId} {R : Value→Option (DataW H × List MemPlace)} {w : World} {b n : Nat} {D : DataW H} (h : w.ownsMap P k R b n D) : w.ownsMap P k R b (Maps.size D) D:=by
 obtain ⟨es,clock,hb,F,hs,rfl⟩:=h
 refine ⟨es,clock,hb,F,?_,rfl⟩
 show es.size ≤ List.length _
 rw [length_sorted]
 simp

def MO (w : World) (b : Nat) (L : List OB) : Prop:=w.ownsMap Tryz.prog 9 obE b L.length (datL obD L)
theorem Tryz.zeroObj (w : World) : (zeroValue 130).run Tryz.prog w = .ok (.agg #[.string ⟨#[]⟩]) w:=by
 have h : Tryz.t130.zero = some (.agg #[.string ⟨#[]⟩]):=by kernel_rfl
 simp [zeroValue,h,Result.andThen,go_sem]
section
variable {w w' : World} {b : Nat} {L : List OB}
theorem MO.lt (h : MO w b L) : b < w.heap.size:=World.ownsMap.lt h
theorem MO.below (h : MO w b L) {B : Nat} (hb : Below B w w') (hB : b < B) : MO w' b L:=by
 obtain ⟨es,clock,hm,r⟩:=h
 exact ⟨es,clock,(hb.block b hB).trans hm,r⟩
theorem MO.gs (h : MO w b L) {p : Nat→Prop} (hg : Gs p w w') (hn : ¬ p b) : MO w' b L:=by
 have hl:=h.lt
 obtain ⟨es,clock,hm,r⟩:=h
 exact ⟨es,clock,(hg.block b hl hn).trans hm,r⟩
theorem MO.notCells (h : MO w b L) {c : Array Value} {T : TypeId} {fr : Nat × Nat} (hc : w.heap[b]? = some (.cells c T fr)) : False:=by
 obtain ⟨es,clock,hm,r⟩:=h
 rw [hm] at hc; cases hc
theorem MO.made (w : World) : MO (w.alloc (.map #[] 0)) w.heap.size []:=World.ownsMap_made w Tryz.prog 9 obE
theorem MO.set (h : MO w b L) {a : Addr} (ha : b ≠ a.block) (u : Value) : MO (w.setCell a u) b L:=World.ownsMap.setCell h ha u
theorem MO.look (h : MO w b L) {n : ByteArray} (hn : n.size ≤ maxLen) : (Instr.lookup 113 (.map (some b)) (.string n) true).run Tryz.prog w = .ok (.tuple #[.agg #[.string ((thr L n).getD ⟨#[]⟩)],.bool (thr L n).isSome]) w:=by
 obtain ⟨v,ps,hrun,hv⟩:=World.ownsMap.look_ok h (string_keyed Tryz.underlying9) Tryz.underlying113 (Tryz.zeroObj w) (zd:=obD ⟨#[]⟩) (zp:=[]) (obE_mk (Nat.zero_le _)) (WideMaps.keyOf_string_mk Tryz.underlying9 hn)
 rw [dat_has] at hrun
 rw [dat_at] at hv
 obtain ⟨s,rfl,hz,_⟩:=obE_inv hv
 have e : s = (thr L n).getD ⟨#[]⟩:=by
  have:=congrArg Prod.fst hz
  cases ht : thr L n with
  | none => rw [ht] at this; exact (obD_inj this).symm
  | some d => rw [ht] at this; exact (obD_inj this).symm
 rw [← e]
 exact hrun
theorem MO.put (h : MO w b L) (hL : Ris L) {n d : ByteArray} (hn : n.size ≤ maxLen) (hd : d.size ≤ maxLen) (hl : L.length ≤ 1000000) :
  ∃ w',(Instr.mapUpdate 113 (.map (some b)) (.string n) (.agg #[.string d])).run Tryz.prog w = .ok () w'∧MO w' b (layL L n d)∧w.grownBy w' (some b)∧w'.heap.size = w.heap.size:=by
 obtain ⟨w',hrun,ho,hg⟩:=World.ownsMap.store h (string_keyed Tryz.underlying9) Tryz.underlying113 (by unfold maxLen; omega) (WideMaps.keyOf_string_mk Tryz.underlying9 hn) (obE_mk hd)
 rw [dat_put obD hL] at ho
 have:=tight ho
 rw [dat_size] at this
 refine ⟨w',hrun,this,hg.grown,?_⟩
 obtain ⟨es,clock,es',clock',hb,rfl⟩:=hg
 simp [setBlock]
theorem MO.del (h : MO w b L) (hL : Ris L) {n : ByteArray} (hn : n.size ≤ maxLen) (ty : TypeId) :
  ∃ w',(Builtin.delete_ #[113,9] ty #[.map (some b),.string n]).run Tryz.prog w = .ok (.tuple #[]) w'∧MO w' b (delL L n)∧w.grownBy w' (some b)∧w'.heap.size = w.heap.size:=by
 obtain ⟨w',hrun,ho,hg⟩:=World.ownsMap.drop h (string_keyed Tryz.underlying9) Tryz.underlying113 (WideMaps.keyOf_string_mk Tryz.underlying9 hn) ty
 rw [dat_del obD hL] at ho
 have:=tight ho
 rw [dat_size] at this
 refine ⟨w',hrun,this,hg.grown,?_⟩
 obtain ⟨es,clock,es',clock',hb,rfl⟩:=hg
 simp [setBlock]
theorem MO.clear (h : MO w b L) (ty : TypeId) :
  ∃ w',(Builtin.clear_ #[113] ty #[.map (some b)]).run Tryz.prog w = .ok (.tuple #[]) w'∧MO w' b []∧w.grownBy w' (some b)∧w'.heap.size = w.heap.size:=by
 obtain ⟨es,clock,hb,F,hs,hD⟩:=h
 refine ⟨setBlock w b (.map #[] clock),?_,⟨#[],clock,heap_setBlock_same hb _,⟨by simp,?_,by simp⟩,Nat.le_refl _,rfl⟩,⟨rfl,rfl,rfl,by simp [setBlock],fun i _ hi => heap_setBlock_other hb _ (fun e => hi (by rw [e]))⟩,by simp [setBlock]⟩
 ·simp [Builtin.clear_,run_underlying Tryz.underlying113,MapKept.run_getObj_map hb,MapKept.run_setObj_map _ hb,Result.andThen,setBlock]
 ·exact stamped_empty clock
end

structure PS (w : World) (b mb : Nat) (q f : Int) (dn : Bool) (cl : Int) (L : List OB) : Prop where
 blk : w.heap[b]? = some (.cells #[.map (some mb),.int .i64 ((usedL L : Nat) : Int),.int .i64 q,.int .i64 f,.bool dn,.int .i64 cl] 120 (0,0))
 map : MO w mb L
 ris : Ris L
 small : ∀ p ∈ L,p.n.size ≤ 96∧p.d.size ≤ 131072
section
variable {w w' : World} {b mb : Nat} {q f : Int} {dn : Bool} {cl : Int} {L : List OB}
theorem PS.lt (h : PS w b mb q f dn cl L) : b < w.heap.size:=lt_of_block h.blk
theorem PS.mlt (h : PS w b mb q f dn cl L) : mb < w.heap.size:=h.map.lt
theorem PS.ne (h : PS w b mb q f dn cl L) : mb ≠ b:=fun e => by
 have:=h.map
 rw [e] at this
 exact this.notCells h.blk
theorem PS.cell0 (h : PS w b mb q f dn cl L) : w.cell? ⟨b,0,none⟩ = some (.map (some mb)):=by simp [World.cell?,h.blk]
theorem PS.cell1 (h : PS w b mb q f dn cl L) : w.cell? ⟨b,1,none⟩ = some (.int .i64 ((usedL L : Nat) : Int)):=by simp [World.cell?,h.blk]
theorem PS.cell2 (h : PS w b mb q f dn cl L) : w.cell? ⟨b,2,none⟩ = some (.int .i64 q):=by simp [World.cell?,h.blk]
theorem PS.cell3 (h : PS w b mb q f dn cl L) : w.cell? ⟨b,3,none⟩ = some (.int .i64 f):=by simp [World.cell?,h.blk]
theorem PS.cell4 (h : PS w b mb q f dn cl L) : w.cell? ⟨b,4,none⟩ = some (.bool dn):=by simp [World.cell?,h.blk]
theorem PS.cell5 (h : PS w b mb q f dn cl L) : w.cell? ⟨b,5,none⟩ = some (.int .i64 cl):=by simp [World.cell?,h.blk]
theorem PS.free (h : PS w b mb q f dn cl L) (j : Nat) : w.frozen? ⟨b,j,none⟩ = false:=by simp [World.frozen?,h.blk]
theorem PS.below (h : PS w b mb q f dn cl L) {B : Nat} (hb : Below B w w') (hB : w.heap.size ≤ B) : PS w' b mb q f dn cl L :=
 ⟨(hb.block b (Nat.lt_of_lt_of_le h.lt hB)).trans h.blk,h.map.below hb (Nat.lt_of_lt_of_le h.mlt hB),h.ris,h.small⟩
theorem PS.drew (h : PS w b mb q f dn cl L) : PS w.drew b mb q f dn cl L:=⟨h.blk,h.map,h.ris,h.small⟩
theorem PS.bel (h : PS w b mb q f dn cl L) (hb : Below w.heap.size w w') : PS w' b mb q f dn cl L:=h.below hb (Nat.le_refl _)
theorem PS.gs (h : PS w b mb q f dn cl L) {p : Nat→Prop} (hg : Gs p w w') (h1 : ¬ p b) (h2 : ¬ p mb) : PS w' b mb q f dn cl L :=
 ⟨(hg.block b h.lt h1).trans h.blk,h.map.gs hg h2,h.ris,h.small⟩
theorem PS.set3 (h : PS w b mb q f dn cl L) (x : Int) : PS (w.setCell ⟨b,3,none⟩ (.int .i64 x)) b mb q x dn cl L:=⟨heap_set_self h.blk,h.map.set h.ne _,h.ris,h.small⟩
theorem PS.set5 (h : PS w b mb q f dn cl L) (x : Int) : PS (w.setCell ⟨b,5,none⟩ (.int .i64 x)) b mb q f dn x L:=⟨heap_set_self h.blk,h.map.set h.ne _,h.ris,h.small⟩
end
def two (b mb : Nat) (i : Nat) : Prop:=i = b ∨ i = mb
theorem Gs.set {p : Nat→Prop} {w w1 : World} (h : Gs p w w1) {a : Addr} (ha : p a.block ∨ w.heap.size ≤ a.block) (u : Value) : Gs p w (w1.setCell a u) :=
 ⟨h.os,h.tape,h.output,by simp [World.setCell]; exact h.size,fun i hi hp => (Below.heap_setCell _ _ _ _ (by
  intro e
  rcases ha with ha | ha
  ·rw [← e] at ha; exact hp ha
  ·omega)).trans (h.block i hi hp)⟩
theorem Gs.ofd (p : Nat→Prop) {w w1 : World} (h : Below w.drew.heap.size w.drew w1) : Gs p w w1:=⟨h.os,h.tape,h.output,h.size,fun i hi _ => h.block i hi⟩
theorem used_bound {L : List OB} (h : ∀ p ∈ L,p.n.size ≤ 96∧p.d.size ≤ 131072) : usedL L ≤ L.length * 131168:=by
 induction L with
 | nil => exact Nat.le_refl _
 | cons p r ih =>
  have h1:=h p List.mem_cons_self
  have h2:=ih (fun q hq => h q (List.mem_cons_of_mem _ hq))
  rw [usedL,List.length_cons]
  omega
theorem small_lay {L : List OB} (h : ∀ p ∈ L,p.n.size ≤ 96∧p.d.size ≤ 131072) {n d : ByteArray} (hn : n.size ≤ 96) (hd : d.size ≤ 131072) : ∀ p ∈ layL L n d,p.n.size ≤ 96∧p.d.size ≤ 131072:=fun p hp => by
 rcases mem_lay hp with rfl | hp
 ·exact ⟨hn,hd⟩
 ·exact h p hp
theorem small_del {L : List OB} (h : ∀ p ∈ L,p.n.size ≤ 96∧p.d.size ≤ 131072) (n : ByteArray) : ∀ p ∈ delL L n,p.n.size ≤ 96∧p.d.size ≤ 131072:=fun p hp => h p (mem_del hp)
theorem len_lay (L : List OB) (n d : ByteArray) : (layL L n d).length ≤ L.length + 1:=by
 induction L with
 | nil => simp [layL]
 | cons p r ih =>
  rw [layL]
  split
  ·simp; exact ih
  ·split <;> simp
theorem len_del (L : List OB) (n : ByteArray) : (delL L n).length ≤ L.length:=by
 induction L with
 | nil => simp [delL]
 | cons p r ih =>
  rw [delL]
  split
  ·simp
  ·simp; exact ih
theorem thr_small {L : List OB} (h : ∀ p ∈ L,p.n.size ≤ 96∧p.d.size ≤ 131072) {n d : ByteArray} (ht : thr L n = some d) : n.size ≤ 96∧d.size ≤ 131072:=by
 induction L with
 | nil => cases ht
 | cons p r ih =>
  rw [thr] at ht
  split at ht
  ·rename_i e
   cases ht
   have:=h p List.mem_cons_self
   rw [e] at this
   exact this
  ·exact ih (fun q hq => h q (List.mem_cons_of_mem _ hq)) ht
theorem sz_small {L : List OB} (h : ∀ p ∈ L,p.n.size ≤ 96∧p.d.size ≤ 131072) (n : ByteArray) : szO n (thr L n) ≤ 131168:=by
 cases ht : thr L n with
 | none => exact Nat.zero_le _
 | some d =>
  have:=thr_small h ht
  show n.size + d.size ≤ _
  omega
end Go.Proofs.YtagijldedngcoaaGreatDoor

namespace Go.Proofs.YtagijldedngcoaaGreatDoor
open Go.RowKit Go.Lib Go.Maps

def fcode (n d : ByteArray) : Int:=if mayB n = true then (if d.size ≤ 131072 then 0 else 2) else 3

theorem size_any (n d : ByteArray) (x : Nat) (hx : Hid (x = n.size + d.size)) (h : n.size + d.size ≤ 9223372036854775807) (w : World) : Calls Tryz.prog 134 #[.string n,.string d] w fun e w' => e = .returned (.int .i64 (x : Int))∧w' = w:=by
 have hs : IntKind.i64.wrap ((n.size : Int) + (d.size : Int)) = (x : Int):=by rw [hx.out]; simp [IntKind.wrap_i64]; omega
 have h1 : n.size ≤ 9223372036854775807:=by omega
 have h2 : d.size ≤ 9223372036854775807:=by omega
 clear hx
 go_enter Tryz.func134,Tryz.ntmps134
 go_wp2
 go_ret
 exact ⟨rfl,rfl⟩

theorem mayBe_any (n : ByteArray) (w : World) (hs : n.size ≤ 9223372036854775807) : Calls Tryz.prog 133 #[.string n] w fun e w' => e = .returned (.bool (mayB n))∧w' = w:=by
 by_cases h0 : n.size = 0
 ·have e0 : n = ⟨#[]⟩:=ByteArray.ext (Array.eq_empty_of_size_eq_zero h0)
  subst e0
  go_enter Tryz.func133,Tryz.ntmps133
  go_wp2
  go_ret
  exact ⟨rfl,rfl⟩
 have hz0 : ¬ (n.size : Int) = 0:=by omega
 by_cases h1 : (96 : Int) < (n.size : Int)
 ·have hm : mayB n = false:=by rw [mayB,decide_eq_false (show ¬ n.size ≤ 96 by omega)]; simp
  rw [hm]
  go_enter Tryz.func133,Tryz.ntmps133
  go_wp2
  go_ret
  exact ⟨rfl,rfl⟩
 have hmb : mayB n = n.data.toList.all okB:=by rw [mayB,decide_eq_true (show 1 ≤ n.size by omega),decide_eq_true (show n.size ≤ 96 by omega)]; simp
 obtain ⟨V,hV⟩ : ∃ V,V = mayB n:=⟨_,rfl⟩
 rw [← hV]
 have HV:=hide (hV.trans hmb)
 clear hmb hV
 go_enter Tryz.func133,Tryz.ntmps133
 go_wp2
 go_loop [14] (fun i => ∃ j : Nat,j ≤ n.size∧i = .int .i64 j∧(n.data.toList.take j).all okB = true) (fun i => n.size - (intOf i).toNat)
 case atStart => exact ⟨0,Nat.zero_le _,rfl,rfl⟩
 case round =>
  obtain ⟨j,hj,rfl,hA⟩:=hrel
  by_cases hlt : j < n.size
  ·have hlt' : (j : Int) < (n.size : Int):=by omega
   have HA:=hide hA
   have HT:=hide (take_snoc n j hlt)
   have HM : Hid (n[j] ∈ n.data.toList):=List.getElem_mem (l:=n.data.toList) (n:=j) (by simpa using hlt)
   clear hA
   by_cases h2 : n[j].toNat ≤ 32
   ·have hf : Hid (n.data.toList.all okB = false):=by
     show n.data.toList.all okB = false
     rw [List.all_eq_false]
     exact ⟨n[j],HM.out,by rw [okB,decide_eq_false (by omega)]; simp⟩
    have hz : (n[j].toNat : Int) ≤ 32:=by omega
    go_wp2
    go_ret
    exact ⟨by rw [HV.out.trans hf.out]; rfl,rfl⟩
   by_cases h3 : 127 ≤ n[j].toNat
   ·have hf : Hid (n.data.toList.all okB = false):=by
     show n.data.toList.all okB = false
     rw [List.all_eq_false]
     exact ⟨n[j],HM.out,by rw [okB,decide_eq_false (show ¬ n[j].toNat < 127 by omega)]; simp⟩
    have hz : ¬ (n[j].toNat : Int) ≤ 32:=by omega
    have hz2 : (127 : Int) ≤ (n[j].toNat : Int):=by omega
    go_wp2
    go_ret
    exact ⟨by rw [HV.out.trans hf.out]; rfl,rfl⟩
   have hz : ¬ (n[j].toNat : Int) ≤ 32:=by omega
   have hz2 : ¬ (127 : Int) ≤ (n[j].toNat : Int):=by omega
   have HN : Hid ((n.data.toList.take (j + 1)).all okB = true):=by
    show (n.data.toList.take (j + 1)).all okB = true
    rw [HT.out,List.all_append,HA.out,List.all_cons,okB,decide_eq_true (by omega),decide_eq_true (by omega)]
    rfl
   clear HT HA HM
   go_wp2
   go_round
   case rel => exact ⟨j + 1,by omega,by go_num,HN.out⟩
   case measure => simp [intOf]; omega
  ·obtain rfl : j = n.size:=by omega
   have hf : Hid (n.data.toList.all okB = true):=by
    show n.data.toList.all okB = true
    rw [← hA,List.take_of_length_le (by simp)]
   go_wp2
   go_ret
   exact ⟨by rw [HV.out.trans hf.out]; rfl,rfl⟩

theorem fault_any (n d : ByteArray) (w : World) (hn : n.size ≤ 9223372036854775807) (hd : d.size ≤ 9223372036854775807) : Calls Tryz.prog 77 #[.string n,.string d] w fun e w' => e = .returned (.int .i64 (fcode n d))∧w' = w:=by
 have HM : Hid _:=hide (mayBe_any n w hn)
 obtain ⟨C,hC⟩ : ∃ C,C = fcode n d:=⟨_,rfl⟩
 rw [← hC]
 have HC:=hide hC
 clear hC
 go_enter Tryz.func77,Tryz.ntmps77
 go_wp2_with fail
 refine HM.out.mono ?_
 rintro e w' ⟨rfl,rfl⟩
 clear HM
 cases hm : mayB n with
 | false =>
  have hc : C = 3:=by rw [HC.out,fcode,hm]; rfl
  subst hc
  go_wp2
  go_ret
  exact ⟨rfl,rfl⟩
 | true =>
  by_cases h : d.size ≤ 131072
  ·have hc : C = 0:=by rw [HC.out,fcode,hm,if_pos rfl,if_pos h]
   subst hc
   have h' : ¬ (131072 : Int) < (d.size : Int):=by omega
   go_wp2
   go_ret
   exact ⟨rfl,rfl⟩
  ·have hc : C = 2:=by rw [HC.out,fcode,hm,if_pos rfl,if_neg h]
   subst hc
   have h' : (131072 : Int) < (d.size : Int):=by omega
   go_wp2
   go_ret
   exact ⟨rfl,rfl⟩

theorem new_ok (q : Int) (w : World) (h0 : 0 ≤ q) (h1 : q ≤ 1073741824) :
  Calls Tryz.prog 10 #[.int .i64 q] w fun e w' => e = .returned (.tuple #[.pointer (some ⟨w.heap.size + 1,0,none⟩),.int .i64 0])∧PS w' (w.heap.size + 1) w.heap.size q 0 false 0 []∧Below w.heap.size w w':=by
 have h2 : ¬ q < 0:=by omega
 have h3 : ¬ 1073741824 < q:=by omega
 have hmk : (Instr.makeMap 113 none).run Tryz.prog w = .ok (.map (some w.heap.size)) (w.alloc (.map #[] 0)):=rfl
 go_enter Tryz.func10,Tryz.ntmps10
 go_wp2
 go_ret2
 have hb1 : Below w.heap.size w (w.alloc (.map #[] 0)):=(Below.refl _ _).alloc (Nat.le_refl _) _
 refine ⟨by simp,?_,hb1.alloc (by simp) _⟩
 refine ⟨?_,?_,List.Pairwise.nil,fun p hp => by cases hp⟩
 ·have:=heap_alloc_new (w.alloc (.map #[] 0)) (.cells #[.map (some w.heap.size),.int .i64 ((usedL [] : Nat) : Int),.int .i64 q,.int .i64 0,.bool false,.int .i64 0] 120 (0,0))
  rw [show (w.alloc (.map #[] 0)).heap.size = w.heap.size + 1 by simp] at this
  exact this
 ·exact (MO.made w).below ((Below.refl _ _).alloc (Nat.le_refl _) _) (by simp)

end Go.Proofs.YtagijldedngcoaaGreatDoor

namespace Go.Proofs.YtagijldedngcoaaGreatDoor
open Go.RowKit Go.Lib Go.Maps

section
variable {w : World} {b mb : Nat} {q f : Int} {dn : Bool} {cl : Int} {L : List OB}

theorem usedBy_any (hP : PS w b mb q f dn cl L) (n : ByteArray) (hn : n.size ≤ maxLen) :
  Calls Tryz.prog 135 #[.pointer (some ⟨b,0,none⟩),.string n] w fun e w' => e = .returned (.int .i64 ((szO n (thr L n) : Nat) : Int))∧Below w.heap.size w w':=by
 have y0:=hP.cell0
 have hk:=hP.map.look hn
 have HS:=hide hP.small
 have HN:=hide hn
 clear hP hn
 cases ht : thr L n with
 | none =>
  rw [ht] at hk
  dsimp only [Option.isSome,Option.getD] at hk
  go_enter Tryz.func135,Tryz.ntmps135
  go_wp2
  go_ret
  exact ⟨rfl,(Below.refl _ _).alloc (Nat.le_refl _) _⟩
 | some d =>
  rw [ht] at hk
  dsimp only [Option.isSome,Option.getD] at hk
  have hs:=thr_small HS.out ht
  obtain ⟨x,hx⟩ : ∃ x,x = szO n (some d):=⟨_,rfl⟩
  rw [← hx]
  have HC : Hid _:=hide (size_any n d x hx (by omega))
  clear hx ht
  go_enter Tryz.func135,Tryz.ntmps135
  go_wp2_with (go_at_call 134; refine (HC.out _).mono ?_; rintro e w' ⟨rfl,rfl⟩)
  go_wp2
  go_ret
  exact ⟨rfl,(Below.refl _ _).alloc (Nat.le_refl _) _⟩

theorem pget_any (hP : PS w b mb q f dn cl L) (n : ByteArray) (hn : n.size ≤ maxLen) :
  Calls Tryz.prog 18 #[.pointer (some ⟨b,0,none⟩),.string n] w fun e w' => e = .returned (.tuple #[.string ((thr L n).getD ⟨#[]⟩),.bool (thr L n).isSome])∧Below w.heap.size w w':=by
 have y0:=hP.cell0
 have hk:=hP.map.look hn
 clear hP hn
 generalize (thr L n).getD ⟨#[]⟩ = d at *
 generalize (thr L n).isSome = t at *
 go_enter Tryz.func18,Tryz.ntmps18
 go_wp2
 go_ret2
 exact ⟨rfl,(Below.refl _ _).alloc (Nat.le_refl _) _⟩

theorem lay_any (hP : PS w b mb q f dn cl L) (n d : ByteArray) (hn : n.size ≤ 96) (hd : d.size ≤ 131072) (hl : L.length ≤ 1000000) :
  Calls Tryz.prog 78 #[.pointer (some ⟨b,0,none⟩),.string n,.string d] w fun e w' => e = .returned (.tuple #[])∧PS w' b mb q f dn cl (layL L n d)∧Gs (two b mb) w w':=by
 obtain ⟨x,hx⟩ : ∃ x,x = n.size + d.size:=⟨_,rfl⟩
 have HZ : Hid _:=hide (size_any n d x hx (by omega))
 obtain ⟨y,hy⟩ : ∃ y,y = szO n (thr L n):=⟨_,rfl⟩
 have HU : Hid (∀ w1,PS w1 b mb q f dn cl L→Calls Tryz.prog 135 #[.pointer (some ⟨b,0,none⟩),.string n] w1 fun e w' => e = .returned (.int .i64 (y : Int))∧Below w1.heap.size w1 w'):=fun w1 h1 => by
  rw [hy]; exact usedBy_any h1 n (by unfold maxLen; omega)
 have HP:=hide hP
 have y1:=hP.cell1
 have z1:=hP.free 1
 obtain ⟨u,hu⟩ : ∃ u,u = usedL L:=⟨_,rfl⟩
 have hub:=used_bound hP.small
 obtain ⟨v,hv⟩ : ∃ v,v = usedL (layL L n d):=⟨_,rfl⟩
 have huv : v + y = u + x:=by rw [hv,hy,hu,hx]; have:=used_lay hP.ris n d; omega
 have hyb : y ≤ 131168:=by rw [hy]; exact sz_small hP.small n
 have hxb : x ≤ 131168:=by omega
 have hub' : u ≤ 131168000000:=by rw [hu]; omega
 have f1 : IntKind.i64.wrap ((x : Int) - (y : Int)) = (x : Int) - (y : Int):=by simp [IntKind.wrap_i64]; omega
 have f2 : IntKind.i64.wrap ((u : Int) + ((x : Int) - (y : Int))) = (v : Int):=by simp [IntKind.wrap_i64]; omega
 rw [← hu] at y1
 have HCU : Hid (∀ w1,PS w1 b mb q f dn cl L→w1.cell? ⟨b,1,none⟩ = some (.int .i64 (u : Int))):=fun w1 h1 => by rw [hu]; exact h1.cell1
 have HEND : Hid (∀ w1,PS w1 b mb q f dn cl L→∃ w2,(Instr.mapUpdate 113 (.map (some mb)) (.string n) (.agg #[.string d])).run Tryz.prog (w1.setCell ⟨b,1,none⟩ (.int .i64 (v : Int))) = .ok () w2∧(w1.setCell ⟨b,1,none⟩ (.int .i64 (v : Int))).cell? ⟨b,0,none⟩ = some (.map (some mb))∧PS w2 b mb q f dn cl (layL L n d)∧Gs (two b mb) w1 w2):=fun w1 h1 => by
  have hm : MO (w1.setCell ⟨b,1,none⟩ (.int .i64 (v : Int))) mb L:=h1.map.set h1.ne _
  have hblk:=heap_set_self (j:=1) (u:=.int .i64 (v : Int)) h1.blk
  obtain ⟨w2,r,hm2,hg,hsz⟩:=hm.put h1.ris (n:=n) (d:=d) (by unfold maxLen; omega) (by unfold maxLen; omega) hl
  refine ⟨w2,r,by simp [World.cell?,hblk],⟨?_,hm2,ris_lay h1.ris n d,small_lay h1.small hn hd⟩,?_⟩
  ·rw [hg.block b (by simp [World.setCell]; exact h1.lt) (fun e => h1.ne (Option.some.inj e).symm),hblk,← hv]
   rfl
  ·exact ((Gs.refl _ _).set (.inl (.inl rfl)) _).gb hg (.inl (.inr rfl))
 clear hP hub hu hv hy hx
 go_enter Tryz.func78,Tryz.ntmps78
 go_upto_region 0 with fail
 go_region_with (first | (go_at_call 134; refine (HZ.out _).mono ?_; rintro e w' ⟨rfl,rfl⟩) | (go_at_call 135; refine (HU.out _ HP.out.drew).mono ?_; rintro e w1 ⟨rfl,hb1⟩; have HB1:=hide hb1; have HP1:=hide (HP.out.drew.bel hb1); have y2:=HCU.out w1 HP1.out; have z2:=HP1.out.free 1; clear hb1))
 all_goals (
  obtain ⟨w2,r,c0,hP2,hG2⟩:=HEND.out _ HP1.out
  have HF:=hide (And.intro hP2 ((Gs.ofd _ HB1.out).trans hG2))
  clear y2 z2 y1 z1 hP2 hG2
  go_wp2
  go_end0
  exact ⟨rfl,HF.out⟩)
end
end Go.Proofs.YtagijldedngcoaaGreatDoor

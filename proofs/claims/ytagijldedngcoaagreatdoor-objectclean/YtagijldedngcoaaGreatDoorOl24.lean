/-
  Contracts of the program and of the statements (part 24 of 28).
-/
import Derived.Test.YtagijldedngcoaaGreatDoorOl23
import Derived.Test.YtagijldedngcoaaGreatDoorOl20
import Derived.Test.YtagijldedngcoaaGreatDoorOl22
set_option maxRecDepth 100000
set_option maxHeartbeats 3200000

namespace Go.Proofs.YtagijldedngcoaaGreatDoor
open Go.RowKit Go.Lib Go.Maps
section
variable {S : List SS} {l : List QT} {q m : Int} {nm d x : ByteArray} {o : Option ByteArray} {O : List (Option ByteArray)} {K M : Nat} {s : ByteArray}
theorem each_one : ∀ (n : Nat) (l : List QT) (S : List SS),l.length = n→(∀ (i : Nat) (q : QT),l[i]? = some q→q.st = (i : Int))→l.length ≤ S.length →
  (ySs S l).length = S.length∧(∀ (i : Nat) (q : QT) (s : SS),l[i]? = some q→S[i]? = some s→(yRs S l)[i]? = some (doR s q.k q.n q.d)∧(ySs S l)[i]? = some (doS s q.k q.n q.d))∧∀ i,l.length ≤ i→(ySs S l)[i]? = S[i]?:=by
 intro n
 induction n with
 | zero =>
  intro l S hl hq hS
  obtain rfl : l = []:=List.length_eq_zero_iff.1 hl
  exact ⟨rfl,fun i q s h => by simp at h,fun i _ => rfl⟩
 | succ n ih =>
  intro l S hl hq hS
  obtain ⟨l',q,rfl⟩ : ∃ l' q,l = l' ++ [q]:=⟨l.dropLast,l.getLast (fun e => by rw [e] at hl; cases hl),(List.dropLast_concat_getLast _).symm⟩
  have hl' : l'.length = n:=by simpa using hl
  rw [List.length_append,List.length_singleton] at hS
  obtain ⟨h0,h1,h2⟩:=ih l' S hl' (fun i p hp => hq i p (by rw [List.getElem?_append_left (List.getElem?_eq_some_iff.1 hp).1]; exact hp)) (by omega)
  have hst : q.st = ((l'.length : Nat) : Int):=hq l'.length q (by simp)
  have hat : S[l'.length]? = some S[l'.length]:=List.getElem?_eq_getElem (by omega)
  obtain ⟨s0,hs0⟩ : ∃ s0,S[l'.length]? = some s0:=⟨_,hat⟩
  have hn:=(h2 l'.length (Nat.le_refl _)).trans hs0
  have eR : yR (ySs S l') q = doR s0 q.k q.n q.d:=by rw [yR,hst,if_pos (by omega),Int.toNat_natCast,hn]
  have eS : yS (ySs S l') q = (ySs S l').set l'.length (doS s0 q.k q.n q.d):=by rw [yS,hst,if_pos (by omega),Int.toNat_natCast,hn]
  rw [yRs_snoc,ySs_snoc,eR,eS]
  refine ⟨by rw [List.length_set]; exact h0,fun i p s hp hs => ?_,fun i hi => ?_⟩
  ·rcases snocGet hp with ⟨hi,hp⟩ | ⟨hi,rfl⟩
   ·obtain ⟨k1,k2⟩:=h1 i p s hp hs
    refine ⟨by rw [List.getElem?_append_left (by rw [yRs_len]; exact hi)]; exact k1,?_⟩
    rw [List.getElem?_set,if_neg (by omega)]; exact k2
   ·subst hi
    rw [hs] at hs0
    cases hs0
    refine ⟨by rw [List.getElem?_append_right (by rw [yRs_len]; exact Nat.le_refl _),yRs_len,Nat.sub_self]; rfl,?_⟩
    rw [List.getElem?_set,if_pos rfl,if_pos (by rw [h0]; omega)]
  ·rw [List.length_append,List.length_singleton] at hi
   rw [List.getElem?_set,if_neg (by omega)]
   exact h2 i (by omega)
theorem aqI {k : Int} {n d : ByteArray} {m i : Nat} (h : i < m) : (aq k n d m)[i]? = some ⟨(i : Int),k,n,d⟩:=by rw [aq,List.getElem?_map,List.getElem?_range h]; rfl
theorem pqI {n d : ByteArray} {ds : List ByteArray} {i : Nat} (h : ds[i]? = some d) : (pq n ds)[i]? = some ⟨(i : Int),1,n,d⟩:=by rw [pq,List.getElem?_mapIdx,h]; rfl
theorem all_asked {k : Int} {n d : ByteArray} (S : List SS) : yRs S (aq k n d S.length) = S.map (fun s => doR s k n d)∧ySs S (aq k n d S.length) = S.map fun s => doS s k n d:=by
 obtain ⟨h0,h1,h2⟩:=each_one _ (aq k n d S.length) S rfl (fun i q hq => by
  have hi : i < S.length:=by have:=(List.getElem?_eq_some_iff.1 hq).1; rw [aq_len] at this; exact this
  rw [aqI hi] at hq; cases hq; rfl) (by rw [aq_len]; exact Nat.le_refl _)
 refine ⟨List.ext_getElem? fun i => ?_,List.ext_getElem? fun i => ?_⟩ <;> by_cases hi : i < S.length
 ·rw [(h1 i _ _ (aqI hi) (List.getElem?_eq_getElem hi)).1,List.getElem?_map,List.getElem?_eq_getElem hi]; rfl
 ·rw [List.getElem?_eq_none (by rw [yRs_len,aq_len]; omega),List.getElem?_eq_none (by rw [List.length_map]; omega)]
 ·rw [(h1 i _ _ (aqI hi) (List.getElem?_eq_getElem hi)).2,List.getElem?_map,List.getElem?_eq_getElem hi]; rfl
 ·rw [List.getElem?_eq_none (by omega),List.getElem?_eq_none (by rw [List.length_map]; omega)]
theorem all_put {n : ByteArray} {ds : List ByteArray} (S : List SS) (hl : ds.length = S.length) : yRs S (pq n ds) = List.zipWith (fun s d => doR s 1 n d) S ds∧ySs S (pq n ds) = List.zipWith (fun s d => doS s 1 n d) S ds:=by
 obtain ⟨h0,h1,h2⟩:=each_one _ (pq n ds) S rfl (fun i q hq => by
  have hi : i < ds.length:=by have:=(List.getElem?_eq_some_iff.1 hq).1; rw [pq_len] at this; exact this
  rw [pqI (List.getElem?_eq_getElem hi)] at hq; cases hq; rfl) (by rw [pq_len]; omega)
 refine ⟨List.ext_getElem? fun i => ?_,List.ext_getElem? fun i => ?_⟩ <;> by_cases hi : i < S.length
 ·have hd : ds[i]? = some (ds[i]'(by omega)):=List.getElem?_eq_getElem (by omega)
  rw [(h1 i _ _ (pqI hd) (List.getElem?_eq_getElem hi)).1,List.getElem?_zipWith,List.getElem?_eq_getElem hi,hd]
 ·rw [List.getElem?_eq_none (by rw [yRs_len,pq_len]; omega),List.getElem?_eq_none (by rw [List.length_zipWith]; omega)]
 ·have hd : ds[i]? = some (ds[i]'(by omega)):=List.getElem?_eq_getElem (by omega)
  rw [(h1 i _ _ (pqI hd) (List.getElem?_eq_getElem hi)).2,List.getElem?_zipWith,List.getElem?_eq_getElem hi,hd]
 ·rw [List.getElem?_eq_none (by omega),List.getElem?_eq_none (by rw [List.length_zipWith]; omega)]
def st1 (q m : Int) (nm : ByteArray) (o : Option ByteArray) : SS:=⟨q,0,m,false,o.toList.map fun d => ⟨nm,d⟩⟩
def gans (o : Option ByteArray) : RR:=⟨if o.isSome = true then 0 else 5,o.getD ⟨#[]⟩,[]⟩
theorem st1_thr : thr (st1 q m nm o).L nm = o:=by
 cases o with
 | none => rfl
 | some d => simp [st1,thr]
theorem st1_get : doR (st1 q m nm o) 2 nm x = gans o∧doS (st1 q m nm o) 2 nm x = st1 q (m + 1) nm o:=by
 have:=st1_thr (q:=q) (m:=m) (nm:=nm) (o:=o)
 refine ⟨?_,?_⟩
 ·have e1 : (st1 q m nm o).off = false:=rfl
  have e2 : ¬ 0 < (st1 q m nm o).f:=by show ¬ (0 : Int) < 0; omega
  rw [doR,e1,if_neg (by decide),if_neg e2,if_neg (by decide),if_pos rfl,dcode,this,gans]
 ·rfl
theorem st1_lay : layL (st1 q m nm o).L nm d = [⟨nm,d⟩]:=by
 cases o with
 | none => rfl
 | some e =>
  have : bl nm nm = false:=bl_irrefl nm
  simp [st1,layL,this]
theorem st1_put (hn : mayB nm = true) (hd : d.size ≤ 131072) (hq : ((nm.size + d.size : Nat) : Int) ≤ q) : doR (st1 q m nm o) 1 nm d = ⟨0,⟨#[]⟩,[]⟩∧doS (st1 q m nm o) 1 nm d = st1 q (m + 1) nm (some d):=by
 have e1 : (st1 q m nm o).off = false:=rfl
 have e2 : ¬ 0 < (st1 q m nm o).f:=by show ¬ (0 : Int) < 0; omega
 have e3 : pcode nm d (st1 q m nm o).L (st1 q m nm o).q = 0:=by
  rw [pcode,if_pos hn,if_pos hd,st1_lay,if_pos]
  show ((nm.size + d.size + 0 : Nat) : Int) ≤ q
  exact hq
 refine ⟨?_,?_⟩
 ·rw [doR,e1,if_neg (by decide),if_neg e2,if_pos rfl,e3]
 ·rw [doS,e1,if_neg (by decide),if_neg e2,if_pos rfl,putL,if_pos e3,st1_lay]
  rfl
def sts (q m : Int) (nm : ByteArray) (O : List (Option ByteArray)) : List SS:=O.map (st1 q m nm)
theorem sts_len : (sts q m nm O).length = O.length:=by simp [sts]
theorem sts_new {n : Nat} : List.replicate n (sq q) = sts q 0 nm (List.replicate n none):=by rw [sts,List.map_replicate]; rfl
theorem sts_get : yRs (sts q m nm O) (aq 2 nm x O.length) = O.map gans∧ySs (sts q m nm O) (aq 2 nm x O.length) = sts q (m + 1) nm O:=by
 have h:=all_asked (k:=2) (n:=nm) (d:=x) (sts q m nm O)
 rw [sts_len] at h
 rw [h.1,h.2,sts,sts,List.map_map,List.map_map]
 exact ⟨List.map_congr_left fun o _ => st1_get.1,List.map_congr_left fun o _ => st1_get.2⟩
theorem sts_put {ds : List ByteArray} (hl : ds.length = O.length) (hn : mayB nm = true) (hd : ∀ d ∈ ds,d.size ≤ 131072∧((nm.size + d.size : Nat) : Int) ≤ q) : yRs (sts q m nm O) (pq nm ds) = ds.map (fun _ => ⟨0,⟨#[]⟩,[]⟩)∧ySs (sts q m nm O) (pq nm ds) = sts q (m + 1) nm (ds.map some):=by
 have h:=all_put (n:=nm) (ds:=ds) (sts q m nm O) (by rw [sts_len]; exact hl)
 rw [h.1,h.2]
 refine ⟨List.ext_getElem? fun i => ?_,List.ext_getElem? fun i => ?_⟩
 all_goals
  rw [List.getElem?_zipWith]
  by_cases hi : i < O.length
  ·have h1 : (sts q m nm O)[i]? = some (st1 q m nm O[i]):=by rw [sts,List.getElem?_map,List.getElem?_eq_getElem hi]; rfl
   have h2 : ds[i]? = some (ds[i]'(by omega)):=List.getElem?_eq_getElem (by omega)
   have hk:=hd _ (List.mem_of_getElem? h2)
   rw [h1,h2]
   simp only [sts,List.getElem?_map,h2,Option.map_some]
   first | rw [(st1_put hn hk.1 hk.2).1] | rw [(st1_put hn hk.1 hk.2).2]
  ·rw [List.getElem?_eq_none (show (sts q m nm O).length ≤ i by rw [sts_len]; omega)]
   simp only [sts,List.getElem?_map,List.getElem?_eq_none (show ds.length ≤ i by omega),Option.map_none]
theorem sts_gd {t : Nat} (ht : 1 ≤ t) (h0 : 0 ≤ m) (hm : m ≤ t) (hn : nm.size ≤ 96) (hO : ∀ d,some d ∈ O→d.size ≤ 131072) : GD t (sts q m nm O):=by
 intro s hs
 obtain ⟨o,ho,rfl⟩:=List.mem_map.1 hs
 refine ⟨?_,?_,?_,h0,hm,by show (0 : Int) ≤ 1048576; omega⟩
 ·cases o with
  | none => exact List.Pairwise.nil
  | some d => exact List.pairwise_singleton _ _
 ·intro p hp
  cases o with
  | none => simp [st1] at hp
  | some d =>
   simp [st1] at hp
   subst hp
   exact ⟨hn,hO d ho⟩
 ·cases o with
  | none => exact Nat.zero_le _
  | some d => exact ht
theorem ySs_ap : ∀ (l m : List QT) (S : List SS),ySs S (l ++ m) = ySs (ySs S l) m
 | [],m,S => rfl
 | q :: l,m,S => by rw [List.cons_append,ySs,ySs,ySs_ap l]
theorem putP_new {α : Type} {k : Int × Int→PN α} {y : α} (hk : k (0,0) = .fin y) (hK : 1 ≤ K) (hs : s.size ≤ 65536) (hn : mayB nm = true) (hd : ∀ d ∈ shL K M s,d.size ≤ 131072∧((nm.size + d.size : Nat) : Int) ≤ q) :
  (putP K M nm s k).tr (sts q m nm (List.replicate (K + M) none)) = aq 2 nm ⟨#[]⟩ (K + M) ++ pq nm (shL K M s)∧(putP K M nm s k).res (sts q m nm (List.replicate (K + M) none)) = y∧ySs (sts q m nm (List.replicate (K + M) none)) (aq 2 nm ⟨#[]⟩ (K + M) ++ pq nm (shL K M s)) = sts q (m + 2) nm ((shL K M s).map some):=by
 have hO : (List.replicate (K + M) (none : Option ByteArray)).length = K + M:=by simp
 have hg:=sts_get (q:=q) (m:=m) (nm:=nm) (x:=⟨#[]⟩) (O:=List.replicate (K + M) none)
 rw [hO] at hg
 have hp:=sts_put (q:=q) (m:=m + 1) (nm:=nm) (O:=List.replicate (K + M) none) (ds:=shL K M s) (by rw [hO,shL_len]) hn hd
 have hA : Gn K M s ((List.replicate (K + M) none).map gans):=fun i x hx => by
  rw [List.map_replicate] at hx
  have:=List.mem_of_getElem? hx
  obtain ⟨_,rfl⟩:=List.mem_replicate.1 this
  exact .inl (by rw [gdX,if_neg]; rintro ⟨h,_⟩; exact absurd h (by decide))
 have hI : gdI K M ((List.replicate (K + M) none).map gans) = []:=by
  rw [gdI,List.filter_eq_nil_iff]
  intro i hi
  simp only [decide_eq_true_eq]
  rintro ⟨x,hx,hne⟩
  rcases hA i x hx with h | h
  ·exact hne h
  ·rw [List.map_replicate] at hx
   obtain ⟨_,rfl⟩:=List.mem_replicate.1 (List.mem_of_getElem? hx)
   rw [gdX,if_neg] at hne
   ·exact hne rfl
   ·rintro ⟨h,_⟩; exact absurd h (by decide)
 have hf:=fnd_few (want:=⟨#[]⟩) hA (by rw [hI]; simp; omega)
 have hrf : rfs M ((List.replicate (K + M) none).map gans) = 5:=by
  have h1 : awy ((List.replicate (K + M) none).map gans) = 0:=by
   rw [List.map_replicate]
   induction K + M with
   | zero => rfl
   | succ n ih => rw [List.replicate_succ,awy,if_pos (.inr rfl)]; exact ih
  have h2 : cntC 0 ((List.replicate (K + M) none).map gans) = 0:=by
   rw [cntC,List.length_eq_zero_iff,List.filter_eq_nil_iff]
   intro x hx
   rw [List.map_replicate] at hx
   obtain ⟨_,rfl⟩:=List.mem_replicate.1 hx
   decide
  rw [rfs,if_neg (by rw [h1]; simp),h2,if_neg (by omega)]
 have e1 : putP K M nm s k = findP K M nm ⟨#[]⟩ (putK K M nm s k):=by rw [putP,if_neg (by omega)]
 have e2 : putK K M nm s k (fnd K M ⟨#[]⟩ ((List.replicate (K + M) none).map gans)) = layP K M nm s k:=by
  rw [hf,hrf,putK]
  simp only []
  rw [if_neg (by decide),if_pos (.inl trivial)]
 have hz : frs [] ((List.map (fun _ => (⟨0,⟨#[]⟩,[]⟩ : RR)) (shL K M s)).map (·.c)) = 0:=by
  rw [List.map_map]
  induction shL K M s with
  | nil => rfl
  | cons a r ih => rw [List.map_cons,frs]; exact (if_pos (.inl rfl)).trans ih
 refine ⟨?_,?_,?_⟩
 ·rw [e1,findP,sqP_tr,hg.1,hg.2,List.nil_append,e2,layP,sqP_tr,hp.1,List.nil_append,if_pos hz,hk,PN.tr,List.append_nil]
 ·rw [e1,findP,sqP_res,hg.1,hg.2,List.nil_append,e2,layP,sqP_res,hp.1,List.nil_append,if_pos hz,hk,PN.res]
 ·rw [ySs_ap,hg.2,hp.2,show m + 1 + 1 = m + 2 by omega]
theorem getP_sts {α : Type} {k : ByteArray × Int→PN α} {want : ByteArray} (hO : O.length = K + M) {y : α} (hk : k ((fnd K M want (O.map gans)).d,(fnd K M want (O.map gans)).e) = .fin y) :
  (getP K M nm want k).tr (sts q m nm O) = aq 2 nm ⟨#[]⟩ (K + M)∧(getP K M nm want k).res (sts q m nm O) = y∧ySs (sts q m nm O) (aq 2 nm ⟨#[]⟩ (K + M)) = sts q (m + 1) nm O:=by
 have hg:=sts_get (q:=q) (m:=m) (nm:=nm) (x:=⟨#[]⟩) (O:=O)
 rw [hO] at hg
 refine ⟨?_,?_,hg.2⟩
 ·rw [getP,findP,sqP_tr,hg.1,hg.2,List.nil_append,hk,PN.tr,List.append_nil]
 ·rw [getP,findP,sqP_res,hg.1,hg.2,List.nil_append,hk,PN.res]
end
end Go.Proofs.YtagijldedngcoaaGreatDoor

namespace Go.Proofs.YtagijldedngcoaaGreatDoor
open Go.RowKit Go.Lib Go.Maps
section
theorem yard_any (K M : Nat) (q : Int) (hn : K + M ≤ 255) (hq0 : 0 ≤ q) (hq1 : q ≤ 1048576) (w : World) : Calls Tryz.prog 32 #[.agg #[.int .i64 (K : Int),.int .i64 (M : Int)],.int .i64 q] w fun e w' => ∃ a c bs,e = .returned (.slice a (K + M) c)∧YB q w w' (.slice a (K + M) c) bs∧bs.length = K + M:=by
 obtain ⟨U,hU⟩ : ∃ U,U = w.alloc (.cells #[.int .i64 (K : Int),.int .i64 (M : Int)] 27):=⟨_,rfl⟩
 obtain ⟨X,hX⟩ : ∃ X,X = w.heap.size:=⟨_,rfl⟩
 have hB : Below w.heap.size w U:=by rw [hU]; exact (Below.refl _ _).alloc (Nat.le_refl _) _
 have h2 : U.heap[X]? = some (.cells #[.int .i64 (K : Int),.int .i64 (M : Int)] 27 (0,0)):=by rw [hU,hX]; exact heap_alloc_new w _
 have y0 : U.cell? ⟨X,0,none⟩ = some (.int .i64 (K : Int)):=by simp [World.cell?,h2]
 have y1 : U.cell? ⟨X,1,none⟩ = some (.int .i64 (M : Int)):=by simp [World.cell?,h2]
 have HU:=hide hU
 have HX:=hide hX
 have H0 : Hid (YB q w U (.slice none 0 0) []):=⟨OW.nil _ _ _ _ _,fun e he => by simp at he,fun i j e f he => by simp at he,hB⟩
 have HQ:=hide (And.intro hq0 hq1)
 have HNE:=hide hn
 have hni : ((K : Int) + (M : Int)) = ((K + M : Nat) : Int):=by omega
 have HNI:=hide hni
 have hs1 : ((K + M : Nat) : Int) ≤ 255:=by omega
 clear hU hX hB h2 hq0 hq1 hni
 go_enter Tryz.func32,Tryz.ntmps32
 go_upto_region 1 with fail
 rw [← HU.out,← HX.out]
 go_wp2
 go_loopw [5,13] (fun sv i wr => ∃ (j : Nat) (bs : List (Nat × Nat)),j ≤ K + M∧i = .int .i64 j∧bs.length = j∧YB q w wr sv bs) (fun _ i _ => K + M - (intOf i).toNat)
 case atStart => exact ⟨0,[],by omega,rfl,rfl,H0.out⟩
 case round =>
  obtain ⟨j,bs,hj,rfl,hbl,hB⟩:=hrel
  obtain ⟨asv,csv,hsv⟩:=hB.s.shp
  rw [List.length_map,hbl] at hsv
  subst hsv
  have HB:=hide hB
  have HL:=hide hbl
  clear hB hbl
  by_cases hlt : j < K + M
  ·have b1 : (j : Int) < (K : Int) + (M : Int):=by omega
   have HN:=hide (new_ok q wr HQ.out.1 (by have:=HQ.out.2; omega))
   go_wp2_with fail
   refine HN.out.mono ?_
   rintro e w1 ⟨rfl,hP1,hB1⟩
   have hX1 : PX w1 (wr.heap.size + 1) wr.heap.size (sq q):=hP1
   have hws:=HB.out.be.size
   have hlt1 : ∀ e ∈ bs,e.1 < wr.heap.size∧e.2 < wr.heap.size:=fun e he => ⟨PS.lt (HB.out.px e he).1,PS.mlt (HB.out.px e he).1⟩
   obtain ⟨a3,c3,w3,hr3,hY3⟩:=(HB.out.bel hB1).more hX1 (by omega) hws (fun e he => by have:=hlt1 e he; omega) (by have:=HL.out; omega)
   rw [HL.out] at hr3 hY3
   have HE:=hide hY3
   clear hP1 hB1 hX1 hws hlt1 hY3
   go_wp2_with (at_builtin; refine Lib.wpList_append_run _ rfl _ _ _ _ rfl _ _ rfl rfl _ _ hr3 ?_)
   exact ⟨⟨j + 1,bs ++ [(wr.heap.size + 1,wr.heap.size)],by omega,by go_num,by simp [HL.out],HE.out⟩,by simp [intOf]; omega⟩
  ·obtain rfl : j = K + M:=by omega
   have b1 : ¬ ((K + M : Nat) : Int) < (K : Int) + (M : Int):=by omega
   go_wp2
   go_ret
   exact ⟨_,_,rfl,bs,HB.out,HL.out⟩
end
end Go.Proofs.YtagijldedngcoaaGreatDoor

namespace Go.Proofs.YtagijldedngcoaaGreatDoor
open Go.RowKit Go.Lib Go.Maps
section
variable {K M : Nat} {nm s want : ByteArray} {kk mm q m : Int} {O : List (Option ByteArray)} {i : Nat} {o : Option ByteArray}
theorem ox_put (hK : 1 ≤ K) (hKM : K + M ≤ 255) (hs : s.size ≤ 9223372036854775807) : OXPut K M nm s (putP K M nm s kPut):=fun b i1 W hL hJ hne hlt HK =>
 oput_any (A0:=[]) ent_put11 hL hJ hK hKM hs (by simp [resI]) HK hne (fun i h => h.elim) (fun i h => by rw [h]; exact hlt)
theorem ox_get (hK : 1 ≤ K) (hKM : K + M ≤ 255) : OXGet K M nm want (getP K M nm want kGet):=fun b i1 W hL hJ hne hlt HK =>
 oget_any (A0:=[]) ent_get11 hL hJ hK hKM (by simp [resI]) HK hne (fun i h => h.elim) (fun i h => by rw [h]; exact hlt)
theorem shB_size (hK : 1 ≤ K) (s : ByteArray) (i : Nat) : (Zq.shB K M s i).size = 47 + Zq.eachN K s.size:=by
 rw [Zq.shB,Zq.bs_size,Zq.fullL_length]
 show 15 + (Zq.bs (Zq.Sh.digest s.data.toList)).size + (Zq.shd K s i).size = _
 rw [Zq.bs_size,Zq.Sh.digest_length,Zq.shd_size hK]
theorem gans_none (K M i : Nat) : gdX K M i (gans none) = none:=by rw [gdX,if_neg]; rintro ⟨h,_⟩; exact absurd h (by decide)
theorem gans_true (hK : 1 ≤ K) (hKM : K + M ≤ 255) (hs : s.size ≤ 65536) (hi : i < K + M) : gdX K M i (gans (some (Zq.shB K M s i))) = some (Zq.shX K M s i):=by
 have hok:=Zq.shX_ok hK hKM hs hi
 have hd : (gans (some (Zq.shB K M s i))).d.data.toList = Zq.fullL (Zq.shX K M s i):=by
  show (Zq.bs _).data.toList = _
  simp [Zq.bs]
 rw [gdX,hd,Zq.dec_full hok,if_pos ⟨rfl,Zq.full_ok hok,rfl,rfl,rfl⟩]
theorem sts_set : (sts q m nm O).set i (st1 q m nm o) = sts q m nm (O.set i o):=by rw [sts,sts,List.map_set]
theorem sts_at (h : O[i]? = some o) : (sts q m nm O)[i]? = some (st1 q m nm o):=by rw [sts,List.getElem?_map,h]; rfl
end
def wA : ByteArray:=⟨#[97]⟩
def wT : ByteArray:=⟨#[97,98,99]⟩
theorem wFit : ∀ d ∈ shL 2 1 wT,d.size ≤ 131072∧((wA.size + d.size : Nat) : Int) ≤ 1000:=by
 intro d hd
 obtain ⟨i,_,rfl⟩:=List.mem_map.1 hd
 rw [shB_size (by decide)]
 decide
def wO : List (Option ByteArray):=[some (Zq.shB 2 1 wT 0),none,some (Zq.shB 2 1 wT 2)]
theorem wO_eq : ((shL 2 1 wT).map some).set 1 none = wO:=rfl
theorem wGn : Gn 2 1 wT (wO.map gans):=by
 intro i x hx
 have hi : i < 3:=by have:=(List.getElem?_eq_some_iff.1 hx).1; simpa [wO] using this
 rw [List.getElem?_map] at hx
 match i,hi with
 | 0,_ => cases hx; exact .inr (gans_true (by decide) (by decide) (by decide) (by decide))
 | 1,_ => cases hx; exact .inl (gans_none _ _ _)
 | 2,_ => cases hx; exact .inr (gans_true (by decide) (by decide) (by decide) (by decide))
theorem wI : 2 ≤ (gdI 2 1 (wO.map gans)).length:=by
 have h0 : (∃ x,(wO.map gans)[0]? = some x∧gdX 2 1 0 x ≠ none):=⟨_,rfl,by rw [gans_true (by decide) (by decide) (by decide) (by decide)]; simp⟩
 have h2 : (∃ x,(wO.map gans)[2]? = some x∧gdX 2 1 2 x ≠ none):=⟨_,rfl,by rw [gans_true (by decide) (by decide) (by decide) (by decide)]; simp⟩
 have m0 : 0 ∈ gdI 2 1 (wO.map gans):=List.mem_filter.2 ⟨List.mem_range.2 (by decide),@decide_eq_true _ (Classical.propDecidable _) h0⟩
 have m2 : 2 ∈ gdI 2 1 (wO.map gans):=List.mem_filter.2 ⟨List.mem_range.2 (by decide),@decide_eq_true _ (Classical.propDecidable _) h2⟩
 have hn:=gdI_nodup (K:=2) (M:=1) (wO.map gans)
 match h : gdI 2 1 (wO.map gans),m0,m2,hn with
 | [],m0,_,_ => cases m0
 | [a],m0,m2,_ =>
  simp at m0 m2
  omega
 | _ :: _ :: _,_,_,_ => simp
theorem wF : fnd 2 1 (Zq.bs (Zq.Sh.digest wT.data.toList)) (wO.map gans) = ⟨wT,(gdI 2 1 (wO.map gans)).map (Zq.shX 2 1 wT),0⟩:=fnd_true (by decide) (by decide) (by decide) (by decide) wGn (.inr rfl) wI
end Go.Proofs.YtagijldedngcoaaGreatDoor

namespace Go.Proofs.YtagijldedngcoaaGreatDoor
open Go.RowKit Go.Lib Go.Maps
noncomputable def wD : ByteArray:=Zq.bs (Zq.Sh.digest wT.data.toList)
structure W6 (w w6 : World) (X b : Nat) (sv : Value) (bs : List (Nat × Nat)) : Prop where
 yp : YP (fun i => X < i∧i < b) w6 sv (sts 1000 2 wA wO) bs
 jb : ∃ ids tx,JB w6 b false 0 0 ⟨#[]⟩ ⟨#[]⟩ .nilFunc 0 0 ids tx 6
 kt : w6.heap[X]? = some (.cells #[.int .i64 2,.int .i64 1] 27 (0,0))
 be : Below w.heap.size w w6
 la : Zq.Sh.Laid w6
 xx : w.heap.size ≤ X
 xb : X < b
 w2 : 2 ≤ w.heap.size
end Go.Proofs.YtagijldedngcoaaGreatDoor

namespace Go.Proofs.YtagijldedngcoaaGreatDoor
open Go.RowKit Go.Lib Go.Maps
theorem YP.mono {P P' : Nat→Prop} {w : World} {v : Value} {S : List SS} {bs : List (Nat × Nat)} (h : YP P w v S bs) (hp : ∀ i,P i→P' i) : YP P' w v S bs:=by
 refine ⟨?_,h.len,h.px,fun e he => ⟨hp _ (h.inP e he).1,hp _ (h.inP e he).2⟩,h.ap⟩
 obtain ⟨a,c,e,h | ⟨g,o,ea,hr,hh⟩⟩:=h.rp
 ·exact ⟨a,c,e,.inl h⟩
 ·exact ⟨a,c,e,.inr ⟨g,o,ea,hp _ hr,hh⟩⟩
structure W1 (w w1 : World) (X : Nat) (sv : Value) (bs : List (Nat × Nat)) : Prop where
 yp : YP (fun i => X < i∧i < w1.heap.size) w1 sv (sts 1000 0 wA (List.replicate 3 none)) bs
 kt : w1.heap[X]? = some (.cells #[.int .i64 2,.int .i64 1] 27 (0,0))
 be : Below w.heap.size w w1
 la : Zq.Sh.Laid w1
 xx : w.heap.size ≤ X
 w2 : 2 ≤ w.heap.size
structure W4 (w w6 : World) (X b : Nat) (sv : Value) (bs : List (Nat × Nat)) : Prop where
 yp : YP (fun i => X < i∧i < b) w6 sv (sts 1000 2 wA ((shL 2 1 wT).map some)) bs
 jb : ∃ ids tx,JB w6 b false 0 0 ⟨#[]⟩ ⟨#[]⟩ .nilFunc 0 0 ids tx 6
 kt : w6.heap[X]? = some (.cells #[.int .i64 2,.int .i64 1] 27 (0,0))
 be : Below w.heap.size w w6
 la : Zq.Sh.Laid w6
 xx : w.heap.size ≤ X
 xb : X < b
 w2 : 2 ≤ w.heap.size
theorem W4.bel {w w6 w7 : World} {X b : Nat} {sv : Value} {bs : List (Nat × Nat)} (h : W4 w w6 X b sv bs) (hb : Below w6.heap.size w6 w7) : W4 w w7 X b sv bs:=by
 obtain ⟨ids,tx,hj⟩:=h.jb
 exact ⟨h.yp.bel hb,⟨ids,tx,hj.bel hb⟩,(hb.block X (lt_of_block h.kt)).trans h.kt,h.be.trans (hb.mono h.be.size),h.la.below hb h.la.size,h.xx,h.xb,h.w2⟩
theorem work_put {w w1 : World} {X : Nat} {sv : Value} {bs : List (Nat × Nat)} (h : W1 w w1 X sv bs) :
  Calls Tryz.prog 24 #[.agg #[.int .i64 2,.int .i64 1],.string ⟨#[97]⟩,.string ⟨#[97,98,99]⟩] w1 fun e w3 => ∃ b,e = .returned (.pointer (some ⟨b,0,none⟩))∧Hid (∃ P,JJ b (FinR b) (putP 2 1 wA wT kPut) [] P w3∧(∀ i,P i→w1.heap.size ≤ i)∧Below w1.heap.size w1 w3):=by
 have hox : OXPut 2 1 wA wT (putP 2 1 wA wT kPut):=ox_put (K:=2) (M:=1) (by decide) (by decide) (by decide)
 refine (oputjob (w:=w1) hox h.la).mono ?_
 rintro e w' ⟨b2,P,rfl,hJ,hB,hP⟩
 exact ⟨b2,rfl,P,hJ,hP,hB⟩
theorem work_run1 {w w1 w3 : World} {X b : Nat} {sv : Value} {bs : List (Nat × Nat)} (h1 : W1 w w1 X sv bs) (h : Hid (∃ P,JJ b (FinR b) (putP 2 1 wA wT kPut) [] P w3∧(∀ i,P i→w1.heap.size ≤ i)∧Below w1.heap.size w1 w3)) :
  Calls Tryz.prog 33 #[.pointer (some ⟨b,0,none⟩),sv] w3 fun e w4 => ∃ ai ci at_ ct,e = .returned (.tuple #[.agg #[.int .i64 0,.string ⟨#[]⟩,.int .i64 0,.slice ai 0 ci,.slice at_ 0 ct,.slice none 0 0,.slice none 0 0],.bool true])∧Hid (W4 w w4 X b sv bs):=by
 obtain ⟨P,hJ,hP,hB⟩:=h.out
 obtain ⟨t1,t2,t3⟩:=putP_new (K:=2) (M:=1) (q:=1000) (m:=0) (nm:=wA) (s:=wT) (k:=kPut) (y:=⟨0,0,[],[]⟩) rfl (by decide) (by decide) (by decide) wFit
 have hX:=lt_of_block h1.kt
 have hw2:=h1.w2
 have hxx:=h1.xx
 have hs:=hB.size
 have hR:=run_jobx (g:=2) (fkR b) (fun x => x) (fun _ _ _ _ h => h) hJ (h1.yp.bel hB) (fun i hi hy => by have:=hP i hi; omega) (fun i hi => by omega) (sts_gd (by decide) (by decide) (by decide) (by decide) (fun d hd => by simp at hd)) (by rw [t1,List.length_append,aq_len,pq_len,shL_len]; decide) (by
   rw [t1]
   intro q hq
   rcases List.mem_append.1 hq with hq | hq
   ·obtain ⟨i,_,rfl⟩:=List.mem_map.1 hq
    exact ⟨show wA.size ≤ maxLen by decide,show (⟨#[]⟩ : ByteArray).size ≤ maxLen by decide⟩
   ·rw [pq] at hq
    obtain ⟨i,hi,rfl⟩:=List.mem_mapIdx.1 hq
    have:=(wFit _ (List.getElem_mem hi)).1
    exact ⟨show wA.size ≤ maxLen by decide,by show (shL 2 1 wT)[i].size ≤ maxLen; unfold maxLen; omega⟩) (by rw [t2]; simp) (by rw [t2]; simp) (h1.la.below hB h1.la.size) (fun i hi => by have:=hP i hi; omega) (fun i hi => by have:=h1.yp.qs hi; omega)
 have hR2:=hR
 rw [t2] at hR2
 refine hR2.mono ?_
 rintro e w4 ⟨ids9,tx9,rfl,hI,hT,hN⟩
 obtain ⟨ai,ci,rfl⟩:=hI.shp
 obtain ⟨at_,ct,rfl⟩:=hT.shp
 refine ⟨ai,ci,at_,ct,rfl,?_⟩
 have hy:=hN.y
 rw [t1] at hy
 have t3' : ySs (sts 1000 0 wA (List.replicate 3 none)) (aq 2 wA ⟨#[]⟩ (2 + 1) ++ pq wA (shL 2 1 wT)) = sts 1000 2 wA ((shL 2 1 wT).map some):=t3
 rw [t3'] at hy
 obtain ⟨P',⟨ids0,tx0,hJB,_,_⟩,hPb,hPP⟩:=hN.f
 have hbw : w1.heap.size ≤ b:=by
  rcases hPP b hPb with h | h
  ·exact hP b h
  ·omega
 have e6 : ((yRs (sts 1000 0 wA (List.replicate 3 none)) ((putP 2 1 wA wT kPut).tr (sts 1000 0 wA (List.replicate 3 none)))).length : Int) = 6:=by
  have : (putP 2 1 wA wT kPut).tr (sts 1000 0 wA (List.replicate 3 none)) = aq 2 wA ⟨#[]⟩ (2 + 1) ++ pq wA (shL 2 1 wT):=t1
  rw [yRs_len,this,List.length_append,aq_len,pq_len,shL_len]; rfl
 rw [e6] at hJB
 have t2' : (putP 2 1 wA wT kPut).res (sts 1000 0 wA (List.replicate 3 none)) = ⟨0,0,[],[]⟩:=t2
 rw [t2'] at hJB
 have hnX : ¬ (P X ∨ Qs bs X):=by
  rintro (h | h)
  ·have:=hP X h; omega
  ·have:=h1.yp.qs h; omega
 have hbe3 : Below w.heap.size w w3:=h1.be.trans (hB.mono h1.be.size)
 refine ⟨hy.mono fun i hi => ⟨hi.1,by omega⟩,⟨ids0,tx0,hJB⟩,?_,?_,hN.l,h1.xx,by omega,h1.w2⟩
 ·rw [hN.g.block X (by omega) hnX,hB.block X hX]; exact h1.kt
 ·exact hN.g.below hbe3 hbe3.size fun i hi => by
   rcases hi with hi | hi
   ·have:=hP i hi; omega
   ·have:=h1.yp.qs hi; omega
theorem work_wipe {w w5 : World} {X b : Nat} {sv : Value} {bs : List (Nat × Nat)} (h : W4 w w5 X b sv bs) : ∃ g o c e1,sv = .slice (some ⟨g,o,none⟩) 3 c∧w5.cell? ⟨g,o + 1,none⟩ = some (.pointer (some ⟨e1,0,none⟩)) ∧
  Calls Tryz.prog 34 #[.pointer (some ⟨e1,0,none⟩)] w5 fun e w6 => e = .returned (.tuple #[])∧Hid (W6 w w6 X b sv bs):=by
 have hbl : bs.length = 3:=by rw [h.yp.len,sts_len,List.length_map,shL_len]
 obtain ⟨e1,he1⟩ : ∃ e1,bs[1]? = some e1:=⟨_,List.getElem?_eq_getElem (by omega)⟩
 obtain ⟨a,c,e,hn | ⟨g,o,ea,hr,hg,hG⟩⟩:=h.yp.rp
 ·have:=congrArg List.length hn
  simp [hbl] at this
 rw [List.length_map,hbl] at e
 subst ea
 refine ⟨g,o,c,e1.1,e,hG 1 e1.1 (by rw [List.getElem?_map,he1]; rfl),?_⟩
 have hs1 : (sts 1000 2 wA ((shL 2 1 wT).map some))[1]? = some (st1 1000 2 wA (some (Zq.shB 2 1 wT 1))):=rfl
 have hX1 : PS w5 e1.1 e1.2 1000 0 false 2 _:=h.yp.px 1 e1 _ he1 hs1
 refine (wipe_any hX1).mono ?_
 rintro er w6 ⟨rfl,hP6,hG6⟩
 refine ⟨rfl,?_⟩
 have hin:=h.yp.inP e1 (List.mem_of_getElem? he1)
 have hX6 : PX w6 e1.1 e1.2 (st1 1000 2 wA none):=hP6
 have hy:=h.yp.put he1 hs1 hG6 hX6
 rw [sts_set,wO_eq] at hy
 obtain ⟨ids,tx,hj⟩:=h.jb
 have hxx:=h.xx
 have hw2:=h.w2
 have hla:=h.la.size
 refine ⟨hy,⟨ids,tx,hj.gs hG6 (fun hi => by rcases hi with hi | hi <;> omega)⟩,?_,?_,?_,h.xx,h.xb,h.w2⟩
 ·rw [hG6.block X (lt_of_block h.kt) (fun hi => by rcases hi with hi | hi <;> omega)]; exact h.kt
 ·exact hG6.below h.be h.be.size fun i hi => by rcases hi with hi | hi <;> omega
 ·exact laid_gs h.la hG6 fun i hi => by rcases hi with hi | hi <;> omega
end Go.Proofs.YtagijldedngcoaaGreatDoor

namespace Go.Proofs.YtagijldedngcoaaGreatDoor
open Go.RowKit Go.Lib Go.Maps
abbrev zR7 : Obj:=.cells #[.int .i64 0,.string ⟨#[]⟩,.int .i64 0,.slice none 0 0,.slice none 0 0,.slice none 0 0,.slice none 0 0] 63
section
variable {W0 W W' : World} {b2 : Nat} {pl : PN RS} {z : Option Nat} {Py : Nat→Prop} {sv ids tx : Value} {S S' : List SS} {bs : List (Nat × Nat)} {g q k : Nat} {x : RS} {L : List QT}
def ZV (z : Option Nat) (W : World) : Prop:=∀ q,z = some q→R7 W q 0 0 (.slice none 0 0) (.slice none 0 0)
theorem ZV.bel (h : ZV z W) (hb : Below W.heap.size W W') : ZV z W':=fun q e => (h q e).bel hb
theorem ZV.al (W : World) : ZV (some W.heap.size) (W.alloc zR7):=fun q e => by
 cases e
 exact heap_alloc_new W _
structure BW (W0 W : World) (z : Option Nat) : Prop where
 be : Below W0.heap.size W0 W
 zz : ZV z W
 zq : ∀ q,z = some q→W0.heap.size ≤ q
theorem BW.start (W : World) : BW W W none:=⟨Below.refl _ _,(fun q e => by cases e),(fun q e => by cases e)⟩
theorem BW.bel (h : BW W0 W z) (hb : Below W.heap.size W W') : BW W0 W' z:=⟨h.be.trans (hb.mono h.be.size),h.zz.bel hb,h.zq⟩
theorem BW.al (h : BW W0 W none) : BW W0 (W.alloc zR7) (some W.heap.size):=by
 have hb : Below W.heap.size W (W.alloc zR7):=(Below.refl _ _).alloc (Nat.le_refl _) _
 exact ⟨h.be.trans (hb.mono h.be.size),ZV.al W,fun q e => by cases e; exact h.be.size⟩
theorem BW.drew (h : BW W0 W z) : BW W0 W.drew z:=⟨⟨h.be.os,h.be.tape,h.be.output,h.be.size,h.be.block⟩,h.zz,h.zq⟩
structure JW (W0 W : World) (b2 : Nat) (pl : PN RS) (z : Option Nat) : Prop where
 j : ∃ P,JJ b2 (FinR b2) pl [] P W∧(∀ i,P i→W0.heap.size ≤ i)∧∀ q,z = some q→¬ P q
 be : Below W0.heap.size W0 W
 zz : ZV z W
 zq : ∀ q,z = some q→W0.heap.size ≤ q
theorem JW.of {e : Ending} (h : MK FinR pl W W' e) (hb : BW W0 W z) : ∃ b2,e = .returned (.pointer (some ⟨b2,0,none⟩))∧Hid (JW W0 W' b2 pl z):=by
 obtain ⟨b,P,rfl,hJ,hB,hP⟩:=h
 have hs:=hb.be.size
 exact ⟨b,rfl,⟨P,hJ,fun i hi => by have:=hP i hi; omega,fun q e hp => by have:=hP q hp; have:=(hb.zz q e).lt; omega⟩,hb.be.trans (hB.mono hs),hb.zz.bel hB,hb.zq⟩
theorem JW.al (h : JW W0 W b2 pl none) : JW W0 (W.alloc zR7) b2 pl (some W.heap.size):=by
 have hb : Below W.heap.size W (W.alloc zR7):=(Below.refl _ _).alloc (Nat.le_refl _) _
 obtain ⟨P,hJ,hP,_⟩:=h.j
 have hl:=hJ.lt
 exact ⟨⟨P,hJ.gs (p:=fun i => W.heap.size ≤ i) (fkR b2) (Gs.of_below _ hb) (fun i hi hn => by have:=hl i hi; omega),hP,fun q e hp => by cases e; have:=hl _ hp; omega⟩,h.be.trans (hb.mono h.be.size),ZV.al W,fun q e => by cases e; exact h.be.size⟩
structure RW (W0 W : World) (b2 : Nat) (x : RS) (k : Nat) (Py : Nat→Prop) (sv : Value) (S : List SS) (bs : List (Nat × Nat)) (ids tx : Value) (z : Option Nat) : Prop where
 yp : YP Py W sv S bs
 gs : Gs (Qs bs) W0 W
 fin : ∃ P A,FinR b2 x A P W∧A.length = k∧P b2∧(∀ i,P i→W0.heap.size ≤ i∧i < W.heap.size)∧∀ q,z = some q→¬ P q
 la : Zq.Sh.Laid W
 ti : TS W0.heap.size ids x.ids W
 tt : TS W0.heap.size tx x.tx W
 zz : ZV z W
 zq : ∀ q,z = some q→W0.heap.size ≤ q∧ids.ownBlock ≠ some q∧tx.ownBlock ≠ some q
theorem RW.al (h : RW W0 W b2 x k Py sv S bs ids tx none) : RW W0 (W.alloc zR7) b2 x k Py sv S bs ids tx (some W.heap.size):=by
 have hb : Below W.heap.size W (W.alloc zR7):=(Below.refl _ _).alloc (Nat.le_refl _) _
 obtain ⟨P,A,hF,hA,hPb,hP,_⟩:=h.fin
 have h1:=h.ti.lt
 have h2:=h.tt.lt
 have hs:=hb.size
 refine ⟨h.yp.bel hb,h.gs.bel hb,⟨P,A,(fkR b2).gs (p:=fun i => W.heap.size ≤ i) hF (Gs.of_below _ hb) hPb (fun i hi hn => by have:=(hP i hi).2; omega),hA,hPb,fun i hi => ⟨(hP i hi).1,by have:=(hP i hi).2; omega⟩,fun q e hp => by cases e; have:=(hP _ hp).2; omega⟩,h.la.below hb h.la.size,h.ti.kb fun i hi => hb.block i (h1 i hi).2,h.tt.kb fun i hi => hb.block i (h2 i hi).2,ZV.al W,fun q e => ?_⟩
 cases e
 exact ⟨h.gs.size,fun e => by have:=(h1 _ e).2; omega,fun e => by have:=(h2 _ e).2; omega⟩
theorem go_run (hJ : JW W0 W b2 pl z) (hY : YP Py W0 sv S bs) (hPy : ∀ i,Py i→2 ≤ i∧i < W0.heap.size) (hG : GD g S) (ht : pl.tr S = L) (hx : pl.res S = x) (hS : ySs S L = S') (hg : g + L.length ≤ 1000) (hq : ∀ q ∈ L,q.n.size ≤ maxLen∧q.d.size ≤ maxLen) (hIl : x.ids.length ≤ 1000000000000) (hTl : x.tx.length ≤ 1000000000000) (hLw : Zq.Sh.Laid W0) :
  Calls Tryz.prog 33 #[.pointer (some ⟨b2,0,none⟩),sv] W fun e w' => ∃ ai ci at_ ct,e = .returned (.tuple #[.agg #[.int .i64 x.c,.string ⟨#[]⟩,.int .i64 x.n,.slice ai x.ids.length ci,.slice at_ x.tx.length ct,.slice none 0 0,.slice none 0 0],.bool true])∧Hid (RW W0 w' b2 x L.length Py sv S' bs (.slice ai x.ids.length ci) (.slice at_ x.tx.length ct) z):=by
 obtain ⟨P,hj,hP,hzp⟩:=hJ.j
 have hsz:=hLw.size
 have hbs:=hJ.be.size
 have hl:=hj.lt
 have hR:=run_jobx (g:=g) (fkR b2) (fun x => x) (fun _ _ _ _ h => h) hj (hY.bel hJ.be) (fun i hi hy => by have:=hP i hi; have:=(hPy i hy).2; omega) (fun i hi => by have:=(hPy i hi).2; omega) hG (by rw [ht]; exact hg) (by rw [ht]; exact hq) (by rw [hx]; exact hIl) (by rw [hx]; exact hTl) (hLw.below hJ.be hLw.size) (fun i hi => by have:=hP i hi; omega) (fun i hi => (hPy i (hY.qs hi)).1)
 refine hR.mono ?_
 rintro e w' ⟨iv,tv,rfl,hI,hT,hN⟩
 simp only [hx] at hI hT
 obtain ⟨ai,ci,rfl⟩:=hI.shp
 obtain ⟨at_,ct,rfl⟩:=hT.shp
 refine ⟨ai,ci,at_,ct,by simp only [hx],?_⟩
 obtain ⟨P',hF,hPb,hPP⟩:=hN.f
 rw [hx,ht] at hF
 have hy:=hN.y
 rw [ht,hS] at hy
 have hgs:=hN.g.size
 have hFlt : ∀ i,P' i→i < w'.heap.size ∨ True:=fun i _ => .inr trivial
 have hlI:=hI.lt
 have hlT:=hT.lt
 have hqn : ∀ q,z = some q→¬ (P q ∨ Qs bs q):=by
  rintro q e (h | h)
  ·exact hzp q e h
  ·have h1:=(hPy q (hY.qs h)).2
   have h2:=hJ.zq q e
   omega
 refine ⟨hy,?_,?_,hN.l,hI.low (by omega),hT.low (by omega),fun q e => (hJ.zz q e).gs hN.g (hqn q e),fun q e => ?_⟩
 ·exact (Gs.of_below _ hJ.be).tr2 hN.g fun i hi h => by
   rcases h with h | h
   ·have:=hP i h; omega
   ·exact h
 ·obtain ⟨i0,t0,hJB,h1,h2⟩:=hF
  have hbl:=hJB.lt
  refine ⟨fun i => P' i∧i < w'.heap.size,_,⟨i0,t0,hJB,h1.old.mono fun i hi => ⟨⟨hi.1.1,hi.2⟩,hi.1.2⟩,h2.old.mono fun i hi => ⟨⟨hi.1.1,hi.2⟩,hi.1.2⟩⟩,yRs_len _ _,⟨hPb,hbl⟩,fun i hi => ⟨?_,hi.2⟩,fun q e hp => ?_⟩
  ·rcases hPP i hi.1 with h | h
   ·exact hP i h
   ·omega
  ·rcases hPP q hp.1 with h | h
   ·exact hzp q e h
   ·have:=(hJ.zz q e).lt; omega
 ·have hlt:=(hJ.zz q e).lt
  exact ⟨hJ.zq q e,fun h => by have:=(hlI _ h).1; omega,fun h => by have:=(hlT _ h).1; omega⟩
structure RV (W0 W : World) (b2 : Nat) (x : RS) (k : Nat) (Py : Nat→Prop) (sv : Value) (S : List SS) (bs : List (Nat × Nat)) (ids tx : Value) (q : Nat) : Prop where
 yp : YP Py W sv S bs
 gs : Gs (Qs bs) W0 W
 fin : ∃ P A,FinR b2 x A P W∧A.length = k∧P b2∧(∀ i,P i→W0.heap.size ≤ i∧i < W.heap.size)∧¬ P q
 la : Zq.Sh.Laid W
 ti : TS W0.heap.size ids x.ids W
 tt : TS W0.heap.size tx x.tx W
 r7 : R7 W q x.c x.n ids tx
 q0 : W0.heap.size ≤ q
theorem RW.store (h : RW W0 W b2 x k Py sv S bs ids tx (some q)) (hPy : ∀ i,Py i→2 ≤ i∧i < W0.heap.size) (h2 : 2 ≤ W0.heap.size) :
  ∃ V,(Instr.storeAt 63 (.pointer (some ⟨q,0,none⟩)) (.agg #[.int .i64 x.c,.string ⟨#[]⟩,.int .i64 x.n,ids,tx,.slice none 0 0,.slice none 0 0])).run Tryz.prog W = .ok () V∧Hid (RV W0 V b2 x k Py sv S bs ids tx q):=by
 have hZ : R7 W q 0 0 (.slice none 0 0) (.slice none 0 0):=h.zz q rfl
 obtain ⟨hq0,hqi,hqt⟩:=h.zq q rfl
 obtain ⟨ai,ci,hei⟩:=h.ti.shp
 obtain ⟨at_,ct,het⟩:=h.tt.shp
 have hrun:=store_run (t:=63) (o:=0) hZ #[.int .i64 x.c,.string ⟨#[]⟩,.int .i64 x.n,ids,tx,.slice none 0 0,.slice none 0 0] (Nat.le_of_ble_eq_true rfl) Tryz.sizeR (by rw [hei,het]; simp [Value.oneCell'])
 obtain ⟨V,hV⟩ : ∃ V,V = W.setCells q 0 [.int .i64 x.c,.string ⟨#[]⟩,.int .i64 x.n,ids,tx,.slice none 0 0,.slice none 0 0]:=⟨_,rfl⟩
 have hRV : R7 V q x.c x.n ids tx:=by
  have h1:=setCells_self [.int .i64 x.c,.string ⟨#[]⟩,.int .i64 x.n,ids,tx,.slice none 0 0,.slice none 0 0] 0 W _ hZ
  rw [← hV] at h1
  simpa [putAll,R7] using h1
 simp only [] at hrun
 rw [← hV] at hrun
 have hGV : Gs (fun i => i = q) W V:=by rw [hV]; exact Gs.cells _ _ _ (Gs.refl _ _) (.inl rfl)
 refine ⟨V,hrun,?_⟩
 have hVs:=hGV.size
 have k1:=h.ti.lt
 have k2:=h.tt.lt
 obtain ⟨P,A,hF,hA,hPb,hP,hnP⟩:=h.fin
 have hnPq:=hnP q rfl
 refine ⟨h.yp.gs hGV fun i hi e => by have:=(hPy i hi).2; omega,h.gs.tr2 hGV fun i hi e => by omega,⟨P,A,(fkR b2).gs (p:=fun i => i = q) hF hGV hPb (fun i hi e => hnPq (e ▸ hi)),hA,hPb,fun i hi => ⟨(hP i hi).1,by have:=(hP i hi).2; omega⟩,hnPq⟩,laid_gs h.la hGV fun i hi => by omega,h.ti.kb fun i hi => hGV.block i (k1 i hi).2 (fun e => hqi (e ▸ hi)),h.tt.kb fun i hi => hGV.block i (k2 i hi).2 (fun e => hqt (e ▸ hi)),hRV,hq0⟩
end
end Go.Proofs.YtagijldedngcoaaGreatDoor

namespace Go.Proofs.YtagijldedngcoaaGreatDoor
open Go.RowKit Go.Lib Go.Maps
section
variable {K M a j i : Nat} {s nm want : ByteArray} {q m : Int} {O : List (Option ByteArray)}
theorem flt_le {p : Nat→Bool} (hp : ∀ i,p i = true→i < a) : ∀ n,((List.range n).filter p).length ≤ a
 | 0 => Nat.zero_le _
 | n + 1 => by
  rw [List.range_succ,List.filter_append,List.length_append]
  by_cases hn : n < a
  ·have h1 : ((List.range n).filter p).length ≤ n:=by
    have:=List.length_filter_le p (List.range n)
    rwa [List.length_range] at this
   have h2 : ([n].filter p).length ≤ 1:=List.length_filter_le _ _
   omega
  ·have h2 : [n].filter p = []:=by
    rw [List.filter_eq_nil_iff]
    intro x hx hpx
    have : x = n:=by simpa using hx
    subst this
    exact hn (hp _ hpx)
   rw [h2]
   exact flt_le hp n
noncomputable def gO (K M : Nat) (s : ByteArray) (a j : Nat) : List (Option ByteArray):=(List.range (K + M)).map fun i => if a ≤ i∧i < j then none else some (Zq.shB K M s i)
theorem gO_len : (gO K M s a j).length = K + M:=by simp [gO]
theorem gO_at (hi : i < K + M) : (gO K M s a j)[i]? = some (if a ≤ i∧i < j then none else some (Zq.shB K M s i)):=by rw [gO,List.getElem?_map,List.getElem?_range hi]; rfl
theorem gO_start : gO K M s a a = (shL K M s).map some:=by
 refine List.ext_getElem? fun i => ?_
 by_cases hi : i < K + M
 ·rw [gO_at hi,if_neg (by omega),List.getElem?_map,shL,List.getElem?_map,List.getElem?_range hi]; rfl
 ·rw [List.getElem?_eq_none (by rw [gO_len]; omega),List.getElem?_eq_none (by rw [List.length_map,shL_len]; omega)]
theorem gO_gn (hK : 1 ≤ K) (hKM : K + M ≤ 255) (hs : s.size ≤ 65536) : Gn K M s ((gO K M s a j).map gans):=by
 intro i x hx
 have hi : i < K + M:=by have:=(List.getElem?_eq_some_iff.1 hx).1; rwa [List.length_map,gO_len] at this
 rw [List.getElem?_map,gO_at hi] at hx
 by_cases h : a ≤ i∧i < j
 ·rw [if_pos h] at hx; cases hx; exact .inl (gans_none _ _ _)
 ·rw [if_neg h] at hx; cases hx; exact .inr (gans_true hK hKM hs hi)
theorem gO_few : (gdI K M ((gO K M s a (K + M)).map gans)).length ≤ a:=by
 rw [gdI]
 refine flt_le (fun i hi => ?_) _
 obtain ⟨x,hx,hne⟩:=@of_decide_eq_true _ (Classical.propDecidable _) hi
 have hl : i < K + M:=by have:=(List.getElem?_eq_some_iff.1 hx).1; rwa [List.length_map,gO_len] at this
 rcases Nat.lt_or_ge i a with h | h
 ·exact h
 ·rw [List.getElem?_map,gO_at hl,if_pos ⟨h,hl⟩] at hx
  cases hx
  exact absurd (gans_none K M i) hne
theorem awy_gans : ∀ (O : List (Option ByteArray)),awy (O.map gans) = 0
 | [] => rfl
 | o :: O => by
  rw [List.map_cons,awy,if_pos]
  ·exact awy_gans O
  ·cases o
   ·exact .inr rfl
   ·exact .inl rfl
theorem rfs_gans : rfs M (O.map gans) = if 0 < cntC 0 (O.map gans) then 100 else 5:=by rw [rfs,if_neg (by rw [awy_gans]; simp)]
theorem gO_rfs (ha : a < K) : rfs M ((gO K M s a (K + M)).map gans) = if a = 0 then 5 else 100:=by
 rw [rfs_gans]
 by_cases h : a = 0
 ·rw [if_pos h,if_neg]
  have : cntC 0 ((gO K M s a (K + M)).map gans) = 0:=by
   rw [cntC,List.length_eq_zero_iff,List.filter_eq_nil_iff]
   intro x hx
   obtain ⟨i,hi⟩:=List.mem_iff_getElem?.1 hx
   have hl : i < K + M:=by have:=(List.getElem?_eq_some_iff.1 hi).1; rwa [List.length_map,gO_len] at this
   rw [List.getElem?_map,gO_at hl,if_pos (by omega)] at hi
   cases hi
   decide
  omega
 ·rw [if_neg h,if_pos]
  rw [cntC]
  refine List.length_pos_of_mem (a:=gans (some (Zq.shB K M s 0))) (List.mem_filter.2 ⟨List.mem_of_getElem? (i:=0) ?_,rfl⟩)
  rw [List.getElem?_map,gO_at (by omega),if_neg (by omega)]
  rfl
theorem gO_gone (hK : 1 ≤ K) (hKM : K + M ≤ 255) (hs : s.size ≤ 65536) (ha : a < K) : fnd K M want ((gO K M s a (K + M)).map gans) = ⟨⟨#[]⟩,[],if a = 0 then 5 else 100⟩:=by
 rw [fnd_few (gO_gn hK hKM hs) (Nat.lt_of_le_of_lt gO_few ha),gO_rfs ha]
theorem putP_lay {α : Type} {k : Int × Int→PN α} {y : α} (hO : O.length = K + M) (hf : (fnd K M ⟨#[]⟩ (O.map gans)).e = 5 ∨ (fnd K M ⟨#[]⟩ (O.map gans)).e = 100) (hk : k (0,0) = .fin y) (hs : s.size ≤ 65536) (hn : mayB nm = true) (hd : ∀ d ∈ shL K M s,d.size ≤ 131072∧((nm.size + d.size : Nat) : Int) ≤ q) :
  (putP K M nm s k).tr (sts q m nm O) = aq 2 nm ⟨#[]⟩ (K + M) ++ pq nm (shL K M s)∧(putP K M nm s k).res (sts q m nm O) = y∧ySs (sts q m nm O) (aq 2 nm ⟨#[]⟩ (K + M) ++ pq nm (shL K M s)) = sts q (m + 2) nm ((shL K M s).map some):=by
 have hg:=sts_get (q:=q) (m:=m) (nm:=nm) (x:=⟨#[]⟩) (O:=O)
 rw [hO] at hg
 have hp:=sts_put (q:=q) (m:=m + 1) (nm:=nm) (O:=O) (ds:=shL K M s) (by rw [hO,shL_len]) hn hd
 have e1 : putP K M nm s k = findP K M nm ⟨#[]⟩ (putK K M nm s k):=by rw [putP,if_neg (by omega)]
 have e2 : putK K M nm s k (fnd K M ⟨#[]⟩ (O.map gans)) = layP K M nm s k:=by
  rw [putK,if_neg (by rcases hf with h | h <;> rw [h] <;> decide),if_pos hf]
 have hz : frs [] ((List.map (fun _ => (⟨0,⟨#[]⟩,[]⟩ : RR)) (shL K M s)).map (·.c)) = 0:=by
  rw [List.map_map]
  induction shL K M s with
  | nil => rfl
  | cons a r ih => rw [List.map_cons,frs]; exact (if_pos (.inl rfl)).trans ih
 refine ⟨?_,?_,?_⟩
 ·rw [e1,findP,sqP_tr,hg.1,hg.2,List.nil_append,e2,layP,sqP_tr,hp.1,List.nil_append,if_pos hz,hk,PN.tr,List.append_nil]
 ·rw [e1,findP,sqP_res,hg.1,hg.2,List.nil_append,e2,layP,sqP_res,hp.1,List.nil_append,if_pos hz,hk,PN.res]
 ·rw [ySs_ap,hg.2,hp.2,show m + 1 + 1 = m + 2 by omega]
end
end Go.Proofs.YtagijldedngcoaaGreatDoor

namespace Go.Proofs.YtagijldedngcoaaGreatDoor
open Go.RowKit Go.Lib Go.Maps
section
variable {w W0 W W' V : World} {X Bd K M b2 g k q : Nat} {sv ids tx : Value} {S S' : List SS} {bs : List (Nat × Nat)} {z : Option Nat} {pl : PN RS} {x : RS} {L : List QT} {nm s want : ByteArray}
structure GQ (w W : World) (X Bd K M : Nat) (sv : Value) (S : List SS) (bs : List (Nat × Nat)) : Prop where
 yp : YP (fun i => X < i∧i < Bd) W sv S bs
 kt : W.heap[X]? = some (.cells #[.int .i64 (K : Int),.int .i64 (M : Int)] 27 (0,0))
 be : Below w.heap.size w W
 la : Zq.Sh.Laid W
 xx : w.heap.size ≤ X
 xb : X < Bd
 bd : Bd ≤ W.heap.size
 w2 : 2 ≤ w.heap.size
theorem GQ.bel (h : GQ w W X Bd K M sv S bs) (hb : Below W.heap.size W W') : GQ w W' X Bd K M sv S bs :=
 ⟨h.yp.bel hb,(hb.block X (lt_of_block h.kt)).trans h.kt,h.be.trans (hb.mono h.be.size),h.la.below hb h.la.size,h.xx,h.xb,Nat.le_trans h.bd hb.size,h.w2⟩
theorem GQ.py (h : GQ w W X Bd K M sv S bs) : ∀ i,(X < i∧i < Bd)→2 ≤ i∧i < W.heap.size:=fun i hi => by
 have:=h.xx
 have:=h.w2
 have:=h.bd
 omega
theorem GQ.nq (h : GQ w W X Bd K M sv S bs) : ¬ Qs bs X:=fun hi => by have:=h.yp.qs hi; omega
abbrev KK (X K M : Nat) (W : World) : Prop:=W.cell? ⟨X,0,none⟩ = some (.int .i64 (K : Int))∧W.cell? ⟨X,1,none⟩ = some (.int .i64 (M : Int))
theorem KK.of (h : W.heap[X]? = some (.cells #[.int .i64 (K : Int),.int .i64 (M : Int)] 27 (0,0))) : KK X K M W:=⟨by simp [World.cell?,h],by simp [World.cell?,h]⟩
theorem GQ.kc (h : GQ w W X Bd K M sv S bs) : KK X K M W:=KK.of h.kt
theorem GQ.kg (h : GQ w W0 X Bd K M sv S bs) (hg : Gs (Qs bs) W0 W) : KK X K M W:=KK.of ((hg.block X (lt_of_block h.kt) h.nq).trans h.kt)
theorem GQ.kb (h : GQ w W0 X Bd K M sv S bs) (hb : Below W0.heap.size W0 W) : KK X K M W:=KK.of ((hb.block X (lt_of_block h.kt)).trans h.kt)
theorem GQ.rv (h : GQ w W0 X Bd K M sv S bs) (hR : RV W0 V b2 x k (fun i => X < i∧i < Bd) sv S' bs ids tx q) : GQ w V X Bd K M sv S' bs :=
 ⟨hR.yp,(hR.gs.block X (lt_of_block h.kt) h.nq).trans h.kt,hR.gs.below h.be h.be.size fun i hi => by have:=h.yp.qs hi; have:=h.xx; omega,hR.la,h.xx,h.xb,Nat.le_trans h.bd hR.gs.size,h.w2⟩
theorem gq_put (h : GQ w W0 X Bd K M sv S bs) (hz : BW W0 W z) (hK : 1 ≤ K) (hKM : K + M ≤ 255) (hs : s.size ≤ 9223372036854775807) :
  Calls Tryz.prog 24 #[.agg #[.int .i64 (K : Int),.int .i64 (M : Int)],.string nm,.string s] W fun e w' => ∃ b2,e = .returned (.pointer (some ⟨b2,0,none⟩))∧Hid (JW W0 w' b2 (putP K M nm s kPut) z)∧KK X K M w':=by
 refine (oputjob (w:=W) (ox_put hK hKM hs) (h.la.below hz.be h.la.size)).mono ?_
 intro e w' hM
 obtain ⟨b2,rfl,hJ⟩:=JW.of hM hz
 exact ⟨b2,rfl,hJ,h.kb hJ.out.be⟩
theorem gq_get (h : GQ w W0 X Bd K M sv S bs) (hz : BW W0 W z) (hK : 1 ≤ K) (hKM : K + M ≤ 255) :
  Calls Tryz.prog 25 #[.agg #[.int .i64 (K : Int),.int .i64 (M : Int)],.string nm,.string want] W fun e w' => ∃ b2,e = .returned (.pointer (some ⟨b2,0,none⟩))∧Hid (JW W0 w' b2 (getP K M nm want kGet) z)∧KK X K M w':=by
 refine (ogetjob (w:=W) (ox_get hK hKM) (h.la.below hz.be h.la.size)).mono ?_
 intro e w' hM
 obtain ⟨b2,rfl,hJ⟩:=JW.of hM hz
 exact ⟨b2,rfl,hJ,h.kb hJ.out.be⟩
theorem gq_run (h : GQ w W0 X Bd K M sv S bs) (hJ : JW W0 W b2 pl z) (hG : GD g S) (ht : pl.tr S = L) (hx : pl.res S = x) (hS : ySs S L = S') (hg : g + L.length ≤ 1000) (hq : ∀ q ∈ L,q.n.size ≤ maxLen∧q.d.size ≤ maxLen) (hIl : x.ids.length ≤ 1000000000000) (hTl : x.tx.length ≤ 1000000000000) :
  Calls Tryz.prog 33 #[.pointer (some ⟨b2,0,none⟩),sv] W fun e w' => ∃ ai ci at_ ct,e = .returned (.tuple #[.agg #[.int .i64 x.c,.string ⟨#[]⟩,.int .i64 x.n,.slice ai x.ids.length ci,.slice at_ x.tx.length ct,.slice none 0 0,.slice none 0 0],.bool true])∧Hid (RW W0 w' b2 x L.length (fun i => X < i∧i < Bd) sv S' bs (.slice ai x.ids.length ci) (.slice at_ x.tx.length ct) z)∧KK X K M w':=by
 refine (go_run hJ h.yp h.py hG ht hx hS hg hq hIl hTl h.la).mono ?_
 rintro e w' ⟨ai,ci,at_,ct,rfl,hR⟩
 exact ⟨ai,ci,at_,ct,rfl,hR,h.kg hR.out.gs⟩
theorem gq_store (h : GQ w W0 X Bd K M sv S bs) (hR : RW W0 W b2 x k (fun i => X < i∧i < Bd) sv S' bs ids tx (some q)) :
  ∃ V,(Instr.storeAt 63 (.pointer (some ⟨q,0,none⟩)) (.agg #[.int .i64 x.c,.string ⟨#[]⟩,.int .i64 x.n,ids,tx,.slice none 0 0,.slice none 0 0])).run Tryz.prog W = .ok () V∧Hid (RV W0 V b2 x k (fun i => X < i∧i < Bd) sv S' bs ids tx q)∧KK X K M V:=by
 obtain ⟨V,h1,h2⟩:=hR.store h.py h.la.size
 exact ⟨V,h1,h2,h.kg h2.out.gs⟩
theorem aq_small {kd : Int} (hn : nm.size ≤ maxLen) : ∀ q ∈ aq kd nm ⟨#[]⟩ (K + M),q.n.size ≤ maxLen∧q.d.size ≤ maxLen:=by
 intro q hq
 obtain ⟨i,_,rfl⟩:=List.mem_map.1 hq
 exact ⟨hn,show (⟨#[]⟩ : ByteArray).size ≤ maxLen by decide⟩
theorem lay_small {kd : Int} (hn : nm.size ≤ maxLen) (hd : ∀ d ∈ shL K M s,d.size ≤ 131072) : ∀ q ∈ aq kd nm ⟨#[]⟩ (K + M) ++ pq nm (shL K M s),q.n.size ≤ maxLen∧q.d.size ≤ maxLen:=by
 intro q hq
 rcases List.mem_append.1 hq with hq | hq
 ·exact aq_small hn q hq
 ·rw [pq] at hq
  obtain ⟨i,hi,rfl⟩:=List.mem_mapIdx.1 hq
  have:=hd _ (List.getElem_mem hi)
  exact ⟨hn,by show (shL K M s)[i].size ≤ maxLen; unfold maxLen; omega⟩
end
end Go.Proofs.YtagijldedngcoaaGreatDoor

namespace Go.Proofs.YtagijldedngcoaaGreatDoor
open Go.RowKit Go.Lib Go.Maps
section
variable {r r' : Nat→Prop} {w : World} {av lv kv : Value} {X : List (RR × Value)} {l k : List Int}
theorem ocodes_any (hL : LS x3 3 r w av X) (hS : ∀ x ∈ X,∃ a n c,x.2 = .slice a n c) (hn : X.length ≤ 1000000) :
  Calls Tryz.prog 129 #[av] w fun e w' => ∃ v,e = .returned v∧OW c1 1 33 w.heap.size v (X.map (·.1.c)) w'∧Below w.heap.size w w':=by
 obtain ⟨a,c,rfl,h1,h2⟩:=hL
 have HC : Hid (∀ j x,X[j]? = some x→∀ wr,Below w.heap.size w wr→∃ g o,a = some ⟨g,o,none⟩∧wr.cell? ⟨g,o + j * 3,none⟩ = some (.int .i64 x.1.c)∧wr.cell? ⟨g,o + j * 3 + 1,none⟩ = some (.string x.1.d)∧wr.cell? ⟨g,o + j * 3 + 2,none⟩ = some x.2):=fun j x hx wr hb => by
  rcases h2 with h2 | ⟨g,o,ea,hr,hg,hG⟩
  ·rw [h2] at hx; simp at hx
  ·exact ⟨g,o,ea,(hb.cell (p:=⟨g,o + j * 3,none⟩) hg).trans (hG j x hx 0 _ rfl),(hb.cell (p:=⟨g,o + j * 3 + 1,none⟩) hg).trans (hG j x hx 1 _ rfl),(hb.cell (p:=⟨g,o + j * 3 + 2,none⟩) hg).trans (hG j x hx 2 _ rfl)⟩
 obtain ⟨m,hm⟩ : ∃ m,m = X.length:=⟨_,rfl⟩
 rw [← hm] at hn ⊢
 have HM:=hide hm
 have HS:=hide hS
 clear hm h1 h2 hS
 go_enter Tryz.func129,Tryz.ntmps129
 go_wp2
 go_loopw [3,8] (fun v i wr => ∃ j : Nat,j ≤ m∧i = .int .i64 j∧OW c1 1 33 w.heap.size v ((X.take j).map (·.1.c)) wr∧Below w.heap.size w wr) (fun _ i _ => m - (intOf i).toNat)
 case atStart => exact ⟨0,Nat.zero_le _,rfl,by rw [List.take_zero]; exact OW.nil _ _ _ _ _,Below.refl _ _⟩
 case round =>
  obtain ⟨j,hj,rfl,hO,hB⟩:=hrel
  by_cases hlt : j < m
  ·have b1 : (j : Int) < (m : Int):=by omega
   have b0 : (0 : Int) ≤ (j : Int):=by omega
   obtain ⟨x,hx⟩ : ∃ x,X[j]? = some x:=⟨_,List.getElem?_eq_getElem (by rw [← HM.out]; exact hlt)⟩
   obtain ⟨g,o,rfl,z0,z1,z2⟩:=HC.out j x hx _ hB
   have hsx:=HS.out x (List.mem_of_getElem? hx)
   obtain ⟨xr,xu⟩:=x
   obtain ⟨ua,un,uc,hu⟩:=hsx
   dsimp only at hu z0 z1 z2
   subst hu
   obtain ⟨cc,hcc⟩ : ∃ cc,cc = xr.c:=⟨_,rfl⟩
   obtain ⟨dd,hdd⟩ : ∃ dd,dd = xr.d:=⟨_,rfl⟩
   rw [← hcc] at z0
   rw [← hdd] at z1
   obtain ⟨n5,hn5⟩ : ∃ n5,n5 = wr.heap.size:=⟨_,rfl⟩
   obtain ⟨Zw,hZw⟩ : ∃ Zw,Zw = wr.alloc (.cells #[.int .i64 cc,.string dd,.slice ua un uc] 87):=⟨_,rfl⟩
   have hZB : Below wr.heap.size wr Zw:=by rw [hZw]; exact (Below.refl _ _).alloc (Nat.le_refl _) _
   have hblk : Zw.heap[n5]? = some (.cells #[.int .i64 cc,.string dd,.slice ua un uc] 87 (0,0)):=by rw [hZw,hn5]; exact heap_alloc_new wr _
   have k0 : Zw.cell? ⟨n5,0,none⟩ = some (.int .i64 cc):=by simp [World.cell?,hblk]
   obtain ⟨v2,w2,hr1,hO2,hG2⟩:=cpush (hO.keep hZB) cc (by rw [List.length_map,List.length_take]; omega) (Nat.le_trans hB.size hZB.size)
   have HE : Hid (OW c1 1 33 w.heap.size v2 ((X.take (j + 1)).map (·.1.c)) w2∧Below w.heap.size w w2):=by
    refine ⟨?_,hG2.below (hB.trans (hZB.mono hB.size)) (Nat.le_trans hB.size hZB.size) fun i e => (hO.lt i e).1⟩
    rw [take_snoc_at hx,List.map_append]
    show OW c1 1 33 w.heap.size v2 ((X.take j).map (·.1.c) ++ [xr.c]) w2
    rw [← hcc]
    exact hO2
   have HZw:=hide hZw
   have Hn5:=hide hn5
   clear hO hB hO2 hG2 hZw hn5 hZB hblk hcc hdd hx
   go_upto_region 5 with fail
   rw [← HZw.out,← Hn5.out]
   go_wp2_with (at_builtin; refine Lib.wpList_append_run _ rfl _ _ _ _ rfl _ _ rfl rfl _ _ hr1 ?_)
   exact ⟨⟨j + 1,by omega,by go_num,HE.out⟩,by simp [intOf]; omega⟩
  ·obtain rfl : j = m:=by omega
   have e : X.take j = X:=List.take_of_length_le (by have:=HM.out; omega)
   rw [e] at hO
   have HE:=hide (And.intro hO hB)
   clear hO hB
   go_wp2
   go_ret
   exact ⟨_,rfl,HE.out⟩
end
theorem LS.drew {α : Type} {f : α→List Value} {k : Nat} {r : Nat→Prop} {w : World} {v : Value} {l : List α} (h : LS f k r w v l) : LS f k r w.drew v l:=h
section
variable {α : Type} {F : FuncId} {fi ca : Array Value} {b : Nat} {Fin : α→List RR→(Nat→Prop)→World→Prop} {rest : List RR→PN α} {e mu' r0 : Nat→Prop} {w : World} {A0 : List RR} {l : List QT} {v : Value}
theorem all_jjx (hent : Ent F) (hLw : Zq.Sh.Laid w) (hb2 : 2 ≤ b) (hJ : JB w b true 0 0 ⟨#[]⟩ ⟨#[]⟩ .nilFunc 0 0 (.slice none 0 0) (.slice none 0 0) (A0.length : Int)) (hv : LS q4 4 r0 w v l) (hl : l.length ≤ 1000000) (hI0 : (resI A0).length ≤ 1000000000000) (HK : KO F fi ca b Fin l.length rest A0 e mu' w) (heb : ¬ e b) (hme : ∀ i,mu' i→e i) (hel : ∀ i,e i→i < w.heap.size) :
  Calls Tryz.prog 126 #[.pointer (some ⟨b,0,none⟩),v,.func (.func F) fi ca] w fun er w' => er = .returned (.tuple #[])∧PO b Fin (sqP l [] rest) A0 e (fun i => i = b ∨ mu' i) w w':=by
 by_cases hn : 0 < l.length
 ·refine (all_jj hent hb2 hLw.size hJ hv hn hl HK heb hme hel).mono ?_
  rintro er w' ⟨rfl,hG,hR⟩
  refine ⟨rfl,hG.mono fun i _ h => .inl h,hR.mono ?_⟩
  rintro w2 ⟨P',h1,h2,h3⟩
  exact ⟨P',h1,h2.mono fun i _ h => .inl h,h3⟩
 ·obtain rfl : l = []:=List.length_eq_zero_iff.1 (by omega)
  refine all_any hJ hv hl (.func F) fi ca (Q:=fun w' => PO b Fin (sqP [] [] rest) A0 e (fun i => i = b ∨ mu' i) w w') ?_
  intro W a1 a2 a3 a4 a5 rv r hCL hJW hBW hr h4 h4l _
  refine next_then hent hCL rfl ((HK W (.slice none 0 0) [] (fun _ => False) ((Sm.refl e w).bel hBW) (hLw.below hBW hLw.size) (by simpa using hJW) (LS.nl _ _) (fun x hx => by simp at hx) rfl (by simpa using hI0) (fun x hx => by simp at hx) (fun i hi => hi.elim)).mono ?_)
  rintro er w' ⟨rfl,hG,hR⟩
  refine ⟨rfl,(Gs.of_below _ hBW).trans hG,hR.mono ?_⟩
  rintro w2 ⟨P',h1,h2,h3⟩
  have hs:=hBW.size
  refine ⟨P',by simpa [sqP] using h1,(Gs.of_below _ hBW).trans h2,fun i hi => ?_⟩
  rcases h3 i hi with h | h | h | h
  ·exact .inl h
  ·exact .inr (.inl h)
  ·exact h.elim
  ·exact .inr (.inr (by omega))
end
end Go.Proofs.YtagijldedngcoaaGreatDoor

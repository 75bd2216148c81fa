/-
  Contracts of the program and of the statements (part 13 of 28).
-/
import Derived.Test.YtagijldedngcoaaGreatDoorOl12
import Derived.Test.YtagijldedngcoaaGreatDoorOl5
import Derived.Sort.KeysCollected
import Derived.Sort.OwnSorted
import Derived.Deep.RegionLaw
import Derived.Laws.Externs
import Derived.Shelf.SlMaps.Clone
set_option maxRecDepth 100000
set_option maxHeartbeats 3200000

namespace Go.Proofs.YtagijldedngcoaaGreatDoor
open Go.RowKit Go.Lib Go.Maps

def pcode (n d : ByteArray) (L : List OB) (q : Int) : Int:=if mayB n = true then (if d.size ≤ 131072 then (if ((usedL (layL L n d) : Nat) : Int) ≤ q then 0 else 71) else 2) else 3
def putL (n d : ByteArray) (L : List OB) (q : Int) : List OB:=if pcode n d L q = 0 then layL L n d else L
theorem mayB_size {n : ByteArray} (h : mayB n = true) : n.size ≤ 96:=by
 unfold mayB at h
 simp at h
 omega
section
variable {w : World} {b mb : Nat} {q f : Int} {dn : Bool} {cl : Int} {L : List OB}

theorem put_any (hP : PS w b mb q f dn cl L) (n d : ByteArray) (hn : n.size ≤ maxLen) (hd : d.size ≤ maxLen) (hl : L.length ≤ 1000000) :
  Calls Tryz.prog 85 #[.pointer (some ⟨b,0,none⟩),.string n,.string d] w fun e w' => e = .returned (.int .i64 (pcode n d L q))∧PS w' b mb q f dn cl (putL n d L q)∧Gs (two b mb) w w':=by
 unfold maxLen at hn hd
 have HFA : Hid _:=hide (fault_any n d w hn hd)
 have HP:=hide hP
 clear hP
 obtain ⟨C,hC⟩ : ∃ C,C = pcode n d L q:=⟨_,rfl⟩
 obtain ⟨M,hM⟩ : ∃ M,M = putL n d L q:=⟨_,rfl⟩
 rw [← hC,← hM]
 have HC:=hide hC
 have HM:=hide hM
 clear hC hM
 by_cases h1 : mayB n = true
 ·by_cases h2 : d.size ≤ 131072
  ·have hn':=mayB_size h1
   have hf : fcode n d = 0:=by rw [fcode,if_pos h1,if_pos h2]
   rw [hf] at HFA
   obtain ⟨x,hx⟩ : ∃ x,x = n.size + d.size:=⟨_,rfl⟩
   obtain ⟨y,hy⟩ : ∃ y,y = szO n (thr L n):=⟨_,rfl⟩
   obtain ⟨u,hu⟩ : ∃ u,u = usedL L:=⟨_,rfl⟩
   obtain ⟨v,hv⟩ : ∃ v,v = usedL (layL L n d):=⟨_,rfl⟩
   have huv : v + y = u + x:=by rw [hv,hy,hu,hx]; have:=used_lay HP.out.ris n d; omega
   have hyu : y ≤ u:=by rw [hy,hu]; have:=used_del L n; omega
   have hyb : y ≤ 131168:=by rw [hy]; exact sz_small HP.out.small n
   have hxb : x ≤ 131168:=by omega
   have hub' : u ≤ 131168000000:=by rw [hu]; have:=used_bound HP.out.small; omega
   have f1 : IntKind.i64.wrap ((u : Int) - (y : Int)) = (u : Int) - (y : Int):=by simp [IntKind.wrap_i64]; omega
   have f2 : IntKind.i64.wrap ((u : Int) - (y : Int) + (x : Int)) = (v : Int):=by simp [IntKind.wrap_i64]; omega
   have HZ : Hid _:=hide (size_any n d x hx (by omega))
   have HCL : Hid (∀ w1,PS w1 b mb q f dn cl L→w1.cell? ⟨b,1,none⟩ = some (.int .i64 (u : Int))∧w1.cell? ⟨b,2,none⟩ = some (.int .i64 q)):=fun w1 h => by rw [hu]; exact ⟨h.cell1,h.cell2⟩
   have HU : Hid (∀ w1,Hid (PS w1 b mb q f dn cl L∧Below w.heap.size w w1)→Calls Tryz.prog 135 #[.pointer (some ⟨b,0,none⟩),.string n] w1 fun e w' => e = .returned (.int .i64 (y : Int))∧Hid (PS w' b mb q f dn cl L∧Below w.heap.size w w')∧w'.cell? ⟨b,1,none⟩ = some (.int .i64 (u : Int))∧w'.cell? ⟨b,2,none⟩ = some (.int .i64 q)):=fun w1 h => by
    rw [hy]
    refine (usedBy_any h.out.1 n (by unfold maxLen; omega)).mono ?_
    rintro e w' ⟨rfl,hb⟩
    have hP':=h.out.1.bel hb
    exact ⟨rfl,⟨hP',h.out.2.trans (hb.mono h.out.2.size)⟩,HCL.out _ hP'⟩
   have K1 : Hid (PS w.drew b mb q f dn cl L∧Below w.heap.size w w.drew):=⟨HP.out.drew,(Below.refl _ _).drew⟩
   obtain ⟨y1,y2⟩:=HCL.out _ K1.out.1
   have HLY : Hid (∀ w1,PS w1 b mb q f dn cl L→Calls Tryz.prog 78 #[.pointer (some ⟨b,0,none⟩),.string n,.string d] w1 fun e w' => e = .returned (.tuple #[])∧PS w' b mb q f dn cl (layL L n d)∧Gs (two b mb) w1 w'):=fun w1 h => lay_any h n d hn' h2 hl
   have HV:=hide hv
   have HMB:=hide h1
   clear hu hy hx hv hf h1
   go_enter Tryz.func85,Tryz.ntmps85
   go_wp2_with fail
   refine HFA.out.mono ?_
   rintro e w0 ⟨rfl,rfl⟩
   clear HFA
   go_upto_region 4 with fail
   go_region_held3 (fun w' => Hid (PS w' b mb q f dn cl L∧Below w0.heap.size w0 w')∧w'.cell? ⟨b,1,none⟩ = some (.int .i64 (u : Int))∧w'.cell? ⟨b,2,none⟩ = some (.int .i64 q)) (first | assumption | exact ⟨by assumption,by assumption,by assumption⟩ | exact ⟨K1,y1,y2⟩)
    (first | (go_at_call 134; refine (HZ.out _).mono ?_; rintro e w' ⟨rfl,rfl⟩) | (go_at_call 135; refine (HU.out _ (by first | assumption | exact K1)).mono ?_; rintro e w1 ⟨rfl,k1,k2,k3⟩))
   by_cases hq : (v : Int) ≤ q
   ·have hC0 : C = 0:=by rw [HC.out,pcode,if_pos HMB.out,if_pos h2,if_pos (by rw [← HV.out]; exact hq)]
    have hMe : M = layL L n d:=by rw [HM.out,putL,← HC.out,hC0,if_pos rfl]
    subst hC0
    have hq' : ¬ q < (v : Int):=by omega
    have HME:=hide hMe
    clear hMe
    go_wp2_with fail
    refine (HLY.out _ k1.out.1).mono ?_
    rintro e w2 ⟨rfl,hp2,hg2⟩
    have HF:=hide (And.intro hp2 ((Gs.of_below _ k1.out.2).trans hg2))
    clear hp2 hg2
    go_wp2
    go_ret
    exact ⟨rfl,by rw [HME.out]; exact HF.out.1,HF.out.2⟩
   ·have hC0 : C = 71:=by rw [HC.out,pcode,if_pos HMB.out,if_pos h2,if_neg (by rw [← HV.out]; exact hq)]
    have hMe : M = L:=by rw [HM.out,putL,← HC.out,hC0,if_neg (by decide)]
    subst hC0 hMe
    have hq' : q < (v : Int):=by omega
    go_wp2
    go_ret
    exact ⟨rfl,k1.out.1,Gs.of_below _ k1.out.2⟩
  ·have hf : fcode n d = 2:=by rw [fcode,if_pos h1,if_neg h2]
   have hC0 : C = 2:=by rw [HC.out,pcode,if_pos h1,if_neg h2]
   have hMe : M = L:=by rw [HM.out,putL,← HC.out,hC0,if_neg (by decide)]
   rw [hf] at HFA
   subst hC0 hMe
   clear hf
   go_enter Tryz.func85,Tryz.ntmps85
   go_wp2_with fail
   refine HFA.out.mono ?_
   rintro e w0 ⟨rfl,rfl⟩
   go_wp2
   go_ret
   exact ⟨rfl,HP.out,Gs.refl _ _⟩
 ·have hf : fcode n d = 3:=by rw [fcode,if_neg h1]
  have hC0 : C = 3:=by rw [HC.out,pcode,if_neg h1]
  have hMe : M = L:=by rw [HM.out,putL,← HC.out,hC0,if_neg (by decide)]
  rw [hf] at HFA
  subst hC0 hMe
  clear hf
  go_enter Tryz.func85,Tryz.ntmps85
  go_wp2_with fail
  refine HFA.out.mono ?_
  rintro e w0 ⟨rfl,rfl⟩
  go_wp2
  go_ret
  exact ⟨rfl,HP.out,Gs.refl _ _⟩
end
end Go.Proofs.YtagijldedngcoaaGreatDoor

namespace Go.Proofs.YtagijldedngcoaaGreatDoor
open Go.RowKit Go.Lib Go.Maps

def dcode (n : ByteArray) (L : List OB) : Int:=if (thr L n).isSome = true then 0 else 5
section
variable {w : World} {b mb : Nat} {q f : Int} {dn : Bool} {cl : Int} {L : List OB}

theorem get_any (hP : PS w b mb q f dn cl L) (n : ByteArray) (hn : n.size ≤ maxLen) :
  Calls Tryz.prog 86 #[.pointer (some ⟨b,0,none⟩),.string n] w fun e w' => e = .returned (.agg #[.int .i64 (dcode n L),.string ((thr L n).getD ⟨#[]⟩),.slice none 0 0])∧Below w.heap.size w w':=by
 have y0:=(hP.bel ((Below.refl _ _).alloc (Nat.le_refl _) (.cells #[.int .i64 0,.string ⟨#[]⟩,.slice none 0 0] 87))).cell0
 have hk:=(hP.bel ((Below.refl _ _).alloc (Nat.le_refl _) (.cells #[.int .i64 0,.string ⟨#[]⟩,.slice none 0 0] 87))).map.look hn
 obtain ⟨C,hC⟩ : ∃ C,C = dcode n L:=⟨_,rfl⟩
 rw [← hC]
 clear hP hn
 cases ht : thr L n with
 | none =>
  rw [ht] at hk
  have hc : C = 5:=by rw [hC,dcode,ht]; rfl
  subst hc
  clear hC ht
  dsimp only [Option.isSome,Option.getD] at hk ⊢
  go_enter Tryz.func86,Tryz.ntmps86
  go_wp2
  exact bodyPost_ret (v:=.agg #[.int .i64 5,.string ⟨#[]⟩,.slice none 0 0]) (by simp [results,Tryz.results86,go_sem]) rfl ⟨rfl,((Below.refl _ _).alloc (Nat.le_refl _) _).alloc (by simp) _⟩
 | some d =>
  rw [ht] at hk
  have hc : C = 0:=by rw [hC,dcode,ht]; rfl
  subst hc
  clear hC ht
  dsimp only [Option.isSome,Option.getD] at hk ⊢
  go_enter Tryz.func86,Tryz.ntmps86
  go_wp2
  exact bodyPost_ret (v:=.agg #[.int .i64 0,.string d,.slice none 0 0]) (by simp [results,Tryz.results86,go_sem]) rfl ⟨rfl,((Below.refl _ _).alloc (Nat.le_refl _) _).alloc (by simp) _⟩

theorem add_any (hP : PS w b mb q f dn cl L) (h0 : 0 ≤ cl) (h1 : cl ≤ 1000000000000) :
  Calls Tryz.prog 84 #[.pointer (some ⟨b,5,none⟩),.int .i64 1] w fun e w' => e = .returned (.int .i64 (cl + 1))∧w' = w.setCell ⟨b,5,none⟩ (.int .i64 (cl + 1)):=by
 have hs : IntKind.i64.wrap (cl + 1) = cl + 1:=by simp [IntKind.wrap_i64]; omega
 have hadd:=run_call_add (P:=Tryz.prog) Tryz.func138 (by kernel_rfl) (by kernel_rfl) (by kernel_rfl) .i64 (by kernel_rfl) (y:=1) (s:=cl + 1) hP.cell5 (hP.free 5) (by simp [go_sem,hs])
 clear hP
 go_enter Tryz.func84,Tryz.ntmps84
 go_wp2
 go_ret
 exact ⟨rfl,rfl⟩

theorem del_any (hP : PS w b mb q f dn cl L) (n : ByteArray) (hn : n.size ≤ maxLen) (hl : L.length ≤ 1000000) :
  Calls Tryz.prog 87 #[.pointer (some ⟨b,0,none⟩),.string n] w fun e w' => e = .returned (.int .i64 (dcode n L))∧PS w' b mb q f dn cl (delL L n)∧Gs (two b mb) w w':=by
 have y0:=hP.cell0
 have hk:=hP.map.look hn
 have HP:=hide hP
 have HN:=hide hn
 obtain ⟨C,hC⟩ : ∃ C,C = dcode n L:=⟨_,rfl⟩
 rw [← hC]
 clear hP hn
 cases ht : thr L n with
 | none =>
  rw [ht] at hk
  have hc : C = 5:=by rw [hC,dcode,ht]; rfl
  subst hc
  have HD:=hide (del_none ht)
  clear hC ht
  dsimp only [Option.isSome,Option.getD] at hk
  go_enter Tryz.func87,Tryz.ntmps87
  go_wp2
  go_ret
  have hb : Below w.heap.size w (w.alloc (.cells #[.string ⟨#[]⟩] 130)):=(Below.refl _ _).alloc (Nat.le_refl _) _
  exact ⟨rfl,by rw [HD.out]; exact HP.out.bel hb,Gs.of_below _ hb⟩
 | some d =>
  rw [ht] at hk
  have hc : C = 0:=by rw [hC,dcode,ht]; rfl
  subst hc
  have HT:=hide ht
  clear hC ht
  dsimp only [Option.isSome,Option.getD] at hk
  obtain ⟨y,hy⟩ : ∃ y,y = szO n (thr L n):=⟨_,rfl⟩
  obtain ⟨u,hu⟩ : ∃ u,u = usedL L:=⟨_,rfl⟩
  obtain ⟨v,hv⟩ : ∃ v,v = usedL (delL L n):=⟨_,rfl⟩
  have huv : u = v + y:=by rw [hu,hv,hy]; exact used_del L n
  have hyb : y ≤ 131168:=by rw [hy]; exact sz_small HP.out.small n
  have hub' : u ≤ 131168000000:=by rw [hu]; have:=used_bound HP.out.small; omega
  have f1 : IntKind.i64.wrap ((u : Int) - (y : Int)) = (v : Int):=by simp [IntKind.wrap_i64]; omega
  have HCU : Hid (∀ w1,PS w1 b mb q f dn cl L→w1.cell? ⟨b,1,none⟩ = some (.int .i64 (u : Int))):=fun w1 h1 => by rw [hu]; exact h1.cell1
  have HU : Hid (∀ w1,PS w1 b mb q f dn cl L→Calls Tryz.prog 135 #[.pointer (some ⟨b,0,none⟩),.string n] w1 fun e w' => e = .returned (.int .i64 (y : Int))∧Below w1.heap.size w1 w'):=fun w1 h1 => by
   rw [hy]; exact usedBy_any h1 n HN.out
  have HEND : Hid (∀ w1,PS w1 b mb q f dn cl L→∃ w2,(Builtin.delete_ #[113,9] 0 #[.map (some mb),.string n]).run Tryz.prog (w1.setCell ⟨b,1,none⟩ (.int .i64 (v : Int))) = .ok (.tuple #[]) w2∧(w1.setCell ⟨b,1,none⟩ (.int .i64 (v : Int))).cell? ⟨b,0,none⟩ = some (.map (some mb))∧PS w2 b mb q f dn cl (delL L n)∧Gs (two b mb) w1 w2):=fun w1 h1 => by
   have hm : MO (w1.setCell ⟨b,1,none⟩ (.int .i64 (v : Int))) mb L:=h1.map.set h1.ne _
   have hblk:=heap_set_self (j:=1) (u:=.int .i64 (v : Int)) h1.blk
   obtain ⟨w2,r,hm2,hg,hsz⟩:=hm.del h1.ris HN.out 0
   refine ⟨w2,r,by simp [World.cell?,hblk],⟨?_,hm2,ris_del h1.ris n,small_del h1.small n⟩,?_⟩
   ·rw [hg.block b (by simp [World.setCell]; exact h1.lt) (fun e => h1.ne (Option.some.inj e).symm),hblk,← hv]
    rfl
   ·exact ((Gs.refl _ _).set (.inl (.inl rfl)) _).gb hg (.inl (.inr rfl))
  have hb : Below w.heap.size w (w.alloc (.cells #[.string d] 130)):=(Below.refl _ _).alloc (Nat.le_refl _) _
  have HP0:=hide (HP.out.bel hb)
  have HG0 : Hid (Gs (two b mb) w (w.alloc (.cells #[.string d] 130))):=Gs.of_below _ hb
  have y1:=HCU.out _ HP0.out
  have z1:=HP0.out.free 1
  have HUV:=hide huv
  clear hu hy hv hb huv
  go_enter Tryz.func87,Tryz.ntmps87
  go_upto_region 4 with fail
  go_region_with (first | (go_at_call 135; refine (HU.out _ HP0.out.drew).mono ?_; rintro e w1 ⟨rfl,hb1⟩; have HB1:=hide hb1; have HP1:=hide (HP0.out.drew.bel hb1); have y2:=HCU.out w1 HP1.out; have z2:=HP1.out.free 1; clear hb1))
  all_goals (
   obtain ⟨w2,r,c0,hP2,hG2⟩:=HEND.out _ HP1.out
   have HF:=hide (And.intro hP2 (HG0.out.trans ((Gs.ofd _ HB1.out).trans hG2)))
   clear y2 z2 y1 z1 hP2 hG2
   go_wp2
   go_ret
   exact ⟨rfl,HF.out⟩)

theorem wipe_any (hP : PS w b mb q f dn cl L) :
  Calls Tryz.prog 34 #[.pointer (some ⟨b,0,none⟩)] w fun e w' => e = .returned (.tuple #[])∧PS w' b mb q f dn cl []∧Gs (two b mb) w w':=by
 have y0:=hP.cell0
 obtain ⟨w2,r,hm2,hg,hsz⟩:=hP.map.clear 0
 have hblk : w2.heap[b]? = _:=(hg.block b hP.lt (fun e => hP.ne (Option.some.inj e).symm)).trans hP.blk
 have c1 : w2.cell? ⟨b,1,none⟩ = some (.int .i64 ((usedL L : Nat) : Int)):=by simp [World.cell?,hblk]
 have z1 : w2.frozen? ⟨b,1,none⟩ = false:=by simp [World.frozen?,hblk]
 have HF : Hid (PS (w2.setCell ⟨b,1,none⟩ (.int .i64 0)) b mb q f dn cl []∧Gs (two b mb) w (w2.setCell ⟨b,1,none⟩ (.int .i64 0))) :=
  ⟨⟨heap_set_self hblk,hm2.set hP.ne _,List.Pairwise.nil,fun p hp => by cases hp⟩,((Gs.refl _ _).gb hg (.inl (.inr rfl))).set (.inl (.inl rfl)) _⟩
 clear hP hm2 hg hsz hblk
 go_enter Tryz.func34,Tryz.ntmps34
 go_wp2
 go_end0
 exact ⟨rfl,HF.out⟩
end
end Go.Proofs.YtagijldedngcoaaGreatDoor

namespace Go.Proofs.YtagijldedngcoaaGreatDoor
open Go.RowKit Go.Lib Go.Maps Go.Sort

def mkB (x : List UInt8) : ByteArray:=⟨x.toArray⟩
theorem mkB_to (n : ByteArray) : mkB n.data.toList = n:=by simp [mkB]
theorem before_lt : ∀ x y : List UInt8,bytesBefore x y = true→x < y
 | [],[],h => by simp [bytesBefore] at h
 | [],_ :: _,_ => List.nil_lt_cons _ _
 | _ :: _,[],h => by simp [bytesBefore] at h
 | a :: x,b :: y,h => by
  simp only [bytesBefore,Bool.or_eq_true,decide_eq_true_eq,Bool.and_eq_true,beq_iff_eq] at h
  rw [List.cons_lt_cons_iff]
  rcases h with h | ⟨h,h'⟩
  ·exact .inl h
  ·exact .inr ⟨h,before_lt x y h'⟩
theorem begins_prefix (bg n : ByteArray) : Lib.hasPrefix n.data.toList bg.data.toList = begins bg n:=by
 rw [Lib.hasPrefix,begins,Bool.eq_iff_iff,List.isPrefixOf_iff_prefix,List.prefix_iff_eq_take,Bool.and_eq_true,decide_eq_true_eq,decide_eq_true_eq]
 have hl : bg.data.toList.length = bg.size:=by simp
 have ex : (n.extract 0 bg.size).data.toList = n.data.toList.take bg.size:=by simp [ByteArray.data_extract]
 constructor
 ·intro h
  rw [hl,← ex] at h
  have h2 : n.extract 0 bg.size = bg:=ByteArray.ext (Array.toList_inj.1 h.symm)
  refine ⟨?_,h2⟩
  have h3:=congrArg ByteArray.size h2
  simp at h3
  omega
 ·rintro ⟨h1,h2⟩
  rw [hl,← ex,h2]
theorem keys_dat (L : List OB) : strKeys (datL obD L) = L.map (fun p => p.n.data.toList):=by
 show (L.map (entr obD)).map _ = _
 rw [List.map_map]
 rfl
theorem names_map (L : List OB) (bg : ByteArray) : ((L.map (fun p => p.n.data.toList)).filter (fun x => Lib.hasPrefix x bg.data.toList)).map mkB = namesL L bg:=by
 induction L with
 | nil => rfl
 | cons p r ih =>
  rw [List.map_cons,List.filter_cons,begins_prefix,namesL,List.filter_cons]
  by_cases h : begins bg p.n = true
  ·rw [if_pos h,if_pos h,List.map_cons,List.map_cons,mkB_to]
   exact congrArg _ ih
  ·rw [if_neg h,if_neg h]
   exact ih
theorem names_sorted {L : List OB} (h : Ris L) (bg : ByteArray) : ((L.map (fun p => p.n.data.toList)).filter (fun x => Lib.hasPrefix x bg.data.toList)).Pairwise (fun x y => leB x y = true):=by
 refine List.Pairwise.filter _ (List.pairwise_map.2 (h.imp fun {p q} hb => ?_))
 exact decide_eq_true (List.le_of_lt (before_lt _ _ hb))
theorem sort_names {L : List OB} (h : Ris L) (bg : ByteArray) {ss : List (List UInt8)} (hp : ss.Perm (L.map (fun p => p.n.data.toList))) :
  ((ss.filter (fun x => Lib.hasPrefix x bg.data.toList)).mergeSort leB).map mkB = namesL L bg:=by
 rw [mergeSort_of_perm (hp.filter _),List.mergeSort_of_pairwise (names_sorted h bg),names_map]

section
variable {w : World} {b mb : Nat} {q f : Int} {dn : Bool} {cl : Int} {L : List OB}

theorem begunBy_any (hP : PS w b mb q f dn cl L) (bg : ByteArray) (hl : L.length ≤ 1000000) :
  Calls Tryz.prog 55 #[.pointer (some ⟨b,0,none⟩),.string bg] w fun e w' => ∃ v,e = .returned v∧TS w.heap.size v (namesL L bg) w'∧Below w.heap.size w w':=by
 have y0:=hP.cell0
 have HP:=hide hP
 have HM : Hid (w.ownsMap Tryz.prog 9 obE mb L.length (datL obD L)):=hP.map
 have HML:=hide hP.mlt
 clear hP
 go_enter Tryz.func55,Tryz.ntmps55
 go_wp2_with (first | (at_range; refine wpList_range_own _ rfl _ _ rfl 9 130 (string_keyed Tryz.underlying9) Tryz.underlying113 obE mb L.length (datL obD L) rfl HM.out ?_; intro w1 hrg1 hg1 hs1))
 have HR1:=hide hrg1
 have HB1 : Hid (Below w.heap.size w w1):=(Below.refl _ _).grown hg1 (Nat.le_refl _) (fun k hk => by cases hk)
 clear hrg1 hg1 hs1
 go_frame
 go_loopw [5] (fun vo wr => ∃ left cnt ss,wr.ranges Tryz.prog 9 obE mb w.heap.size L.length (datL obD L) left cnt∧ss.length + cnt ≤ L.length∧TS w.heap.size vo ((ss.filter (fun x => Lib.hasPrefix x bg.data.toList)).map mkB) wr∧Collected (datL obD L) left ss∧Below w.heap.size w wr) (fun _ wr => wr.rangeLeft mb w.heap.size)
 case atStart => exact ⟨_,_,[],HR1.out,by rw [dat_size]; simp,TS.nil _ _,Collected.start _,HB1.out⟩
 case round =>
  obtain ⟨left,cnt,ss,hrg,hcs,hT,hC,hb⟩:=hrel
  have HRG:=hide hrg
  have HT:=hide hT
  have HC:=hide hC
  have HB:=hide hb
  have HCS:=hide hcs
  clear hrg hT hC hb hcs y0
  go_wp2_with (first | (at_next; refine wpList_next_ranges _ rfl _ rfl 9 (string_keyed Tryz.underlying9) obE Value.string (fun s => .agg #[.string s]) (fun key kl hk => by obtain ⟨x,hx,_⟩:=Maps.keyOf_str Tryz.underlying9 hk; exact ⟨mkB x,hx⟩) (fun v y hv => by obtain ⟨s,rfl,_⟩:=obE_inv hv; exact ⟨s,rfl⟩) mb w.heap.size L.length _ _ _ rfl HRG.out ?_ ?_))
  ·intro hc0 hl0
   have hperm : ss.Perm (L.map (fun p => p.n.data.toList)):=by
    rw [← keys_dat]
    exact HC.out.perm HM.out (string_keyed Tryz.underlying9) Tryz.underlying9 hl0
   have HS:=hide (sort_names HP.out.ris bg hperm)
   clear hc0 hl0 hperm
   generalize hq : ss.filter (fun x => Lib.hasPrefix x bg.data.toList) = ts at *
   clear hq
   obtain ⟨hlen,⟨rfl,h0⟩ | ⟨g,cap,cur,rfl,hbase,hblk,h1,h2,h3,h4⟩⟩:=HT.out.own
   ·have ht0 : ts = []:=by simpa using h0
    subst ht0
    have hN : namesL L bg = []:=by rw [← HS.out]; simp
    have HN:=hide hN
    have HC2 : Hid _:=hide (Tryz.slices_Sort_string_none none 0 wr)
    clear hN h0 hlen
    go_wp2_with fail
    refine HC2.out.mono ?_
    rintro e w' ⟨rfl,rfl⟩
    go_wp2
    go_ret
    exact ⟨_,rfl,by rw [HN.out]; exact TS.nil _ _,HB.out⟩
   ·have e2 : ts.map encStr = tc (ts.map mkB):=by rw [tc,List.map_map]; rfl
    have hH : Holds encStr wr g 0 ts.toArray:=holds_of_block hblk (by rw [e2]; simpa using h4)
    have hgl : g < wr.heap.size:=lt_of_block hblk
    have hts : ts.length ≤ 1000000:=by
     have:=congrArg List.length HS.out
     have h5:=names_len L bg
     simp at this
     omega
    have HC2 : Hid _:=hide (Tryz.slices_Sort_string g 0 cap ts wr hH hgl (by omega))
    rw [List.length_map] at h1 h4 HT ⊢
    have HF : Hid (∀ nn os,TS w.heap.size (.slice (some ⟨g,0,none⟩) ts.length cap) (namesL L bg) (grow (putRow encStr (Sort.ahead wr nn) g 0 (ts.mergeSort fun x y => decide (x ≤ y)).toArray) os)∧Below w.heap.size w (grow (putRow encStr (Sort.ahead wr nn) g 0 (ts.mergeSort fun x y => decide (x ≤ y)).toArray) os)):=fun nn os => by
     refine ⟨?_,HB.out.grown (grownBy_sorted _) HB.out.size (fun j hj => by cases hj; exact hbase)⟩
     have:=ownsRow_sorted (ts:=ts.mergeSort fun x y => decide (x ≤ y)) (ss:=ts) (n:=nn) (os:=os) (by simp) hbase hblk (by simpa using h1) (by simpa using h2) (by simpa using h3)
     refine ⟨?_⟩
     have hlN : (namesL L bg).length = ts.length:=by rw [← HS.out]; simp
     have e3 : tc (namesL L bg) = (ts.mergeSort leB).map encStr:=by rw [← HS.out,tc,List.map_map]; rfl
     rw [hlN,e3]
     simpa using this
    clear hH hgl h1 h2 h3 h4 hlen e2 hblk hbase hts HT
    go_wp2_with fail
    refine HC2.out.mono ?_
    rintro e w' ⟨rfl,nn,os,rfl⟩
    go_wp2
    go_ret
    exact ⟨_,rfl,(HF.out nn os).1,(HF.out nn os).2⟩
  ·intro y c kl yd yp w2 cnt2 hkey hlk hv hat hrg2 hlt hg2 hs2 hen
   obtain ⟨x',ex,rfl,hxl⟩:=Maps.keyOf_str Tryz.underlying9 hkey
   obtain ⟨x,hx⟩ : ∃ x,x = y.data.toList:=⟨_,rfl⟩
   obtain rfl : x = x':=by
    have e9 : y = ⟨x'.toArray⟩:=by simpa [encStr] using ex
    rw [hx,e9]
   have hy : y = mkB x:=by rw [hx,mkB_to]
   have HY:=hide hy
   have HC3:=hide (HC.out.step hlk hat)
   have HE:=hide (And.intro hlt hs2)
   have HG2:=hide hg2
   have HR2:=hide hrg2
   have HB2 : Hid (Below w.heap.size w w2):=HB.out.grown hg2 HB.out.size (fun j hj => by cases hj; exact Nat.le_refl _)
   have HT2 : Hid (TS w.heap.size u5 ((ss.filter (fun x => Lib.hasPrefix x bg.data.toList)).map mkB) w2):=⟨HT.out.own.kept hg2 (.inr (row_ne_iter HT.out.own HRG.out).symm)⟩
   have HL : Hid ((ss.filter (fun x => Lib.hasPrefix x bg.data.toList)).length ≤ 1000000):=by
    have h1:=List.length_filter_le (fun x => Lib.hasPrefix x bg.data.toList) ss
    have h2:=HCS.out
    show _ ≤ _
    omega
   have HLE:=hide (HRG.out.left_eq)
   obtain ⟨t,ht⟩ : ∃ t,t = Lib.hasPrefix x bg.data.toList:=⟨_,rfl⟩
   have HX : Hid (∀ W,Calls Tryz.prog 106 #[.string y,.string bg] W fun e w' => e = .returned (.bool t)∧w' = W):=fun W => by
    have:=Tryz.strings_HasPrefix y bg W
    rw [ht,hx]
    exact this
   have HFI : Hid ((ss ++ [x]).filter (fun x => Lib.hasPrefix x bg.data.toList) = ss.filter (fun x => Lib.hasPrefix x bg.data.toList) ++ (if t = true then [x] else [])):=by
    show _ = _
    rw [List.filter_append,ht]
    by_cases h : Lib.hasPrefix x bg.data.toList = true <;> simp [h]
   clear hkey hlk hv hat hrg2 hlt hg2 hs2 ht hxl ex hx hy HT HB HC HRG
   generalize ss.filter (fun x => Lib.hasPrefix x bg.data.toList) = ts at *
   go_wp2_with fail
   refine (HX.out _).mono ?_
   rintro e w' ⟨rfl,rfl⟩
   cases t with
   | true =>
    obtain ⟨v',w3,h3,hT3,hB3,hg3⟩:=HT2.out.one y (by have:=HL.out; simp; omega) HB2.out.size
    have HT3 : Hid (TS w.heap.size v' (((ss ++ [x]).filter (fun x => Lib.hasPrefix x bg.data.toList)).map mkB) w3):=by
     show TS _ _ _ _
     rw [HFI.out,if_pos rfl,List.map_append,List.map_cons,List.map_nil,← HY.out]
     exact hT3
    have HB3:=hide (hB3 w HB2.out)
    have HR3:=hide ((HR2.out.alloc (.cells #[.string y] 9)).kept hg3 (row_ne_low HT2.out.own HML.out) (row_ne_iter HT2.out.own HR2.out))
    clear hT3 hB3 hg3 HT2 HFI
    go_wp2_with (at_builtin; refine Lib.wpList_append_run _ rfl _ _ _ _ rfl _ _ rfl rfl _ _ h3 ?_)
    exact ⟨⟨_,cnt2,ss ++ [x],HR3.out,by have:=HCS.out; have:=HE.out.1; simp; omega,HT3.out,HC3.out,HB3.out⟩,by rw [HR3.out.left_eq,HLE.out]; exact HE.out.1⟩
   | false =>
    have HT3 : Hid (TS w.heap.size u5 (((ss ++ [x]).filter (fun x => Lib.hasPrefix x bg.data.toList)).map mkB) w'):=by
     show TS _ _ _ _
     rw [HFI.out,if_neg (by decide),List.append_nil]
     exact HT2.out
    clear HT2 HFI
    go_wp2
    exact ⟨⟨_,cnt2,ss ++ [x],HR2.out,by have:=HCS.out; have:=HE.out.1; simp; omega,HT3.out,HC3.out,HB2.out⟩,by rw [HR2.out.left_eq,HLE.out]; exact HE.out.1⟩
end
end Go.Proofs.YtagijldedngcoaaGreatDoor

namespace Go.Proofs.YtagijldedngcoaaGreatDoor
open Go.RowKit Go.Lib Go.Maps

structure SS where
 q : Int
 f : Int
 m : Int
 off : Bool
 L : List OB
structure RR where
 c : Int
 d : ByteArray
 l : List ByteArray
def doR (s : SS) (k : Int) (n d : ByteArray) : RR :=
 if s.off = true then ⟨70,⟨#[]⟩,[]⟩ else if 0 < s.f then ⟨72,⟨#[]⟩,[]⟩ else
 if k = 1 then ⟨pcode n d s.L s.q,⟨#[]⟩,[]⟩ else if k = 2 then ⟨dcode n s.L,(thr s.L n).getD ⟨#[]⟩,[]⟩ else
 if k = 3 then ⟨0,⟨#[]⟩,namesL s.L n⟩ else if k = 4 then ⟨dcode n s.L,⟨#[]⟩,[]⟩ else ⟨3,⟨#[]⟩,[]⟩
def doS (s : SS) (k : Int) (n d : ByteArray) : SS :=
 if s.off = true then { s with m:=s.m + 1 } else if 0 < s.f then { s with f:=s.f - 1,m:=s.m + 1 } else
 { s with m:=s.m + 1,L:=if k = 1 then putL n d s.L s.q else if k = 4 then delL s.L n else s.L }
def PX (w : World) (b mb : Nat) (s : SS) : Prop:=PS w b mb s.q s.f s.off s.m s.L

theorem set3 {w : World} {g : Nat} {T : TypeId} {a0 a1 a2 : Value} (h : w.heap[g]? = some (.cells #[a0,a1,a2] T (0,0))) (x y z : Value) :
  (w.cell? ⟨g,0,none⟩ = some a0∧w.frozen? ⟨g,0,none⟩ = false)∧((w.setCell ⟨g,0,none⟩ x).cell? ⟨g,1,none⟩ = some a1∧(w.setCell ⟨g,0,none⟩ x).frozen? ⟨g,1,none⟩ = false) ∧
   (((w.setCell ⟨g,0,none⟩ x).setCell ⟨g,1,none⟩ y).cell? ⟨g,2,none⟩ = some a2∧((w.setCell ⟨g,0,none⟩ x).setCell ⟨g,1,none⟩ y).frozen? ⟨g,2,none⟩ = false) ∧
   (((w.setCell ⟨g,0,none⟩ x).setCell ⟨g,1,none⟩ y).setCell ⟨g,2,none⟩ z).heap[g]? = some (.cells #[x,y,z] T (0,0)):=by
 have h1 : (w.setCell ⟨g,0,none⟩ x).heap[g]? = some (.cells #[x,a1,a2] T (0,0)):=heap_set_self h
 have h2 : ((w.setCell ⟨g,0,none⟩ x).setCell ⟨g,1,none⟩ y).heap[g]? = some (.cells #[x,y,a2] T (0,0)):=heap_set_self h1
 have h3 : (((w.setCell ⟨g,0,none⟩ x).setCell ⟨g,1,none⟩ y).setCell ⟨g,2,none⟩ z).heap[g]? = some (.cells #[x,y,z] T (0,0)):=heap_set_self h2
 exact ⟨⟨by simp [World.cell?,h],by simp [World.frozen?,h]⟩,⟨by simp [World.cell?,h1],by simp [World.frozen?,h1]⟩,⟨by simp [World.cell?,h2],by simp [World.frozen?,h2]⟩,h3⟩
def laid3 (w : World) (g : Nat) (x y z : Value) : World:=((w.setCell ⟨g,0,none⟩ x).setCell ⟨g,1,none⟩ y).setCell ⟨g,2,none⟩ z
theorem laid3_other {w : World} {g i : Nat} (x y z : Value) (h : i ≠ g) : (laid3 w g x y z).heap[i]? = w.heap[i]?:=by
 rw [laid3,Below.heap_setCell _ _ _ _ h,Below.heap_setCell _ _ _ _ h,Below.heap_setCell _ _ _ _ h]
theorem Gs.laid {p : Nat→Prop} {w w1 : World} (h : Gs p w w1) {g : Nat} (hg : w.heap.size ≤ g) (x y z : Value) : Gs p w (laid3 w1 g x y z) :=
 ((h.set (a:=⟨g,0,none⟩) (.inr hg) _).set (a:=⟨g,1,none⟩) (.inr hg) _).set (a:=⟨g,2,none⟩) (.inr hg) _
theorem PS.laid {w : World} {b mb : Nat} {q f : Int} {dn : Bool} {cl : Int} {L : List OB} (h : PS w b mb q f dn cl L) {g : Nat} (hb : b ≠ g) (hm : mb ≠ g) (x y z : Value) : PS (laid3 w g x y z) b mb q f dn cl L :=
 ⟨(laid3_other x y z hb).trans h.blk,((h.map.set (a:=⟨g,0,none⟩) hm _).set (a:=⟨g,1,none⟩) hm _).set (a:=⟨g,2,none⟩) hm _,h.ris,h.small⟩
theorem TS.kb {B : Nat} {v : Value} {l : List ByteArray} {w w' : World} (h : TS B v l w) (hk : ∀ i,v.ownBlock = some i→w'.heap[i]? = w.heap[i]?) : TS B v l w':=by
 refine ⟨h.own.1,?_⟩
 rcases h.own.2 with h2 | ⟨g,cap,cur,e,hB,hg,r⟩
 ·exact .inl h2
 ·refine .inr ⟨g,cap,cur,e,hB,(hk g ?_).trans hg,r⟩
  rw [e]; rfl
def AR (w : World) (B : Nat) (v : Value) (r : RR) : Prop:=∃ u,v = .agg #[.int .i64 r.c,.string r.d,u]∧TS B u r.l w

section
variable {w : World} {b mb : Nat} {s : SS}
theorem do_any (hP : PX w b mb s) (st k : Int) (n d : ByteArray) (hn : n.size ≤ maxLen) (hd : d.size ≤ maxLen) (hl : s.L.length ≤ 1000000) (hm0 : 0 ≤ s.m) (hm1 : s.m ≤ 1000000000000) (hf : s.f ≤ 1048576) :
  Calls Tryz.prog 41 #[.pointer (some ⟨b,0,none⟩),.agg #[.int .i64 st,.int .i64 k,.string n,.string d]] w fun e w' => ∃ v,e = .returned v∧AR w' w.heap.size v (doR s k n d)∧PX w' b mb (doS s k n d)∧Gs (two b mb) w w':=by
 obtain ⟨q,f,m,off,L⟩:=s
 have hP : PS w b mb q f off m L:=hP
 dsimp only at hl hm0 hm1 hf
 obtain ⟨U,hU⟩ : ∃ U,U = (w.alloc (.cells #[.int .i64 st,.int .i64 k,.string n,.string d] 81)).alloc (.cells #[.int .i64 0,.string ⟨#[]⟩,.slice none 0 0] 87):=⟨_,rfl⟩
 have hBU : Below w.heap.size w U:=by rw [hU]; exact ((Below.refl _ _).alloc (Nat.le_refl _) _).alloc (by simp) _
 have hszU : U.heap.size = w.heap.size + 2:=by rw [hU]; simp
 have hq0 : U.heap[w.heap.size]? = some (.cells #[.int .i64 st,.int .i64 k,.string n,.string d] 81 (0,0)):=by
  rw [hU,Below.heap_alloc _ _ _ (by simp)]; exact heap_alloc_new w _
 have hr0 : U.heap[w.heap.size + 1]? = some (.cells #[.int .i64 0,.string ⟨#[]⟩,.slice none 0 0] 87 (0,0)):=by
  have:=heap_alloc_new (w.alloc (.cells #[.int .i64 st,.int .i64 k,.string n,.string d] 81)) (.cells #[.int .i64 0,.string ⟨#[]⟩,.slice none 0 0] 87 (0,0))
  rw [hU]
  simpa using this
 have hPU:=hP.bel hBU
 have HA : Hid _:=hide (add_any hPU hm0 hm1)
 have HBL:=hide hP.lt
 have HMB:=hide hP.mlt
 obtain ⟨V,hV⟩ : ∃ V,V = U.setCell ⟨b,5,none⟩ (.int .i64 (m + 1)):=⟨_,rfl⟩
 have hPV : PS V b mb q f off (m + 1) L:=by rw [hV]; exact hPU.set5 _
 have hGV : Gs (two b mb) w V:=by rw [hV]; exact (Gs.of_below _ hBU).set (.inl (.inl rfl)) _
 have hqV : V.heap[w.heap.size]? = _:=(by rw [hV]; exact Below.heap_setCell _ _ _ _ (by have:=hP.lt; show w.heap.size ≠ b; omega) : V.heap[w.heap.size]? = U.heap[w.heap.size]?).trans hq0
 have hrV : V.heap[w.heap.size + 1]? = _:=(by rw [hV]; exact Below.heap_setCell _ _ _ _ (by have:=hP.lt; show w.heap.size + 1 ≠ b; omega) : V.heap[w.heap.size + 1]? = U.heap[w.heap.size + 1]?).trans hr0
 have hszV : V.heap.size = w.heap.size + 2:=by rw [hV]; simp [World.setCell,hszU]
 rw [← hV] at HA
 have HU:=hide hU
 have y1 : V.cell? ⟨w.heap.size,1,none⟩ = some (.int .i64 k):=by simp [World.cell?,hqV]
 have y2 : V.cell? ⟨w.heap.size,2,none⟩ = some (.string n):=by simp [World.cell?,hqV]
 have y3 : V.cell? ⟨w.heap.size,3,none⟩ = some (.string d):=by simp [World.cell?,hqV]
 have z3:=hPV.cell3
 have z4:=hPV.cell4
 have z5:=hPV.free 3
 have HPV:=hide hPV
 have HGV:=hide hGV
 have HRV:=hide hrV
 have HSV:=hide hszV
 -- the end,whatever was laid
 have HEND : Hid (∀ w1 (C : Int) (D : ByteArray) (v : Value) (l : List ByteArray) (s' : SS),Gs (two b mb) V w1→PS w1 b mb s'.q s'.f s'.off s'.m s'.L→TS (w.heap.size + 2) v l w1→doR ⟨q,f,m,off,L⟩ k n d = ⟨C,D,l⟩→doS ⟨q,f,m,off,L⟩ k n d = s' →
   ((w1.cell? ⟨w.heap.size + 1,0,none⟩ = some (.int .i64 0)∧w1.frozen? ⟨w.heap.size + 1,0,none⟩ = false)∧((w1.setCell ⟨w.heap.size + 1,0,none⟩ (.int .i64 C)).cell? ⟨w.heap.size + 1,1,none⟩ = some (.string ⟨#[]⟩)∧(w1.setCell ⟨w.heap.size + 1,0,none⟩ (.int .i64 C)).frozen? ⟨w.heap.size + 1,1,none⟩ = false) ∧
   (((w1.setCell ⟨w.heap.size + 1,0,none⟩ (.int .i64 C)).setCell ⟨w.heap.size + 1,1,none⟩ (.string D)).cell? ⟨w.heap.size + 1,2,none⟩ = some (.slice none 0 0)∧((w1.setCell ⟨w.heap.size + 1,0,none⟩ (.int .i64 C)).setCell ⟨w.heap.size + 1,1,none⟩ (.string D)).frozen? ⟨w.heap.size + 1,2,none⟩ = false)) ∧
   (((((w1.setCell ⟨w.heap.size + 1,0,none⟩ (.int .i64 C)).setCell ⟨w.heap.size + 1,1,none⟩ (.string D)).setCell ⟨w.heap.size + 1,2,none⟩ v).cell? ⟨w.heap.size + 1,0,none⟩ = some (.int .i64 C)∧(((w1.setCell ⟨w.heap.size + 1,0,none⟩ (.int .i64 C)).setCell ⟨w.heap.size + 1,1,none⟩ (.string D)).setCell ⟨w.heap.size + 1,2,none⟩ v).cell? ⟨w.heap.size + 1,1,none⟩ = some (.string D)∧(((w1.setCell ⟨w.heap.size + 1,0,none⟩ (.int .i64 C)).setCell ⟨w.heap.size + 1,1,none⟩ (.string D)).setCell ⟨w.heap.size + 1,2,none⟩ v).cell? ⟨w.heap.size + 1,2,none⟩ = some v) ∧
   (∃ v',Ending.returned (.agg #[.int .i64 C,.string D,v]) = .returned v'∧AR (laid3 w1 (w.heap.size + 1) (.int .i64 C) (.string D) v) w.heap.size v' (doR ⟨q,f,m,off,L⟩ k n d)∧PX (laid3 w1 (w.heap.size + 1) (.int .i64 C) (.string D) v) b mb (doS ⟨q,f,m,off,L⟩ k n d)∧Gs (two b mb) w (laid3 w1 (w.heap.size + 1) (.int .i64 C) (.string D) v)))):=by
  intro w1 C D v l s' hg hp ht hr hs
  have hlt:=HBL.out
  have hmlt:=HMB.out
  have hr1 : w1.heap[w.heap.size + 1]? = _:=(hg.block _ (by rw [hszV]; omega) (by rintro (e | e) <;> omega)).trans hrV
  obtain ⟨a1,a2,a3,a4⟩:=set3 hr1 (.int .i64 C) (.string D) v
  refine ⟨⟨a1,a2,a3⟩,⟨by simp [World.cell?,a4],by simp [World.cell?,a4],by simp [World.cell?,a4]⟩,_,rfl,?_,?_,?_⟩
  ·rw [hr]
   refine ⟨v,rfl,?_⟩
   have ht' : TS (w.heap.size + 2) v l (laid3 w1 (w.heap.size + 1) (.int .i64 C) (.string D) v):=ht.kb fun i hi => laid3_other _ _ _ (by have:=(ht.lt i hi).1; omega)
   refine ⟨ht'.own.1,?_⟩
   rcases ht'.own.2 with h2 | ⟨g,cap,cur,e,hB,r⟩
   ·exact .inl h2
   ·exact .inr ⟨g,cap,cur,e,by omega,r⟩
  ·rw [hs]
   exact hp.laid (by omega) (by omega) _ _ _
  ·exact (hGV.trans hg).laid (by omega) _ _ _
 clear hP hPU hPV hGV hqV hrV hszV hq0 hr0 hszU hBU hU hV
 go_enter Tryz.func41,Tryz.ntmps41
 go_upto_region 1 with fail
 rw [← HU.out]
 go_wp2_with fail
 refine HA.out.mono ?_
 rintro e w0 ⟨rfl,rfl⟩
 clear HA
 cases off with
 | true =>
  obtain ⟨⟨⟨a1,a2⟩,⟨a3,a4⟩,a5,a6⟩,⟨c0,c1,c2⟩,hE⟩:=HEND.out w0 70 ⟨#[]⟩ (.slice none 0 0) [] ⟨q,f,m + 1,true,L⟩ (Gs.refl _ _) HPV.out (TS.nil _ _) rfl rfl
  have HE:=hide hE
  clear hE HEND
  go_wp2
  exact bodyPost_ret (v:=.agg #[.int .i64 70,.string ⟨#[]⟩,(.slice none 0 0)]) (by simp [results,Tryz.results41,go_sem,c0,c1,c2]) rfl HE.out
 | false =>
  by_cases hf0 : 0 < f
  ·have hw : IntKind.i64.wrap (f - 1) = f - 1:=by simp [IntKind.wrap_i64]; omega
   have HR1 : Hid (doR ⟨q,f,m,false,L⟩ k n d = ⟨72,⟨#[]⟩,[]⟩):=hide (by rw [doR]; simp [hf0])
   have HS1 : Hid (doS ⟨q,f,m,false,L⟩ k n d = ⟨q,f - 1,m + 1,false,L⟩):=hide (by rw [doS]; simp [hf0])
   obtain ⟨⟨⟨a1,a2⟩,⟨a3,a4⟩,a5,a6⟩,⟨c0,c1,c2⟩,hE⟩:=HEND.out (w0.setCell ⟨b,3,none⟩ (.int .i64 (f - 1))) 72 ⟨#[]⟩ (.slice none 0 0) [] ⟨q,f - 1,m + 1,false,L⟩ ((Gs.refl _ _).set (.inl (.inl rfl)) _) (HPV.out.set3 _) (TS.nil _ _) HR1.out HS1.out
   have HE:=hide hE
   clear hE HEND
   go_wp2
   exact bodyPost_ret (v:=.agg #[.int .i64 72,.string ⟨#[]⟩,(.slice none 0 0)]) (by simp [results,Tryz.results41,go_sem,c0,c1,c2]) rfl HE.out
  have HFZ:=hide hf0
  have hf1 : ¬ 0 < f:=hf0
  by_cases hk1 : k = 1
  ·subst hk1
   have HR1 : Hid (doR ⟨q,f,m,false,L⟩ 1 n d = ⟨pcode n d L q,⟨#[]⟩,[]⟩):=hide (by rw [doR]; simp [hf1])
   have HS1 : Hid (doS ⟨q,f,m,false,L⟩ 1 n d = ⟨q,f,m + 1,false,putL n d L q⟩):=hide (by rw [doS]; simp [hf1])
   have HC : Hid _:=hide (put_any HPV.out n d hn hd hl)
   go_wp2_with fail
   refine HC.out.mono ?_
   rintro e w1 ⟨rfl,hp1,hg1⟩
   generalize pcode n d L q = C at *
   obtain ⟨⟨⟨a1,a2⟩,⟨a3,a4⟩,a5,a6⟩,⟨c0,c1,c2⟩,hE⟩:=HEND.out w1 C ⟨#[]⟩ (.slice none 0 0) [] ⟨q,f,m + 1,false,putL n d L q⟩ hg1 hp1 (TS.nil _ _) HR1.out HS1.out
   have HE:=hide hE
   clear hE HEND
   go_wp2
   exact bodyPost_ret (v:=.agg #[.int .i64 C,.string ⟨#[]⟩,(.slice none 0 0)]) (by simp [results,Tryz.results41,go_sem,c0,c1,c2]) rfl HE.out
  by_cases hk2 : k = 2
  ·subst hk2
   have HR1 : Hid (doR ⟨q,f,m,false,L⟩ 2 n d = ⟨dcode n L,(thr L n).getD ⟨#[]⟩,[]⟩):=hide (by rw [doR]; simp [hf1])
   have HS1 : Hid (doS ⟨q,f,m,false,L⟩ 2 n d = ⟨q,f,m + 1,false,L⟩):=hide (by rw [doS]; simp [hf1])
   have HC : Hid _:=hide (get_any HPV.out n hn)
   go_wp2_with fail
   refine HC.out.mono ?_
   rintro e w1 ⟨rfl,hb1⟩
   generalize dcode n L = C at *
   generalize (thr L n).getD ⟨#[]⟩ = D at *
   obtain ⟨⟨⟨a1,a2⟩,⟨a3,a4⟩,a5,a6⟩,⟨c0,c1,c2⟩,hE⟩:=HEND.out w1 C D (.slice none 0 0) [] ⟨q,f,m + 1,false,L⟩ (Gs.of_below _ hb1) (HPV.out.bel hb1) (TS.nil _ _) HR1.out HS1.out
   have HE:=hide hE
   clear hE HEND
   go_wp2
   exact bodyPost_ret (v:=.agg #[.int .i64 C,.string D,(.slice none 0 0)]) (by simp [results,Tryz.results41,go_sem,c0,c1,c2]) rfl HE.out
  by_cases hk3 : k = 3
  ·subst hk3
   have HR1 : Hid (doR ⟨q,f,m,false,L⟩ 3 n d = ⟨0,⟨#[]⟩,namesL L n⟩):=hide (by rw [doR]; simp [hf1])
   have HS1 : Hid (doS ⟨q,f,m,false,L⟩ 3 n d = ⟨q,f,m + 1,false,L⟩):=hide (by rw [doS]; simp [hf1])
   have HC : Hid _:=hide (begunBy_any HPV.out n hl)
   go_wp2_with fail
   refine HC.out.mono ?_
   rintro e w1 ⟨v,rfl,hT,hb1⟩
   have hT' : TS (w.heap.size + 2) v (namesL L n) w1:=by rw [← HSV.out]; exact hT
   obtain ⟨va,vc,rfl⟩:=hT.shp
   generalize hvl : (namesL L n).length = vl at *
   clear hvl hT
   obtain ⟨⟨⟨a1,a2⟩,⟨a3,a4⟩,a5,a6⟩,⟨c0,c1,c2⟩,hE⟩:=HEND.out w1 0 ⟨#[]⟩ (.slice va vl vc) (namesL L n) ⟨q,f,m + 1,false,L⟩ (Gs.of_below _ hb1) (HPV.out.bel hb1) hT' HR1.out HS1.out
   have HE:=hide hE
   clear hE HEND
   go_wp2
   exact bodyPost_ret (v:=.agg #[.int .i64 0,.string ⟨#[]⟩,.slice va vl vc]) (by simp [results,Tryz.results41,go_sem,c0,c1,c2]) rfl HE.out
  by_cases hk4 : k = 4
  ·subst hk4
   have HR1 : Hid (doR ⟨q,f,m,false,L⟩ 4 n d = ⟨dcode n L,⟨#[]⟩,[]⟩):=hide (by rw [doR]; simp [hf1])
   have HS1 : Hid (doS ⟨q,f,m,false,L⟩ 4 n d = ⟨q,f,m + 1,false,delL L n⟩):=hide (by rw [doS]; simp [hf1])
   have HC : Hid _:=hide (del_any HPV.out n hn hl)
   go_wp2_with fail
   refine HC.out.mono ?_
   rintro e w1 ⟨rfl,hp1,hg1⟩
   generalize dcode n L = C at *
   obtain ⟨⟨⟨a1,a2⟩,⟨a3,a4⟩,a5,a6⟩,⟨c0,c1,c2⟩,hE⟩:=HEND.out w1 C ⟨#[]⟩ (.slice none 0 0) [] ⟨q,f,m + 1,false,delL L n⟩ hg1 hp1 (TS.nil _ _) HR1.out HS1.out
   have HE:=hide hE
   clear hE HEND
   go_wp2
   exact bodyPost_ret (v:=.agg #[.int .i64 C,.string ⟨#[]⟩,(.slice none 0 0)]) (by simp [results,Tryz.results41,go_sem,c0,c1,c2]) rfl HE.out
  ·have HR1 : Hid (doR ⟨q,f,m,false,L⟩ k n d = ⟨3,⟨#[]⟩,[]⟩):=hide (by rw [doR]; simp [hf1,hk1,hk2,hk3,hk4])
   have HS1 : Hid (doS ⟨q,f,m,false,L⟩ k n d = ⟨q,f,m + 1,false,L⟩):=hide (by rw [doS]; simp [hf1,hk1,hk4])
   obtain ⟨⟨⟨a1,a2⟩,⟨a3,a4⟩,a5,a6⟩,⟨c0,c1,c2⟩,hE⟩:=HEND.out w0 3 ⟨#[]⟩ (.slice none 0 0) [] ⟨q,f,m + 1,false,L⟩ (Gs.refl _ _) HPV.out (TS.nil _ _) HR1.out HS1.out
   have HE:=hide hE
   clear hE HEND
   go_wp2
   exact bodyPost_ret (v:=.agg #[.int .i64 3,.string ⟨#[]⟩,(.slice none 0 0)]) (by simp [results,Tryz.results41,go_sem,c0,c1,c2]) rfl HE.out
end
end Go.Proofs.YtagijldedngcoaaGreatDoor

namespace Go.Proofs.YtagijldedngcoaaGreatDoor
open Go.RowKit Go.Lib Go.Maps

section
variable {w w' : World} {v : Value} {l : List ByteArray} {B : Nat}
end

theorem AR.shp {w : World} {B : Nat} {v : Value} {r : RR} (h : AR w B v r) : ∃ a c,v = .agg #[.int .i64 r.c,.string r.d,.slice a r.l.length c]∧TS B (.slice a r.l.length c) r.l w:=by
 obtain ⟨u,rfl,hT⟩:=h
 obtain ⟨a,c,rfl⟩:=hT.shp
 exact ⟨a,c,rfl,hT⟩
end Go.Proofs.YtagijldedngcoaaGreatDoor

namespace Go.Proofs.YtagijldedngcoaaGreatDoor
open Go.RowKit Go.Lib Go.Maps

section
variable {w : World} {b mb : Nat} {q f : Int} {dn : Bool} {cl : Int} {L : List OB}
end
section
variable {W w w' : World} {b mb : Nat} {s s' : SS}
end
end Go.Proofs.YtagijldedngcoaaGreatDoor

namespace Go.Proofs.YtagijldedngcoaaGreatDoor
open Go.RowKit Go.Lib

end Go.Proofs.YtagijldedngcoaaGreatDoor

namespace Go.Proofs.YtagijldedngcoaaGreatDoor
open Go.RowKit Go.Lib Go.Maps

def setL (n d : ByteArray) (L : List OB) : List OB:=if fcode n d = 0 then layL L n d else L
theorem fcode_zero {n d : ByteArray} (h : fcode n d = 0) : mayB n = true∧d.size ≤ 131072:=by
 unfold fcode at h
 split at h
 ·split at h
  ·constructor <;> assumption
  ·omega
 ·omega
section
variable {w : World} {b mb : Nat} {q f : Int} {dn : Bool} {cl : Int} {L : List OB}

theorem set_any (hP : PS w b mb q f dn cl L) (n d : ByteArray) (hn : n.size ≤ maxLen) (hd : d.size ≤ maxLen) (hl : L.length ≤ 1000000) :
  Calls Tryz.prog 36 #[.pointer (some ⟨b,0,none⟩),.string n,.string d] w fun e w' => e = .returned (.int .i64 (fcode n d))∧PS w' b mb q f dn cl (setL n d L)∧Gs (two b mb) w w':=by
 have HFA : Hid _:=hide (fault_any n d w hn hd)
 have HP:=hide hP
 have HML : Hid (setL n d L = if fcode n d = 0 then layL L n d else L):=rfl
 obtain ⟨M,hM⟩ : ∃ M,M = setL n d L:=⟨_,rfl⟩
 rw [← hM]
 have HM:=hide hM
 by_cases h0 : fcode n d = 0
 ·obtain ⟨h1,h2⟩:=fcode_zero h0
  have HLY : Hid _:=hide (lay_any hP n d (mayB_size h1) h2 hl)
  have hMe : M = layL L n d:=by rw [HM.out,HML.out,if_pos h0]
  have HME:=hide hMe
  rw [h0] at HFA ⊢
  clear hP hM hMe
  go_enter Tryz.func36,Tryz.ntmps36
  go_wp2_with fail
  refine HFA.out.mono ?_
  rintro e w0 ⟨rfl,rfl⟩
  go_wp2_with fail
  refine HLY.out.mono ?_
  rintro e w1 ⟨rfl,hp,hg⟩
  have HF:=hide (And.intro hp hg)
  clear hp hg
  go_wp2
  go_ret
  exact ⟨rfl,by rw [HME.out]; exact HF.out.1,HF.out.2⟩
 ·have hMe : M = L:=by rw [HM.out,HML.out,if_neg h0]
  subst hMe
  generalize fcode n d = C at *
  clear hP hM HML HM
  go_enter Tryz.func36,Tryz.ntmps36
  go_wp2_with fail
  refine HFA.out.mono ?_
  rintro e w0 ⟨rfl,rfl⟩
  go_wp2
  go_ret
  exact ⟨rfl,HP.out,Gs.refl _ _⟩

end
end Go.Proofs.YtagijldedngcoaaGreatDoor

namespace Go.Proofs.YtagijldedngcoaaGreatDoor
open Go.RowKit Go.Lib

section
variable {w : World} {b : Nat} {q f m : Int} {off : Bool} {v : Value} {L : List OB}
end
end Go.Proofs.YtagijldedngcoaaGreatDoor

namespace Go.Proofs.YtagijldedngcoaaGreatDoor
open Go.RowKit Go.Lib

section
variable {w : World} {b : Nat} {q f m : Int} {off : Bool} {v : Value} {L : List OB}
end
end Go.Proofs.YtagijldedngcoaaGreatDoor

namespace Go.Proofs.YtagijldedngcoaaGreatDoor
open Go.RowKit Go.Lib

section
variable {w : World} {b : Nat} {q f m : Int} {off : Bool} {v : Value} {L : List OB}
end

section
variable {w : World} {b : Nat} {s : SS}
end
end Go.Proofs.YtagijldedngcoaaGreatDoor

namespace Go.Proofs.YtagijldedngcoaaGreatDoor
open Go.RowKit Go.Lib

def amg (x : Int) (n : Nat) : Nat:=((x.tmod n + n).tmod n).toNat
theorem amg_spec (x : Int) (n : Nat) (hn : 0 < n) : (x.tmod n + n).tmod n = (amg x n : Int)∧amg x n < n∧0 ≤ x.tmod n + n∧x.tmod n + n < 2 * n:=by
 have hp : (0 : Int) < n:=by omega
 have h2 : -(n : Int) < x.tmod n∧x.tmod n < n:=by
  rcases Int.le_total 0 x with h | h
  ·have a:=Int.tmod_nonneg (n : Int) h
   have b:=Int.tmod_lt_of_pos x hp
   omega
  ·have a:=Int.tmod_nonneg (n : Int) (show 0 ≤ -x by omega)
   have b:=Int.tmod_lt_of_pos (-x) hp
   rw [Int.neg_tmod] at a b
   omega
 have h3 : 0 ≤ x.tmod n + n:=by omega
 have h4 : 0 ≤ (x.tmod n + n).tmod n:=Int.tmod_nonneg _ h3
 have h5:=Int.tmod_lt_of_pos (x.tmod n + n) (show (0 : Int) < n by omega)
 refine ⟨by rw [amg]; omega,by rw [amg]; omega,h3,by omega⟩
theorem among_any (w : World) (x : Int) (n : Nat) (hn : 0 < n) (hn2 : n < 100000) : Calls Tryz.prog 9 #[.int .i64 x,.int .i64 n] w fun e w' => e = .returned (.int .i64 ((amg x n : Nat) : Int))∧w' = w:=by
 obtain ⟨h1,h2,h3,h4⟩:=amg_spec x n hn
 have hb:=IntKind.i64.wrap
 generalize amg x n = r at *
 have h0 : ((n : Int) == 0) = false:=by simp; omega
 have h0' : ¬ ((n : Int) = 0):=by omega
 have hm1 : ¬ ((n : Int) = -1):=by omega
 obtain ⟨y,hy⟩ : ∃ y,y = x.tmod n:=⟨_,rfl⟩
 rw [← hy] at h1 h3 h4
 have hy':=hy.symm
 clear hy hb
 go_enter Tryz.func9,Tryz.ntmps9
 go_wp2
 go_ret
 exact ⟨rfl,rfl⟩
end Go.Proofs.YtagijldedngcoaaGreatDoor

namespace Go.Proofs.YtagijldedngcoaaGreatDoor
open Go.RowKit Go.Lib Go.Maps

section
variable {w : World} {b mb : Nat} {q f : Int} {dn : Bool} {cl : Int} {L : List OB}
end
end Go.Proofs.YtagijldedngcoaaGreatDoor

namespace Go.Proofs.YtagijldedngcoaaGreatDoor
open Go.RowKit Go.Lib

/-! ### both stores,side by side -/
section
variable {w w' : World} {b mb rb : Nat} {s s' : SS}
theorem PX.bel (h : PX w b mb s) (hb : Below w.heap.size w w') : PX w' b mb s:=PS.bel h hb
end
end Go.Proofs.YtagijldedngcoaaGreatDoor

namespace Go.Proofs.YtagijldedngcoaaGreatDoor
open Go.RowKit Go.Lib Go.Maps

section
variable {B : Nat} {v vs : Value} {l m : List ByteArray} {w w' : World}
end

theorem TS.low {B B' : Nat} {v : Value} {l : List ByteArray} {w : World} (h : TS B v l w) (hB : B' ≤ B) : TS B' v l w:=by
 refine ⟨h.own.1,?_⟩
 rcases h.own.2 with h2 | ⟨g,cap,cur,e,hg,r⟩
 ·exact .inl h2
 ·exact .inr ⟨g,cap,cur,e,Nat.le_trans hB hg,r⟩

def RP (w : World) (v : Value) (bs : List Nat) : Prop :=
 ∃ a c,v = .slice a bs.length c∧(bs = [] ∨ ∃ g o,a = some ⟨g,o,none⟩∧g < w.heap.size∧∀ i b,bs[i]? = some b→w.cell? ⟨g,o + i,none⟩ = some (.pointer (some ⟨b,0,none⟩)))
end Go.Proofs.YtagijldedngcoaaGreatDoor

namespace Go.Proofs.YtagijldedngcoaaGreatDoor
open Go.RowKit Go.Lib Go.Maps

structure QR (w : World) (X : Nat) (st k : Int) (n d : ByteArray) : Prop where
 q : w.heap[X]? = some (.cells #[.int .i64 st,.int .i64 k,.string n,.string d] 81 (0,0))
 r : w.heap[X + 1]? = some (.cells #[.int .i64 0,.string ⟨#[]⟩,.slice none 0 0] 87 (0,0))
section
variable {w w1 : World} {v : Value} {bs : List Nat} {i b X : Nat} {s s' : SS} {st k C : Int} {n d D : ByteArray} {l : List ByteArray} {p : Nat→Prop}
theorem QR.gs (h : QR w X st k n d) (hg : Gs p w w1) (h1 : ¬ p X) (h2 : ¬ p (X + 1)) : QR w1 X st k n d:=⟨(hg.block _ (lt_of_block h.q) h1).trans h.q,(hg.block _ (lt_of_block h.r) h2).trans h.r⟩
theorem QR.c0 (h : QR w X st k n d) : w.cell? ⟨X,0,none⟩ = some (.int .i64 st):=by simp [World.cell?,h.q]
theorem QR.c1 (h : QR w X st k n d) : w.cell? ⟨X,1,none⟩ = some (.int .i64 k):=by simp [World.cell?,h.q]
theorem QR.c2 (h : QR w X st k n d) : w.cell? ⟨X,2,none⟩ = some (.string n):=by simp [World.cell?,h.q]
theorem QR.c3 (h : QR w X st k n d) : w.cell? ⟨X,3,none⟩ = some (.string d):=by simp [World.cell?,h.q]
theorem QR.new (w : World) (st k : Int) (n d : ByteArray) : QR ((w.alloc (.cells #[.int .i64 st,.int .i64 k,.string n,.string d] 81)).alloc (.cells #[.int .i64 0,.string ⟨#[]⟩,.slice none 0 0] 87)) w.heap.size st k n d:=by
 refine ⟨by rw [Below.heap_alloc _ _ _ (by simp)]; exact heap_alloc_new w _,?_⟩
 have:=heap_alloc_new (w.alloc (.cells #[.int .i64 st,.int .i64 k,.string n,.string d] 81)) (.cells #[.int .i64 0,.string ⟨#[]⟩,.slice none 0 0] 87 (0,0))
 simpa using this

theorem laid3_cell {g g' j : Nat} (hg : g ≠ g') (x y z : Value) : (laid3 w g' x y z).cell? ⟨g,j,none⟩ = w.cell? ⟨g,j,none⟩:=by
 simp only [World.cell?,laid3_other x y z hg]

end
end Go.Proofs.YtagijldedngcoaaGreatDoor

namespace Go.Proofs.YtagijldedngcoaaGreatDoor
open Go.RowKit Go.Lib

section
variable {α : Type} {f : α→List Value} {k : Nat}
theorem flat_len (hk : ∀ x,(f x).length = k) : ∀ l : List α,(l.flatMap f).length = l.length * k
 | [] => by simp
 | x :: r => by rw [List.flatMap_cons,List.length_append,hk,flat_len hk r,List.length_cons,Nat.add_mul,Nat.one_mul,Nat.add_comm]
theorem flat_get (hk : ∀ x,(f x).length = k) : ∀ (l : List α) (i j : Nat),j < k→(l.flatMap f)[i * k + j]? = l[i]?.bind fun x => (f x)[j]?
 | [],i,j,_ => by simp
 | x :: r,0,j,hj => by
  rw [List.flatMap_cons,List.getElem?_append_left (by rw [hk]; omega)]
  simp
 | x :: r,i + 1,j,hj => by
  rw [List.flatMap_cons,List.getElem?_append_right (by rw [hk,Nat.add_mul,Nat.one_mul]; omega),hk,show (i + 1) * k + j - k = i * k + j from by rw [Nat.add_mul,Nat.one_mul]; omega,flat_get hk r i j hj]
  rfl
def GS (f : α→List Value) (k : Nat) (w : World) (g o : Nat) (l : List α) : Prop:=∀ i x,l[i]? = some x→∀ j u,(f x)[j]? = some u→w.cell? ⟨g,o + i * k + j,none⟩ = some u
structure OW (f : α→List Value) (k : Nat) (T : TypeId) (B : Nat) (v : Value) (l : List α) (w : World) : Prop where
 own : w.ownsRow B T k v l.length (l.flatMap f)
def LS (f : α→List Value) (k : Nat) (r : Nat→Prop) (w : World) (v : Value) (l : List α) : Prop :=
 ∃ a c,v = .slice a l.length c∧(a = none→c = 0)∧(l = [] ∨ ∃ g o,a = some ⟨g,o,none⟩∧r g∧g < w.heap.size∧GS f k w g o l)
variable {T : TypeId} {B g o : Nat} {v : Value} {l m : List α} {w w' : World} {r r' p : Nat→Prop}
theorem GS.block (h : GS f k w g o l) (hb : w'.heap[g]? = w.heap[g]?) : GS f k w' g o l:=fun i x hx j u hu => by
 have:=h i x hx j u hu
 simp only [World.cell?,hb] at this ⊢
 exact this
theorem GS.cells (hk : ∀ x,(f x).length = k) (h0 : 0 < k) (h : GS f k w g o l) : ∀ j u,(l.flatMap f)[j]? = some u→w.cell? ((⟨g,o,none⟩ : Addr).add j) = some u:=fun j u hu => by
 have e : j = j / k * k + j % k:=by rw [Nat.mul_comm]; exact (Nat.div_add_mod j k).symm
 rw [e,flat_get hk _ _ _ (Nat.mod_lt _ h0)] at hu
 obtain ⟨x,hx,hu⟩:=Option.bind_eq_some_iff.1 hu
 have:=h _ x hx _ u hu
 rw [Addr.add_mid,e,← Nat.add_assoc]
 exact this
theorem OW.nil (f : α→List Value) (k : Nat) (T : TypeId) (B : Nat) (w : World) : OW f k T B (.slice none 0 0) [] w:=⟨World.ownsRow_nil w B T k⟩
theorem OW.empty (f : α→List Value) (k : Nat) (T : TypeId) (hB : B ≤ w.heap.size) : OW f k T B (.slice (some ⟨w.heap.size,0,none⟩) 0 0) [] (w.alloc (.cells #[] T)) :=
 ⟨by simp,.inr ⟨_,0,#[],rfl,hB,heap_alloc_new w _,Nat.le_refl _,by unfold maxLen; omega,by simp,by simp⟩⟩
theorem OW.shp (h : OW f k T B v l w) : ∃ a c,v = .slice a l.length c:=by
 obtain ⟨h1,⟨rfl,h2⟩ | ⟨g,cap,cur,rfl,_⟩⟩:=h.own
 ·rw [h2]; exact ⟨_,_,rfl⟩
 ·exact ⟨_,_,rfl⟩
theorem OW.kb (h : OW f k T B v l w) (hk : ∀ i,v.ownBlock = some i→w'.heap[i]? = w.heap[i]?) : OW f k T B v l w':=by
 refine ⟨h.own.1,?_⟩
 rcases h.own.2 with h2 | ⟨g,cap,cur,e,hB,hg,r⟩
 ·exact .inl h2
 ·exact .inr ⟨g,cap,cur,e,hB,(hk g (by rw [e]; rfl)).trans hg,r⟩
theorem OW.lt (h : OW f k T B v l w) (b : Nat) (hb : v.ownBlock = some b) : B ≤ b∧b < w.heap.size:=by
 obtain ⟨h1,⟨rfl,h2⟩ | ⟨g,cap,cur,rfl,hB,hg,_⟩⟩:=h.own
 ·simp [Value.ownBlock] at hb
 ·simp only [Value.ownBlock,Option.some.injEq] at hb
  subst hb
  exact ⟨hB,lt_of_block hg⟩
theorem OW.typ (h : OW f k T B v l w) (b : Nat) (hb : v.ownBlock = some b) : ∃ cs,w.heap[b]? = some (.cells cs T (0,0)):=by
 obtain ⟨h1,⟨rfl,h2⟩ | ⟨g,cap,cur,rfl,hB,hg,_⟩⟩:=h.own
 ·simp [Value.ownBlock] at hb
 ·simp only [Value.ownBlock,Option.some.injEq] at hb
  subst hb
  exact ⟨_,hg⟩
theorem OW.keep (h : OW f k T B v l w) (hb : Below w.heap.size w w') : OW f k T B v l w':=h.kb fun i hi => hb.block i (h.lt i hi).2
theorem OW.low {B' : Nat} (h : OW f k T B v l w) (hB : B' ≤ B) : OW f k T B' v l w:=by
 refine ⟨h.own.1,?_⟩
 rcases h.own.2 with h2 | ⟨g,cap,cur,e,hg,r⟩
 ·exact .inl h2
 ·exact .inr ⟨g,cap,cur,e,Nat.le_trans hB hg,r⟩
theorem OW.ls (hk : ∀ x,(f x).length = k) (h : OW f k T B v l w) (hr : ∀ i,v.ownBlock = some i→r i) : LS f k r w v l:=by
 obtain ⟨h1,⟨rfl,h2⟩ | ⟨g,cap,cur,rfl,hB,hg,hn,_,hs,ht⟩⟩:=h.own
 ·rw [List.length_eq_zero_iff.1 h2]
  exact ⟨none,0,rfl,fun _ => rfl,.inl rfl⟩
 ·refine ⟨_,_,rfl,(fun e => by cases e),.inr ⟨g,0,rfl,hr g rfl,lt_of_block hg,fun i x hx j u hu => ?_⟩⟩
  have hj : j < k:=by rw [← hk x]; exact (List.getElem?_eq_some_iff.1 hu).1
  have hl : i < l.length:=(List.getElem?_eq_some_iff.1 hx).1
  have e0 : (l.flatMap f)[i * k + j]? = some u:=by rw [flat_get hk l i j hj,hx]; exact hu
  have hlt : i * k + j < l.length * k:=by
   have:=Nat.mul_le_mul_right k (show i + 1 ≤ l.length from hl)
   rw [Nat.add_mul,Nat.one_mul] at this
   omega
  rw [← ht,List.getElem?_take,if_pos hlt] at e0
  rw [Nat.zero_add,cell_of_row w g _ _ _ _ hg]
  simpa using e0
theorem LS.shp (h : LS f k r w v l) : ∃ a c,v = .slice a l.length c:=by obtain ⟨a,c,e,_⟩:=h; exact ⟨a,c,e⟩
theorem LS.kb (h : LS f k r w v l) (hs : w.heap.size ≤ w'.heap.size) (hb : ∀ i,r i→i < w.heap.size→w'.heap[i]? = w.heap[i]?) : LS f k r w' v l:=by
 obtain ⟨a,c,e,h1,h2 | ⟨g,o,ea,hr,hg,hG⟩⟩:=h
 ·exact ⟨a,c,e,h1,.inl h2⟩
 ·exact ⟨a,c,e,h1,.inr ⟨g,o,ea,hr,Nat.lt_of_lt_of_le hg hs,hG.block (hb g hr hg)⟩⟩
theorem LS.bel (h : LS f k r w v l) (hb : Below w.heap.size w w') : LS f k r w' v l:=h.kb hb.size fun i _ hi => hb.block i hi
theorem LS.gs (h : LS f k r w v l) (hg : Gs p w w') (hp : ∀ i,r i→¬ p i) : LS f k r w' v l:=h.kb hg.size fun i hr hi => hg.block i hi (hp i hr)
theorem LS.mono (h : LS f k r w v l) (hr : ∀ i,r i→r' i) : LS f k r' w v l:=by
 obtain ⟨a,c,e,h1,h2 | ⟨g,o,ea,h3,h4⟩⟩:=h
 ·exact ⟨a,c,e,h1,.inl h2⟩
 ·exact ⟨a,c,e,h1,.inr ⟨g,o,ea,hr g h3,h4⟩⟩
theorem LS.old (h : LS f k r w v l) : LS f k (fun i => r i∧i < w.heap.size) w v l:=by
 obtain ⟨a,c,e,h1,h2 | ⟨g,o,ea,h3,h4,h5⟩⟩:=h
 ·exact ⟨a,c,e,h1,.inl h2⟩
 ·exact ⟨a,c,e,h1,.inr ⟨g,o,ea,⟨h3,h4⟩,h4,h5⟩⟩
theorem OW.app {ST : TypeId} {z : Value} {by_ : Nat} (hk : ∀ x,(f x).length = k) (h0 : 0 < k) (h1 : ∀ x ∈ m,∀ u ∈ f x,u.oneCell' = true) (hu : Tryz.prog.underlying ST = some (.slice T)) (hinf : (Tryz.prog.info? T).map (fun i => (i.zero,i.size,i.bytes)) = some (some z,k,by_)) (hz : z.cells.size = k)
  (h : OW f k T B v l w) {vs : Value} (hS : LS f k r w vs m) (hb : (l.length + m.length) * by_ ≤ 140737488355328) (hm : l.length + m.length ≤ 9223372036854775807) (hB : B ≤ w.heap.size) :
  ∃ v' w',(Builtin.append_ #[ST,ST] ST #[v,vs]).run Tryz.prog w = .ok v' w'∧OW f k T B v' (l ++ m) w'∧w.grownBy w' v.ownBlock∧(v'.ownBlock = v.ownBlock ∨ v'.ownBlock = some w.heap.size):=by
 obtain ⟨i0,hi,hz0,hz1,hz2⟩:=info_parts hinf
 obtain ⟨a,c,rfl,hc,hC⟩:=hS
 rcases a with _ | a
 ·have hc:=hc rfl
  subst hc
  have hm0 : m = []:=by
   rcases hC with h | ⟨_,_,h,_⟩
   ·exact h
   ·cases h
  subst hm0
  exact ⟨v,w,run_append_owned_none (P:=Tryz.prog) (w:=w) B _ _ _ i0 k hu hi v l.length (l.flatMap f) h.own,by rw [List.append_nil]; exact h,World.grownBy.refl _ _,.inl rfl⟩
 ·obtain ⟨v',w',h1,h2,h3,_,h5⟩:=run_append_own_at (P:=Tryz.prog) w B ST ST T i0 z k by_ hu hi hz0 hz1 hz2 hz h0 v l.length (l.flatMap f) h.own a m.length c (m.flatMap f) (flat_len hk m) (fun j u hj => by
   rcases hC with rfl | ⟨g,o,ea,_,_,hG⟩
   ·simp at hj
   ·cases ea
    exact hG.cells hk h0 j u hj) (fun u hu => by obtain ⟨x,hm,hx⟩:=List.mem_flatMap.1 hu; exact h1 x hm u hx) (by unfold maxLen; omega) hb hB
  exact ⟨v',w',h1,⟨by rw [List.length_append,List.flatMap_append]; exact h2⟩,h3,h5⟩
theorem LS.one (x : α) (T : TypeId) (w : World) (f : α→List Value) (k : Nat) (r : Nat→Prop) (hr : r w.heap.size) : LS f k r (w.alloc (.cells (f x).toArray T)) (.slice (some ⟨w.heap.size,0,none⟩) 1 1) [x]:=by
 refine ⟨_,_,rfl,(fun e => by cases e),.inr ⟨_,0,rfl,hr,by simp,fun i y hy j u hu => ?_⟩⟩
 have hi : i = 0:=by
  have:=(List.getElem?_eq_some_iff.1 hy).1
  simp at this
  exact this
 subst hi
 simp at hy
 subst hy
 rw [Nat.zero_mul,Nat.zero_add,cell_of_row _ _ _ _ _ _ (heap_alloc_new w _)]
 simpa using hu
end
end Go.Proofs.YtagijldedngcoaaGreatDoor

/-
  Contracts of the program and of the statements (part 22 of 28).
-/
import Derived.Test.YtagijldedngcoaaGreatDoorOl21
import Derived.Test.YtagijldedngcoaaGreatDoorOl11
import Derived.Test.YtagijldedngcoaaGreatDoorOl20
import Derived.BigQuiet
set_option maxRecDepth 100000
set_option maxHeartbeats 3200000

namespace Go.Proofs.YtagijldedngcoaaGreatDoor
open Go.RowKit Go.Lib
theorem gth_size {K : Nat} {f : List Zq.SX} {d : ByteArray} (h : gth K f = some d) : d.size ≤ 65536:=by
 have : ∀ m t,gthN K f m t = some d→d.size ≤ 65536:=by
  intro m
  induction m with
  | zero => intro t h; rw [gthN] at h; cases h
  | succ m ih =>
   intro t h
   rw [gthN] at h
   cases hi : ith K f.length t with
   | none => rw [hi] at h; cases h
   | some c =>
    rw [hi] at h
    cases hg : gaV (pick f c) with
    | none => simp only [hg] at h; exact ih _ h
    | some d' =>
     simp only [hg] at h
     cases h
     rw [gaV] at hg
     split at hg
     ·cases hg; exact Zq.gJS_size
     ·cases hg
 exact this _ _ h
structure FVok (K M : Nat) (v : FV) : Prop where
 d : v.d.size ≤ 65536
 h : ∀ x ∈ v.had,Zq.okS x∧x.k = K∧x.m = M
 l : v.had.length ≤ 255
theorem fndL_ok {K M : Nat} {want : ByteArray} {L : List Zq.SX} (hL : ∀ y ∈ L,Zq.okS y∧y.k = K∧y.m = M) (hl : L.length ≤ 255) {d : ByteArray} {f : List Zq.SX} : ∀ {all : List (List Zq.SX)},(∀ g ∈ all,g.length ≤ L.length∧∀ y ∈ g,y ∈ L)→fndL K want all = some (d,f)→FVok K M ⟨d,f,0⟩
 | [],_,h => by rw [fndL] at h; cases h
 | g :: r,ha,h => by
  rw [fndL] at h
  split at h
  ·exact fndL_ok hL hl (fun g' hg => ha g' (by simp [hg])) h
  ·cases hg : gth K g with
   | none => simp only [hg] at h; exact fndL_ok hL hl (fun g' hg => ha g' (by simp [hg])) h
   | some d' =>
    simp only [hg] at h
    cases h
    have:=ha f (by simp)
    exact ⟨gth_size hg,fun x hx => hL x (this.2 x hx),by show f.length ≤ 255; omega⟩
theorem fnd_ok (K M : Nat) (want : ByteArray) (A : List RR) (hA : A.length ≤ 255) : FVok K M (fnd K M want A):=by
 have h1:=gdL_len K M A
 rw [fnd]
 cases h : fndL K want (famL (gdL K M A)) with
 | none => exact ⟨Nat.zero_le _,fun x hx => by simp at hx,by simp⟩
 | some z =>
  obtain ⟨d,f⟩:=z
  exact fndL_ok (fun y hy => gdL_ok hy) (by omega) (famL_bd _ _ rfl).2 h
section
variable {F : FuncId} {fi ca : Array Value} {W : World} {K M y1 y2 y3 : Nat} {r p : Nat→Prop} {av : Value} {X : List (RR × Value)} {want : ByteArray} {Q : World→Prop}
theorem find1_any (hent : Ent F) (h1 : W.heap[y1]? = some (.cells #[.int .i64 (K : Int),.int .i64 (M : Int)] 27 (0,0))) (h2 : W.heap[y2]? = some (.cells #[.string want] 9 (0,0))) (h3 : W.heap[y3]? = some (.cells #[.func (.func F) fi ca] 190 (0,0)))
  (hL : LS x3 3 r W av X) (hS : ∀ x ∈ X,∃ a n c,x.2 = .slice a n c) (hd : ∀ x ∈ X,x.1.d.size ≤ 1000000) (hn : X.length ≤ 255) (hLw : Zq.Sh.Laid W) (hK : 1 ≤ K) (hKM : K + M ≤ 255)
  (HC : ∀ W1 hv,Below W.heap.size W W1→LS Zq.six 6 (fun i => W.heap.size ≤ i∧i < W1.heap.size) W1 hv (fnd K M want (X.map (·.1))).had→Calls Tryz.prog F (fi ++ (#[.string (fnd K M want (X.map (·.1))).d,hv,.int .i64 (fnd K M want (X.map (·.1))).e] ++ ca)) W1 fun e w' => e = .returned (.tuple #[])∧Gs p W1 w'∧Q w') :
  Calls Tryz.prog 153 #[av,.pointer (some ⟨y1,0,none⟩),.pointer (some ⟨y2,0,none⟩),.pointer (some ⟨y3,0,none⟩)] W fun e w' => e = .returned (.tuple #[])∧Gs p W w'∧Q w':=by
 have HB : Hid (∀ {wr : World},Below W.heap.size W wr→wr.cell? ⟨y1,0,none⟩ = some (.int .i64 (K : Int))∧wr.cell? ⟨y1,1,none⟩ = some (.int .i64 (M : Int))∧wr.cell? ⟨y2,0,none⟩ = some (.string want)∧wr.cell? ⟨y3,0,none⟩ = some (.func (.func F) fi ca)):=fun hb => by
  have e1:=(hb.block y1 (lt_of_block h1)).trans h1
  have e2:=(hb.block y2 (lt_of_block h2)).trans h2
  have e3:=(hb.block y3 (lt_of_block h3)).trans h3
  exact ⟨by simp [World.cell?,e1],by simp [World.cell?,e1],by simp [World.cell?,e2],by simp [World.cell?,e3]⟩
 have HFA:=hide (families_any (K:=K) (M:=M) hL hS hd hn)
 have HRF : Hid (∀ wr,Below W.heap.size W wr→Calls Tryz.prog 156 #[.agg #[.int .i64 (K : Int),.int .i64 (M : Int)],av] wr fun e w' => e = .returned (.int .i64 (rfs M (X.map (·.1))))∧Below wr.heap.size wr w'):=fun wr hb => refusal_any (hL.bel hb) hS hn (by omega)
 have HCC : Hid (∀ W1 hv,Below W.heap.size W W1→LS Zq.six 6 (fun i => W.heap.size ≤ i∧i < W1.heap.size) W1 hv (fnd K M want (X.map (·.1))).had→Calls Tryz.prog F (fi ++ (#[.string (fnd K M want (X.map (·.1))).d,hv,.int .i64 (fnd K M want (X.map (·.1))).e] ++ ca)) W1 fun e w' => e = .returned (.tuple #[])∧Hid (Gs p W w'∧Q w')):=fun W1 hv hb hv1 => by
  refine (HC W1 hv hb hv1).mono ?_
  rintro e w' ⟨rfl,hG,hQ⟩
  exact ⟨rfl,(Gs.of_below _ hb).trans hG,hQ⟩
 obtain ⟨A,hA⟩ : ∃ A,A = X.map (·.1):=⟨_,rfl⟩
 rw [← hA] at HFA HRF HCC
 have hAl : A.length ≤ 255:=by rw [hA,List.length_map]; exact hn
 obtain ⟨all,hall⟩ : ∃ all,all = famL (gdL K M A):=⟨_,rfl⟩
 have hbd:=(famL_bd _ (gdL K M A) rfl)
 have hfa:=famL_fa (gdL K M A)
 have hgl:=gdL_len K M A
 rw [← hall] at HFA hbd hfa
 have hfe : (∀ d f,fndL K want all = some (d,f)→fnd K M want A = ⟨d,f,0⟩)∧(fndL K want all = none→fnd K M want A = ⟨⟨#[]⟩,[],rfs M A⟩):=⟨fun d f h => by rw [fnd,← hall,h],fun h => by rw [fnd,← hall,h]⟩
 have HALL:=hide (And.intro hfe (And.intro hbd (And.intro hfa (And.intro hgl hAl))))
 have HLW:=hide hLw
 have HGO : Hid (∀ y ∈ gdL K M A,Zq.okS y∧y.k = K∧y.m = M):=fun y hy => gdL_ok hy
 obtain ⟨ava,avc,hav⟩:=hL.shp
 rw [hav] at HFA HRF ⊢
 obtain ⟨n,hnn⟩ : ∃ n,n = X.length:=⟨_,rfl⟩
 rw [← hnn] at HFA HRF ⊢
 unfold Ent at hent
 obtain ⟨z0,z1,z2,z3⟩:=HB.out (Below.refl _ W)
 clear h1 h2 h3 hL hS hd hn hLw HC hA hAl hall hbd hfa hgl hfe hav hnn
 go_enter Tryz.func153,Tryz.ntmps153
 go_wp2_with fail
 refine HFA.out.mono ?_
 rintro e W1 ⟨v,us,rfl,hFM,hB1⟩
 obtain ⟨va,vc,hv⟩:=hFM.o.shp
 subst hv
 have HF1:=hide (And.intro hFM hB1)
 have hul:=hFM.l
 have hub : us.length ≤ 255:=by have:=HALL.out.2.1.1; have:=HALL.out.2.2.2; omega
 have HUL:=hide hul
 clear hFM hB1 z0 z1 z2 z3 hul
 obtain ⟨N,hN⟩ : ∃ N,N = us.length:=⟨_,rfl⟩
 rw [← hN] at hub ⊢
 have HN:=hide hN
 clear hN
 go_wp2
 go_loopw [13] (fun i wr => ∃ j : Nat,j ≤ N∧i = .int .i64 (j : Int)∧fndL K want (all.drop j) = fndL K want all∧FM W.heap.size (.slice va us.length vc) us all wr∧Below W.heap.size W wr) (fun i _ => N - (intOf i).toNat)
 case atStart => exact ⟨0,Nat.zero_le _,rfl,by simp,HF1.out⟩
 case round =>
  obtain ⟨j,hj,rfl,hfd,hFM,hb⟩:=hrel
  have HR:=hide (And.intro hfd (And.intro hFM hb))
  clear hfd hFM hb HF1
  obtain ⟨z0,z1,z2,z3⟩:=HB.out HR.out.2.2
  by_cases hlt : j < N
  ·have b1 : (j : Int) < (N : Int):=by omega
   have b0 : (0 : Int) ≤ (j : Int):=by omega
   obtain ⟨f,hf⟩ : ∃ f,all[j]? = some f:=⟨_,List.getElem?_eq_getElem (by have:=HN.out; have:=HUL.out; omega)⟩
   obtain ⟨u,g,c,hu,hou,hv,hcell⟩:=HR.out.2.1.at_ hf
   simp only [Value.slice.injEq,true_and] at hv
   obtain ⟨rfl,rfl⟩:=hv
   have hfne:=HALL.out.2.2.1.ne f (List.mem_of_getElem? hf)
   obtain ⟨x0,rest,hx0⟩:=List.exists_cons_of_ne_nil hfne
   have hlsu : LS Zq.six 6 (fun i => W.heap.size ≤ i∧i < wr.heap.size) wr u f:=hou.ls six_len (fun i hi => hou.lt i hi)
   have hlx0 : lx f 0 = x0:=by rw [hx0]; rfl
   obtain ⟨ua,uc,hue,_,h9 | ⟨ug,uo,hua,_,_,hG⟩⟩:=hlsu
   ·exact absurd h9 hfne
   subst hua
   subst hue
   have d4 : wr.cell? ⟨ug,uo + 4,none⟩ = some (.string x0.id):=by have:=hG 0 x0 (by rw [hx0]; rfl) 4 _ rfl; simpa using this
   have hfl : 0 < f.length:=by rw [hx0]; simp
   have hfl' : (0 : Int) < (f.length : Int):=by omega
   have HFD : Hid ((want ≠ ⟨#[]⟩∧x0.id ≠ want→fndL K want (all.drop j) = fndL K want (all.drop (j + 1)))∧(¬ (want ≠ ⟨#[]⟩∧x0.id ≠ want)→fndL K want (all.drop j) = match gth K f with | some d => some (d,f) | none => fndL K want (all.drop (j + 1)))):=by
    obtain ⟨hjl,rfl⟩:=List.getElem?_eq_some_iff.1 hf
    rw [List.drop_eq_getElem_cons hjl,fndL,hlx0]
    exact ⟨fun h => if_pos h,fun h => if_neg h⟩
   have HLS:=hide (hou.ls (r:=fun i => W.heap.size ≤ i∧i < wr.heap.size) six_len (fun i hi => hou.lt i hi))
   have HFM : Hid (f ∈ all∧True):=⟨List.mem_of_getElem? hf,trivial⟩
   have HUN:=hide HN.out
   clear hf hu hou hfne hx0 hlx0 hG
   by_cases hw : want = ⟨#[]⟩
   ·have HNW : Hid (¬ (want ≠ ⟨#[]⟩∧x0.id ≠ want)):=fun h => h.1 hw
    rw [hw] at z2
    have HWE:=hide hw
    clear hw
    go_upto_region 3 with fail
    go_quiet (fail)
    have hb4:=(HR.out.2.2)
    have HG:=hide (fun nq => gather_f (w:=wr.drewN nq) (K:=K) ((HLW.out.below hb4 HLW.out.size).drewN nq) HLS.out (by have:=(HALL.out.2.1.2 f HFM.out.1).1; have:=HALL.out.2.2.2; omega) hK (by omega) (fun x hx => by
     have h5:=HGO.out x ((HALL.out.2.1.2 f HFM.out.1).2 x hx)
     have h6:=h5.1.2.2.2.2
     have h7 : Zq.eachN x.k.toNat x.long.toNat ≤ x.long.toNat:=Zq.eachN_le (by have:=h5.1.1.1; omega)
     have h8:=h5.1.2.2.1
     exact ⟨by rw [h5.2.2]; omega,by omega⟩))
    clear hb4
    go_wp2_with fail
    refine (HG.out _).mono ?_
    rintro e W4 ⟨d,b,rfl,hgt,hB40⟩
    have hB4 : Below wr.heap.size wr W4:=⟨hB40.os,hB40.tape,hB40.output,hB40.size,hB40.block⟩
    clear hB40
    obtain ⟨hfd,hFM4,hb4⟩:=HR.out
    have hb5 : Below W.heap.size W W4:=hb4.trans (hB4.mono hb4.size)
    obtain ⟨t0,t1,t2,t3⟩:=HB.out hb5
    rcases hgt with ⟨rfl,hgt⟩ | ⟨rfl,rfl,hgt⟩
    ·have HE : Hid (fnd K M want A = ⟨d,f,0⟩):=by
      show fnd K M want A = _
      refine HALL.out.1.1 d f ?_
      rw [← hfd,HFD.out.2 HNW.out]
      simp only [hgt]
     have HC2:=hide (HCC.out W4 (.slice (some ⟨ug,uo,none⟩) f.length uc) hb5)
     rw [HE.out] at HC2
     have HC3:=hide (HC2.out ((HLS.out.bel hB4).mono fun i hi => ⟨hi.1,by have:=hB4.size; omega⟩))
     clear hgt hfd hFM4 hb4 hb5 hB4 t0 t1 t2 HCC HC2
     generalize f.length = fl at *
     go_wp2_with fail
     refine HC3.out.mono ?_
     rintro e W5 ⟨rfl,hF⟩
     go_wp2
     exact bodyPost_ret (v:=.tuple #[]) (results_none rfl _ _ _) rfl ⟨rfl,hF.out⟩
    ·have HE : Hid (fndL K want (all.drop (j + 1)) = fndL K want all∧FM W.heap.size (.slice (some ⟨g,0,none⟩) us.length vc) us all W4∧Below W.heap.size W W4):=by
      refine ⟨?_,hFM4.bel hB4,hb5⟩
      rw [← hfd,HFD.out.2 HNW.out]
      simp only [hgt]
     clear hgt hfd hFM4 hb4 hb5 hB4 t0 t1 t2 t3 z0 z1 z2 z3
     generalize f.length = fl at *
     go_wp2
     exact ⟨⟨j + 1,by omega,by go_num,HE.out⟩,by simp [intOf]; omega⟩
   ·have n1 : ¬ want.toList = []:=fun e => hw (by
     rw [ByteArray.toList_eq] at e
     exact ByteArray.ext (Array.toList_inj.1 (by rw [e])))
    have n2 : want.toList.isEmpty = false:=by cases h : want.toList with | nil => exact absurd h n1 | cons _ _ => rfl
    by_cases hi : x0.id = want
    ·have HNW : Hid (¬ (want ≠ ⟨#[]⟩∧x0.id ≠ want)):=fun h => h.2 hi
     rw [hi] at d4
     have HI:=hide hi
     clear hi
     go_upto_region 3 with fail
     go_quiet (fail)
     have hb4:=(HR.out.2.2)
     have HG:=hide (fun nq => gather_f (w:=wr.drewN nq) (K:=K) ((HLW.out.below hb4 HLW.out.size).drewN nq) HLS.out (by have:=(HALL.out.2.1.2 f HFM.out.1).1; have:=HALL.out.2.2.2; omega) hK (by omega) (fun x hx => by
      have h5:=HGO.out x ((HALL.out.2.1.2 f HFM.out.1).2 x hx)
      have h6:=h5.1.2.2.2.2
      have h7 : Zq.eachN x.k.toNat x.long.toNat ≤ x.long.toNat:=Zq.eachN_le (by have:=h5.1.1.1; omega)
      have h8:=h5.1.2.2.1
      exact ⟨by rw [h5.2.2]; omega,by omega⟩))
     clear hb4
     go_wp2_with fail
     refine (HG.out _).mono ?_
     rintro e W4 ⟨d,b,rfl,hgt,hB40⟩
     have hB4 : Below wr.heap.size wr W4:=⟨hB40.os,hB40.tape,hB40.output,hB40.size,hB40.block⟩
     clear hB40
     obtain ⟨hfd,hFM4,hb4⟩:=HR.out
     have hb5 : Below W.heap.size W W4:=hb4.trans (hB4.mono hb4.size)
     obtain ⟨t0,t1,t2,t3⟩:=HB.out hb5
     rcases hgt with ⟨rfl,hgt⟩ | ⟨rfl,rfl,hgt⟩
     ·have HE : Hid (fnd K M want A = ⟨d,f,0⟩):=by
       show fnd K M want A = _
       refine HALL.out.1.1 d f ?_
       rw [← hfd,HFD.out.2 HNW.out]
       simp only [hgt]
      have HC2:=hide (HCC.out W4 (.slice (some ⟨ug,uo,none⟩) f.length uc) hb5)
      rw [HE.out] at HC2
      have HC3:=hide (HC2.out ((HLS.out.bel hB4).mono fun i hi => ⟨hi.1,by have:=hB4.size; omega⟩))
      clear hgt hfd hFM4 hb4 hb5 hB4 t0 t1 t2 HCC HC2
      generalize f.length = fl at *
      go_wp2_with fail
      refine HC3.out.mono ?_
      rintro e W5 ⟨rfl,hF⟩
      go_wp2
      exact bodyPost_ret (v:=.tuple #[]) (results_none rfl _ _ _) rfl ⟨rfl,hF.out⟩
     ·have HE : Hid (fndL K want (all.drop (j + 1)) = fndL K want all∧FM W.heap.size (.slice (some ⟨g,0,none⟩) us.length vc) us all W4∧Below W.heap.size W W4):=by
       refine ⟨?_,hFM4.bel hB4,hb5⟩
       rw [← hfd,HFD.out.2 HNW.out]
       simp only [hgt]
      clear hgt hfd hFM4 hb4 hb5 hB4 t0 t1 t2 t3 z0 z1 z2 z3
      generalize f.length = fl at *
      go_wp2
      exact ⟨⟨j + 1,by omega,by go_num,HE.out⟩,by simp [intOf]; omega⟩
    ·obtain ⟨i1,i2⟩:=Zq.unlike_tests hi
     have HE : Hid (fndL K want (all.drop (j + 1)) = fndL K want all∧FM W.heap.size (.slice (some ⟨g,0,none⟩) us.length vc) us all wr∧Below W.heap.size W wr):=by
      obtain ⟨hfd,hFM4,hb4⟩:=HR.out
      refine ⟨?_,hFM4,hb4⟩
      rw [← hfd,HFD.out.1 ⟨hw,hi⟩]
     generalize f.length = fl at *
     go_upto_region 3 with fail
     go_quiet (fail)
     go_wp2
     exact ⟨⟨j + 1,by omega,by go_num,HE.out.1,HE.out.2.1.kb fun _ _ _ _ _ => rfl,⟨HE.out.2.2.os,HE.out.2.2.tape,HE.out.2.2.output,HE.out.2.2.size,HE.out.2.2.block⟩⟩,by simp [intOf]; omega⟩
  ·obtain rfl : j = N:=by omega
   have HE : Hid (fnd K M want A = ⟨⟨#[]⟩,[],rfs M A⟩):=by
    show fnd K M want A = _
    have h1:=HR.out.1
    rw [List.drop_eq_nil_of_le (by have:=HN.out; have:=HUL.out; omega),fndL] at h1
    exact HALL.out.1.2 h1.symm
   have hlb:=HR.out.2.2
   have HC2 : Hid (∀ W1,Below wr.drew.heap.size wr.drew W1→Calls Tryz.prog F (fi ++ (#[.string ⟨#[]⟩,.slice none 0 0,.int .i64 (rfs M A)] ++ ca)) W1 fun e w' => e = .returned (.tuple #[])∧Hid (Gs p W w'∧Q w')):=fun W1 hb1 => by
    have hbW : Below W.heap.size W W1:=by
     have h8 : Below wr.heap.size wr W1:=⟨hb1.os,hb1.tape,hb1.output,hb1.size,hb1.block⟩
     exact hlb.trans (h8.mono hlb.size)
    have h9:=HCC.out W1 (.slice none 0 0) hbW
    rw [HE.out] at h9
    exact h9 (LS.nl _ _)
   have HR2:=hide (HRF.out wr.drew ⟨hlb.os,hlb.tape,hlb.output,hlb.size,hlb.block⟩)
   have HK2 : Hid (∀ W1,Below wr.drew.heap.size wr.drew W1→W1.cell? ⟨y3,0,none⟩ = some (.func (.func F) fi ca)):=fun W1 hb1 => by
    have h8 : Below wr.heap.size wr W1:=⟨hb1.os,hb1.tape,hb1.output,hb1.size,hb1.block⟩
    exact (HB.out (hlb.trans (h8.mono hlb.size))).2.2.2
   clear hlb
   go_upto_region 8 with fail
   go_region_with (first | (go_at_call 156; refine HR2.out.mono ?_; rintro e w1 ⟨rfl,hB1⟩; have k1:=HK2.out w1 hB1) | (have hT9:=hB1; refine (HC2.out _ hT9).mono ?_; rintro e w2 ⟨rfl,hF⟩))
   all_goals (go_wp2; go_end0; exact ⟨rfl,hF.out⟩)
end
end Go.Proofs.YtagijldedngcoaaGreatDoor

namespace Go.Proofs.YtagijldedngcoaaGreatDoor
open Go.RowKit Go.Lib Go.Maps
section
variable {F : FuncId} {fi ca : Array Value} {w W w0 w2 : World} {b c1 i1 : Nat} {v av nv cv : Value} {r r0 p e m : Nat→Prop} {X : List (RR × Value)} {a : Option Addr} {n d nm : ByteArray} {Q : World→Prop} {α : Type} {Fin : α→List RR→(Nat→Prop)→World→Prop} {N : Nat} {l : List QT} {rest : List RR→PN α} {A0 : List RR} {st k c NN s nn : Int} {go ids tx : Value} {cs : List Int} {ns : List ByteArray}
end
end Go.Proofs.YtagijldedngcoaaGreatDoor

namespace Go.Proofs.YtagijldedngcoaaGreatDoor
open Go.RowKit Go.Lib Go.Maps
section
variable {α β : Type} {F : FuncId} {fi ca : Array Value} {b : Nat} {Fin : α→List RR→(Nat→Prop)→World→Prop} {vs : β→(Nat→Prop)→World→Array Value→Prop} {k : β→PN α} {e m r : Nat→Prop} {w w0 w' : World} {A0 : List RR} {K M : Nat} {nm want : ByteArray}
def KV (F : FuncId) (fi ca : Array Value) (b : Nat) (Fin : α→List RR→(Nat→Prop)→World→Prop) (vs : β→(Nat→Prop)→World→Array Value→Prop) (k : β→PN α) (e m : Nat→Prop) (w0 : World) : Prop :=
 ∀ (W : World) (x : β) (args : Array Value) (A : List RR) (r : Nat→Prop),Sm e w0 W→Zq.Sh.Laid W→JB W b true 0 0 ⟨#[]⟩ ⟨#[]⟩ .nilFunc 0 0 (.slice none 0 0) (.slice none 0 0) (A.length : Int)→vs x r W args→(resI A).length ≤ 1000000000000→(∀ i,r i→w0.heap.size ≤ i∧i < W.heap.size) →
  Calls Tryz.prog F (fi ++ (args ++ ca)) W fun er w' => er = .returned (.tuple #[])∧Gs (fun i => i = b ∨ m i) W w'∧RDY b (fun w2 => ∃ P',JJ b Fin (k x) A P' w2∧Gs (fun i => i = b ∨ m i) W w2∧∀ i,P' i→i = b ∨ e i ∨ r i ∨ W.heap.size ≤ i) w'
theorem KV.now (h : KV F fi ca b Fin vs k e m w0) {W : World} {x : β} {args : Array Value} {A : List RR} (hS : Sm e w0 W) (hL : Zq.Sh.Laid W) (hJ : JB W b true 0 0 ⟨#[]⟩ ⟨#[]⟩ .nilFunc 0 0 (.slice none 0 0) (.slice none 0 0) (A.length : Int)) (hv : vs x (fun _ => False) W args) (hI : (resI A).length ≤ 1000000000000) :
  Calls Tryz.prog F (fi ++ (args ++ ca)) W fun er w' => er = .returned (.tuple #[])∧PO b Fin (k x) A e (fun i => i = b ∨ m i) W w':=by
 refine (h W x args A (fun _ => False) hS hL hJ hv hI fun i hi => hi.elim).mono ?_
 rintro er w' ⟨rfl,hG,hR⟩
 refine ⟨rfl,hG,hR.mono ?_⟩
 rintro w2 ⟨P',h1,h2,h3⟩
 refine ⟨P',h1,h2,fun i hi => ?_⟩
 rcases h3 i hi with h | h | h | h
 ·exact .inl h
 ·exact .inr (.inl h)
 ·exact h.elim
 ·exact .inr (.inr h)
def vF (K M : Nat) (x : FV) (r : Nat→Prop) (W : World) (args : Array Value) : Prop:=∃ hv,args = #[.string x.d,hv,.int .i64 x.e]∧LS Zq.six 6 r W hv x.had∧FVok K M x
def vP (x : Int × Int) (_ : Nat→Prop) (_ : World) (args : Array Value) : Prop:=args = #[.int .i64 x.1,.int .i64 x.2]
def vG (x : ByteArray × Int) (_ : Nat→Prop) (_ : World) (args : Array Value) : Prop:=args = #[.string x.1,.int .i64 x.2]
noncomputable def findP (K M : Nat) (nm want : ByteArray) (k : FV→PN α) : PN α:=sqP (aq 2 nm ⟨#[]⟩ (K + M)) [] fun A => k (fnd K M want A)
theorem ent_fi1 : Ent 153:=ent_of Tryz.func153 (by kernel_rfl) rfl
theorem ko_find {k : FV→PN α} {y1 y2 y3 : Nat} {U : World} (hent : Ent F) (hK : 1 ≤ K) (hKM : K + M ≤ 255) (HK : KV F fi ca b Fin (vF K M) k e m w) (hb : Below w.heap.size w U)
  (h1 : U.heap[y1]? = some (.cells #[.int .i64 (K : Int),.int .i64 (M : Int)] 27 (0,0))) (h2 : U.heap[y2]? = some (.cells #[.string want] 9 (0,0))) (h3 : U.heap[y3]? = some (.cells #[.func (.func F) fi ca] 190 (0,0))) :
  KO 153 #[] #[.pointer (some ⟨y1,0,none⟩),.pointer (some ⟨y2,0,none⟩),.pointer (some ⟨y3,0,none⟩)] b Fin (K + M) (fun A => k (fnd K M want A)) A0 (fun i => e i ∨ i = y1 ∨ i = y2 ∨ i = y3) m U:=by
 intro W av X r hS hLw hJ hL hNm hX hI hsm hr
 have hs:=hb.size
 have k1:=(hS.2 y1 (.inr (.inl rfl)) (lt_of_block h1)).trans h1
 have k2:=(hS.2 y2 (.inr (.inr (.inl rfl))) (lt_of_block h2)).trans h2
 have k3:=(hS.2 y3 (.inr (.inr (.inr rfl))) (lt_of_block h3)).trans h3
 have hWs:=hS.1
 have hSe : Sm e w W:=((Sm.refl e w).bel hb).trans (hS.mono fun i hi => .inl hi)
 show Calls Tryz.prog 153 #[av,.pointer (some ⟨y1,0,none⟩),.pointer (some ⟨y2,0,none⟩),.pointer (some ⟨y3,0,none⟩)] W _
 refine find1_any (p:=fun i => i = b ∨ m i) hent k1 k2 k3 hL (fun x hx => by obtain ⟨a,c,e⟩:=(hNm x hx).shp; exact ⟨a,_,c,e⟩) (fun x hx => (hsm x hx).2) (by omega) hLw hK hKM ?_
 intro W1 hv hB hLS
 have hBs:=hB.size
 refine (HK W1 (fnd K M want (X.map (·.1))) _ (A0 ++ X.map (·.1)) (fun i => W.heap.size ≤ i∧i < W1.heap.size) (hSe.bel hB) (hLw.below hB hLw.size) ?_ ⟨hv,rfl,hLS,fnd_ok _ _ _ _ (by rw [List.length_map]; omega)⟩ hI (fun i hi => ⟨by omega,hi.2⟩)).mono ?_
 ·have:=hJ.bel hB
  rw [List.length_append,List.length_map,hX]
  exact this
 rintro er w' ⟨rfl,hG,hR⟩
 refine ⟨rfl,hG,hR.mono ?_⟩
 rintro w3 ⟨P',q1,q2,q3⟩
 refine ⟨P',q1,(Gs.of_below _ hB).trans q2,fun i hi => ?_⟩
 rcases q3 i hi with h | h | h | h
 ·exact .inl h
 ·exact .inr (.inl (.inl h))
 ·exact .inr (.inr (.inr h.1))
 ·exact .inr (.inr (.inr (by omega)))
theorem find_any {k : FV→PN α} (hent : Ent F) (hLw : Zq.Sh.Laid w) (hJ : JB w b true 0 0 ⟨#[]⟩ ⟨#[]⟩ .nilFunc 0 0 (.slice none 0 0) (.slice none 0 0) (A0.length : Int)) (hK : 1 ≤ K) (hKM : K + M ≤ 255) (hI0 : (resI A0).length ≤ 1000000000000) (HK : KV F fi ca b Fin (vF K M) k e m w) (heb : ¬ e b) (hme : ∀ i,m i→e i) (hel : ∀ i,e i→i < w.heap.size) :
  Calls Tryz.prog 109 #[.pointer (some ⟨b,0,none⟩),.agg #[.int .i64 (K : Int),.int .i64 (M : Int)],.string nm,.string want,.func (.func F) fi ca] w fun er w' => er = .returned (.tuple #[])∧PO b Fin (findP K M nm want k) A0 e (fun i => i = b ∨ m i) w w':=by
 obtain ⟨U,hU⟩ : ∃ U,U = ((w.alloc (.cells #[.int .i64 (K : Int),.int .i64 (M : Int)] 27)).alloc (.cells #[.string want] 9)).alloc (.cells #[.func (.func F) fi ca] 190):=⟨_,rfl⟩
 obtain ⟨X,hX⟩ : ∃ X,X = w.heap.size:=⟨_,rfl⟩
 have hB : Below w.heap.size w U:=by rw [hU]; exact (((Below.refl _ _).alloc (Nat.le_refl _) _).alloc (by simp) _).alloc (by simp; omega) _
 have h1 : U.heap[X]? = some (.cells #[.int .i64 (K : Int),.int .i64 (M : Int)] 27 (0,0)):=by rw [hU,hX,Below.heap_alloc _ _ _ (by simp; omega),Below.heap_alloc _ _ _ (by simp)]; exact heap_alloc_new w _
 have h2 : U.heap[X + 1]? = some (.cells #[.string want] 9 (0,0)):=by
  rw [hU,hX,Below.heap_alloc _ _ _ (by simp)]
  have:=heap_alloc_new (w.alloc (.cells #[.int .i64 (K : Int),.int .i64 (M : Int)] 27)) (.cells #[.string want] 9 (0,0))
  simpa using this
 have h3 : U.heap[X + 2]? = some (.cells #[.func (.func F) fi ca] 190 (0,0)):=by
  rw [hU,hX]
  have:=heap_alloc_new ((w.alloc (.cells #[.int .i64 (K : Int),.int .i64 (M : Int)] 27)).alloc (.cells #[.string want] 9)) (.cells #[.func (.func F) fi ca] 190 (0,0))
  simpa using this
 have hsz : U.heap.size = X + 3:=by rw [hU,hX]; simp
 have hbl:=hJ.lt
 have y0 : U.cell? ⟨X,0,none⟩ = some (.int .i64 (K : Int)):=by simp [World.cell?,h1]
 have y1 : U.cell? ⟨X,1,none⟩ = some (.int .i64 (M : Int)):=by simp [World.cell?,h1]
 have HST:=hide (stores_any (K:=K) (M:=M) (w:=U) hKM)
 have HN : Hid (∀ U2,Below U.heap.size U U2→Calls Tryz.prog 152 #[.pointer (some ⟨b,0,none⟩),.int .i64 ((K + M : Nat) : Int),.string nm,.func (.func 153) #[] #[.pointer (some ⟨X,0,none⟩),.pointer (some ⟨X + 1,0,none⟩),.pointer (some ⟨X + 2,0,none⟩)]] U2 fun er w' => er = .returned (.tuple #[])∧PO b Fin (findP K M nm want k) A0 e (fun i => i = b ∨ m i) w w'):=fun U2 hB2 => by
  have hBU : Below w.heap.size w U2:=hB.trans (hB2.mono hB.size)
  have hs2:=hB2.size
  have hko:=ko_find (A0:=A0) hent hK hKM HK hBU ((hB2.block X (by omega)).trans h1) ((hB2.block (X + 1) (by omega)).trans h2) ((hB2.block (X + 2) (by omega)).trans h3)
  have hn : nst ((K + M : Nat) : Int) = K + M:=nst_nat _ (by omega) hKM
  have h9:=gets_any (nm:=nm) (e:=fun i => e i ∨ i = X ∨ i = X + 1 ∨ i = X + 2) (m:=m) (Fin:=Fin) (rest:=fun A => k (fnd K M want A)) (fi:=#[]) (ca:=#[.pointer (some ⟨X,0,none⟩),.pointer (some ⟨X + 1,0,none⟩),.pointer (some ⟨X + 2,0,none⟩)]) ent_fi1 (hLw.below hBU hLw.size) (hJ.bel hBU) ((K + M : Nat) : Int) hI0 (by rw [hn]; exact hko) (by rintro (h | h | h | h); exact heb h; omega; omega; omega) (fun i hi => .inl (hme i hi)) (by rintro i (h | h | h | h); have:=hel i h; omega; omega; omega; omega)
  rw [hn] at h9
  refine h9.mono ?_
  rintro er w' ⟨rfl,hP⟩
  refine ⟨rfl,(hP.bel hBU).less ?_⟩
  rintro i (h | h | h | h)
  ·exact .inl h
  ·exact .inr (by omega)
  ·exact .inr (by omega)
  ·exact .inr (by omega)
 have HU:=hide hU
 have HX:=hide hX
 have hmf : ∀ (fn : Fn) (first cap : Array Value) (w : World),(Instr.makeFunc fn first cap).run Tryz.prog w = .ok (.func fn first cap) w:=fun _ _ _ _ => rfl
 clear hent hLw hJ hI0 HK heb hme hel hU hX hB h1 h2 h3 hsz hbl
 go_enter Tryz.func109,Tryz.ntmps109
 go_upto_region 1 with fail
 rw [← HU.out,← HX.out]
 go_wp2_with fail
 refine HST.out.mono ?_
 rintro er U2 ⟨rfl,hB2⟩
 have HN2:=hide (HN.out U2 hB2)
 clear hB2
 go_wp2_with fail
 refine HN2.out.mono ?_
 rintro er w2 ⟨rfl,hP⟩
 have HP:=hide hP
 clear hP
 go_wp2
 go_end0
 exact ⟨rfl,HP.out⟩
end
end Go.Proofs.YtagijldedngcoaaGreatDoor

namespace Go.Proofs.YtagijldedngcoaaGreatDoor
open Go.RowKit Go.Lib
def als (w : World) : List Obj→World
 | [] => w
 | o :: r => als (w.alloc o) r
theorem als_bel : ∀ (os : List Obj) (w : World),Below w.heap.size w (als w os)
 | [],w => Below.refl _ _
 | o :: r,w => by
  have h1 : Below w.heap.size w (w.alloc o):=(Below.refl _ _).alloc (Nat.le_refl _) _
  exact h1.trans ((als_bel r (w.alloc o)).mono h1.size)
theorem als_at : ∀ (os : List Obj) (w : World) (i : Nat) (o : Obj),os[i]? = some o→(als w os).heap[w.heap.size + i]? = some o
 | [],w,i,o,h => by simp at h
 | x :: r,w,0,o,h => by
  simp at h
  subst h
  rw [als,Nat.add_zero,(als_bel r (w.alloc x)).block _ (by simp)]
  exact World.alloc_heap_new w x
 | x :: r,w,i + 1,o,h => by
  have:=als_at r (w.alloc x) i o (by simpa using h)
  rw [World.size_alloc] at this
  rw [als,show w.heap.size + (i + 1) = w.heap.size + 1 + i by omega]
  exact this
def chk (k m : Int) : Int:=if 1 ≤ k∧0 ≤ m∧m ≤ 255 - k then 0 else 1
theorem chk_ok {K M : Nat} (h1 : 1 ≤ K) (h2 : K + M ≤ 255) : chk K M = 0:=by rw [chk,if_pos ⟨by omega,by omega,by omega⟩]
theorem chk_one {k m : Int} (h : chk k m ≠ 0) : chk k m = 1:=by
 rw [chk] at h ⊢
 split
 ·rename_i h1; rw [if_pos h1] at h; exact absurd rfl h
 ·rfl
section
variable {w : World} {r r' : Nat→Prop} {pv dv : Value} {ps ds : List Int}
theorem check_any (k m : Int) (hk : k ≤ 9223372036854775807) (hk2 : -9223372036854775808 ≤ k) : Calls Tryz.prog 22 #[.agg #[.int .i64 k,.int .i64 m]] w fun e w' => e = .returned (.int .i64 (chk k m))∧Below w.heap.size w w':=by
 have HB : Hid (Below w.heap.size w (w.alloc (.cells #[.int .i64 k,.int .i64 m] 27))):=(Below.refl _ _).alloc (Nat.le_refl _) _
 by_cases h1 : k < 1
 ·have HC : Hid (chk k m = 1):=chk_one (by rw [chk,if_neg (by omega)]; decide)
  go_enter Tryz.func22,Tryz.ntmps22
  go_wp2
  go_ret
  exact ⟨by rw [HC.out]; rfl,HB.out⟩
 ·by_cases h2 : m < 0
  ·have HC : Hid (chk k m = 1):=chk_one (by rw [chk,if_neg (by omega)]; decide)
   go_enter Tryz.func22,Tryz.ntmps22
   go_wp2
   go_ret
   exact ⟨by rw [HC.out]; rfl,HB.out⟩
  ·by_cases h3 : 255 - k < m
   ·have HC : Hid (chk k m = 1):=chk_one (by rw [chk,if_neg (by omega)]; decide)
    go_enter Tryz.func22,Tryz.ntmps22
    go_wp2
    go_ret
    exact ⟨by rw [HC.out]; rfl,HB.out⟩
   ·have HC : Hid (chk k m = 0):=by show chk k m = 0; rw [chk,if_pos ⟨by omega,by omega,by omega⟩]
    go_enter Tryz.func22,Tryz.ntmps22
    go_wp2
    go_ret
    exact ⟨by rw [HC.out]; rfl,HB.out⟩
def lov : List Int→List Int→Nat
 | p :: ps,d :: ds => (if p = 0∧d ≠ 0∧d ≠ 5 then 1 else 0) + lov ps ds
 | _,_ => 0
theorem lov_drop {j : Nat} {p d : Int} (hp : ps[j]? = some p) (hd : ds[j]? = some d) : lov (ps.drop j) (ds.drop j) = (if p = 0∧d ≠ 0∧d ≠ 5 then 1 else 0) + lov (ps.drop (j + 1)) (ds.drop (j + 1)):=by
 rw [drop_at hp,drop_at hd,lov]
theorem lov_le : ∀ (ps ds : List Int),lov ps ds ≤ ps.length
 | [],_ => by simp [lov]
 | _ :: _,[] => by simp [lov]
 | p :: ps,d :: ds => by
  have:=lov_le ps ds
  rw [lov,List.length_cons]
  split <;> omega
theorem left_any (hp : LS c1 1 r w pv ps) (hd : LS c1 1 r' w dv ds) (hl : ps.length = ds.length) (hn : ps.length ≤ 255) :
  Calls Tryz.prog 161 #[pv,dv] w fun e w' => e = .returned (.int .i64 (lov ps ds : Nat))∧w' = w:=by
 obtain ⟨pa,pc,rfl⟩:=hp.shp
 obtain ⟨da,dc,rfl⟩:=hd.shp
 have HP : Hid (∀ j x,ps[j]? = some x→∃ g o,pa = some ⟨g,o,none⟩∧w.cell? ⟨g,o + j,none⟩ = some (.int .i64 x)):=fun j x hx => by
  obtain ⟨g,o,h1,_,h2⟩:=hp.at1 hx rfl
  exact ⟨g,o,h1,h2⟩
 have HD : Hid (∀ j x,ds[j]? = some x→∃ g o,da = some ⟨g,o,none⟩∧w.cell? ⟨g,o + j,none⟩ = some (.int .i64 x)):=fun j x hx => by
  obtain ⟨g,o,h1,_,h2⟩:=hd.at1 hx rfl
  exact ⟨g,o,h1,h2⟩
 obtain ⟨n,hnn⟩ : ∃ n,n = ps.length:=⟨_,rfl⟩
 rw [← hl,← hnn]
 rw [← hnn] at hn
 have HN:=hide (And.intro hnn hl)
 clear hp hd hl hnn
 go_enter Tryz.func161,Tryz.ntmps161
 go_wp2
 go_loopw [5,10] (fun c i wr => ∃ (j s : Nat),j ≤ n∧i = .int .i64 (j : Int)∧c = .int .i64 (s : Int)∧s + lov (ps.drop j) (ds.drop j) = lov ps ds∧wr = w) (fun _ i _ => n - (intOf i).toNat)
 case atStart => exact ⟨0,0,Nat.zero_le _,rfl,rfl,by simp,rfl⟩
 case round =>
  obtain ⟨j,s,hj,rfl,rfl,hs,hw⟩:=hrel
  subst wr
  have HS:=hide hs
  have hsb : (s : Int) ≤ 255:=by have:=lov_le ps ds; have:=HN.out.1; omega
  clear hs
  by_cases hlt : j < n
  ·have b1 : (j : Int) < (n : Int):=by omega
   have b0 : (0 : Int) ≤ (j : Int):=by omega
   obtain ⟨x,hx⟩ : ∃ x,ps[j]? = some x:=⟨_,List.getElem?_eq_getElem (by have:=HN.out; omega)⟩
   obtain ⟨y,hy⟩ : ∃ y,ds[j]? = some y:=⟨_,List.getElem?_eq_getElem (by have:=HN.out; omega)⟩
   obtain ⟨g,o,rfl,u0⟩:=HP.out j x hx
   obtain ⟨g2,o2,rfl,u1⟩:=HD.out j y hy
   have HL:=hide (lov_drop hx hy)
   clear hx hy
   by_cases hx0 : x = 0
   ·by_cases hy0 : y = 0
    ·have HE : Hid (s + lov (ps.drop (j + 1)) (ds.drop (j + 1)) = lov ps ds):=by have h1:=HS.out; rw [HL.out,if_neg (fun h => h.2.1 hy0)] at h1; show _ = _; omega
     subst hx0
     subst hy0
     go_wp2
     exact ⟨⟨j + 1,s,by omega,by go_num,rfl,HE.out,trivial⟩,by simp [intOf]; omega⟩
    ·by_cases hy5 : y = 5
     ·have HE : Hid (s + lov (ps.drop (j + 1)) (ds.drop (j + 1)) = lov ps ds):=by have h1:=HS.out; rw [HL.out,if_neg (fun h => h.2.2 hy5)] at h1; show _ = _; omega
      subst hx0
      subst hy5
      go_wp2
      exact ⟨⟨j + 1,s,by omega,by go_num,rfl,HE.out,trivial⟩,by simp [intOf]; omega⟩
     ·have HE : Hid ((s + 1) + lov (ps.drop (j + 1)) (ds.drop (j + 1)) = lov ps ds):=by have h1:=HS.out; rw [HL.out,if_pos ⟨hx0,hy0,hy5⟩] at h1; show _ = _; omega
      subst hx0
      have q0 : (y != 0) = true:=by simpa using hy0
      have q5 : (y != 5) = true:=by simpa using hy5
      go_wp2
      exact ⟨⟨j + 1,s + 1,by omega,by go_num,by go_num,HE.out,trivial⟩,by simp [intOf]; omega⟩
   ·have HE : Hid (s + lov (ps.drop (j + 1)) (ds.drop (j + 1)) = lov ps ds):=by have h1:=HS.out; rw [HL.out,if_neg (fun h => hx0 h.1)] at h1; show _ = _; omega
    go_wp2
    exact ⟨⟨j + 1,s,by omega,by go_num,rfl,HE.out,trivial⟩,by simp [intOf]; omega⟩
  ·obtain rfl : j = n:=by omega
   have HE : Hid (s = lov ps ds):=by
    have h1:=HS.out
    rw [List.drop_eq_nil_of_le (by have:=HN.out; omega),lov] at h1
    ·show s = _; omega
    ·intro _ _ _ _ h; cases h
   go_wp2
   go_ret
   exact ⟨by rw [← HE.out]; rfl,rfl⟩
end
end Go.Proofs.YtagijldedngcoaaGreatDoor

namespace Go.Proofs.YtagijldedngcoaaGreatDoor
open Go.RowKit Go.Lib Go.Maps
def shL (K M : Nat) (s : ByteArray) : List ByteArray:=(List.range (K + M)).map (Zq.shB K M s)
theorem shL_len (K M : Nat) (s : ByteArray) : (shL K M s).length = K + M:=by simp [shL]
theorem sb_ls {w : World} {q n : Nat} {X : Nat→ByteArray} {r : Nat→Prop} (h : Zq.SB w q n X) (hr : r q) : LS t1 1 r w (.slice (some ⟨q,0,none⟩) n n) ((List.range n).map X):=by
 refine ⟨_,_,by simp; rfl,fun e => (by cases e),.inr ⟨q,0,rfl,hr,h.lt,fun i x hx j u hu => ?_⟩⟩
 have hi : i < n:=by have:=(List.getElem?_eq_some_iff.1 hx).1; simpa using this
 rw [List.getElem?_map,List.getElem?_range hi] at hx
 cases hx
 have hj : j = 0:=by have:=(List.getElem?_eq_some_iff.1 hu).1; simp [t1] at this; exact this
 subst hj
 simp [t1] at hu
 subst hu
 have:=h.cell i hi
 simpa using this
section
variable {α : Type} {F : FuncId} {fi ca : Array Value} {b : Nat} {Fin : α→List RR→(Nat→Prop)→World→Prop} {k : Int × Int→PN α} {e m r r' p : Nat→Prop} {w w0 W : World} {A0 : List RR} {K M : Nat} {nm s : ByteArray} {Q : World→Prop}
noncomputable def layP (K M : Nat) (nm s : ByteArray) (k : Int × Int→PN α) : PN α :=
 sqP (pq nm (shL K M s)) [] fun A => if frs [] (A.map (·.c)) = 0 then k (0,0) else sqP (aq 4 nm ⟨#[]⟩ (K + M)) [] fun B => k (frs [] (A.map (·.c)),(lov (A.map (·.c)) (B.map (·.c)) : Nat))
theorem lay11_any {y1 y2 y3 : Nat} {pv dv : Value} {ps ds : List Int} {c : Int} (hent : Ent F) (h1 : W.heap[y1]? = some (.cells #[.func (.func F) fi ca] 136 (0,0))) (h2 : W.heap[y2]? = some (.cells #[.int .i64 c] 33 (0,0))) (h3 : W.heap[y3]? = some (.cells #[pv] 166 (0,0)))
  (hp : LS c1 1 r W pv ps) (hd : LS c1 1 r' W dv ds) (hl : ps.length = ds.length) (hn : ps.length ≤ 255)
  (HC : Calls Tryz.prog F (fi ++ (#[.int .i64 c,.int .i64 (lov ps ds : Nat)] ++ ca)) W.drew fun e w' => e = .returned (.tuple #[])∧Gs p W.drew w'∧Q w') :
  Calls Tryz.prog 160 #[dv,.pointer (some ⟨y1,0,none⟩),.pointer (some ⟨y2,0,none⟩),.pointer (some ⟨y3,0,none⟩)] W fun e w' => e = .returned (.tuple #[])∧Gs p W w'∧Q w':=by
 have z1 : W.drew.cell? ⟨y1,0,none⟩ = some (.func (.func F) fi ca):=by show W.cell? _ = _; simp [World.cell?,h1]
 have z2 : W.drew.cell? ⟨y2,0,none⟩ = some (.int .i64 c):=by show W.cell? _ = _; simp [World.cell?,h2]
 have z3 : W.drew.cell? ⟨y3,0,none⟩ = some pv:=by show W.cell? _ = _; simp [World.cell?,h3]
 have HL:=hide (left_any (w:=W.drew) hp hd hl hn)
 have HCC : Hid (Calls Tryz.prog F (fi ++ (#[.int .i64 c,.int .i64 (lov ps ds : Nat)] ++ ca)) W.drew fun e w' => e = .returned (.tuple #[])∧Hid (Gs p W w'∧Q w')):=by
  refine HC.mono ?_
  rintro e w' ⟨rfl,hG,hQ⟩
  exact ⟨rfl,hG.und,hQ⟩
 obtain ⟨pa,pc,hpv⟩:=hp.shp
 obtain ⟨da,dc,hdv⟩:=hd.shp
 rw [hpv] at z3 HL
 rw [hdv] at HL ⊢
 generalize lov ps ds = lv at *
 generalize ps.length = pl at *
 generalize ds.length = dl at *
 unfold Ent at hent
 clear h1 h2 h3 hp hd hl hn HC hpv hdv
 go_enter Tryz.func160,Tryz.ntmps160
 go_upto_region 0 with fail
 go_region_with (first | (go_at_call 161; refine HL.out.mono ?_; rintro e w1 ⟨rfl,rfl⟩; have hT:=z1) | (have hT9:=hT; refine HCC.out.mono ?_; rintro e w2 ⟨rfl,hF⟩))
 all_goals (go_wp2; go_end0; exact ⟨rfl,hF.out⟩)
end
end Go.Proofs.YtagijldedngcoaaGreatDoor

namespace Go.Proofs.YtagijldedngcoaaGreatDoor
open Go.RowKit Go.Lib Go.Maps
section
variable {α : Type} {F : FuncId} {fi ca : Array Value} {b : Nat} {Fin : α→List RR→(Nat→Prop)→World→Prop} {k : Int × Int→PN α} {e m r r' p : Nat→Prop} {w w0 W : World} {A0 : List RR} {K M : Nat} {nm s : ByteArray} {R : World→Prop} {y1 y2 y3 y4 : Nat} {cv : Value} {cs : List Int}
theorem lay1_zero (hent : Ent F) (h1 : W.heap[y1]? = some (.cells #[.func (.func F) fi ca] 136 (0,0))) (hL : LS c1 1 r W cv cs) (hn : cs.length ≤ 1000000) (h0 : frs [] cs = 0)
  (HC : ∀ W1,Below W.heap.size W W1→Calls Tryz.prog F (fi ++ (#[.int .i64 0,.int .i64 0] ++ ca)) W1 fun er w' => er = .returned (.tuple #[])∧R w') :
  Calls Tryz.prog 159 #[cv,.pointer (some ⟨y1,0,none⟩),.pointer (some ⟨y2,0,none⟩),.pointer (some ⟨y3,0,none⟩),.pointer (some ⟨y4,0,none⟩)] W fun er w' => er = .returned (.tuple #[])∧R w':=by
 obtain ⟨U,hU⟩ : ∃ U,U = W.alloc (.cells #[cv] 166):=⟨_,rfl⟩
 have hB : Below W.heap.size W U:=by rw [hU]; exact (Below.refl _ _).alloc (Nat.le_refl _) _
 obtain ⟨x5,hx5⟩ : ∃ x,x = W.heap.size:=⟨_,rfl⟩
 have k5 : U.heap[x5]? = some (.cells #[cv] 166 (0,0)):=by rw [hU,hx5]; exact heap_alloc_new W _
 have z5 : U.cell? ⟨x5,0,none⟩ = some cv:=by simp [World.cell?,k5]
 have HF:=hide (first_any (hL.bel hB) (LS.nl (f:=c1) (fun _ => True) U) (by omega) (by simp))
 rw [h0] at HF
 have HN : Hid (∀ W1 o,Below U.heap.size U W1→(W1.alloc o).cell? ⟨y1,0,none⟩ = some (.func (.func F) fi ca)∧Calls Tryz.prog F (fi ++ (#[.int .i64 0,.int .i64 0] ++ ca)) (W1.alloc o) fun er w' => er = .returned (.tuple #[])∧Hid (R w')):=fun W1 o hb => by
  have h2 : Below W.heap.size W W1:=hB.trans (hb.mono hB.size)
  have h3 : Below W.heap.size W (W1.alloc o):=h2.alloc h2.size _
  have e1:=(h3.block y1 (lt_of_block h1)).trans h1
  exact ⟨by simp [World.cell?,e1],HC _ h3⟩
 obtain ⟨ca',cc',hcv⟩:=hL.shp
 rw [hcv] at z5 HF hU ⊢
 have HU:=hide hU
 have HX:=hide hx5
 unfold Ent at hent
 generalize cs.length = cl at *
 clear h1 hL hn h0 HC hU hB hx5 k5 hcv
 go_enter Tryz.func159,Tryz.ntmps159
 go_upto_region 1 with fail
 rw [← HU.out,← HX.out]
 go_wp2_with fail
 refine HF.out.mono ?_
 rintro er W1 ⟨rfl,hB1⟩
 obtain ⟨z1,HC1⟩:=HN.out W1 (.cells #[.int .i64 0] 33) hB1
 have HC2:=hide HC1
 clear hB1 HC1
 go_wp2_with fail
 refine HC2.out.mono ?_
 rintro er w2 ⟨rfl,hF⟩
 go_wp2
 exact bodyPost_ret (v:=.tuple #[]) (results_none rfl _ _ _) rfl ⟨rfl,hF.out⟩
theorem lay1_dels {c : Int} (h2 : W.heap[y2]? = some (.cells #[.pointer (some ⟨b,0,none⟩)] 99 (0,0))) (h3 : W.heap[y3]? = some (.cells #[.int .i64 (K : Int),.int .i64 (M : Int)] 27 (0,0))) (h4 : W.heap[y4]? = some (.cells #[.string nm] 9 (0,0))) (hL : LS c1 1 r W cv cs) (hn : cs.length ≤ 1000000) (h0 : frs [] cs = c) (hc : c ≠ 0) (hKM : K + M ≤ 255) (hp2 : ¬ p y2) (hp3 : ¬ p y3) (hp4 : ¬ p y4)
  (HC : ∀ W1 x5 x6,Below W.heap.size W W1→W1.heap[x5]? = some (.cells #[cv] 166 (0,0))→W1.heap[x6]? = some (.cells #[.int .i64 c] 33 (0,0))→W.heap.size ≤ x5→W.heap.size ≤ x6→Calls Tryz.prog 116 #[.pointer (some ⟨b,0,none⟩),.int .i64 ((K + M : Nat) : Int),.string nm,.func (.func 160) #[] #[.pointer (some ⟨y1,0,none⟩),.pointer (some ⟨x6,0,none⟩),.pointer (some ⟨x5,0,none⟩)]] W1 fun er w' => er = .returned (.tuple #[])∧Gs p W1 w'∧R w') :
  Calls Tryz.prog 159 #[cv,.pointer (some ⟨y1,0,none⟩),.pointer (some ⟨y2,0,none⟩),.pointer (some ⟨y3,0,none⟩),.pointer (some ⟨y4,0,none⟩)] W fun er w' => er = .returned (.tuple #[])∧R w':=by
 obtain ⟨U,hU⟩ : ∃ U,U = W.alloc (.cells #[cv] 166):=⟨_,rfl⟩
 have hB : Below W.heap.size W U:=by rw [hU]; exact (Below.refl _ _).alloc (Nat.le_refl _) _
 obtain ⟨x5,hx5⟩ : ∃ x,x = W.heap.size:=⟨_,rfl⟩
 have k5 : U.heap[x5]? = some (.cells #[cv] 166 (0,0)):=by rw [hU,hx5]; exact heap_alloc_new W _
 have z5 : U.cell? ⟨x5,0,none⟩ = some cv:=by simp [World.cell?,k5]
 have HF:=hide (first_any (hL.bel hB) (LS.nl (f:=c1) (fun _ => True) U) (by omega) (by simp))
 rw [h0] at HF
 have HCL : Hid (∀ wr,Below W.heap.size W wr→wr.cell? ⟨y2,0,none⟩ = some (.pointer (some ⟨b,0,none⟩))∧wr.cell? ⟨y3,0,none⟩ = some (.int .i64 (K : Int))∧wr.cell? ⟨y3,1,none⟩ = some (.int .i64 (M : Int))∧wr.cell? ⟨y4,0,none⟩ = some (.string nm)):=fun wr hb => by
  have e2:=(hb.block y2 (lt_of_block h2)).trans h2
  have e3:=(hb.block y3 (lt_of_block h3)).trans h3
  have e4:=(hb.block y4 (lt_of_block h4)).trans h4
  exact ⟨by simp [World.cell?,e2],by simp [World.cell?,e3],by simp [World.cell?,e3],by simp [World.cell?,e4]⟩
 have HN : Hid (∀ W1,Below U.heap.size U W1→∃ V x6,V = W1.alloc (.cells #[.int .i64 c] 33)∧x6 = W1.heap.size∧V.cell? ⟨x6,0,none⟩ = some (.int .i64 c)∧Below W.heap.size W V∧(∀ V2,Below V.heap.size V.drew V2→Calls Tryz.prog 116 #[.pointer (some ⟨b,0,none⟩),.int .i64 ((K + M : Nat) : Int),.string nm,.func (.func 160) #[] #[.pointer (some ⟨y1,0,none⟩),.pointer (some ⟨x6,0,none⟩),.pointer (some ⟨x5,0,none⟩)]] V2 fun er w' => er = .returned (.tuple #[])∧(w'.cell? ⟨y2,0,none⟩ = some (.pointer (some ⟨b,0,none⟩))∧w'.cell? ⟨y3,0,none⟩ = some (.int .i64 (K : Int))∧w'.cell? ⟨y3,1,none⟩ = some (.int .i64 (M : Int))∧w'.cell? ⟨y4,0,none⟩ = some (.string nm))∧Hid (R w'))):=fun W1 hb => by
  have hb1 : Below W.heap.size W W1:=hB.trans (hb.mono hB.size)
  have hbV : Below W.heap.size W (W1.alloc (.cells #[.int .i64 c] 33)):=hb1.alloc hb1.size _
  have k6:=heap_alloc_new W1 (.cells #[.int .i64 c] 33 (0,0))
  refine ⟨_,_,rfl,rfl,(cell1 k6).1,hbV,fun V2 hb2 => ?_⟩
  have hb3 : Below (W1.alloc (.cells #[.int .i64 c] 33)).heap.size (W1.alloc (.cells #[.int .i64 c] 33)) V2:=⟨hb2.os,hb2.tape,hb2.output,hb2.size,hb2.block⟩
  have hbW : Below W.heap.size W V2:=hbV.trans (hb3.mono hbV.size)
  have hs1:=hb.size
  have hs2:=hb1.size
  have hs3:=lt_of_block k5
  have k5' : V2.heap[x5]? = some (.cells #[cv] 166 (0,0)):=(hb3.block x5 (by simp; omega)).trans ((Below.heap_alloc _ _ _ (by omega)).trans ((hb.block x5 hs3).trans k5))
  refine (HC V2 x5 W1.heap.size hbW k5' ((hb3.block _ (by simp)).trans k6) (by omega) hs2).mono ?_
  rintro er w' ⟨rfl,hG,hR⟩
  obtain ⟨q2,q3,q3',q4⟩:=HCL.out V2 hbW
  have s2:=Nat.lt_of_lt_of_le (lt_of_block h2) hbW.size
  have s3:=Nat.lt_of_lt_of_le (lt_of_block h3) hbW.size
  have s4:=Nat.lt_of_lt_of_le (lt_of_block h4) hbW.size
  have t2:=hG.block y2 s2 hp2
  have t3:=hG.block y3 s3 hp3
  have t4:=hG.block y4 s4 hp4
  refine ⟨rfl,⟨?_,?_,?_,?_⟩,hR⟩
  ·simp only [World.cell?,t2]; exact q2
  ·simp only [World.cell?,t3]; exact q3
  ·simp only [World.cell?,t3]; exact q3'
  ·simp only [World.cell?,t4]; exact q4
 have HST:=hide (fun wr => stores_any (K:=K) (M:=M) (w:=wr) hKM)
 obtain ⟨ca',cc',hcv⟩:=hL.shp
 rw [hcv] at z5 HF hU ⊢
 have HU:=hide hU
 have HX:=hide hx5
 generalize cs.length = cl at *
 have hcf : (c == 0) = false:=by simpa using hc
 have hmf : ∀ (fn : Fn) (first cap : Array Value) (w : World),(Instr.makeFunc fn first cap).run Tryz.prog w = .ok (.func fn first cap) w:=fun _ _ _ _ => rfl
 clear h2 h3 h4 hL hn h0 HC hU hB hx5 k5 hcv hp2 hp3 hp4
 go_enter Tryz.func159,Tryz.ntmps159
 go_upto_region 1 with fail
 rw [← HU.out,← HX.out]
 go_wp2_with fail
 refine HF.out.mono ?_
 rintro er W1 ⟨rfl,hB1⟩
 obtain ⟨V,x6,hV,hx6,z6,hbV,HD⟩:=HN.out W1 hB1
 have HD2:=hide HD
 have HV:=hide (And.intro hV hx6)
 have HS0:=hide (HCL.out V.drew ⟨hbV.os,hbV.tape,hbV.output,hbV.size,hbV.block⟩)
 have HCV : Hid (∀ V2,Below V.heap.size V.drew V2→V2.cell? ⟨y2,0,none⟩ = some (.pointer (some ⟨b,0,none⟩))∧V2.cell? ⟨y3,0,none⟩ = some (.int .i64 (K : Int))∧V2.cell? ⟨y3,1,none⟩ = some (.int .i64 (M : Int))∧V2.cell? ⟨y4,0,none⟩ = some (.string nm)):=fun V2 hb2 => by
  have hb3 : Below V.heap.size V V2:=⟨hb2.os,hb2.tape,hb2.output,hb2.size,hb2.block⟩
  exact HCL.out V2 (hbV.trans (hb3.mono hbV.size))
 obtain ⟨s2,s3,s3',s4⟩:=HS0.out
 clear hV hx6 HD hbV hB1 HN HF HCL
 go_upto_region 2 with fail
 rw [← HV.out.1,← HV.out.2]
 go_upto_region 4 with fail
 go_region_held3 (fun w' => w'.cell? ⟨y2,0,none⟩ = some (.pointer (some ⟨b,0,none⟩))∧w'.cell? ⟨y3,0,none⟩ = some (.int .i64 (K : Int))∧w'.cell? ⟨y3,1,none⟩ = some (.int .i64 (M : Int))∧w'.cell? ⟨y4,0,none⟩ = some (.string nm)) (first | exact HS0.out | assumption)
  (first | (go_at_call 57; refine (HST.out _).mono ?_; rintro er w1 ⟨rfl,hB1⟩; have hk1:=HCV.out _ hB1) | (go_at_call 116; refine (HD2.out _ hB1).mono ?_; rintro er w2 ⟨rfl,hk2,hF⟩))
 all_goals (go_wp2; go_end0; exact ⟨rfl,hF.out⟩)
end
end Go.Proofs.YtagijldedngcoaaGreatDoor

namespace Go.Proofs.YtagijldedngcoaaGreatDoor
open Go.RowKit Go.Lib Go.Maps
section
variable {α : Type} {F : FuncId} {fi ca : Array Value} {b : Nat} {Fin : α→List RR→(Nat→Prop)→World→Prop} {k : Int × Int→PN α} {e m r r' p : Nat→Prop} {w w0 W : World} {A0 : List RR} {K M : Nat} {nm s : ByteArray} {R : World→Prop} {y1 y2 y3 y4 : Nat} {cv : Value} {cs : List Int}
theorem ent_l11 : Ent 160:=ent_of Tryz.func160 (by kernel_rfl) rfl
theorem ent_l1 : Ent 159:=ent_of Tryz.func159 (by kernel_rfl) rfl
theorem kc_lay11 {x5 x6 : Nat} {c : Int} {n : Nat} (hent : Ent F) (HK : KV F fi ca b Fin vP k e m w) (hb : Below w.heap.size w W) (h1 : W.heap[y1]? = some (.cells #[.func (.func F) fi ca] 136 (0,0))) (h5 : W.heap[x5]? = some (.cells #[cv] 166 (0,0))) (h6 : W.heap[x6]? = some (.cells #[.int .i64 c] 33 (0,0))) (hL : LS c1 1 r W cv cs) (hl : cs.length = n) (hn : n ≤ 255) :
  KC 160 #[] #[.pointer (some ⟨y1,0,none⟩),.pointer (some ⟨x6,0,none⟩),.pointer (some ⟨x5,0,none⟩)] b Fin n (fun B => k (c,(lov cs (B.map (·.c)) : Nat))) A0 (fun i => e i ∨ i = y1 ∨ i = x5 ∨ i = x6 ∨ r i) m W:=by
 intro V dv B r2 hS hLw hJ hD hB hI hr
 have hs:=hb.size
 have k1:=(hS.2 y1 (.inr (.inl rfl)) (lt_of_block h1)).trans h1
 have k5:=(hS.2 x5 (.inr (.inr (.inl rfl))) (lt_of_block h5)).trans h5
 have k6:=(hS.2 x6 (.inr (.inr (.inr (.inl rfl)))) (lt_of_block h6)).trans h6
 have hL2 : LS c1 1 r V cv cs:=hL.kb hS.1 fun i hi hil => hS.2 i (.inr (.inr (.inr (.inr hi)))) hil
 have hSe : Sm e w V:=((Sm.refl e w).bel hb).trans (hS.mono fun i hi => .inl hi)
 have hSd : Sm e w V.drew:=⟨hSe.1,hSe.2⟩
 show Calls Tryz.prog 160 #[dv,.pointer (some ⟨y1,0,none⟩),.pointer (some ⟨x6,0,none⟩),.pointer (some ⟨x5,0,none⟩)] V _
 refine lay11_any (p:=fun i => i = b ∨ m i) hent k1 k6 k5 hL2 hD (by rw [List.length_map]; omega) (by omega) ?_
 refine (HK V.drew (c,(lov cs (B.map (·.c)) : Nat)) _ (A0 ++ B) (fun _ => False) hSd hLw ?_ rfl hI (fun i hi => hi.elim)).mono ?_
 ·have : JB V.drew b true 0 0 ⟨#[]⟩ ⟨#[]⟩ .nilFunc 0 0 (.slice none 0 0) (.slice none 0 0) ((A0.length + n : Nat) : Int):=hJ
  rw [List.length_append,hB]
  exact this
 rintro er w' ⟨rfl,hG,hR⟩
 refine ⟨rfl,hG,hR.mono ?_⟩
 rintro w3 ⟨P',q1,q2,q3⟩
 refine ⟨P',q1,q2.und,fun i hi => ?_⟩
 rcases q3 i hi with h | h | h | h
 ·exact .inl h
 ·exact .inr (.inl (.inl h))
 ·exact h.elim
 ·exact .inr (.inr (.inr h))
theorem kc_lay1 (hent : Ent F) (HK : KV F fi ca b Fin vP k e m w) (hb : Below w.heap.size w W) (hbl : b < w.heap.size) (heb : ¬ e b) (hme : ∀ i,m i→e i) (hel : ∀ i,e i→i < w.heap.size) (hK : 1 ≤ K) (hKM : K + M ≤ 255)
  (h1 : W.heap[y1]? = some (.cells #[.func (.func F) fi ca] 136 (0,0))) (h2 : W.heap[y2]? = some (.cells #[.pointer (some ⟨b,0,none⟩)] 99 (0,0))) (h3 : W.heap[y3]? = some (.cells #[.int .i64 (K : Int),.int .i64 (M : Int)] 27 (0,0))) (h4 : W.heap[y4]? = some (.cells #[.string nm] 9 (0,0))) (g1 : w.heap.size ≤ y1) (g2 : w.heap.size ≤ y2) (g3 : w.heap.size ≤ y3) (g4 : w.heap.size ≤ y4) :
  KC 159 #[] #[.pointer (some ⟨y1,0,none⟩),.pointer (some ⟨y2,0,none⟩),.pointer (some ⟨y3,0,none⟩),.pointer (some ⟨y4,0,none⟩)] b Fin (K + M) (fun A => if frs [] (A.map (·.c)) = 0 then k (0,0) else sqP (aq 4 nm ⟨#[]⟩ (K + M)) [] fun B => k (frs [] (A.map (·.c)),(lov (A.map (·.c)) (B.map (·.c)) : Nat))) A0 (fun i => e i ∨ i = y1 ∨ i = y2 ∨ i = y3 ∨ i = y4) m W:=by
 intro V cv A r hS hLw hJ hL hA hI hr
 have hs:=hb.size
 have k1:=(hS.2 y1 (.inr (.inl rfl)) (lt_of_block h1)).trans h1
 have k2:=(hS.2 y2 (.inr (.inr (.inl rfl))) (lt_of_block h2)).trans h2
 have k3:=(hS.2 y3 (.inr (.inr (.inr (.inl rfl)))) (lt_of_block h3)).trans h3
 have k4:=(hS.2 y4 (.inr (.inr (.inr (.inr rfl)))) (lt_of_block h4)).trans h4
 have hVs:=hS.1
 have hSe : Sm e w V:=((Sm.refl e w).bel hb).trans (hS.mono fun i hi => .inl hi)
 have hcl : (A.map (·.c)).length = K + M:=by rw [List.length_map,hA]
 have hJ' : JB V b true 0 0 ⟨#[]⟩ ⟨#[]⟩ .nilFunc 0 0 (.slice none 0 0) (.slice none 0 0) ((A0 ++ A).length : Int):=by rw [List.length_append,hA]; exact hJ
 show Calls Tryz.prog 159 #[cv,.pointer (some ⟨y1,0,none⟩),.pointer (some ⟨y2,0,none⟩),.pointer (some ⟨y3,0,none⟩),.pointer (some ⟨y4,0,none⟩)] V _
 by_cases h0 : frs [] (A.map (·.c)) = 0
 ·simp only [if_pos h0]
  refine lay1_zero hent k1 hL (by omega) h0 fun W1 hB1 => ?_
  refine (HK W1 (0,0) _ (A0 ++ A) (fun _ => False) (hSe.bel hB1) (hLw.below hB1 hLw.size) (hJ'.bel hB1) rfl hI (fun i hi => hi.elim)).mono ?_
  rintro er w' ⟨rfl,hG,hR⟩
  refine ⟨rfl,(Gs.of_below _ hB1).trans hG,hR.mono ?_⟩
  rintro w3 ⟨P',q1,q2,q3⟩
  have:=hB1.size
  refine ⟨P',q1,(Gs.of_below _ hB1).trans q2,fun i hi => ?_⟩
  rcases q3 i hi with h | h | h | h
  ·exact .inl h
  ·exact .inr (.inl (.inl h))
  ·exact h.elim
  ·exact .inr (.inr (.inr (by omega)))
 ·simp only [if_neg h0]
  have hnb : ∀ i,w.heap.size ≤ i→¬ (i = b ∨ m i):=fun i hi h => by
   rcases h with h | h
   ·omega
   ·have:=hel i (hme i h); omega
  refine lay1_dels (p:=fun i => i = b ∨ m i) k2 k3 k4 hL (by omega) rfl h0 hKM (hnb _ g2) (hnb _ g3) (hnb _ g4) ?_
  intro W1 x5 x6 hB1 k5 k6 g5 g6
  have hbW : Below W1.heap.size W1 W1:=Below.refl _ _
  have hB1s:=hB1.size
  have hn : nst ((K + M : Nat) : Int) = K + M:=nst_nat _ (by omega) hKM
  have hLA : Zq.Sh.Laid W1:=hLw.below hB1 hLw.size
  have HK1 : KV F fi ca b Fin vP k e m V:=by
   intro W x args A r hS' hL' hJ' hv hI' hr'
   exact HK W x args A r (hSe.trans hS') hL' hJ' hv hI' fun i hi => ⟨by have:=(hr' i hi).1; have:=hSe.1; omega,(hr' i hi).2⟩
  have hkc:=kc_lay11 (A0:=A0 ++ A) (n:=K + M) hent HK1 hB1 ((hB1.block y1 (lt_of_block k1)).trans k1) k5 k6 (hL.bel hB1) hcl hKM
  have heV : ∀ i,e i→i < V.heap.size:=fun i hi => by have:=hel i hi; omega
  have h9:=dels_any (nm:=nm) (e:=fun i => e i ∨ i = y1 ∨ i = x5 ∨ i = x6 ∨ r i) (m:=m) (Fin:=Fin) (rest:=fun B => k (frs [] (A.map (·.c)),(lov (A.map (·.c)) (B.map (·.c)) : Nat))) (A0:=A0 ++ A) (fi:=#[]) (ca:=#[.pointer (some ⟨y1,0,none⟩),.pointer (some ⟨x6,0,none⟩),.pointer (some ⟨x5,0,none⟩)]) ent_l11 hLA (hJ'.bel hB1) ((K + M : Nat) : Int) hI (by rw [hn]; exact hkc) (by
   rintro (h | h | h | h | h)
   ·exact heb h
   ·omega
   ·omega
   ·omega
   ·have:=(hr b h).1; omega) (fun i hi => .inl (hme i hi)) (by
   rintro i (h | h | h | h | h)
   ·have:=heV i h; omega
   ·have:=lt_of_block k1; omega
   ·rw [h]; exact lt_of_block k5
   ·rw [h]; exact lt_of_block k6
   ·have:=(hr i h).2; omega)
  rw [hn] at h9
  refine h9.mono ?_
  rintro er w' ⟨rfl,hP⟩
  refine ⟨rfl,hP.1,(Gs.of_below _ hB1).trans hP.1,hP.2.mono ?_⟩
  rintro w3 ⟨P',q1,q2,q3⟩
  refine ⟨P',q1,(Gs.of_below _ hB1).trans q2,fun i hi => ?_⟩
  rcases q3 i hi with h | (h | h | h | h | h) | h
  ·exact .inl h
  ·exact .inr (.inl (.inl h))
  ·exact .inr (.inl (.inr (.inl h)))
  ·exact .inr (.inr (.inr (by omega)))
  ·exact .inr (.inr (.inr (by omega)))
  ·exact .inr (.inr (.inl h))
  ·exact .inr (.inr (.inr (by omega)))
theorem olay_any (hent : Ent F) (hLw : Zq.Sh.Laid w) (hJ : JB w b true 0 0 ⟨#[]⟩ ⟨#[]⟩ .nilFunc 0 0 (.slice none 0 0) (.slice none 0 0) (A0.length : Int)) (hK : 1 ≤ K) (hKM : K + M ≤ 255) (hs : s.size ≤ 65536) (hI0 : (resI A0).length ≤ 1000000000000) (HK : KV F fi ca b Fin vP k e m w) (heb : ¬ e b) (hme : ∀ i,m i→e i) (hel : ∀ i,e i→i < w.heap.size) :
  Calls Tryz.prog 111 #[.pointer (some ⟨b,0,none⟩),.agg #[.int .i64 (K : Int),.int .i64 (M : Int)],.string nm,.string s,.func (.func F) fi ca] w fun er w' => er = .returned (.tuple #[])∧PO b Fin (layP K M nm s k) A0 e (fun i => i = b ∨ m i) w w':=by
 obtain ⟨U,hU⟩ : ∃ U,U = als w [.cells #[.pointer (some ⟨b,0,none⟩)] 99,.cells #[.int .i64 (K : Int),.int .i64 (M : Int)] 27,.cells #[.string nm] 9,.cells #[.func (.func F) fi ca] 136]:=⟨_,rfl⟩
 obtain ⟨X,hX⟩ : ∃ X,X = w.heap.size:=⟨_,rfl⟩
 have hB : Below w.heap.size w U:=by rw [hU]; exact als_bel _ _
 have h2 : U.heap[X]? = some (.cells #[.pointer (some ⟨b,0,none⟩)] 99 (0,0)):=by rw [hU,hX]; exact als_at _ w 0 _ rfl
 have h3 : U.heap[X + 1]? = some (.cells #[.int .i64 (K : Int),.int .i64 (M : Int)] 27 (0,0)):=by rw [hU,hX]; exact als_at _ w 1 _ rfl
 have h4 : U.heap[X + 2]? = some (.cells #[.string nm] 9 (0,0)):=by rw [hU,hX]; exact als_at _ w 2 _ rfl
 have h1 : U.heap[X + 3]? = some (.cells #[.func (.func F) fi ca] 136 (0,0)):=by rw [hU,hX]; exact als_at _ w 3 _ rfl
 have hbl:=hJ.lt
 have y0 : U.cell? ⟨X + 1,0,none⟩ = some (.int .i64 (K : Int)):=by simp [World.cell?,h3]
 have y1 : U.cell? ⟨X + 1,1,none⟩ = some (.int .i64 (M : Int)):=by simp [World.cell?,h3]
 have HMK:=hide (Zq.make_ok (hLw.below hB hLw.size) hK hKM hs)
 have HN : Hid (∀ U2 q,Below U.heap.size U U2→Zq.SB U2 q (K + M) (Zq.shB K M s)→U2.cell? ⟨X,0,none⟩ = some (.pointer (some ⟨b,0,none⟩))∧U2.cell? ⟨X + 2,0,none⟩ = some (.string nm)∧Calls Tryz.prog 158 #[.pointer (some ⟨b,0,none⟩),.string nm,.slice (some ⟨q,0,none⟩) (K + M) (K + M),.func (.func 159) #[] #[.pointer (some ⟨X + 3,0,none⟩),.pointer (some ⟨X,0,none⟩),.pointer (some ⟨X + 1,0,none⟩),.pointer (some ⟨X + 2,0,none⟩)]] U2 fun er w' => er = .returned (.tuple #[])∧PO b Fin (layP K M nm s k) A0 e (fun i => i = b ∨ m i) w w'):=fun U2 q hB2 hSB => by
  have hBU : Below w.heap.size w U2:=hB.trans (hB2.mono hB.size)
  have hs2:=hB2.size
  have c1:=(hB2.block (X + 3) (lt_of_block h1)).trans h1
  have c2:=(hB2.block X (lt_of_block h2)).trans h2
  have c3:=(hB2.block (X + 1) (lt_of_block h3)).trans h3
  have c4:=(hB2.block (X + 2) (lt_of_block h4)).trans h4
  have hkc:=kc_lay1 (A0:=A0) hent HK hBU hbl heb hme hel hK hKM c1 c2 c3 c4 (by omega) (by omega) (by omega) (by omega)
  have hpn : pqn nm (shL K M s) = pq nm (shL K M s):=by rw [pqn,if_pos (by rw [shL_len]; exact ⟨by omega,hKM⟩)]
  have hpl : (pqn nm (shL K M s)).length = K + M:=by rw [hpn,pq_len,shL_len]
  have h9:=puts_any (nm:=nm) (ds:=shL K M s) (r:=fun _ => True) (e:=fun i => e i ∨ i = X + 3 ∨ i = X ∨ i = X + 1 ∨ i = X + 2) (m:=m) (Fin:=Fin) (A0:=A0) ent_l1 (hLw.below hBU hLw.size) (hJ.bel hBU) (sb_ls hSB trivial) hI0 (by rw [hpl]; exact hkc) (by rintro (h | h | h | h | h); exact heb h; omega; omega; omega; omega) (fun i hi => .inl (hme i hi)) (by
   rintro i (h | h | h | h | h)
   ·have:=hel i h; have:=hBU.size; omega
   ·rw [h]; exact lt_of_block c1
   ·rw [h]; exact lt_of_block c2
   ·rw [h]; exact lt_of_block c3
   ·rw [h]; exact lt_of_block c4)
  rw [hpn] at h9
  refine ⟨(cell1 c2).1,(cell1 c4).1,h9.mono ?_⟩
  rintro er w' ⟨rfl,hP⟩
  refine ⟨rfl,(hP.bel hBU).less ?_⟩
  rintro i (h | h | h | h | h)
  ·exact .inl h
  ·exact .inr (by omega)
  ·exact .inr (by omega)
  ·exact .inr (by omega)
  ·exact .inr (by omega)
 have HU : Hid (U = (((w.alloc (.cells #[.pointer (some ⟨b,0,none⟩)] 99)).alloc (.cells #[.int .i64 (K : Int),.int .i64 (M : Int)] 27)).alloc (.cells #[.string nm] 9)).alloc (.cells #[.func (.func F) fi ca] 136)):=hU
 have HX:=hide hX
 have hmf : ∀ (fn : Fn) (first cap : Array Value) (w : World),(Instr.makeFunc fn first cap).run Tryz.prog w = .ok (.func fn first cap) w:=fun _ _ _ _ => rfl
 clear hent hLw hJ hI0 HK heb hme hel hU hX hB h1 h2 h3 h4 hbl
 go_enter Tryz.func111,Tryz.ntmps111
 go_upto_region 1 with fail
 rw [← HU.out,← HX.out]
 go_wp2_with fail
 refine HMK.out.mono ?_
 rintro er U2 ⟨q,rfl,hSB,hq,hB2⟩
 obtain ⟨z2,z4,HP⟩:=HN.out U2 q hB2 hSB
 have HN2:=hide HP
 clear hB2 HP hSB hq
 go_wp2_with fail
 refine HN2.out.mono ?_
 rintro er w2 ⟨rfl,hP⟩
 have HPP:=hide hP
 clear hP
 go_wp2
 go_end0
 exact ⟨rfl,HPP.out⟩
end
end Go.Proofs.YtagijldedngcoaaGreatDoor

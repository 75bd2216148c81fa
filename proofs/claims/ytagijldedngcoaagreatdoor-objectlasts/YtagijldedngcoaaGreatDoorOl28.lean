/-
  Contracts of the program and of the statements (part 28 of 28).
-/
import Derived.Test.YtagijldedngcoaaGreatDoorOl26
import Derived.Test.YtagijldedngcoaaGreatDoorOl27
import Derived.Test.YtagijldedngcoaaGreatDoorOl10
import Derived.Deep.SlicePairs
import Derived.ProofKit
import Derived.OpenShut
import Derived.SizedLaws
import Derived.LaidMore
import Derived.Stop.Joined
set_option maxRecDepth 100000
set_option maxHeartbeats 12800000

namespace Go.Proofs.YtagijldedngcoaaGreatDoor
open Go.RowKit Go.Lib Go.Maps
theorem lasts10 {w : World} (a b : Int) (s : ByteArray) {ha : Option Addr} {hc : Nat} (harms : List HR4) (hH : LS h4 4 (fun _ => True) w (.slice ha harms.length hc) harms) (hhn : harms.length ≤ 9223372036854775807) (hLw : Zq.Sh.Laid w) :
  Calls Tryz.prog 5 #[.agg #[.int .i64 a,.int .i64 b],.string s,.slice ha harms.length hc] w fun e w' => e = .returned (.bool true)∧Below w.heap.size w w':=by
 have HH : Hid (∀ j x,harms[j]? = some x→∀ W,Below w.heap.size w W→∃ g o,ha = some ⟨g,o,none⟩∧W.cell? ⟨g,o + j * 4,none⟩ = some (.int .i64 x.kd)∧W.cell? ⟨g,o + j * 4 + 1,none⟩ = some (.int .i64 x.st)∧W.cell? ⟨g,o + j * 4 + 2,none⟩ = some (.int .i64 x.n)∧W.cell? ⟨g,o + j * 4 + 3,none⟩ = some (.int .i64 x.pt)):=fun j x hx W hb => by
  obtain ⟨a',c',e,_,h2 | ⟨g,o,ea,_,hg,hG⟩⟩:=hH
  ·rw [h2] at hx; simp at hx
  ·injection e with e1 _ _
   subst e1
   have hcl : ∀ (t : Nat) (v : Value),(h4 x)[t]? = some v→W.cell? ⟨g,o + j * 4 + t,none⟩ = some v:=fun t v hv => (hb.cell (p:=⟨g,o + j * 4 + t,none⟩) hg).trans (hG j x hx t v hv)
   exact ⟨g,o,ea,hcl 0 _ rfl,hcl 1 _ rfl,hcl 2 _ rfl,hcl 3 _ rfl⟩
 obtain ⟨hl,hhl⟩ : ∃ hl,hl = harms.length:=⟨_,rfl⟩
 rw [← hhl] at hhn ⊢
 have HHL:=hide hhl
 clear hH hhl
 obtain ⟨U,hU⟩ : ∃ U,U = w.alloc (.cells #[.int .i64 a,.int .i64 b] 22):=⟨_,rfl⟩
 obtain ⟨X0,hX0⟩ : ∃ X0,X0 = w.heap.size:=⟨_,rfl⟩
 have hBU : Below w.heap.size w U:=by rw [hU]; exact (Below.refl _ _).alloc (Nat.le_refl _) _
 have hkU : U.heap[X0]? = some (.cells #[.int .i64 a,.int .i64 b] 22 (0,0)):=by rw [hU,hX0]; exact heap_alloc_new w _
 have y0 : U.cell? ⟨X0,0,none⟩ = some (.int .i64 a):=by simp [World.cell?,hkU]
 have y1 : U.cell? ⟨X0,1,none⟩ = some (.int .i64 b):=by simp [World.cell?,hkU]
 obtain ⟨K0,hK0⟩ : ∃ K0,K0 = amg a 4:=⟨_,rfl⟩
 obtain ⟨M,hM0⟩ : ∃ M,M = amg b 5:=⟨_,rfl⟩
 have hK4 : K0 < 4:=by rw [hK0]; exact (amg_spec a 4 (by decide)).2.1
 have hM5 : M < 5:=by rw [hM0]; exact (amg_spec b 5 (by decide)).2.1
 have HA1 : Hid (∀ W,Calls Tryz.prog 9 #[.int .i64 a,.int .i64 4] W fun e w' => e = .returned (.int .i64 (K0 : Int))∧w' = W):=fun W => by rw [hK0]; exact among_any W a 4 (by decide) (by decide)
 have HA2 : Hid (∀ W,Calls Tryz.prog 9 #[.int .i64 b,.int .i64 5] W fun e w' => e = .returned (.int .i64 (M : Int))∧w' = W):=fun W => by rw [hM0]; exact among_any W b 5 (by decide) (by decide)
 have HE0 : Hid (∃ q,Value.pointer (some ⟨U.heap.size,0,none⟩) = .pointer (some ⟨q,0,none⟩)∧w.heap.size ≤ q∧(U.alloc (.cells #[.int .i64 (IntKind.i64.wrap (1 + (K0 : Int))),.int .i64 (M : Int)] 27)).drew.heap[q]? = some (.cells #[.int .i64 ((K0 + 1 : Nat) : Int),.int .i64 (M : Int)] 27 (0,0))∧Below w.heap.size w (U.alloc (.cells #[.int .i64 (IntKind.i64.wrap (1 + (K0 : Int))),.int .i64 (M : Int)] 27)).drew):=by
  have hb : Below w.heap.size w (U.alloc (.cells #[.int .i64 (IntKind.i64.wrap (1 + (K0 : Int))),.int .i64 (M : Int)] 27)):=hBU.alloc hBU.size _
  refine ⟨_,rfl,hBU.size,?_,⟨hb.os,hb.tape,hb.output,hb.size,hb.block⟩⟩
  have e : ((K0 + 1 : Nat) : Int) = IntKind.i64.wrap (1 + (K0 : Int)):=by rw [IntKind.wrap_i64]; omega
  rw [e]
  exact heap_alloc_new U _
 have b4 : (K0 : Int) < 4:=by omega
 have b0 : (0 : Int) ≤ (K0 : Int):=by omega
 have HU:=hide hU
 have HX:=hide hX0
 have HLd:=hide hLw
 have hS0 : U.drew.cell? ⟨X0,0,none⟩ = some (.int .i64 a)∧U.drew.cell? ⟨X0,1,none⟩ = some (.int .i64 b):=⟨y0,y1⟩
 clear hU hX0 hBU hkU hK0 hM0 hLw
 go_enter Tryz.func5,Tryz.ntmps5
 go_upto_region 1 with fail
 rw [← HU.out,← HX.out]
 go_cut [7] (fun v wx => ∃ q,v = .pointer (some ⟨q,0,none⟩)∧w.heap.size ≤ q∧wx.heap[q]? = some (.cells #[.int .i64 ((K0 + 1 : Nat) : Int),.int .i64 (M : Int)] 27 (0,0))∧Below w.heap.size w wx)
 case first =>
  go_region_held3 (fun w' => w'.cell? ⟨X0,0,none⟩ = some (.int .i64 a)∧w'.cell? ⟨X0,1,none⟩ = some (.int .i64 b)) (first | with_reducible assumption | go_keep) (first
   | (go_at_call 9; (first | with_reducible refine (HA1.out _).mono ?_ | with_reducible refine (HA2.out _).mono ?_); rintro e w5 ⟨rfl,rfl⟩))
  all_goals (go_wp2; go_meet; case rel => exact HE0.out)
 case rest =>
  obtain ⟨X,rfl,hX,hkt,hBc⟩:=hcut
  generalize wc = W1 at *
  obtain ⟨K,hKd⟩ : ∃ K,K = K0 + 1:=⟨_,rfl⟩
  rw [← hKd] at hkt
  have hK1 : 1 ≤ K:=by omega
  have hKM : K + M ≤ 9:=by omega
  obtain ⟨n,hn⟩ : ∃ n,n = K + M:=⟨_,rfl⟩
  have hn1 : 1 ≤ n:=by omega
  obtain ⟨z0,z1⟩:=KK.of hkt
  have HY:=hide (yard_any K M 10000 (by omega) (by decide) (by decide) W1)
  rw [← hn] at HY
  have HKT:=hide (And.intro hkt (And.intro hX hBc))
  have HKM:=hide (And.intro hK1 (And.intro hKM hn))
  clear hkt hX hBc hKd b4 b0 HA1 HA2 HE0 HU HX hS0 y0 y1 hK4 hM5 hK1 hKM hn
  go_wp2_with fail
  refine HY.out.mono ?_
  rintro e w1 ⟨sa,sc,bs,rfl,hYB,hbl⟩
  obtain ⟨hK1,hKM,hn⟩:=HKM.out
  have hG1:=gq_yard HKT.out.1 HKT.out.2.1 HKT.out.2.2 HLd.out hYB (by rw [hbl,hn]) nmN
  obtain ⟨g0,o0,rfl⟩ : ∃ g0 o0,sa = some ⟨g0,o0,none⟩:=by
   obtain ⟨a',c',e0,h0 | ⟨g0,o0,ea,_⟩⟩:=hG1.yp.rp
   ·have : bs.length = 0:=by simpa using congrArg List.length h0
    omega
   ·injection e0 with e1 _ _
    exact ⟨g0,o0,by rw [e1,ea]⟩
  have k1:=sl_eq Tryz.underlying28
  have HW:=hide (works10 hG1.la)
  obtain ⟨Bd,hBd⟩ : ∃ Bd,Bd = w1.heap.size:=⟨_,rfl⟩
  rw [← hBd] at hG1
  have HG1:=hide hG1
  clear hYB hbl hG1 hBd hK1 hKM hn HKT z0 z1
  go_wp2_with fail
  refine HW.out.mono ?_
  rintro e w2 ⟨rfl,hb2⟩
  have HG2:=hide (HG1.out.bel hb2)
  clear hb2 HG1 HW
  by_cases hlen : (200 : Int) < (s.size : Int)
  ·have b9 : (s.size : Int) > 200:=by omega
   go_wp2
   go_ret
   exact ⟨rfl,HG2.out.be⟩
  ·have b9 : ¬ (s.size : Int) > 200:=by omega
   obtain ⟨z0,z1⟩:=HG2.out.kc
   obtain ⟨hK1,hKM,hn⟩:=HKM.out
   have HP:=hide (gn_put (s:=s) HG2.out (by simp) (.inl (no_fnd hK1 (by omega))) hK1 hKM (by omega) nmN_may (by decide) (by decide) no_sm (by decide) (by decide))
   clear hK1 hKM hn
   go_wp2_with fail
   refine HP.out.mono ?_
   rintro e v4 ⟨b2,rfl,zz,HR⟩
   go_wp2_with fail
   refine HR.out.mono ?_
   rintro e v5 ⟨ai6,ci6,at6,ct6,rfl,H5⟩
   obtain ⟨V6,hV⟩ : ∃ V,V = v5.alloc (.cells #[.int .i64 0,.string ⟨#[]⟩,.int .i64 0,.slice ai6 0 ci6,.slice at6 0 ct6,.slice none 0 0,.slice none 0 0] 63):=⟨_,rfl⟩
   obtain ⟨q6,hq⟩ : ∃ q,q = v5.heap.size:=⟨_,rfl⟩
   have H6:=hide (H5.out V6 hV)
   rw [← hq] at H6
   have HVq:=hide (And.intro hV hq)
   clear hV hq H5 HR zz HP
   go_upto_region 8 with fail
   rw [← HVq.out.1,← HVq.out.2]
   clear HVq
   have HG6:=hide H6.out.1
   have r60 : V6.cell? ⟨q6,0,none⟩ = some (.int .i64 0):=H6.out.2.r7.cell 0
   have hb6 : Bd ≤ V6.heap.size:=H6.out.1.bd
   clear H6 z0 z1 HG2
   go_wp2
   go_loopw [11,64] (fun v u wr => ∃ (j : Nat) (rv : Value),j ≤ n∧u = .int .i64 (j : Int)∧rv = v∧OW t1 1 9 V6.heap.size rv ((shL K M s).take j) wr∧Below V6.heap.size V6 wr) (fun _ u _ => n - (intOf u).toNat)
   case atStart => exact ⟨0,_,Nat.zero_le _,rfl,rfl,by rw [List.take_zero]; exact OW.nil _ _ _ _ _,Below.refl _ _⟩
   case round =>
    obtain ⟨j,rv,hj,rfl,rfl,hO,hB⟩:=hrel
    have hn9 : n ≤ 9:=by have:=HKM.out; omega
    by_cases hlt : j < n
    ·have b1 : (j : Int) < (n : Int):=by omega
     have b0 : (0 : Int) ≤ (j : Int):=by omega
     obtain ⟨d,hd⟩ : ∃ d,(shL K M s)[j]? = some d:=⟨_,List.getElem?_eq_getElem (by rw [shL_len]; have:=HKM.out; omega)⟩
     have hsj : (sts 10000 2 nmN ((shL K M s).map some))[j]? = some (st1 10000 2 nmN (some d)):=sts_at (by rw [List.getElem?_map,hd]; rfl)
     obtain ⟨g1,o1,c1,e1,hsv,hcl,hge⟩:=gq_sget (nm:=nmN) (HG6.out.bel hB) hsj (by decide)
     injection hsv with q1 qn q3
     injection q1 with q1
     injection q1 with q1 q2 _
     subst q1 q2 q3
     clear qn
     rw [st1_thr] at hge
     have HGE:=hide hge
     have HOB:=hide (And.intro hO (And.intro hB hd))
     clear hge hO hB hsj hd
     go_wp2_with fail
     refine HGE.out.mono ?_
     rintro e w7 ⟨rfl,hb7⟩
     obtain ⟨hO,hB,hd⟩:=HOB.out
     have hB7:=hB.trans (hb7.mono hB.size)
     obtain ⟨v2,w2,hr1,hO2,hG2⟩:=tpush (hO.keep hb7) d (by rw [List.length_take,shL_len]; have:=HKM.out; omega) hB7.size
     have HE : Hid (OW t1 1 9 V6.heap.size v2 ((shL K M s).take (j + 1)) w2∧Below V6.heap.size V6 w2):=by
      rw [take_snoc_at hd]
      exact ⟨hO2,hG2.below hB7 hB7.size fun i e => (hO.lt i e).1⟩
     simp only [Option.getD_some]
     clear hb7 hO hB hd hB7 hO2 hG2
     go_wp2_with (at_builtin; refine Lib.wpList_append_run _ rfl _ _ _ _ rfl _ _ rfl rfl _ _ hr1 ?_)
     exact ⟨⟨j + 1,_,by omega,by go_num,rfl,HE.out⟩,by simp [intOf]; omega⟩
    ·obtain rfl : j = n:=by omega
     have b1 : ¬ (j : Int) < (j : Int):=by omega
     have e : (shL K M s).take j = shL K M s:=List.take_of_length_le (by rw [shL_len]; have:=HKM.out; omega)
     rw [e] at hO
     clear e
     have hLS : LS t1 1 (fun i => Bd ≤ i∧i < wr.heap.size) wr rv (shL K M s):=hO.ls t1_len fun i hi => ⟨by have:=(hO.lt i hi).1; omega,(hO.lt i hi).2⟩
     obtain ⟨ra,rc,hrv⟩:=hLS.shp
     rw [shL_len,← HKM.out.2.2] at hrv
     subst hrv
     obtain ⟨gh,oh,rfl⟩ : ∃ gh oh,ra = some ⟨gh,oh,none⟩:=by
      obtain ⟨g,o,h1,_,_⟩:=hLS.at1 (j:=0) (x:=Zq.shB K M s 0) (by rw [shL,List.getElem?_map,List.getElem?_range (by have:=HKM.out; omega)]; rfl) rfl
      exact ⟨g,o,h1⟩
     obtain ⟨bm,hbm⟩ : ∃ bm,bm = wr.heap.size:=⟨_,rfl⟩
     obtain ⟨W8,hW8⟩ : ∃ W8,W8 = wr.alloc (.map #[] 0):=⟨_,rfl⟩
     have hb8 : Below wr.heap.size wr W8:=by rw [hW8]; exact (Below.refl _ _).alloc (Nat.le_refl _) _
     have HZ0 : Hid (LZ w W8 X Bd K M bm (.slice (some ⟨g0,o0,none⟩) j sc) (.slice (some ⟨gh,oh,none⟩) j rc) bs s ((shL K M s).map some) []∧HL K M s ((shL K M s).map some) [] 0):=by
      refine ⟨⟨(HG6.out.bel hB).bel hb8,by rw [hW8,hbm]; exact MH.made wr,(hLS.bel hb8).mono fun i hi => ⟨hi.1,by omega⟩,by have:=hB.size; omega⟩,HL.start HKM.out.1 HKM.out.2.1 (by omega)⟩
     have HWb:=hide (And.intro hW8 hbm)
     clear hO hB hLS hW8 hbm hb8 HG6 r60
     have hmm:=@run_makeMap Tryz.prog
     go_upto_region 18 with fail
     rw [← HWb.out.1,← HWb.out.2]
     clear hmm
     clear HWb
     go_wp2
     go_loopw [17,18] (fun u1 u2 wy => ∃ (c i : Nat) (L : List Nat) (O : List (Option ByteArray)),i ≤ hl∧u1 = .int .i64 (c : Int)∧u2 = .int .i64 (i : Int)∧L.length ≤ M∧Hid (LZ w wy X Bd K M bm (.slice (some ⟨g0,o0,none⟩) j sc) (.slice (some ⟨gh,oh,none⟩) j rc) bs s O L∧HL K M s O L c)) (fun _ u2 _ => hl - (intOf u2).toNat)
     case atStart => exact ⟨0,0,[],_,Nat.zero_le _,rfl,rfl,Nat.zero_le _,HZ0⟩
     case round =>
      clear HZ0
      obtain ⟨c,i,L,O,hi,rfl,rfl,hLM,HZ⟩:=hrel
      obtain ⟨z0,z1⟩:=HZ.out.1.gq.kc
      have hml:=HZ.out.1.mh.len
      have hM9 : M ≤ 8:=by have:=HKM.out; omega
      go_upto_region 20 with fail
      go_cut [89] (fun v wx => v = .bool (decide (i < hl∧L.length < M))∧wx = wr)
      case first =>
       by_cases hi1 : i < hl
       ·have b3 : (i : Int) < (hl : Int):=by omega
        by_cases hi2 : L.length < M
        ·have b5 : (L.length : Int) < (M : Int):=by omega
         go_wp2
         go_meet
         case rel => exact ⟨by simp [hi1,hi2],rfl⟩
        ·have b5 : ¬ (L.length : Int) < (M : Int):=by omega
         go_wp2
         go_meet
         case rel => exact ⟨by simp [hi2],rfl⟩
       ·have b3 : ¬ (i : Int) < (hl : Int):=by omega
        go_wp2
        go_meet
        case rel => exact ⟨by simp [hi1],rfl⟩
      case rest =>
      obtain ⟨rfl,hwc⟩:=hcut
      subst hwc
      clear hml
      by_cases hcon : i < hl∧L.length < M
      ·rw [decide_eq_true hcon]
       obtain ⟨hi1,hi2⟩:=hcon
       have b3 : (i : Int) < (hl : Int):=by omega
       have b4 : (0 : Int) ≤ (i : Int):=by omega
       obtain ⟨x,hx⟩ : ∃ x,harms[i]? = some x:=⟨_,List.getElem?_eq_getElem (by rw [← HHL.out]; exact hi1)⟩
       obtain ⟨gx,ox,rfl,x0,x1,x2,x3⟩:=HH.out i x hx wc HZ.out.1.gq.be
       obtain ⟨kd,st,xn,pt⟩:=x
       dsimp only at x0 x1 x2 x3
       have hat:=(amg_spec st j (by omega)).2.1
       have HAM:=hide (among_any wc st j (by omega) (by omega))
       generalize amg st j = at_ at *
       have hlk:=HZ.out.1.mh.look (x:=at_) (by omega)
       have hsz : (sts 10000 2 nmN O).length = O.length:=sts_len
       have HX:=hide hx
       clear hx
       go_wp2_with fail
       refine HAM.out.mono ?_
       rintro e w5 ⟨rfl,rfl⟩
       by_cases hin : at_ ∈ L
       ·rw [decide_eq_true hin] at hlk
        clear hsz
        go_wp2_with (refine wpList_lookup_run rfl 71 _ _ _ rfl _ _ _ rfl rfl hlk ?_)
        exact ⟨⟨c,i + 1,L,O,by omega,rfl,by go_num,hLM,HZ⟩,by simp [intOf]; omega⟩
       ·rw [decide_eq_false hin] at hlk
        obtain ⟨W9,hup,HZ9⟩:=HZ.out.1.update (a:=at_) (by omega) (by omega) hin
        obtain ⟨_,_,e9,y0,y1,y2,y3⟩:=HH.out i _ HX.out W9 HZ9.out.gq.be
        injection e9 with e9
        injection e9 with e91 e92 _
        subst e91 e92
        dsimp only at y0 y1 y2 y3
        clear x0 x1 x2 x3 hsz
        go_wp2_with (first | (refine wpList_lookup_run rfl 71 _ _ _ rfl _ _ _ rfl rfl hlk ?_) | (refine wpList_mapUpdate_run rfl 71 _ _ _ rfl _ _ _ rfl rfl rfl hup ?_))
        refine (among_any W9 kd 3 (by decide) (by decide)).mono ?_
        rintro e w6 ⟨rfl,rfl⟩
        generalize amg kd 3 = k3 at *
        have hOl : at_ < O.length:=by rw [HZ.out.2.ho.len]; have:=HKM.out; omega
        have hKa : at_ < K + M:=by have:=HKM.out; omega
        clear hlk hup
        by_cases hk3 : k3 = 0
        ·subst hk3
         obtain ⟨g1,o1,c1,e1,hsv,hcl,hwi⟩:=HZ9.out.wipe (a:=at_) hOl
         injection hsv with q1 qn q3
         injection q1 with q1
         injection q1 with q1 q2 _
         subst q1 q2 q3
         clear qn
         have HWI:=hide hwi
         have HE : Hid (HL K M s (O.set at_ none) (at_ :: L) (c + 1)):=by
          have:=HZ.out.2.hit (o:=none) hKa hin (.inr (gans_none _ _ _)) (fun d h => by cases h) (fun _ _ => Classical.propDecidable _)
          rw [if_neg (by intro h; cases h)] at this
          exact this
         have hcb : c ≤ 8:=by have:=HZ.out.2.le; omega
         clear hwi
         go_wp2_with fail
         refine HWI.out.mono ?_
         rintro e w7 ⟨rfl,h7⟩
         go_wp2
         exact ⟨⟨c + 1,i + 1,at_ :: L,_,by omega,by go_num,by go_num,by rw [List.length_cons]; omega,⟨h7.out,HE.out⟩⟩,by simp [intOf]; omega⟩
        ·have d3 : ((k3 : Int) == 0) = false:=by simpa using hk3
         obtain ⟨D,hD⟩ : ∃ D,D = Zq.shB K M s at_:=⟨_,rfl⟩
         have hDz : 1 ≤ D.size∧D.size ≤ 10000:=by
          rw [hD,shB_size HKM.out.1]
          have : Zq.eachN K s.size ≤ s.size + K - 1:=Nat.div_le_self _ _
          have:=HKM.out
          omega
         have HS9 : Hid (∀ W,LZ w W X Bd K M bm (.slice (some ⟨g0,o0,none⟩) j sc) (.slice (some ⟨gh,oh,none⟩) j rc) bs s O (at_ :: L)→W.cell? ⟨gh,oh + at_,none⟩ = some (.string D)∧W.cell? ⟨gx,ox + i * 4,none⟩ = some (.int .i64 kd)∧W.cell? ⟨gx,ox + i * 4 + 1,none⟩ = some (.int .i64 st)∧W.cell? ⟨gx,ox + i * 4 + 2,none⟩ = some (.int .i64 xn)∧W.cell? ⟨gx,ox + i * 4 + 3,none⟩ = some (.int .i64 pt)):=fun W hW => by
          obtain ⟨g,o,e,hc⟩:=hW.hat hKa
          injection e with e
          injection e with e1 e2 _
          subst e1 e2
          obtain ⟨_,_,e,k0,k1,k2,k3⟩:=HH.out i _ HX.out W hW.gq.be
          injection e with e
          injection e with e1 e2 _
          subst e1 e2
          exact ⟨by rw [hD]; exact hc,k0,k1,k2,k3⟩
         have HHM : Hid (Calls Tryz.prog 35 #[.string D,.agg #[.int .i64 kd,.int .i64 st,.int .i64 xn,.int .i64 pt]] w6.drew fun e w' => ∃ t,e = .returned (.string t)∧Hid (Zq.HT D t∧LZ w w' X Bd K M bm (.slice (some ⟨g0,o0,none⟩) j sc) (.slice (some ⟨gh,oh,none⟩) j rc) bs s O (at_ :: L))∧w'.cell? ⟨gh,oh + at_,none⟩ = some (.string D)∧w'.cell? ⟨gx,ox + i * 4,none⟩ = some (.int .i64 kd)∧w'.cell? ⟨gx,ox + i * 4 + 1,none⟩ = some (.int .i64 st)∧w'.cell? ⟨gx,ox + i * 4 + 2,none⟩ = some (.int .i64 xn)∧w'.cell? ⟨gx,ox + i * 4 + 3,none⟩ = some (.int .i64 pt)):=by
          refine (Zq.harmed_any D hDz.1 hDz.2 kd st xn pt w6.drew).mono ?_
          rintro e w' ⟨t,rfl,hT,hb⟩
          have hz:=HZ9.out.bel (W':=w') ⟨hb.os,hb.tape,hb.output,hb.size,hb.block⟩
          exact ⟨t,rfl,⟨hT,hz⟩,HS9.out w' hz⟩
         have hS6 : w6.drew.cell? ⟨gh,oh + at_,none⟩ = some (.string D)∧w6.drew.cell? ⟨gx,ox + i * 4,none⟩ = some (.int .i64 kd)∧w6.drew.cell? ⟨gx,ox + i * 4 + 1,none⟩ = some (.int .i64 st)∧w6.drew.cell? ⟨gx,ox + i * 4 + 2,none⟩ = some (.int .i64 xn)∧w6.drew.cell? ⟨gx,ox + i * 4 + 3,none⟩ = some (.int .i64 pt):=HS9.out w6 HZ9.out
         have bA : (at_ : Int) < (j : Int):=by omega
         have bB : (0 : Int) ≤ (at_ : Int):=by omega
         have HD:=hide hD
         clear hD HS9
         go_upto_region 28 with fail
         go_region_held3 (fun w' => w'.cell? ⟨gh,oh + at_,none⟩ = some (.string D)∧w'.cell? ⟨gx,ox + i * 4,none⟩ = some (.int .i64 kd)∧w'.cell? ⟨gx,ox + i * 4 + 1,none⟩ = some (.int .i64 st)∧w'.cell? ⟨gx,ox + i * 4 + 2,none⟩ = some (.int .i64 xn)∧w'.cell? ⟨gx,ox + i * 4 + 3,none⟩ = some (.int .i64 pt)) (first | with_reducible assumption) (first
          | (go_at_call 35; refine HHM.out.mono ?_; rintro e w8 ⟨t,rfl,h8,hs8⟩))
         obtain ⟨v0,_⟩:=hs8
         have htz : t.size ≤ 131072:=by have:=h8.out.1.1; omega
         obtain ⟨g1,o1,c1,e1,hsv,hcl,hse⟩:=h8.out.2.set (a:=at_) (t:=t) hOl htz
         injection hsv with q1 qn q3
         injection q1 with q1
         injection q1 with q1 q2 _
         subst q1 q2 q3
         clear qn
         have HSE:=hide hse
         have hcb : c ≤ 8:=by have:=HZ.out.2.le; omega
         have HE : Hid (∀ hd : DecidableEq (Option ByteArray),HL K M s (O.set at_ (some t)) (at_ :: L) (c + @ite _ (some t = some (Zq.shB K M s at_)) (hd _ _) 0 1)):=fun hd => by
          have hk:=ht_ok (K:=K) (M:=M) (s:=s) (a:=at_) (t:=t) HKM.out.1 (by have:=HKM.out; omega) (by omega) hKa (by rw [← HD.out]; exact h8.out.1)
          exact HZ.out.2.hit hKa hin hk (fun d h => by cases h; exact htz) hd
         clear hse hS6 HHM
         by_cases htD : t = D
         ·have HE2 : Hid (HL K M s (O.set at_ (some t)) (at_ :: L) c):=by
           have:=HE.out (fun _ _ => Classical.propDecidable _)
           rw [if_pos (by rw [htD,HD.out])] at this
           exact this
          clear HE
          subst htD
          go_wp2_with fail
          refine HSE.out.mono ?_
          rintro e w7 ⟨rfl,h7⟩
          go_wp2
          exact ⟨⟨c,i + 1,at_ :: L,_,by omega,rfl,by go_num,by rw [List.length_cons]; omega,⟨h7.out,HE2.out⟩⟩,by simp [intOf]; omega⟩
         ·have HE2 : Hid (HL K M s (O.set at_ (some t)) (at_ :: L) (c + 1)):=by
           have:=HE.out (fun _ _ => Classical.propDecidable _)
           rw [if_neg (by intro h; injection h with h; exact htD (by rw [HD.out]; exact h))] at this
           exact this
          obtain ⟨dt1,dt2⟩:=Zq.unlike_tests htD
          clear HE htD
          go_wp2_with fail
          refine HSE.out.mono ?_
          rintro e w7 ⟨rfl,h7⟩
          go_wp2
          exact ⟨⟨c + 1,i + 1,at_ :: L,_,by omega,by go_num,by go_num,by rw [List.length_cons]; omega,⟨h7.out,HE2.out⟩⟩,by simp [intOf]; omega⟩
      ·rw [decide_eq_false hcon]
       have hGL:=HZ.out.1.gq
       have hHO:=HZ.out.2.ho
       have hcM : hN K M s O ≤ M:=by have:=HZ.out.2.le; have:=HZ.out.2.cn; omega
       have hKl : K + M ≤ 255:=by have:=HKM.out; omega
       have hsl : s.size ≤ 65536:=by omega
       have HG1 : Hid (∀ (W7 : World) (z : Option Nat),Hid (BW wc W7 z)→Calls Tryz.prog 25 #[.agg #[.int .i64 (K : Int),.int .i64 (M : Int)],.string ⟨#[110,97,109,101]⟩,.string (idB s)] W7 fun e w' => ∃ b2,e = .returned (.pointer (some ⟨b2,0,none⟩))∧Hid (JW wc w' b2 (getP K M nmN (idB s) kGet) z)∧KK X K M w'):=by
        intro W7 z hz
        exact l_job hGL hz.out HKM.out.1 hKl
       have HG2 : Hid (∀ (W8 : World) (b2 : Nat) (z : Option Nat),Hid (JW wc W8 b2 (getP K M nmN (idB s) kGet) z)→Calls Tryz.prog 33 #[.pointer (some ⟨b2,0,none⟩),.slice (some ⟨g0,o0,none⟩) j sc] W8 fun e w9 => ∃ ai ci at_ ct,e = .returned (.tuple #[.agg #[.int .i64 0,.string ⟨#[]⟩,.int .i64 0,.slice ai 0 ci,.slice at_ 1 ct,.slice none 0 0,.slice none 0 0],.bool true])∧Hid (RW wc w9 b2 ⟨0,0,[],[s]⟩ (K + M) (fun i => X < i∧i < Bd) (.slice (some ⟨g0,o0,none⟩) j sc) (sts 10000 3 nmN O) bs (.slice ai 0 ci) (.slice at_ 1 ct) z)∧KK X K M w9):=by
        intro W8 b2 z hz
        exact l_run hGL hHO hcM HZ.out.2.sm HKM.out.1 HKM.out.2.1 hsl hz.out
       have HG3 : Hid (∀ (W : World) (b2 : Nat) (ai at_ : Option Addr) (ci ct q : Nat),Hid (RW wc W b2 ⟨0,0,[],[s]⟩ (K + M) (fun i => X < i∧i < Bd) (.slice (some ⟨g0,o0,none⟩) j sc) (sts 10000 3 nmN O) bs (.slice ai 0 ci) (.slice at_ 1 ct) (some q))→∃ V,(Instr.storeAt 63 (.pointer (some ⟨q,0,none⟩)) (.agg #[.int .i64 0,.string ⟨#[]⟩,.int .i64 0,.slice ai 0 ci,.slice at_ 1 ct,.slice none 0 0,.slice none 0 0])).run Tryz.prog W = .ok () V∧Hid (RV wc V b2 ⟨0,0,[],[s]⟩ (K + M) (fun i => X < i∧i < Bd) (.slice (some ⟨g0,o0,none⟩) j sc) (sts 10000 3 nmN O) bs (.slice ai 0 ci) (.slice at_ 1 ct) q)∧KK X K M V):=by
        intro W b2 ai at_ ci ct q hR
        exact l_store hGL hR.out
       have HG4 : Hid (∀ (V : World) (b2 : Nat) (ai at_ : Option Addr) (ci ct q : Nat),Hid (RV wc V b2 ⟨0,0,[],[s]⟩ (K + M) (fun i => X < i∧i < Bd) (.slice (some ⟨g0,o0,none⟩) j sc) (sts 10000 3 nmN O) bs (.slice ai 0 ci) (.slice at_ 1 ct) q)→Hid (LG w V X Bd K M bm (.slice (some ⟨g0,o0,none⟩) j sc) (.slice (some ⟨gh,oh,none⟩) j rc) bs s O q)):=by
        intro V b2 ai at_ ci ct q hV
        exact l_end HZ.out.1 hV.out
       have HS0 : Hid (∀ (B : Nat) (W7 : World) (z : Option Nat),BW wc W7 z→B < W7.heap.size→W7.cell? ⟨B,0,none⟩ = some (.string s)→Calls Tryz.prog 37 #[.slice (some ⟨B,0,none⟩) 1 1] W7 fun e w7 => e = .returned (.string (idB s))∧Hid (BW wc w7 z)∧KK X K M w7):=by
        intro B W7 z hz hB hc
        exact l_sum hGL hsl hz hB hc
       have bt : BW wc (wc.alloc (.cells #[.string s] 9)) none:=(BW.start wc).bel ((Below.refl _ _).alloc (Nat.le_refl _) _)
       have bz : BW wc (wc.alloc (.cells #[.int .i64 0,.string ⟨#[]⟩,.int .i64 0,.slice none 0 0,.slice none 0 0,.slice none 0 0,.slice none 0 0] 63)) (some wc.heap.size):=(BW.start wc).al
       have HT1 : Hid (Calls Tryz.prog 37 #[.slice (some ⟨wc.heap.size,0,none⟩) 1 1] (wc.alloc (.cells #[.string s] 9)).drew fun e w7 => e = .returned (.string (idB s))∧Hid (BW wc w7 none)∧KK X K M w7):=by
        have h9 : (wc.alloc (.cells #[.string s] 9)).drew.heap[wc.heap.size]? = some (.cells #[.string s] 9 (0,0)):=heap_alloc_new wc _
        exact HS0.out _ _ _ bt.drew (lt_of_block h9) (cell1 h9).1
       have HT3 : Hid (Calls Tryz.prog 37 #[.slice (some ⟨wc.heap.size,0,none⟩) 1 1] ((wc.alloc (.cells #[.string s] 9)).alloc (.cells #[.int .i64 0,.string ⟨#[]⟩,.int .i64 0,.slice none 0 0,.slice none 0 0,.slice none 0 0,.slice none 0 0] 63)).drew fun e w7 => e = .returned (.string (idB s))∧Hid (BW wc w7 (some (wc.heap.size + 1)))∧KK X K M w7):=by
        have h8 : (wc.alloc (.cells #[.string s] 9)).heap[wc.heap.size]? = some (.cells #[.string s] 9 (0,0)):=heap_alloc_new wc _
        have hb9 : Below (wc.alloc (.cells #[.string s] 9)).heap.size (wc.alloc (.cells #[.string s] 9)) ((wc.alloc (.cells #[.string s] 9)).alloc (.cells #[.int .i64 0,.string ⟨#[]⟩,.int .i64 0,.slice none 0 0,.slice none 0 0,.slice none 0 0,.slice none 0 0] 63)):=(Below.refl _ _).alloc (Nat.le_refl _) _
        have h9 : ((wc.alloc (.cells #[.string s] 9)).alloc (.cells #[.int .i64 0,.string ⟨#[]⟩,.int .i64 0,.slice none 0 0,.slice none 0 0,.slice none 0 0,.slice none 0 0] 63)).drew.heap[wc.heap.size]? = some (.cells #[.string s] 9 (0,0)):=(hb9.block _ (lt_of_block h8)).trans h8
        have hz:=bt.al
        have e : (wc.alloc (.cells #[.string s] 9)).heap.size = wc.heap.size + 1:=by simp
        rw [e] at hz
        exact HS0.out _ _ _ hz.drew (lt_of_block h9) (cell1 h9).1
       have HT2 : Hid (Calls Tryz.prog 37 #[.slice (some ⟨wc.heap.size + 1,0,none⟩) 1 1] ((wc.alloc (.cells #[.int .i64 0,.string ⟨#[]⟩,.int .i64 0,.slice none 0 0,.slice none 0 0,.slice none 0 0,.slice none 0 0] 63)).alloc (.cells #[.string s] 9)).drew fun e w7 => e = .returned (.string (idB s))∧Hid (BW wc w7 (some wc.heap.size))∧KK X K M w7):=by
        have e : (wc.alloc (.cells #[.int .i64 0,.string ⟨#[]⟩,.int .i64 0,.slice none 0 0,.slice none 0 0,.slice none 0 0,.slice none 0 0] 63)).heap.size = wc.heap.size + 1:=by simp
        have h9 : ((wc.alloc (.cells #[.int .i64 0,.string ⟨#[]⟩,.int .i64 0,.slice none 0 0,.slice none 0 0,.slice none 0 0,.slice none 0 0] 63)).alloc (.cells #[.string s] 9)).drew.heap[wc.heap.size + 1]? = some (.cells #[.string s] 9 (0,0)):=by
         rw [← e]
         exact heap_alloc_new (wc.alloc (.cells #[.int .i64 0,.string ⟨#[]⟩,.int .i64 0,.slice none 0 0,.slice none 0 0,.slice none 0 0,.slice none 0 0] 63)) _
        exact HS0.out _ _ _ (bz.bel ((Below.refl _ _).alloc (Nat.le_refl _) _)).drew (lt_of_block h9) (cell1 h9).1
       have HAL : Hid (∀ W,Below wc.heap.size wc W→KK X K M (W.alloc (.cells #[.int .i64 0,.string ⟨#[]⟩,.int .i64 0,.slice none 0 0,.slice none 0 0,.slice none 0 0,.slice none 0 0] 63))):=fun W hb => hGL.kb (hb.alloc hb.size _)
       have HAM : Hid (∀ W,Gs (Qs bs) wc W→KK X K M (W.alloc (.cells #[.int .i64 0,.string ⟨#[]⟩,.int .i64 0,.slice none 0 0,.slice none 0 0,.slice none 0 0,.slice none 0 0] 63))):=fun W hg => hGL.kg (hg.bel ((Below.refl _ _).alloc (Nat.le_refl _) _))
       have bb0:=Below.refl wc.heap.size wc
       have HA_t : Hid (KK X K M (wc.alloc (.cells #[.string s] 9)).drew):=(hGL.kb (bb0.alloc (Nat.le_refl _) _) : KK X K M (wc.alloc (.cells #[.string s] 9)))
       have HA_z : Hid (KK X K M (wc.alloc (.cells #[.int .i64 0,.string ⟨#[]⟩,.int .i64 0,.slice none 0 0,.slice none 0 0,.slice none 0 0,.slice none 0 0] 63)).drew):=(hGL.kb (bb0.alloc (Nat.le_refl _) _) : KK X K M (wc.alloc (.cells #[.int .i64 0,.string ⟨#[]⟩,.int .i64 0,.slice none 0 0,.slice none 0 0,.slice none 0 0,.slice none 0 0] 63)))
       have HA_tz : Hid (KK X K M ((wc.alloc (.cells #[.string s] 9)).alloc (.cells #[.int .i64 0,.string ⟨#[]⟩,.int .i64 0,.slice none 0 0,.slice none 0 0,.slice none 0 0,.slice none 0 0] 63)).drew):=(hGL.kb ((bb0.alloc (Nat.le_refl _) _).alloc (by simp) _) : KK X K M ((wc.alloc (.cells #[.string s] 9)).alloc (.cells #[.int .i64 0,.string ⟨#[]⟩,.int .i64 0,.slice none 0 0,.slice none 0 0,.slice none 0 0,.slice none 0 0] 63)))
       have HA_zt : Hid (KK X K M ((wc.alloc (.cells #[.int .i64 0,.string ⟨#[]⟩,.int .i64 0,.slice none 0 0,.slice none 0 0,.slice none 0 0,.slice none 0 0] 63)).alloc (.cells #[.string s] 9)).drew):=(hGL.kb ((bb0.alloc (Nat.le_refl _) _).alloc (by simp) _) : KK X K M ((wc.alloc (.cells #[.int .i64 0,.string ⟨#[]⟩,.int .i64 0,.slice none 0 0,.slice none 0 0,.slice none 0 0,.slice none 0 0] 63)).alloc (.cells #[.string s] 9)))
       have hHeld0 : KK X K M wc.drew:=⟨z0,z1⟩
       have HHO:=hide (And.intro hHO (And.intro hcM (And.intro hKl hsl)))
       clear bb0 bt bz HS0 hGL hHO hcM hKl hsl
       go_upto_region 32 with fail
       go_cut [21,22] (fun u1 u2 wx => u2 = .bool true∧∃ q,u1 = .pointer (some ⟨q,0,none⟩)∧Hid (LG w wx X Bd K M bm (.slice (some ⟨g0,o0,none⟩) j sc) (.slice (some ⟨gh,oh,none⟩) j rc) bs s O q))
       case first =>
        refine AnyZ.start (S:=fun w' => w'.cell? ⟨X,0,none⟩ = some (.int .i64 (K : Int))∧w'.cell? ⟨X,1,none⟩ = some (.int .i64 (M : Int))) (z:=99) (by kernel_rfl) ?_
        refine AnyZ.take (i:=0) (d:=143) (v:=.agg #[.int .i64 (K : Int),.int .i64 (M : Int)]) rfl rfl (by kernel_rfl) (fun _ _ _ h => h) (Or.inl ⟨by rfl,fun w' hSw => ?_⟩) hHeld0 ?_
        ·obtain ⟨_,_⟩:=hSw
         go_simp
        try simp only [List.setIfInBounds_toArray,List.set_cons_zero,List.set_cons_succ]
        refine AnyZ.take (i:=1) (d:=144) (v:=.string s) rfl rfl (by kernel_rfl) (fun _ _ _ h => h) (Or.inl ⟨by rfl,fun w' hSw => ?_⟩) hHeld0 ?_
        ·obtain ⟨_,_⟩:=hSw
         go_simp
        try simp only [List.setIfInBounds_toArray,List.set_cons_zero,List.set_cons_succ]
        refine AnyZ.take (i:=5) (d:=148) (v:=.slice (some ⟨g0,o0,none⟩) j sc) rfl rfl (by kernel_rfl) (fun _ _ _ h => h) (Or.inl ⟨by rfl,fun w' hSw => ?_⟩) hHeld0 ?_
        ·obtain ⟨_,_⟩:=hSw
         go_simp
        try simp only [List.setIfInBounds_toArray,List.set_cons_zero,List.set_cons_succ]
        refine AnyZ.two (i:=2) (j:=10) (by kernel_rfl) rfl rfl (fun K hK => ?_) (fun K hK => ?_)
        ·go_simp
         refine hK.out _ _ (fun _ => HA_t.out) (fun _ => ?_)
         clear hK K
         try simp only [Act.put,List.setIfInBounds_toArray,List.set_cons_zero,List.set_cons_succ]
         refine AnyZ.two (i:=3) (j:=10) (by kernel_rfl) rfl rfl (fun K hK => ?_) (fun K hK => ?_)
         ·go_simp
          refine HT1.out.mono ?_
          rintro e w7 ⟨rfl,h7,hk7⟩
          refine hK.out _ _ (fun _ => hk7) (fun _ => ?_)
          clear hK K
          try simp only [Act.put,List.setIfInBounds_toArray,List.set_cons_zero,List.set_cons_succ]
          refine AnyZ.two (i:=4) (j:=10) (by kernel_rfl) rfl rfl (fun K hK => ?_) (fun K hK => ?_)
          ·go_simp
           refine (HG1.out _ _ h7).mono ?_
           rintro e w8 ⟨b2,rfl,h8,hk8⟩
           refine hK.out _ _ (fun _ => hk8) (fun _ => ?_)
           clear hK K
           try simp only [Act.put,List.setIfInBounds_toArray,List.set_cons_zero,List.set_cons_succ]
           refine AnyZ.two (i:=6) (j:=10) (by kernel_rfl) rfl rfl (fun K hK => ?_) (fun K hK => ?_)
           ·go_simp
            refine (HG2.out _ _ _ h8).mono ?_
            rintro e w9 ⟨ai,ci,at_,ct,rfl,h9,hk9⟩
            refine hK.out _ _ (fun _ => hk9) (fun _ => ?_)
            clear hK K
            try simp only [Act.put,List.setIfInBounds_toArray,List.set_cons_zero,List.set_cons_succ]
            have hHeld9 : KK X K M _:=hk9
            refine AnyZ.take (i:=7) (d:=142) (v:=.tuple #[.agg #[.int .i64 0,.string ⟨#[]⟩,.int .i64 0,.slice ai 0 ci,.slice at_ 1 ct,.slice none 0 0,.slice none 0 0],.bool true]) rfl rfl (by kernel_rfl) (fun _ _ _ h => h) (Or.inl ⟨by rfl,fun w' hSw => ?_⟩) hHeld9 ?_
            ·obtain ⟨_,_⟩:=hSw
             go_simp
            try simp only [List.setIfInBounds_toArray,List.set_cons_zero,List.set_cons_succ]
            refine AnyZ.take (i:=8) (d:=150) (v:=.agg #[.int .i64 0,.string ⟨#[]⟩,.int .i64 0,.slice ai 0 ci,.slice at_ 1 ct,.slice none 0 0,.slice none 0 0]) rfl rfl (by kernel_rfl) (fun _ _ _ h => h) (Or.inl ⟨by rfl,fun w' hSw => ?_⟩) hHeld9 ?_
            ·obtain ⟨_,_⟩:=hSw
             go_simp
            try simp only [List.setIfInBounds_toArray,List.set_cons_zero,List.set_cons_succ]
            refine AnyZ.take (i:=9) (d:=151) (v:=.bool true) rfl rfl (by kernel_rfl) (fun _ _ _ h => h) (Or.inl ⟨by rfl,fun w' hSw => ?_⟩) hHeld9 ?_
            ·obtain ⟨_,_⟩:=hSw
             go_simp
            try simp only [List.setIfInBounds_toArray,List.set_cons_zero,List.set_cons_succ]
            refine AnyZ.one (i:=10) (by kernel_rfl) rfl fun K hK => ?_
            go_simp
            refine hK.out _ _ (fun _ => (HAM.out _ h9.out.gs)) (fun _ => ?_)
            clear hK K
            try simp only [Act.put,List.setIfInBounds_toArray,List.set_cons_zero,List.set_cons_succ]
            have hHeld : KK X K M _:=(HAM.out _ h9.out.gs)
            obtain ⟨V,hV,HV,hkV⟩:=HG3.out _ _ _ _ _ _ _ (hide h9.out.al)
            refine AnyZ.one (i:=11) (by kernel_rfl) rfl fun K hK => ?_
            refine step_store_run rfl 63 _ _ rfl _ _ rfl rfl V hV ?_
            refine hK.out _ _ (fun _ => hkV) (fun _ => ?_)
            clear hK K
            try simp only [Act.put]
            refine AnyZ.take (i:=12) (d:=22) (v:=.bool true) rfl rfl (by kernel_rfl) (fun _ _ _ h => h) (Or.inl ⟨by rfl,fun w' hSw => ?_⟩) hkV ?_
            ·obtain ⟨_,_⟩:=hSw
             go_simp
            try simp only [List.setIfInBounds_toArray]
            refine AnyZ.done (by kernel_rfl) ?_ _
            have HVx:=HG4.out _ _ _ _ _ _ _ HV
            clear HG1 HG2 HG3 HG4 HT1 HT2 HT3 HA_t HA_z HA_tz HA_zt HAL HAM hV HV h9 h8 h7 hHeld hkV
            go_wp2_with fail
            go_meet
            case rel => exact ⟨rfl,_,rfl,HVx⟩
           ·go_simp
            refine hK.out _ _ (fun _ => (HAL.out _ h8.out.be)) (fun _ => ?_)
            clear hK K
            try simp only [Act.put,List.setIfInBounds_toArray,List.set_cons_zero,List.set_cons_succ]
            refine AnyZ.one (i:=6) (by kernel_rfl) rfl fun K hK => ?_
            go_simp
            refine (HG2.out _ _ _ (hide h8.out.al)).mono ?_
            rintro e w9 ⟨ai,ci,at_,ct,rfl,h9,hk9⟩
            refine hK.out _ _ (fun _ => hk9) (fun _ => ?_)
            clear hK K
            try simp only [Act.put,List.setIfInBounds_toArray,List.set_cons_zero,List.set_cons_succ]
            have hHeld : KK X K M _:=hk9
            refine AnyZ.take (i:=7) (d:=142) (v:=.tuple #[.agg #[.int .i64 0,.string ⟨#[]⟩,.int .i64 0,.slice ai 0 ci,.slice at_ 1 ct,.slice none 0 0,.slice none 0 0],.bool true]) rfl rfl (by kernel_rfl) (fun _ _ _ h => h) (Or.inl ⟨by rfl,fun w' hSw => ?_⟩) hHeld ?_
            ·obtain ⟨_,_⟩:=hSw
             go_simp
            try simp only [List.setIfInBounds_toArray,List.set_cons_zero,List.set_cons_succ]
            refine AnyZ.take (i:=8) (d:=150) (v:=.agg #[.int .i64 0,.string ⟨#[]⟩,.int .i64 0,.slice ai 0 ci,.slice at_ 1 ct,.slice none 0 0,.slice none 0 0]) rfl rfl (by kernel_rfl) (fun _ _ _ h => h) (Or.inl ⟨by rfl,fun w' hSw => ?_⟩) hHeld ?_
            ·obtain ⟨_,_⟩:=hSw
             go_simp
            try simp only [List.setIfInBounds_toArray,List.set_cons_zero,List.set_cons_succ]
            refine AnyZ.take (i:=9) (d:=151) (v:=.bool true) rfl rfl (by kernel_rfl) (fun _ _ _ h => h) (Or.inl ⟨by rfl,fun w' hSw => ?_⟩) hHeld ?_
            ·obtain ⟨_,_⟩:=hSw
             go_simp
            try simp only [List.setIfInBounds_toArray,List.set_cons_zero,List.set_cons_succ]
            obtain ⟨V,hV,HV,hkV⟩:=HG3.out _ _ _ _ _ _ _ h9
            refine AnyZ.one (i:=11) (by kernel_rfl) rfl fun K hK => ?_
            refine step_store_run rfl 63 _ _ rfl _ _ rfl rfl V hV ?_
            refine hK.out _ _ (fun _ => hkV) (fun _ => ?_)
            clear hK K
            try simp only [Act.put]
            refine AnyZ.take (i:=12) (d:=22) (v:=.bool true) rfl rfl (by kernel_rfl) (fun _ _ _ h => h) (Or.inl ⟨by rfl,fun w' hSw => ?_⟩) hkV ?_
            ·obtain ⟨_,_⟩:=hSw
             go_simp
            try simp only [List.setIfInBounds_toArray]
            refine AnyZ.done (by kernel_rfl) ?_ _
            have HVx:=HG4.out _ _ _ _ _ _ _ HV
            clear HG1 HG2 HG3 HG4 HT1 HT2 HT3 HA_t HA_z HA_tz HA_zt HAL HAM hV HV h9 h8 h7 hHeld hkV
            go_wp2_with fail
            go_meet
            case rel => exact ⟨rfl,_,rfl,HVx⟩
          ·go_simp
           refine hK.out _ _ (fun _ => (HAL.out _ h7.out.be)) (fun _ => ?_)
           clear hK K
           try simp only [Act.put,List.setIfInBounds_toArray,List.set_cons_zero,List.set_cons_succ]
           refine AnyZ.one (i:=4) (by kernel_rfl) rfl fun K hK => ?_
           go_simp
           refine (HG1.out _ _ (hide h7.out.al)).mono ?_
           rintro e w8 ⟨b2,rfl,h8,hk8⟩
           refine hK.out _ _ (fun _ => hk8) (fun _ => ?_)
           clear hK K
           try simp only [Act.put,List.setIfInBounds_toArray,List.set_cons_zero,List.set_cons_succ]
           refine AnyZ.one (i:=6) (by kernel_rfl) rfl fun K hK => ?_
           go_simp
           refine (HG2.out _ _ _ h8).mono ?_
           rintro e w9 ⟨ai,ci,at_,ct,rfl,h9,hk9⟩
           refine hK.out _ _ (fun _ => hk9) (fun _ => ?_)
           clear hK K
           try simp only [Act.put,List.setIfInBounds_toArray,List.set_cons_zero,List.set_cons_succ]
           have hHeld : KK X K M _:=hk9
           refine AnyZ.take (i:=7) (d:=142) (v:=.tuple #[.agg #[.int .i64 0,.string ⟨#[]⟩,.int .i64 0,.slice ai 0 ci,.slice at_ 1 ct,.slice none 0 0,.slice none 0 0],.bool true]) rfl rfl (by kernel_rfl) (fun _ _ _ h => h) (Or.inl ⟨by rfl,fun w' hSw => ?_⟩) hHeld ?_
           ·obtain ⟨_,_⟩:=hSw
            go_simp
           try simp only [List.setIfInBounds_toArray,List.set_cons_zero,List.set_cons_succ]
           refine AnyZ.take (i:=8) (d:=150) (v:=.agg #[.int .i64 0,.string ⟨#[]⟩,.int .i64 0,.slice ai 0 ci,.slice at_ 1 ct,.slice none 0 0,.slice none 0 0]) rfl rfl (by kernel_rfl) (fun _ _ _ h => h) (Or.inl ⟨by rfl,fun w' hSw => ?_⟩) hHeld ?_
           ·obtain ⟨_,_⟩:=hSw
            go_simp
           try simp only [List.setIfInBounds_toArray,List.set_cons_zero,List.set_cons_succ]
           refine AnyZ.take (i:=9) (d:=151) (v:=.bool true) rfl rfl (by kernel_rfl) (fun _ _ _ h => h) (Or.inl ⟨by rfl,fun w' hSw => ?_⟩) hHeld ?_
           ·obtain ⟨_,_⟩:=hSw
            go_simp
           try simp only [List.setIfInBounds_toArray,List.set_cons_zero,List.set_cons_succ]
           obtain ⟨V,hV,HV,hkV⟩:=HG3.out _ _ _ _ _ _ _ h9
           refine AnyZ.one (i:=11) (by kernel_rfl) rfl fun K hK => ?_
           refine step_store_run rfl 63 _ _ rfl _ _ rfl rfl V hV ?_
           refine hK.out _ _ (fun _ => hkV) (fun _ => ?_)
           clear hK K
           try simp only [Act.put]
           refine AnyZ.take (i:=12) (d:=22) (v:=.bool true) rfl rfl (by kernel_rfl) (fun _ _ _ h => h) (Or.inl ⟨by rfl,fun w' hSw => ?_⟩) hkV ?_
           ·obtain ⟨_,_⟩:=hSw
            go_simp
           try simp only [List.setIfInBounds_toArray]
           refine AnyZ.done (by kernel_rfl) ?_ _
           have HVx:=HG4.out _ _ _ _ _ _ _ HV
           clear HG1 HG2 HG3 HG4 HT1 HT2 HT3 HA_t HA_z HA_tz HA_zt HAL HAM hV HV h9 h8 h7 hHeld hkV
           go_wp2_with fail
           go_meet
           case rel => exact ⟨rfl,_,rfl,HVx⟩
         ·go_simp
          refine hK.out _ _ (fun _ => HA_tz.out) (fun _ => ?_)
          clear hK K
          try simp only [Act.put,List.setIfInBounds_toArray,List.set_cons_zero,List.set_cons_succ]
          refine AnyZ.one (i:=3) (by kernel_rfl) rfl fun K hK => ?_
          go_simp
          refine HT3.out.mono ?_
          rintro e w7 ⟨rfl,h7,hk7⟩
          refine hK.out _ _ (fun _ => hk7) (fun _ => ?_)
          clear hK K
          try simp only [Act.put,List.setIfInBounds_toArray,List.set_cons_zero,List.set_cons_succ]
          refine AnyZ.one (i:=4) (by kernel_rfl) rfl fun K hK => ?_
          go_simp
          refine (HG1.out _ _ h7).mono ?_
          rintro e w8 ⟨b2,rfl,h8,hk8⟩
          refine hK.out _ _ (fun _ => hk8) (fun _ => ?_)
          clear hK K
          try simp only [Act.put,List.setIfInBounds_toArray,List.set_cons_zero,List.set_cons_succ]
          refine AnyZ.one (i:=6) (by kernel_rfl) rfl fun K hK => ?_
          go_simp
          refine (HG2.out _ _ _ h8).mono ?_
          rintro e w9 ⟨ai,ci,at_,ct,rfl,h9,hk9⟩
          refine hK.out _ _ (fun _ => hk9) (fun _ => ?_)
          clear hK K
          try simp only [Act.put,List.setIfInBounds_toArray,List.set_cons_zero,List.set_cons_succ]
          have hHeld : KK X K M _:=hk9
          refine AnyZ.take (i:=7) (d:=142) (v:=.tuple #[.agg #[.int .i64 0,.string ⟨#[]⟩,.int .i64 0,.slice ai 0 ci,.slice at_ 1 ct,.slice none 0 0,.slice none 0 0],.bool true]) rfl rfl (by kernel_rfl) (fun _ _ _ h => h) (Or.inl ⟨by rfl,fun w' hSw => ?_⟩) hHeld ?_
          ·obtain ⟨_,_⟩:=hSw
           go_simp
          try simp only [List.setIfInBounds_toArray,List.set_cons_zero,List.set_cons_succ]
          refine AnyZ.take (i:=8) (d:=150) (v:=.agg #[.int .i64 0,.string ⟨#[]⟩,.int .i64 0,.slice ai 0 ci,.slice at_ 1 ct,.slice none 0 0,.slice none 0 0]) rfl rfl (by kernel_rfl) (fun _ _ _ h => h) (Or.inl ⟨by rfl,fun w' hSw => ?_⟩) hHeld ?_
          ·obtain ⟨_,_⟩:=hSw
           go_simp
          try simp only [List.setIfInBounds_toArray,List.set_cons_zero,List.set_cons_succ]
          refine AnyZ.take (i:=9) (d:=151) (v:=.bool true) rfl rfl (by kernel_rfl) (fun _ _ _ h => h) (Or.inl ⟨by rfl,fun w' hSw => ?_⟩) hHeld ?_
          ·obtain ⟨_,_⟩:=hSw
           go_simp
          try simp only [List.setIfInBounds_toArray,List.set_cons_zero,List.set_cons_succ]
          obtain ⟨V,hV,HV,hkV⟩:=HG3.out _ _ _ _ _ _ _ h9
          refine AnyZ.one (i:=11) (by kernel_rfl) rfl fun K hK => ?_
          refine step_store_run rfl 63 _ _ rfl _ _ rfl rfl V hV ?_
          refine hK.out _ _ (fun _ => hkV) (fun _ => ?_)
          clear hK K
          try simp only [Act.put]
          refine AnyZ.take (i:=12) (d:=22) (v:=.bool true) rfl rfl (by kernel_rfl) (fun _ _ _ h => h) (Or.inl ⟨by rfl,fun w' hSw => ?_⟩) hkV ?_
          ·obtain ⟨_,_⟩:=hSw
           go_simp
          try simp only [List.setIfInBounds_toArray]
          refine AnyZ.done (by kernel_rfl) ?_ _
          have HVx:=HG4.out _ _ _ _ _ _ _ HV
          clear HG1 HG2 HG3 HG4 HT1 HT2 HT3 HA_t HA_z HA_tz HA_zt HAL HAM hV HV h9 h8 h7 hHeld hkV
          go_wp2_with fail
          go_meet
          case rel => exact ⟨rfl,_,rfl,HVx⟩
        ·go_simp
         refine hK.out _ _ (fun _ => HA_z.out) (fun _ => ?_)
         clear hK K
         try simp only [Act.put,List.setIfInBounds_toArray,List.set_cons_zero,List.set_cons_succ]
         refine AnyZ.one (i:=2) (by kernel_rfl) rfl fun K hK => ?_
         go_simp
         refine hK.out _ _ (fun _ => HA_zt.out) (fun _ => ?_)
         clear hK K
         try simp only [Act.put,List.setIfInBounds_toArray,List.set_cons_zero,List.set_cons_succ]
         refine AnyZ.one (i:=3) (by kernel_rfl) rfl fun K hK => ?_
         go_simp
         refine HT2.out.mono ?_
         rintro e w7 ⟨rfl,h7,hk7⟩
         refine hK.out _ _ (fun _ => hk7) (fun _ => ?_)
         clear hK K
         try simp only [Act.put,List.setIfInBounds_toArray,List.set_cons_zero,List.set_cons_succ]
         refine AnyZ.one (i:=4) (by kernel_rfl) rfl fun K hK => ?_
         go_simp
         refine (HG1.out _ _ h7).mono ?_
         rintro e w8 ⟨b2,rfl,h8,hk8⟩
         refine hK.out _ _ (fun _ => hk8) (fun _ => ?_)
         clear hK K
         try simp only [Act.put,List.setIfInBounds_toArray,List.set_cons_zero,List.set_cons_succ]
         refine AnyZ.one (i:=6) (by kernel_rfl) rfl fun K hK => ?_
         go_simp
         refine (HG2.out _ _ _ h8).mono ?_
         rintro e w9 ⟨ai,ci,at_,ct,rfl,h9,hk9⟩
         refine hK.out _ _ (fun _ => hk9) (fun _ => ?_)
         clear hK K
         try simp only [Act.put,List.setIfInBounds_toArray,List.set_cons_zero,List.set_cons_succ]
         have hHeld : KK X K M _:=hk9
         refine AnyZ.take (i:=7) (d:=142) (v:=.tuple #[.agg #[.int .i64 0,.string ⟨#[]⟩,.int .i64 0,.slice ai 0 ci,.slice at_ 1 ct,.slice none 0 0,.slice none 0 0],.bool true]) rfl rfl (by kernel_rfl) (fun _ _ _ h => h) (Or.inl ⟨by rfl,fun w' hSw => ?_⟩) hHeld ?_
         ·obtain ⟨_,_⟩:=hSw
          go_simp
         try simp only [List.setIfInBounds_toArray,List.set_cons_zero,List.set_cons_succ]
         refine AnyZ.take (i:=8) (d:=150) (v:=.agg #[.int .i64 0,.string ⟨#[]⟩,.int .i64 0,.slice ai 0 ci,.slice at_ 1 ct,.slice none 0 0,.slice none 0 0]) rfl rfl (by kernel_rfl) (fun _ _ _ h => h) (Or.inl ⟨by rfl,fun w' hSw => ?_⟩) hHeld ?_
         ·obtain ⟨_,_⟩:=hSw
          go_simp
         try simp only [List.setIfInBounds_toArray,List.set_cons_zero,List.set_cons_succ]
         refine AnyZ.take (i:=9) (d:=151) (v:=.bool true) rfl rfl (by kernel_rfl) (fun _ _ _ h => h) (Or.inl ⟨by rfl,fun w' hSw => ?_⟩) hHeld ?_
         ·obtain ⟨_,_⟩:=hSw
          go_simp
         try simp only [List.setIfInBounds_toArray,List.set_cons_zero,List.set_cons_succ]
         obtain ⟨V,hV,HV,hkV⟩:=HG3.out _ _ _ _ _ _ _ h9
         refine AnyZ.one (i:=11) (by kernel_rfl) rfl fun K hK => ?_
         refine step_store_run rfl 63 _ _ rfl _ _ rfl rfl V hV ?_
         refine hK.out _ _ (fun _ => hkV) (fun _ => ?_)
         clear hK K
         try simp only [Act.put]
         refine AnyZ.take (i:=12) (d:=22) (v:=.bool true) rfl rfl (by kernel_rfl) (fun _ _ _ h => h) (Or.inl ⟨by rfl,fun w' hSw => ?_⟩) hkV ?_
         ·obtain ⟨_,_⟩:=hSw
          go_simp
         try simp only [List.setIfInBounds_toArray]
         refine AnyZ.done (by kernel_rfl) ?_ _
         have HVx:=HG4.out _ _ _ _ _ _ _ HV
         clear HG1 HG2 HG3 HG4 HT1 HT2 HT3 HA_t HA_z HA_tz HA_zt HAL HAM hV HV h9 h8 h7 hHeld hkV
         go_wp2_with fail
         go_meet
         case rel => exact ⟨rfl,_,rfl,HVx⟩
       case rest =>
       clear HG1 HG2 HG3 HG4 HT1 HT2 HT3 HA_t HA_z HA_tz HA_zt HAL HAM hHeld0
       obtain ⟨rfl,q9,rfl,HV9⟩:=hcut
       generalize wc = V9 at *
       obtain ⟨ids9,gt,ot,ct9,hR9,hc9⟩:=HV9.out.r
       have m0 : V9.cell? ⟨q9,0,none⟩ = some (.int .i64 0):=hR9.cell 0
       have m4 : V9.cell? ⟨q9,4,none⟩ = some (.slice (some ⟨gt,ot,none⟩) 1 ct9):=hR9.cell 4
       obtain ⟨z2,z3⟩:=HV9.out.gq.kc
       have HSC:=hide (l_scrub HV9.out.gq HHO.out.1 HHO.out.2.1 HZ.out.2.sm HKM.out.1 HKM.out.2.1 (by omega))
       rw [← HZ.out.2.cn] at HSC
       have hcb : c ≤ 9:=by have:=HZ.out.2.le; omega
       clear hR9 HZ HHO
       go_wp2_with fail
       refine HSC.out.mono ?_
       rintro e v4 ⟨b2,rfl,zz,HR⟩
       go_wp2_with fail
       refine HR.out.mono ?_
       rintro e v5 ⟨ai,ci,at_,ct,rfl,H5⟩
       obtain ⟨V10,hV⟩ : ∃ V,V = v5.alloc (.cells #[.int .i64 0,.string ⟨#[]⟩,.int .i64 (c : Int),.slice ai 0 ci,.slice at_ 0 ct,.slice none 0 0,.slice none 0 0] 63):=⟨_,rfl⟩
       obtain ⟨q10,hq⟩ : ∃ q,q = v5.heap.size:=⟨_,rfl⟩
       obtain ⟨S10,hG10,hQ10,hl10,ha10⟩:=H5.out V10 hV
       rw [← hq] at hQ10
       have r0 : V10.cell? ⟨q10,0,none⟩ = some (.int .i64 0):=hQ10.r7.cell 0
       have r2 : V10.cell? ⟨q10,2,none⟩ = some (.int .i64 (c : Int)):=hQ10.r7.cell 2
       have HD10 : Hid (LS t1 1 (fun i => Bd ≤ i∧i ≠ bm) V10 (.slice (some ⟨gh,oh,none⟩) j rc) (shL K M s)):=HV9.out.hd.gs hQ10.gs (fun i hi hm => by have:=HV9.out.gq.yp.qs hm; omega)
       have H10:=hide (And.intro hG10 (And.intro hl10 ha10))
       have HVq:=hide (And.intro hV hq)
       clear hV hq H5 HR zz HSC hG10 hQ10 hl10 ha10 HV9 m0 m4 hc9 z2 z3
       go_upto_region 36 with fail
       rw [← HVq.out.1,← HVq.out.2]
       clear HVq
       go_wp2
       go_loopw [195] (fun u wr => ∃ i : Nat,i ≤ j∧u = .int .i64 (i : Int)∧Below V10.heap.size V10 wr) (fun u _ => j - (intOf u).toNat)
       case atStart => exact ⟨0,Nat.zero_le _,rfl,Below.refl _ _⟩
       case round =>
        obtain ⟨i,hi,rfl,hB⟩:=hrel
        clear r0 r2
        by_cases hlt : i < j
        ·have b3 : (i : Int) < (j : Int):=by omega
         have b4 : (0 : Int) ≤ (i : Int):=by omega
         have hiK : i < K + M:=by have:=HKM.out; omega
         obtain ⟨D,hD⟩ : ∃ D,D = Zq.shB K M s i:=⟨_,rfl⟩
         obtain ⟨m',hs'⟩:=H10.out.2.2 i hiK
         rw [← hD] at hs'
         obtain ⟨g1,o1,c1,e1,hsv,hcl,hge⟩:=gq_sget (nm:=nmN) (H10.out.1.bel hB) hs' (by decide)
         injection hsv with q1 qn q3
         injection q1 with q1
         injection q1 with q1 q2 _
         subst q1 q2 q3
         clear qn
         rw [st1_thr] at hge
         have HGE:=hide hge
         have HHD : Hid (∀ W,Below wr.heap.size wr W→W.cell? ⟨gh,oh + i,none⟩ = some (.string D)):=fun W hb => by
          obtain ⟨g2,o2,e2,_,h2⟩:=((HD10.out.bel hB).bel hb).at1 (j:=i) (x:=D) (by rw [shL,List.getElem?_map,List.getElem?_range hiK,hD]; rfl) rfl
          injection e2 with e2
          injection e2 with e21 e22 _
          subst e21 e22
          exact h2
         have HBB:=hide hB
         clear hge hs' hD hB
         go_wp2_with fail
         refine HGE.out.mono ?_
         rintro e w7 ⟨rfl,hb7⟩
         have v0:=HHD.out w7 hb7
         have HB7:=hide (HBB.out.trans (hb7.mono HBB.out.size))
         simp only [Option.getD_some,Option.isSome_some]
         clear hb7
         go_wp2
         exact ⟨⟨i + 1,by omega,by go_num,HB7.out⟩,by simp [intOf]; omega⟩
        ·obtain rfl : i = j:=by omega
         have b3 : ¬ (i : Int) < (i : Int):=by omega
         have HBB:=hide (H10.out.1.bel hB).be
         clear hB
         go_wp2
         go_ret
         exact ⟨rfl,HBB.out⟩
end Go.Proofs.YtagijldedngcoaaGreatDoor

namespace Go.Proofs.YtagijldedngcoaaGreatDoor
open Go.ChangeShapes Go.WideShapes Go.ChangeAt Go.RowKit Go.Lib
theorem Tryz.cIn : Tryz.prog.cellsOf 3 = 1:=by kernel_rfl
theorem Tryz.cHm : Tryz.prog.cellsOf 73 = 4:=by kernel_rfl
instance : Inhabited HR4:=⟨⟨0,0,0,0⟩⟩
theorem trod_struct4 {H : Type} {enc : TypeId × Value→H} {P : Program} {w : World} {base : Nat} {spare : Nat→Bool} {held : Bool} {t : TypeId} {f0 f1 f2 f3 : Field} {fuel : Nat} {cs : List Value} {x : DataW H × List MemPlace} (ht : P.underlying t = some (.struct #[f0,f1,f2,f3])) (h : DataW.trod enc P w base spare held fuel t cs = some x) :
  ∃ y0 y1 y2 y3 n,cs.length = P.cellsOf t∧DataW.trod enc P w base spare held n f0.type ((cs.drop f0.offset).take (P.cellsOf f0.type)) = some y0 ∧
   DataW.trod enc P w base spare held n f1.type ((cs.drop f1.offset).take (P.cellsOf f1.type)) = some y1∧DataW.trod enc P w base spare held n f2.type ((cs.drop f2.offset).take (P.cellsOf f2.type)) = some y2 ∧
   DataW.trod enc P w base spare held n f3.type ((cs.drop f3.offset).take (P.cellsOf f3.type)) = some y3:=by
 obtain ⟨xs,n,_,rfl,hl,hlen,hf⟩:=DataW.trod_struct ht h
 match xs,hlen with
 | [y0,y1,y2,y3],_ => exact ⟨y0,y1,y2,y3,n,hl,by simpa using hf 0 f0 rfl,by simpa using hf 1 f1 rfl,by simpa using hf 2 f2 rfl,by simpa using hf 3 f3 rfl⟩
theorem add_plain (b off j : Nat) : (⟨b,off,none⟩ : Addr).add j = ⟨b,off + j,none⟩:=by
 unfold Addr.add; split <;> simp_all
theorem harms_of {H : Type} {enc : TypeId × Value→H} {w : World} {a : Option Addr} {len cap : Nat} {d : DataW H} {ps : List MemPlace}
  (h : DataW.Trod enc Tryz.prog w 0 (fun _ => true) true 67 (.slice a len cap) d ps) : ∃ l : List HR4,LS h4 4 (fun _ => True) w (.slice a len cap) l∧l.length ≤ 9223372036854775807:=by
 obtain ⟨fuel,hf⟩:=h
 rcases Go.Deep.open_slice Tryz.underlying67 hf with ⟨hcs,_⟩ | ⟨x,l,c,m,n,D,Pl,hcs,_,hlc,hcm,hm,_,hx⟩
 ·simp [Value.cells] at hcs
  obtain ⟨rfl,rfl,rfl⟩:=hcs
  exact ⟨[],⟨_,_,rfl,fun _ => rfl,.inl rfl⟩,Nat.zero_le _⟩
 ·simp [Value.cells] at hcs
  obtain ⟨rfl,rfl,rfl⟩:=hcs
  simp only [if_true] at hm
  subst hm
  by_cases h0 : len = 0
  ·subst h0
   exact ⟨[],⟨_,_,rfl,(fun e => by cases e),.inl rfl⟩,Nat.zero_le _⟩
  have hall : ∀ i,i < len→∃ X : HR4,w.cell? (x.add (i * 4)) = some (.int .i64 X.kd)∧w.cell? (x.add (i * 4 + 1)) = some (.int .i64 X.st)∧w.cell? (x.add (i * 4 + 2)) = some (.int .i64 X.n)∧w.cell? (x.add (i * 4 + 3)) = some (.int .i64 X.pt):=by
   intro i hi
   obtain ⟨cs',h1,h2⟩:=hx i (by omega)
   rw [Tryz.cHm] at h1
   obtain ⟨_,hlen,hcell⟩:=World.cells?_some h1
   obtain ⟨z0,z1,z2,z3,n'',_,q0,q1,q2,q3⟩:=trod_struct4 Tryz.underlying73 h2
   match cs',hlen with
   | [v0,v1,v2,v3],_ =>
    simp [Tryz.cIn] at q0 q1 q2 q3
    have e0:=hcell 0 (by omega)
    have e1:=hcell 1 (by omega)
    have e2:=hcell 2 (by omega)
    have e3:=hcell 3 (by omega)
    rw [Go.Deep.add_add] at e0 e1 e2 e3
    obtain ⟨st,u2,_,_⟩:=DataW.trod_int Tryz.underlying3 q0
    obtain ⟨rk,u3,_,_⟩:=DataW.trod_int Tryz.underlying3 q1
    obtain ⟨na,u4,_,_⟩:=DataW.trod_int Tryz.underlying3 q2
    obtain ⟨da,u5,_,_⟩:=DataW.trod_int Tryz.underlying3 q3
    simp only [List.cons.injEq,and_true] at u2 u3 u4 u5
    subst u2 u3 u4 u5
    exact ⟨⟨st,rk,na,da⟩,by simpa using e0,by simpa using e1,by simpa using e2,by simpa using e3⟩
  obtain ⟨X,hX⟩:=Go.Deep.choose_lt hall
  obtain ⟨b,off,spot⟩:=x
  have hc:=(hX 0 (by omega)).1
  have hspot : spot = none:=by simpa [Addr.add] using World.cell?_spot hc
  subst hspot
  refine ⟨(List.range len).map X,⟨some ⟨b,off,none⟩,m,by simp,(fun e => by cases e),.inr ⟨b,off,rfl,trivial,World.block_lt_of_cell? _ _ hc,fun i y hy j u hu => ?_⟩⟩,by simp; unfold maxLen at hcm; omega⟩
  ·rw [List.getElem?_map] at hy
   obtain ⟨k,hk,rfl⟩:=Option.map_eq_some_iff.1 hy
   have hi : i < len:=by
    have:=(List.getElem?_eq_some_iff.1 hk).1
    simpa using this
   rw [List.getElem?_range hi] at hk
   cases hk
   obtain ⟨c0,c1,c2,c3⟩:=hX i hi
   rw [add_plain] at c0 c1 c2 c3
   rw [← Nat.add_assoc] at c1 c2 c3
   match j,hu with
   | 0,hu => cases hu; exact c0
   | 1,hu => cases hu; exact c1
   | 2,hu => cases hu; exact c2
   | 3,hu => cases hu; exact c3
   | _ + 4,hu => simp [h4] at hu
end Go.Proofs.YtagijldedngcoaaGreatDoor

namespace Go.Proofs.YtagijldedngcoaaGreatDoor.Zq.Sh
open Go.ChangeShapes Go.WideShapes Go.ChangeAt Go.RowKit Go.Lib

theorem Tryz.own : ownKnob Tryz.prog.godebug = none:=by kernel_rfl
theorem Tryz.laidOut : laidOutB Tryz.prog = true:=by kernel_rfl
theorem Tryz.gFirst : Tryz.prog.globalNamed "garret/sha.firstWords" = some 0:=by kernel_rfl
theorem Tryz.gConst : Tryz.prog.globalNamed "garret/sha.constants" = some 1:=by kernel_rfl
theorem Tryz.tFirst : (Tryz.prog.globals[0]?).map (·.type) = some 209:=by kernel_rfl
theorem Tryz.tConst : (Tryz.prog.globals[1]?).map (·.type) = some 246:=by kernel_rfl
theorem Tryz.cells152 : Tryz.prog.cellsOf 152 = 1:=by kernel_rfl
theorem Tryz.cells246 : Tryz.prog.cellsOf 246 = 64:=by kernel_rfl
theorem Tryz.cells209 : Tryz.prog.cellsOf 209 = 8:=by kernel_rfl

abbrev laid2 : List (String × DataW Unit):=[("garret/sha.firstWords",Rows.laid_garret_sha_firstWords),("garret/sha.constants",Rows.laid_garret_sha_constants)]

theorem door_met (os : Os) (args : Array Value) : laidMetH Tryz.prog laid2 ((World.doorLaid Tryz.prog 400 os).forCall (fun _ _ => 0) ⟨#[],args,[]⟩).memory :=
 laidMetH_of_parts3 (fuel:=8) (laidMet_of_run' 8 (by kernel_rfl) (by kernel_rfl)) (by kernel_rfl) (by kernel_rfl)

theorem laid_of {W : World} (h : laidMetH Tryz.prog laid2 W) : Laid W:=by
 rw [MakeChecks.laidMetH_plain _ _ _ (by kernel_rfl)] at h
 obtain ⟨ps,⟨g0,t0,cs0,f0,p0,q0,hg0,ht0,hv0,hd0,⟨g1,t1,cs1,f1,p1,q1,hg1,ht1,hv1,hd1,_,_⟩,_⟩,_,_⟩:=h
 obtain rfl:=Option.some.inj (Tryz.gFirst.symm.trans hg0)
 obtain rfl:=Option.some.inj (Tryz.gConst.symm.trans hg1)
 obtain rfl:=Option.some.inj (Tryz.tFirst.symm.trans ht0)
 obtain rfl:=Option.some.inj (Tryz.tConst.symm.trans ht1)
 have e0:=cells_of_tab (k:=.u32) (zs:=first.list) Tryz.underlying209 Tryz.underlying152 Tryz.cells152 Tryz.cells209 hd0
 have e1:=cells_of_tab (k:=.u32) (zs:=Ks) Tryz.underlying246 Tryz.underlying152 Tryz.cells152 Tryz.cells246 hd1
 refine ⟨?_,?_⟩
 ·simp only [World.var?,Tryz.gConst,Option.bind_some] at hv1
  split at hv1
  ·rename_i cs t fr hq
   have hcs:=Option.some.inj hv1
   refine ⟨t,fr,?_⟩
   rw [hq,hcs]
   congr 2
   apply Array.ext'
   rw [e1]
   simp [word]
  ·cases hv1
 ·simp only [World.var?,Tryz.gFirst,Option.bind_some] at hv0
  split at hv0
  ·rename_i cs t fr hq
   have hcs:=Option.some.inj hv0
   refine ⟨t,fr,?_⟩
   rw [hq,hcs]
   congr 2
   apply Array.ext'
   rw [e0]
   simp [word]
  ·cases hv0

end Go.Proofs.YtagijldedngcoaaGreatDoor.Zq.Sh


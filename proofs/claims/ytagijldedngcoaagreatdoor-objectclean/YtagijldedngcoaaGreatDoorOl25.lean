/-
  Contracts of the program and of the statements (part 25 of 28).
-/
import Derived.Test.YtagijldedngcoaaGreatDoorOl24
import Derived.Test.YtagijldedngcoaaGreatDoorOl22
import Derived.Test.YtagijldedngcoaaGreatDoorOl23
set_option maxRecDepth 100000
set_option maxHeartbeats 3200000

namespace Go.Proofs.YtagijldedngcoaaGreatDoor
open Go.RowKit Go.Lib Go.Maps
section
variable {r : Nat→Prop} {w W : World} {pv hv : Value} {ps : List Int} {had : List Zq.SX} {i : Int} {y1 : Nat}
theorem fine_any (hp : LS c1 1 r w pv ps) (hn : ps.length ≤ 1000000) :
  Calls Tryz.prog 123 #[pv] w fun e w' => e = .returned (.int .i64 ((gds ps : Nat) : Int))∧w' = w:=by
 obtain ⟨pa,pc,rfl⟩:=hp.shp
 have HP : Hid (∀ j x,ps[j]? = some x→∃ g o,pa = some ⟨g,o,none⟩∧w.cell? ⟨g,o + j,none⟩ = some (.int .i64 x)):=fun j x hx => by
  obtain ⟨g,o,h1,_,h2⟩:=hp.at1 hx rfl
  exact ⟨g,o,h1,h2⟩
 obtain ⟨n,hnn⟩ : ∃ n,n = ps.length:=⟨_,rfl⟩
 rw [← hnn]
 rw [← hnn] at hn
 have HN:=hide hnn
 clear hp hnn
 go_enter Tryz.func123,Tryz.ntmps123
 go_wp2
 go_loopw [3,8] (fun c i wr => ∃ (j s : Nat),j ≤ n∧i = .int .i64 (j : Int)∧c = .int .i64 (s : Int)∧s = gds (ps.take j)∧wr = w) (fun _ i _ => n - (intOf i).toNat)
 case atStart => exact ⟨0,0,Nat.zero_le _,rfl,rfl,rfl,rfl⟩
 case round =>
  obtain ⟨j,s,hj,rfl,rfl,hs,hw⟩:=hrel
  subst wr
  have hsb : (s : Int) ≤ 1000000:=by have:=gds_le (ps.take j); rw [List.length_take] at this; omega
  have HS:=hide hs
  clear hs
  by_cases hlt : j < n
  ·have b1 : (j : Int) < (n : Int):=by omega
   have b0 : (0 : Int) ≤ (j : Int):=by omega
   obtain ⟨x,hx⟩ : ∃ x,ps[j]? = some x:=⟨_,List.getElem?_eq_getElem (by have:=HN.out; omega)⟩
   obtain ⟨g,o,rfl,u0⟩:=HP.out j x hx
   have HL:=hide (gds_snoc (ps.take j) x)
   rw [← take_snoc_at hx] at HL
   clear hx
   by_cases hx0 : x = 0
   ·have HE : Hid (s + 1 = gds (ps.take (j + 1))):=by have h1:=HS.out; rw [HL.out,if_pos hx0,← h1]; rfl
    subst hx0
    go_wp2
    exact ⟨⟨j + 1,s + 1,by omega,by go_num,by go_num,HE.out,trivial⟩,by simp [intOf]; omega⟩
   ·have HE : Hid (s = gds (ps.take (j + 1))):=by have h1:=HS.out; rw [HL.out,if_neg hx0,← h1]; rfl
    have q0 : (x == 0) = false:=by simpa using hx0
    go_wp2
    exact ⟨⟨j + 1,s,by omega,by go_num,rfl,HE.out,trivial⟩,by simp [intOf]; omega⟩
  ·obtain rfl : j = n:=by omega
   have HE : Hid (s = gds ps):=by
    have h1:=HS.out
    rw [List.take_of_length_le (by have:=HN.out; omega)] at h1
    exact h1
   go_wp2
   go_ret
   exact ⟨by rw [← HE.out]; rfl,rfl⟩
theorem pb1_any {x : Zq.SX} (h1 : W.heap[y1]? = some (.cells #[.int .i64 i] 3 (0,0))) :
  Calls Tryz.prog 172 #[.agg #[.int .i64 x.k,.int .i64 x.m,.int .i64 x.i,.int .i64 x.long,.string x.id,.string x.data],.pointer (some ⟨y1,0,none⟩)] W fun e w' => e = .returned (.bool (x.i == i))∧Below W.heap.size W w':=by
 obtain ⟨U,hU⟩ : ∃ U,U = W.alloc (.cells #[.int .i64 x.k,.int .i64 x.m,.int .i64 x.i,.int .i64 x.long,.string x.id,.string x.data] 232):=⟨_,rfl⟩
 obtain ⟨X,hX⟩ : ∃ X,X = W.heap.size:=⟨_,rfl⟩
 have hB : Below W.heap.size W U:=by rw [hU]; exact (Below.refl _ _).alloc (Nat.le_refl _) _
 have hk : U.heap[X]? = some (.cells #[.int .i64 x.k,.int .i64 x.m,.int .i64 x.i,.int .i64 x.long,.string x.id,.string x.data] 232 (0,0)):=by rw [hU,hX]; exact heap_alloc_new W _
 have e1:=(hB.block y1 (lt_of_block h1)).trans h1
 have y0 : U.cell? ⟨X,2,none⟩ = some (.int .i64 x.i):=by simp [World.cell?,hk]
 have z0 : U.cell? ⟨y1,0,none⟩ = some (.int .i64 i):=by simp [World.cell?,e1]
 have HU:=hide hU
 have HX:=hide hX
 have HB:=hide hB
 clear hU hX hB hk e1 h1
 go_enter Tryz.func172,Tryz.ntmps172
 go_upto_region 1 with fail
 rw [← HU.out,← HX.out]
 go_wp2
 go_ret
 exact ⟨rfl,HB.out⟩
def hasI (had : List Zq.SX) (i : Int) : Bool:=had.any fun x => x.i == i
def idxI : List Zq.SX→Int→Nat→Int
 | [],_,_ => -1
 | x :: r,i,j => if x.i == i then (j : Int) else idxI r i (j + 1)
theorem idxI_has : ∀ (had : List Zq.SX) (i : Int) (j : Nat),(0 ≤ idxI had i j) ↔ hasI had i = true
 | [],i,j => by simp [idxI,hasI]
 | x :: r,i,j => by
  have ih:=idxI_has r i (j + 1)
  rw [idxI]
  by_cases h : x.i == i
  ·rw [if_pos h]
   simp [hasI,h]
  ·rw [if_neg h,ih]
   simp only [hasI,List.any_cons]
   rw [Bool.eq_false_iff.2 h]
   simp
theorem indexF_any (hh : LS Zq.six 6 r w hv had) (hl : had.length ≤ 255) (h1 : w.heap[y1]? = some (.cells #[.int .i64 i] 3 (0,0))) :
  Calls Tryz.prog 213 #[hv,.func (.func 172) #[] #[.pointer (some ⟨y1,0,none⟩)]] w fun e w' => e = .returned (.int .i64 (idxI had i 0))∧Below w.heap.size w w':=by
 obtain ⟨a,c,rfl⟩:=hh.shp
 have HH : Hid (∀ j x,had[j]? = some x→∀ wr,Below w.heap.size w wr→∃ g o,a = some ⟨g,o,none⟩∧wr.cell? ⟨g,o + j * 6,none⟩ = some (.int .i64 x.k)∧wr.cell? ⟨g,o + j * 6 + 1,none⟩ = some (.int .i64 x.m)∧wr.cell? ⟨g,o + j * 6 + 2,none⟩ = some (.int .i64 x.i)∧wr.cell? ⟨g,o + j * 6 + 3,none⟩ = some (.int .i64 x.long)∧wr.cell? ⟨g,o + j * 6 + 4,none⟩ = some (.string x.id)∧wr.cell? ⟨g,o + j * 6 + 5,none⟩ = some (.string x.data)):=fun j x hx wr hb => by
  obtain ⟨a',c',e,_,h2 | ⟨g,o,ea,_,hg,hG⟩⟩:=hh
  ·rw [h2] at hx; simp at hx
  ·injection e with e1 _ _
   subst e1
   have hc : ∀ (t : Nat) (v : Value),(Zq.six x)[t]? = some v→wr.cell? ⟨g,o + j * 6 + t,none⟩ = some v:=fun t v hv => (hb.cell (p:=⟨g,o + j * 6 + t,none⟩) hg).trans (hG j x hx t v hv)
   exact ⟨g,o,ea,hc 0 _ rfl,hc 1 _ rfl,hc 2 _ rfl,hc 3 _ rfl,hc 4 _ rfl,hc 5 _ rfl⟩
 have HF : Hid (∀ (wr : World) (x : Zq.SX),Below w.heap.size w wr→Calls Tryz.prog 172 #[.agg #[.int .i64 x.k,.int .i64 x.m,.int .i64 x.i,.int .i64 x.long,.string x.id,.string x.data],.pointer (some ⟨y1,0,none⟩)] wr fun e w' => e = .returned (.bool (x.i == i))∧Below w.heap.size w w'):=fun wr x hb => by
  refine (pb1_any ((hb.block y1 (lt_of_block h1)).trans h1)).mono ?_
  rintro e w' ⟨rfl,hB⟩
  exact ⟨rfl,hb.trans (hB.mono hb.size)⟩
 obtain ⟨n,hnn⟩ : ∃ n,n = had.length:=⟨_,rfl⟩
 rw [← hnn]
 rw [← hnn] at hl
 have HN:=hide hnn
 have hent : Ent 172:=ent_of Tryz.func172 (by kernel_rfl) rfl
 unfold Ent at hent
 clear hh hnn h1
 go_enter Tryz.func213,Tryz.ntmps213
 go_wp2
 go_loopw [8] (fun t wr => ∃ (j : Nat),j ≤ n∧t = .int .i64 (j : Int)∧idxI (had.drop j) i j = idxI had i 0∧Below w.heap.size w wr) (fun t _ => n - (intOf t).toNat)
 case atStart => exact ⟨0,Nat.zero_le _,rfl,by simp,Below.refl _ _⟩
 case round =>
  obtain ⟨j,hj,rfl,hs,hB⟩:=hrel
  by_cases hlt : j < n
  ·have b1 : (j : Int) < (n : Int):=by omega
   have b0 : (0 : Int) ≤ (j : Int):=by omega
   obtain ⟨x,hx⟩ : ∃ x,had[j]? = some x:=⟨_,List.getElem?_eq_getElem (by have:=HN.out; omega)⟩
   obtain ⟨g,o,rfl,u0,u1,u2,u3,u4,u5⟩:=HH.out j x hx wr hB
   have hdr : had.drop j = x :: had.drop (j + 1):=by
    rw [List.drop_eq_getElem_cons (by have:=HN.out; omega)]
    rw [List.getElem?_eq_getElem (by have:=HN.out; omega)] at hx
    cases hx
    rfl
   rw [hdr,idxI] at hs
   have HC:=hide (HF.out wr x hB)
   obtain ⟨xk,xm,xi,xl,xd,xt⟩:=x
   dsimp only at u0 u1 u2 u3 u4 u5 HC hs
   have HS:=hide hs
   clear hs hB hx hdr
   by_cases hxi : (xi == i) = true
   ·rw [hxi] at HC
    go_wp2_with fail
    refine HC.out.mono ?_
    rintro e w1 ⟨rfl,hB1⟩
    have HB1:=hide hB1
    have HE : Hid (idxI had i 0 = (j : Int)):=by have:=HS.out; rw [if_pos hxi] at this; exact this.symm
    clear hB1
    go_wp2
    go_ret
    exact ⟨by rw [HE.out]; rfl,HB1.out⟩
   ·rw [Bool.eq_false_iff.2 hxi] at HC
    go_wp2_with fail
    refine HC.out.mono ?_
    rintro e w1 ⟨rfl,hB1⟩
    have HB1:=hide hB1
    have HE : Hid (idxI (had.drop (j + 1)) i (j + 1) = idxI had i 0):=by have:=HS.out; rw [if_neg hxi] at this; exact this
    clear hB1
    go_wp2
    exact ⟨⟨j + 1,by omega,by go_num,HE.out,HB1.out⟩,by simp [intOf]; omega⟩
  ·obtain rfl : j = n:=by omega
   have e : had.drop j = []:=List.drop_eq_nil_of_le (by have:=HN.out; omega)
   rw [e,idxI] at hs
   have HS:=hide (And.intro hs hB)
   clear hs hB
   go_wp2
   go_ret
   exact ⟨by rw [← HS.out.1]; rfl,HS.out.2⟩
theorem hasF_any (hh : LS Zq.six 6 r w hv had) (hl : had.length ≤ 255) (h1 : w.heap[y1]? = some (.cells #[.int .i64 i] 3 (0,0))) :
  Calls Tryz.prog 171 #[hv,.func (.func 172) #[] #[.pointer (some ⟨y1,0,none⟩)]] w fun e w' => e = .returned (.bool (hasI had i))∧Below w.heap.size w w':=by
 obtain ⟨a,c,rfl⟩:=hh.shp
 have HI:=hide (indexF_any hh hl h1)
 obtain ⟨t,ht⟩ : ∃ t,t = idxI had i 0:=⟨_,rfl⟩
 have hb : hasI had i = decide (0 ≤ t):=by
  rw [Bool.eq_iff_iff,← idxI_has had i 0,ht]; simp
 rw [← ht] at HI
 rw [hb]
 have hmf : ∀ (fn : Fn) (first cap : Array Value) (w : World),(Instr.makeFunc fn first cap).run Tryz.prog w = .ok (.func fn first cap) w:=fun _ _ _ _ => rfl
 clear hh h1 hb ht
 go_enter Tryz.func171,Tryz.ntmps171
 go_wp2_with fail
 refine HI.out.mono ?_
 rintro e w1 ⟨rfl,hB1⟩
 have HB:=hide hB1
 clear hB1
 go_wp2
 go_ret
 exact ⟨rfl,HB.out⟩
end
end Go.Proofs.YtagijldedngcoaaGreatDoor

namespace Go.Proofs.YtagijldedngcoaaGreatDoor
open Go.RowKit Go.Lib Go.Maps
def pbF (nm : ByteArray) (had : List Zq.SX) : Nat→List ByteArray→List QT
 | _,[] => []
 | i,d :: r => if hasI had (i : Int) = true then pbF nm had (i + 1) r else ⟨(i : Int),1,nm,d⟩ :: pbF nm had (i + 1) r
theorem pbF_snoc (nm : ByteArray) (had : List Zq.SX) (d : ByteArray) : ∀ (l : List ByteArray) (i : Nat),pbF nm had i (l ++ [d]) = pbF nm had i l ++ (if hasI had ((i + l.length : Nat) : Int) = true then [] else [⟨((i + l.length : Nat) : Int),1,nm,d⟩])
 | [],i => by simp [pbF]
 | x :: l,i => by
  have ih:=pbF_snoc nm had d l (i + 1)
  have e : i + 1 + l.length = i + (x :: l).length:=by simp; omega
  rw [e] at ih
  simp only [List.cons_append,pbF,ih]
  by_cases h : hasI had (i : Int) = true
  ·rw [if_pos h,if_pos h]
  ·rw [if_neg h,if_neg h,List.cons_append]
theorem pbF_len (nm : ByteArray) (had : List Zq.SX) : ∀ (l : List ByteArray) (i : Nat),(pbF nm had i l).length ≤ l.length
 | [],i => Nat.le_refl _
 | x :: l,i => by
  have ih:=pbF_len nm had l (i + 1)
  rw [pbF]
  split
  ·simp; omega
  ·simp; omega
section
variable {r : Nat→Prop} {w W : World} {hv v : Value} {had : List Zq.SX} {K M B : Nat} {nm s : ByteArray} {l : List QT}
theorem qpush (h : OW q4 4 81 B v l w) (q : QT) (hb : (l.length + 1) * 48 ≤ 140737488355328) (hB : B ≤ w.heap.size) :
  ∃ v' w',(Builtin.append_ #[198,198] 198 #[v,.slice (some ⟨w.heap.size,0,none⟩) 1 1]).run Tryz.prog (w.alloc (.cells #[.int .i64 q.st,.int .i64 q.k,.string q.n,.string q.d] 81)) = .ok v' w'∧OW q4 4 81 B v' (l ++ [q]) w'∧Gs (fun i => v.ownBlock = some i) w w':=by
 have hb0 : Below w.heap.size w (w.alloc (.cells #[.int .i64 q.st,.int .i64 q.k,.string q.n,.string q.d] 81)):=(Below.refl _ _).alloc (Nat.le_refl _) _
 obtain ⟨v',w',h1,h2,h3,h4⟩:=OW.app (ST:=198) (m:=[q]) (r:=fun _ => True) q4_len (by decide) (fun x _ => q4_one x) Tryz.underlying198 Tryz.infoQ rfl (h.keep hb0) (LS.one q 81 w q4 4 _ trivial) (by simpa using hb) (by simp; omega) (by simp; omega)
 refine ⟨v',w',h1,h2,⟨h3.os.trans hb0.os,h3.tape.trans hb0.tape,h3.output.trans hb0.output,Nat.le_trans hb0.size h3.size,fun i hi hn => ?_⟩⟩
 exact (h3.block i (Nat.lt_of_lt_of_le hi hb0.size) (fun e => hn e.symm)).trans (hb0.block i hi)
theorem beside_any (hh : LS Zq.six 6 r w hv had) (hl : had.length ≤ 255) (hLw : Zq.Sh.Laid w) (hK : 1 ≤ K) (hKM : K + M ≤ 255) (hs : s.size ≤ 65536) :
  Calls Tryz.prog 127 #[hv,.agg #[.int .i64 (K : Int),.int .i64 (M : Int)],.string nm,.string s] w fun e w' => ∃ v,e = .returned v∧OW q4 4 81 w.heap.size v (pbF nm had 0 (shL K M s)) w'∧Below w.heap.size w w':=by
 obtain ⟨U,hU⟩ : ∃ U,U = w.alloc (.cells #[.int .i64 (K : Int),.int .i64 (M : Int)] 27):=⟨_,rfl⟩
 obtain ⟨X,hX⟩ : ∃ X,X = w.heap.size:=⟨_,rfl⟩
 have hB : Below w.heap.size w U:=by rw [hU]; exact (Below.refl _ _).alloc (Nat.le_refl _) _
 have hk : U.heap[X]? = some (.cells #[.int .i64 (K : Int),.int .i64 (M : Int)] 27 (0,0)):=by rw [hU,hX]; exact heap_alloc_new w _
 have y0 : U.cell? ⟨X,0,none⟩ = some (.int .i64 (K : Int)):=by simp [World.cell?,hk]
 have y1 : U.cell? ⟨X,1,none⟩ = some (.int .i64 (M : Int)):=by simp [World.cell?,hk]
 have HM : Hid (Calls Tryz.prog 157 #[.int .i64 (K : Int),.int .i64 (M : Int),.string s] U fun e w' => ∃ q,e = .returned (.tuple #[.slice (some ⟨q,0,none⟩) (K + M) (K + M),.int .i64 0])∧LS t1 1 (fun i => i = q) w' (.slice (some ⟨q,0,none⟩) (K + M) (K + M)) (shL K M s)∧Below w.heap.size w w'):=by
  refine (Zq.make_ok (hLw.below hB hLw.size) hK hKM hs).mono ?_
  rintro e w' ⟨q,rfl,hSB,_,hB1⟩
  exact ⟨q,rfl,sb_ls hSB rfl,hB.trans (hB1.mono hB.size)⟩
 obtain ⟨ha,hc,hhv⟩:=hh.shp
 subst hhv
 have HCO : Hid (∀ (W : World) (y1 : Nat) (i : Int),Below w.heap.size w W→W.heap[y1]? = some (.cells #[.int .i64 i] 3 (0,0))→Calls Tryz.prog 171 #[.slice ha had.length hc,.func (.func 172) #[] #[.pointer (some ⟨y1,0,none⟩)]] W fun e w' => e = .returned (.bool (hasI had i))∧Below W.heap.size W w'):=fun W y1 i hb h1 => hasF_any (hh.bel hb) hl h1
 obtain ⟨n,hn⟩ : ∃ n,n = K + M:=⟨_,rfl⟩
 rw [← hn] at HM hKM
 have hsl : (shL K M s).length = n:=by rw [shL_len,hn]
 obtain ⟨ds,hds⟩ : ∃ ds,ds = shL K M s:=⟨_,rfl⟩
 rw [← hds] at HM hsl ⊢
 generalize had.length = hn' at *
 have hmf : ∀ (fn : Fn) (first cap : Array Value) (w : World),(Instr.makeFunc fn first cap).run Tryz.prog w = .ok (.func fn first cap) w:=fun _ _ _ _ => rfl
 have HU:=hide hU
 have HX:=hide hX
 have HSL:=hide hsl
 clear hU hX hB hk hh hl hLw hK hs hds hsl hn
 go_enter Tryz.func127,Tryz.ntmps127
 go_upto_region 1 with fail
 rw [← HU.out,← HX.out]
 go_wp2_with fail
 refine HM.out.mono ?_
 rintro e w1 ⟨q,rfl,hLS,hB1⟩
 have HD : Hid (∀ j d,ds[j]? = some d→∀ wr,Below w1.heap.size w1 wr→wr.cell? ⟨q,j,none⟩ = some (.string d)):=fun j d hj wr hb => by
  obtain ⟨g,o,e,_,h⟩:=(hLS.bel hb).at1 hj rfl
  injection e with e
  injection e with e1 e2 _
  subst e1 e2
  simpa using h
 have HB1:=hide hB1
 clear hLS hB1
 go_wp2
 go_loopw [11,25] (fun v t wr => ∃ (j : Nat) (rv : Value),j ≤ n∧t = .int .i64 (j : Int)∧rv = v∧OW q4 4 81 w1.heap.size rv (pbF nm had 0 (ds.take j)) wr∧Below w1.heap.size w1 wr) (fun _ t _ => n - (intOf t).toNat)
 case atStart => exact ⟨0,_,Nat.zero_le _,rfl,rfl,by rw [List.take_zero]; exact OW.nil _ _ _ _ _,Below.refl _ _⟩
 case round =>
  obtain ⟨j,rv,hj,rfl,rfl,hO,hB⟩:=hrel
  by_cases hlt : j < n
  ·have b1 : (j : Int) < (n : Int):=by omega
   have b0 : (0 : Int) ≤ (j : Int):=by omega
   obtain ⟨d,hd⟩ : ∃ d,ds[j]? = some d:=⟨_,List.getElem?_eq_getElem (by have:=HSL.out; omega)⟩
   have z0:=HD.out j d hd wr hB
   obtain ⟨n5,hn5⟩ : ∃ n5,n5 = wr.heap.size:=⟨_,rfl⟩
   obtain ⟨Zw,hZw⟩ : ∃ Zw,Zw = wr.alloc (.cells #[.int .i64 (j : Int)] 3):=⟨_,rfl⟩
   have hZB : Below wr.heap.size wr Zw:=by rw [hZw]; exact (Below.refl _ _).alloc (Nat.le_refl _) _
   have hblk : Zw.heap[n5]? = some (.cells #[.int .i64 (j : Int)] 3 (0,0)):=by rw [hZw,hn5]; exact heap_alloc_new wr _
   have hBw : Below w.heap.size w wr:=HB1.out.trans (hB.mono HB1.out.size)
   have hBZ : Below w.heap.size w Zw:=hBw.trans (hZB.mono hBw.size)
   have HC:=hide (HCO.out Zw n5 (j : Int) hBZ hblk)
   have hsn:=pbF_snoc nm had d (ds.take j) 0
   have htl : (ds.take j).length = j:=by rw [List.length_take]; have:=HSL.out; omega
   rw [← take_snoc_at hd,htl,Nat.zero_add] at hsn
   have hpl : (pbF nm had 0 (ds.take j)).length ≤ 255:=by have:=pbF_len nm had (ds.take j) 0; omega
   have HIN:=hide (And.intro hO (And.intro hB (And.intro hZB (And.intro hblk (And.intro hsn hpl)))))
   have HZw:=hide hZw
   have Hn5:=hide hn5
   clear hO hB hZw hn5 hZB hblk hBw hBZ hsn htl hd hpl
   cases hhas : hasI had (j : Int) with
   | true =>
    rw [hhas] at HC
    have HE : Hid (∀ W2,Below Zw.heap.size Zw W2→OW q4 4 81 w1.heap.size rv (pbF nm had 0 (ds.take (j + 1))) W2∧Below w1.heap.size w1 W2):=fun W2 hb2 => by
     obtain ⟨hO,hB,hZB,hblk,hsn,_⟩:=HIN.out
     rw [if_pos hhas,List.append_nil] at hsn
     rw [hsn]
     have hb3 : Below wr.heap.size wr W2:=hZB.trans (hb2.mono hZB.size)
     exact ⟨hO.keep hb3,hB.trans (hb3.mono hB.size)⟩
    go_upto_region 6 with fail
    rw [← HZw.out,← Hn5.out]
    go_wp2_with fail
    refine HC.out.mono ?_
    rintro e W2 ⟨rfl,hb2⟩
    have HE2:=hide (HE.out W2 hb2)
    clear hb2
    go_wp2
    exact ⟨⟨j + 1,_,by omega,by go_num,rfl,HE2.out⟩,by simp [intOf]; omega⟩
   | false =>
    rw [hhas] at HC
    go_upto_region 6 with fail
    rw [← HZw.out,← Hn5.out]
    go_wp2_with fail
    refine HC.out.mono ?_
    rintro e W2 ⟨rfl,hb2⟩
    obtain ⟨hO,hB,hZB,hblk,hsn,hpl⟩:=HIN.out
    have hb3 : Below wr.heap.size wr W2:=hZB.trans (hb2.mono hZB.size)
    have hb4 : Below w1.heap.size w1 W2:=hB.trans (hb3.mono hB.size)
    obtain ⟨v2,w2,hr1,hO2,hG2⟩:=qpush (hO.keep hb3) ⟨(j : Int),1,nm,d⟩ (by omega) hb4.size
    have hblk2:=(hb2.block n5 (lt_of_block hblk)).trans hblk
    have z5 : W2.cell? ⟨n5,0,none⟩ = some (.int .i64 (j : Int)):=by simp [World.cell?,hblk2]
    have HE : Hid (OW q4 4 81 w1.heap.size v2 (pbF nm had 0 (ds.take (j + 1))) w2∧Below w1.heap.size w1 w2):=by
     rw [if_neg (by rw [hhas]; decide)] at hsn
     rw [hsn]
     exact ⟨hO2,hG2.below hb4 hb4.size fun i e => (hO.lt i e).1⟩
    dsimp only at hr1
    clear hb2 hO hB hZB hblk hsn hpl hb3 hb4 hO2 hG2 hblk2
    go_wp2_with (at_builtin; refine Lib.wpList_append_run _ rfl _ _ _ _ rfl _ _ rfl rfl _ _ hr1 ?_)
    exact ⟨⟨j + 1,_,by omega,by go_num,rfl,HE.out⟩,by simp [intOf]; omega⟩
  ·obtain rfl : j = n:=by omega
   have e : ds.take j = ds:=List.take_of_length_le (by have:=HSL.out; omega)
   rw [e] at hO
   have HE : Hid (OW q4 4 81 w.heap.size rv (pbF nm had 0 ds) wr∧Below w.heap.size w wr):=⟨hO.low HB1.out.size,HB1.out.trans (hB.mono HB1.out.size)⟩
   clear hO hB
   go_wp2
   go_ret
   exact ⟨_,rfl,HE.out⟩
end
end Go.Proofs.YtagijldedngcoaaGreatDoor

namespace Go.Proofs.YtagijldedngcoaaGreatDoor
open Go.RowKit Go.Lib Go.Maps
section
variable {α : Type} {F : FuncId} {fi ca : Array Value} {b : Nat} {Fin : α→List RR→(Nat→Prop)→World→Prop} {k : Int × Int→PN α} {e m r r' p : Nat→Prop} {w w0 W V : World} {A0 : List RR} {K M : Nat} {nm want : ByteArray} {R Q : World→Prop} {y1 y2 y3 y4 : Nat} {x : FV}
noncomputable def scrubK (K M : Nat) (nm : ByteArray) (k : Int × Int→PN α) (f : FV) : PN α :=
 if f.e = 0 then sqP (pbF nm f.had 0 (shL K M f.d)) [] fun A => k (((gds (A.map (·.c)) : Nat) : Int),frs [] (A.map (·.c))) else k (0,f.e)
noncomputable def scrubP (K M : Nat) (nm want : ByteArray) (k : Int × Int→PN α) : PN α:=findP K M nm want (scrubK K M nm k)
theorem scrub21_any {av : Value} {X : List (RR × Value)} (hent : Ent F) (h1 : W.heap[y1]? = some (.cells #[.func (.func F) fi ca] 144 (0,0))) (hL : LS x3 3 r W av X) (hS : ∀ x ∈ X,∃ a n c,x.2 = .slice a n c) (hn : X.length ≤ 1000000) (hp : ¬ p y1)
  (HC : ∀ W1,Below W.heap.size W W1→Calls Tryz.prog F (fi ++ (#[.int .i64 ((gds (X.map (·.1.c)) : Nat) : Int),.int .i64 (frs [] (X.map (·.1.c)))] ++ ca)) W1 fun er w' => er = .returned (.tuple #[])∧Gs p W1 w'∧Q w') :
  Calls Tryz.prog 128 #[av,.pointer (some ⟨y1,0,none⟩)] W fun er w' => er = .returned (.tuple #[])∧Gs p W w'∧Q w':=by
 obtain ⟨aa,ac,rfl⟩:=hL.shp
 have HCO:=hide (ocodes_any hL hS hn)
 have HB : Hid (∀ W1,Below W.heap.size W W1→W1.cell? ⟨y1,0,none⟩ = some (.func (.func F) fi ca)):=fun W1 hb => (cell1 ((hb.block y1 (lt_of_block h1)).trans h1)).1
 have HH : Hid (∀ W1,Below W.heap.size W W1→Calls Tryz.prog F (fi ++ (#[.int .i64 ((gds (X.map (·.1.c)) : Nat) : Int),.int .i64 (frs [] (X.map (·.1.c)))] ++ ca)) W1 fun er w' => er = .returned (.tuple #[])∧w'.cell? ⟨y1,0,none⟩ = some (.func (.func F) fi ca)∧Hid (Gs p W w'∧Q w')):=fun W1 hb => by
  refine (HC W1 hb).mono ?_
  rintro er w' ⟨rfl,hG,hQ⟩
  have hG' : Gs p W w':=(Gs.of_below _ hb).trans hG
  exact ⟨rfl,(cell1 ((hG'.block y1 (lt_of_block h1) hp).trans h1)).1,hG',hQ⟩
 obtain ⟨cs,hcs⟩ : ∃ cs,cs = X.map (·.1.c):=⟨_,rfl⟩
 have hcl : cs.length ≤ 1000000:=by rw [hcs,List.length_map]; exact hn
 rw [← hcs] at HCO HH
 generalize X.length = N at *
 unfold Ent at hent
 clear h1 HC hL hS hn hcs hp
 go_enter Tryz.func128,Tryz.ntmps128
 go_wp2_with fail
 refine HCO.out.mono ?_
 rintro er W1 ⟨cv,rfl,hO,hB1⟩
 have hLc : LS c1 1 (fun i => cv.ownBlock = some i) W1 cv cs:=hO.ls c1_len fun i hi => hi
 have HF:=hide (fine_any hLc.drew hcl)
 obtain ⟨ca1,cc1,hcv⟩:=hLc.shp
 have z1:=HB.out W1 hB1
 have HG : Hid (Calls Tryz.prog 118 #[cv,.slice none 0 0] W1.drew fun e w' => e = .returned (.int .i64 (frs [] cs))∧w'.cell? ⟨y1,0,none⟩ = some (.func (.func F) fi ca)∧Calls Tryz.prog F (fi ++ (#[.int .i64 ((gds cs : Nat) : Int),.int .i64 (frs [] cs)] ++ ca)) w' fun er w' => er = .returned (.tuple #[])∧w'.cell? ⟨y1,0,none⟩ = some (.func (.func F) fi ca)∧Hid (Gs p W w'∧Q w')):=by
  refine (first_any hLc.drew (LS.nl (fun _ => True) _) (by omega) (by simp)).mono ?_
  rintro e w' ⟨rfl,hb⟩
  have hbw : Below W.heap.size W w':=hB1.trans (Below.mono (⟨hb.os,hb.tape,hb.output,hb.size,hb.block⟩ : Below W1.heap.size W1 w') hB1.size)
  exact ⟨rfl,HB.out _ hbw,HH.out _ hbw⟩
 subst hcv
 generalize cs.length = N2 at *
 clear hLc hO hB1
 go_upto_region 1 with fail
 go_region_held3 (fun w' => w'.cell? ⟨y1,0,none⟩ = some (.func (.func F) fi ca)) (first | assumption)
  (first | (go_at_call 123; refine HF.out.mono ?_; rintro e w5 ⟨rfl,rfl⟩) | (go_at_call 118; refine HG.out.mono ?_; rintro e w2 ⟨rfl,z2,hC2⟩; have HC2:=hide hC2; clear hC2) | (refine HC2.out.mono ?_; rintro e w3 ⟨rfl,z3,hF⟩))
 all_goals (go_wp2; go_end0; exact ⟨rfl,hF.out⟩)
theorem ent_s21 : Ent 128:=ent_of Tryz.func128 (by kernel_rfl) rfl
theorem ko_scrub21 {U : World} {N : Nat} (hent : Ent F) (HK : KV F fi ca b Fin vP k e m w) (hb : Below w.heap.size w U) (hN : N ≤ 255) (hy : ¬ (y1 = b ∨ m y1))
  (h1 : U.heap[y1]? = some (.cells #[.func (.func F) fi ca] 144 (0,0))) :
  KO 128 #[] #[.pointer (some ⟨y1,0,none⟩)] b Fin N (fun A => k (((gds (A.map (·.c)) : Nat) : Int),frs [] (A.map (·.c)))) A0 (fun i => e i ∨ i = y1) m U:=by
 intro W av X r hS hLw hJ hL hNm hX hI hsm hr
 have hs:=hb.size
 have k1:=(hS.2 y1 (.inr rfl) (lt_of_block h1)).trans h1
 have hWs:=hS.1
 have hSe : Sm e w W:=((Sm.refl e w).bel hb).trans (hS.mono fun i hi => .inl hi)
 show Calls Tryz.prog 128 #[av,.pointer (some ⟨y1,0,none⟩)] W _
 have em : X.map (·.1.c) = (X.map (·.1)).map (·.c):=by rw [List.map_map]; rfl
 refine scrub21_any (p:=fun i => i = b ∨ m i) hent k1 hL (fun x hx => by obtain ⟨a,c,e⟩:=(hNm x hx).shp; exact ⟨a,_,c,e⟩) (by omega) hy (fun W1 hB => ?_)
 rw [em]
 have hBs:=hB.size
 refine (HK W1 (((gds ((X.map (·.1)).map (·.c)) : Nat) : Int),frs [] ((X.map (·.1)).map (·.c))) _ (A0 ++ X.map (·.1)) (fun _ => False) (hSe.bel hB) (hLw.below hB hLw.size) ?_ rfl hI (fun i hi => hi.elim)).mono ?_
 ·have:=hJ.bel hB
  rw [List.length_append,List.length_map,hX]
  exact this
 rintro er w' ⟨rfl,hG,hR⟩
 refine ⟨rfl,hG,hR.mono ?_⟩
 rintro w3 ⟨P',q1,q2,q3⟩
 refine ⟨P',q1,(Gs.of_below _ hB).trans q2,fun i hi => ?_⟩
 rcases q3 i hi with h | h | h | h
 ·exact .inl h
 ·exact .inr (.inl (.inl h))
 ·exact h.elim
 ·exact .inr (.inr (.inr (by omega)))
theorem scrub2_code {fa : Option Addr} {fn fc : Nat} (hent : Ent F) (h1 : W.heap[y1]? = some (.cells #[.func (.func F) fi ca] 144 (0,0))) (h0 : x.e ≠ 0)
  (HC : Calls Tryz.prog F (fi ++ (#[.int .i64 0,.int .i64 x.e] ++ ca)) W fun er w' => er = .returned (.tuple #[])∧R w') :
  Calls Tryz.prog 125 #[.string x.d,.slice fa fn fc,.int .i64 x.e,.pointer (some ⟨y1,0,none⟩),.pointer (some ⟨y2,0,none⟩),.pointer (some ⟨y3,0,none⟩),.pointer (some ⟨y4,0,none⟩)] W fun er w' => er = .returned (.tuple #[])∧R w':=by
 obtain ⟨z1,_⟩:=cell1 h1
 have HH:=hide HC
 obtain ⟨xd,xh,xe⟩:=x
 simp only at h0 HH ⊢
 have q0 : (xe != 0) = true:=by simpa using h0
 unfold Ent at hent
 clear h1 HC
 go_enter Tryz.func125,Tryz.ntmps125
 go_wp2_with fail
 refine HH.out.mono ?_
 rintro er w2 ⟨rfl,hF⟩
 have HF:=hide hF
 clear hF
 go_wp2
 exact bodyPost_ret (v:=.tuple #[]) (results_none rfl _ _ _) rfl ⟨rfl,HF.out⟩
theorem scrub2_all {fa : Option Addr} {fn fc : Nat} (h2 : W.heap[y2]? = some (.cells #[.pointer (some ⟨b,0,none⟩)] 99 (0,0))) (h3 : W.heap[y3]? = some (.cells #[.int .i64 (K : Int),.int .i64 (M : Int)] 27 (0,0))) (h4 : W.heap[y4]? = some (.cells #[.string nm] 9 (0,0))) (h0 : x.e = 0) (hp : ¬ p y2∧¬ p y3∧¬ p y4)
  (HC : Calls Tryz.prog 127 #[.slice fa fn fc,.agg #[.int .i64 (K : Int),.int .i64 (M : Int)],.string nm,.string x.d] W.drew fun er w' => ∃ qa qn qc,er = .returned (.slice qa qn qc)∧Below W.heap.size W w'∧Calls Tryz.prog 126 #[.pointer (some ⟨b,0,none⟩),.slice qa qn qc,.func (.func 128) #[] #[.pointer (some ⟨y1,0,none⟩)]] w' fun er w' => er = .returned (.tuple #[])∧Gs p W w'∧Q w') :
  Calls Tryz.prog 125 #[.string x.d,.slice fa fn fc,.int .i64 x.e,.pointer (some ⟨y1,0,none⟩),.pointer (some ⟨y2,0,none⟩),.pointer (some ⟨y3,0,none⟩),.pointer (some ⟨y4,0,none⟩)] W fun er w' => er = .returned (.tuple #[])∧Gs p W w'∧Q w':=by
 have HS : Hid (∀ W1,Below W.heap.size W W1→W1.cell? ⟨y2,0,none⟩ = some (.pointer (some ⟨b,0,none⟩))∧W1.cell? ⟨y3,0,none⟩ = some (.int .i64 (K : Int))∧W1.cell? ⟨y3,1,none⟩ = some (.int .i64 (M : Int))∧W1.cell? ⟨y4,0,none⟩ = some (.string nm)):=fun W1 hb => by
  have e3:=(hb.block y3 (lt_of_block h3)).trans h3
  exact ⟨(cell1 ((hb.block y2 (lt_of_block h2)).trans h2)).1,by simp [World.cell?,e3],by simp [World.cell?,e3],(cell1 ((hb.block y4 (lt_of_block h4)).trans h4)).1⟩
 have HS0 : Hid (W.drew.cell? ⟨y2,0,none⟩ = some (.pointer (some ⟨b,0,none⟩))∧W.drew.cell? ⟨y3,0,none⟩ = some (.int .i64 (K : Int))∧W.drew.cell? ⟨y3,1,none⟩ = some (.int .i64 (M : Int))∧W.drew.cell? ⟨y4,0,none⟩ = some (.string nm)):=HS.out W (Below.refl _ _)
 have HH : Hid (Calls Tryz.prog 127 #[.slice fa fn fc,.agg #[.int .i64 (K : Int),.int .i64 (M : Int)],.string nm,.string x.d] W.drew fun er w' => ∃ qa qn qc,er = .returned (.slice qa qn qc)∧Below W.heap.size W w'∧Calls Tryz.prog 126 #[.pointer (some ⟨b,0,none⟩),.slice qa qn qc,.func (.func 128) #[] #[.pointer (some ⟨y1,0,none⟩)]] w' fun er w' => er = .returned (.tuple #[])∧(w'.cell? ⟨y2,0,none⟩ = some (.pointer (some ⟨b,0,none⟩))∧w'.cell? ⟨y3,0,none⟩ = some (.int .i64 (K : Int))∧w'.cell? ⟨y3,1,none⟩ = some (.int .i64 (M : Int))∧w'.cell? ⟨y4,0,none⟩ = some (.string nm))∧Hid (Gs p W w'∧Q w')):=by
  refine HC.mono ?_
  rintro er w1 ⟨qa,qn,qc,rfl,hb,hA⟩
  refine ⟨qa,qn,qc,rfl,hb,hA.mono ?_⟩
  rintro er w' ⟨rfl,hG,hQ⟩
  have e3:=(hG.block y3 (lt_of_block h3) hp.2.1).trans h3
  exact ⟨rfl,⟨(cell1 ((hG.block y2 (lt_of_block h2) hp.1).trans h2)).1,by simp [World.cell?,e3],by simp [World.cell?,e3],(cell1 ((hG.block y4 (lt_of_block h4) hp.2.2).trans h4)).1⟩,hG,hQ⟩
 obtain ⟨xd,xh,xe⟩:=x
 simp only at h0 HH ⊢
 subst h0
 have hmf : ∀ (fn : Fn) (first cap : Array Value) (w : World),(Instr.makeFunc fn first cap).run Tryz.prog w = .ok (.func fn first cap) w:=fun _ _ _ _ => rfl
 clear h2 h3 h4 HC hp
 go_enter Tryz.func125,Tryz.ntmps125
 go_upto_region 2 with fail
 go_region_held3 (fun w' => w'.cell? ⟨y2,0,none⟩ = some (.pointer (some ⟨b,0,none⟩))∧w'.cell? ⟨y3,0,none⟩ = some (.int .i64 (K : Int))∧w'.cell? ⟨y3,1,none⟩ = some (.int .i64 (M : Int))∧w'.cell? ⟨y4,0,none⟩ = some (.string nm)) (first | exact HS0.out | exact HS1.out | assumption)
  (first | (go_at_call 127; refine HH.out.mono ?_; rintro e w5 ⟨qa,qn,qc,rfl,hb5,hC5⟩; have HS1:=hide (HS.out w5 hb5); have HC5:=hide hC5; clear hC5 hb5) | (go_at_call 126; refine HC5.out.mono ?_; rintro e w2 ⟨rfl,hk2,hF⟩))
 all_goals (go_wp2; go_end0; exact ⟨rfl,hF.out⟩)
theorem ent_s2 : Ent 125:=ent_of Tryz.func125 (by kernel_rfl) rfl
theorem kv_scrub2 (hent : Ent F) (HK : KV F fi ca b Fin vP k e m w) (hb : Below w.heap.size w W) (hb2 : 2 ≤ b) (hbl : b < w.heap.size) (heb : ¬ e b) (hme : ∀ i,m i→e i) (hel : ∀ i,e i→i < w.heap.size) (hK : 1 ≤ K) (hKM : K + M ≤ 255) (hy : w.heap.size ≤ y1∧w.heap.size ≤ y2∧w.heap.size ≤ y3∧w.heap.size ≤ y4)
  (h1 : W.heap[y1]? = some (.cells #[.func (.func F) fi ca] 144 (0,0))) (h2 : W.heap[y2]? = some (.cells #[.pointer (some ⟨b,0,none⟩)] 99 (0,0))) (h3 : W.heap[y3]? = some (.cells #[.int .i64 (K : Int),.int .i64 (M : Int)] 27 (0,0))) (h4 : W.heap[y4]? = some (.cells #[.string nm] 9 (0,0))) :
  KV 125 #[] #[.pointer (some ⟨y1,0,none⟩),.pointer (some ⟨y2,0,none⟩),.pointer (some ⟨y3,0,none⟩),.pointer (some ⟨y4,0,none⟩)] b Fin (vF K M) (scrubK K M nm k) (fun i => e i ∨ i = y1 ∨ i = y2 ∨ i = y3 ∨ i = y4) m W:=by
 intro V x args A r hS hLw hJ hv hI hr
 obtain ⟨hv,rfl,hLS,hok⟩:=hv
 obtain ⟨fa,fc,hfv⟩:=hLS.shp
 subst hfv
 have k1:=(hS.2 y1 (.inr (.inl rfl)) (lt_of_block h1)).trans h1
 have k2:=(hS.2 y2 (.inr (.inr (.inl rfl))) (lt_of_block h2)).trans h2
 have k3:=(hS.2 y3 (.inr (.inr (.inr (.inl rfl)))) (lt_of_block h3)).trans h3
 have k4:=(hS.2 y4 (.inr (.inr (.inr (.inr rfl)))) (lt_of_block h4)).trans h4
 have hSe : Sm e w V:=((Sm.refl e w).bel hb).trans (hS.mono fun i hi => .inl hi)
 have hws:=hSe.1
 have hnp : ∀ y,w.heap.size ≤ y→¬ (y = b ∨ m y):=by
  rintro y hy (h | h)
  ·omega
  ·have:=hel y (hme y h); omega
 show Calls Tryz.prog 125 #[.string x.d,.slice fa x.had.length fc,.int .i64 x.e,.pointer (some ⟨y1,0,none⟩),.pointer (some ⟨y2,0,none⟩),.pointer (some ⟨y3,0,none⟩),.pointer (some ⟨y4,0,none⟩)] V _
 by_cases h0 : x.e = 0
 ·have HK1 : KV F fi ca b Fin vP k e m V:=by
   intro W x args A r hS' hL' hJ' hv hI' hr'
   exact HK W x args A r (hSe.trans hS') hL' hJ' hv hI' fun i hi => ⟨by have:=(hr' i hi).1; omega,(hr' i hi).2⟩
  refine scrub2_all (p:=fun i => i = b ∨ m i) k2 k3 k4 h0 ⟨hnp _ hy.2.1,hnp _ hy.2.2.1,hnp _ hy.2.2.2⟩ ?_
  refine (beside_any (nm:=nm) (hLS.drew) hok.l hLw hK hKM hok.d).mono ?_
  rintro er w1 ⟨qv,rfl,hO,hB1⟩
  have hB : Below V.heap.size V w1:=⟨hB1.os,hB1.tape,hB1.output,hB1.size,hB1.block⟩
  have hBs:=hB.size
  have hLq : LS q4 4 (fun i => qv.ownBlock = some i) w1 qv (pbF nm x.had 0 (shL K M x.d)):=hO.ls q4_len fun i hi => hi
  obtain ⟨qa,qc,rfl⟩:=hLq.shp
  have hpl : (pbF nm x.had 0 (shL K M x.d)).length ≤ 255:=by have:=pbF_len nm x.had (shL K M x.d) 0; rw [shL_len] at this; omega
  refine ⟨qa,_,qc,rfl,hB,?_⟩
  have hko:=ko_scrub21 (A0:=A) hent HK1 hB hpl (hnp _ hy.1) ((hB.block y1 (lt_of_block k1)).trans k1)
  refine (all_jjx ent_s21 (hLw.below hB hLw.size) hb2 (hJ.bel hB) hLq (by omega) hI hko (by rintro (h | h); exact heb h; omega) (fun i hi => .inl (hme i hi)) (by
   rintro i (h | h)
   ·have:=hel i h; omega
   ·rw [h]; have:=lt_of_block k1; omega)).mono ?_
  rintro er w2 ⟨rfl,hG,hR⟩
  refine ⟨rfl,(Gs.of_below _ hB).trans hG,hR.mono ?_⟩
  rintro w3 ⟨P',q1,q2,q3⟩
  refine ⟨P',by rw [scrubK,if_pos h0]; exact q1,(Gs.of_below _ hB).trans q2,fun i hi => ?_⟩
  rcases q3 i hi with h | (h | h) | h
  ·exact .inl h
  ·exact .inr (.inl (.inl h))
  ·exact .inr (.inl (.inr (.inl h)))
  ·exact .inr (.inr (.inr (by omega)))
 ·refine scrub2_code hent k1 h0 ((HK V (0,x.e) _ A (fun _ => False) hSe hLw hJ rfl hI (fun i hi => hi.elim)).mono ?_)
  rintro er w' ⟨rfl,hG,hR⟩
  refine ⟨rfl,hG,hR.mono ?_⟩
  rintro w3 ⟨P',q1,q2,q3⟩
  refine ⟨P',by rw [scrubK,if_neg h0]; exact q1,q2,fun i hi => ?_⟩
  rcases q3 i hi with h | h | h | h
  ·exact .inl h
  ·exact .inr (.inl (.inl h))
  ·exact h.elim
  ·exact .inr (.inr (.inr h))
end
end Go.Proofs.YtagijldedngcoaaGreatDoor

namespace Go.Proofs.YtagijldedngcoaaGreatDoor
open Go.RowKit Go.Lib Go.Maps
section
variable {α : Type} {F : FuncId} {fi ca : Array Value} {b : Nat} {Fin : α→List RR→(Nat→Prop)→World→Prop} {k : Int × Int→PN α} {e m : Nat→Prop} {w : World} {A0 : List RR} {K M : Nat} {nm want : ByteArray}
theorem oscrub_any (hent : Ent F) (hLw : Zq.Sh.Laid w) (hb2 : 2 ≤ b) (hJ : JB w b true 0 0 ⟨#[]⟩ ⟨#[]⟩ .nilFunc 0 0 (.slice none 0 0) (.slice none 0 0) (A0.length : Int)) (hK : 1 ≤ K) (hKM : K + M ≤ 255) (hI0 : (resI A0).length ≤ 1000000000000) (HK : KV F fi ca b Fin vP k e m w) (heb : ¬ e b) (hme : ∀ i,m i→e i) (hel : ∀ i,e i→i < w.heap.size) :
  Calls Tryz.prog 73 #[.pointer (some ⟨b,0,none⟩),.agg #[.int .i64 (K : Int),.int .i64 (M : Int)],.string nm,.string want,.func (.func F) fi ca] w fun er w' => er = .returned (.tuple #[])∧PO b Fin (scrubP K M nm want k) A0 e (fun i => i = b ∨ m i) w w':=by
 obtain ⟨U,hU⟩ : ∃ U,U = als w [.cells #[.pointer (some ⟨b,0,none⟩)] 99,.cells #[.int .i64 (K : Int),.int .i64 (M : Int)] 27,.cells #[.string nm] 9,.cells #[.func (.func F) fi ca] 144]:=⟨_,rfl⟩
 obtain ⟨X,hX⟩ : ∃ X,X = w.heap.size:=⟨_,rfl⟩
 have hB : Below w.heap.size w U:=by rw [hU]; exact als_bel _ _
 have h1 : U.heap[X]? = some (.cells #[.pointer (some ⟨b,0,none⟩)] 99 (0,0)):=by rw [hU,hX]; exact als_at _ w 0 _ rfl
 have h2 : U.heap[X + 1]? = some (.cells #[.int .i64 (K : Int),.int .i64 (M : Int)] 27 (0,0)):=by rw [hU,hX]; exact als_at _ w 1 _ rfl
 have h3 : U.heap[X + 2]? = some (.cells #[.string nm] 9 (0,0)):=by rw [hU,hX]; exact als_at _ w 2 _ rfl
 have h5 : U.heap[X + 3]? = some (.cells #[.func (.func F) fi ca] 144 (0,0)):=by rw [hU,hX]; exact als_at _ w 3 _ rfl
 have y0 : U.cell? ⟨X + 1,0,none⟩ = some (.int .i64 (K : Int)):=by simp [World.cell?,h2]
 have y1 : U.cell? ⟨X + 1,1,none⟩ = some (.int .i64 (M : Int)):=by simp [World.cell?,h2]
 obtain ⟨y4,_⟩:=cell1 h5
 have HCH:=hide (check_any (w:=U) (K : Int) (M : Int) (by omega) (by omega))
 rw [chk_ok hK hKM] at HCH
 have hbl:=hJ.lt
 have HCL : Hid (∀ U2,Below U.heap.size U U2→U2.cell? ⟨X,0,none⟩ = some (.pointer (some ⟨b,0,none⟩))∧U2.cell? ⟨X + 1,0,none⟩ = some (.int .i64 (K : Int))∧U2.cell? ⟨X + 1,1,none⟩ = some (.int .i64 (M : Int))∧U2.cell? ⟨X + 2,0,none⟩ = some (.string nm)∧U2.cell? ⟨X + 3,0,none⟩ = some (.func (.func F) fi ca)):=fun U2 hB2 => by
  have e2:=(hB2.block (X + 1) (lt_of_block h2)).trans h2
  exact ⟨(cell1 ((hB2.block X (lt_of_block h1)).trans h1)).1,by simp [World.cell?,e2],by simp [World.cell?,e2],(cell1 ((hB2.block (X + 2) (lt_of_block h3)).trans h3)).1,(cell1 ((hB2.block (X + 3) (lt_of_block h5)).trans h5)).1⟩
 have HU : Hid (U = (((w.alloc (.cells #[.pointer (some ⟨b,0,none⟩)] 99)).alloc (.cells #[.int .i64 (K : Int),.int .i64 (M : Int)] 27)).alloc (.cells #[.string nm] 9)).alloc (.cells #[.func (.func F) fi ca] 144)):=hU
 have HX:=hide hX
 obtain ⟨g1,g2,g3,g4⟩:=fe_s
 have hent0:=hide hent
 unfold Ent at hent
 have HN : Hid (∀ U2,Below U.heap.size U U2→Calls Tryz.prog 109 #[.pointer (some ⟨b,0,none⟩),.agg #[.int .i64 (K : Int),.int .i64 (M : Int)],.string nm,.string want,.func (.func 125) #[] #[.pointer (some ⟨X + 3,0,none⟩),.pointer (some ⟨X,0,none⟩),.pointer (some ⟨X + 1,0,none⟩),.pointer (some ⟨X + 2,0,none⟩)]] U2 fun er w' => er = .returned (.tuple #[])∧PO b Fin (scrubP K M nm want k) A0 e (fun i => i = b ∨ m i) w w'):=fun U2 hB2 => by
  have hBU : Below w.heap.size w U2:=hB.trans (hB2.mono hB.size)
  have c1:=(hB2.block X (lt_of_block h1)).trans h1
  have c2:=(hB2.block (X + 1) (lt_of_block h2)).trans h2
  have c3:=(hB2.block (X + 2) (lt_of_block h3)).trans h3
  have c5:=(hB2.block (X + 3) (lt_of_block h5)).trans h5
  have hkv:=kv_scrub2 (K:=K) (M:=M) hent0.out HK hBU hb2 hbl heb hme hel hK hKM ⟨by omega,by omega,by omega,by omega⟩ c5 c1 c2 c3
  have hsz:=hBU.size
  refine (find_any (nm:=nm) (want:=want) (e:=fun i => e i ∨ i = X + 3 ∨ i = X ∨ i = X + 1 ∨ i = X + 2) (m:=m) (A0:=A0) ent_s2 (hLw.below hBU hLw.size) (hJ.bel hBU) hK hKM hI0 hkv (by rintro (h | h | h | h | h); exact heb h; omega; omega; omega; omega) (fun i hi => .inl (hme i hi)) (by
   rintro i (h | h | h | h | h)
   ·have:=hel i h; omega
   ·rw [h]; exact lt_of_block c5
   ·rw [h]; exact lt_of_block c1
   ·rw [h]; exact lt_of_block c2
   ·rw [h]; exact lt_of_block c3)).mono ?_
  rintro er w' ⟨rfl,hP⟩
  refine ⟨rfl,(hP.bel hBU).less ?_⟩
  rintro i (h | h | h | h | h)
  ·exact .inl h
  ·exact .inr (by omega)
  ·exact .inr (by omega)
  ·exact .inr (by omega)
  ·exact .inr (by omega)
 have hmf : ∀ (fn : Fn) (first cap : Array Value) (w : World),(Instr.makeFunc fn first cap).run Tryz.prog w = .ok (.func fn first cap) w:=fun _ _ _ _ => rfl
 clear hLw hJ hI0 HK hU hX hB h1 h2 h3 h5 hbl heb hme hel
 go_enter Tryz.func73,Tryz.ntmps73
 go_upto_region 1 with fail
 rw [← HU.out,← HX.out]
 go_wp2_with fail
 refine HCH.out.mono ?_
 rintro er U2 ⟨rfl,hB2⟩
 obtain ⟨z0,z1,z2,z3,z4⟩:=HCL.out U2 hB2
 have HP2:=hide (HN.out U2 hB2)
 clear hB2
 go_wp2_with fail
 refine HP2.out.mono ?_
 rintro er w2 ⟨rfl,hP⟩
 have HPP:=hide hP
 clear hP
 go_wp2
 go_end0
 exact ⟨rfl,HPP.out⟩
end
theorem ox_scrub {K M : Nat} {nm want : ByteArray} (hK : 1 ≤ K) (hKM : K + M ≤ 255) : OXScrub K M nm want (scrubP K M nm want kScrub):=fun b i1 W hL hJ hne hlt HK =>
 oscrub_any (A0:=[]) ent_scrub11 hL (laid_jb hL hJ) hJ hK hKM (by simp [resI]) HK hne (fun i h => h.elim) (fun i h => by rw [h]; exact hlt)
end Go.Proofs.YtagijldedngcoaaGreatDoor

namespace Go.Proofs.YtagijldedngcoaaGreatDoor
open Go.RowKit Go.Lib Go.Maps
section
variable {w W0 W W' V : World} {X Bd K M b2 g k j : Nat} {sv ids tx : Value} {S S' : List SS} {bs : List (Nat × Nat)} {pl : PN RS} {x : RS} {L : List QT} {nm s want : ByteArray} {q m : Int} {O : List (Option ByteArray)}
theorem GQ.rw (h : GQ w W0 X Bd K M sv S bs) (hR : RW W0 V b2 x k (fun i => X < i∧i < Bd) sv S' bs ids tx none) : GQ w V X Bd K M sv S' bs :=
 ⟨hR.yp,(hR.gs.block X (lt_of_block h.kt) h.nq).trans h.kt,hR.gs.below h.be h.be.size fun i hi => by have:=h.yp.qs hi; have:=h.xx; omega,hR.la,h.xx,h.xb,Nat.le_trans h.bd hR.gs.size,h.w2⟩
structure RQ9 (W0 W : World) (x : RS) (bs : List (Nat × Nat)) (ids tx : Value) (q : Nat) : Prop where
 r7 : R7 W q x.c x.n ids tx
 tt : TS W0.heap.size tx x.tx W
 q0 : W0.heap.size ≤ q
 gs : Gs (Qs bs) W0 W
theorem rq_of (h : GQ w W0 X Bd K M sv S bs) (hR : RW W0 V b2 x k (fun i => X < i∧i < Bd) sv S' bs ids tx none) (hW : W = V.alloc (.cells #[.int .i64 x.c,.string ⟨#[]⟩,.int .i64 x.n,ids,tx,.slice none 0 0,.slice none 0 0] 63)) :
  GQ w W X Bd K M sv S' bs∧RQ9 W0 W x bs ids tx V.heap.size:=by
 have hb : Below V.heap.size V W:=by rw [hW]; exact (Below.refl _ _).alloc (Nat.le_refl _) _
 have hl:=hR.tt.lt
 refine ⟨(h.rw hR).bel hb,⟨by rw [hW]; exact heap_alloc_new V _,hR.tt.kb fun i hi => hb.block i (hl i hi).2,hR.gs.size,hR.gs.bel hb⟩⟩
theorem gn_put (h : GQ w W X Bd K M sv (sts q m nm O) bs) (hO : O.length = K + M) (hf : (fnd K M ⟨#[]⟩ (O.map gans)).e = 5 ∨ (fnd K M ⟨#[]⟩ (O.map gans)).e = 100) (hK : 1 ≤ K) (hKM : K + M ≤ 9) (hs : s.size ≤ 204) (hn : mayB nm = true) (hnl : nm.size ≤ 96) (hq : 1000 ≤ q) (hOs : ∀ d,some d ∈ O→d.size ≤ 131072) (hm0 : 0 ≤ m) (hm : m ≤ 100) :
  Calls Tryz.prog 24 #[.agg #[.int .i64 (K : Int),.int .i64 (M : Int)],.string nm,.string s] W fun e w1 => ∃ b2,e = .returned (.pointer (some ⟨b2,0,none⟩))∧KK X K M w1∧Hid (Calls Tryz.prog 33 #[.pointer (some ⟨b2,0,none⟩),sv] w1 fun e w2 => ∃ ai ci at_ ct,e = .returned (.tuple #[.agg #[.int .i64 0,.string ⟨#[]⟩,.int .i64 0,.slice ai 0 ci,.slice at_ 0 ct,.slice none 0 0,.slice none 0 0],.bool true]) ∧
   Hid (∀ W3,W3 = w2.alloc (.cells #[.int .i64 0,.string ⟨#[]⟩,.int .i64 0,.slice ai 0 ci,.slice at_ 0 ct,.slice none 0 0,.slice none 0 0] 63)→GQ w W3 X Bd K M sv (sts q (m + 2) nm ((shL K M s).map some)) bs∧RQ9 W W3 ⟨0,0,[],[]⟩ bs (.slice ai 0 ci) (.slice at_ 0 ct) w2.heap.size)):=by
 have hds : ∀ d ∈ shL K M s,d.size ≤ 131072∧((nm.size + d.size : Nat) : Int) ≤ q:=by
  intro d hd
  obtain ⟨i,_,rfl⟩:=List.mem_map.1 hd
  rw [shB_size hK]
  have : Zq.eachN K s.size ≤ s.size + K - 1:=Nat.div_le_self _ _
  omega
 refine (gq_put (nm:=nm) h (BW.start W) hK (by omega) (by omega)).mono ?_
 rintro e w1 ⟨b2,rfl,hJ,hk⟩
 refine ⟨b2,rfl,hk,?_⟩
 obtain ⟨t1,t2,t3⟩:=putP_lay (q:=q) (m:=m) (k:=kPut) (y:=⟨0,0,[],[]⟩) hO hf rfl (by omega) hn hds
 refine (gq_run (g:=100) h hJ.out (sts_gd (by decide) hm0 hm hnl hOs) t1 t2 t3 (by rw [List.length_append,aq_len,pq_len,shL_len]; omega) (lay_small (by unfold maxLen; omega) fun d hd => (hds d hd).1) (by simp) (by simp)).mono ?_
 rintro e w2 ⟨ai,ci,at_,ct,rfl,hR,_⟩
 exact ⟨ai,ci,at_,ct,rfl,fun W3 hW => rq_of h hR.out hW⟩
theorem gq_scrub {z : Option Nat} (h : GQ w W0 X Bd K M sv S bs) (hz : BW W0 W z) (hK : 1 ≤ K) (hKM : K + M ≤ 255) :
  Calls Tryz.prog 28 #[.agg #[.int .i64 (K : Int),.int .i64 (M : Int)],.string nm,.string want] W fun e w' => ∃ b2,e = .returned (.pointer (some ⟨b2,0,none⟩))∧Hid (JW W0 w' b2 (scrubP K M nm want kScrub) z)∧KK X K M w':=by
 refine (oscrubjob (w:=W) (ox_scrub hK hKM) (h.la.below hz.be h.la.size)).mono ?_
 intro e w' hM
 obtain ⟨b2,rfl,hJ⟩:=JW.of hM hz
 exact ⟨b2,rfl,hJ,h.kb hJ.out.be⟩
end
end Go.Proofs.YtagijldedngcoaaGreatDoor


namespace Go.Proofs.YtagijldedngcoaaGreatDoor
open Go.RowKit Go.Lib Go.Maps
def nmN : ByteArray:=⟨#[110,97,109,101]⟩
theorem nmN_may : mayB nmN = true:=by decide
section
variable {w U W V : World} {X Bd K M : Nat} {sv : Value} {S : List SS} {bs : List (Nat × Nat)} {q m : Int} {nm : ByteArray} {O : List (Option ByteArray)}
theorem gq_yard {sv : Value} (hk : U.heap[X]? = some (.cells #[.int .i64 (K : Int),.int .i64 (M : Int)] 27 (0,0))) (hX : w.heap.size ≤ X) (hB : Below w.heap.size w U) (hLw : Zq.Sh.Laid w) (hY : YB q U W sv bs) (hl : bs.length = K + M) (nm : ByteArray) : GQ w W X W.heap.size K M sv (sts q 0 nm (List.replicate (K + M) none)) bs:=by
 have hs:=hY.be.size
 have hkl:=lt_of_block hk
 have hbe : Below w.heap.size w W:=hB.trans (hY.be.mono hB.size)
 have hyp:=hY.yp
 rw [hl,sts_new (nm:=nm)] at hyp
 exact ⟨hyp.mono fun i hi => ⟨by omega,hi.2⟩,(hY.be.block X hkl).trans hk,hbe,hLw.below hbe hLw.size,hX,by omega,Nat.le_refl _,hLw.size⟩
theorem gO_sm {s : ByteArray} {a j : Nat} (hK : 1 ≤ K) (hKM : K + M ≤ 9) (hs : s.size ≤ 204) : ∀ d,some d ∈ gO K M s a j→d.size ≤ 131072:=by
 intro d hd
 rw [gO] at hd
 obtain ⟨i,_,hi⟩:=List.mem_map.1 hd
 split at hi
 ·cases hi
 ·cases hi
  rw [shB_size hK]
  have : Zq.eachN K s.size ≤ s.size + K - 1:=Nat.div_le_self _ _
  omega
theorem sh_sm {s : ByteArray} (hK : 1 ≤ K) (hKM : K + M ≤ 9) (hs : s.size ≤ 204) : ∀ d,some d ∈ (shL K M s).map some→d.size ≤ 131072:=by
 rw [← gO_start (a:=0)]
 exact gO_sm hK hKM hs
theorem no_sm : ∀ d,some d ∈ List.replicate (K + M) (none : Option ByteArray)→d.size ≤ 131072:=fun d hd => by simp at hd
theorem no_fnd (hK : 1 ≤ K) (hKM : K + M ≤ 255) : (fnd K M ⟨#[]⟩ ((List.replicate (K + M) none).map gans)).e = 5:=by
 have e : List.replicate (K + M) (none : Option ByteArray) = gO K M ⟨#[]⟩ 0 (K + M):=by
  refine List.ext_getElem? fun i => ?_
  by_cases hi : i < K + M
  ·rw [gO_at hi,if_pos ⟨Nat.zero_le _,hi⟩,List.getElem?_replicate,if_pos hi]
  ·rw [List.getElem?_eq_none (by simp; omega),List.getElem?_eq_none (by rw [gO_len]; omega)]
 rw [e,gO_gone hK hKM (Nat.zero_le _) hK,if_pos rfl]
end
end Go.Proofs.YtagijldedngcoaaGreatDoor

namespace Go.Proofs.YtagijldedngcoaaGreatDoor
open Go.RowKit Go.Lib Go.Maps
section
variable {K M i : Nat} {s nm want : ByteArray} {q m : Int} {O : List (Option ByteArray)} {had : List Zq.SX}
theorem pb_run : ∀ (ds : List ByteArray) (i0 : Nat) (S : List SS),i0 + ds.length ≤ S.length →
  (ySs S (pbF nm had i0 ds)).length = S.length∧(∀ j,(j < i0 ∨ hasI had (j : Int) = true ∨ i0 + ds.length ≤ j)→(ySs S (pbF nm had i0 ds))[j]? = S[j]?)∧(∀ j d sj,ds[j]? = some d→hasI had ((i0 + j : Nat) : Int) = false→S[i0 + j]? = some sj→(ySs S (pbF nm had i0 ds))[i0 + j]? = some (doS sj 1 nm d))∧∀ x ∈ yRs S (pbF nm had i0 ds),∃ j d sj,ds[j]? = some d∧S[i0 + j]? = some sj∧x = doR sj 1 nm d
 | [],i0,S,_ => ⟨rfl,fun j _ => rfl,fun j d sj h => by simp at h,fun x hx => by simp [pbF,yRs] at hx⟩
 | d0 :: ds,i0,S,hl => by
  rw [List.length_cons] at hl
  obtain ⟨s0,hs0⟩ : ∃ s0,S[i0]? = some s0:=⟨_,List.getElem?_eq_getElem (by omega)⟩
  by_cases hh : hasI had (i0 : Int) = true
  ·obtain ⟨h1,h2,h3,h4⟩:=pb_run ds (i0 + 1) S (by omega)
   rw [pbF,if_pos hh]
   refine ⟨h1,fun j hj => h2 j ?_,fun j d sj hd hn hs => ?_,fun x hx => ?_⟩
   ·rcases hj with h | h | h
    ·exact .inl (by omega)
    ·exact .inr (.inl h)
    ·rw [List.length_cons] at h; exact .inr (.inr (by omega))
   ·cases j with
    | zero => rw [Nat.add_zero] at hn; rw [hh] at hn; cases hn
    | succ j =>
     rw [show i0 + (j + 1) = i0 + 1 + j by omega] at hn hs ⊢
     exact h3 j d sj (by simpa using hd) hn hs
   ·obtain ⟨j,d,sj,a1,a2,a3⟩:=h4 x hx
    exact ⟨j + 1,d,sj,by simpa using a1,by rw [show i0 + (j + 1) = i0 + 1 + j by omega]; exact a2,a3⟩
  ·have hst : yS S ⟨(i0 : Int),1,nm,d0⟩ = S.set i0 (doS s0 1 nm d0):=by rw [yS,if_pos (by show (0 : Int) ≤ (i0 : Int); omega)]; simp only [Int.toNat_natCast,hs0]
   have hr : yR S ⟨(i0 : Int),1,nm,d0⟩ = doR s0 1 nm d0:=by rw [yR,if_pos (by show (0 : Int) ≤ (i0 : Int); omega)]; simp only [Int.toNat_natCast,hs0]
   rw [pbF,if_neg hh,ySs,yRs,hst,hr]
   obtain ⟨h1,h2,h3,h4⟩:=pb_run ds (i0 + 1) (S.set i0 (doS s0 1 nm d0)) (by rw [List.length_set]; omega)
   have hne : ∀ j,j ≠ i0→(S.set i0 (doS s0 1 nm d0))[j]? = S[j]?:=fun j hj => by rw [List.getElem?_set,if_neg (fun e => hj e.symm)]
   refine ⟨by rw [h1,List.length_set],fun j hj => ?_,fun j d sj hd hn hs => ?_,fun x hx => ?_⟩
   ·have hji : j ≠ i0:=by
     rintro rfl
     rcases hj with h | h | h
     ·omega
     ·exact hh h
     ·rw [List.length_cons] at h; omega
    rw [h2 j ?_,hne j hji]
    rcases hj with h | h | h
    ·exact .inl (by omega)
    ·exact .inr (.inl h)
    ·rw [List.length_cons] at h; exact .inr (.inr (by omega))
   ·cases j with
    | zero =>
     have e : d0 = d:=by simpa using hd
     subst e
     have hs' : S[i0]? = some sj:=hs
     rw [hs0] at hs'
     cases hs'
     show (ySs (S.set i0 (doS s0 1 nm d0)) (pbF nm had (i0 + 1) ds))[i0]? = some (doS s0 1 nm d0)
     rw [h2 i0 (.inl (by omega)),List.getElem?_set,if_pos rfl,if_pos (by omega)]
    | succ j =>
     rw [show i0 + (j + 1) = i0 + 1 + j by omega] at hn hs ⊢
     exact h3 j d sj (by simpa using hd) hn (by rw [hne _ (by omega)]; exact hs)
   ·rcases List.mem_cons.1 hx with rfl | hx
    ·exact ⟨0,d0,s0,rfl,hs0,rfl⟩
    ·obtain ⟨j,d,sj,a1,a2,a3⟩:=h4 x hx
     exact ⟨j + 1,d,sj,by simpa using a1,by rw [show i0 + (j + 1) = i0 + 1 + j by omega,← hne (i0 + 1 + j) (by omega)]; exact a2,a3⟩
theorem hasI_map (L : List Nat) : hasI (L.map (Zq.shX K M s)) (i : Int) = decide (i ∈ L):=by
 rw [Bool.eq_iff_iff,hasI,List.any_eq_true,decide_eq_true_iff]
 constructor
 ·rintro ⟨x,hx,he⟩
  obtain ⟨a,ha,rfl⟩:=List.mem_map.1 hx
  have e : ((a : Int) = (i : Int)):=by simpa [Zq.shX] using he
  rw [show i = a by omega]
  exact ha
 ·intro h
  exact ⟨_,List.mem_map.2 ⟨i,h,rfl⟩,by simp [Zq.shX]⟩
theorem gdI_mem {A : List RR} : i ∈ gdI K M A ↔ ∃ x,A[i]? = some x∧gdX K M i x ≠ none:=by
 rw [gdI,List.mem_filter,List.mem_range]
 constructor
 ·rintro ⟨_,h⟩
  exact @of_decide_eq_true _ (Classical.propDecidable _) h
 ·rintro ⟨x,hx,hn⟩
  exact ⟨(List.getElem?_eq_some_iff.1 hx).1,@decide_eq_true _ (Classical.propDecidable _) ⟨x,hx,hn⟩⟩
structure HO (K M : Nat) (s : ByteArray) (O : List (Option ByteArray)) : Prop where
 len : O.length = K + M
 ok : ∀ i o,O[i]? = some o→o = some (Zq.shB K M s i) ∨ gdX K M i (gans o) = none
noncomputable def hN (K M : Nat) (s : ByteArray) (O : List (Option ByteArray)) : Nat:=((List.range (K + M)).filter fun i => @decide (O[i]? ≠ some (some (Zq.shB K M s i))) (Classical.propDecidable _)).length
theorem HO.gn (hK : 1 ≤ K) (hKM : K + M ≤ 255) (hs : s.size ≤ 65536) (h : HO K M s O) : Gn K M s (O.map gans):=by
 intro i x hx
 have hi : i < K + M:=by have:=(List.getElem?_eq_some_iff.1 hx).1; rwa [List.length_map,h.len] at this
 rw [List.getElem?_map] at hx
 obtain ⟨o,ho,rfl⟩:=Option.map_eq_some_iff.1 hx
 rcases h.ok i o ho with rfl | hn
 ·exact .inr (gans_true hK hKM hs hi)
 ·exact .inl hn
theorem HO.good (hK : 1 ≤ K) (hKM : K + M ≤ 255) (hs : s.size ≤ 65536) (h : HO K M s O) (hi : i < K + M) : i ∈ gdI K M (O.map gans) ↔ O[i]? = some (some (Zq.shB K M s i)):=by
 rw [gdI_mem]
 constructor
 ·rintro ⟨x,hx,hn⟩
  rw [List.getElem?_map] at hx
  obtain ⟨o,ho,rfl⟩:=Option.map_eq_some_iff.1 hx
  rcases h.ok i o ho with rfl | hb
  ·exact ho
  ·exact absurd hb hn
 ·intro ho
  exact ⟨_,by rw [List.getElem?_map,ho]; rfl,by rw [gans_true hK hKM hs hi]; simp⟩
theorem HO.cnt (hK : 1 ≤ K) (hKM : K + M ≤ 255) (hs : s.size ≤ 65536) (h : HO K M s O) : (gdI K M (O.map gans)).length + hN K M s O = K + M:=by
 have e : gdI K M (O.map gans) = (List.range (K + M)).filter fun i => !(@decide (O[i]? ≠ some (some (Zq.shB K M s i))) (Classical.propDecidable _)):=by
  rw [gdI,List.length_map,h.len]
  refine List.filter_congr fun i hi => ?_
  rw [Bool.eq_iff_iff,@decide_eq_true_iff _ (Classical.propDecidable _),Bool.not_eq_true',@decide_eq_false_iff_not _ (Classical.propDecidable _),Classical.not_not,← h.good hK hKM hs (List.mem_range.1 hi),gdI_mem]
 have : ∀ (l : List Nat) (p : Nat→Bool),(l.filter fun i => !p i).length + (l.filter p).length = l.length:=by
  intro l p
  induction l with
  | nil => rfl
  | cons a l ih =>
   simp only [List.filter_cons,List.length_cons]
   cases p a <;> simp <;> omega
 rw [e,hN,this,List.length_range]
theorem HO.found (hK : 1 ≤ K) (hKM : K + M ≤ 255) (hs : s.size ≤ 65536) (h : HO K M s O) (hM : hN K M s O ≤ M) (hw : want = ⟨#[]⟩ ∨ want = Zq.bs (Zq.Sh.digest s.data.toList)) : fnd K M want (O.map gans) = ⟨s,(gdI K M (O.map gans)).map (Zq.shX K M s),0⟩ :=
 fnd_true hK hKM hs (by rw [List.length_map,h.len]; exact Nat.le_refl _) (h.gn hK hKM hs) hw (by have:=h.cnt hK hKM hs; omega)
theorem all_zero : ∀ {l : List Int},(∀ x ∈ l,x = 0)→frs [] l = 0∧gds l = l.length
 | [],_ => ⟨rfl,rfl⟩
 | a :: l,h => by
  have h0 : a = 0:=h a (by simp)
  obtain ⟨h1,h2⟩:=all_zero (l:=l) fun x hx => h x (by simp [hx])
  subst h0
  exact ⟨by rw [frs,if_pos (.inl rfl)]; exact h1,by rw [gds,if_pos rfl,h2,List.length_cons]; omega⟩
theorem pbF_cnt (f : Nat→ByteArray) : ∀ n,(pbF nm had 0 ((List.range n).map f)).length = ((List.range n).filter fun i : Nat => !(hasI had (i : Int))).length
 | 0 => rfl
 | n + 1 => by
  rw [List.range_succ,List.map_append,List.map_singleton,pbF_snoc,List.filter_append,List.length_append,List.length_append,pbF_cnt f n,List.length_map,List.length_range,Nat.zero_add]
  cases h : hasI had (n : Int) <;> simp [h]
theorem HO.pbn (hK : 1 ≤ K) (hKM : K + M ≤ 255) (hs : s.size ≤ 65536) (h : HO K M s O) : (pbF nm ((gdI K M (O.map gans)).map (Zq.shX K M s)) 0 (shL K M s)).length = hN K M s O:=by
 rw [shL,pbF_cnt,hN]
 congr 1
 refine List.filter_congr fun i hi => ?_
 rw [hasI_map,Bool.eq_iff_iff,Bool.not_eq_true',decide_eq_false_iff_not,@decide_eq_true_iff _ (Classical.propDecidable _),h.good hK hKM hs (List.mem_range.1 hi)]
theorem scrubP_ho (hK : 1 ≤ K) (hKM : K + M ≤ 255) (hs : s.size ≤ 65536) (h : HO K M s O) (hM : hN K M s O ≤ M) (hn : mayB nm = true) (hd : ∀ d ∈ shL K M s,d.size ≤ 131072∧((nm.size + d.size : Nat) : Int) ≤ q) :
  ∃ L S',(scrubP K M nm ⟨#[]⟩ kScrub).tr (sts q m nm O) = L∧(scrubP K M nm ⟨#[]⟩ kScrub).res (sts q m nm O) = ⟨0,(hN K M s O : Nat),[],[]⟩∧ySs (sts q m nm O) L = S'∧L.length = K + M + hN K M s O∧(∀ t ∈ L,t.n = nm∧(t.d = ⟨#[]⟩ ∨ t.d ∈ shL K M s))∧S'.length = K + M∧∀ i,i < K + M→∃ m',S'[i]? = some (st1 q m' nm (some (Zq.shB K M s i))):=by
 have hg:=sts_get (q:=q) (m:=m) (nm:=nm) (x:=⟨#[]⟩) (O:=O)
 rw [h.len] at hg
 have hf:=h.found (want:=⟨#[]⟩) hK hKM hs hM (.inl rfl)
 obtain ⟨had,hhad⟩ : ∃ had,had = (gdI K M (O.map gans)).map (Zq.shX K M s):=⟨_,rfl⟩
 have hpn:=h.pbn (nm:=nm) hK hKM hs
 rw [← hhad] at hf hpn
 have hl : 0 + (shL K M s).length ≤ (sts q (m + 1) nm O).length:=by rw [shL_len,sts_len,h.len]; omega
 obtain ⟨r1,r2,r3,r4⟩:=pb_run (nm:=nm) (had:=had) (shL K M s) 0 (sts q (m + 1) nm O) hl
 have hz : ∀ x ∈ (yRs (sts q (m + 1) nm O) (pbF nm had 0 (shL K M s))).map (·.c),x = 0:=by
  intro x hx
  obtain ⟨y,hy,rfl⟩:=List.mem_map.1 hx
  obtain ⟨j,d,sj,a1,a2,rfl⟩:=r4 y hy
  rw [Nat.zero_add,sts,List.getElem?_map] at a2
  obtain ⟨o,ho,rfl⟩:=Option.map_eq_some_iff.1 a2
  have hk:=hd d (List.mem_of_getElem? a1)
  rw [(st1_put hn hk.1 hk.2).1]
 obtain ⟨z1,z2⟩:=all_zero hz
 have hsk : scrubK K M nm kScrub (fnd K M ⟨#[]⟩ (O.map gans)) = sqP (pbF nm had 0 (shL K M s)) [] fun A => kScrub (((gds (A.map (·.c)) : Nat) : Int),frs [] (A.map (·.c))):=by
  rw [hf,scrubK,if_pos rfl]
 refine ⟨aq 2 nm ⟨#[]⟩ (K + M) ++ pbF nm had 0 (shL K M s),ySs (sts q (m + 1) nm O) (pbF nm had 0 (shL K M s)),?_,?_,?_,?_,?_,?_,?_⟩
 ·rw [scrubP,findP,sqP_tr,hg.1,hg.2,List.nil_append,hsk,sqP_tr]
  show _ ++ (_ ++ []) = _
  rw [List.append_nil]
 ·rw [scrubP,findP,sqP_res,hg.1,hg.2,List.nil_append,hsk,sqP_res,List.nil_append]
  show (⟨frs [] _,((gds _ : Nat) : Int),[],[]⟩ : RS) = _
  rw [z1,z2,List.length_map,yRs_len,hpn]
 ·rw [ySs_ap,hg.2]
 ·rw [List.length_append,aq_len,hpn]
 ·intro t ht
  rcases List.mem_append.1 ht with ht | ht
  ·obtain ⟨i,_,rfl⟩:=List.mem_map.1 ht
   exact ⟨rfl,.inl rfl⟩
  ·have : ∀ (ds : List ByteArray) (i0 : Nat),∀ t ∈ pbF nm had i0 ds,t.n = nm∧t.d ∈ ds:=by
    intro ds
    induction ds with
    | nil => intro i0 t ht; simp [pbF] at ht
    | cons d ds ih =>
     intro i0 t ht
     rw [pbF] at ht
     split at ht
     ·exact ⟨(ih _ t ht).1,by simp [(ih _ t ht).2]⟩
     ·rcases List.mem_cons.1 ht with rfl | ht
      ·exact ⟨rfl,by simp⟩
      ·exact ⟨(ih _ t ht).1,by simp [(ih _ t ht).2]⟩
   exact ⟨(this _ _ t ht).1,.inr (this _ _ t ht).2⟩
 ·rw [r1,sts_len,h.len]
 ·intro i hi
  obtain ⟨o,ho⟩ : ∃ o,O[i]? = some o:=⟨_,List.getElem?_eq_getElem (by rw [h.len]; exact hi)⟩
  have hsi : (sts q (m + 1) nm O)[i]? = some (st1 q (m + 1) nm o):=sts_at ho
  have hdi : (shL K M s)[i]? = some (Zq.shB K M s i):=by rw [shL,List.getElem?_map,List.getElem?_range hi]; rfl
  cases hh : hasI had (i : Int) with
  | true =>
   rw [hhad,hasI_map,decide_eq_true_iff,h.good hK hKM hs hi] at hh
   rw [ho] at hh
   injection hh with hh
   refine ⟨m + 1,?_⟩
   rw [r2 i (.inr (.inl ?_)),hsi,hh]
   rw [hhad,hasI_map,decide_eq_true_iff,h.good hK hKM hs hi,ho,hh]
  | false =>
   have:=r3 i _ _ hdi (by rw [Nat.zero_add]; exact hh) (by rw [Nat.zero_add]; exact hsi)
   rw [Nat.zero_add] at this
   have hk:=hd _ (List.mem_of_getElem? hdi)
   rw [(st1_put hn hk.1 hk.2).2] at this
   exact ⟨_,this⟩
end
end Go.Proofs.YtagijldedngcoaaGreatDoor

/-
  Contracts of the program and of the statements (part 23 of 28).
-/
import Derived.Test.YtagijldedngcoaaGreatDoorOl22
import Derived.Test.YtagijldedngcoaaGreatDoorOl15
import Derived.Test.YtagijldedngcoaaGreatDoorOl11
set_option maxRecDepth 100000
set_option maxHeartbeats 3200000

namespace Go.Proofs.YtagijldedngcoaaGreatDoor
open Go.RowKit Go.Lib Go.Maps
section
variable {α : Type} {F : FuncId} {fi ca : Array Value} {b : Nat} {Fin : α→List RR→(Nat→Prop)→World→Prop} {k : Int × Int→PN α} {e m r r' p : Nat→Prop} {w w0 W : World} {A0 : List RR} {K M : Nat} {nm s : ByteArray} {R : World→Prop} {y1 y2 y3 y4 y5 : Nat} {hv : Value} {x : FV}
open Classical in
noncomputable def putK (K M : Nat) (nm s : ByteArray) (k : Int × Int→PN α) (f : FV) : PN α :=
 if f.e = 0 then (if f.d = s then k (0,0) else k (101,0)) else if f.e = 5 ∨ f.e = 100 then layP K M nm s k else k (f.e,0)
noncomputable def putP (K M : Nat) (nm s : ByteArray) (k : Int × Int→PN α) : PN α:=if 65536 < s.size then k (2,0) else findP K M nm ⟨#[]⟩ (putK K M nm s k)
theorem fe_p : FE 136:=FE.of Tryz.underlying136
theorem put2_code {fa : Option Addr} {fn fc : Nat} {c : Int} (hent : Ent F) (h1 : W.heap[y1]? = some (.cells #[.string s] 9 (0,0))) (h2 : W.heap[y2]? = some (.cells #[.func (.func F) fi ca] 136 (0,0)))
  (hc : (x.e = 0∧x.d = s∧c = 0) ∨ (x.e = 0∧x.d ≠ s∧c = 101) ∨ (x.e ≠ 0∧x.e ≠ 5∧x.e ≠ 100∧c = x.e))
  (HC : Calls Tryz.prog F (fi ++ (#[.int .i64 c,.int .i64 0] ++ ca)) W fun er w' => er = .returned (.tuple #[])∧R w') :
  Calls Tryz.prog 110 #[.string x.d,.slice fa fn fc,.int .i64 x.e,.pointer (some ⟨y1,0,none⟩),.pointer (some ⟨y2,0,none⟩),.pointer (some ⟨y3,0,none⟩),.pointer (some ⟨y4,0,none⟩),.pointer (some ⟨y5,0,none⟩)] W fun er w' => er = .returned (.tuple #[])∧R w':=by
 obtain ⟨z1,_⟩:=cell1 h1
 obtain ⟨z2,_⟩:=cell1 h2
 have HH:=hide HC
 obtain ⟨xd,xh,xe⟩:=x
 simp only at hc ⊢
 unfold Ent at hent
 clear h1 h2 HC
 rcases hc with ⟨rfl,rfl,rfl⟩ | ⟨rfl,hd,rfl⟩ | ⟨q0,q5,q1,rfl⟩
 ·go_enter Tryz.func110,Tryz.ntmps110
  go_wp2_with fail
  refine HH.out.mono ?_
  rintro er w2 ⟨rfl,hF⟩
  have HF:=hide hF
  clear hF
  go_wp2
  go_end0
  exact ⟨rfl,HF.out⟩
 ·obtain ⟨u1,u2⟩:=Zq.unlike_tests hd
  go_enter Tryz.func110,Tryz.ntmps110
  go_wp2_with fail
  refine HH.out.mono ?_
  rintro er w2 ⟨rfl,hF⟩
  have HF:=hide hF
  clear hF
  go_wp2
  go_end0
  exact ⟨rfl,HF.out⟩
 ·have e5 : (c == 5) = false:=by simpa using q5
  have e1 : (c == 100) = false:=by simpa using q1
  go_enter Tryz.func110,Tryz.ntmps110
  go_wp2_with fail
  refine HH.out.mono ?_
  rintro er w2 ⟨rfl,hF⟩
  have HF:=hide hF
  clear hF
  go_wp2
  go_end0
  exact ⟨rfl,HF.out⟩
theorem put2_lay {fa : Option Addr} {fn fc : Nat} (h1 : W.heap[y1]? = some (.cells #[.string s] 9 (0,0))) (h2 : W.heap[y2]? = some (.cells #[.func (.func F) fi ca] 136 (0,0))) (h3 : W.heap[y3]? = some (.cells #[.pointer (some ⟨b,0,none⟩)] 99 (0,0))) (h4 : W.heap[y4]? = some (.cells #[.int .i64 (K : Int),.int .i64 (M : Int)] 27 (0,0))) (h5 : W.heap[y5]? = some (.cells #[.string nm] 9 (0,0)))
  (hc : x.e = 5 ∨ x.e = 100)
  (HC : Calls Tryz.prog 111 #[.pointer (some ⟨b,0,none⟩),.agg #[.int .i64 (K : Int),.int .i64 (M : Int)],.string nm,.string s,.func (.func F) fi ca] W fun er w' => er = .returned (.tuple #[])∧R w') :
  Calls Tryz.prog 110 #[.string x.d,.slice fa fn fc,.int .i64 x.e,.pointer (some ⟨y1,0,none⟩),.pointer (some ⟨y2,0,none⟩),.pointer (some ⟨y3,0,none⟩),.pointer (some ⟨y4,0,none⟩),.pointer (some ⟨y5,0,none⟩)] W fun er w' => er = .returned (.tuple #[])∧R w':=by
 obtain ⟨z1,_⟩:=cell1 h1
 obtain ⟨z2,_⟩:=cell1 h2
 obtain ⟨z3,_⟩:=cell1 h3
 have z4 : W.cell? ⟨y4,0,none⟩ = some (.int .i64 (K : Int)):=by simp [World.cell?,h4]
 have z4' : W.cell? ⟨y4,1,none⟩ = some (.int .i64 (M : Int)):=by simp [World.cell?,h4]
 obtain ⟨z5,_⟩:=cell1 h5
 have HH:=hide HC
 obtain ⟨xd,xh,xe⟩:=x
 simp only at hc ⊢
 clear h1 h2 h3 h4 h5 HC
 rcases hc with rfl | rfl
 ·go_enter Tryz.func110,Tryz.ntmps110
  go_wp2_with fail
  refine HH.out.mono ?_
  rintro er w2 ⟨rfl,hF⟩
  have HF:=hide hF
  clear hF
  go_wp2
  go_end0
  exact ⟨rfl,HF.out⟩
 ·go_enter Tryz.func110,Tryz.ntmps110
  go_wp2_with fail
  refine HH.out.mono ?_
  rintro er w2 ⟨rfl,hF⟩
  have HF:=hide hF
  clear hF
  go_wp2
  go_end0
  exact ⟨rfl,HF.out⟩
theorem ent_p2 : Ent 110:=ent_of Tryz.func110 (by kernel_rfl) rfl
theorem kv_put2 (hent : Ent F) (HK : KV F fi ca b Fin vP k e m w) (hb : Below w.heap.size w W) (heb : ¬ e b) (hme : ∀ i,m i→e i) (hel : ∀ i,e i→i < w.heap.size) (hK : 1 ≤ K) (hKM : K + M ≤ 255) (hs : s.size ≤ 65536)
  (h1 : W.heap[y1]? = some (.cells #[.string s] 9 (0,0))) (h2 : W.heap[y2]? = some (.cells #[.func (.func F) fi ca] 136 (0,0))) (h3 : W.heap[y3]? = some (.cells #[.pointer (some ⟨b,0,none⟩)] 99 (0,0))) (h4 : W.heap[y4]? = some (.cells #[.int .i64 (K : Int),.int .i64 (M : Int)] 27 (0,0))) (h5 : W.heap[y5]? = some (.cells #[.string nm] 9 (0,0))) :
  KV 110 #[] #[.pointer (some ⟨y1,0,none⟩),.pointer (some ⟨y2,0,none⟩),.pointer (some ⟨y3,0,none⟩),.pointer (some ⟨y4,0,none⟩),.pointer (some ⟨y5,0,none⟩)] b Fin (vF K M) (putK K M nm s k) (fun i => e i ∨ i = y1 ∨ i = y2 ∨ i = y3 ∨ i = y4 ∨ i = y5) m W:=by
 intro V x args A r hS hLw hJ hv hI hr
 obtain ⟨hv,rfl,hLS,hok⟩:=hv
 obtain ⟨fa,fc,rfl⟩:=hLS.shp
 have hsz:=hb.size
 have k1:=(hS.2 y1 (.inr (.inl rfl)) (lt_of_block h1)).trans h1
 have k2:=(hS.2 y2 (.inr (.inr (.inl rfl))) (lt_of_block h2)).trans h2
 have k3:=(hS.2 y3 (.inr (.inr (.inr (.inl rfl)))) (lt_of_block h3)).trans h3
 have k4:=(hS.2 y4 (.inr (.inr (.inr (.inr (.inl rfl))))) (lt_of_block h4)).trans h4
 have k5:=(hS.2 y5 (.inr (.inr (.inr (.inr (.inr rfl))))) (lt_of_block h5)).trans h5
 have hSe : Sm e w V:=((Sm.refl e w).bel hb).trans (hS.mono fun i hi => .inl hi)
 have hws:=hSe.1
 show Calls Tryz.prog 110 #[.string x.d,.slice fa x.had.length fc,.int .i64 x.e,.pointer (some ⟨y1,0,none⟩),.pointer (some ⟨y2,0,none⟩),.pointer (some ⟨y3,0,none⟩),.pointer (some ⟨y4,0,none⟩),.pointer (some ⟨y5,0,none⟩)] V _
 have now : ∀ (c : Int),putK K M nm s k x = k (c,0)→((x.e = 0∧x.d = s∧c = 0) ∨ (x.e = 0∧x.d ≠ s∧c = 101) ∨ (x.e ≠ 0∧x.e ≠ 5∧x.e ≠ 100∧c = x.e))→Calls Tryz.prog 110 #[.string x.d,.slice fa x.had.length fc,.int .i64 x.e,.pointer (some ⟨y1,0,none⟩),.pointer (some ⟨y2,0,none⟩),.pointer (some ⟨y3,0,none⟩),.pointer (some ⟨y4,0,none⟩),.pointer (some ⟨y5,0,none⟩)] V fun er w' => er = .returned (.tuple #[])∧Gs (fun i => i = b ∨ m i) V w'∧RDY b (fun w2 => ∃ P',JJ b Fin (putK K M nm s k x) A P' w2∧Gs (fun i => i = b ∨ m i) V w2∧∀ i,P' i→i = b ∨ (e i ∨ i = y1 ∨ i = y2 ∨ i = y3 ∨ i = y4 ∨ i = y5) ∨ r i ∨ V.heap.size ≤ i) w':=fun c hpk hc => by
  refine put2_code hent k1 k2 hc ((HK V (c,0) _ A (fun _ => False) hSe hLw hJ rfl hI (fun i hi => hi.elim)).mono ?_)
  rintro er w' ⟨rfl,hG,hR⟩
  refine ⟨rfl,hG,hR.mono ?_⟩
  rintro w3 ⟨P',q1,q2,q3⟩
  refine ⟨P',by rw [hpk]; exact q1,q2,fun i hi => ?_⟩
  rcases q3 i hi with h | h | h | h
  ·exact .inl h
  ·exact .inr (.inl (.inl h))
  ·exact h.elim
  ·exact .inr (.inr (.inr h))
 by_cases h0 : x.e = 0
 ·by_cases hd : x.d = s
  ·exact now 0 (by rw [putK,if_pos h0,if_pos hd]) (.inl ⟨h0,hd,rfl⟩)
  ·exact now 101 (by rw [putK,if_pos h0,if_neg hd]) (.inr (.inl ⟨h0,hd,rfl⟩))
 ·by_cases hl : x.e = 5 ∨ x.e = 100
  ·have HK1 : KV F fi ca b Fin vP k e m V:=by
    intro W x args A r hS' hL' hJ' hv hI' hr'
    exact HK W x args A r (hSe.trans hS') hL' hJ' hv hI' fun i hi => ⟨by have:=(hr' i hi).1; omega,(hr' i hi).2⟩
   refine put2_lay k1 k2 k3 k4 k5 hl ((olay_any (nm:=nm) (A0:=A) hent hLw hJ hK hKM hs hI HK1 heb hme (fun i hi => by have:=hel i hi; omega)).mono ?_)
   rintro er w' ⟨rfl,hP⟩
   refine ⟨rfl,hP.1,hP.2.mono ?_⟩
   rintro w3 ⟨P',q1,q2,q3⟩
   refine ⟨P',by rw [putK,if_neg h0,if_pos hl]; exact q1,q2,fun i hi => ?_⟩
   rcases q3 i hi with h | h | h
   ·exact .inl h
   ·exact .inr (.inl (.inl h))
   ·exact .inr (.inr (.inr h))
  ·exact now x.e (by rw [putK,if_neg h0,if_neg hl]) (.inr (.inr ⟨h0,fun h => hl (.inl h),fun h => hl (.inr h),rfl⟩))
theorem oput_any (hent : Ent F) (hLw : Zq.Sh.Laid w) (hJ : JB w b true 0 0 ⟨#[]⟩ ⟨#[]⟩ .nilFunc 0 0 (.slice none 0 0) (.slice none 0 0) (A0.length : Int)) (hK : 1 ≤ K) (hKM : K + M ≤ 255) (hs : s.size ≤ 9223372036854775807) (hI0 : (resI A0).length ≤ 1000000000000) (HK : KV F fi ca b Fin vP k e m w) (heb : ¬ e b) (hme : ∀ i,m i→e i) (hel : ∀ i,e i→i < w.heap.size) :
  Calls Tryz.prog 60 #[.pointer (some ⟨b,0,none⟩),.agg #[.int .i64 (K : Int),.int .i64 (M : Int)],.string nm,.string s,.func (.func F) fi ca] w fun er w' => er = .returned (.tuple #[])∧PO b Fin (putP K M nm s k) A0 e (fun i => i = b ∨ m i) w w':=by
 obtain ⟨U,hU⟩ : ∃ U,U = als w [.cells #[.pointer (some ⟨b,0,none⟩)] 99,.cells #[.int .i64 (K : Int),.int .i64 (M : Int)] 27,.cells #[.string nm] 9,.cells #[.string s] 9,.cells #[.func (.func F) fi ca] 136]:=⟨_,rfl⟩
 obtain ⟨X,hX⟩ : ∃ X,X = w.heap.size:=⟨_,rfl⟩
 have hB : Below w.heap.size w U:=by rw [hU]; exact als_bel _ _
 have h1 : U.heap[X]? = some (.cells #[.pointer (some ⟨b,0,none⟩)] 99 (0,0)):=by rw [hU,hX]; exact als_at _ w 0 _ rfl
 have h2 : U.heap[X + 1]? = some (.cells #[.int .i64 (K : Int),.int .i64 (M : Int)] 27 (0,0)):=by rw [hU,hX]; exact als_at _ w 1 _ rfl
 have h3 : U.heap[X + 2]? = some (.cells #[.string nm] 9 (0,0)):=by rw [hU,hX]; exact als_at _ w 2 _ rfl
 have h4 : U.heap[X + 3]? = some (.cells #[.string s] 9 (0,0)):=by rw [hU,hX]; exact als_at _ w 3 _ rfl
 have h5 : U.heap[X + 4]? = some (.cells #[.func (.func F) fi ca] 136 (0,0)):=by rw [hU,hX]; exact als_at _ w 4 _ rfl
 have y0 : U.cell? ⟨X + 1,0,none⟩ = some (.int .i64 (K : Int)):=by simp [World.cell?,h2]
 have y1 : U.cell? ⟨X + 1,1,none⟩ = some (.int .i64 (M : Int)):=by simp [World.cell?,h2]
 obtain ⟨y4,_⟩:=cell1 h5
 have HCH:=hide (check_any (w:=U) (K : Int) (M : Int) (by omega) (by omega))
 rw [chk_ok hK hKM] at HCH
 have hbl:=hJ.lt
 have HCL : Hid (∀ U2,Below U.heap.size U U2→U2.cell? ⟨X,0,none⟩ = some (.pointer (some ⟨b,0,none⟩))∧U2.cell? ⟨X + 1,0,none⟩ = some (.int .i64 (K : Int))∧U2.cell? ⟨X + 1,1,none⟩ = some (.int .i64 (M : Int))∧U2.cell? ⟨X + 2,0,none⟩ = some (.string nm)∧U2.cell? ⟨X + 3,0,none⟩ = some (.string s)∧U2.cell? ⟨X + 4,0,none⟩ = some (.func (.func F) fi ca)):=fun U2 hB2 => by
  have e1:=(hB2.block X (lt_of_block h1)).trans h1
  have e2:=(hB2.block (X + 1) (lt_of_block h2)).trans h2
  have e3:=(hB2.block (X + 2) (lt_of_block h3)).trans h3
  have e4:=(hB2.block (X + 3) (lt_of_block h4)).trans h4
  have e5:=(hB2.block (X + 4) (lt_of_block h5)).trans h5
  exact ⟨(cell1 e1).1,by simp [World.cell?,e2],by simp [World.cell?,e2],(cell1 e3).1,(cell1 e4).1,(cell1 e5).1⟩
 have HU : Hid (U = ((((w.alloc (.cells #[.pointer (some ⟨b,0,none⟩)] 99)).alloc (.cells #[.int .i64 (K : Int),.int .i64 (M : Int)] 27)).alloc (.cells #[.string nm] 9)).alloc (.cells #[.string s] 9)).alloc (.cells #[.func (.func F) fi ca] 136)):=hU
 have HX:=hide hX
 obtain ⟨g1,g2,g3,g4⟩:=fe_p
 have hent0:=hide hent
 unfold Ent at hent
 by_cases hlg : 65536 < s.size
 ·have HN : Hid (∀ U2,Below U.heap.size U U2→Calls Tryz.prog F (fi ++ (#[.int .i64 2,.int .i64 0] ++ ca)) U2 fun er w' => er = .returned (.tuple #[])∧PO b Fin (putP K M nm s k) A0 e (fun i => i = b ∨ m i) w w'):=fun U2 hB2 => by
   have hBU : Below w.heap.size w U2:=hB.trans (hB2.mono hB.size)
   refine (HK.now (x:=(2,0)) ((Sm.refl e w).bel hBU) (hLw.below hBU hLw.size) (hJ.bel hBU) rfl hI0).mono ?_
   rintro er w' ⟨rfl,hP⟩
   rw [putP,if_pos hlg]
   exact ⟨rfl,hP.bel hBU⟩
  have hlg' : (65536 : Int) < (s.size : Int):=by omega
  clear hLw hJ hI0 HK hU hX hB h1 h2 h3 h4 h5 hbl heb hme hel
  go_enter Tryz.func60,Tryz.ntmps60
  go_upto_region 1 with fail
  rw [← HU.out,← HX.out]
  go_wp2_with fail
  refine HCH.out.mono ?_
  rintro er U2 ⟨rfl,hB2⟩
  obtain ⟨z0,z1,z1',z2,z3,z4⟩:=HCL.out U2 hB2
  have HP2:=hide (HN.out U2 hB2)
  clear hB2
  go_wp2_with fail
  refine HP2.out.mono ?_
  rintro er w2 ⟨rfl,hP⟩
  have HPP:=hide hP
  clear hP
  go_wp2
  exact bodyPost_ret (v:=.tuple #[]) (results_none rfl _ _ _) rfl ⟨rfl,HPP.out⟩
 ·have HN : Hid (∀ U2,Below U.heap.size U U2→Calls Tryz.prog 109 #[.pointer (some ⟨b,0,none⟩),.agg #[.int .i64 (K : Int),.int .i64 (M : Int)],.string nm,.string ⟨#[]⟩,.func (.func 110) #[] #[.pointer (some ⟨X + 3,0,none⟩),.pointer (some ⟨X + 4,0,none⟩),.pointer (some ⟨X,0,none⟩),.pointer (some ⟨X + 1,0,none⟩),.pointer (some ⟨X + 2,0,none⟩)]] U2 fun er w' => er = .returned (.tuple #[])∧PO b Fin (putP K M nm s k) A0 e (fun i => i = b ∨ m i) w w'):=fun U2 hB2 => by
   have hBU : Below w.heap.size w U2:=hB.trans (hB2.mono hB.size)
   have c1:=(hB2.block X (lt_of_block h1)).trans h1
   have c2:=(hB2.block (X + 1) (lt_of_block h2)).trans h2
   have c3:=(hB2.block (X + 2) (lt_of_block h3)).trans h3
   have c4:=(hB2.block (X + 3) (lt_of_block h4)).trans h4
   have c5:=(hB2.block (X + 4) (lt_of_block h5)).trans h5
   have hkv:=kv_put2 (nm:=nm) hent0.out HK hBU heb hme hel hK hKM (by omega : s.size ≤ 65536) c4 c5 c1 c2 c3
   have hsz:=hBU.size
   refine (find_any (nm:=nm) (want:=⟨#[]⟩) (e:=fun i => e i ∨ i = X + 3 ∨ i = X + 4 ∨ i = X ∨ i = X + 1 ∨ i = X + 2) (m:=m) (A0:=A0) ent_p2 (hLw.below hBU hLw.size) (hJ.bel hBU) hK hKM hI0 hkv (by rintro (h | h | h | h | h | h); exact heb h; omega; omega; omega; omega; omega) (fun i hi => .inl (hme i hi)) (by
    rintro i (h | h | h | h | h | h)
    ·have:=hel i h; omega
    ·rw [h]; exact lt_of_block c4
    ·rw [h]; exact lt_of_block c5
    ·rw [h]; exact lt_of_block c1
    ·rw [h]; exact lt_of_block c2
    ·rw [h]; exact lt_of_block c3)).mono ?_
   rintro er w' ⟨rfl,hP⟩
   rw [putP,if_neg hlg]
   refine ⟨rfl,(hP.bel hBU).less ?_⟩
   rintro i (h | h | h | h | h | h)
   ·exact .inl h
   ·exact .inr (by omega)
   ·exact .inr (by omega)
   ·exact .inr (by omega)
   ·exact .inr (by omega)
   ·exact .inr (by omega)
  have hlg' : ¬ (65536 : Int) < (s.size : Int):=by omega
  have hmf : ∀ (fn : Fn) (first cap : Array Value) (w : World),(Instr.makeFunc fn first cap).run Tryz.prog w = .ok (.func fn first cap) w:=fun _ _ _ _ => rfl
  clear hLw hJ hI0 HK hU hX hB h1 h2 h3 h4 h5 hbl heb hme hel
  go_enter Tryz.func60,Tryz.ntmps60
  go_upto_region 1 with fail
  rw [← HU.out,← HX.out]
  go_wp2_with fail
  refine HCH.out.mono ?_
  rintro er U2 ⟨rfl,hB2⟩
  obtain ⟨z0,z1,z1',z2,z3,z4⟩:=HCL.out U2 hB2
  have HP2:=hide (HN.out U2 hB2)
  clear hB2
  go_wp2_with fail
  refine HP2.out.mono ?_
  rintro er w2 ⟨rfl,hP⟩
  have HPP:=hide hP
  clear hP
  go_wp2
  go_end0
  exact ⟨rfl,HPP.out⟩
end
end Go.Proofs.YtagijldedngcoaaGreatDoor

namespace Go.Proofs.YtagijldedngcoaaGreatDoor
open Go.RowKit Go.Lib Go.Maps
section
variable {α : Type} {F : FuncId} {fi ca : Array Value} {b : Nat} {Fin : α→List RR→(Nat→Prop)→World→Prop} {e m : Nat→Prop} {w : World} {A0 : List RR} {nm s : ByteArray}
theorem fe_g : FE 138:=FE.of Tryz.underlying138
theorem fe_s : FE 144:=FE.of Tryz.underlying144
end
end Go.Proofs.YtagijldedngcoaaGreatDoor

namespace Go.Proofs.YtagijldedngcoaaGreatDoor
open Go.RowKit Go.Lib Go.Maps
section
variable {α : Type} {F : FuncId} {fi ca : Array Value} {b : Nat} {Fin : α→List RR→(Nat→Prop)→World→Prop} {k : ByteArray × Int→PN α} {e m r r' p : Nat→Prop} {w w0 W : World} {A0 : List RR} {K M : Nat} {nm want : ByteArray} {R : World→Prop} {y1 : Nat} {x : FV}
noncomputable def getP (K M : Nat) (nm want : ByteArray) (k : ByteArray × Int→PN α) : PN α:=findP K M nm want fun f => k (f.d,f.e)
theorem get2_any {fa : Option Addr} {fn fc : Nat} (hent : Ent F) (h1 : W.heap[y1]? = some (.cells #[.func (.func F) fi ca] 138 (0,0)))
  (HC : Calls Tryz.prog F (fi ++ (#[.string x.d,.int .i64 x.e] ++ ca)) W fun er w' => er = .returned (.tuple #[])∧R w') :
  Calls Tryz.prog 114 #[.string x.d,.slice fa fn fc,.int .i64 x.e,.pointer (some ⟨y1,0,none⟩)] W fun er w' => er = .returned (.tuple #[])∧R w':=by
 obtain ⟨z1,_⟩:=cell1 h1
 have HH:=hide HC
 obtain ⟨xd,xh,xe⟩:=x
 simp only
 unfold Ent at hent
 clear h1 HC
 go_enter Tryz.func114,Tryz.ntmps114
 go_wp2_with fail
 refine HH.out.mono ?_
 rintro er w2 ⟨rfl,hF⟩
 have HF:=hide hF
 clear hF
 go_wp2
 go_end0
 exact ⟨rfl,HF.out⟩
theorem ent_g2 : Ent 114:=ent_of Tryz.func114 (by kernel_rfl) rfl
theorem kv_get2 (hent : Ent F) (HK : KV F fi ca b Fin vG k e m w) (hb : Below w.heap.size w W)
  (h1 : W.heap[y1]? = some (.cells #[.func (.func F) fi ca] 138 (0,0))) :
  KV 114 #[] #[.pointer (some ⟨y1,0,none⟩)] b Fin (vF K M) (fun f => k (f.d,f.e)) (fun i => e i ∨ i = y1) m W:=by
 intro V x args A r hS hLw hJ hv hI hr
 obtain ⟨hv,rfl,hLS,hok⟩:=hv
 obtain ⟨fa,fc,rfl⟩:=hLS.shp
 have k1:=(hS.2 y1 (.inr rfl) (lt_of_block h1)).trans h1
 have hSe : Sm e w V:=((Sm.refl e w).bel hb).trans (hS.mono fun i hi => .inl hi)
 show Calls Tryz.prog 114 #[.string x.d,.slice fa x.had.length fc,.int .i64 x.e,.pointer (some ⟨y1,0,none⟩)] V _
 refine get2_any hent k1 ((HK V (x.d,x.e) _ A (fun _ => False) hSe hLw hJ rfl hI (fun i hi => hi.elim)).mono ?_)
 rintro er w' ⟨rfl,hG,hR⟩
 refine ⟨rfl,hG,hR.mono ?_⟩
 rintro w3 ⟨P',q1,q2,q3⟩
 refine ⟨P',q1,q2,fun i hi => ?_⟩
 rcases q3 i hi with h | h | h | h
 ·exact .inl h
 ·exact .inr (.inl (.inl h))
 ·exact h.elim
 ·exact .inr (.inr (.inr h))
theorem oget_any (hent : Ent F) (hLw : Zq.Sh.Laid w) (hJ : JB w b true 0 0 ⟨#[]⟩ ⟨#[]⟩ .nilFunc 0 0 (.slice none 0 0) (.slice none 0 0) (A0.length : Int)) (hK : 1 ≤ K) (hKM : K + M ≤ 255) (hI0 : (resI A0).length ≤ 1000000000000) (HK : KV F fi ca b Fin vG k e m w) (heb : ¬ e b) (hme : ∀ i,m i→e i) (hel : ∀ i,e i→i < w.heap.size) :
  Calls Tryz.prog 64 #[.pointer (some ⟨b,0,none⟩),.agg #[.int .i64 (K : Int),.int .i64 (M : Int)],.string nm,.string want,.func (.func F) fi ca] w fun er w' => er = .returned (.tuple #[])∧PO b Fin (getP K M nm want k) A0 e (fun i => i = b ∨ m i) w w':=by
 obtain ⟨U,hU⟩ : ∃ U,U = als w [.cells #[.int .i64 (K : Int),.int .i64 (M : Int)] 27,.cells #[.func (.func F) fi ca] 138]:=⟨_,rfl⟩
 obtain ⟨X,hX⟩ : ∃ X,X = w.heap.size:=⟨_,rfl⟩
 have hB : Below w.heap.size w U:=by rw [hU]; exact als_bel _ _
 have h2 : U.heap[X]? = some (.cells #[.int .i64 (K : Int),.int .i64 (M : Int)] 27 (0,0)):=by rw [hU,hX]; exact als_at _ w 0 _ rfl
 have h5 : U.heap[X + 1]? = some (.cells #[.func (.func F) fi ca] 138 (0,0)):=by rw [hU,hX]; exact als_at _ w 1 _ rfl
 have y0 : U.cell? ⟨X,0,none⟩ = some (.int .i64 (K : Int)):=by simp [World.cell?,h2]
 have y1 : U.cell? ⟨X,1,none⟩ = some (.int .i64 (M : Int)):=by simp [World.cell?,h2]
 obtain ⟨y4,_⟩:=cell1 h5
 have HCH:=hide (check_any (w:=U) (K : Int) (M : Int) (by omega) (by omega))
 rw [chk_ok hK hKM] at HCH
 have hbl:=hJ.lt
 have HCL : Hid (∀ U2,Below U.heap.size U U2→U2.cell? ⟨X,0,none⟩ = some (.int .i64 (K : Int))∧U2.cell? ⟨X,1,none⟩ = some (.int .i64 (M : Int))∧U2.cell? ⟨X + 1,0,none⟩ = some (.func (.func F) fi ca)):=fun U2 hB2 => by
  have e2:=(hB2.block X (lt_of_block h2)).trans h2
  have e5:=(hB2.block (X + 1) (lt_of_block h5)).trans h5
  exact ⟨by simp [World.cell?,e2],by simp [World.cell?,e2],(cell1 e5).1⟩
 have HU : Hid (U = (w.alloc (.cells #[.int .i64 (K : Int),.int .i64 (M : Int)] 27)).alloc (.cells #[.func (.func F) fi ca] 138)):=hU
 have HX:=hide hX
 obtain ⟨g1,g2,g3,g4⟩:=fe_g
 have hent0:=hide hent
 unfold Ent at hent
 have HN : Hid (∀ U2,Below U.heap.size U U2→Calls Tryz.prog 109 #[.pointer (some ⟨b,0,none⟩),.agg #[.int .i64 (K : Int),.int .i64 (M : Int)],.string nm,.string want,.func (.func 114) #[] #[.pointer (some ⟨X + 1,0,none⟩)]] U2 fun er w' => er = .returned (.tuple #[])∧PO b Fin (getP K M nm want k) A0 e (fun i => i = b ∨ m i) w w'):=fun U2 hB2 => by
  have hBU : Below w.heap.size w U2:=hB.trans (hB2.mono hB.size)
  have c5:=(hB2.block (X + 1) (lt_of_block h5)).trans h5
  have hkv:=kv_get2 (K:=K) (M:=M) hent0.out HK hBU c5
  have hsz:=hBU.size
  refine (find_any (nm:=nm) (want:=want) (e:=fun i => e i ∨ i = X + 1) (m:=m) (A0:=A0) ent_g2 (hLw.below hBU hLw.size) (hJ.bel hBU) hK hKM hI0 hkv (by rintro (h | h); exact heb h; omega) (fun i hi => .inl (hme i hi)) (by
   rintro i (h | h)
   ·have:=hel i h; omega
   ·rw [h]; exact lt_of_block c5)).mono ?_
  rintro er w' ⟨rfl,hP⟩
  refine ⟨rfl,(hP.bel hBU).less ?_⟩
  rintro i (h | h)
  ·exact .inl h
  ·exact .inr (by omega)
 have hmf : ∀ (fn : Fn) (first cap : Array Value) (w : World),(Instr.makeFunc fn first cap).run Tryz.prog w = .ok (.func fn first cap) w:=fun _ _ _ _ => rfl
 clear hLw hJ hI0 HK hU hX hB h2 h5 hbl heb hme hel
 go_enter Tryz.func64,Tryz.ntmps64
 go_upto_region 1 with fail
 rw [← HU.out,← HX.out]
 go_wp2_with fail
 refine HCH.out.mono ?_
 rintro er U2 ⟨rfl,hB2⟩
 obtain ⟨z0,z1,z4⟩:=HCL.out U2 hB2
 have HP2:=hide (HN.out U2 hB2)
 clear hB2
 go_wp2_with fail
 refine HP2.out.mono ?_
 rintro er w2 ⟨rfl,hP⟩
 have HPP:=hide hP
 clear hP
 go_wp2
 go_end0
 exact ⟨rfl,HPP.out⟩
end
end Go.Proofs.YtagijldedngcoaaGreatDoor

namespace Go.Proofs.YtagijldedngcoaaGreatDoor
open Go.RowKit Go.Lib Go.Maps
def gtx (x : ByteArray × Int) : List ByteArray:=if x.2 = 0 then [x.1] else []
section
variable {b i1 : Nat} {e m r : Nat→Prop} {w w' W : World} {A : List RR} {st k c NN s : Int} {n d nm dt : ByteArray} {go ids tx : Value} {kk mm : Int} {pl : PN RS}
theorem oput_end (h6 : w.heap[i1]? = some (.cells #[.pointer (some ⟨b,0,none⟩)] 99 (0,0))) (hJ : JB w b true st k n d go c NN ids tx s) {cc nn : Int} :
  Calls Tryz.prog 61 #[.int .i64 cc,.int .i64 nn,.pointer (some ⟨i1,0,none⟩)] w fun e w' => e = .returned (.tuple #[])∧∃ ids tx,JB w' b false 0 0 ⟨#[]⟩ ⟨#[]⟩ .nilFunc cc nn ids tx s∧TS w.heap.size ids [] w'∧TS w.heap.size tx [] w'∧Gs (fun i => i = b) w w':=by
 obtain ⟨y1,_⟩:=cell1 h6
 have HE : Hid (Calls Tryz.prog 62 #[.pointer (some ⟨b,0,none⟩),.agg #[.int .i64 cc,.string ⟨#[]⟩,.int .i64 nn,.slice none 0 0,.slice none 0 0,.slice none 0 0,.slice none 0 0]] w fun e w' => e = .returned (.tuple #[])∧∃ ids tx,JB w' b false 0 0 ⟨#[]⟩ ⟨#[]⟩ .nilFunc cc nn ids tx s∧TS w.heap.size ids [] w'∧TS w.heap.size tx [] w'∧Gs (fun i => i = b) w w'):=end_on hJ (LS.nl (f:=t1) (fun _ => True) w) (LS.nl _ w) (by simp) (by simp)
 clear h6 hJ
 go_enter Tryz.func61,Tryz.ntmps61
 go_wp2_with fail
 refine HE.out.mono ?_
 rintro e w1 ⟨rfl,hF⟩
 have HF:=hide hF
 clear hF
 go_wp2
 go_end0
 exact ⟨rfl,HF.out⟩
def kPut (x : Int × Int) : PN RS:=.fin ⟨x.1,x.2,[],[]⟩
theorem kv_put (h6 : w.heap[i1]? = some (.cells #[.pointer (some ⟨b,0,none⟩)] 99 (0,0))) (hb : b < w.heap.size) : KV 61 #[] #[.pointer (some ⟨i1,0,none⟩)] b (FinR b) vP kPut (fun i => i = i1) (fun _ => False) w:=by
 intro W x args A r hS hLw hJ hv hI hr
 subst hv
 show Calls Tryz.prog 61 #[.int .i64 x.1,.int .i64 x.2,.pointer (some ⟨i1,0,none⟩)] W _
 refine (oput_end ((hS.2 i1 rfl (lt_of_block h6)).trans h6) hJ).mono ?_
 rintro er w' ⟨rfl,ids,tx,hJ',h1,h2,hG⟩
 exact ⟨rfl,fin_rdy hJ' h1 h2 hG (Nat.lt_of_lt_of_le hb hS.1)⟩
theorem ent_put11 : Ent 61:=ent_of Tryz.func61 (by kernel_rfl) rfl
theorem ent_put1 : Ent 59:=ent_of Tryz.func59 (by kernel_rfl) rfl
def OXPut (kk mm : Int) (nm dt : ByteArray) (pl : PN RS) : Prop:=∀ (b i1 : Nat) (W : World),Zq.Sh.Laid W→JB W b true 0 0 ⟨#[]⟩ ⟨#[]⟩ .nilFunc 0 0 (.slice none 0 0) (.slice none 0 0) 0→b ≠ i1→i1 < W.heap.size→KV 61 #[] #[.pointer (some ⟨i1,0,none⟩)] b (FinR b) vP kPut (fun i => i = i1) (fun _ => False) W→Calls Tryz.prog 60 #[.pointer (some ⟨b,0,none⟩),.agg #[.int .i64 kk,.int .i64 mm],.string nm,.string dt,.func (.func 61) #[] #[.pointer (some ⟨i1,0,none⟩)]] W fun er w' => er = .returned (.tuple #[])∧PO b (FinR b) pl [] (fun i => i = i1) (fun i => i = b ∨ False) W w'
theorem oputjob1 {x1 x2 x3 : Nat} (HX : OXPut kk mm nm dt pl) (hLw : Zq.Sh.Laid w) (hJ : JB w b true 0 0 ⟨#[]⟩ ⟨#[]⟩ .nilFunc 0 0 (.slice none 0 0) (.slice none 0 0) 0) (h1 : w.heap[x1]? = some (.cells #[.int .i64 kk,.int .i64 mm] 27 (0,0))) (h2 : w.heap[x2]? = some (.cells #[.string nm] 9 (0,0))) (h3 : w.heap[x3]? = some (.cells #[.string dt] 9 (0,0))) :
  Calls Tryz.prog 59 #[.pointer (some ⟨b,0,none⟩),.pointer (some ⟨x1,0,none⟩),.pointer (some ⟨x2,0,none⟩),.pointer (some ⟨x3,0,none⟩)] w fun e w' => e = .returned (.tuple #[])∧PO b (FinR b) pl [] (fun i => w.heap.size ≤ i) (fun i => i = b) w w':=by
 obtain ⟨U,hU⟩ : ∃ U,U = w.alloc (.cells #[.pointer (some ⟨b,0,none⟩)] 99):=⟨_,rfl⟩
 obtain ⟨i1,hi1⟩ : ∃ i1,i1 = w.heap.size:=⟨_,rfl⟩
 have hBU : Below w.heap.size w U:=by rw [hU]; exact (Below.refl _ _).alloc (Nat.le_refl _) _
 have hJU:=hJ.bel hBU
 have h6 : U.heap[i1]? = some (.cells #[.pointer (some ⟨b,0,none⟩)] 99 (0,0)):=by rw [hU,hi1]; exact heap_alloc_new w _
 have y6:=(cell1 h6).1
 have h1U:=(hBU.block x1 (lt_of_block h1)).trans h1
 have y0 : U.cell? ⟨x1,0,none⟩ = some (.int .i64 kk):=by simp [World.cell?,h1U]
 have y1 : U.cell? ⟨x1,1,none⟩ = some (.int .i64 mm):=by simp [World.cell?,h1U]
 have y2:=(cell1 ((hBU.block x2 (lt_of_block h2)).trans h2)).1
 have y3:=(cell1 ((hBU.block x3 (lt_of_block h3)).trans h3)).1
 have hbl:=hJ.lt
 have HN:=hide (HX b i1 U (hLw.below hBU hLw.size) hJU (by omega) (lt_of_block h6) (kv_put h6 hJU.lt))
 have HU:=hide hU
 have HI:=hide hi1
 have HB:=hide hBU
 have hmf : ∀ (fn : Fn) (first cap : Array Value) (w : World),(Instr.makeFunc fn first cap).run Tryz.prog w = .ok (.func fn first cap) w:=fun _ _ _ _ => rfl
 clear HX hLw hJU h6 h1U hBU hU hi1 hJ hbl h1 h2 h3
 go_enter Tryz.func59,Tryz.ntmps59
 go_upto_region 1 with fail
 rw [← HU.out,← HI.out]
 go_wp2_with fail
 refine HN.out.mono ?_
 rintro e w7 ⟨rfl,hQ⟩
 have HQ : Hid (PO b (FinR b) pl [] (fun i => w.heap.size ≤ i) (fun i => i = b) w w7):=by
  have h3:=(hQ.bel HB.out).less (e:=fun i => w.heap.size ≤ i) (fun i hi => .inr (by have:=HI.out; omega))
  exact h3.more fun i hi => by
   rcases hi with h | h
   ·exact h
   ·exact h.elim
 clear hQ
 go_wp2
 go_end0
 exact ⟨rfl,HQ.out⟩
theorem oputjob (HX : OXPut kk mm nm dt pl) (hLw : Zq.Sh.Laid w) :
  Calls Tryz.prog 24 #[.agg #[.int .i64 kk,.int .i64 mm],.string nm,.string dt] w fun e w' => MK FinR pl w w' e:=by
 obtain ⟨U,hU⟩ : ∃ U,U = als w [.cells #[.int .i64 kk,.int .i64 mm] 27,.cells #[.string nm] 9,.cells #[.string dt] 9]:=⟨_,rfl⟩
 obtain ⟨X,hX⟩ : ∃ X,X = w.heap.size:=⟨_,rfl⟩
 have hB : Below w.heap.size w U:=by rw [hU]; exact als_bel _ _
 have h1 : U.heap[X]? = some (.cells #[.int .i64 kk,.int .i64 mm] 27 (0,0)):=by rw [hU,hX]; exact als_at _ w 0 _ rfl
 have h2 : U.heap[X + 1]? = some (.cells #[.string nm] 9 (0,0)):=by rw [hU,hX]; exact als_at _ w 1 _ rfl
 have h3 : U.heap[X + 2]? = some (.cells #[.string dt] 9 (0,0)):=by rw [hU,hX]; exact als_at _ w 2 _ rfl
 have HN : Hid (Calls Tryz.prog 44 #[.func (.func 59) #[] #[.pointer (some ⟨X,0,none⟩),.pointer (some ⟨X + 1,0,none⟩),.pointer (some ⟨X + 2,0,none⟩)]] U fun e w' => Hid (MK FinR pl w w' e)):=by
  refine (start_mk (Fin:=FinR) (pl:=pl) ent_put1 (hLw.below hB hLw.size) fun V hJ hBV hLV => ?_).mono fun e w' h => h.bel hB
  refine (oputjob1 HX hLV hJ ((hBV.block _ (lt_of_block h1)).trans h1) ((hBV.block _ (lt_of_block h2)).trans h2) ((hBV.block _ (lt_of_block h3)).trans h3)).mono ?_
  rintro e w' ⟨rfl,hP⟩
  have:=hBV.size
  exact ⟨rfl,hP.less fun i hi => .inl (by omega)⟩
 have HU : Hid (U = ((w.alloc (.cells #[.int .i64 kk,.int .i64 mm] 27)).alloc (.cells #[.string nm] 9)).alloc (.cells #[.string dt] 9)):=hU
 have HX':=hide hX
 have hmf : ∀ (fn : Fn) (first cap : Array Value) (w : World),(Instr.makeFunc fn first cap).run Tryz.prog w = .ok (.func fn first cap) w:=fun _ _ _ _ => rfl
 clear HX hLw hB hU hX h1 h2 h3
 go_enter Tryz.func24,Tryz.ntmps24
 go_upto_region 1 with fail
 rw [← HU.out,← HX'.out]
 go_wp2_with fail
 refine HN.out.mono ?_
 rintro e w7 hM
 obtain ⟨b,P,rfl,hM'⟩:=hM.out
 have HM : Hid (MK FinR pl w w7 (.returned (.pointer (some ⟨b,0,none⟩)))):=hM.out
 clear hM hM'
 go_wp2
 go_ret
 exact HM.out
theorem oget_end (h6 : w.heap[i1]? = some (.cells #[.pointer (some ⟨b,0,none⟩)] 99 (0,0))) (hJ : JB w b true st k n d go c NN ids tx s) {cc : Int} {gd : ByteArray} :
  Calls Tryz.prog 65 #[.string gd,.int .i64 cc,.pointer (some ⟨i1,0,none⟩)] w fun e w' => e = .returned (.tuple #[])∧∃ ids tx,JB w' b false 0 0 ⟨#[]⟩ ⟨#[]⟩ .nilFunc cc 0 ids tx s∧TS w.heap.size ids [] w'∧TS w.heap.size tx (gtx (gd,cc)) w'∧Gs (fun i => i = b) w w':=by
 obtain ⟨y1,_⟩:=cell1 h6
 have hib : i1 ≠ b:=fun e => by
  rw [e,show w.heap[b]? = _ from hJ] at h6
  simp at h6
 have hbl:=hJ.lt
 obtain ⟨X,hX⟩ : ∃ X,X = w.heap.size:=⟨_,rfl⟩
 have HX:=hide hX
 by_cases h0 : cc = 0
 ·obtain ⟨U,hU⟩ : ∃ U,U = als w [.cells #[.int .i64 cc,.string ⟨#[]⟩,.int .i64 0,.slice none 0 0,.slice (some ⟨X + 1,0,none⟩) 1 1,.slice none 0 0,.slice none 0 0] 63,.cells #[.string gd] 9]:=⟨_,rfl⟩
  have hB : Below w.heap.size w U:=by rw [hU]; exact als_bel _ _
  have c1 : U.heap[X]? = some (.cells #[.int .i64 cc,.string ⟨#[]⟩,.int .i64 0,.slice none 0 0,.slice (some ⟨X + 1,0,none⟩) 1 1,.slice none 0 0,.slice none 0 0] 63 (0,0)):=by rw [hU,hX]; exact als_at _ w 0 _ rfl
  have c2 : U.heap[X + 1]? = some (.cells #[.string gd] 9 (0,0)):=by rw [hU,hX]; exact als_at _ w 1 _ rfl
  have hls : LS t1 1 (fun _ => True) U (.slice (some ⟨X + 1,0,none⟩) 1 1) [gd]:=⟨_,_,rfl,(fun h => by simp at h),.inr ⟨X + 1,0,rfl,trivial,lt_of_block c2,fun i x hx j u hu => by
   match i,hx with
   | 0,hx =>
    injection hx with hx
    subst hx
    match j,hu with
    | 0,hu => injection hu with hu; subst hu; simp [World.cell?,c2]
    | _ + 1,hu => simp [t1] at hu⟩⟩
  have HE:=hide (end_on (c:=cc) (N:=0) (hJ.bel hB) (LS.nl (f:=t1) (fun _ => True) U) hls (by simp) (by simp))
  have z1:=(cell1 ((hB.block i1 (lt_of_block h6)).trans h6)).1
  have q0 : U.cell? ⟨X,0,none⟩ = some (.int .i64 cc):=by simp [World.cell?,c1]
  have q1 : U.cell? ⟨X,1,none⟩ = some (.string ⟨#[]⟩):=by simp [World.cell?,c1]
  have q2 : U.cell? ⟨X,2,none⟩ = some (.int .i64 0):=by simp [World.cell?,c1]
  have q3 : U.cell? ⟨X,3,none⟩ = some (.slice none 0 0):=by simp [World.cell?,c1]
  have q4 : U.cell? ⟨X,4,none⟩ = some (.slice (some ⟨X + 1,0,none⟩) 1 1):=by simp [World.cell?,c1]
  have q5 : U.cell? ⟨X,5,none⟩ = some (.slice none 0 0):=by simp [World.cell?,c1]
  have q6 : U.cell? ⟨X,6,none⟩ = some (.slice none 0 0):=by simp [World.cell?,c1]
  have HG : Hid (gtx (gd,cc) = [gd]):=by rw [Hid,gtx,if_pos h0]
  have HB:=hide hB
  have HU : Hid (U = (w.alloc (.cells #[.int .i64 0,.string ⟨#[]⟩,.int .i64 0,.slice none 0 0,.slice (some ⟨X + 1,0,none⟩) 1 1,.slice none 0 0,.slice none 0 0] 63)).alloc (.cells #[.string gd] 9)):=by rw [hU,h0]; rfl
  subst h0
  clear hib hbl h6 hJ hX hB hU c1 c2 hls
  go_enter Tryz.func65,Tryz.ntmps65
  go_upto_region 3 with fail
  rw [← HX.out,← HU.out]
  go_wp2_with fail
  refine HE.out.mono ?_
  rintro e w1 ⟨rfl,ids',tx',hJ2,hT1,hT2,hG⟩
  have HF : Hid (∃ ids tx,JB w1 b false 0 0 ⟨#[]⟩ ⟨#[]⟩ .nilFunc 0 0 ids tx s∧TS w.heap.size ids [] w1∧TS w.heap.size tx (gtx (gd,0)) w1∧Gs (fun i => i = b) w w1):=by
   rw [HG.out]
   exact ⟨ids',tx',hJ2,hT1.low HB.out.size,hT2.low HB.out.size,(Gs.of_below _ HB.out).trans hG⟩
  clear hJ2 hT1 hT2 hG
  go_wp2
  go_end0
  exact ⟨rfl,HF.out⟩
 ·have HG : Hid (gtx (gd,cc) = []):=by rw [Hid,gtx,if_neg h0]
  obtain ⟨U,hU⟩ : ∃ U,U = als w [.cells #[.int .i64 cc,.string ⟨#[]⟩,.int .i64 0,.slice none 0 0,.slice none 0 0,.slice none 0 0,.slice none 0 0] 63]:=⟨_,rfl⟩
  have hB : Below w.heap.size w U:=by rw [hU]; exact als_bel _ _
  have c1 : U.heap[X]? = some (.cells #[.int .i64 cc,.string ⟨#[]⟩,.int .i64 0,.slice none 0 0,.slice none 0 0,.slice none 0 0,.slice none 0 0] 63 (0,0)):=by rw [hU,hX]; exact als_at _ w 0 _ rfl
  have HE:=hide (end_on (c:=cc) (N:=0) (hJ.bel hB) (LS.nl (f:=t1) (fun _ => True) U) (LS.nl (f:=t1) (fun _ => True) U) (by simp) (by simp))
  have z1:=(cell1 ((hB.block i1 (lt_of_block h6)).trans h6)).1
  have q0 : U.cell? ⟨X,0,none⟩ = some (.int .i64 cc):=by simp [World.cell?,c1]
  have q1 : U.cell? ⟨X,1,none⟩ = some (.string ⟨#[]⟩):=by simp [World.cell?,c1]
  have q2 : U.cell? ⟨X,2,none⟩ = some (.int .i64 0):=by simp [World.cell?,c1]
  have q3 : U.cell? ⟨X,3,none⟩ = some (.slice none 0 0):=by simp [World.cell?,c1]
  have q4 : U.cell? ⟨X,4,none⟩ = some (.slice none 0 0):=by simp [World.cell?,c1]
  have q5 : U.cell? ⟨X,5,none⟩ = some (.slice none 0 0):=by simp [World.cell?,c1]
  have q6 : U.cell? ⟨X,6,none⟩ = some (.slice none 0 0):=by simp [World.cell?,c1]
  have HB:=hide hB
  have HU : Hid (U = w.alloc (.cells #[.int .i64 cc,.string ⟨#[]⟩,.int .i64 0,.slice none 0 0,.slice none 0 0,.slice none 0 0,.slice none 0 0] 63)):=hU
  have h0' : (cc == 0) = false:=by simpa using h0
  clear hib hbl h6 hJ hX hB hU c1
  go_enter Tryz.func65,Tryz.ntmps65
  go_upto_region 3 with fail
  rw [← HX.out,← HU.out]
  go_wp2_with fail
  refine HE.out.mono ?_
  rintro e w1 ⟨rfl,ids',tx',hJ2,hT1,hT2,hG⟩
  have HF : Hid (∃ ids tx,JB w1 b false 0 0 ⟨#[]⟩ ⟨#[]⟩ .nilFunc cc 0 ids tx s∧TS w.heap.size ids [] w1∧TS w.heap.size tx (gtx (gd,cc)) w1∧Gs (fun i => i = b) w w1):=by
   rw [HG.out]
   exact ⟨ids',tx',hJ2,hT1.low HB.out.size,hT2.low HB.out.size,(Gs.of_below _ HB.out).trans hG⟩
  clear hJ2 hT1 hT2 hG
  go_wp2
  go_end0
  exact ⟨rfl,HF.out⟩
def kGet (x : ByteArray × Int) : PN RS:=.fin ⟨x.2,0,[],gtx x⟩
theorem kv_get (h6 : w.heap[i1]? = some (.cells #[.pointer (some ⟨b,0,none⟩)] 99 (0,0))) (hb : b < w.heap.size) : KV 65 #[] #[.pointer (some ⟨i1,0,none⟩)] b (FinR b) vG kGet (fun i => i = i1) (fun _ => False) w:=by
 intro W x args A r hS hLw hJ hv hI hr
 subst hv
 show Calls Tryz.prog 65 #[.string x.1,.int .i64 x.2,.pointer (some ⟨i1,0,none⟩)] W _
 refine (oget_end ((hS.2 i1 rfl (lt_of_block h6)).trans h6) hJ).mono ?_
 rintro er w' ⟨rfl,ids,tx,hJ',h1,h2,hG⟩
 exact ⟨rfl,fin_rdy hJ' h1 h2 hG (Nat.lt_of_lt_of_le hb hS.1)⟩
theorem ent_get11 : Ent 65:=ent_of Tryz.func65 (by kernel_rfl) rfl
theorem ent_get1 : Ent 63:=ent_of Tryz.func63 (by kernel_rfl) rfl
def OXGet (kk mm : Int) (nm dt : ByteArray) (pl : PN RS) : Prop:=∀ (b i1 : Nat) (W : World),Zq.Sh.Laid W→JB W b true 0 0 ⟨#[]⟩ ⟨#[]⟩ .nilFunc 0 0 (.slice none 0 0) (.slice none 0 0) 0→b ≠ i1→i1 < W.heap.size→KV 65 #[] #[.pointer (some ⟨i1,0,none⟩)] b (FinR b) vG kGet (fun i => i = i1) (fun _ => False) W→Calls Tryz.prog 64 #[.pointer (some ⟨b,0,none⟩),.agg #[.int .i64 kk,.int .i64 mm],.string nm,.string dt,.func (.func 65) #[] #[.pointer (some ⟨i1,0,none⟩)]] W fun er w' => er = .returned (.tuple #[])∧PO b (FinR b) pl [] (fun i => i = i1) (fun i => i = b ∨ False) W w'
theorem ogetjob1 {x1 x2 x3 : Nat} (HX : OXGet kk mm nm dt pl) (hLw : Zq.Sh.Laid w) (hJ : JB w b true 0 0 ⟨#[]⟩ ⟨#[]⟩ .nilFunc 0 0 (.slice none 0 0) (.slice none 0 0) 0) (h1 : w.heap[x1]? = some (.cells #[.int .i64 kk,.int .i64 mm] 27 (0,0))) (h2 : w.heap[x2]? = some (.cells #[.string nm] 9 (0,0))) (h3 : w.heap[x3]? = some (.cells #[.string dt] 9 (0,0))) :
  Calls Tryz.prog 63 #[.pointer (some ⟨b,0,none⟩),.pointer (some ⟨x1,0,none⟩),.pointer (some ⟨x2,0,none⟩),.pointer (some ⟨x3,0,none⟩)] w fun e w' => e = .returned (.tuple #[])∧PO b (FinR b) pl [] (fun i => w.heap.size ≤ i) (fun i => i = b) w w':=by
 obtain ⟨U,hU⟩ : ∃ U,U = w.alloc (.cells #[.pointer (some ⟨b,0,none⟩)] 99):=⟨_,rfl⟩
 obtain ⟨i1,hi1⟩ : ∃ i1,i1 = w.heap.size:=⟨_,rfl⟩
 have hBU : Below w.heap.size w U:=by rw [hU]; exact (Below.refl _ _).alloc (Nat.le_refl _) _
 have hJU:=hJ.bel hBU
 have h6 : U.heap[i1]? = some (.cells #[.pointer (some ⟨b,0,none⟩)] 99 (0,0)):=by rw [hU,hi1]; exact heap_alloc_new w _
 have y6:=(cell1 h6).1
 have h1U:=(hBU.block x1 (lt_of_block h1)).trans h1
 have y0 : U.cell? ⟨x1,0,none⟩ = some (.int .i64 kk):=by simp [World.cell?,h1U]
 have y1 : U.cell? ⟨x1,1,none⟩ = some (.int .i64 mm):=by simp [World.cell?,h1U]
 have y2:=(cell1 ((hBU.block x2 (lt_of_block h2)).trans h2)).1
 have y3:=(cell1 ((hBU.block x3 (lt_of_block h3)).trans h3)).1
 have hbl:=hJ.lt
 have HN:=hide (HX b i1 U (hLw.below hBU hLw.size) hJU (by omega) (lt_of_block h6) (kv_get h6 hJU.lt))
 have HU:=hide hU
 have HI:=hide hi1
 have HB:=hide hBU
 have hmf : ∀ (fn : Fn) (first cap : Array Value) (w : World),(Instr.makeFunc fn first cap).run Tryz.prog w = .ok (.func fn first cap) w:=fun _ _ _ _ => rfl
 clear HX hLw hJU h6 h1U hBU hU hi1 hJ hbl h1 h2 h3
 go_enter Tryz.func63,Tryz.ntmps63
 go_upto_region 1 with fail
 rw [← HU.out,← HI.out]
 go_wp2_with fail
 refine HN.out.mono ?_
 rintro e w7 ⟨rfl,hQ⟩
 have HQ : Hid (PO b (FinR b) pl [] (fun i => w.heap.size ≤ i) (fun i => i = b) w w7):=by
  have h3:=(hQ.bel HB.out).less (e:=fun i => w.heap.size ≤ i) (fun i hi => .inr (by have:=HI.out; omega))
  exact h3.more fun i hi => by
   rcases hi with h | h
   ·exact h
   ·exact h.elim
 clear hQ
 go_wp2
 go_end0
 exact ⟨rfl,HQ.out⟩
theorem ogetjob (HX : OXGet kk mm nm dt pl) (hLw : Zq.Sh.Laid w) :
  Calls Tryz.prog 25 #[.agg #[.int .i64 kk,.int .i64 mm],.string nm,.string dt] w fun e w' => MK FinR pl w w' e:=by
 obtain ⟨U,hU⟩ : ∃ U,U = als w [.cells #[.int .i64 kk,.int .i64 mm] 27,.cells #[.string nm] 9,.cells #[.string dt] 9]:=⟨_,rfl⟩
 obtain ⟨X,hX⟩ : ∃ X,X = w.heap.size:=⟨_,rfl⟩
 have hB : Below w.heap.size w U:=by rw [hU]; exact als_bel _ _
 have h1 : U.heap[X]? = some (.cells #[.int .i64 kk,.int .i64 mm] 27 (0,0)):=by rw [hU,hX]; exact als_at _ w 0 _ rfl
 have h2 : U.heap[X + 1]? = some (.cells #[.string nm] 9 (0,0)):=by rw [hU,hX]; exact als_at _ w 1 _ rfl
 have h3 : U.heap[X + 2]? = some (.cells #[.string dt] 9 (0,0)):=by rw [hU,hX]; exact als_at _ w 2 _ rfl
 have HN : Hid (Calls Tryz.prog 44 #[.func (.func 63) #[] #[.pointer (some ⟨X,0,none⟩),.pointer (some ⟨X + 1,0,none⟩),.pointer (some ⟨X + 2,0,none⟩)]] U fun e w' => Hid (MK FinR pl w w' e)):=by
  refine (start_mk (Fin:=FinR) (pl:=pl) ent_get1 (hLw.below hB hLw.size) fun V hJ hBV hLV => ?_).mono fun e w' h => h.bel hB
  refine (ogetjob1 HX hLV hJ ((hBV.block _ (lt_of_block h1)).trans h1) ((hBV.block _ (lt_of_block h2)).trans h2) ((hBV.block _ (lt_of_block h3)).trans h3)).mono ?_
  rintro e w' ⟨rfl,hP⟩
  have:=hBV.size
  exact ⟨rfl,hP.less fun i hi => .inl (by omega)⟩
 have HU : Hid (U = ((w.alloc (.cells #[.int .i64 kk,.int .i64 mm] 27)).alloc (.cells #[.string nm] 9)).alloc (.cells #[.string dt] 9)):=hU
 have HX':=hide hX
 have hmf : ∀ (fn : Fn) (first cap : Array Value) (w : World),(Instr.makeFunc fn first cap).run Tryz.prog w = .ok (.func fn first cap) w:=fun _ _ _ _ => rfl
 clear HX hLw hB hU hX h1 h2 h3
 go_enter Tryz.func25,Tryz.ntmps25
 go_upto_region 1 with fail
 rw [← HU.out,← HX'.out]
 go_wp2_with fail
 refine HN.out.mono ?_
 rintro e w7 hM
 obtain ⟨b,P,rfl,hM'⟩:=hM.out
 have HM : Hid (MK FinR pl w w7 (.returned (.pointer (some ⟨b,0,none⟩)))):=hM.out
 clear hM hM'
 go_wp2
 go_ret
 exact HM.out
theorem oscrub_end (h6 : w.heap[i1]? = some (.cells #[.pointer (some ⟨b,0,none⟩)] 99 (0,0))) (hJ : JB w b true st k n d go c NN ids tx s) {cc nn : Int} :
  Calls Tryz.prog 74 #[.int .i64 nn,.int .i64 cc,.pointer (some ⟨i1,0,none⟩)] w fun e w' => e = .returned (.tuple #[])∧∃ ids tx,JB w' b false 0 0 ⟨#[]⟩ ⟨#[]⟩ .nilFunc cc nn ids tx s∧TS w.heap.size ids [] w'∧TS w.heap.size tx [] w'∧Gs (fun i => i = b) w w':=by
 obtain ⟨y1,_⟩:=cell1 h6
 have HE : Hid (Calls Tryz.prog 62 #[.pointer (some ⟨b,0,none⟩),.agg #[.int .i64 cc,.string ⟨#[]⟩,.int .i64 nn,.slice none 0 0,.slice none 0 0,.slice none 0 0,.slice none 0 0]] w fun e w' => e = .returned (.tuple #[])∧∃ ids tx,JB w' b false 0 0 ⟨#[]⟩ ⟨#[]⟩ .nilFunc cc nn ids tx s∧TS w.heap.size ids [] w'∧TS w.heap.size tx [] w'∧Gs (fun i => i = b) w w'):=end_on hJ (LS.nl (f:=t1) (fun _ => True) w) (LS.nl _ w) (by simp) (by simp)
 clear h6 hJ
 go_enter Tryz.func74,Tryz.ntmps74
 go_wp2_with fail
 refine HE.out.mono ?_
 rintro e w1 ⟨rfl,hF⟩
 have HF:=hide hF
 clear hF
 go_wp2
 go_end0
 exact ⟨rfl,HF.out⟩
def kScrub (x : Int × Int) : PN RS:=.fin ⟨x.2,x.1,[],[]⟩
theorem kv_scrub (h6 : w.heap[i1]? = some (.cells #[.pointer (some ⟨b,0,none⟩)] 99 (0,0))) (hb : b < w.heap.size) : KV 74 #[] #[.pointer (some ⟨i1,0,none⟩)] b (FinR b) vP kScrub (fun i => i = i1) (fun _ => False) w:=by
 intro W x args A r hS hLw hJ hv hI hr
 subst hv
 show Calls Tryz.prog 74 #[.int .i64 x.1,.int .i64 x.2,.pointer (some ⟨i1,0,none⟩)] W _
 refine (oscrub_end ((hS.2 i1 rfl (lt_of_block h6)).trans h6) hJ).mono ?_
 rintro er w' ⟨rfl,ids,tx,hJ',h1,h2,hG⟩
 exact ⟨rfl,fin_rdy hJ' h1 h2 hG (Nat.lt_of_lt_of_le hb hS.1)⟩
theorem ent_scrub11 : Ent 74:=ent_of Tryz.func74 (by kernel_rfl) rfl
theorem ent_scrub1 : Ent 72:=ent_of Tryz.func72 (by kernel_rfl) rfl
def OXScrub (kk mm : Int) (nm dt : ByteArray) (pl : PN RS) : Prop:=∀ (b i1 : Nat) (W : World),Zq.Sh.Laid W→JB W b true 0 0 ⟨#[]⟩ ⟨#[]⟩ .nilFunc 0 0 (.slice none 0 0) (.slice none 0 0) 0→b ≠ i1→i1 < W.heap.size→KV 74 #[] #[.pointer (some ⟨i1,0,none⟩)] b (FinR b) vP kScrub (fun i => i = i1) (fun _ => False) W→Calls Tryz.prog 73 #[.pointer (some ⟨b,0,none⟩),.agg #[.int .i64 kk,.int .i64 mm],.string nm,.string dt,.func (.func 74) #[] #[.pointer (some ⟨i1,0,none⟩)]] W fun er w' => er = .returned (.tuple #[])∧PO b (FinR b) pl [] (fun i => i = i1) (fun i => i = b ∨ False) W w'
theorem oscrubjob1 {x1 x2 x3 : Nat} (HX : OXScrub kk mm nm dt pl) (hLw : Zq.Sh.Laid w) (hJ : JB w b true 0 0 ⟨#[]⟩ ⟨#[]⟩ .nilFunc 0 0 (.slice none 0 0) (.slice none 0 0) 0) (h1 : w.heap[x1]? = some (.cells #[.int .i64 kk,.int .i64 mm] 27 (0,0))) (h2 : w.heap[x2]? = some (.cells #[.string nm] 9 (0,0))) (h3 : w.heap[x3]? = some (.cells #[.string dt] 9 (0,0))) :
  Calls Tryz.prog 72 #[.pointer (some ⟨b,0,none⟩),.pointer (some ⟨x1,0,none⟩),.pointer (some ⟨x2,0,none⟩),.pointer (some ⟨x3,0,none⟩)] w fun e w' => e = .returned (.tuple #[])∧PO b (FinR b) pl [] (fun i => w.heap.size ≤ i) (fun i => i = b) w w':=by
 obtain ⟨U,hU⟩ : ∃ U,U = w.alloc (.cells #[.pointer (some ⟨b,0,none⟩)] 99):=⟨_,rfl⟩
 obtain ⟨i1,hi1⟩ : ∃ i1,i1 = w.heap.size:=⟨_,rfl⟩
 have hBU : Below w.heap.size w U:=by rw [hU]; exact (Below.refl _ _).alloc (Nat.le_refl _) _
 have hJU:=hJ.bel hBU
 have h6 : U.heap[i1]? = some (.cells #[.pointer (some ⟨b,0,none⟩)] 99 (0,0)):=by rw [hU,hi1]; exact heap_alloc_new w _
 have y6:=(cell1 h6).1
 have h1U:=(hBU.block x1 (lt_of_block h1)).trans h1
 have y0 : U.cell? ⟨x1,0,none⟩ = some (.int .i64 kk):=by simp [World.cell?,h1U]
 have y1 : U.cell? ⟨x1,1,none⟩ = some (.int .i64 mm):=by simp [World.cell?,h1U]
 have y2:=(cell1 ((hBU.block x2 (lt_of_block h2)).trans h2)).1
 have y3:=(cell1 ((hBU.block x3 (lt_of_block h3)).trans h3)).1
 have hbl:=hJ.lt
 have HN:=hide (HX b i1 U (hLw.below hBU hLw.size) hJU (by omega) (lt_of_block h6) (kv_scrub h6 hJU.lt))
 have HU:=hide hU
 have HI:=hide hi1
 have HB:=hide hBU
 have hmf : ∀ (fn : Fn) (first cap : Array Value) (w : World),(Instr.makeFunc fn first cap).run Tryz.prog w = .ok (.func fn first cap) w:=fun _ _ _ _ => rfl
 clear HX hLw hJU h6 h1U hBU hU hi1 hJ hbl h1 h2 h3
 go_enter Tryz.func72,Tryz.ntmps72
 go_upto_region 1 with fail
 rw [← HU.out,← HI.out]
 go_wp2_with fail
 refine HN.out.mono ?_
 rintro e w7 ⟨rfl,hQ⟩
 have HQ : Hid (PO b (FinR b) pl [] (fun i => w.heap.size ≤ i) (fun i => i = b) w w7):=by
  have h3:=(hQ.bel HB.out).less (e:=fun i => w.heap.size ≤ i) (fun i hi => .inr (by have:=HI.out; omega))
  exact h3.more fun i hi => by
   rcases hi with h | h
   ·exact h
   ·exact h.elim
 clear hQ
 go_wp2
 go_end0
 exact ⟨rfl,HQ.out⟩
theorem oscrubjob (HX : OXScrub kk mm nm dt pl) (hLw : Zq.Sh.Laid w) :
  Calls Tryz.prog 28 #[.agg #[.int .i64 kk,.int .i64 mm],.string nm,.string dt] w fun e w' => MK FinR pl w w' e:=by
 obtain ⟨U,hU⟩ : ∃ U,U = als w [.cells #[.int .i64 kk,.int .i64 mm] 27,.cells #[.string nm] 9,.cells #[.string dt] 9]:=⟨_,rfl⟩
 obtain ⟨X,hX⟩ : ∃ X,X = w.heap.size:=⟨_,rfl⟩
 have hB : Below w.heap.size w U:=by rw [hU]; exact als_bel _ _
 have h1 : U.heap[X]? = some (.cells #[.int .i64 kk,.int .i64 mm] 27 (0,0)):=by rw [hU,hX]; exact als_at _ w 0 _ rfl
 have h2 : U.heap[X + 1]? = some (.cells #[.string nm] 9 (0,0)):=by rw [hU,hX]; exact als_at _ w 1 _ rfl
 have h3 : U.heap[X + 2]? = some (.cells #[.string dt] 9 (0,0)):=by rw [hU,hX]; exact als_at _ w 2 _ rfl
 have HN : Hid (Calls Tryz.prog 44 #[.func (.func 72) #[] #[.pointer (some ⟨X,0,none⟩),.pointer (some ⟨X + 1,0,none⟩),.pointer (some ⟨X + 2,0,none⟩)]] U fun e w' => Hid (MK FinR pl w w' e)):=by
  refine (start_mk (Fin:=FinR) (pl:=pl) ent_scrub1 (hLw.below hB hLw.size) fun V hJ hBV hLV => ?_).mono fun e w' h => h.bel hB
  refine (oscrubjob1 HX hLV hJ ((hBV.block _ (lt_of_block h1)).trans h1) ((hBV.block _ (lt_of_block h2)).trans h2) ((hBV.block _ (lt_of_block h3)).trans h3)).mono ?_
  rintro e w' ⟨rfl,hP⟩
  have:=hBV.size
  exact ⟨rfl,hP.less fun i hi => .inl (by omega)⟩
 have HU : Hid (U = ((w.alloc (.cells #[.int .i64 kk,.int .i64 mm] 27)).alloc (.cells #[.string nm] 9)).alloc (.cells #[.string dt] 9)):=hU
 have HX':=hide hX
 have hmf : ∀ (fn : Fn) (first cap : Array Value) (w : World),(Instr.makeFunc fn first cap).run Tryz.prog w = .ok (.func fn first cap) w:=fun _ _ _ _ => rfl
 clear HX hLw hB hU hX h1 h2 h3
 go_enter Tryz.func28,Tryz.ntmps28
 go_upto_region 1 with fail
 rw [← HU.out,← HX'.out]
 go_wp2_with fail
 refine HN.out.mono ?_
 rintro e w7 hM
 obtain ⟨b,P,rfl,hM'⟩:=hM.out
 have HM : Hid (MK FinR pl w w7 (.returned (.pointer (some ⟨b,0,none⟩)))):=hM.out
 clear hM hM'
 go_wp2
 go_ret
 exact HM.out
end
end Go.Proofs.YtagijldedngcoaaGreatDoor

namespace Go.Proofs.YtagijldedngcoaaGreatDoor
section
variable {K M : Nat} {s : ByteArray}
theorem gen_ga (k1 : 1 ≤ K) (km : K + M ≤ 255) (hs : s.size ≤ 65536) {X : Nat→Zq.SX} {ρ : Nat→Nat} (hρ : ∀ t,t < K→ρ t < K + M) (hi : ∀ a b,a < K→b < K→ρ a = ρ b→a = b) (hX : ∀ t,t < K→X t = Zq.shX K M s (ρ t)) : Zq.GA X K s 0:=by
 have hA : Zq.allS X K:=fun i hi => by
  rw [hX i hi,hX 0 (by omega)]
  exact ⟨Zq.shX_ok k1 km hs (hρ i hi),rfl,rfl,rfl,rfl⟩
 have hf : Zq.faultV K M (s.size : Int) (fun i => (X i).i) (fun i => (X i).data) K = 0:=by
  rw [Zq.faultV,if_neg (by omega),Int.toNat_natCast]
  refine Zq.flt_ok (fun i hi => ?_) (fun i hi => ?_)
  ·rw [hX i hi]
   have:=hρ i hi
   simp only [Zq.shX]
   omega
  ·rw [hX i hi]
   exact Zq.shd_size k1 s _
 have hu : Zq.fu K (fun i => (X i).i) K = List.range K:=Zq.fu_all K (Nat.le_refl _) fun a b ha hb e => by
  rw [hX a ha,hX b hb] at e
  simp only [Zq.shX] at e
  exact hi a b ha hb (by omega)
 have g1 : Zq.gJC X K = Zq.jnC K M (s.size : Int) (fun i => (X i).i) (fun i => (X i).data) K:=by
  unfold Zq.gJC
  rw [hX 0 (by omega)]
  rfl
 have g2 : Zq.gJS X K = Zq.jnS K M (s.size : Int) (fun i => (X i).i) (fun i => (X i).data) K:=by
  unfold Zq.gJS
  rw [hX 0 (by omega)]
  rfl
 obtain ⟨j1,j2⟩:=Zq.jn_ok hf (by rw [hu,List.length_range]; exact Nat.lt_irrefl _)
 have hj : Zq.joinB K (fun i => (X i).i) (fun i => (X i).data) K s.size = s:=by
  refine Zq.any_join (m:=M) (ρ:=ρ) k1 km s (fun t ht => by rw [hX t ht]; rfl) hρ (fun t ht => by rw [hX t ht]; rfl) (by rw [hu,List.length_range]) (fun a b ha hb e => ?_)
  rw [hu] at e
  have g : ∀ t,t < K→(List.range K).getD t 0 = t:=fun t ht => by rw [List.getD_eq_getElem?_getD,List.getElem?_range ht]; rfl
  rw [g a ha,g b hb] at e
  rw [hX a ha,hX b hb] at e
  simp only [Zq.shX] at e
  exact hi a b ha hb (by omega)
 rw [Int.toNat_natCast,hj] at j2
 rw [← g1] at j1
 rw [← g2] at j2
 have hid : (X 0).id = Zq.bs (Zq.Sh.digest s.data.toList):=by rw [hX 0 (by omega)]; rfl
 exact .inr ⟨⟨by omega,hA⟩,.inr ⟨j1,.inr ⟨by rw [j2,hid],j2.symm,rfl⟩⟩⟩
theorem lx_map {L : List Nat} {t : Nat} (h : t < L.length) : lx (L.map (Zq.shX K M s)) t = Zq.shX K M s (cat L t):=by
 rw [lx,List.getElem?_map,cat_get h]; rfl
theorem cat_inj {L : List Nat} (hd : L.Nodup) {a b : Nat} (ha : a < L.length) (hb : b < L.length) (e : cat L a = cat L b) : a = b:=by
 have h1:=cat_get ha
 have h2:=cat_get hb
 rw [e] at h1
 exact (List.getElem?_inj ha hd).1 (h1.trans h2.symm)
theorem gth_true (k1 : 1 ≤ K) (km : K + M ≤ 255) (hs : s.size ≤ 65536) {L : List Nat} (hd : L.Nodup) (hm : ∀ a ∈ L,a < K + M) (hl : K ≤ L.length) : gth K (L.map (Zq.shX K M s)) = some s:=by
 have hR : (List.range K).length = K:=List.length_range
 have hc : ∀ i,i < K→cat (List.range K) i = i:=fun i hi => by rw [cat,List.getElem?_range hi]; rfl
 refine gth_ret (t:=0) (c:=List.range K) (fun i hi => absurd hi (Nat.not_lt_zero _)) (by decide) (by rw [ith,if_pos (by rw [List.length_map]; exact hl)]) ?_
 have hG : Zq.GA (lx (pick (L.map (Zq.shX K M s)) (List.range K))) (pick (L.map (Zq.shX K M s)) (List.range K)).length s 0:=by
  rw [pick_len,hR]
  refine gen_ga k1 km hs (ρ:=cat L) (fun t ht => ?_) (fun a b ha hb e => cat_inj hd (by omega) (by omega) e) (fun t ht => ?_)
  ·exact hm _ (List.mem_of_getElem? (cat_get (by omega)))
  ·rw [pick_at (by rw [hR]; exact ht),hc t ht,lx_map (by omega)]
 rcases ga_one hG with ⟨_,h⟩ | ⟨h,_⟩
 ·exact h
 ·exact absurd rfl h
theorem gth_few {f : List Zq.SX} (h : f.length < K) : gth K f = none:=gth_none (t:=0) (fun i hi => absurd hi (Nat.not_lt_zero _)) (by decide) (.inl (by rw [ith,if_neg (by omega)]))
def Gn (K M : Nat) (s : ByteArray) (A : List RR) : Prop:=∀ (i : Nat) (x : RR),A[i]? = some x→gdX K M i x = none ∨ gdX K M i x = some (Zq.shX K M s i)
noncomputable def gdI (K M : Nat) (A : List RR) : List Nat:=(List.range A.length).filter fun i => @decide (∃ x,A[i]? = some x∧gdX K M i x ≠ none) (Classical.propDecidable _)
theorem gdI_nodup (A : List RR) : (gdI K M A).Nodup:=List.nodup_range.filter _
theorem gdI_lt {A : List RR} {i : Nat} (h : i ∈ gdI K M A) : i < A.length:=List.mem_range.1 (List.mem_filter.1 h).1
theorem gdL_true {A : List RR} (h : Gn K M s A) : gdL K M A = (gdI K M A).map (Zq.shX K M s):=by
 have : ∀ (l : List Nat),(∀ i ∈ l,i < A.length)→l.filterMap (fun i => (A[i]?).bind (gdX K M i)) = (l.filter fun i => @decide (∃ x,A[i]? = some x∧gdX K M i x ≠ none) (Classical.propDecidable _)).map (Zq.shX K M s):=by
  intro l
  induction l with
  | nil => intro _; rfl
  | cons j r ih =>
   intro hl
   have hj:=hl j (by simp)
   have e : A[j]? = some A[j]:=List.getElem?_eq_getElem hj
   rw [List.filterMap_cons,List.filter_cons,ih fun i hi => hl i (by simp [hi])]
   rcases h j _ e with h0 | h0
   ·rw [if_neg]
    ·rw [e]; simp only [Option.bind_some,h0]
    ·simp only [decide_eq_true_eq]
     rintro ⟨x,hx,hn⟩
     rw [e] at hx; cases hx
     exact hn h0
   ·rw [if_pos]
    ·rw [e]; simp only [Option.bind_some,h0,List.map_cons]
    ·simp only [decide_eq_true_eq]
     exact ⟨_,e,by rw [h0]; simp⟩
 exact this _ fun i hi => List.mem_range.1 hi
theorem famL_true : ∀ (L : List Nat),L ≠ []→famL (L.map (Zq.shX K M s)) = [L.map (Zq.shX K M s)]:=by
 have h : ∀ (L : List Nat) (g : List Nat),g ≠ []→(L.map (Zq.shX K M s)).foldl addF [g.map (Zq.shX K M s)] = [(g ++ L).map (Zq.shX K M s)]:=by
  intro L
  induction L with
  | nil => intro g _; simp
  | cons a r ih =>
   intro g hg
   have hof : ofF (g.map (Zq.shX K M s)) (Zq.shX K M s a):=by
    rw [ofF,lx_map (List.length_pos_iff.2 hg)]
    exact ⟨rfl,rfl⟩
   rw [List.map_cons,List.foldl_cons,addF,if_pos hof]
   have:=ih (g ++ [a]) (by simp)
   rw [List.map_append,List.map_singleton] at this
   rw [this,List.append_assoc]
   rfl
 intro L hL
 cases L with
 | nil => exact absurd rfl hL
 | cons a r =>
  have:=h r [a] (by simp)
  rw [famL,List.map_cons,List.foldl_cons]
  exact this
theorem fnd_true (k1 : 1 ≤ K) (km : K + M ≤ 255) (hs : s.size ≤ 65536) {A : List RR} {want : ByteArray} (hA : A.length ≤ K + M) (h : Gn K M s A) (hw : want = ⟨#[]⟩ ∨ want = Zq.bs (Zq.Sh.digest s.data.toList)) (hl : K ≤ (gdI K M A).length) :
  fnd K M want A = ⟨s,(gdI K M A).map (Zq.shX K M s),0⟩:=by
 have hne : gdI K M A ≠ []:=fun e => by rw [e] at hl; simp at hl; omega
 have hg:=gth_true k1 km hs (gdI_nodup (K:=K) (M:=M) A) (fun a ha => by have:=gdI_lt ha; omega) hl
 have hid : ¬ (want ≠ ⟨#[]⟩∧(lx ((gdI K M A).map (Zq.shX K M s)) 0).id ≠ want):=by
  rw [lx_map (List.length_pos_iff.2 hne)]
  rintro ⟨h1,h2⟩
  rcases hw with hw | hw
  ·exact h1 hw
  ·exact h2 hw.symm
 rw [fnd,gdL_true h,famL_true _ hne,fndL,if_neg hid,hg]
theorem fnd_few {A : List RR} {want : ByteArray} (h : Gn K M s A) (hl : (gdI K M A).length < K) : fnd K M want A = ⟨⟨#[]⟩,[],rfs M A⟩:=by
 by_cases hne : gdI K M A = []
 ·rw [fnd,gdL_true h,hne]
  rfl
 ·have hg : gth K ((gdI K M A).map (Zq.shX K M s)) = none:=gth_few (by rw [List.length_map]; exact hl)
  have hn : fndL K want [(gdI K M A).map (Zq.shX K M s)] = none:=by
   rw [fndL]
   split
   ·rfl
   ·rw [hg]; rfl
  rw [fnd,gdL_true h,famL_true _ hne,hn]
end
end Go.Proofs.YtagijldedngcoaaGreatDoor

/-
  Contracts of the program and of the statements (part 20 of 28).
-/
import Derived.Test.YtagijldedngcoaaGreatDoorOl19
import Derived.Test.YtagijldedngcoaaGreatDoorOl12
import Derived.Test.YtagijldedngcoaaGreatDoorRows
import Derived.Test.YtagijldedngcoaaGreatDoorOl13
import Derived.Shelf.SlIter.Nil
import Derived.Shelf.SortM.Plain
import Derived.Shelf.SortM.SortNone
set_option maxRecDepth 100000
set_option maxHeartbeats 3200000

namespace Go.Proofs.YtagijldedngcoaaGreatDoor
open Go.RowKit Go.Lib Go.Maps
section
variable {F : FuncId} {fi ca : Array Value} {b : Nat} {α : Type} {Fin : α→List RR→(Nat→Prop)→World→Prop} {N : Nat} {l : List QT} {rest : List RR→PN α} {pl : PN α} {A0 : List RR} {e m r r0 : Nat→Prop} {w w0 w2 : World} {v : Value} {nm : ByteArray}
def KC {α : Type} (F : FuncId) (fi ca : Array Value) (b : Nat) (Fin : α→List RR→(Nat→Prop)→World→Prop) (n : Nat) (rest : List RR→PN α) (A0 : List RR) (e m : Nat→Prop) (w0 : World) : Prop :=
 ∀ (W : World) (cv : Value) (A : List RR) (r : Nat→Prop),Sm e w0 W→Zq.Sh.Laid W→JB W b true 0 0 ⟨#[]⟩ ⟨#[]⟩ .nilFunc 0 0 (.slice none 0 0) (.slice none 0 0) ((A0.length + n : Nat) : Int)→LS c1 1 r W cv (A.map (·.c))→A.length = n→(resI (A0 ++ A)).length ≤ 1000000000000→(∀ i,r i→w0.heap.size ≤ i∧i < W.heap.size) →
  Calls Tryz.prog F (fi.push cv ++ ca) W fun er w' => er = .returned (.tuple #[])∧Gs (fun i => i = b ∨ m i) W w'∧RDY b (fun w2 => ∃ P',JJ b Fin (rest A) (A0 ++ A) P' w2∧Gs (fun i => i = b ∨ m i) W w2∧∀ i,P' i→i = b ∨ e i ∨ r i ∨ W.heap.size ≤ i) w'
theorem KO.bel (h : KO F fi ca b Fin N rest A0 e m w0) (hb : Below w0.heap.size w0 w) : KO F fi ca b Fin N rest A0 e m w:=by
 intro W av X r hS hLw hJ hL hN hX hI hsm hr
 have hs:=hb.size
 exact h W av X r (((Sm.refl e w0).bel hb).trans hS) hLw hJ hL hN hX hI hsm fun i hi => ⟨by have:=(hr i hi).1; omega,(hr i hi).2⟩
theorem ent_bc1 : Ent 208:=ent_of Tryz.func208 (by kernel_rfl) rfl
theorem ko_codes (hent : Ent F) (HK : KC F fi ca b Fin N rest A0 e m w) (hN : N ≤ 1000000) (hb : Below w.heap.size w w2) (heb : b < w.heap.size) (hme : ∀ i,m i→e i) (hel : ∀ i,e i→i < w.heap.size) :
  KO 208 #[] #[.pointer (some ⟨w2.heap.size,0,none⟩)] b Fin N rest A0 (fun i => e i ∨ i = w2.heap.size) m (w2.alloc (.cells #[.func (.func F) fi ca] 194)):=by
 intro W av X r hS hLw hJ hL hNm hX hI _ hr
 have hs:=hb.size
 have hc : W.heap[w2.heap.size]? = some (.cells #[.func (.func F) fi ca] 194 (0,0)):=(hS.2 w2.heap.size (.inr rfl) (by simp)).trans (heap_alloc_new w2 _)
 have hWs:=hS.1
 have hb2 : Below w.heap.size w (w2.alloc (.cells #[.func (.func F) fi ca] 194)):=hb.alloc hs _
 have hSe : Sm e w W:=((Sm.refl e w).bel hb2).trans (hS.mono fun i hi => .inl hi)
 show Calls Tryz.prog 208 #[av,.pointer (some ⟨w2.heap.size,0,none⟩)] W _
 refine byCodes1_any (p:=fun i => i = b ∨ m i) hent hc hL (fun x hx => by obtain ⟨a,c,e⟩:=(hNm x hx).shp; exact ⟨a,_,c,e⟩) (by omega) ?_ ?_
 ·rintro (h | h)
  ·omega
  ·have:=hel _ (hme _ h); omega
 intro W1 cv hO hB
 have hOl:=hO.lt
 have hBs:=hB.size
 have e1 : X.map (·.1.c) = (X.map (·.1)).map (·.c):=by rw [List.map_map]; rfl
 refine (HK W1 cv (X.map (·.1)) (fun i => cv.ownBlock = some i) (hSe.bel hB) (hLw.below hB hLw.size) (hJ.bel hB) (by rw [← e1]; exact hO.ls c1_len fun i hi => hi) (by simpa using hX) hI (fun i hi => ⟨?_,(hOl i hi).2⟩)).mono ?_
 ·have:=(hOl i hi).1; simp at hWs; omega
 rintro er w' ⟨rfl,hG,hR⟩
 refine ⟨rfl,hG,hR.mono ?_⟩
 rintro w3 ⟨P',h1,h2,h3⟩
 refine ⟨P',h1,(Gs.of_below _ hB).trans h2,fun i hi => ?_⟩
 rcases h3 i hi with h | h | h | h
 ·exact .inl h
 ·exact .inr (.inl (.inl h))
 ·exact .inr (.inr (.inr (hOl i h).1))
 ·exact .inr (.inr (.inr (by omega)))
def PO {α : Type} (b : Nat) (Fin : α→List RR→(Nat→Prop)→World→Prop) (pl : PN α) (A0 : List RR) (e p : Nat→Prop) (w w' : World) : Prop :=
 Gs p w w'∧RDY b (fun w2 => ∃ P',JJ b Fin pl A0 P' w2∧Gs p w w2∧(∀ i,P' i→i = b ∨ e i ∨ w.heap.size ≤ i)) w'
theorem PO.bel {p : Nat→Prop} {w1 w' : World} (h : PO b Fin pl A0 e p w1 w') (hb : Below w.heap.size w w1) : PO b Fin pl A0 e p w w':=by
 have hs:=hb.size
 refine ⟨(Gs.of_below _ hb).trans h.1,h.2.mono ?_⟩
 rintro w2 ⟨P',h1,h2,h3⟩
 refine ⟨P',h1,(Gs.of_below _ hb).trans h2,fun i hi => ?_⟩
 rcases h3 i hi with h | h | h
 ·exact .inl h
 ·exact .inr (.inl h)
 ·exact .inr (.inr (by omega))
theorem PO.less {p : Nat→Prop} {w' : World} {e' : Nat→Prop} (h : PO b Fin pl A0 e' p w w') (he : ∀ i,e' i→e i ∨ w.heap.size ≤ i) : PO b Fin pl A0 e p w w':=by
 refine ⟨h.1,h.2.mono ?_⟩
 rintro w2 ⟨P',h1,h2,h3⟩
 refine ⟨P',h1,h2,fun i hi => ?_⟩
 rcases h3 i hi with h | h | h
 ·exact .inl h
 ·rcases he i h with h | h
  ·exact .inr (.inl h)
  ·exact .inr (.inr h)
 ·exact .inr (.inr h)
theorem PO.more {p p' : Nat→Prop} {w' : World} (h : PO b Fin pl A0 e p w w') (hp : ∀ i,p i→p' i) : PO b Fin pl A0 e p' w w':=by
 refine ⟨h.1.mono fun i _ hi => hp i hi,h.2.mono ?_⟩
 rintro w2 ⟨P',h1,h2,h3⟩
 exact ⟨P',h1,h2.mono fun i _ hi => hp i hi,h3⟩
theorem laid_jb {op : Bool} {st k c NN sp : Int} {n d : ByteArray} {go ids tx : Value} (hL : Zq.Sh.Laid w) (hJ : JB w b op st k n d go c NN ids tx sp) : 2 ≤ b:=by
 obtain ⟨⟨t,fr,h1⟩,⟨t',fr',h2⟩⟩:=hL
 have hJ' : w.heap[b]? = _:=hJ
 by_cases e1 : b = 1
 ·rw [← e1,hJ'] at h1
  injection h1 with h1
  injection h1 with h1
  have:=congrArg Array.size h1
  simp [Zq.Sh.Ks] at this
 by_cases e2 : b = 0
 ·rw [← e2,hJ'] at h2
  injection h2 with h2
  injection h2 with h2
  have:=congrArg Array.size h2
  simp [Zq.Sh.first,Zq.Sh.V8.list] at this
 omega
theorem asks (hent : Ent F) (hLw : Zq.Sh.Laid w) (hJ : JB w b true 0 0 ⟨#[]⟩ ⟨#[]⟩ .nilFunc 0 0 (.slice none 0 0) (.slice none 0 0) (A0.length : Int)) (hv : LS q4 4 r0 w v l) (hz : l = []→v = .slice none 0 0) (hl : l.length ≤ 1000000) (hI0 : (resI A0).length ≤ 1000000000000) (HK : KO F fi ca b Fin l.length rest A0 e m w) (heb : ¬ e b) (hme : ∀ i,m i→e i) (hel : ∀ i,e i→i < w.heap.size) :
  Calls Tryz.prog 162 #[.pointer (some ⟨b,0,none⟩),v,.func (.func F) fi ca] w fun er w' => er = .returned (.tuple #[])∧PO b Fin (sqP l [] rest) A0 e (fun i => i = b ∨ m i) w w':=by
 rcases Nat.eq_zero_or_pos l.length with h0 | h0
 ·have hl0:=List.length_eq_zero_iff.1 h0
  subst hl0
  rw [hz rfl]
  refine ask_no hent ?_
  refine (HK w (.slice none 0 0) [] (fun _ => False) (Sm.refl _ _) hLw (by simpa using hJ) ⟨none,0,rfl,fun _ => rfl,.inl rfl⟩ (fun x hx => by simp at hx) rfl (by rw [List.map_nil,List.append_nil]; exact hI0) (fun x hx => by simp at hx) (fun i hi => hi.elim)).mono ?_
  rintro er w' ⟨rfl,hG,hR⟩
  refine ⟨rfl,hG,hR.mono ?_⟩
  rintro w2 ⟨P',h1,h2,h3⟩
  rw [List.map_nil,List.append_nil] at h1
  refine ⟨P',h1,h2,fun i hi => ?_⟩
  rcases h3 i hi with h | h | h | h
  ·exact .inl h
  ·exact .inr (.inl h)
  ·exact h.elim
  ·exact .inr (.inr h)
 ·obtain ⟨a,c,rfl⟩:=hv.shp
  refine ask_yes h0 ?_
  refine (all_jj (rest:=rest) hent (laid_jb hLw hJ) hLw.size hJ hv h0 hl HK heb hme hel).mono ?_
  rintro er w' ⟨rfl,h1,h2⟩
  refine ⟨rfl,PO.more (p:=fun i => i = b) ⟨h1,h2.mono ?_⟩ fun i hi => .inl hi⟩
  rintro w2 ⟨P',k1,k2,k3⟩
  exact ⟨P',k1,k2,k3⟩
def nst (n : Int) : Nat:=if 1 ≤ n∧n ≤ 255 then n.toNat else 0
theorem nst_le (n : Int) : nst n ≤ 255:=by rw [nst]; split <;> omega
theorem nst_nat (n : Nat) (h1 : 1 ≤ n) (h2 : n ≤ 255) : nst (n : Int) = n:=by rw [nst,if_pos ⟨by omega,by omega⟩]; omega
theorem nst_no (n : Int) (h : n < 1 ∨ 255 < n) : nst n = 0:=by rw [nst,if_neg (by omega)]
theorem toAll_any (n st k : Int) (d : ByteArray) : Calls Tryz.prog 163 #[.int .i64 n,.agg #[.int .i64 st,.int .i64 k,.string nm,.string d]] w fun e w' => ∃ v,e = .returned v∧LS q4 4 (fun i => w.heap.size ≤ i) w' v (aq k nm d (nst n))∧(aq k nm d (nst n) = []→v = .slice none 0 0)∧Below w.heap.size w w':=by
 by_cases h : 1 ≤ n∧n ≤ 255
 ·obtain ⟨N,rfl⟩ : ∃ N : Nat,n = (N : Int):=⟨n.toNat,by omega⟩
  refine (toAll_yes (n:=N) (by omega) (by omega)).mono ?_
  rintro e w' ⟨g,rfl,hR,hg,hB⟩
  rw [nst_nat N (by omega) (by omega)]
  have:=hR.gs (r:=fun i => w.heap.size ≤ i) hg N
  rw [aq_len] at this
  exact ⟨_,rfl,this,fun e => by have:=aq_len k nm d N; rw [e] at this; simp at this; omega,hB⟩
 ·refine (toAll_no (by omega)).mono ?_
  rintro e w' ⟨rfl,hB⟩
  rw [nst_no n (by omega)]
  exact ⟨_,rfl,⟨none,0,rfl,fun _ => rfl,.inl rfl⟩,fun _ => rfl,hB⟩
theorem gets_any (hent : Ent F) (hLw : Zq.Sh.Laid w) (hJ : JB w b true 0 0 ⟨#[]⟩ ⟨#[]⟩ .nilFunc 0 0 (.slice none 0 0) (.slice none 0 0) (A0.length : Int)) (n : Int) (hI0 : (resI A0).length ≤ 1000000000000) (HK : KO F fi ca b Fin (nst n) rest A0 e m w) (heb : ¬ e b) (hme : ∀ i,m i→e i) (hel : ∀ i,e i→i < w.heap.size) :
  Calls Tryz.prog 152 #[.pointer (some ⟨b,0,none⟩),.int .i64 n,.string nm,.func (.func F) fi ca] w fun er w' => er = .returned (.tuple #[])∧PO b Fin (sqP (aq 2 nm ⟨#[]⟩ (nst n)) [] rest) A0 e (fun i => i = b ∨ m i) w w':=by
 have HT:=hide (toAll_any (nm:=nm) (w:=w) n 0 2 ⟨#[]⟩)
 have HA : Hid (∀ w1 v,LS q4 4 (fun i => w.heap.size ≤ i) w1 v (aq 2 nm ⟨#[]⟩ (nst n))→(aq 2 nm ⟨#[]⟩ (nst n) = []→v = .slice none 0 0)→Below w.heap.size w w1→Calls Tryz.prog 162 #[.pointer (some ⟨b,0,none⟩),v,.func (.func F) fi ca] w1 fun er w' => er = .returned (.tuple #[])∧PO b Fin (sqP (aq 2 nm ⟨#[]⟩ (nst n)) [] rest) A0 e (fun i => i = b ∨ m i) w w'):=fun w1 v h1 h2 hB => by
  have hs:=hB.size
  have hnl:=nst_le n
  refine (asks (rest:=rest) hent (hLw.below hB hLw.size) (hJ.bel hB) h1 h2 (by rw [aq_len]; omega) hI0 (by rw [aq_len]; exact HK.bel hB) heb hme fun i hi => by have:=hel i hi; omega).mono ?_
  rintro er w' ⟨rfl,hP⟩
  exact ⟨rfl,hP.bel hB⟩
 clear HK hJ hent hI0 heb hme hel hLw
 go_enter Tryz.func152,Tryz.ntmps152
 go_wp2_with fail
 refine HT.out.mono ?_
 rintro er w1 ⟨v,rfl,h1,h2,hB⟩
 have HA1:=hide (HA.out w1 v h1 h2 hB)
 clear h1 h2 hB
 go_wp2_with fail
 refine HA1.out.mono ?_
 rintro er w2 ⟨rfl,hP⟩
 have HP:=hide hP
 clear hP
 go_wp2
 go_end0
 exact ⟨rfl,HP.out⟩
theorem asksC (hent : Ent F) (hLw : Zq.Sh.Laid w) (hJ : JB w b true 0 0 ⟨#[]⟩ ⟨#[]⟩ .nilFunc 0 0 (.slice none 0 0) (.slice none 0 0) (A0.length : Int)) (hB : Below w.heap.size w w2) (hv : LS q4 4 r0 w2 v l) (hz : l = []→v = .slice none 0 0) (hl : l.length ≤ 1000000) (hI0 : (resI A0).length ≤ 1000000000000) (HK : KC F fi ca b Fin l.length rest A0 e m w) (heb : ¬ e b) (hme : ∀ i,m i→e i) (hel : ∀ i,e i→i < w.heap.size) :
  Calls Tryz.prog 162 #[.pointer (some ⟨b,0,none⟩),v,.func (.func 208) #[] #[.pointer (some ⟨w2.heap.size,0,none⟩)]] (w2.alloc (.cells #[.func (.func F) fi ca] 194)) fun er w' => er = .returned (.tuple #[])∧PO b Fin (sqP l [] rest) A0 e (fun i => i = b ∨ m i) w w':=by
 have hs:=hB.size
 have hbl:=hJ.lt
 have hB2 : Below w2.heap.size w2 (w2.alloc (.cells #[.func (.func F) fi ca] 194)):=(Below.refl _ _).alloc (Nat.le_refl _) _
 refine (asks (rest:=rest) ent_bc1 ((hLw.below hB hLw.size).below hB2 (Nat.le_trans hLw.size hB.size)) ((hJ.bel hB).bel hB2) (hv.bel hB2) hz hl hI0 (ko_codes hent HK hl hB hbl hme hel) ?_ (fun i hi => .inl (hme i hi)) ?_).mono ?_
 ·rintro (h | h)
  ·exact heb h
  ·omega
 ·rintro i (h | h)
  ·have:=hel i h; simp; omega
  ·simp; omega
 ·rintro er w' ⟨rfl,hP⟩
  refine ⟨rfl,(hP.bel (hB.trans (hB2.mono hs))).less ?_⟩
  rintro i (h | h)
  ·exact .inl h
  ·exact .inr (by omega)
theorem dels_any (hent : Ent F) (hLw : Zq.Sh.Laid w) (hJ : JB w b true 0 0 ⟨#[]⟩ ⟨#[]⟩ .nilFunc 0 0 (.slice none 0 0) (.slice none 0 0) (A0.length : Int)) (n : Int) (hI0 : (resI A0).length ≤ 1000000000000) (HK : KC F fi ca b Fin (nst n) rest A0 e m w) (heb : ¬ e b) (hme : ∀ i,m i→e i) (hel : ∀ i,e i→i < w.heap.size) :
  Calls Tryz.prog 116 #[.pointer (some ⟨b,0,none⟩),.int .i64 n,.string nm,.func (.func F) fi ca] w fun er w' => er = .returned (.tuple #[])∧PO b Fin (sqP (aq 4 nm ⟨#[]⟩ (nst n)) [] rest) A0 e (fun i => i = b ∨ m i) w w':=by
 have HT:=hide (toAll_any (nm:=nm) (w:=w) n 0 4 ⟨#[]⟩)
 have HA : Hid (∀ w1 v,LS q4 4 (fun i => w.heap.size ≤ i) w1 v (aq 4 nm ⟨#[]⟩ (nst n))→(aq 4 nm ⟨#[]⟩ (nst n) = []→v = .slice none 0 0)→Below w.heap.size w w1→Calls Tryz.prog 162 #[.pointer (some ⟨b,0,none⟩),v,.func (.func 208) #[] #[.pointer (some ⟨w1.heap.size,0,none⟩)]] (w1.alloc (.cells #[.func (.func F) fi ca] 194)) fun er w' => er = .returned (.tuple #[])∧PO b Fin (sqP (aq 4 nm ⟨#[]⟩ (nst n)) [] rest) A0 e (fun i => i = b ∨ m i) w w'):=fun w1 v h1 h2 hB => by
  have hnl:=nst_le n
  exact asksC (rest:=rest) hent hLw hJ hB h1 h2 (by rw [aq_len]; omega) hI0 (by rw [aq_len]; exact HK) heb hme hel
 have HBC:=hide (fun w => byCodes_any (fn:=.func F) (fi:=fi) (ca:=ca) (w:=w))
 clear HK hJ hent hI0 heb hme hel hLw
 go_enter Tryz.func116,Tryz.ntmps116
 go_wp2_with fail
 refine HT.out.mono ?_
 rintro er w1 ⟨v,rfl,h1,h2,hB⟩
 have HA1:=hide (HA.out w1 v h1 h2 hB)
 clear h1 h2 hB
 go_wp2_with fail
 refine (HBC.out w1).mono ?_
 rintro er w3 ⟨rfl,rfl⟩
 go_wp2_with fail
 refine HA1.out.mono ?_
 rintro er w2 ⟨rfl,hP⟩
 have HP:=hide hP
 clear hP
 go_wp2
 go_end0
 exact ⟨rfl,HP.out⟩
end
end Go.Proofs.YtagijldedngcoaaGreatDoor

namespace Go.Proofs.YtagijldedngcoaaGreatDoor
open Go.RowKit Go.Lib Go.Maps
def pqn (nm : ByteArray) (ds : List ByteArray) : List QT:=if 1 ≤ ds.length∧ds.length ≤ 255 then pq nm ds else []
theorem pqn_len (nm : ByteArray) (ds : List ByteArray) : (pqn nm ds).length = nst (ds.length : Int):=by
 rw [pqn]
 split
 ·rename_i h; rw [pq_len,nst_nat _ h.1 h.2]
 ·rename_i h; rw [nst_no _ (by omega)]; rfl
theorem aq_get {k : Int} {nm d : ByteArray} {n j : Nat} (h : j < n) : (aq k nm d n)[j]? = some ⟨(j : Int),k,nm,d⟩:=by
 rw [aq,List.getElem?_map,List.getElem?_range h]; rfl
theorem pq_at {nm : ByteArray} {ds : List ByteArray} {N j : Nat} (hN : N = ds.length) (h : j < N) : (pq nm (ds.take j) ++ (aq 1 nm ⟨#[]⟩ N).drop j)[j]? = some ⟨(j : Int),1,nm,⟨#[]⟩⟩:=by
 have hl : (pq nm (ds.take j)).length = j:=by rw [pq_len,List.length_take]; omega
 rw [List.getElem?_append_right (by omega),hl,Nat.sub_self,List.getElem?_drop,Nat.add_zero,aq_get h]
theorem pq_set {nm d : ByteArray} {ds : List ByteArray} {N j : Nat} (hN : N = ds.length) (h : j < N) (hd : ds[j]? = some d) : (pq nm (ds.take j) ++ (aq 1 nm ⟨#[]⟩ N).drop j).set j ⟨(j : Int),1,nm,d⟩ = pq nm (ds.take (j + 1)) ++ (aq 1 nm ⟨#[]⟩ N).drop (j + 1):=by
 have hl : (pq nm (ds.take j)).length = j:=by rw [pq_len,List.length_take]; omega
 have e : (aq 1 nm ⟨#[]⟩ N).drop j = ⟨(j : Int),1,nm,⟨#[]⟩⟩ :: (aq 1 nm ⟨#[]⟩ N).drop (j + 1):=drop_at (aq_get h)
 have hl2 : (ds.take j).length = j:=by rw [List.length_take]; omega
 rw [List.set_append_right _ _ (by omega),hl,Nat.sub_self,e,List.set_cons_zero,take_snoc_at hd,pq_snoc,hl2,List.append_assoc]
 rfl
section
variable {F : FuncId} {fi ca : Array Value} {b : Nat} {α : Type} {Fin : α→List RR→(Nat→Prop)→World→Prop} {rest : List RR→PN α} {A0 : List RR} {e m r r0 : Nat→Prop} {w w0 w2 : World} {dv : Value} {nm : ByteArray} {ds : List ByteArray}
theorem puts_no (hent : Ent F) (hLw : Zq.Sh.Laid w) (hJ : JB w b true 0 0 ⟨#[]⟩ ⟨#[]⟩ .nilFunc 0 0 (.slice none 0 0) (.slice none 0 0) (A0.length : Int)) (hd : LS t1 1 r w dv ds) (hbad : ¬ (1 ≤ ds.length∧ds.length ≤ 255)) (hI0 : (resI A0).length ≤ 1000000000000) (HK : KC F fi ca b Fin 0 rest A0 e m w) (heb : ¬ e b) (hme : ∀ i,m i→e i) (hel : ∀ i,e i→i < w.heap.size) :
  Calls Tryz.prog 158 #[.pointer (some ⟨b,0,none⟩),.string nm,dv,.func (.func F) fi ca] w fun er w' => er = .returned (.tuple #[])∧PO b Fin (sqP [] [] rest) A0 e (fun i => i = b ∨ m i) w w':=by
 obtain ⟨da,dc,rfl⟩:=hd.shp
 have HT:=hide (toAll_no (nm:=nm) (w:=w) (n:=(ds.length : Int)) (st:=0) (k:=1) (d:=⟨#[]⟩) (by omega))
 have HA : Hid (∀ w1,Below w.heap.size w w1→Calls Tryz.prog 162 #[.pointer (some ⟨b,0,none⟩),.slice none 0 0,.func (.func 208) #[] #[.pointer (some ⟨w1.heap.size,0,none⟩)]] (w1.alloc (.cells #[.func (.func F) fi ca] 194)) fun er w' => er = .returned (.tuple #[])∧PO b Fin (sqP [] [] rest) A0 e (fun i => i = b ∨ m i) w w'):=fun w1 hB => by
  refine (asksC (rest:=rest) (l:=[]) (r0:=fun _ => True) hent hLw hJ hB ⟨none,0,rfl,fun _ => rfl,.inl rfl⟩ (fun _ => rfl) (by simp) hI0 HK heb hme hel).mono ?_
  rintro er w' ⟨rfl,hP⟩
  exact ⟨rfl,hP⟩
 have HBC:=hide (fun w => byCodes_any (fn:=.func F) (fi:=fi) (ca:=ca) (w:=w))
 generalize ds.length = N at *
 clear HK hJ hent hI0 heb hme hel hd hbad hLw
 go_enter Tryz.func158,Tryz.ntmps158
 go_wp2_with fail
 refine HT.out.mono ?_
 rintro er w1 ⟨rfl,hB⟩
 have HA1:=hide (HA.out w1 hB)
 clear hB
 go_wp2
 go_loopw [17] (fun i wr => i = .int .i64 0∧wr = w1) (fun _ _ => 0)
 case atStart => exact ⟨rfl,rfl⟩
 case round =>
  obtain ⟨rfl,rfl⟩:=hrel
  go_wp2_with fail
  refine (HBC.out wr).mono ?_
  rintro er w3 ⟨rfl,rfl⟩
  go_wp2_with fail
  refine HA1.out.mono ?_
  rintro er w2 ⟨rfl,hP⟩
  have HP:=hide hP
  clear hP
  go_wp2
  go_end0
  exact ⟨rfl,HP.out⟩
theorem puts_yes (hent : Ent F) (hLw : Zq.Sh.Laid w) (hJ : JB w b true 0 0 ⟨#[]⟩ ⟨#[]⟩ .nilFunc 0 0 (.slice none 0 0) (.slice none 0 0) (A0.length : Int)) (hd : LS t1 1 r w dv ds) (h1 : 1 ≤ ds.length) (h2 : ds.length ≤ 255) (hI0 : (resI A0).length ≤ 1000000000000) (HK : KC F fi ca b Fin ds.length rest A0 e m w) (heb : ¬ e b) (hme : ∀ i,m i→e i) (hel : ∀ i,e i→i < w.heap.size) :
  Calls Tryz.prog 158 #[.pointer (some ⟨b,0,none⟩),.string nm,dv,.func (.func F) fi ca] w fun er w' => er = .returned (.tuple #[])∧PO b Fin (sqP (pq nm ds) [] rest) A0 e (fun i => i = b ∨ m i) w w':=by
 have HC : Hid (∀ j d,ds[j]? = some d→∀ wr,Below w.heap.size w wr→∃ g o c,dv = .slice (some ⟨g,o,none⟩) ds.length c∧wr.cell? ⟨g,o + j,none⟩ = some (.string d)):=fun j d hj wr hb => by
  obtain ⟨a,c,e⟩:=(hd.bel hb).shp
  have h3:=hd.bel hb
  rw [e] at h3
  obtain ⟨g,o,ha,_,h4⟩:=h3.at1 hj rfl
  exact ⟨g,o,c,by rw [e,ha],h4⟩
 have HT:=hide (toAll_yes (nm:=nm) (w:=w) (n:=ds.length) (st:=0) (k:=1) (d:=⟨#[]⟩) h1 h2)
 have HA : Hid (∀ w1 g,RQL w1 g (pq nm ds)→Below w.heap.size w w1→Calls Tryz.prog 162 #[.pointer (some ⟨b,0,none⟩),.slice (some ⟨g,0,none⟩) ds.length ds.length,.func (.func 208) #[] #[.pointer (some ⟨w1.heap.size,0,none⟩)]] (w1.alloc (.cells #[.func (.func F) fi ca] 194)) fun er w' => er = .returned (.tuple #[])∧PO b Fin (sqP (pq nm ds) [] rest) A0 e (fun i => i = b ∨ m i) w w'):=fun w1 g hR hB => by
  have h3:=hR.gs (r:=fun _ => True) trivial ds.length
  rw [pq_len] at h3
  have hne : pq nm ds ≠ []:=fun e => by have:=pq_len nm ds; rw [e] at this; simp at this; omega
  refine (asksC (rest:=rest) hent hLw hJ hB h3 (fun e => absurd e hne) (by rw [pq_len]; omega) hI0 (by rw [pq_len]; exact HK) heb hme hel).mono ?_
  rintro er w' ⟨rfl,hP⟩
  exact ⟨rfl,hP⟩
 have HBC:=hide (fun w => byCodes_any (fn:=.func F) (fi:=fi) (ca:=ca) (w:=w))
 obtain ⟨da,dc,hdv⟩:=hd.shp
 subst hdv
 obtain ⟨N,hN⟩ : ∃ N,N = ds.length:=⟨_,rfl⟩
 rw [← hN] at h1 h2 HA HC HT ⊢
 have HN:=hide hN
 have Hh:=hide (And.intro h1 h2)
 clear HK hJ hent hI0 heb hme hel hd hN h1 h2 hLw
 go_enter Tryz.func158,Tryz.ntmps158
 go_wp2_with fail
 refine HT.out.mono ?_
 rintro er w1 ⟨g,rfl,hR1,hg,hB1⟩
 have H0 : Hid (RQL w1 g (pq nm (ds.take 0) ++ (aq 1 nm ⟨#[]⟩ N).drop 0)∧Below w.heap.size w w1):=⟨by simpa [pq] using hR1,hB1⟩
 have Hg:=hide hg
 clear hR1 hg hB1
 go_wp2
 go_loopw [17] (fun i wr => ∃ j : Nat,j ≤ N∧i = .int .i64 j∧RQL wr g (pq nm (ds.take j) ++ (aq 1 nm ⟨#[]⟩ N).drop j)∧Below w.heap.size w wr) (fun i _ => N - (intOf i).toNat)
 case atStart => exact ⟨0,Nat.zero_le _,rfl,H0.out⟩
 case round =>
  obtain ⟨j,hj,rfl,hR,hB⟩:=hrel
  have h2:=Hh.out.2
  by_cases hlt : j < N
  ·have b1 : (j : Int) < (N : Int):=by omega
   have b0 : (0 : Int) ≤ (j : Int):=by omega
   obtain ⟨d,hd⟩ : ∃ d,ds[j]? = some d:=⟨_,List.getElem?_eq_getElem (by rw [← HN.out]; exact hlt)⟩
   obtain ⟨dg,d0,dc',hdv,z0⟩:=HC.out j d hd wr hB
   cases hdv
   have hq:=pq_at (nm:=nm) HN.out hlt
   have z3 : wr.cell? ⟨g,j * 4 + 3,none⟩ = some (.string ⟨#[]⟩):=hR.cell hq (by decide) rfl
   have f3:=hR.free (j * 4 + 3)
   have hR2:=hR.set hq 3 (by decide) (.string d) ⟨(j : Int),1,nm,d⟩ rfl
   rw [pq_set HN.out hlt hd] at hR2
   have HE : Hid (RQL (wr.setCell ⟨g,j * 4 + 3,none⟩ (.string d)) g (pq nm (ds.take (j + 1)) ++ (aq 1 nm ⟨#[]⟩ N).drop (j + 1))∧Below w.heap.size w (wr.setCell ⟨g,j * 4 + 3,none⟩ (.string d))):=by
    have hgl:=Hg.out
    exact ⟨hR2,((Gs.refl (fun i => i = g) wr).set1 _ _).below hB hB.size (fun i e => by omega)⟩
   clear hR hB hq hR2 hd
   go_wp2
   exact ⟨⟨j + 1,by omega,by go_num,HE.out⟩,by simp [intOf]; omega⟩
  ·obtain rfl : j = N:=by omega
   have e1 : ds.take j = ds:=List.take_of_length_le (by have:=HN.out; omega)
   have e2 : (aq 1 nm ⟨#[]⟩ j).drop j = []:=List.drop_eq_nil_of_le (by rw [aq_len]; omega)
   rw [e1,e2,List.append_nil] at hR
   have HA1:=hide (HA.out wr g hR hB)
   clear hR hB e1 e2
   go_wp2_with fail
   refine (HBC.out wr).mono ?_
   rintro er w3 ⟨rfl,rfl⟩
   go_wp2_with fail
   refine HA1.out.mono ?_
   rintro er w2 ⟨rfl,hP⟩
   have HP:=hide hP
   clear hP
   go_wp2
   go_end0
   exact ⟨rfl,HP.out⟩
theorem puts_any (hent : Ent F) (hLw : Zq.Sh.Laid w) (hJ : JB w b true 0 0 ⟨#[]⟩ ⟨#[]⟩ .nilFunc 0 0 (.slice none 0 0) (.slice none 0 0) (A0.length : Int)) (hd : LS t1 1 r w dv ds) (hI0 : (resI A0).length ≤ 1000000000000) (HK : KC F fi ca b Fin (pqn nm ds).length rest A0 e m w) (heb : ¬ e b) (hme : ∀ i,m i→e i) (hel : ∀ i,e i→i < w.heap.size) :
  Calls Tryz.prog 158 #[.pointer (some ⟨b,0,none⟩),.string nm,dv,.func (.func F) fi ca] w fun er w' => er = .returned (.tuple #[])∧PO b Fin (sqP (pqn nm ds) [] rest) A0 e (fun i => i = b ∨ m i) w w':=by
 rw [pqn_len] at HK
 rw [pqn]
 by_cases h : 1 ≤ ds.length∧ds.length ≤ 255
 ·rw [if_pos h]
  rw [nst_nat _ h.1 h.2] at HK
  refine (puts_yes hent hLw hJ hd h.1 h.2 hI0 HK heb hme hel).mono ?_
  rintro er w' ⟨rfl,hP⟩
  exact ⟨rfl,hP⟩
 ·rw [if_neg h]
  rw [nst_no _ (by omega)] at HK
  refine (puts_no hent hLw hJ hd h hI0 HK heb hme hel).mono ?_
  rintro er w' ⟨rfl,hP⟩
  exact ⟨rfl,hP⟩
end
end Go.Proofs.YtagijldedngcoaaGreatDoor

namespace Go.Proofs.YtagijldedngcoaaGreatDoor
open Go.RowKit Go.Lib Go.Maps
structure RS where
 c : Int
 n : Int
 ids : List ByteArray
 tx : List ByteArray
def FinR (b : Nat) (x : RS) (A : List RR) (P : Nat→Prop) (w : World) : Prop :=
 ∃ ids tx,JB w b false 0 0 ⟨#[]⟩ ⟨#[]⟩ .nilFunc x.c x.n ids tx (A.length : Int)∧LS t1 1 (fun i => P i∧i ≠ b) w ids x.ids∧LS t1 1 (fun i => P i∧i ≠ b) w tx x.tx
theorem LS.nl {α : Type} {f : α→List Value} {k : Nat} (r : Nat→Prop) (w : World) : LS f k r w (.slice none 0 0) []:=⟨none,0,rfl,fun _ => rfl,.inl rfl⟩
section
variable {F : FuncId} {fi ca : Array Value} {b i1 : Nat} {x : RS} {A : List RR} {e m r r' p : Nat→Prop} {w w' W : World} {cv dv : Value} {st k c NN s : Int} {n d nm : ByteArray} {go ids tx : Value} {cs ks : List Int} {ds : List ByteArray}
theorem fkR (b : Nat) : FK b (FinR b):=by
 refine ⟨?_,?_⟩
 ·rintro x A P p w w' ⟨ids,tx,hJ,h1,h2⟩ hg hb hp
  exact ⟨ids,tx,hJ.gs hg (hp b hb),h1.gs hg fun i hi => hp i hi.1,h2.gs hg fun i hi => hp i hi.1⟩
 ·rintro x A P w ⟨ids,tx,hJ,_⟩
  exact ⟨_,_,ids,tx,hJ⟩
theorem fin_rdy (hJ : JB w' b false 0 0 ⟨#[]⟩ ⟨#[]⟩ .nilFunc x.c x.n ids tx (A.length : Int)) (h1 : TS W.heap.size ids x.ids w') (h2 : TS W.heap.size tx x.tx w') (hG : Gs (fun i => i = b) W w') (hb : b < W.heap.size) :
  Gs (fun i => i = b ∨ m i) W w'∧RDY b (fun w2 => ∃ P',JJ b (FinR b) (.fin x) A P' w2∧Gs (fun i => i = b ∨ m i) W w2∧(∀ i,P' i→i = b ∨ e i ∨ r i ∨ W.heap.size ≤ i)) w':=by
 refine ⟨hG.mono fun i _ hi => .inl hi,.inr ⟨_,_,_,_,_,_,_,_,_,_,hJ,fun w2 hJ2 hG2 => ?_⟩⟩
 have hs:=hG.size
 have hs2:=hG2.size
 have k1:=h1.lt
 have k2:=h2.lt
 have t1:=h1.kb (w':=w2) fun i hi => hG2.block i (k1 i hi).2 (by have:=(k1 i hi).1; omega)
 have t2:=h2.kb (w':=w2) fun i hi => hG2.block i (k2 i hi).2 (by have:=(k2 i hi).1; omega)
 refine ⟨fun i => i = b ∨ ids.ownBlock = some i ∨ tx.ownBlock = some i,?_,(hG.trans hG2).mono fun i _ hi => .inl hi,?_⟩
 ·rw [JJ]
  refine ⟨.inl rfl,?_,ids,tx,hJ2,?_,?_⟩
  ·rintro i (h | h | h)
   ·omega
   ·exact (t1.lt i h).2
   ·exact (t2.lt i h).2
  ·exact t1.ls fun i hi => ⟨.inr (.inl hi),by have:=(k1 i hi).1; omega⟩
  ·exact t2.ls fun i hi => ⟨.inr (.inr hi),by have:=(k2 i hi).1; omega⟩
 ·rintro i (h | h | h)
  ·exact .inl h
  ·exact .inr (.inr (.inr (k1 i h).1))
  ·exact .inr (.inr (.inr (k2 i h).1))
theorem start_any (hent : Ent F) {Q : World→Prop}
  (HC : ∀ V,JB V w.heap.size true 0 0 ⟨#[]⟩ ⟨#[]⟩ .nilFunc 0 0 (.slice none 0 0) (.slice none 0 0) 0→Below w.heap.size w V→Calls Tryz.prog F (fi.push (.pointer (some ⟨w.heap.size,0,none⟩)) ++ ca) V fun e w' => e = .returned (.tuple #[])∧RDY w.heap.size Q w') :
  Calls Tryz.prog 44 #[.func (.func F) fi ca] w fun e w' => e = .returned (.pointer (some ⟨w.heap.size,0,none⟩))∧Q w':=by
 obtain ⟨U,hU⟩ : ∃ U,U = w.alloc (.cells #[.bool true,.int .i64 0,.int .i64 0,.string ⟨#[]⟩,.string ⟨#[]⟩,.nilFunc,.int .i64 0,.string ⟨#[]⟩,.int .i64 0,.slice none 0 0,.slice none 0 0,.slice none 0 0,.slice none 0 0,.int .i64 0] 149):=⟨_,rfl⟩
 have hJ : JB U w.heap.size true 0 0 ⟨#[]⟩ ⟨#[]⟩ .nilFunc 0 0 (.slice none 0 0) (.slice none 0 0) 0:=by rw [hU]; exact heap_alloc_new w _
 have HN:=hide (HC U hJ (by rw [hU]; exact (Below.refl _ _).alloc (Nat.le_refl _) _))
 have HU:=hide hU
 obtain ⟨g1,g2,g3,g4⟩:=fe72
 unfold Ent at hent
 clear hJ hU HC
 go_enter Tryz.func44,Tryz.ntmps44
 go_upto_region 2 with fail
 rw [← HU.out]
 go_wp2_with fail
 refine HN.out.mono ?_
 rintro e w1 ⟨rfl,hR⟩
 have HS:=hide (settle_rdy hR)
 clear hR
 go_wp2_with fail
 refine HS.out.mono ?_
 rintro e w2 ⟨rfl,hQ⟩
 have HQ:=hide hQ
 clear hQ
 go_wp2
 go_ret
 exact ⟨rfl,HQ.out⟩
def MK {α : Type} (Fin : Nat→α→List RR→(Nat→Prop)→World→Prop) (pl : PN α) (w w' : World) (er : Ending) : Prop:=∃ b P,er = .returned (.pointer (some ⟨b,0,none⟩))∧JJ b (Fin b) pl [] P w'∧Below w.heap.size w w'∧(∀ i,P i→w.heap.size ≤ i)
theorem MK.bel {α : Type} {Fin : Nat→α→List RR→(Nat→Prop)→World→Prop} {pl : PN α} {w U w' : World} {er : Ending} (h : MK Fin pl U w' er) (hb : Below w.heap.size w U) : MK Fin pl w w' er:=by
 obtain ⟨b,P,rfl,hJJ,hB,hP⟩:=h
 have hs:=hb.size
 exact ⟨b,P,rfl,hJJ,hb.trans (hB.mono hs),fun i hi => by have:=hP i hi; omega⟩
theorem start_mk {α : Type} {Fin : Nat→α→List RR→(Nat→Prop)→World→Prop} {pl : PN α} (hent : Ent F) (hL : Zq.Sh.Laid w)
  (HC : ∀ V,JB V w.heap.size true 0 0 ⟨#[]⟩ ⟨#[]⟩ .nilFunc 0 0 (.slice none 0 0) (.slice none 0 0) 0→Below w.heap.size w V→Zq.Sh.Laid V→Calls Tryz.prog F (fi.push (.pointer (some ⟨w.heap.size,0,none⟩)) ++ ca) V fun e w' => e = .returned (.tuple #[])∧PO w.heap.size (Fin w.heap.size) pl [] (fun i => w.heap.size ≤ i) (fun i => i = w.heap.size) V w') :
  Calls Tryz.prog 44 #[.func (.func F) fi ca] w fun e w' => MK Fin pl w w' e:=by
 refine (start_any (Q:=fun w2 => MK Fin pl w w2 (.returned (.pointer (some ⟨w.heap.size,0,none⟩)))) hent fun V hJ hB => (HC V hJ hB (hL.below hB hL.size)).mono ?_).mono ?_
 ·rintro e w' ⟨rfl,hP⟩
  refine ⟨rfl,hP.2.mono ?_⟩
  rintro w2 ⟨P',hJJ,hG,hP'⟩
  have:=hB.size
  refine ⟨_,P',rfl,hJJ,hG.below hB hB.size (fun i e => by omega),fun i hi => ?_⟩
  rcases hP' i hi with h | h | h <;> omega
 ·rintro e w' ⟨rfl,h⟩
  exact h
end
end Go.Proofs.YtagijldedngcoaaGreatDoor

namespace Go.Proofs.YtagijldedngcoaaGreatDoor
open Go.RowKit Go.Lib Go.Maps
section
variable {b : Nat} {α : Type} {pl : PN α} {P Py : Nat→Prop} {w w' : World} {v : Value} {S : List SS} {bs : List (Nat × Nat)} {g : Nat}
structure RNX {α : Type} (b : Nat) (Fin : α→List RR→(Nat→Prop)→World→Prop) (pl : PN α) (P Py : Nat→Prop) (w w' : World) (v : Value) (S : List SS) (bs : List (Nat × Nat)) : Prop where
 y : YP Py w' v (ySs S (pl.tr S)) bs
 g : Gs (fun i => P i ∨ Qs bs i) w w'
 f : ∃ P',Fin (pl.res S) (yRs S (pl.tr S)) P' w'∧P' b∧∀ i,P' i→P i ∨ w.heap.size ≤ i
 l : Zq.Sh.Laid w'
theorem run_jobx {Fin : α→List RR→(Nat→Prop)→World→Prop} (hFK : FK b Fin) (rs : α→RS) (hFR : ∀ x A P w,Fin x A P w→FinR b (rs x) A P w) (hJ : JJ b Fin pl [] P w) (hY : YP Py w v S bs) (hap : ∀ i,P i→¬ Py i) (hPy : ∀ i,Py i→i < w.heap.size) (hG : GD g S) (hg : g + (pl.tr S).length ≤ 1000) (hq : ∀ q ∈ pl.tr S,q.n.size ≤ maxLen∧q.d.size ≤ maxLen) (hIl : (rs (pl.res S)).ids.length ≤ 1000000000000) (hTl : (rs (pl.res S)).tx.length ≤ 1000000000000) (hLw : Zq.Sh.Laid w) (hP2 : ∀ i,P i→2 ≤ i) (hQ2 : ∀ i,Qs bs i→2 ≤ i) :
  Calls Tryz.prog 33 #[.pointer (some ⟨b,0,none⟩),v] w fun e w' => ∃ ids tx,e = .returned (.tuple #[.agg #[.int .i64 (rs (pl.res S)).c,.string ⟨#[]⟩,.int .i64 (rs (pl.res S)).n,ids,tx,.slice none 0 0,.slice none 0 0],.bool true])∧TS w.heap.size ids (rs (pl.res S)).ids w'∧TS w.heap.size tx (rs (pl.res S)).tx w'∧RNX b Fin pl P Py w w' v S bs:=by
 obtain ⟨U,hU⟩ : ∃ U,U = w.alloc (.cells #[.int .i64 0,.string ⟨#[]⟩,.int .i64 0,.slice none 0 0,.slice none 0 0,.slice none 0 0,.slice none 0 0] 63):=⟨_,rfl⟩
 obtain ⟨X0,hX⟩ : ∃ X0,X0 = w.heap.size:=⟨_,rfl⟩
 have hBU : Below w.heap.size w U:=by rw [hU]; exact (Below.refl _ _).alloc (Nat.le_refl _) _
 have hZ : R7 U X0 0 0 (.slice none 0 0) (.slice none 0 0):=by rw [hU,hX]; exact heap_alloc_new w _
 have hPl:=hJ.lt
 have hJU : JJ b Fin pl [] P U:=hJ.gs (p:=fun i => w.heap.size ≤ i) hFK (Gs.of_below _ hBU) (fun i hi hn => by have:=hPl i hi; omega)
 have hUs:=hBU.size
 have HR:=hide (run_any (jobP (pl:=pl) hFK S (by omega)) (A:=[]) ⟨0,Nat.zero_le _,by simp [yRs],by simpa [PN.aft] using hJU⟩ (hY.bel hBU) hap (fun i hi => by have:=hPy i hi; omega) hG hg (by simp [resI]) hq (hLw.below hBU hLw.size) hP2 hQ2 (fun t ht => ⟨t,by simpa using ht,by simp⟩) 2000 (by decide))
 have HU:=hide hU
 have HX:=hide hX
 have HZ:=hide (And.intro hBU hZ)
 have HP:=hide (And.intro hPl (And.intro hPy (And.intro hIl hTl)))
 obtain ⟨L,hLd⟩ : ∃ L,L = pl.tr S:=⟨_,rfl⟩
 obtain ⟨C,hCd⟩ : ∃ C,C = rs (pl.res S):=⟨_,rfl⟩
 have hLl : L.length ≤ 1000:=by rw [hLd]; omega
 have HLL:=hide (And.intro hLd hLl)
 rw [← hLd] at HR
 rw [← hCd] at HP ⊢
 have HCd:=hide hCd
 have HL0:=hide hLw.size
 clear hJ hY hap hPy hG hg hq hU hX hBU hZ hPl hJU hUs hIl hTl hLw hP2 hQ2 hLd hLl hCd
 go_enter Tryz.func33,Tryz.ntmps33
 go_upto_region 1 with fail
 rw [← HU.out,← HX.out]
 go_wp2_with fail
 refine HR.out.mono ?_
 rintro e w1 ⟨t,ht,rfl,Pj',hRU⟩
 obtain ⟨hPl,hPy,hIl,hTl⟩:=HP.out
 have ht2 : t = L.length:=by have:=HLL.out.2; simp at ht; omega
 subst ht2
 have hc : (if ([] : List RR).length + L.length < L.length then (2 : Int) else 0) = 0:=by rw [if_neg (by simp)]
 rw [hc]
 have eL : (L.drop ([] : List RR).length).take L.length = L:=by simp
 have hj:=hRU.j
 have hy:=hRU.y
 rw [eL,List.nil_append] at hj
 rw [eL] at hy
 obtain ⟨t',_,_,hj2⟩:=hj
 have hLd:=HLL.out.1
 rw [hLd,aft_end,JJ] at hj2
 obtain ⟨hPb,hPl',hfin⟩:=hj2
 obtain ⟨ids0,tx0,hJB,hI0,hT0⟩:=hFR _ _ _ _ hfin
 rw [← HCd.out] at hJB hI0 hT0
 have HS:=hide (result_any hJB hI0 hT0 hIl hTl)
 have HF1:=hide (And.intro hy (And.intro hRU.g (And.intro hRU.p (And.intro hPb (And.intro hRU.l hfin)))))
 clear hy hJB hI0 hT0 hfin hRU hPb hPl' hPl hPy hIl hTl eL hc ht hLd
 go_wp2_with fail
 refine HS.out.mono ?_
 rintro e w2 ⟨ids,tx,rfl,h1,h2,hB2⟩
 obtain ⟨hy,hg,hp,hPb,hLw1,hfin⟩:=HF1.out
 obtain ⟨hPl,hPy,_⟩:=HP.out
 obtain ⟨hBU,hZ⟩:=HZ.out
 have hX:=HX.out
 have hUs:=hBU.size
 have hXl:=hZ.lt
 have hgs:=hg.size
 have hB2s:=hB2.size
 have hXP : ¬ (P X0 ∨ Py X0):=by
  rintro (h | h)
  ·have:=hPl _ h; omega
  ·have:=hPy _ h; omega
 have hXQ : ¬ (P X0 ∨ Qs bs X0):=by
  rintro (h | h)
  ·exact hXP (.inl h)
  ·exact hXP (.inr (hy.qs h))
 have hZ2 : R7 w2 X0 0 0 (.slice none 0 0) (.slice none 0 0):=(hZ.gs hg hXQ).bel hB2
 obtain ⟨ai,ci,hei⟩:=h1.shp
 obtain ⟨at_,ct,het⟩:=h2.shp
 have hrun:=store_run (t:=63) (o:=0) hZ2 #[.int .i64 C.c,.string ⟨#[]⟩,.int .i64 C.n,ids,tx,.slice none 0 0,.slice none 0 0] (Nat.le_of_ble_eq_true rfl) Tryz.sizeR (by rw [hei,het]; simp [Value.oneCell'])
 obtain ⟨V,hV⟩ : ∃ V,V = w2.setCells X0 0 [.int .i64 C.c,.string ⟨#[]⟩,.int .i64 C.n,ids,tx,.slice none 0 0,.slice none 0 0]:=⟨_,rfl⟩
 have hRV : R7 V X0 C.c C.n ids tx:=by
  have h1:=setCells_self [.int .i64 C.c,.string ⟨#[]⟩,.int .i64 C.n,ids,tx,.slice none 0 0,.slice none 0 0] 0 w2 _ hZ2
  rw [← hV] at h1
  simpa [putAll,R7] using h1
 simp only [] at hrun
 rw [← hV] at hrun
 have hGV : Gs (fun i => i = X0) w2 V:=by rw [hV]; exact Gs.cells _ _ _ (Gs.refl _ _) (.inl rfl)
 have hVs:=hGV.size
 have r0 : V.cell? ⟨X0,0,none⟩ = some (.int .i64 C.c):=hRV.cell 0
 have r1 : V.cell? ⟨X0,1,none⟩ = some (.string ⟨#[]⟩):=hRV.cell 1
 have r2 : V.cell? ⟨X0,2,none⟩ = some (.int .i64 C.n):=hRV.cell 2
 have r3 : V.cell? ⟨X0,3,none⟩ = some ids:=hRV.cell 3
 have r4 : V.cell? ⟨X0,4,none⟩ = some tx:=hRV.cell 4
 have r5 : V.cell? ⟨X0,5,none⟩ = some (.slice none 0 0):=hRV.cell 5
 have r6 : V.cell? ⟨X0,6,none⟩ = some (.slice none 0 0):=hRV.cell 6
 have HE : Hid (TS w.heap.size ids C.ids V∧TS w.heap.size tx C.tx V∧RNX b Fin pl P Py w V v S bs):=by
  have k1:=h1.lt
  have k2:=h2.lt
  have hXl1 : X0 < w1.heap.size:=by omega
  have hXPj : ¬ Pj' X0:=fun h => by
   rcases hp X0 h with h | h
   ·exact hXP (.inl h)
   ·omega
  rw [HLL.out.1] at hy
  refine ⟨(h1.kb fun i hi => hGV.block i (k1 i hi).2 (by have:=(k1 i hi).1; omega)).low (by omega),(h2.kb fun i hi => hGV.block i (k2 i hi).2 (by have:=(k2 i hi).1; omega)).low (by omega),?_,?_,?_,?_⟩
  ·exact (hy.bel hB2).gs hGV fun i hi e => hXP (.inr (e ▸ hi))
  ·refine ((((Gs.of_below _ hBU).trans hg).bel hB2).tr2 (hGV.mono (q:=fun i => w.heap.size ≤ i) fun i _ e => by omega) fun i hi e => by omega)
  ·have h3:=hFK.gs (p:=fun i => ¬ Pj' i) hfin (w':=V) (((Gs.refl _ _).bel hB2).trans (hGV.mono fun i _ e h => hXPj (e ▸ h))) hPb (fun i hi hn => hn hi)
   exact ⟨Pj',h3,hPb,fun i hi => by
    rcases hp i hi with h | h
    ·exact .inl h
    ·exact .inr (by omega)⟩
  ·exact laid_gs (hLw1.below hB2 hLw1.size) hGV fun i hi => by have:=HL0.out; omega
 clear hV hRV hGV hVs hy hg hp hPb hfin hLw1 hPl hPy hBU hZ hX hUs hXl hgs hB2s hXP hXQ hZ2 h1 h2 hB2 HF1
 subst hei
 subst het
 generalize C.ids.length = li at *
 generalize C.tx.length = lt at *
 go_wp2_with (refine wpList_store_run rfl 63 _ _ rfl _ _ rfl rfl hrun ?_)
 exact bodyPost_ret (v:=.tuple #[.agg #[.int .i64 C.c,.string ⟨#[]⟩,.int .i64 C.n,.slice ai li ci,.slice at_ lt ct,.slice none 0 0,.slice none 0 0],.bool true]) (by simp [results,Tryz.results33,go_sem,r0,r1,r2,r3,r4,r5,r6]) rfl ⟨_,_,rfl,HE.out⟩
end
def pz (b : Nat) : List Value:=[.pointer (some ⟨b,0,none⟩)]
theorem pz_len (b : Nat) : (pz b).length = 1:=rfl
theorem pz_one (b : Nat) : ∀ u ∈ pz b,u.oneCell' = true:=by intro u hu; simp [pz] at hu; subst hu; rfl
theorem Tryz.infoPz : (Tryz.prog.info? 32).map (fun i => (i.zero,i.size,i.bytes)) = some (some (.pointer none),1,8):=by kernel_rfl
def sq (q : Int) : SS:=⟨q,0,0,false,[]⟩
structure YB (q : Int) (w wr : World) (sv : Value) (bs : List (Nat × Nat)) : Prop where
 s : OW pz 1 32 w.heap.size sv (bs.map (·.1)) wr
 px : ∀ e ∈ bs,PX wr e.1 e.2 (sq q)∧w.heap.size ≤ e.1∧w.heap.size ≤ e.2
 ap : ∀ (i j : Nat) (e f : Nat × Nat),bs[i]? = some e→bs[j]? = some f→i ≠ j→e.1 ≠ f.1∧e.2 ≠ f.2
 be : Below w.heap.size w wr
theorem snocGet {α : Type} {l : List α} {x y : α} {i : Nat} (h : (l ++ [x])[i]? = some y) : (i < l.length∧l[i]? = some y) ∨ (i = l.length∧y = x):=by
 by_cases hi : i < l.length
 ·rw [List.getElem?_append_left hi] at h; exact .inl ⟨hi,h⟩
 ·rw [List.getElem?_append_right (by omega)] at h
  have : i - l.length = 0:=by
   have:=(List.getElem?_eq_some_iff.1 h).1
   simp at this; omega
  rw [this] at h
  simp at h
  exact .inr ⟨by omega,h.symm⟩
section
variable {q : Int} {w wr w' : World} {sv : Value} {bs : List (Nat × Nat)}
theorem YB.bel (h : YB q w wr sv bs) (hb : Below wr.heap.size wr w') : YB q w w' sv bs :=
 ⟨h.s.keep hb,fun e he => ⟨PS.bel (h.px e he).1 hb,(h.px e he).2⟩,h.ap,h.be.trans (hb.mono h.be.size)⟩
theorem YB.yp (h : YB q w wr sv bs) : YP (fun i => w.heap.size ≤ i∧i < wr.heap.size) wr sv (List.replicate bs.length (sq q)) bs:=by
 refine ⟨?_,by simp,?_,?_,h.ap⟩
 ·obtain ⟨a,c,e,hc,hl | ⟨g,o,ea,hr,hg,hG⟩⟩:=h.s.ls (r:=fun i => w.heap.size ≤ i∧i < wr.heap.size) pz_len (fun i hi => ⟨(h.s.lt i hi).1,(h.s.lt i hi).2⟩)
  ·exact ⟨a,c,e,.inl hl⟩
  ·refine ⟨a,c,e,.inr ⟨g,o,ea,hr,hg,fun i b hb => ?_⟩⟩
   have:=hG i b hb 0 _ rfl
   rw [Nat.mul_one,Nat.add_zero] at this
   exact this
 ·intro i e s he hs
  rw [List.getElem?_replicate] at hs
  split at hs
  ·cases hs; exact (h.px e (List.mem_of_getElem? he)).1
  ·cases hs
 ·intro e he
  exact ⟨⟨(h.px e he).2.1,PS.lt (h.px e he).1⟩,⟨(h.px e he).2.2,PS.mlt (h.px e he).1⟩⟩
theorem YB.more (h : YB q w wr sv bs) {b mb : Nat} (hX : PX wr b mb (sq q)) (hb : w.heap.size ≤ b) (hm : w.heap.size ≤ mb) (hd : ∀ e ∈ bs,e.1 ≠ b∧e.2 ≠ mb) (hl : bs.length ≤ 1000) :
  ∃ a c w',(Builtin.append_ #[28,28] 28 #[sv,.slice (some ⟨wr.heap.size,0,none⟩) 1 1]).run Tryz.prog (wr.alloc (.cells #[.pointer (some ⟨b,0,none⟩)] 32)) = .ok (.slice a (bs.length + 1) c) w'∧YB q w w' (.slice a (bs.length + 1) c) (bs ++ [(b,mb)]):=by
 have hal : Below wr.heap.size wr (wr.alloc (.cells #[.pointer (some ⟨b,0,none⟩)] 32)):=(Below.refl _ _).alloc (Nat.le_refl _) _
 have h':=h.bel hal
 have hws:=h.be.size
 obtain ⟨v',w1,h1,h2,h3,h4⟩:=OW.app (ST:=28) pz_len (by decide) (fun x _ => pz_one x) Tryz.underlying28 Tryz.infoPz rfl h'.s (LS.one b 32 wr pz 1 (fun _ => True) trivial) (by simp; omega) (by simp; omega) (by simp; omega)
 obtain ⟨a,c,e⟩:=h2.shp
 have hle : ((bs.map (·.1)) ++ [b]).length = bs.length + 1:=by simp
 rw [hle] at e
 subst e
 have hsl:=h'.s.lt
 have hst:=h'.s.typ
 have hBw : Below w.heap.size w w1:=h'.be.grown h3 (by simp; omega) (fun k hk => (hsl k hk).1)
 refine ⟨a,c,w1,h1,?_,?_,?_,hBw⟩
 ·rw [List.map_append]; exact h2
 ·have hpk : ∀ e : Nat × Nat,PX (wr.alloc (.cells #[.pointer (some ⟨b,0,none⟩)] 32)) e.1 e.2 (sq q)→PX w1 e.1 e.2 (sq q):=fun e hX => by
   have hX' : PS _ e.1 e.2 (sq q).q (sq q).f (sq q).off (sq q).m (sq q).L:=hX
   have g1 : Gs (fun i => sv.ownBlock = some i) (wr.alloc (.cells #[.pointer (some ⟨b,0,none⟩)] 32)) w1:=⟨h3.os,h3.tape,h3.output,h3.size,fun i hi hn => h3.block i hi (fun e => hn e.symm)⟩
   refine PS.gs hX' g1 (fun e' => ?_) (fun e' => ?_)
   ·obtain ⟨c1,q1⟩:=hst _ e'
    rw [hX'.blk] at q1
    simp at q1
   ·obtain ⟨c1,q1⟩:=hst _ e'
    exact hX'.map.notCells q1
  intro e he
  rcases List.mem_append.1 he with he | he
  ·exact ⟨hpk e (h'.px e he).1,(h.px e he).2⟩
  ·simp at he
   subst he
   exact ⟨hpk _ (PS.bel hX hal),hb,hm⟩
 ·intro i j e f he hf hij
  rcases snocGet he with ⟨hi,he⟩ | ⟨hi,he⟩ <;> rcases snocGet hf with ⟨hj,hf⟩ | ⟨hj,hf⟩
  ·exact h.ap i j e f he hf hij
  ·subst hf; exact hd e (List.mem_of_getElem? he)
  ·subst he; have:=hd f (List.mem_of_getElem? hf); exact ⟨fun q => this.1 q.symm,fun q => this.2 q.symm⟩
  ·omega
end
end Go.Proofs.YtagijldedngcoaaGreatDoor

namespace Go.Proofs.YtagijldedngcoaaGreatDoor
open Go.WideShapes
end Go.Proofs.YtagijldedngcoaaGreatDoor

namespace Go.Proofs.YtagijldedngcoaaGreatDoor
open Go.RowKit Go.Maps Go.Sort Go.Shelf
end Go.Proofs.YtagijldedngcoaaGreatDoor

namespace Go.Proofs.YtagijldedngcoaaGreatDoor
open Go.RowKit Go.Lib Go.Maps Go.MapKept Go.ChangeMaps Go.Sort
open Go.WideElems (Fit)
theorem wpList_mapUpdate_run {ops : Array Oper} {rest : List Oper} {op : Oper} {a : Act} {w w1 : World} {Q : Exit→Act→World→Prop} (hgd : op.guard = none) (ty : TypeId) (x y z : Operand) (ho : op.op = .mapUpdate ty x y z)
  (p v u : Value) (hx : a.eval x = p) (hy : a.eval y = v) (hz : a.eval z = u) (hr : (Instr.mapUpdate ty p v u).run Tryz.prog w = .ok () w1)
  (h : wpList Tryz.prog ops Q rest (a.put op.dst undef) w1) : wpList Tryz.prog ops Q (op :: rest) a w :=
 wpList_plain hgd fun _ hK => by
  unfold Oper.wp execOp
  simp only [ho,hx,hy,hz,Sem.run_bind,Sem.run_pure,Result.andThen_ok,hr]
  exact hK _ _ h
section
variable {w w' : World} {b : Nat} {L : List OB}
end
section
variable {w : World} {av : Value} {X : List (RR × Value)} {r : Nat→Prop}
end
end Go.Proofs.YtagijldedngcoaaGreatDoor

namespace Go.Proofs.YtagijldedngcoaaGreatDoor
open Go.RowKit Go.Lib
def fz (u : Value) : List Value:=[u]
theorem fz_len (u : Value) : (fz u).length = 1:=rfl
theorem fz_flat : ∀ us : List Value,us.flatMap fz = us
 | [] => rfl
 | u :: r => by rw [List.flatMap_cons,fz_flat r]; rfl
theorem Tryz.infoFz : (Tryz.prog.info? 189).map (fun i => (i.zero,i.size,i.bytes)) = some (some (.slice none 0 0),1,24):=by kernel_rfl
theorem Tryz.sizeFz : (Tryz.prog.info? 189).map (·.size) = some 1:=by kernel_rfl
theorem six_one (x : Zq.SX) : ∀ u ∈ Zq.six x,u.oneCell' = true:=by intro u hu; simp [Zq.six] at hu; rcases hu with rfl | rfl | rfl | rfl | rfl | rfl <;> rfl
structure FM (B : Nat) (v : Value) (us : List Value) (all : List (List Zq.SX)) (w : World) : Prop where
 o : OW fz 1 189 B v us w
 l : us.length = all.length
 e : ∀ (i : Nat) (u : Value) (f : List Zq.SX),us[i]? = some u→all[i]? = some f→OW Zq.six 6 232 B u f w
 ap : ∀ (i j : Nat) (u u' : Value),us[i]? = some u→us[j]? = some u'→i ≠ j→∀ b,u.ownBlock = some b→u'.ownBlock ≠ some b
section
variable {B : Nat} {v : Value} {us : List Value} {all : List (List Zq.SX)} {w w' : World}
theorem FM.nil (B : Nat) (w : World) : FM B (.slice none 0 0) [] [] w:=⟨OW.nil _ _ _ _ _,rfl,fun i u f h => by simp at h,fun i j u u' h => by simp at h⟩
theorem FM.kb (h : FM B v us all w) (hk : ∀ (i : Nat) (cs : Array Value) (T : TypeId),w.heap[i]? = some (.cells cs T (0,0))→B ≤ i→w'.heap[i]? = w.heap[i]?) : FM B v us all w':=by
 refine ⟨h.o.kb fun i hi => ?_,h.l,fun i u f hu hf => (h.e i u f hu hf).kb fun b hb => ?_,h.ap⟩
 ·obtain ⟨cs,hc⟩:=h.o.typ i hi; exact hk i cs _ hc (h.o.lt i hi).1
 ·obtain ⟨cs,hc⟩:=(h.e i u f hu hf).typ b hb; exact hk b cs _ hc ((h.e i u f hu hf).lt b hb).1
theorem FM.bel (h : FM B v us all w) (hb : Below w.heap.size w w') : FM B v us all w':=h.kb fun i _ _ hc _ => hb.block i (lt_of_block hc)
theorem FM.at_ (h : FM B v us all w) {p : Nat} {f : List Zq.SX} (hf : all[p]? = some f) : ∃ u g c,us[p]? = some u∧OW Zq.six 6 232 B u f w∧v = .slice (some ⟨g,0,none⟩) us.length c∧w.cell? ⟨g,p,none⟩ = some u:=by
 have hp : p < us.length:=by rw [h.l]; exact (List.getElem?_eq_some_iff.1 hf).1
 have hu:=List.getElem?_eq_getElem hp
 obtain ⟨a,c,e,_,h2 | ⟨g,o,ea,_,_,hG⟩⟩:=h.o.ls (r:=fun _ => True) fz_len (fun _ _ => trivial)
 ·rw [h2] at hp; simp at hp
 ·have hc:=hG p _ hu 0 _ rfl
  rcases h.o.own.2 with ⟨e',_⟩ | ⟨g',cap,cur,e',_⟩
  ·rw [e,ea] at e'; simp at e'
  ·rw [e] at e'
   simp only [Value.slice.injEq] at e'
   obtain ⟨e1,_,_⟩:=e'
   rw [ea] at e1
   simp only [Option.some.injEq,Addr.mk.injEq,and_true] at e1
   obtain ⟨rfl,rfl⟩:=e1
   refine ⟨_,g,c,hu,h.e p _ f hu hf,by rw [e,ea],?_⟩
   simpa using hc
theorem FM.more (h : FM B v us all w) (hl : us.length ≤ 1000) (hB : B ≤ w.heap.size) :
  ∃ a c w',(Builtin.append_ #[230,230] 230 #[v,.slice (some ⟨w.heap.size,0,none⟩) 1 1]).run Tryz.prog (w.alloc (.cells #[.slice none 0 0] 189)) = .ok (.slice a (us.length + 1) c) w'∧FM B (.slice a (us.length + 1) c) (us ++ [.slice none 0 0]) (all ++ [[]]) w'∧(w.alloc (.cells #[.slice none 0 0] 189)).grownBy w' v.ownBlock:=by
 have hal : Below w.heap.size w (w.alloc (.cells #[.slice none 0 0] 189)):=(Below.refl _ _).alloc (Nat.le_refl _) _
 have h':=h.bel hal
 obtain ⟨v',w1,h1,h2,h3,h4⟩:=OW.app (ST:=230) fz_len (by decide) (fun x hx u hu => by simp at hx; subst hx; simp [fz] at hu; subst hu; rfl) Tryz.underlying230 Tryz.infoFz rfl h'.o (LS.one (.slice none 0 0) 189 w fz 1 (fun _ => True) trivial) (by simp; omega) (by simp; omega) (by simp; omega)
 obtain ⟨a,c,e⟩:=h2.shp
 rw [List.length_append,List.length_singleton] at e
 subst e
 refine ⟨a,c,w1,h1,⟨h2,by simp [h.l],fun i u f hu hf => ?_,fun i j u u' hu hu' hij b hb => ?_⟩,h3⟩
 ·rcases snocGet hu with ⟨hi,hu⟩ | ⟨hi,rfl⟩
  ·have hf' : all[i]? = some f:=by
    rcases snocGet hf with ⟨_,hf⟩ | ⟨hi2,_⟩
    ·exact hf
    ·have:=h.l; omega
   refine (h'.e i u f hu hf').kb fun b hb => h3.block b ((h'.e i u f hu hf').lt b hb).2 fun e => ?_
   obtain ⟨cs,hc⟩:=(h'.e i u f hu hf').typ b hb
   obtain ⟨cs',hc'⟩:=h'.o.typ b e.symm
   rw [hc] at hc'
   simp at hc'
  ·have hf' : f = []:=by
    rcases snocGet hf with ⟨hi2,_⟩ | ⟨_,hf⟩
    ·have:=h.l; omega
    ·exact hf
   rw [hf']
   exact OW.nil _ _ _ _ _
 ·rcases snocGet hu with ⟨_,hu⟩ | ⟨_,rfl⟩
  ·rcases snocGet hu' with ⟨_,hu'⟩ | ⟨_,rfl⟩
   ·exact h.ap i j u u' hu hu' hij b hb
   ·simp [Value.ownBlock]
  ·simp [Value.ownBlock] at hb
theorem FM.put (h : FM B v us all w) {p : Nat} {f : List Zq.SX} {u : Value} (hf : all[p]? = some f) (hu : us[p]? = some u) (x : Zq.SX) (hl : f.length ≤ 1000) (hB : B ≤ w.heap.size) {g c : Nat} (hv : v = .slice (some ⟨g,0,none⟩) us.length c) :
  ∃ u' w1 w2,(Builtin.append_ #[189,189] 189 #[u,.slice (some ⟨w.heap.size,0,none⟩) 1 1]).run Tryz.prog (w.alloc (.cells #[.int .i64 x.k,.int .i64 x.m,.int .i64 x.i,.int .i64 x.long,.string x.id,.string x.data] 232)) = .ok u' w1∧(∃ a n c,u' = .slice a n c)∧(Instr.storeAt 189 (.pointer (some ⟨g,p,none⟩)) u').run Tryz.prog w1 = .ok () w2∧FM B v (us.set p u') (all.set p (f ++ [x])) w2∧(∀ i,i < w.heap.size→(∀ cs,w.heap[i]? ≠ some (.cells cs 232 (0,0)))→i ≠ g→w2.heap[i]? = w.heap[i]?)∧(w.alloc (.cells #[.int .i64 x.k,.int .i64 x.m,.int .i64 x.i,.int .i64 x.long,.string x.id,.string x.data] 232)).grownBy w1 u.ownBlock∧w1.grownBy w2 (some g):=by
 obtain ⟨Z,hZ⟩ : ∃ Z,Z = w.alloc (.cells #[.int .i64 x.k,.int .i64 x.m,.int .i64 x.i,.int .i64 x.long,.string x.id,.string x.data] 232):=⟨_,rfl⟩
 have hal : Below w.heap.size w Z:=by rw [hZ]; exact (Below.refl _ _).alloc (Nat.le_refl _) _
 have hZs : Z.heap.size = w.heap.size + 1:=by rw [hZ]; simp
 have h':=h.bel hal
 have hus:=h'.e p u f hu hf
 have hpl : p < us.length:=(List.getElem?_eq_some_iff.1 hu).1
 have hpa : p < all.length:=(List.getElem?_eq_some_iff.1 hf).1
 have hone : LS Zq.six 6 (fun _ => True) Z (.slice (some ⟨w.heap.size,0,none⟩) 1 1) [x]:=by rw [hZ]; exact LS.one x 232 w Zq.six 6 (fun _ => True) trivial
 obtain ⟨u',w1,h1,h2,h3,h5⟩:=OW.app (ST:=189) six_len (by decide) (fun y _ => six_one y) Tryz.underlying189 Zq.Tryz.infoSh rfl hus hone (by simp; omega) (by simp; omega) (by omega)
 have hsh : ∃ a n c,u' = .slice a n c:=by obtain ⟨a,c,e⟩:=h2.shp; exact ⟨a,_,c,e⟩
 have hgb : v.ownBlock = some g:=by rw [hv]; rfl
 have hng : ∀ b,u.ownBlock = some b→b ≠ g:=fun b hb e => by
  obtain ⟨cs,hc⟩:=hus.typ b hb
  obtain ⟨cs',hc'⟩:=h'.o.typ g hgb
  rw [e,hc'] at hc
  simp at hc
 have hgl:=(h'.o.lt g hgb).2
 have ho1 : OW fz 1 189 B v us w1:=h'.o.kb fun i hi => h3.block i (h'.o.lt i hi).2 fun e => by
  rw [hgb] at hi
  cases hi
  exact hng g e.symm rfl
 have hng' : ∀ b,u'.ownBlock = some b→b ≠ g:=fun b hb e => by
  obtain ⟨cs,hc⟩:=h2.typ b hb
  obtain ⟨cs',hc'⟩:=ho1.typ g hgb
  rw [e,hc'] at hc
  simp at hc
 obtain ⟨cs1,hc1⟩:=ho1.typ g hgb
 have hst:=(by rw [hv] at ho1; exact ho1.own : w1.ownsRow B 189 1 (.slice (some ⟨g,0,none⟩) us.length c) us.length (us.flatMap fz)).stored p u'
 have hcs : p < cs1.size:=by
  rcases ho1.own.2 with ⟨e,_⟩ | ⟨g2,cap2,cur,e,_,hg2,hn2,_,hs2,ht2⟩
  ·rw [hv] at e; simp at e
  ·rw [hv] at e
   simp only [Value.slice.injEq,Option.some.injEq,Addr.mk.injEq,and_true] at e
   obtain ⟨rfl,_,rfl⟩:=e
   rw [hc1] at hg2
   simp only [Option.some.injEq,Obj.cells.injEq] at hg2
   rw [hg2.1]
   omega
 have hrun:=store1_run (t:=189) hc1 (j:=p) (v:=u') hcs Tryz.sizeFz hsh
 refine ⟨u',w1,w1.setCell ⟨g,p,none⟩ u',by rw [← hZ]; exact h1,hsh,hrun,⟨?_,by simp [h.l],?_,?_⟩,?_,by rw [← hZ]; exact h3,hst.2⟩
 ·refine ⟨?_⟩
  have:=hst.1
  rw [fz_flat] at this
  rw [fz_flat,List.length_set,hv]
  exact this
 ·intro i y f' hy hf'
  rw [List.getElem?_set] at hy hf'
  by_cases hip : p = i
  ·subst hip
   rw [if_pos rfl,if_pos hpl] at hy
   rw [if_pos rfl,if_pos hpa] at hf'
   cases hy
   cases hf'
   exact h2.kb fun b hb => hst.2.block b (h2.lt b hb).2 (by intro e; cases e; exact hng' g hb rfl)
  ·rw [if_neg hip] at hy hf'
   have k1:=h'.e i y f' hy hf'
   have k2 : OW Zq.six 6 232 B y f' w1:=k1.kb fun b hb => h3.block b (k1.lt b hb).2 fun e => h.ap i p y u hy hu (Ne.symm hip) b hb e.symm
   refine k2.kb fun b hb => hst.2.block b (k2.lt b hb).2 fun e => ?_
   cases e
   obtain ⟨cs,hc⟩:=k2.typ g hb
   rw [hc1] at hc
   simp at hc
 ·intro i j y y' hy hy' hij b hb
  rw [List.getElem?_set] at hy hy'
  by_cases hip : p = i
  ·subst hip
   rw [if_pos rfl,if_pos hpl] at hy
   cases hy
   rw [if_neg hij] at hy'
   rcases h5 with h5 | h5
   ·rw [h5] at hb; exact h.ap p j u y' hu hy' hij b hb
   ·rw [h5] at hb
    cases hb
    intro e
    have hfj : ∃ f',all[j]? = some f':=⟨_,List.getElem?_eq_getElem (by rw [← h.l]; exact (List.getElem?_eq_some_iff.1 hy').1)⟩
    obtain ⟨f',hfj⟩:=hfj
    have:=((h'.e j y' f' hy' hfj).lt _ e).2
    omega
  ·rw [if_neg hip] at hy
   by_cases hjp : p = j
   ·subst hjp
    rw [if_pos rfl,if_pos hpl] at hy'
    cases hy'
    intro e
    rcases h5 with h5 | h5
    ·rw [h5] at e; exact h.ap i p y u hy hu hij b hb e
    ·rw [h5] at e
     cases e
     obtain ⟨f',hfi⟩ : ∃ f',all[i]? = some f':=⟨_,List.getElem?_eq_getElem (by rw [← h.l]; exact (List.getElem?_eq_some_iff.1 hy).1)⟩
     have:=((h'.e i y f' hy hfi).lt _ hb).2
     omega
   ·rw [if_neg hjp] at hy'
    exact h.ap i j y y' hy hy' hij b hb
 ·intro i hi hno hig
  have e1 : Z.heap[i]? = w.heap[i]?:=hal.block i hi
  have e2 : w1.heap[i]? = Z.heap[i]?:=h3.block i (by omega) fun e => by
   obtain ⟨cs,hc⟩:=hus.typ i e.symm
   rw [e1] at hc
   exact hno cs hc
  have:=h3.size
  exact (hst.2.block i (by omega) (by intro e; cases e; exact hig rfl)).trans (e2.trans e1)
end
end Go.Proofs.YtagijldedngcoaaGreatDoor

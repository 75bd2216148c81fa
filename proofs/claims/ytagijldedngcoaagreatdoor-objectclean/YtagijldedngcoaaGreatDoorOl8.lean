/-
  Contracts of the program and of the statements (part 8 of 28).
-/
import Derived.Test.YtagijldedngcoaaGreatDoorOl6
import Derived.Test.YtagijldedngcoaaGreatDoorOl7
import Derived.Maps.OwnSet
import Derived.Deep.DeepCutAuto
import Derived.Maps.AppendAt
set_option maxRecDepth 100000
set_option maxHeartbeats 3200000

namespace Go.Proofs.YtagijldedngcoaaGreatDoor.Zq
open Go.RowKit Go.Lib Go.Maps

theorem mlaw : Keyed Tryz.prog 3:=int_keyed Tryz.underlying3
theorem mzero (w : World) : (zeroValue 3).run Tryz.prog w = .ok (.int .i64 0) w:=by kernel_rfl
theorem wf_of {x : Int} (h1 : -9223372036854775808 ≤ x) (h2 : x ≤ 9223372036854775807) : (Lit.int .i64 x).wf = true:=WalkArith.wf_i64 ⟨h1,h2⟩
def MP (w : World) (b n : Nat) (f : Int→Option Nat) : Prop :=
 ∃ D : DataW Unit,w.ownsMap Tryz.prog 3 (plainElem Tryz.prog 3) b n D∧(∀ x,has D (.int .i64 x) = (f x).isSome)∧∀ x i,f x = some i→∀ z,D.atKey (.int .i64 x) z = .lit (.int .i64 (i : Int))
section
variable {w w' : World} {b n : Nat} {f : Int→Option Nat}
theorem MP.made (w : World) : MP (w.alloc (.map #[] 0)) w.heap.size 0 (fun _ => none) :=
 ⟨_,World.ownsMap_made w _ _ _,fun x => by simp [has],fun x i h => by cases h⟩
theorem MP.lt (h : MP w b n f) : b < w.heap.size:=by obtain ⟨D,h,_⟩:=h; exact h.lt
theorem MP.kept {row : Option Nat} (h : MP w b n f) (hg : w.grownBy w' row) (hne : some b ≠ row) : MP w' b n f:=by
 obtain ⟨D,h1,h2⟩:=h
 exact ⟨D,h1.kept hg hne,h2⟩
theorem MP.below (h : MP w b n f) (hb : Below w.heap.size w w') : MP w' b n f:=h.kept (gb_below hb none) (by simp)
theorem MP.look (h : MP w b n f) {x : Int} (h1 : -9223372036854775808 ≤ x) (h2 : x ≤ 9223372036854775807) :
  (Instr.lookup 362 (.map (some b)) (.int .i64 x) true).run Tryz.prog w = .ok (.tuple #[.int .i64 (((f x).getD 0 : Nat) : Int),.bool (f x).isSome]) w:=by
 obtain ⟨D,hD,hh,ha⟩:=h
 obtain ⟨v,ps,hr,hv⟩:=hD.look_ok mlaw Tryz.underlying362 (mzero w) (plainElem_int Tryz.underlying3 (by decide)) (keyOf_int_mk Tryz.underlying3 (wf_of h1 h2))
 obtain ⟨a,rfl,e,_⟩:=plainElem_int_inv Tryz.underlying3 hv
 rw [hr,hh x]
 simp only [Prod.mk.injEq] at e
 cases hf : f x with
 | none =>
  have:=atKey_of_not_has (D:=D) (k:=.int .i64 x) (by rw [hh x,hf]; rfl) (.lit (.int .i64 0))
  rw [this] at e
  simp at e
  rw [← e.1]
  rfl
 | some i =>
  rw [ha x i hf] at e
  simp at e
  rw [← e.1]
  rfl
theorem MP.update (h : MP w b n f) (hn : n ≤ 100000) {x : Int} (h1 : -9223372036854775808 ≤ x) (h2 : x ≤ 9223372036854775807) {i : Nat} (hi : i ≤ 100000) :
  ∃ w',(Instr.mapUpdate 362 (.map (some b)) (.int .i64 x) (.int .i64 (i : Int))).run Tryz.prog w = .ok () w'∧MP w' b (n + 1) (fun y => if y = x then some i else f y)∧w.grownBy w' (some b):=by
 obtain ⟨D,hD,hh,ha⟩:=h
 obtain ⟨w',hr,hD',hg⟩:=hD.update mlaw Tryz.underlying362 (by unfold maxLen; omega) (keyOf_int_mk Tryz.underlying3 (wf_of h1 h2)) (plainElem_int Tryz.underlying3 (a:=(i : Int)) (wf_of (by omega) (by omega)))
 have hM:=hD.isMap
 have hkl : WideAt.IsKeyLit (.int .i64 x):=by simp [WideAt.IsKeyLit]
 refine ⟨w',hr,⟨_,hD',fun y => ?_,fun y j hy z => ?_⟩,hg⟩
 ·by_cases e : y = x
  ·subst e
   simp only [if_true,Option.isSome_some]
   exact has_true_of_atKey (fun z => atKey_put_same hM hkl _ z)
  ·simp only [if_neg e]
   rw [has_put_other (by intro h; cases h; exact e rfl),hh y]
 ·by_cases e : y = x
  ·subst e
   simp only [if_true,Option.some.injEq] at hy
   subst hy
   exact atKey_put_same hM hkl _ z
  ·simp only [if_neg e] at hy
   rw [atKey_put_other (by intro h; cases h; exact e rfl)]
   exact ha y j hy z
end
end Go.Proofs.YtagijldedngcoaaGreatDoor.Zq

namespace Go.Proofs.YtagijldedngcoaaGreatDoor.Zq
open Go.RowKit Go.Lib

theorem Tryz.infoPart : (Tryz.prog.info? 309).map (fun i => (i.zero,i.size,i.bytes)) = some (some (.agg #[.int .i64 0,.string ⟨#[]⟩]),2,24):=by kernel_rfl
def pcells (I : Nat→Int) (X : Nat→ByteArray) : Nat→List Value
 | 0 => []
 | n + 1 => pcells I X n ++ [.int .i64 (I n),.string (X n)]
section
variable {I I' : Nat→Int} {X X' : Nat→ByteArray}
theorem pcells_length (I : Nat→Int) (X : Nat→ByteArray) : ∀ n,(pcells I X n).length = n * 2
 | 0 => rfl
 | n + 1 => by rw [pcells,List.length_append,pcells_length I X n]; simp; omega
theorem pcells_get0 {i : Nat} : ∀ {n},i < n→(pcells I X n)[i * 2]? = some (.int .i64 (I i))
 | 0,h => by omega
 | n + 1,h => by
  rw [pcells]
  by_cases e : i < n
  ·rw [List.getElem?_append_left (by rw [pcells_length]; omega),pcells_get0 e]
  ·obtain rfl : i = n:=by omega
   rw [List.getElem?_append_right (by rw [pcells_length]; omega),pcells_length,Nat.sub_self]
   rfl
theorem pcells_get1 {i : Nat} : ∀ {n},i < n→(pcells I X n)[i * 2 + 1]? = some (.string (X i))
 | 0,h => by omega
 | n + 1,h => by
  rw [pcells]
  by_cases e : i < n
  ·rw [List.getElem?_append_left (by rw [pcells_length]; omega),pcells_get1 e]
  ·obtain rfl : i = n:=by omega
   rw [List.getElem?_append_right (by rw [pcells_length]; omega),pcells_length,show i * 2 + 1 - i * 2 = 1 by omega]
   rfl
theorem pcells_congr : ∀ {n},(∀ i,i < n→I i = I' i∧X i = X' i)→pcells I X n = pcells I' X' n
 | 0,_ => rfl
 | n + 1,h => by rw [pcells,pcells,pcells_congr (fun i hi => h i (by omega)),(h n (by omega)).1,(h n (by omega)).2]
end
def PX (w : World) (v : Value) (n : Nat) (I : Nat→Int) (X : Nat→ByteArray) : Prop :=
 ∃ a c,v = .slice a n c∧(n = 0 ∨ ∃ bl off,a = some ⟨bl,off,none⟩∧bl < w.heap.size∧∀ i,i < n→w.cell? ⟨bl,off + i * 2,none⟩ = some (.int .i64 (I i))∧w.cell? ⟨bl,off + i * 2 + 1,none⟩ = some (.string (X i)))
structure IP (B : Nat) (v : Value) (n : Nat) (I : Nat→Int) (X : Nat→ByteArray) (w : World) : Prop where
 own : w.ownsRow B 309 2 v n (pcells I X n)
section
variable {B n : Nat} {v : Value} {I I' : Nat→Int} {X X' : Nat→ByteArray} {w w' : World}
theorem PX.below (h : PX w v n I X) {b : Nat} (hb : Below b w w') (hB : w.heap.size ≤ b) : PX w' v n I X:=by
 obtain ⟨a,c,e,h0 | ⟨bl,off,ea,hl,hc⟩⟩:=h
 ·exact ⟨a,c,e,.inl h0⟩
 ·refine ⟨a,c,e,.inr ⟨bl,off,ea,Nat.lt_of_lt_of_le hl hb.size,fun i hi => ⟨?_,?_⟩⟩⟩
  ·exact (hb.cell (p:=⟨bl,off + i * 2,none⟩) (Nat.lt_of_lt_of_le hl hB)).trans (hc i hi).1
  ·exact (hb.cell (p:=⟨bl,off + i * 2 + 1,none⟩) (Nat.lt_of_lt_of_le hl hB)).trans (hc i hi).2
theorem PX.congr (h : PX w v n I X) (e : ∀ i,i < n→I i = I' i∧X i = X' i) : PX w v n I' X':=by
 obtain ⟨a,c,ev,h0 | ⟨bl,off,ea,hl,hc⟩⟩:=h
 ·exact ⟨a,c,ev,.inl h0⟩
 ·exact ⟨a,c,ev,.inr ⟨bl,off,ea,hl,fun i hi => by rw [← (e i hi).1,← (e i hi).2]; exact hc i hi⟩⟩
theorem IP.nil (B : Nat) (w : World) (I : Nat→Int) (X : Nat→ByteArray) : IP B (.slice none 0 0) 0 I X w:=⟨World.ownsRow_nil w B 309 2⟩
theorem IP.px (h : IP B v n I X w) : PX w v n I X:=by
 obtain ⟨h1,⟨rfl,h2⟩ | ⟨g,cap,cur,rfl,hB,hg,hn,_,hs,ht⟩⟩:=h.own
 ·subst h2; exact ⟨_,_,rfl,.inl rfl⟩
 ·refine ⟨_,cap,rfl,.inr ⟨g,0,rfl,lt_of_block hg,fun j hj => ?_⟩⟩
  have e0:=pcells_get0 (I:=I) (X:=X) hj
  have e1:=pcells_get1 (I:=I) (X:=X) hj
  rw [← ht,List.getElem?_take,if_pos (by omega)] at e0 e1
  rw [Nat.zero_add,cell_of_row w g _ _ _ _ hg,cell_of_row w g _ _ _ _ hg]
  exact ⟨by simpa using e0,by simpa using e1⟩
theorem IP.shp (h : IP B v n I X w) : ∃ a c,v = .slice a n c:=by
 obtain ⟨a,c,e,_⟩:=h.px
 exact ⟨a,c,e⟩
theorem IP.keep (h : IP B v n I X w) (hb : Below w.heap.size w w') : IP B v n I X w':=by
 refine ⟨h.own.1,?_⟩
 rcases h.own.2 with h2 | ⟨g,cap,cur,e,hB,hg,r⟩
 ·exact .inl h2
 ·exact .inr ⟨g,cap,cur,e,hB,(hb.block g (lt_of_block hg)).trans hg,r⟩
theorem IP.grown (h : IP B v n I X w) {b : Nat} (hb : w.grownBy w' (some b)) (hv : v.ownBlock ≠ some b) : IP B v n I X w':=by
 refine ⟨h.own.1,?_⟩
 rcases h.own.2 with h2 | ⟨g,cap,cur,e,hB,hg,r⟩
 ·exact .inl h2
 ·refine .inr ⟨g,cap,cur,e,hB,?_,r⟩
  refine (hb.block g (lt_of_block hg) ?_).trans hg
  intro e'
  apply hv
  rw [e,← e']
  rfl
theorem IP.ne_map (h : IP B v n I X w) {b k : Nat} {f : Int→Option Nat} (hm : MP w b k f) : v.ownBlock ≠ some b:=by
 rcases h.own.2 with ⟨rfl,_⟩ | ⟨g,cap,cur,e,hB,hg,r⟩
 ·simp [Value.ownBlock]
 ·obtain ⟨D,hD,_⟩:=hm
  intro e2
  rw [e] at e2
  simp [Value.ownBlock] at e2
  subst e2
  obtain ⟨es,it,hb,_⟩:=hD
  rw [hg] at hb
  cases hb
theorem IP.lt (h : IP B v n I X w) (b : Nat) (hb : v.ownBlock = some b) : B ≤ b∧b < w.heap.size:=by
 obtain ⟨h1,⟨rfl,h2⟩ | ⟨g,cap,cur,rfl,hB,hg,_⟩⟩:=h.own
 ·simp [Value.ownBlock] at hb
 ·simp only [Value.ownBlock,Option.some.injEq] at hb
  subst hb
  exact ⟨hB,lt_of_block hg⟩
theorem IP.congr (h : IP B v n I X w) (e : ∀ i,i < n→I i = I' i∧X i = X' i) : IP B v n I' X' w:=⟨by rw [← pcells_congr e]; exact h.own⟩
theorem IP.one (h : IP B v n I X w) (x : Int) (y : ByteArray) (hb : n + 1 ≤ 100000) (hB : B ≤ w.heap.size) :
  ∃ a' c' w',(Builtin.append_ #[305,305] 305 #[v,.slice (some ⟨w.heap.size,0,none⟩) 1 1]).run Tryz.prog (w.alloc (.cells #[.int .i64 x,.string y] 309)) = .ok (.slice a' (n + 1) c') w'∧IP B (.slice a' (n + 1) c') (n + 1) (fun t => if t < n then I t else x) (fun t => if t < n then X t else y) w'∧(w.alloc (.cells #[.int .i64 x,.string y] 309)).grownBy w' v.ownBlock:=by
 have hal : Below w.heap.size w (w.alloc (.cells #[.int .i64 x,.string y] 309)):=below_alloc (Below.refl _ _) _
 have h':=h.keep hal
 obtain ⟨i0,hi,hz0,hz1,hz2⟩:=info_parts Tryz.infoPart
 obtain ⟨v',w',h1,h2,h3,_⟩:=run_append_own_at (P:=Tryz.prog) _ B 305 305 309 i0 (.agg #[.int .i64 0,.string ⟨#[]⟩]) 2 24 Tryz.underlying305 hi hz0 hz1 hz2 rfl (by decide) v n (pcells I X n) h'.own ⟨w.heap.size,0,none⟩ 1 1 [.int .i64 x,.string y] rfl (fun j u hj => by
   rw [Addr.add_mid,Nat.zero_add,cell_of_row _ _ _ _ _ _ (heap_alloc_new w _)]
   simpa using hj) (by simp [Value.oneCell']) (by unfold maxLen; omega) (by omega) (by simp; omega)
 have e : pcells I X n ++ [.int .i64 x,.string y] = pcells (fun t => if t < n then I t else x) (fun t => if t < n then X t else y) (n + 1):=by
  have e1 : pcells I X n = pcells (fun t => if t < n then I t else x) (fun t => if t < n then X t else y) n:=pcells_congr fun i hi => ⟨(if_pos hi).symm,(if_pos hi).symm⟩
  have e2 : (if n < n then I n else x) = x:=if_neg (by omega)
  have e3 : (if n < n then X n else y) = y:=if_neg (by omega)
  rw [pcells,← e1,e2,e3]
 have hI : IP B v' (n + 1) _ _ w':=⟨by rw [← e]; exact h2⟩
 obtain ⟨a',c',rfl⟩:=hI.shp
 exact ⟨a',c',w',h1,hI,h3⟩
end
end Go.Proofs.YtagijldedngcoaaGreatDoor.Zq

namespace Go.Proofs.YtagijldedngcoaaGreatDoor.Zq
open Go.RowKit Go.Lib Go.Maps

def fu (k : Nat) (I : Nat→Int) : Nat→List Nat
 | 0 => []
 | j + 1 => if (fu k I j).length = k ∨ I j ∈ (fu k I j).map I then fu k I j else fu k I j ++ [j]
theorem fu_skip {k j : Nat} {I : Nat→Int} (h : (fu k I j).length = k ∨ I j ∈ (fu k I j).map I) : fu k I (j + 1) = fu k I j:=by rw [fu,if_pos h]
theorem fu_take {k j : Nat} {I : Nat→Int} (h1 : (fu k I j).length ≠ k) (h2 : I j ∉ (fu k I j).map I) : fu k I (j + 1) = fu k I j ++ [j]:=by rw [fu,if_neg (by simp only [not_or]; exact ⟨h1,h2⟩)]
theorem fu_le (k : Nat) (I : Nat→Int) : ∀ j,(fu k I j).length ≤ k
 | 0 => Nat.zero_le _
 | j + 1 => by
  rw [fu]
  split
  ·exact fu_le k I j
  ·rename_i h
   rw [not_or] at h
   have:=fu_le k I j
   simp
   omega
theorem fu_full {k j : Nat} {I : Nat→Int} (h : (fu k I j).length = k) : ∀ d,fu k I (j + d) = fu k I j
 | 0 => rfl
 | d + 1 => by
  have e:=fu_full h d
  rw [← Nat.add_assoc,fu_skip (.inl (by rw [e]; exact h)),e]
theorem fu_lt {k : Nat} {I : Nat→Int} : ∀ {j p},p ∈ fu k I j→p < j
 | 0,p,h => by simp [fu] at h
 | j + 1,p,h => by
  rw [fu] at h
  split at h
  ·have:=fu_lt h; omega
  ·rw [List.mem_append] at h
   rcases h with h | h
   ·have:=fu_lt h; omega
   ·simp at h; omega
def Tells (f : Int→Option Nat) (I : Nat→Int) (L : List Nat) : Prop:=∀ x i,f x = some i ↔ i < L.length∧I (L.getD i 0) = x
theorem Tells.none_iff {f : Int→Option Nat} {I : Nat→Int} {L : List Nat} (h : Tells f I L) (x : Int) : f x = none ↔ x ∉ L.map I:=by
 constructor
 ·intro hn hm
  obtain ⟨p,hp,rfl⟩:=List.mem_map.1 hm
  obtain ⟨i,hi,rfl⟩:=List.getElem_of_mem hp
  have:=(h (I L[i]) i).2 ⟨hi,by rw [List.getD_eq_getElem?_getD,List.getElem?_eq_getElem hi]; rfl⟩
  rw [hn] at this
  cases this
 ·intro hm
  cases hf : f x with
  | none => rfl
  | some i =>
   obtain ⟨hi,e⟩:=(h x i).1 hf
   exfalso
   apply hm
   rw [List.getD_eq_getElem?_getD,List.getElem?_eq_getElem hi] at e
   exact List.mem_map.2 ⟨L[i],List.getElem_mem hi,e⟩
theorem Tells.add {f : Int→Option Nat} {I : Nat→Int} {L : List Nat} (h : Tells f I L) {j : Nat} (hj : I j ∉ L.map I) : Tells (fun y => if y = I j then some L.length else f y) I (L ++ [j]):=by
 intro x i
 have hn:=(h.none_iff (I j)).2 hj
 have hat : ∀ t,t < L.length→(L ++ [j]).getD t 0 = L.getD t 0:=fun t ht => by
  rw [List.getD_eq_getElem?_getD,List.getD_eq_getElem?_getD,List.getElem?_append_left ht]
 have hlast : (L ++ [j]).getD L.length 0 = j:=by
  rw [List.getD_eq_getElem?_getD,List.getElem?_append_right (Nat.le_refl _),Nat.sub_self]; rfl
 by_cases e : x = I j
 ·subst e
  simp only [if_true,Option.some.injEq]
  constructor
  ·rintro rfl
   exact ⟨by simp,by rw [hlast]⟩
  ·rintro ⟨h1,h2⟩
   have h3 : i < L.length + 1:=by simpa using h1
   by_cases e2 : i < L.length
   ·rw [hat i e2] at h2
    have:=(h (I j) i).2 ⟨e2,h2⟩
    rw [hn] at this
    cases this
   ·omega
 ·simp only [if_neg e]
  rw [h x i]
  constructor
  ·rintro ⟨h1,h2⟩
   exact ⟨by simp; omega,by rw [hat i h1]; exact h2⟩
  ·rintro ⟨h1,h2⟩
   have h3 : i < L.length + 1:=by simpa using h1
   by_cases e2 : i < L.length
   ·rw [hat i e2] at h2; exact ⟨e2,h2⟩
   ·obtain rfl : i = L.length:=by omega
    rw [hlast] at h2
    exact absurd h2.symm e

structure FW (w wr : World) (v : Value) (b : Nat) (I : Nat→Int) (X : Nat→ByteArray) (L : List Nat) : Prop where
 ip : IP w.heap.size v L.length (fun t => I (L.getD t 0)) (fun t => X (L.getD t 0)) wr
 mp : ∃ f,MP wr b L.length f∧Tells f I L
 hb : w.heap.size ≤ b
 be : Below w.heap.size w wr
end Go.Proofs.YtagijldedngcoaaGreatDoor.Zq

namespace Go.Proofs.YtagijldedngcoaaGreatDoor.Zq
open Go.RowKit Go.Lib Go.Maps

section
variable {w wr w' : World} {v : Value} {b : Nat} {I : Nat→Int} {X : Nat→ByteArray} {L : List Nat}
theorem FW.skip (h : FW w wr v b I X L) (hb : Below wr.heap.size wr w') : FW w w' v b I X L:=by
 obtain ⟨f,h1,h2⟩:=h.mp
 exact ⟨h.ip.keep hb,⟨f,h1.below hb,h2⟩,h.hb,below_step h.be hb⟩
theorem FW.seen (h : FW w wr v b I X L) {x : Int} (hx0 : 0 ≤ x) (hx : x ≤ 1000) :
  ∃ z : Nat,(Instr.lookup 362 (.map (some b)) (.int .i64 x) true).run Tryz.prog wr = .ok (.tuple #[.int .i64 (z : Int),.bool (decide (x ∈ L.map I))]) wr:=by
 obtain ⟨f,h1,h2⟩:=h.mp
 refine ⟨(f x).getD 0,(h1.look (by omega) (by omega)).trans ?_⟩
 have : (f x).isSome = decide (x ∈ L.map I):=by
  have:=h2.none_iff x
  cases hf : f x with
  | none => rw [hf] at this; simp only [true_iff] at this; rw [decide_eq_false this]; rfl
  | some i =>
   rw [hf] at this
   simp only [reduceCtorEq,false_iff,Classical.not_not] at this
   rw [decide_eq_true this]; rfl
 rw [this]
theorem FW.take (h : FW w wr v b I X L) {j : Nat} (hj : I j ∉ L.map I) (hl : L.length ≤ 1000) (hx0 : 0 ≤ I j) (hx : I j ≤ 1000) :
  ∃ w1,(Instr.mapUpdate 362 (.map (some b)) (.int .i64 (I j)) (.int .i64 (L.length : Int))).run Tryz.prog wr = .ok () w1∧(∀ p x,p < wr.heap.size→p ≠ b→wr.heap[p]? = some x→w1.heap[p]? = some x)∧wr.heap.size ≤ w1.heap.size∧Below w.heap.size w w1 ∧
   ∃ a c w2,(Builtin.append_ #[305,305] 305 #[v,.slice (some ⟨w1.heap.size,0,none⟩) 1 1]).run Tryz.prog (w1.alloc (.cells #[.int .i64 (I j),.string (X j)] 309)) = .ok (.slice a (L.length + 1) c) w2∧FW w w2 (.slice a (L.length + 1) c) b I X (L ++ [j]):=by
 obtain ⟨f,h1,h2⟩:=h.mp
 obtain ⟨w1,hr,hM,hg⟩:=h1.update (by omega) (x:=I j) (by omega) (by omega) (i:=L.length) (by omega)
 have hne:=h.ip.ne_map h1
 have hI:=h.ip.grown hg hne
 have hsz : w.heap.size ≤ w1.heap.size:=Nat.le_trans h.be.size hg.size
 have hB1 : Below w.heap.size w w1:=h.be.grown hg h.be.size (fun k hk => by cases hk; exact h.hb)
 obtain ⟨a,c,w2,h3,h4,h5⟩:=hI.one (I j) (X j) (by omega) hsz
 refine ⟨w1,hr,fun p x hp hpb hx => (hg.block p hp (by simpa using hpb)).trans hx,hg.size,hB1,a,c,w2,h3,?_⟩
 have hlen : (L ++ [j]).length = L.length + 1:=by simp
 have hat : ∀ t,t < L.length→(L ++ [j]).getD t 0 = L.getD t 0:=fun t ht => by
  rw [List.getD_eq_getElem?_getD,List.getD_eq_getElem?_getD,List.getElem?_append_left ht]
 have hlast : (L ++ [j]).getD L.length 0 = j:=by
  rw [List.getD_eq_getElem?_getD,List.getElem?_append_right (Nat.le_refl _),Nat.sub_self]; rfl
 have hal : Below w1.heap.size w1 (w1.alloc (.cells #[.int .i64 (I j),.string (X j)] 309)):=below_alloc (Below.refl _ _) _
 have hMp:=hM.below hal
 refine ⟨?_,⟨_,?_,h2.add hj⟩,h.hb,?_⟩
 ·rw [hlen]
  exact h4.congr fun i hi => by
   by_cases e : i < L.length
   ·rw [if_pos e,if_pos e,hat i e]; exact ⟨rfl,rfl⟩
   ·obtain rfl : i = L.length:=by omega
    rw [if_neg e,if_neg e,hlast]; exact ⟨rfl,rfl⟩
 ·rw [hlen]
  exact hMp.kept h5 (fun e => (hI.keep hal).ne_map hMp e.symm)
 ·exact (hB1.trans (hal.mono hsz)).grown h5 (by simp; omega) (fun k hk => ((hI.keep hal).lt k hk).1)
end

theorem first_any {w : World} {b k n : Nat} {v : Value} {I : Nat→Int} {X : Nat→ByteArray} (hc : w.cell? ⟨b,0,none⟩ = some (.int .i64 k)) (hb : b < w.heap.size) (hk : k ≤ 255) (hn : n ≤ maxLen)
  (hP : PX w v n I X) (hI : ∀ i,i < n→0 ≤ I i∧I i ≤ 1000) :
  Calls Tryz.prog 276 #[.pointer (some ⟨b,0,none⟩),v] w fun e w' => ∃ v' q,e = .returned (.tuple #[v',.map (some q)])∧FW w w' v' q I X (fu k I n):=by
 obtain ⟨a,c,rfl,hP⟩:=hP
 have hn' : n ≤ 9223372036854775807:=hn
 have HC:=hide hc
 have HP:=hide hP
 have HI:=hide hI
 clear hc hP hI
 have HM : Hid (FW w (w.alloc (.map #[] 0)) (.slice none 0 0) w.heap.size I X []):=⟨IP.nil _ _ _ _,⟨_,MP.made w,fun x i => by simp⟩,Nat.le_refl _,below_alloc (Below.refl _ _) _⟩
 go_enter Tryz.func276,Tryz.ntmps276
 have hmm : (Instr.makeMap 362 none).run Tryz.prog w = .ok (.map (some w.heap.size)) (w.alloc (.map #[] 0)):=rfl
 go_wp2
 clear hmm
 obtain ⟨W,hW⟩ : ∃ W,W = w.alloc (.map #[] 0):=⟨_,rfl⟩
 rw [← hW] at HM ⊢
 clear hW
 go_loopw [6,15] (fun s z wr => ∃ j : Nat,j ≤ n∧z = .int .i64 j∧FW w wr s w.heap.size I X (fu k I j)) (fun _ z _ => n - (RowKit.intOf z).toNat)
 case atStart => exact ⟨0,Nat.zero_le _,rfl,HM.out⟩
 case round =>
  obtain ⟨j,hj,rfl,hF⟩:=hrel
  clear HM
  have HF:=hide hF
  obtain ⟨a2,c2,rfl⟩:=hF.ip.shp
  have hle:=fu_le k I j
  by_cases hlt : j < n
  ·obtain ⟨bl,off,rfl,hbl,hcell⟩:=HP.out.resolve_left (by omega)
   have p1:=(hF.be.cell (p:=⟨bl,off + j * 2,none⟩) hbl).trans (hcell j hlt).1
   have p2:=(hF.be.cell (p:=⟨bl,off + j * 2 + 1,none⟩) hbl).trans (hcell j hlt).2
   have b1 : (j : Int) < (n : Int):=by omega
   have b0 : (0 : Int) ≤ (j : Int):=by omega
   have hI:=HI.out j hlt
   obtain ⟨l,hl⟩ : ∃ l,l = (fu k I j).length:=⟨_,rfl⟩
   rw [← hl] at hle ⊢
   have HL:=hide hl
   have HQ : Hid (w.heap.size < wr.heap.size):=by obtain ⟨f,h1,_⟩:=HF.out.mp; exact h1.lt
   clear hF hcell hl
   go_upto_region 6 with fail
   obtain ⟨V,hV⟩ : ∃ V,V = wr.alloc (.cells #[.int .i64 (I j),.string (X j)] 309):=⟨_,rfl⟩
   have hbV : Below wr.heap.size wr V:=by rw [hV]; exact below_alloc (Below.refl _ _) _
   have HFV:=hide (HF.out.skip hbV)
   have hbk : V.heap[wr.heap.size]? = some (.cells #[.int .i64 (I j),.string (X j)] 309):=by rw [hV]; exact heap_alloc_new wr _
   have HBK:=hide hbk
   have q0 : V.cell? ⟨b,0,none⟩ = some (.int .i64 k):=(HFV.out.be.cell (p:=⟨b,0,none⟩) hb).trans HC.out
   have q1 : V.cell? ⟨wr.heap.size,0,none⟩ = some (.int .i64 (I j)):=by rw [cell_of_row V _ 0 _ _ _ hbk]; rfl
   rw [← hV]
   clear hV hbV hbk HF p1 p2
   by_cases hfull : l = k
   ·have b2 : (l : Int) = (k : Int):=by omega
    have HE : Hid (FW w V (.slice a2 l c2) w.heap.size I X (fu k I n)):=by
     have e : fu k I n = fu k I j:=by
      have:=fu_full (I:=I) (j:=j) (HL.out.symm.trans hfull) (n - j)
      rwa [show j + (n - j) = n by omega] at this
     show FW w V _ _ I X _
     rw [e,HL.out]
     exact HFV.out
    subst hfull
    clear HL
    go_wp2
    exact bodyPost_ret (v:=.tuple #[.slice a2 l c2,.map (some w.heap.size)]) (by simp [results,Tryz.results276,go_sem]) rfl ⟨_,_,rfl,HE.out⟩
   ·have b2 : ¬ ((l : Int) = (k : Int)):=by omega
    obtain ⟨z,hlook⟩:=HFV.out.seen hI.1 hI.2
    by_cases hsee : I j ∈ (fu k I j).map I
    ·rw [decide_eq_true hsee] at hlook
     have HE : Hid (FW w V (.slice a2 l c2) w.heap.size I X (fu k I (j + 1))):=by
      show FW w V _ _ I X _
      rw [fu_skip (.inr hsee),HL.out]
      exact HFV.out
     clear HL HFV hsee
     go_wp2
     exact ⟨⟨j + 1,by omega,by go_num,HE.out⟩,by simp [RowKit.intOf]; omega⟩
    ·rw [decide_eq_false hsee] at hlook
     obtain ⟨w1,hup,hold,hsz,hb1,a3,c3,w2,hap,hF2⟩:=HFV.out.take hsee (by rw [← HL.out]; omega) hI.1 hI.2
     rw [← fu_take (by rw [← HL.out]; exact hfull) hsee] at hF2
     rw [← HL.out] at hup hap hF2
     have HE:=hide hF2
     have hne : wr.heap.size ≠ w.heap.size:=by
      have:=HQ.out
      omega
     have hbk1:=hold wr.heap.size _ (lt_of_block HBK.out) hne HBK.out
     have r0 : w1.cell? ⟨wr.heap.size,0,none⟩ = some (.int .i64 (I j)):=by rw [cell_of_row w1 _ 0 _ _ _ hbk1]; rfl
     have r1 : w1.cell? ⟨wr.heap.size,1,none⟩ = some (.string (X j)):=by rw [cell_of_row w1 _ 1 _ _ _ hbk1]; rfl
     clear hF2 hold hb1 hne hbk1 HFV HL HBK hsee hsz
     go_wp2_with (at_builtin; refine Lib.wpList_append_run _ rfl _ _ _ _ rfl _ _ rfl rfl _ _ hap ?_)
     exact ⟨⟨j + 1,by omega,by go_num,HE.out⟩,by simp [RowKit.intOf]; omega⟩
  ·obtain rfl : j = n:=by omega
   clear hF
   go_wp2
   exact bodyPost_ret (v:=.tuple #[.slice a2 (fu k I j).length c2,.map (some w.heap.size)]) (by simp [results,Tryz.results276,go_sem]) rfl ⟨_,_,rfl,HF.out⟩
end Go.Proofs.YtagijldedngcoaaGreatDoor.Zq

namespace Go.Proofs.YtagijldedngcoaaGreatDoor.Zq
open Go.RowKit Go.Lib Go.Maps

structure Gs (p : Nat→Prop) (w w' : World) : Prop where
 os : w'.os = w.os
 tape : w'.tape = w.tape
 output : w'.output = w.output
 size : w.heap.size ≤ w'.heap.size
 block : ∀ i,i < w.heap.size→¬ p i→w'.heap[i]? = w.heap[i]?
section
variable {p : Nat→Prop} {w w1 w' : World}
theorem Gs.refl (p : Nat→Prop) (w : World) : Gs p w w:=⟨rfl,rfl,rfl,Nat.le_refl _,fun _ _ _ => rfl⟩
theorem Gs.trans (h : Gs p w w1) (k : Gs p w1 w') : Gs p w w' :=
 ⟨k.os.trans h.os,k.tape.trans h.tape,k.output.trans h.output,Nat.le_trans h.size k.size,fun i hi hp => (k.block i (Nat.lt_of_lt_of_le hi h.size) hp).trans (h.block i hi hp)⟩
theorem Gs.gb {b : Nat} (h : Gs p w w1) (k : w1.grownBy w' (some b)) (hb : p b ∨ w.heap.size ≤ b) : Gs p w w' :=
 ⟨k.os.trans h.os,k.tape.trans h.tape,k.output.trans h.output,Nat.le_trans h.size k.size,fun i hi hp => (k.block i (Nat.lt_of_lt_of_le hi h.size) (by
  intro e
  cases e
  rcases hb with hb | hb
  ·exact hp hb
  ·omega)).trans (h.block i hi hp)⟩
theorem Gs.bel (h : Gs p w w1) (k : Below w1.heap.size w1 w') : Gs p w w' :=
 ⟨k.os.trans h.os,k.tape.trans h.tape,k.output.trans h.output,Nat.le_trans h.size k.size,fun i hi hp => (k.block i (Nat.lt_of_lt_of_le hi h.size)).trans (h.block i hi hp)⟩
theorem Gs.of_below (p : Nat→Prop) (k : Below w.heap.size w w') : Gs p w w':=(Gs.refl p w).bel k
theorem Gs.below (h : Gs p w w') {B : Nat} {w0 : World} (h0 : Below B w0 w) (hB : B ≤ w.heap.size) (hp : ∀ i,p i→B ≤ i) : Below B w0 w' :=
 ⟨h.os.trans h0.os,h.tape.trans h0.tape,h.output.trans h0.output,Nat.le_trans h0.size h.size,fun i hi => (h.block i (by omega) (fun e => by have:=hp i e; omega)).trans (h0.block i hi)⟩
end
theorem KB.nef {w : World} {g n f : Nat} {G : Nat→K} (hG : KB w g n G) (hF : F w f) : g ≠ f:=by
 intro e
 subst e
 obtain ⟨Z,hG⟩:=hG
 rcases hF with h | ⟨_,_,h,_⟩ <;> (unfold FB at h; rw [hG] at h; simp at h)
theorem SB.nek {w : World} {q n g N : Nat} {X : Nat→ByteArray} {G : Nat→K} (h : SB w q n X) (hG : KB w g N G) : g ≠ q:=by
 intro e
 subst e
 obtain ⟨Z,x⟩:=hG
 unfold SB at h; rw [x] at h; simp at h
theorem SB.neb {w : World} {q n b : Nat} {X : Nat→ByteArray} {r c : Int} {v : Value} (h : SB w q n X) (hG : Bx w b r c v) : b ≠ q:=by
 intro e
 subst e
 unfold SB Bx at *; rw [hG] at h; simp at h
theorem PP.go1 {w w' : World} {b sb f1 f2 g k m : Nat} (h : PP w b sb f1 f2 g k m) (hS : SP w' sb f1) (hg : w.grownBy w' (some f1)) : PP w' b sb f1 f2 g k m:=by
 have n1 : b ≠ f1:=by
  intro e; subst e
  have x:=h.pl
  unfold PL at x
  rcases h.sp.fl with y | ⟨_,_,y,_⟩ <;> (unfold FB at y; rw [x] at y; simp at y)
 exact ⟨h.pl.of_block (hg.block b h.pl.lt (by simpa using n1)),hS,h.fl.other h.sp.fl hg h.ne.symm,h.kb.of_block (hg.block g h.kb.lt (by simpa using h.kb.nef h.sp.fl)),h.ne⟩

def pkd (k : Nat) (ρ : Nat→Nat) : Nat→K:=flat k (fun i j => mt k (flat k (cauM k)) (ρ i) j)
def bkd (k : Nat) (ρ : Nat→Nat) (X : Nat→ByteArray) (i : Nat) : ByteArray:=Fd.mixS k k X (fun t => (((flat k (invQ k (pkd k ρ)) (i * k + t)).v : Nat) : Int))

end Go.Proofs.YtagijldedngcoaaGreatDoor.Zq

namespace Go.Proofs.YtagijldedngcoaaGreatDoor.Zq
open Go.RowKit Go.Lib Go.Maps

theorem kn_v {r : Nat} (h : r < 256) : (kn r).v = r:=Nat.mod_eq_of_lt h
theorem put_two {w V : World} {nb tb k i r B : Nat} {G : Nat→K} {X : Nat→ByteArray} (hN : KB V nb k G) (hT : SB V tb k X) (hB : Below B w V) (h1 : B ≤ nb) (h2 : B ≤ tb) (hBV : B ≤ V.heap.size) (hi : i < k) (hr : r < 256) (x : ByteArray) :
  KB ((V.setCell ⟨nb,i,none⟩ (.int .i64 (r : Int))).setCell ⟨tb,i,none⟩ (.string x)).drew nb k (fun j => if j = i then kn r else G j) ∧
  SB ((V.setCell ⟨nb,i,none⟩ (.int .i64 (r : Int))).setCell ⟨tb,i,none⟩ (.string x)).drew tb k (fun j => if j = i then x else X j) ∧
  Below B w ((V.setCell ⟨nb,i,none⟩ (.int .i64 (r : Int))).setCell ⟨tb,i,none⟩ (.string x)).drew:=by
 have ne:=hT.nek hN
 have hs:=hN.set i hi (kn r)
 rw [kn_v hr] at hs
 have g1:=gb_set V nb i (.int .i64 (r : Int))
 have hT1:=hT.of_block (g1.block tb hT.lt (by simpa using ne.symm))
 have g2:=gb_set (V.setCell ⟨nb,i,none⟩ (.int .i64 (r : Int))) tb i (.string x)
 have hs2:=hs.of_block (g2.block nb hs.lt (by simpa using ne))
 exact ⟨hs2,hT1.set i x,(below_gb (below_gb hB g1 h1 hBV) g2 h2 (Nat.le_trans hBV g1.size)).drew⟩

structure IR (w wx : World) (b sb f1 f2 g k m q gb KK : Nat) (Q : Nat→K) (X P : Nat→ByteArray) : Prop where
 kb : KB wx gb KK Q
 le : w.heap.size ≤ gb
 tx : SB wx (w.heap.size + 1) k X
 pp : PP wx b sb f1 f2 g k m
 sb : SB wx q k P
 gs : Gs (fun j => j = f1 ∨ j = f2 ∨ j = q) w wx
theorem IR.bel {w wx w' : World} {b sb f1 f2 g k m q gb KK : Nat} {Q : Nat→K} {X P : Nat→ByteArray} (h : IR w wx b sb f1 f2 g k m q gb KK Q X P) (hb : Below wx.heap.size wx w') : IR w w' b sb f1 f2 g k m q gb KK Q X P :=
 ⟨h.kb.below hb (Nat.le_refl _),h.le,h.tx.below hb (Nat.le_refl _),h.pp.below hb,h.sb.below hb (Nat.le_refl _),h.gs.bel hb⟩
theorem IR.box {w wx w' : World} {b sb f1 f2 g k m q gb KK bx : Nat} {Q : Nat→K} {X P : Nat→ByteArray} {r c : Int} {v : Value} (h : IR w wx b sb f1 f2 g k m q gb KK Q X P) (hx : Bx wx bx r c v) (hw : w.heap.size ≤ bx) (hg : wx.grownBy w' (some bx)) : IR w w' b sb f1 f2 g k m q gb KK Q X P:=by
 have n1:=hx.ne h.kb
 have n2:=hx.ne h.pp.kb
 have n3 : b ≠ bx:=by
  intro e; subst e
  have x:=h.pp.pl
  unfold PL at x; unfold Bx at hx; rw [x] at hx; simp at hx
 unfold Bx at hx
 have hx':=hx
 refine ⟨h.kb.of_block (hg.block gb h.kb.lt (by simpa using n1.symm)),h.le,h.tx.of_block (hg.block _ h.tx.lt (by simpa using (h.tx.neb (b:=bx) hx').symm)),?_,h.sb.of_block (hg.block _ h.sb.lt (by simpa using (h.sb.neb (b:=bx) hx').symm)),h.gs.gb hg (.inr hw)⟩
 exact ⟨h.pp.pl.of_block (hg.block b h.pp.pl.lt (by simpa using n3)),h.pp.sp.set hx (by decide) (by decide) (by decide) hg,h.pp.fl.set hx (by decide) (by decide) hg,h.pp.kb.of_block (hg.block g h.pp.kb.lt (by simpa using n2.symm)),h.pp.ne⟩
theorem IR.mixed {w wx w' : World} {b sb f1 f2 g k m q gb KK : Nat} {Q : Nat→K} {X P : Nat→ByteArray} (h : IR w wx b sb f1 f2 g k m q gb KK Q X P) (hF : F w' f2) (hg : wx.grownBy w' (some f2)) : IR w w' b sb f1 f2 g k m q gb KK Q X P :=
 ⟨h.kb.of_block (hg.block gb h.kb.lt (by simpa using h.kb.nef h.pp.fl)),h.le,h.tx.gof h.pp.fl hg,h.pp.go hF hg,h.sb.gof h.pp.fl hg,h.gs.gb hg (.inl (.inr (.inl rfl)))⟩
theorem IR.put {w wx : World} {b sb f1 f2 g k m q gb KK : Nat} {Q : Nat→K} {X P : Nat→ByteArray} (h : IR w wx b sb f1 f2 g k m q gb KK Q X P) (hq : q < w.heap.size) (t : Nat) (x : ByteArray) : IR w (wx.setCell ⟨q,t,none⟩ (.string x)) b sb f1 f2 g k m q gb KK Q X (fun s => if s = t then x else P s):=by
 have hg:=gb_set wx q t (.string x)
 exact ⟨h.kb.of_block (hg.block gb h.kb.lt (by simpa using h.sb.nek h.kb)),h.le,h.tx.of_block (hg.block _ h.tx.lt (by simp; omega)),h.pp.put h.sb hg,h.sb.set t x,h.gs.gb hg (.inl (.inr (.inr rfl)))⟩
theorem SB.not_int {w : World} {q n bl o : Nat} {X : Nat→ByteArray} {z : Int} (h : SB w q n X) (hc : w.cell? ⟨bl,o,none⟩ = some (.int .i64 z)) : bl ≠ q:=by
 intro e
 subst e
 rw [cell_of_row w bl o _ _ _ h,List.getElem?_toArray] at hc
 by_cases ho : o < n
 ·rw [Fd.textsOf_get ho] at hc; cases hc
 ·rw [List.getElem?_eq_none (by rw [Fd.textsOf_length]; omega)] at hc; cases hc
theorem inv_step {w W : World} {b sb f1 f2 g k m q gp : Nat} {ρ : Nat→Nat} {X P : Nat→ByteArray} (k1 : 1 ≤ k) (km : k + m ≤ 255) (hρ : ∀ t,t < k→ρ t < k + m) (hi : ∀ s t,s < k→t < k→ρ s = ρ t→s = t)
  (h : IR w W b sb f1 f2 g k m q gp (k * k) (pkd k ρ) X P) :
  Calls Tryz.prog 313 #[.pointer (some ⟨sb,0,none⟩),.agg #[.int .i64 k,.int .i64 k,.slice (some ⟨gp,0,none⟩) (k * k) (k * k)]] W fun e w' =>
   ∃ gb,e = .returned (.tuple #[.agg #[.int .i64 k,.int .i64 k,.slice (some ⟨gb,0,none⟩) (k * k) (k * k)],.int .i64 0])∧IR w w' b sb f1 f2 g k m q gb (k * k) (flat k (invQ k (pkd k ρ))) X P∧W.heap.size ≤ w'.heap.size∧∀ bx r c v,Bx W bx r c v→Bx w' bx r c v:=by
 have hfull : (redu k (wideM k (pkd k ρ)) k).2 = k:=picked_full k m km ρ hρ hi _ (fun t _ => rfl)
 refine (inverse_any (A:=pkd k ρ) h.pp.sp k1 (by omega) (h.kb.nx (Nat.le_refl _) (h.kb.nef h.pp.sp.fl))).mono ?_
 rintro e w' ⟨⟨_,gb,rfl,hG,hgb⟩ | ⟨hbad,_⟩,hS,hg⟩
 ·refine ⟨gb,rfl,⟨hG,Nat.le_trans h.gs.size hgb,h.tx.gof h.pp.sp.fl hg,h.pp.go1 hS hg,h.sb.gof h.pp.sp.fl hg,h.gs.gb hg (.inl (.inl rfl))⟩,hg.size,fun bx r c v hx => hx.gof h.pp.sp.fl hg⟩
 ·omega

theorem back_any {w : World} {b sb f1 f2 g k m : Nat} (h : PP w b sb f1 f2 g k m) (k1 : 1 ≤ k) (km : k + m ≤ 255) {q : Nat} {P : Nat→ByteArray} (hS : SB w q k P)
  {vl : Value} {ln : Nat} {l : Nat→Nat} (hL : Fd.NX w vl ln (fun t => ((l t : Nat) : Int))) (hln : ln ≤ 255) (hl : ∀ t,t < ln→l t < k)
  {vf : Value} {ρ : Nat→Nat} {X : Nat→ByteArray} (hF : PX w vf k (fun t => ((ρ t : Nat) : Int)) X) (hρ : ∀ t,t < k→ρ t < k + m) (hi : ∀ s t,s < k→t < k→ρ s = ρ t→s = t) (hX : ∀ t,t < k→(X t).size ≤ 65536) :
  Calls Tryz.prog 301 #[.pointer (some ⟨b,0,none⟩),.slice (some ⟨q,0,none⟩) k k,vl,vf] w fun e w' => e = .returned (.tuple #[]) ∧
   SB w' q k (fun i => if ∃ t,t < ln∧l t = i then bkd k ρ X i else P i)∧PP w' b sb f1 f2 g k m∧Gs (fun i => i = f1 ∨ i = f2 ∨ i = q) w w':=by
 obtain ⟨af,cf,rfl,hF⟩:=hF
 obtain ⟨al,cl,rfl,hL⟩:=hL
 obtain ⟨bf,of,rfl,hbf,hcf⟩:=hF.resolve_left (by omega)
 have HP:=hide h
 have HS:=hide hS
 have HL:=hide hL
 have HC:=hide hcf
 have HR:=hide (And.intro hρ (And.intro hi (And.intro hX hl)))
 have HK:=hide (And.intro k1 km)
 have hk : k ≤ 255:=by omega
 clear h hS hL hcf hρ hi hX hl hF
 have c0:=HP.out.pl.cell0
 have hmk : ∀ w : World,_:=fun w => run_make_row' (P:=Tryz.prog) 44 9 (.string ⟨#[]⟩) 16 Tryz.underlying44 Tryz.infoS rfl .i64 .i64 k (by omega) (by omega) w
 have hmi : ∀ w : World,_:=fun w => run_make_row' (P:=Tryz.prog) 162 3 (.int .i64 0) 8 Tryz.underlying162 Tryz.info3 rfl .i64 .i64 k (by omega) (by omega) w
 have c0' : (w.alloc (.cells (madeCells #[.int .i64 0] k) 3)).cell? ⟨b,0,none⟩ = some (.int .i64 k):=((below_alloc (Below.refl _ _) _).cell (p:=⟨b,0,none⟩) HP.out.pl.lt).trans c0
 go_enter Tryz.func301,Tryz.ntmps301
 go_wp2
 obtain ⟨W,hW⟩ : ∃ W,W = (w.alloc (.cells (madeCells #[.int .i64 0] k) 3)).alloc (.cells (madeCells #[.string ⟨#[]⟩] k) 9):=⟨_,rfl⟩
 have HN0 : Hid (KB W w.heap.size k (fun _ => 0)):=by rw [hW]; exact KB.alloc ⟨[],by rw [made_kcells]; exact heap_alloc_new w _⟩ _
 have HT0 : Hid (SB W (w.heap.size + 1) k (fun _ => ⟨#[]⟩)):=by
  have:=SB.made (w.alloc (.cells (madeCells #[.int .i64 0] k) 3)) k
  rw [hW]
  refine hide ?_
  simpa using this
 have HB0 : Hid (Below w.heap.size w W):=by rw [hW]; exact below_alloc (below_alloc (Below.refl _ _) _) _
 have HW2 : Hid (w.heap.size + 1 < W.heap.size):=HT0.out.lt
 rw [← hW]
 clear hW hmk hmi c0'
 go_loopw [30] (fun z wr => ∃ i : Nat,i ≤ k∧z = .int .i64 i∧KB wr w.heap.size k (fun j => if j < i then kn (ρ j) else 0)∧SB wr (w.heap.size + 1) k (fun j => if j < i then X j else ⟨#[]⟩)∧Below w.heap.size w wr) (fun z _ => k - (RowKit.intOf z).toNat)
 case atStart => exact ⟨0,Nat.zero_le _,rfl,HN0.out.congr (fun i hi => by simp),HT0.out.congr (fun i hi => by simp),HB0.out⟩
 case round =>
  obtain ⟨i,hi,rfl,hN,hT,hB⟩:=hrel
  clear HN0 HT0 HB0 HW2
  by_cases hlt : i < k
  ·have p1:=(hB.cell (p:=⟨bf,of + i * 2,none⟩) hbf).trans (HC.out i hlt).1
   have p2:=(hB.cell (p:=⟨bf,of + i * 2 + 1,none⟩) hbf).trans (HC.out i hlt).2
   have b1 : (i : Int) < (k : Int):=by omega
   have b0 : (0 : Int) ≤ (i : Int):=by omega
   have HN:=hide hN
   have HT:=hide hT
   have HB:=hide hB
   clear hN hT hB c0
   go_upto_region 5 with fail
   obtain ⟨V,hV⟩ : ∃ V,V = wr.alloc (.cells #[.int .i64 ((ρ i : Nat) : Int),.string (X i)] 309):=⟨_,rfl⟩
   have hbV : Below wr.heap.size wr V:=by rw [hV]; exact below_alloc (Below.refl _ _) _
   have hbk : V.heap[wr.heap.size]? = some (.cells #[.int .i64 ((ρ i : Nat) : Int),.string (X i)] 309):=by rw [hV]; exact heap_alloc_new wr _
   have q0 : V.cell? ⟨wr.heap.size,0,none⟩ = some (.int .i64 ((ρ i : Nat) : Int)):=by rw [cell_of_row V _ 0 _ _ _ hbk]; rfl
   have q1 : V.cell? ⟨wr.heap.size,1,none⟩ = some (.string (X i)):=by rw [cell_of_row V _ 1 _ _ _ hbk]; rfl
   have HNV:=hide (HN.out.below hbV (Nat.le_refl _))
   have HTV:=hide (HT.out.below hbV (Nat.le_refl _))
   have HBV:=hide (below_step HB.out hbV)
   have r0:=HNV.out.cell i hlt
   have r1:=HNV.out.free i
   have r2:=HTV.out.cell i hlt
   have r3:=HTV.out.free i
   have n1 : w.heap.size ≠ w.heap.size + 1:=by omega
   have n2 : w.heap.size + 1 ≠ w.heap.size:=by omega
   have n3 : wr.heap.size ≠ w.heap.size:=by have:=HN.out.lt; omega
   have n4 : wr.heap.size ≠ w.heap.size + 1:=by have:=HT.out.lt; omega
   rw [← hV]
   have HU:=hide (put_two (i:=i) (r:=ρ i) HNV.out HTV.out HBV.out (Nat.le_refl _) (Nat.le_succ _) HBV.out.size hlt (by have:=HR.out.1 i hlt; have:=HK.out; omega) (X i))
   clear hV hbV hbk HN HT HB p1 p2 HNV HTV HBV
   go_region
   have hst : ∀ {α : Type} (f : Nat→α) (z : α) (j : Nat),(if j = i then f i else if j < i then f j else z) = if j < i + 1 then f j else z:=fun f z j => by
    by_cases e1 : j = i
    ·subst e1; rw [if_pos rfl,if_pos (by omega)]
    ·rw [if_neg e1]
     by_cases e2 : j < i
     ·rw [if_pos e2,if_pos (by omega)]
     ·rw [if_neg e2,if_neg (by omega)]
   obtain ⟨u1,u2,u3⟩:=HU.out
   have HU1:=hide (u1.congr (f':=fun j => if j < i + 1 then kn (ρ j) else 0) (fun j _ => hst (fun j => kn (ρ j)) 0 j))
   have HU2:=hide (u2.congr (X':=fun j => if j < i + 1 then X j else ⟨#[]⟩) (fun j _ => hst X ⟨#[]⟩ j))
   have HU3:=hide u3
   clear HU u1 u2 u3 hst r0 r1 r2 r3 q0 q1
   go_wp2
   exact ⟨⟨i + 1,by omega,by go_num,HU1.out,HU2.out,HU3.out⟩,by simp [RowKit.intOf]; omega⟩
  ·obtain rfl : i = k:=by omega
   have HN:=hide (hN.congr (f':=fun j => kn (ρ j)) (fun j hj => if_pos hj))
   have HT:=hide (hT.congr (X':=X) (fun j hj => if_pos hj))
   have HB:=hide hB
   have hbl : Below w.heap.size w wr:=hB
   have HPr:=hide (HP.out.below hB)
   have d2:=HPr.out.pl.cell2
   have d3:=HPr.out.pl.cell3
   have d4:=HPr.out.pl.cell4
   have HA : Hid (NX wr wr.heap.size (.slice (some ⟨g,0,none⟩) ((i + m) * i) ((i + m) * i)) ((i + m) * i) (fun t => (((flat i (cauM i) t).v : Nat) : Int))):=HPr.out.kb.nx (Nat.le_refl _) (by have:=HPr.out.kb.lt; omega)
   have HQ : Hid (NX wr wr.heap.size (.slice (some ⟨w.heap.size,0,none⟩) i i) i (fun t => ((ρ t : Nat) : Int))):=⟨_,_,rfl,Nat.le_refl _,.inr ⟨w.heap.size,0,rfl,HN.out.lt,by have:=HN.out.lt; omega,fun t ht => by
    have:=HN.out.cell t ht
    rw [kn_v (by have:=HR.out.1 t ht; have:=HK.out; omega)] at this
    rw [Nat.zero_add]
    exact this⟩⟩
   have HPK:=hide (fun w0 : World => pick_ok (w:=wr) (f:=wr.heap.size) (f':=wr.heap.size) (r:=i + m) (c:=i) (k:=i) (va:=.slice (some ⟨g,0,none⟩) ((i + m) * i) ((i + m) * i)) (vr:=.slice (some ⟨w.heap.size,0,none⟩) i i) (A:=flat i (cauM i)) (ρ:=ρ) (by have:=HK.out; omega) HK.out.2 HK.out.1 (by omega) HK.out.1 (by omega) HA.out HQ.out HR.out.1)
   obtain ⟨n,hn⟩ : ∃ n,n = i + m:=⟨_,rfl⟩
   obtain ⟨N,hN⟩ : ∃ N,N = n * i:=⟨_,rfl⟩
   obtain ⟨KK,hKK⟩ : ∃ KK,KK = i * i:=⟨_,rfl⟩
   rw [← hn] at d2 d4 HPK
   rw [← hN] at d4 HPK
   rw [← hKK] at HPK
   have HE:=hide (And.intro hn (And.intro hN hKK))
   clear HA HQ hN hn hKK hT hB c0 hbl
   go_wp2_with fail
   refine (HPK.out wr).mono ?_
   rintro e w2 ⟨gp,rfl,hG,hgp,hb2⟩
   have HIR : Hid (IR w w2 b sb f1 f2 g i m q gp (i * i) (pkd i ρ) X P):=⟨by rw [← HE.out.2.2]; exact hG,Nat.le_trans HB.out.size hgp,HT.out.below hb2 (Nat.le_refl _),HPr.out.below hb2,HS.out.below (below_step HB.out hb2) (Nat.le_refl _),Gs.of_below _ (below_step HB.out hb2)⟩
   clear hG hgp hb2 HPr HPK HN HT HB d2 d3 d4
   go_upto_region 8 with fail
   obtain ⟨V,hV⟩ : ∃ V,V = w2.alloc (.cells #[.int .i64 i,.int .i64 i,.slice (some ⟨gp,0,none⟩) KK KK] 313):=⟨_,rfl⟩
   have hbV : Below w2.heap.size w2 V:=by rw [hV]; exact below_alloc (Below.refl _ _) _
   have hx : Bx V w2.heap.size i i (.slice (some ⟨gp,0,none⟩) KK KK):=by rw [hV]; exact Bx.new w2 _ _ _
   have HIV:=hide (HIR.out.bel hbV)
   rw [← hV]
   have HVs : Hid (w.heap.size ≤ V.heap.size):=HIV.out.gs.size
   have HX:=hide hx
   have HINV : Hid (∀ W,Below V.heap.size V W→Calls Tryz.prog 313 #[.pointer (some ⟨sb,0,none⟩),.agg #[.int .i64 i,.int .i64 i,.slice (some ⟨gp,0,none⟩) KK KK]] W fun e w' =>
     ∃ gb,e = .returned (.tuple #[.agg #[.int .i64 i,.int .i64 i,.slice (some ⟨gb,0,none⟩) KK KK],.int .i64 0])∧IR w w' b sb f1 f2 g i m q gb KK (flat i (invQ i (pkd i ρ))) X P∧W.heap.size ≤ w'.heap.size∧∀ bx r c v,Bx W bx r c v→Bx w' bx r c v):=by
    refine hide ?_
    rw [HE.out.2.2]
    exact fun W hb => inv_step HK.out.1 HK.out.2 HR.out.1 HR.out.2.1 (HIV.out.bel hb)
   have HCS : Hid (∀ w',Below V.heap.size V w'→w'.cell? ⟨b,5,none⟩ = some (.pointer (some ⟨sb,0,none⟩))∧w'.cell? ⟨w2.heap.size,0,none⟩ = some (.int .i64 i)∧w'.cell? ⟨w2.heap.size,1,none⟩ = some (.int .i64 i)∧w'.cell? ⟨w2.heap.size,2,none⟩ = some (.slice (some ⟨gp,0,none⟩) KK KK)) :=
    fun w' hb => ⟨(HIV.out.pp.below hb).pl.cell5,(HX.out.below hb (Nat.le_refl _)).cell0,(HX.out.below hb (Nat.le_refl _)).cell1,(HX.out.below hb (Nat.le_refl _)).cell2⟩
   have HB0 : Hid (Below V.heap.size V V.drew):=(Below.refl _ _).drew
   have HBA : Hid (∀ o,Below V.heap.size V (V.alloc o).drew):=fun o => (below_alloc (Below.refl _ _) o).drew
   have HSA : Hid (∀ wx gb,IR w wx b sb f1 f2 g i m q gb KK (flat i (invQ i (pkd i ρ))) X P→Bx wx w2.heap.size i i (.slice (some ⟨gp,0,none⟩) KK KK)→(wx.cell? ⟨b,5,none⟩ = some (.pointer (some ⟨sb,0,none⟩))∧wx.cell? ⟨w2.heap.size,0,none⟩ = some (.int .i64 i)∧wx.cell? ⟨w2.heap.size,1,none⟩ = some (.int .i64 i)∧wx.cell? ⟨w2.heap.size,2,none⟩ = some (.slice (some ⟨gp,0,none⟩) KK KK))) :=
    fun wx gb hI hx => ⟨hI.pp.pl.cell5,hx.cell0,hx.cell1,hx.cell2⟩
   have HXW : Hid (∀ W wx,Below V.heap.size V W→(∀ bx r c v,Bx W bx r c v→Bx wx bx r c v)→Bx wx w2.heap.size i i (.slice (some ⟨gp,0,none⟩) KK KK)):=fun W wx hb hbx => hbx _ _ _ _ (HX.out.below hb (Nat.le_refl _))
   have HVn : Hid (w2.heap.size ≠ V.heap.size):=by have:=HX.out.lt; refine hide ?_; omega
   clear hV hbV hx HIR
   go_cut [14] (fun z wx => ∃ bx gb,z = .pointer (some ⟨bx,0,none⟩)∧Bx wx bx i i (.slice (some ⟨gb,0,none⟩) KK KK)∧w.heap.size ≤ bx∧IR w wx b sb f1 f2 g i m q gb KK (flat i (invQ i (pkd i ρ))) X P)
   case first =>
    go_region_held_law (fun wx => wx.cell? ⟨b,5,none⟩ = some (.pointer (some ⟨sb,0,none⟩))∧wx.cell? ⟨w2.heap.size,0,none⟩ = some (.int .i64 i)∧wx.cell? ⟨w2.heap.size,1,none⟩ = some (.int .i64 i)∧wx.cell? ⟨w2.heap.size,2,none⟩ = some (.slice (some ⟨gp,0,none⟩) KK KK))
     (first | with_reducible exact HCS.out _ HB0.out | with_reducible exact HCS.out _ (HBA.out _) | with_reducible assumption | with_reducible exact sB _)
     (first
      | (go_at_call 313; refine (HINV.out V.drew HB0.out).mono ?_; rintro e wa ⟨gb,rfl,hIR,hsz,hbx⟩; have HI1:=hide hIR; have HSZ : Hid (V.heap.size ≤ wa.heap.size):=hsz; have sA:=HSA.out _ _ hIR (HXW.out _ _ HB0.out hbx); have sB:=fun o => HSA.out _ _ (hIR.bel (below_alloc (Below.refl _ _) o)) ((HXW.out _ _ HB0.out hbx).alloc o); clear hIR hbx hsz)
      | (go_at_call 313; refine (HINV.out _ (HBA.out _)).mono ?_; rintro e wa ⟨gb,rfl,hIR,hsz,hbx⟩; have hZ:=hbx _ _ _ _ (Bx.new V 0 0 (.slice none 0 0)); have hxx:=HXW.out _ _ (HBA.out _) hbx; have sA:=HSA.out _ _ hIR hxx; have z0:=hZ.cell0; have z1:=hZ.cell1; have z2:=hZ.cell2; have y0:=hZ.free 0; have y1:=hZ.free 1; have y2:=hZ.free 2
         have hput:=hZ.put (i : Int) (i : Int) (.slice (some ⟨gb,0,none⟩) KK KK); have HI2:=hide (hIR.box hZ HVs.out hput.2); have sC:=HSA.out _ _ HI2.out (hxx.of_block (hput.2.block w2.heap.size hxx.lt (by simpa using HVn.out))); have HZ:=hide hput.1; clear hIR hbx hZ hxx hput hsz))
    ·go_wp2
     go_meet
     case rel => exact ⟨_,_,rfl,Bx.new wa _ _ _,Nat.le_trans HVs.out HSZ.out,HI1.out.bel (below_alloc (Below.refl _ _) _)⟩
    ·go_wp2
     go_meet
     case rel => exact ⟨_,_,rfl,HZ.out,HVs.out,HI2.out⟩
   case rest =>
   clear HIV HX HINV HCS HB0 HBA HSA HXW HVn HVs
   obtain ⟨bx,gb,rfl,hbx,hwx,hIR⟩:=hcut
   have HX:=hide hbx
   have HI:=hide hIR
   have HWX:=hide hwx
   clear hbx hIR hwx
   go_wp2
   go_loopw [66] (fun z wy => ∃ j : Nat,j ≤ ln∧z = .int .i64 j∧Bx wy bx i i (.slice (some ⟨gb,0,none⟩) KK KK)∧IR w wy b sb f1 f2 g i m q gb KK (flat i (invQ i (pkd i ρ))) X (fun t => if ∃ s,s < j∧l s = t then bkd i ρ X t else P t)) (fun z _ => ln - (RowKit.intOf z).toNat)
   case atStart => exact ⟨0,Nat.zero_le _,rfl,HX.out,⟨HI.out.kb,HI.out.le,HI.out.tx,HI.out.pp,HI.out.sb.congr (fun t _ => (if_neg (by rintro ⟨s,hs,_⟩; omega)).symm),HI.out.gs⟩⟩
   case round =>
    rename_i wy _
    obtain ⟨j,hj,rfl,hBx,hIR⟩:=hrel
    clear HX HI
    have HX:=hide hBx
    have HI:=hide hIR
    clear hBx hIR
    by_cases hlt : j < ln
    ·obtain ⟨bl,ol,rfl,hbl,hcl⟩:=HL.out.resolve_left (by omega)
     have n1:=HP.out.sp.fl.not_here (hcl j hlt) (.inr ⟨_,rfl⟩)
     have n2:=HP.out.fl.not_here (hcl j hlt) (.inr ⟨_,rfl⟩)
     have n3:=HS.out.not_int (hcl j hlt)
     have p1:=(World.cell?_of_block (a:=⟨bl,ol + j,none⟩) (HI.out.gs.block bl hbl (by rintro (e | e | e) <;> contradiction))).trans (hcl j hlt)
     obtain ⟨t,ht⟩ : ∃ t,t = l j:=⟨_,rfl⟩
     have htk : t < i:=by rw [ht]; exact HR.out.2.2.2 j hlt
     rw [← ht] at p1
     have x0:=HX.out.cell0
     have x1:=HX.out.cell1
     have x2:=HX.out.cell2
     have b1 : (j : Int) < (ln : Int):=by omega
     have b0 : (0 : Int) ≤ (j : Int):=by omega
     have b2 : (t : Int) < (i : Int):=by omega
     have b3 : (0 : Int) ≤ (t : Int):=by omega
     have HT:=hide ht
     clear hcl n1 n2 n3 ht
     go_wp2_with fail
     refine (pmix_any (i:=t) (cap:=KK) HI.out.pp HK.out.1 hk (HI.out.tx.tx i) (fun _ => Nat.le_trans (HR.out.2.2.1 0 (by omega)) (by decide)) HI.out.kb (by omega) (by rw [HE.out.2.2]; exact Nat.mul_le_mul_right _ htk) (Nat.le_refl _) (by rw [HE.out.2.2]; exact Nat.le_trans (Nat.mul_le_mul hk hk) (by decide))).mono ?_
     rintro e w5 ⟨rfl,hF5,hg5⟩
     have hI5:=HI.out.mixed hF5 hg5
     have hX5:=HX.out.gof HI.out.pp.fl hg5
     have hI6:=hI5.put HS.out.lt t (bkd i ρ X t)
     have hX6:=hX5.of_block (w':=w5.setCell ⟨q,t,none⟩ (.string (bkd i ρ X t))) ((gb_set w5 q t _).block bx hX5.lt (by simpa using hI5.sb.neb hX5))
     have HX6:=hide hX6
     have HI6 : Hid (IR w (w5.setCell ⟨q,t,none⟩ (.string (bkd i ρ X t))) b sb f1 f2 g i m q gb KK (flat i (invQ i (pkd i ρ))) X (fun t => if ∃ s,s < j + 1∧l s = t then bkd i ρ X t else P t)):=⟨hI6.kb,hI6.le,hI6.tx,hI6.pp,hI6.sb.congr (fun u _ => by
      by_cases e : u = t
      ·subst e
       rw [if_pos rfl,if_pos ⟨j,by omega,HT.out.symm⟩]
      ·rw [if_neg e]
       by_cases e2 : ∃ s,s < j∧l s = u
       ·obtain ⟨s,h1,h2⟩:=e2
        rw [if_pos ⟨s,h1,h2⟩,if_pos ⟨s,by omega,h2⟩]
       ·rw [if_neg e2,if_neg (by
         rintro ⟨s,h1,h2⟩
         by_cases e3 : s = j
         ·subst e3; exact e (h2.symm.trans HT.out.symm)
         ·exact e2 ⟨s,by omega,h2⟩)]),hI6.gs⟩
     have q1:=hI5.sb.cell t htk
     have q2:=hI5.sb.free t
     have hbk : Fd.mixS i i X (fun t_1 => (((flat i (invQ i (pkd i ρ)) (t * i + t_1)).v : Nat) : Int)) = bkd i ρ X t:=rfl
     rw [hbk]
     generalize bkd i ρ X t = Y at HX6 HI6 ⊢
     clear hF5 hg5 hI5 hX5 hI6 hX6 HX HI hbk p1 x0 x1 x2 HT
     go_wp2
     exact ⟨⟨j + 1,by omega,by go_num,HX6.out,HI6.out⟩,by simp [RowKit.intOf]; omega⟩
    ·obtain rfl : j = ln:=by omega
     have HE9:=hide (And.intro HI.out.sb (And.intro HI.out.pp HI.out.gs))
     clear HX HI
     go_wp2
     go_end0
     exact ⟨rfl,HE9.out⟩
end Go.Proofs.YtagijldedngcoaaGreatDoor.Zq

namespace Go.Proofs.YtagijldedngcoaaGreatDoor.Zq
open Go.RowKit Go.Lib

theorem cell_one_new (w : World) (u : Value) (e : TypeId) : ∀ (j : Nat) (x : Value),[u][j]? = some x→(w.alloc (.cells #[u] e)).cell? ((⟨w.heap.size,0,none⟩ : Addr).add j) = some x:=by
 intro j x hj
 rw [Addr.add_mid,Nat.zero_add,cell_of_row _ _ _ _ _ _ (heap_alloc_new w _)]
 simpa using hj
/-! ### Lists of numbers -/
def ints (L : List Nat) : List Value:=L.map fun (x : Nat) => Value.int .i64 ((x : Nat) : Int)
theorem ints_length (L : List Nat) : (ints L).length = L.length:=by simp [ints]
theorem ints_one (L : List Nat) : ∀ u ∈ ints L,u.oneCell' = true:=by
 intro u hu
 obtain ⟨_,_,rfl⟩:=List.mem_map.1 hu
 rfl
structure IL (B : Nat) (v : Value) (L : List Nat) (w : World) : Prop where
 own : w.ownsRow B 3 1 v L.length (ints L)
theorem IL.nil (B : Nat) (w : World) : IL B (.slice none 0 0) [] w:=⟨World.ownsRow_nil w B 3 1⟩
theorem IL.cells {B : Nat} {L : List Nat} {w : World} {v : Value} (h : IL B v L w) : (v = .slice none 0 0∧L = []) ∨ ∃ g cap,v = .slice (some ⟨g,0,none⟩) L.length cap∧L.length ≤ cap∧B ≤ g∧g < w.heap.size∧∀ j,j < L.length→w.cell? ⟨g,j,none⟩ = some (.int .i64 ((L.getD j 0 : Nat) : Int)):=by
 obtain ⟨h1,⟨rfl,h2⟩ | ⟨g,cap,cur,rfl,hB,hg,hn,_,hs,ht⟩⟩:=h.own
 ·exact .inl ⟨rfl,List.eq_nil_of_length_eq_zero h2⟩
 ·refine .inr ⟨g,cap,rfl,hn,hB,lt_of_block hg,fun j hj => ?_⟩
  have e : (ints L)[j]? = some (.int .i64 ((L.getD j 0 : Nat) : Int)):=by
   rw [ints,List.getElem?_map,List.getD_eq_getElem?_getD,List.getElem?_eq_getElem hj]; rfl
  rw [← ht,Nat.mul_one,List.getElem?_take,if_pos hj] at e
  rw [cell_of_row w g j _ _ _ hg]
  simpa using e
theorem IL.fx {B : Nat} {L : List Nat} {w : World} {v : Value} (h : IL B v L w) : Fd.NX w v L.length (fun t => ((L.getD t 0 : Nat) : Int)):=by
 rcases h.cells with ⟨rfl,rfl⟩ | ⟨g,cap,rfl,hc,hB,hl,hcell⟩
 ·exact ⟨_,_,rfl,.inl rfl⟩
 ·exact ⟨_,cap,rfl,.inr ⟨g,0,rfl,hl,fun j hj => by rw [Nat.zero_add]; exact hcell j hj⟩⟩
theorem IL.keep {B : Nat} {L : List Nat} {w w' : World} {v : Value} (h : IL B v L w) (hb : Below w.heap.size w w') : IL B v L w':=by
 refine ⟨h.own.1,?_⟩
 rcases h.own.2 with h2 | ⟨g,cap,cur,e,hB,hg,r⟩
 ·exact .inl h2
 ·exact .inr ⟨g,cap,cur,e,hB,(hb.block g (lt_of_block hg)).trans hg,r⟩
theorem IL.apart {B : Nat} {L : List Nat} {w w' : World} {v : Value} {row : Option Nat} (h : IL B v L w) (hg : w.grownBy w' row) (ha : ∀ b,v.ownBlock = some b→row ≠ some b) : IL B v L w':=by
 refine ⟨h.own.1,?_⟩
 rcases h.own.2 with h2 | ⟨g,cap,cur,e,hB,hgg,r⟩
 ·exact .inl h2
 ·exact .inr ⟨g,cap,cur,e,hB,(hg.block g (lt_of_block hgg) (by have:=ha g (by rw [e]; rfl); exact fun x => this x.symm)).trans hgg,r⟩
theorem IL.app {B : Nat} {L : List Nat} {w : World} {v : Value} (h : IL B v L w) {a : Addr} {c : Nat} (N : List Nat) (hN : ∀ j u,(ints N)[j]? = some u→w.cell? (a.add j) = some u) (hl : L.length + N.length ≤ 100000) (hB : B ≤ w.heap.size) :
  ∃ v' w',(Builtin.append_ #[162,162] 162 #[v,.slice (some a) N.length c]).run Tryz.prog w = .ok v' w'∧IL B v' (L ++ N) w'∧w.grownBy w' v.ownBlock∧(v' = .slice none 0 0 ↔ v = .slice none 0 0∧N.length = 0)∧(v'.ownBlock = v.ownBlock ∨ v'.ownBlock = some w.heap.size):=by
 obtain ⟨i0,hi,hz0,hz1,hz2⟩:=info_parts Tryz.info3
 obtain ⟨v',w',h1,h2,h3,h4,h5⟩:=run_append_own_at (P:=Tryz.prog) w B 162 162 3 i0 (.int .i64 0) 1 8 Tryz.underlying162 hi hz0 hz1 hz2 rfl (by decide) v L.length (ints L) h.own a N.length c (ints N) (by rw [ints_length,Nat.mul_one]) hN (ints_one N) (by unfold maxLen; omega) (by omega) hB
 refine ⟨v',w',h1,⟨?_⟩,h3,h4,h5⟩
 rw [List.length_append,ints,List.map_append]
 exact h2
theorem IL.lt {B : Nat} {L : List Nat} {w : World} {v : Value} (h : IL B v L w) (b : Nat) (hb : v.ownBlock = some b) : B ≤ b∧b < w.heap.size:=by
 obtain ⟨h1,⟨rfl,h2⟩ | ⟨g,cap,cur,rfl,hB,hg,_⟩⟩:=h.own
 ·simp [Value.ownBlock] at hb
 ·simp only [Value.ownBlock,Option.some.injEq] at hb
  subst hb
  exact ⟨hB,lt_of_block hg⟩
theorem IL.one {B : Nat} {L : List Nat} {w : World} {v : Value} (h : IL B v L w) (x : Nat) (hl : L.length + 1 ≤ 100000) (hB : B ≤ w.heap.size) :
  ∃ v' w',(Builtin.append_ #[162,162] 162 #[v,.slice (some ⟨w.heap.size,0,none⟩) 1 1]).run Tryz.prog (w.alloc (.cells #[.int .i64 (x : Int)] 3)) = .ok v' w'∧IL B v' (L ++ [x]) w'∧(w.alloc (.cells #[.int .i64 (x : Int)] 3)).grownBy w' v.ownBlock∧(∀ b,v'.ownBlock = some b→v.ownBlock = some b ∨ w.heap.size ≤ b):=by
 have h':=h.keep ((Below.refl w.heap.size w).alloc (Nat.le_refl _) (.cells #[.int .i64 (x : Int)] 3))
 obtain ⟨v',w',h1,h2,h3,_,h5⟩:=h'.app (a:=⟨w.heap.size,0,none⟩) (c:=1) [x] (cell_one_new w _ 3) (by simpa using hl) (by simp; omega)
 refine ⟨v',w',h1,h2,h3,fun b hb => ?_⟩
 rcases h5 with h5 | h5
 ·exact .inl (h5 ▸ hb)
 ·rw [h5] at hb
  simp at hb
  exact .inr (by omega)
theorem IL.shape {B : Nat} {L : List Nat} {w : World} {v : Value} (h : IL B v L w) : ∃ ao cap,v = .slice ao L.length cap:=by
 rcases h.cells with ⟨rfl,rfl⟩ | ⟨g,cap,rfl,_⟩
 ·exact ⟨none,0,rfl⟩
 ·exact ⟨_,cap,rfl⟩
theorem IL.nes {B q n : Nat} {L : List Nat} {w : World} {v : Value} {X : Nat→ByteArray} (h : IL B v L w) (hS : SB w q n X) : v.ownBlock ≠ some q:=by
 rcases h.own.2 with ⟨rfl,_⟩ | ⟨g,cap,cur,e,hB,hg,r⟩
 ·simp [Value.ownBlock]
 ·intro e2
  rw [e] at e2
  simp [Value.ownBlock] at e2
  subst e2
  unfold SB at hS
  rw [hg] at hS
  simp at hS
end Go.Proofs.YtagijldedngcoaaGreatDoor.Zq

namespace Go.Proofs.YtagijldedngcoaaGreatDoor.Zq
open Go.RowKit Go.Lib Go.Maps

def pc0 (f : Int→Option Nat) (X : Nat→ByteArray) (j : Nat) : ByteArray:=((f (j : Int)).map X).getD ⟨#[]⟩
def lst (f : Int→Option Nat) (i : Nat) : List Nat:=(List.range i).filter (fun j => (f (j : Int)).isNone)
theorem lst_some {f : Int→Option Nat} {i t : Nat} (h : f (i : Int) = some t) : lst f (i + 1) = lst f i:=by
 rw [lst,List.range_succ,List.filter_append]
 simp [h,lst]
theorem lst_none {f : Int→Option Nat} {i : Nat} (h : f (i : Int) = none) : lst f (i + 1) = lst f i ++ [i]:=by
 rw [lst,List.range_succ,List.filter_append]
 simp [h,lst]
theorem lst_mem {f : Int→Option Nat} {i j : Nat} : j ∈ lst f i ↔ j < i∧f (j : Int) = none:=by
 rw [lst,List.mem_filter,List.mem_range]
 simp
theorem lst_le (f : Int→Option Nat) (i : Nat) : (lst f i).length ≤ i:=by
 have:=List.length_filter_le (fun j : Nat => (f (j : Int)).isNone) (List.range i)
 rw [List.length_range] at this
 exact this
def rcv (k : Nat) (f : Int→Option Nat) (ρ : Nat→Nat) (X : Nat→ByteArray) (i : Nat) : ByteArray:=match f (i : Int) with
 | some t => X t
 | none => bkd k ρ X i
theorem Gs.join {w w1 w' : World} {f1 f2 q : Nat} (h : Below w.heap.size w w1) (k : Gs (fun i => i = f1 ∨ i = f2 ∨ i = q) w1 w') (hq : w.heap.size ≤ q) : Gs (fun i => i = f1 ∨ i = f2) w w' :=
 ⟨k.os.trans h.os,k.tape.trans h.tape,k.output.trans h.output,Nat.le_trans h.size k.size,fun i hi hp => (k.block i (Nat.lt_of_lt_of_le hi h.size) (by
  rintro (e | e | e)
  ·exact hp (.inl e)
  ·exact hp (.inr e)
  ·omega)).trans (h.block i hi)⟩

theorem pieces_any {w : World} {b sb f1 f2 g k m : Nat} (h : PP w b sb f1 f2 g k m) (k1 : 1 ≤ k) (km : k + m ≤ 255)
  {vf : Value} {ρ : Nat→Nat} {X : Nat→ByteArray} (hF : PX w vf k (fun t => ((ρ t : Nat) : Int)) X) (hρ : ∀ t,t < k→ρ t < k + m) (hi : ∀ s t,s < k→t < k→ρ s = ρ t→s = t) (hX : ∀ t,t < k→(X t).size ≤ 65536)
  {mb nm : Nat} {f : Int→Option Nat} (hM : MP w mb nm f) (hf : ∀ x t,f x = some t→t < k) :
  Calls Tryz.prog 278 #[.pointer (some ⟨b,0,none⟩),vf,.map (some mb)] w fun e w' => ∃ q,e = .returned (.slice (some ⟨q,0,none⟩) k k) ∧
   SB w' q k (rcv k f ρ X)∧w.heap.size ≤ q∧PP w' b sb f1 f2 g k m∧Gs (fun i => i = f1 ∨ i = f2) w w':=by
 have HF:=hide hF
 obtain ⟨af,cf,rfl,hF⟩:=hF
 obtain ⟨bf,of,rfl,hbf,hcf⟩:=hF.resolve_left (by omega)
 have HP:=hide h
 have HC:=hide hcf
 have HM:=hide hM
 have HFF:=hide hf
 have HR:=hide (And.intro hρ (And.intro hi hX))
 have HK:=hide (And.intro k1 km)
 have hk : k ≤ 255:=by omega
 clear h hcf hρ hi hX hF hM hf
 have c0:=HP.out.pl.cell0
 have hmk : ∀ w : World,_:=fun w => run_make_row' (P:=Tryz.prog) 44 9 (.string ⟨#[]⟩) 16 Tryz.underlying44 Tryz.infoS rfl .i64 .i64 k (by omega) (by omega) w
 go_enter Tryz.func278,Tryz.ntmps278
 go_wp2
 obtain ⟨W,hW⟩ : ∃ W,W = w.alloc (.cells (madeCells #[.string ⟨#[]⟩] k) 9):=⟨_,rfl⟩
 have HT0 : Hid (SB W w.heap.size k (fun _ => ⟨#[]⟩)):=by rw [hW]; exact SB.made w k
 have HB0 : Hid (Below w.heap.size w W):=by rw [hW]; exact below_alloc (Below.refl _ _) _
 rw [← hW]
 clear hW hmk c0
 go_loopw [8,19] (fun s z wr => ∃ i : Nat,i ≤ k∧z = .int .i64 i∧IL w.heap.size s (lst f i) wr∧SB wr w.heap.size k (fun j => if j < i then pc0 f X j else ⟨#[]⟩)∧Below w.heap.size w wr) (fun _ z _ => k - (RowKit.intOf z).toNat)
 case atStart => exact ⟨0,Nat.zero_le _,rfl,IL.nil _ _,HT0.out.congr (fun i hi => by simp),HB0.out⟩
 case round =>
  obtain ⟨i,hi,rfl,hL,hT,hB⟩:=hrel
  clear HT0 HB0
  obtain ⟨al,cl,rfl⟩:=hL.shape
  have hst : ∀ j,(if j = i then pc0 f X i else if j < i then pc0 f X j else ⟨#[]⟩) = if j < i + 1 then pc0 f X j else ⟨#[]⟩:=fun j => by
   by_cases e1 : j = i
   ·subst e1; rw [if_pos rfl,if_pos (by omega)]
   ·rw [if_neg e1]
    by_cases e2 : j < i
    ·rw [if_pos e2,if_pos (by omega)]
    ·rw [if_neg e2,if_neg (by omega)]
  have HST:=hide hst
  have HL:=hide hL
  have HT:=hide hT
  have HB:=hide hB
  obtain ⟨ll,hll⟩ : ∃ ll,ll = (lst f i).length:=⟨_,rfl⟩
  have hlle : ll ≤ 255:=by have:=lst_le f i; omega
  have HLL:=hide hll
  rw [← hll]
  clear hL hT hB hst hll
  by_cases hlt : i < k
  ·have b1 : (i : Int) < (k : Int):=by omega
   have b0 : (0 : Int) ≤ (i : Int):=by omega
   have hlook:=(HM.out.below HB.out).look (x:=(i : Int)) (by omega) (by omega)
   cases hfi : f (i : Int) with
   | some t =>
    rw [hfi] at hlook
    have htk:=HFF.out _ _ hfi
    have p2:=(HB.out.cell (p:=⟨bf,of + t * 2 + 1,none⟩) hbf).trans (HC.out t htk).2
    have q1:=HT.out.cell i hlt
    have q2:=HT.out.free i
    have b2 : (t : Int) < (k : Int):=by omega
    have b3 : (0 : Int) ≤ (t : Int):=by omega
    have hx : X t = pc0 f X i:=by rw [pc0,hfi]; rfl
    have HT2 : Hid (SB (wr.setCell ⟨w.heap.size,i,none⟩ (.string (X t))) w.heap.size k (fun j => if j < i + 1 then pc0 f X j else ⟨#[]⟩)):=by
     rw [hx]
     exact (HT.out.set i _).congr (fun j _ => HST.out j)
    have HL2 : Hid (IL w.heap.size (.slice al ll cl) (lst f (i + 1)) (wr.setCell ⟨w.heap.size,i,none⟩ (.string (X t)))):=by
     rw [lst_some hfi]
     refine hide (IL.apart (by rw [HLL.out]; exact HL.out) (gb_set wr w.heap.size i _) (fun bb hb e => ?_))
     have:=HL.out.nes HT.out
     rw [← HLL.out] at this
     exact this (by rw [hb,e])
    have HB2 : Hid (Below w.heap.size w (wr.setCell ⟨w.heap.size,i,none⟩ (.string (X t)))):=below_gb HB.out (gb_set wr w.heap.size i _) (Nat.le_refl _) HB.out.size
    simp only [Option.getD_some,Option.isSome_some] at hlook
    clear hfi hx HL HT HB HLL
    go_wp2
    exact ⟨⟨i + 1,by omega,by go_num,HL2.out,HT2.out,HB2.out⟩,by simp [RowKit.intOf]; omega⟩
   | none =>
    rw [hfi] at hlook
    obtain ⟨v',w',hap,hL',hg',_⟩:=HL.out.one i (by rw [← HLL.out]; omega) HB.out.size
    rw [← HLL.out] at hap hg'
    have hal : Below wr.heap.size wr (wr.alloc (.cells #[.int .i64 (i : Int)] 3)):=below_alloc (Below.refl _ _) _
    have hTa:=HT.out.below hal (Nat.le_refl _)
    have hLa:=HL.out.keep hal
    have hne:=hLa.nes hTa
    rw [← HLL.out] at hne
    have HT2 : Hid (SB w' w.heap.size k (fun j => if j < i + 1 then pc0 f X j else ⟨#[]⟩)):=by
     have e0 : pc0 f X i = ⟨#[]⟩:=by rw [pc0,hfi]; rfl
     refine hide ((hTa.of_block (hg'.block w.heap.size hTa.lt (fun e => hne e.symm))).congr (fun j _ => ?_))
     rw [← HST.out j,e0]
     by_cases e1 : j = i
     ·subst e1; rw [if_pos rfl,if_neg (by omega)]
     ·rw [if_neg e1]
    have HL2 : Hid (IL w.heap.size v' (lst f (i + 1)) w'):=by rw [lst_none hfi]; exact hL'
    have HB2 : Hid (Below w.heap.size w w'):=(below_step HB.out hal).grown hg' (Nat.le_trans HB.out.size hal.size) (fun kk hkk => (hLa.lt kk (by rw [← HLL.out]; exact hkk)).1)
    simp only [Option.getD_none,Option.isSome_none] at hlook
    clear hfi hL' hg' hal hTa hLa hne HL HT HB HLL
    go_wp2_with (at_builtin; refine Lib.wpList_append_run _ rfl _ _ _ _ rfl _ _ rfl rfl _ _ hap ?_)
    exact ⟨⟨i + 1,by omega,by go_num,HL2.out,HT2.out,HB2.out⟩,by simp [RowKit.intOf]; omega⟩
  ·obtain rfl : i = k:=by omega
   have HT2:=hide (HT.out.congr (X':=pc0 f X) (fun j hj => if_pos hj))
   by_cases h0 : ll = 0
   ·have b1 : ¬ ((0 : Int) < (ll : Int)):=by omega
    have hall : Hid (SB wr w.heap.size i (rcv i f ρ X)):=HT2.out.congr (fun j hj => by
     rw [pc0,rcv]
     cases hfj : f (j : Int) with
     | some t => rfl
     | none =>
      exfalso
      have:=lst_mem.2 ⟨hj,hfj⟩
      have e : (lst f i).length = 0:=by rw [← HLL.out]; exact h0
      rw [List.eq_nil_of_length_eq_zero e] at this
      simp at this)
    have HE : Hid (w.heap.size ≤ w.heap.size∧PP wr b sb f1 f2 g i m∧Gs (fun i => i = f1 ∨ i = f2) w wr):=⟨Nat.le_refl _,HP.out.below HB.out,Gs.of_below _ HB.out⟩
    clear HT HL HLL HB HT2
    go_wp2
    go_ret
    exact ⟨_,rfl,hall.out,HE.out⟩
   ·have b1 : (0 : Int) < (ll : Int):=by omega
    clear HT
    go_wp2_with fail
    refine (back_any (ln:=ll) (l:=fun t => (lst f i).getD t 0) (ρ:=ρ) (X:=X) (HP.out.below HB.out) HK.out.1 HK.out.2 HT2.out (by rw [HLL.out]; exact HL.out.fx) hlle (fun t ht => ?_) (HF.out.below HB.out (Nat.le_refl _)) HR.out.1 HR.out.2.1 HR.out.2.2).mono ?_
    ·have ht' : t < (lst f i).length:=by rw [← HLL.out]; exact ht
     have:=List.getElem_mem ht'
     rw [List.getD_eq_getElem?_getD,List.getElem?_eq_getElem ht']
     exact (lst_mem.1 this).1
    rintro e w5 ⟨rfl,hS5,hP5,hg5⟩
    have HG5:=hide (Gs.join HB.out hg5 (Nat.le_refl _))
    have HP5:=hide hP5
    have HS5 : Hid (SB w5 w.heap.size i (rcv i f ρ X)):=hS5.congr (fun j hj => by
     rw [rcv]
     cases hfj : f (j : Int) with
     | none =>
      obtain ⟨t,ht,e⟩:=List.getElem_of_mem (lst_mem.2 ⟨hj,hfj⟩)
      rw [if_pos ⟨t,by rw [HLL.out]; exact ht,by rw [List.getD_eq_getElem?_getD,List.getElem?_eq_getElem ht]; exact e⟩]
     | some t =>
      rw [if_neg,pc0,hfj]
      ·rfl
      ·rintro ⟨t',ht',e⟩
       have ht2 : t' < (lst f i).length:=by rw [← HLL.out]; exact ht'
       rw [List.getD_eq_getElem?_getD,List.getElem?_eq_getElem ht2] at e
       have e' : (lst f i)[t'] = j:=e
       have:=List.getElem_mem ht2
       rw [e'] at this
       rw [(lst_mem.1 this).2] at hfj
       cases hfj)
    clear hS5 hP5 hg5 HB HT2 HL HLL
    go_wp2
    go_ret
    exact ⟨_,rfl,HS5.out,Nat.le_refl _,HP5.out,HG5.out⟩
end Go.Proofs.YtagijldedngcoaaGreatDoor.Zq

namespace Go.Proofs.YtagijldedngcoaaGreatDoor.Zq
open Go.RowKit Go.Lib

def bk (x : ByteArray) (p : Nat) : K:=⟨(x.data.toList.getD p 0).toNat,(x.data.toList.getD p 0).toNat_lt⟩
theorem listSize (s : ByteArray) : s.data.toList.length = s.size:=by rw [Array.length_toList]; rfl
theorem bk_ext {x y : ByteArray} (hs : x.size = y.size) (h : ∀ p,p < x.size→bk x p = bk y p) : x = y:=by
 have : x.data.toList = y.data.toList:=by
  apply List.ext_getElem?
  intro p
  by_cases hp : p < x.size
  ·have hx : p < x.data.toList.length:=by rw [listSize]; exact hp
   have hy : p < y.data.toList.length:=by rw [listSize,← hs]; exact hp
   have:=congrArg K.v (h p hp)
   simp only [bk,List.getD_eq_getElem?_getD,List.getElem?_eq_getElem hx,List.getElem?_eq_getElem hy,Option.getD_some] at this
   rw [List.getElem?_eq_getElem hx,List.getElem?_eq_getElem hy,UInt8.toNat_inj.1 this]
  ·rw [List.getElem?_eq_none (by rw [listSize]; omega),List.getElem?_eq_none (by rw [listSize]; omega)]
 have h2:=Array.toList_inj.1 this
 cases x; cases y
 simp at h2
 rw [h2]
theorem mixAt_bk {n N : Nat} {X : Nat→ByteArray} (hX : ∀ i,i < n→(X i).size = N) (C : Nat→K) {p : Nat} (hp : p < N) :
  ∀ j,j ≤ n→∃ y : UInt8,(Fd.mixAt N X (fun t => (C t).v) j)[p]? = some y∧y.toNat = (S j (fun t => bk (X t) p * C t)).v
 | 0,_ => ⟨0,by rw [Fd.mixAt,List.getElem?_replicate,if_pos hp],rfl⟩
 | j + 1,hj => by
  obtain ⟨y,h1,h2⟩:=mixAt_bk hX C hp j (by omega)
  have hx : p < (X j).data.toList.length:=by rw [listSize,hX j (by omega)]; exact hp
  have h3 : (X j).data.toList[p]? = some (X j).data.toList[p]:=List.getElem?_eq_getElem hx
  refine ⟨_,Fd.xorL_get2 h1 (Fd.byL_get2 _ h3),?_⟩
  rw [UInt8.toNat_xor,Fd.mulB_toNat,h2,S,K.add_v,K.mul_v]
  simp only [bk,List.getD_eq_getElem?_getD,h3,Option.getD_some]
theorem mix_bk {n N : Nat} (h0 : 0 < n) {X : Nat→ByteArray} (hX : ∀ i,i < n→(X i).size = N) (C : Nat→K) {p : Nat} (hp : p < N) :
  bk (Fd.mixS n n X (fun t => (((C t).v : Nat) : Int))) p = S n (fun t => bk (X t) p * C t):=by
 obtain ⟨y,h1,h2⟩:=mixAt_bk hX C hp n (Nat.le_refl _)
 apply K.ext
 rw [← h2,(mixS_eq h0 hX C).2]
 show ((Fd.strOf (Fd.mixAt N X (fun t => (C t).v) n)).data.toList.getD p 0).toNat = y.toNat
 rw [Fd.strOf_toList,List.getD_eq_getElem?_getD,h1]
 rfl
section
variable {k m : Nat} {ρ : Nat→Nat} {X : Nat→ByteArray} {N : Nat}
theorem bkd_size (k1 : 1 ≤ k) (hX : ∀ t,t < k→(X t).size = N) (i : Nat) : (bkd k ρ X i).size = N:=mixS_size k1 hX (fun t => flat k (invQ k (pkd k ρ)) (i * k + t))
theorem bkd_bk (k1 : 1 ≤ k) (hX : ∀ t,t < k→(X t).size = N) (i : Nat) {p : Nat} (hp : p < N) : bk (bkd k ρ X i) p = S k (fun t => bk (X t) p * invQ k (pkd k ρ) i t):=by
 rw [bkd,mix_bk k1 hX (fun t => flat k (invQ k (pkd k ρ)) (i * k + t)) hp]
 exact S_congr fun t ht => by rw [flat,div_at ht,mod_at ht]
theorem pkd_at (t : Nat) {j : Nat} (hj : j < k) : mt k (pkd k ρ) t j = cauM k (ρ t) j:=by
 rw [pkd,mt_flat _ _ hj,mt_flat _ _ hj]
theorem pkd_full (km : k + m ≤ 255) (hρ : ∀ t,t < k→ρ t < k + m) (hi : ∀ s t,s < k→t < k→ρ s = ρ t→s = t) : (redu k (wideM k (pkd k ρ)) k).2 = k:=picked_full k m km ρ hρ hi _ (fun _ _ => rfl)
theorem there_eq (k1 : 1 ≤ k) (km : k + m ≤ 255) (hρ : ∀ t,t < k→ρ t < k + m) (hi : ∀ s t,s < k→t < k→ρ s = ρ t→s = t) (hX : ∀ t,t < k→(X t).size = N) {t : Nat} (ht : t < k) (hr : ρ t < k) :
  X t = bkd k ρ X (ρ t):=by
 have hq:=invQ_ok k (pkd k ρ) (pkd_full km hρ hi)
 have hrow : ∀ s,s < k→invQ k (pkd k ρ) (ρ t) s = dl t s:=fun s hs => by
  rw [← (hq t ht s hs).2,mm]
  rw [S_congr (g:=fun j => dl (ρ t) j * invQ k (pkd k ρ) j s) (fun j hj => by rw [pkd_at t hj,cauM,if_pos hr])]
  exact (S_dl_l (fun j => invQ k (pkd k ρ) j s) hr).symm
 refine bk_ext (by rw [hX t ht,bkd_size k1 hX]) (fun p hp => ?_)
 rw [hX t ht] at hp
 rw [bkd_bk k1 hX _ hp,S_congr (g:=fun s => bk (X s) p * dl s t) (fun s hs => by rw [hrow s hs,dl_comm])]
 exact (S_dl_r (fun s => bk (X s) p) ht).symm
theorem rcv_eq (k1 : 1 ≤ k) (km : k + m ≤ 255) (hρ : ∀ t,t < k→ρ t < k + m) (hi : ∀ s t,s < k→t < k→ρ s = ρ t→s = t) (hX : ∀ t,t < k→(X t).size = N) {f : Int→Option Nat}
  (hf : ∀ x t,f x = some t→t < k∧((ρ t : Nat) : Int) = x) {i : Nat} (hik : i < k) : rcv k f ρ X i = bkd k ρ X i:=by
 rw [rcv]
 cases h : f (i : Int) with
 | none => rfl
 | some t =>
  obtain ⟨h1,h2⟩:=hf _ _ h
  have e : ρ t = i:=by omega
  have:=there_eq k1 km hρ hi hX h1 (by rw [e]; exact hik)
  rw [e] at this
  exact this
theorem shd_bk (k1 : 1 ≤ k) (s : ByteArray) (r : Nat) {p : Nat} (hp : p < eachN k s.size) : bk (shd k s r) p = S k (fun j => bk (pc k s j) p * cauM k r j):=by
 rw [shd]
 by_cases h : r < k
 ·rw [if_pos h,S_congr (g:=fun j => bk (pc k s j) p * dl j r) (fun j hj => by rw [cauM,if_pos h,dl_comm])]
  exact (S_dl_r (fun j => bk (pc k s j) p) h).symm
 ·rw [if_neg h,mix_bk k1 (fun j hj => pc_size s hj) (fun t => flat k (cauM k) (r * k + t)) hp]
  exact S_congr fun t ht => by rw [flat,div_at ht,mod_at ht]
theorem bkd_shd (k1 : 1 ≤ k) (km : k + m ≤ 255) (hρ : ∀ t,t < k→ρ t < k + m) (hi : ∀ s t,s < k→t < k→ρ s = ρ t→s = t) (s : ByteArray) (hX : ∀ t,t < k→X t = shd k s (ρ t)) {i : Nat} (hik : i < k) :
  bkd k ρ X i = pc k s i:=by
 have hq:=invQ_ok k (pkd k ρ) (pkd_full km hρ hi)
 have hsz : ∀ t,t < k→(X t).size = eachN k s.size:=fun t ht => by rw [hX t ht,shd_size k1]
 refine bk_ext (by rw [bkd_size k1 hsz,pc_size s hik]) (fun p hp => ?_)
 rw [bkd_size k1 hsz] at hp
 rw [bkd_bk k1 hsz _ hp]
 rw [S_congr (g:=fun t => S k (fun j => bk (pc k s j) p * (invQ k (pkd k ρ) i t * mt k (pkd k ρ) t j))) (fun t ht => by
  rw [hX t ht,shd_bk k1 s _ hp,mul_S]
  exact S_congr fun j hj => by rw [pkd_at t hj,K.mul_assoc,K.mul_comm (cauM k (ρ t) j)]),S_swap]
 rw [S_congr (g:=fun j => bk (pc k s j) p * dl j i) (fun j hj => by rw [← S_mul,dl_comm,← (hq i hik j hj).1]; rfl)]
 exact S_dl_r (fun j => bk (pc k s j) p) hik
end
def cat (k : Nat) (Y : Nat→ByteArray) : List UInt8:=((List.range k).map fun i => (Y i).data.toList).flatten
theorem cat_succ (k : Nat) (Y : Nat→ByteArray) : cat (k + 1) Y = cat k Y ++ (Y k).data.toList:=by simp [cat,List.range_succ]
theorem cat_length {k N : Nat} {Y : Nat→ByteArray} (h : ∀ i,i < k→(Y i).size = N) : (cat k Y).length = k * N:=by
 induction k with
 | zero => simp [cat]
 | succ k ih => rw [cat_succ,List.length_append,ih (fun i hi => h i (by omega)),listSize,h k (by omega),Nat.add_mul,Nat.one_mul]
theorem cat_congr {k : Nat} {Y Y' : Nat→ByteArray} (h : ∀ i,i < k→Y i = Y' i) : cat k Y = cat k Y':=by
 rw [cat,cat]
 congr 1
 exact List.map_congr_left fun i hi => by rw [h i (List.mem_range.1 hi)]
theorem cat_pc (k : Nat) (s : ByteArray) : ∀ j,j ≤ k→cat j (pc k s) = (padB k s).data.toList.take (j * eachN k s.size)
 | 0,_ => by simp [cat]
 | j + 1,hj => by
  rw [cat_succ,cat_pc k s j (by omega),pc,ByteArray.data_extract,Array.toList_extract,List.extract_eq_take_drop,Nat.add_mul,Nat.one_mul,Nat.add_sub_cancel_left,List.take_add]
theorem cat_back {k : Nat} (k1 : 1 ≤ k) (s : ByteArray) : (⟨(cat k (pc k s)).toArray⟩ : ByteArray).extract 0 s.size = s:=by
 have h1 : (padB k s).data.toList = s.data.toList ++ List.replicate (k * eachN k s.size - s.size) 0:=by
  rw [padB,ByteArray.data_append,Array.toList_append]
  simp [zsB]
 have h2 : s.size ≤ k * eachN k s.size:=eachN_ge k1
 have : ((⟨(cat k (pc k s)).toArray⟩ : ByteArray).extract 0 s.size).data.toList = s.data.toList:=by
  rw [ByteArray.data_extract,Array.toList_extract,List.extract_eq_take_drop,List.drop_zero,Nat.sub_zero]
  show (cat k (pc k s)).take s.size = _
  rw [cat_pc k s k (Nat.le_refl _),List.take_take,Nat.min_eq_left h2,h1,List.take_append_of_le_length (by rw [listSize]; exact Nat.le_refl _),← listSize,List.take_length]
 have h3:=Array.toList_inj.1 this
 revert h3
 generalize (⟨(cat k (pc k s)).toArray⟩ : ByteArray).extract 0 s.size = y
 intro h3
 cases y; cases s
 simp at h3
 rw [h3]
end Go.Proofs.YtagijldedngcoaaGreatDoor.Zq

namespace Go.Proofs.YtagijldedngcoaaGreatDoor.Zq
open Go.RowKit Go.Lib Go.Maps

theorem join_flat (xs : List (List UInt8)) : Lib.join xs [] = xs.flatten:=by
 cases xs with
 | nil => rfl
 | cons x r =>
  rw [Lib.join_cons,Lib.joinTail]
  simp
def rhoL (I : Nat→Int) (L : List Nat) (t : Nat) : Nat:=(I (L.getD t 0)).toNat
def txJ (X : Nat→ByteArray) (L : List Nat) (t : Nat) : ByteArray:=X (L.getD t 0)
theorem getD_mem {L : List Nat} {t : Nat} (h : t < L.length) : L.getD t 0 ∈ L:=by
 rw [List.getD_eq_getElem?_getD,List.getElem?_eq_getElem h]
 exact List.getElem_mem h
theorem Tells.inj {f : Int→Option Nat} {I : Nat→Int} {L : List Nat} (h : Tells f I L) {s t : Nat} (hs : s < L.length) (ht : t < L.length) (e : I (L.getD s 0) = I (L.getD t 0)) : s = t:=by
 have h1:=(h (I (L.getD t 0)) s).2 ⟨hs,e⟩
 have h2:=(h (I (L.getD t 0)) t).2 ⟨ht,rfl⟩
 rw [h1] at h2
 cases h2
 rfl
def joinB (k : Nat) (I : Nat→Int) (X : Nat→ByteArray) (n long : Nat) : ByteArray:=(⟨(cat k (bkd k (rhoL I (fu k I n)) (txJ X (fu k I n)))).toArray⟩ : ByteArray).extract 0 long

theorem ljoin_any {w : World} {b sb f1 f2 g k m : Nat} (h : PP w b sb f1 f2 g k m) (k1 : 1 ≤ k) (km : k + m ≤ 255) {vp : Value} {n : Nat} {I : Nat→Int} {X : Nat→ByteArray} (hn : n ≤ maxLen) (hP : PX w vp n I X)
  {long : Nat} (hl : long ≤ 65536) (hI : ∀ i,i < n→0 ≤ I i∧I i < ((k + m : Nat) : Int)) (hX : ∀ i,i < n→(X i).size = eachN k long) :
  Calls Tryz.prog 257 #[.pointer (some ⟨b,0,none⟩),vp,.int .i64 long] w fun e w' =>
   (((fu k I n).length < k∧e = .returned (.tuple #[.string ⟨#[]⟩,.int .i64 50])) ∨ ((fu k I n).length = k∧e = .returned (.tuple #[.string (joinB k I X n long),.int .i64 0])))∧PP w' b sb f1 f2 g k m∧Gs (fun i => i = f1 ∨ i = f2) w w':=by
 have HP:=hide h
 have HX:=hide hP
 have HR:=hide (And.intro hI hX)
 have HK:=hide (And.intro k1 (And.intro km (And.intro hn hl)))
 clear h hP hI hX hn
 go_enter Tryz.func257,Tryz.ntmps257
 go_wp2_with fail
 refine (first_any HP.out.pl.cell0 HP.out.pl.lt (by omega) HK.out.2.2.1 HX.out (fun i hi => ⟨(HR.out.1 i hi).1,by have:=(HR.out.1 i hi).2; omega⟩)).mono ?_
 rintro e w1 ⟨v1,q1,rfl,hFW⟩
 have HF:=hide hFW
 have HP1:=hide (HP.out.below hFW.be)
 have c0:=HP1.out.pl.cell0
 obtain ⟨a1,cp1,rfl⟩:=hFW.ip.shp
 have hle:=fu_le k I n
 obtain ⟨l,hl'⟩ : ∃ l,l = (fu k I n).length:=⟨_,rfl⟩
 rw [← hl'] at hle ⊢
 have HL:=hide hl'
 clear hFW hl'
 by_cases hlt : l < k
 ·have b1 : (l : Int) < (k : Int):=by omega
  have HE : Hid (PP w1 b sb f1 f2 g k m∧Gs (fun i => i = f1 ∨ i = f2) w w1):=⟨HP1.out,Gs.of_below _ HF.out.be⟩
  clear HF HP1
  go_wp2
  exact bodyPost_ret (v:=.tuple #[.string ⟨#[]⟩,.int .i64 50]) (by simp [results,Tryz.results257,go_sem]) rfl ⟨.inl ⟨by rw [← HL.out]; exact hlt,rfl⟩,HE.out⟩
 ·obtain rfl : l = k:=by omega
  have b1 : ¬ ((l : Int) < (l : Int)):=by omega
  obtain ⟨f,hM,hT⟩:=HF.out.mp
  have hmem : ∀ t,t < l→(fu l I n).getD t 0 < n:=fun t ht => fu_lt (getD_mem (by rw [← HL.out]; exact ht))
  have HRr : Hid ((∀ t,t < l→rhoL I (fu l I n) t < l + m)∧(∀ s t,s < l→t < l→rhoL I (fu l I n) s = rhoL I (fu l I n) t→s = t)∧(∀ t,t < l→(txJ X (fu l I n) t).size = eachN l long)∧(∀ x t,f x = some t→t < l∧((rhoL I (fu l I n) t : Nat) : Int) = x)∧(∀ t,t < l→((rhoL I (fu l I n) t : Nat) : Int) = I ((fu l I n).getD t 0))):=by
   have hr : ∀ t,t < l→((rhoL I (fu l I n) t : Nat) : Int) = I ((fu l I n).getD t 0):=fun t ht => by
    rw [rhoL]
    have:=(HR.out.1 _ (hmem t ht)).1
    omega
   refine ⟨fun t ht => ?_,fun s t hs ht e => ?_,fun t ht => HR.out.2 _ (hmem t ht),fun x t hx => ?_,hr⟩
   ·have:=(HR.out.1 _ (hmem t ht)).2
    have:=hr t ht
    omega
   ·refine hT.inj (by rw [← HL.out]; exact hs) (by rw [← HL.out]; exact ht) ?_
    rw [← hr s hs,← hr t ht,e]
   ·obtain ⟨h1,h2⟩:=(hT x t).1 hx
    rw [← HL.out] at h1
    exact ⟨h1,by rw [hr t h1]; exact h2⟩
  have HPX : Hid (PX w1 (.slice a1 l cp1) l (fun t => ((rhoL I (fu l I n) t : Nat) : Int)) (txJ X (fu l I n))):=by
   have:=HF.out.ip.px
   rw [← HL.out] at this
   exact this.congr (fun t ht => ⟨(HRr.out.2.2.2.2 t ht).symm,rfl⟩)
  have HMM:=hide hM
  have he : eachN l long ≤ long:=eachN_le HK.out.1
  clear hmem hM hT
  go_wp2_with fail
  refine (pieces_any HP1.out HK.out.1 HK.out.2.1 HPX.out HRr.out.1 HRr.out.2.1 (fun t ht => by rw [HRr.out.2.2.1 t ht]; omega) HMM.out (fun x t hx => (HRr.out.2.2.2.1 x t hx).1)).mono ?_
  rintro e w2 ⟨q,rfl,hS,hq,hP2,hg2⟩
  have hS2:=hS.congr (X':=bkd l (rhoL I (fu l I n)) (txJ X (fu l I n))) (fun i hi => rcv_eq HK.out.1 HK.out.2.1 HRr.out.1 HRr.out.2.1 HRr.out.2.2.1 HRr.out.2.2.2.1 hi)
  have hsz : ∀ i,i < l→(bkd l (rhoL I (fu l I n)) (txJ X (fu l I n)) i).size = eachN l long:=fun i _ => bkd_size HK.out.1 HRr.out.2.2.1 i
  have HG2 : Hid (Gs (fun i => i = f1 ∨ i = f2) w w2):=(Gs.of_below _ HF.out.be).trans hg2
  have HP2:=hide hP2
  have hjb : joinB l I X n long = (⟨(cat l (bkd l (rhoL I (fu l I n)) (txJ X (fu l I n)))).toArray⟩ : ByteArray).extract 0 long:=rfl
  generalize hY : bkd l (rhoL I (fu l I n)) (txJ X (fu l I n)) = Y at hS2 hsz hjb
  have hlen:=cat_length hsz
  have hge : long ≤ l * eachN l long:=eachN_ge HK.out.1
  have hmap : (((List.range l).map Y).map (fun x : ByteArray => x.data.toList)) = (List.range l).map (fun i => (Y i).data.toList):=by rw [List.map_map]; rfl
  have hJ:=Tryz.strings_Join q 0 l ((List.range l).map Y) ⟨#[]⟩ w2 (fun j x hj => by
   rw [List.getElem?_map] at hj
   by_cases hjl : j < l
   ·rw [List.getElem?_range hjl] at hj
    cases hj
    rw [Nat.zero_add]
    exact hS2.cell j hjl
   ·rw [List.getElem?_eq_none (by rw [List.length_range]; omega)] at hj
    cases hj) hS2.lt (by rw [List.length_map,List.length_range]; omega) (by rw [List.length_map,List.length_range]; exact Nat.le_refl _) (by
   rw [hmap]
   show (Lib.join _ []).length ≤ _
   rw [join_flat]
   show (cat l Y).length ≤ _
   rw [hlen]
   have : l * eachN l long ≤ 255 * 65536:=Nat.mul_le_mul (by omega) (by omega)
   omega)
  rw [hmap,List.length_map,List.length_range] at hJ
  rw [show Lib.join ((List.range l).map fun i => (Y i).data.toList) (⟨#[]⟩ : ByteArray).data.toList = cat l Y from join_flat _] at hJ
  have HJ:=hide hJ
  obtain ⟨Z,hZ⟩ : ∃ Z : ByteArray,Z = ⟨(cat l Y).toArray⟩:=⟨_,rfl⟩
  have hZs : long ≤ Z.size:=by
   rw [hZ,← listSize]
   show long ≤ (cat l Y).toArray.toList.length
   rw [List.toList_toArray,hlen]
   exact hge
  rw [← hZ] at HJ hjb
  have HJB:=hide hjb
  clear hS hq hP2 hg2 hS2 hsz hjb hlen hge hmap hJ hZ HF HP1 HPX HMM HRr hY he c0
  go_wp2_with fail
  refine HJ.out.mono ?_
  rintro e w3 ⟨rfl,hb3⟩
  have HE : Hid (PP w3 b sb f1 f2 g l m∧Gs (fun i => i = f1 ∨ i = f2) w w3):=⟨HP2.out.below hb3,HG2.out.bel hb3⟩
  have b2 : ¬ ((Z.size : Int) < (long : Int)):=by omega
  have b3 : (long : Int) ≤ (Z.size : Int):=by omega
  have b4 : (0 : Int) ≤ (long : Int):=by omega
  clear hb3 HP2 HG2 HJ
  go_wp2
  exact bodyPost_ret (v:=.tuple #[.string (Z.extract 0 long),.int .i64 0]) (by simp [results,Tryz.results257,go_sem]) rfl ⟨.inr ⟨HL.out.symm,by rw [HJB.out]⟩,HE.out⟩
end Go.Proofs.YtagijldedngcoaaGreatDoor.Zq

namespace Go.Proofs.YtagijldedngcoaaGreatDoor.Zq
open Go.RowKit Go.Lib Go.Maps

theorem isNumber_any {w : World} {b sb f1 f2 g k m : Nat} (h : PP w b sb f1 f2 g k m) (km : k + m ≤ 255) (x : Int) :
  Calls Tryz.prog 275 #[.pointer (some ⟨b,0,none⟩),.int .i64 x] w fun e w' => e = .returned (.bool (decide (0 ≤ x∧x < ((k + m : Nat) : Int))))∧Below w.heap.size w w':=by
 have c0:=h.pl.cell0
 have c1:=h.pl.cell1
 obtain ⟨n,hn⟩ : ∃ n,n = k + m:=⟨_,rfl⟩
 have hni : (k : Int) + (m : Int) = (n : Int):=by omega
 have hwr : IntKind.i64.wrap ((k : Int) + (m : Int)) = (n : Int):=by rw [hni]; exact wraps_i64 _ (by omega) (by omega)
 rw [← hn] at km ⊢
 clear h hn hni
 by_cases h0 : 0 ≤ x
 ·by_cases h1 : x < (n : Int)
  ·rw [decide_eq_true (And.intro h0 h1)]
   have d1 : decide (0 ≤ x) = true:=decide_eq_true h0
   have d2 : decide (x < (n : Int)) = true:=decide_eq_true h1
   go_enter Tryz.func275,Tryz.ntmps275
   go_wp2
   go_quiet (fail)
   go_wp2
   go_ret
   exact ⟨rfl,below_drew (Below.refl _ _) _⟩
  ·rw [decide_eq_false (fun h => h1 h.2)]
   have d1 : decide (0 ≤ x) = true:=decide_eq_true h0
   have d2 : decide (x < (n : Int)) = false:=decide_eq_false h1
   go_enter Tryz.func275,Tryz.ntmps275
   go_wp2
   go_quiet (fail)
   go_wp2
   go_ret
   exact ⟨rfl,below_drew (Below.refl _ _) _⟩
 ·rw [decide_eq_false (fun h => h0 h.1)]
  have d1 : decide (0 ≤ x) = false:=decide_eq_false h0
  go_enter Tryz.func275,Tryz.ntmps275
  go_wp2
  go_quiet (fail)
  go_wp2
  go_ret
  exact ⟨rfl,below_drew (Below.refl _ _) _⟩
end Go.Proofs.YtagijldedngcoaaGreatDoor.Zq

namespace Go.Proofs.YtagijldedngcoaaGreatDoor.Zq
open Go.RowKit Go.Lib Go.Maps

def bad1 (km ea : Nat) (x : Int) (s : ByteArray) : Int:=if 0 ≤ x∧x < (km : Int) then (if s.size = ea then 0 else 4) else 1
def flt (km ea : Nat) (I : Nat→Int) (X : Nat→ByteArray) : Nat→Int
 | 0 => 0
 | n + 1 => if flt km ea I X n = 0 then bad1 km ea (I n) (X n) else flt km ea I X n
theorem flt_stays {km ea : Nat} {I : Nat→Int} {X : Nat→ByteArray} {j : Nat} (h : flt km ea I X j ≠ 0) : ∀ d,flt km ea I X (j + d) = flt km ea I X j
 | 0 => rfl
 | d + 1 => by
  have hd:=flt_stays h d
  show (if flt km ea I X (j + d) = 0 then _ else flt km ea I X (j + d)) = _
  rw [hd,if_neg h]
theorem flt_at {km ea : Nat} {I : Nat→Int} {X : Nat→ByteArray} {j n : Nat} (hj : j < n) (h0 : flt km ea I X j = 0) (h : bad1 km ea (I j) (X j) ≠ 0) : flt km ea I X n = bad1 km ea (I j) (X j):=by
 have e1 : flt km ea I X (j + 1) = bad1 km ea (I j) (X j):=by show (if flt km ea I X j = 0 then _ else _) = _; rw [if_pos h0]
 have:=flt_stays (km:=km) (ea:=ea) (I:=I) (X:=X) (j:=j + 1) (by rw [e1]; exact h) (n - (j + 1))
 rw [show j + 1 + (n - (j + 1)) = n by omega,e1] at this
 exact this
theorem flt_next {km ea : Nat} {I : Nat→Int} {X : Nat→ByteArray} {j : Nat} (h0 : flt km ea I X j = 0) (h : bad1 km ea (I j) (X j) = 0) : flt km ea I X (j + 1) = 0:=by
 show (if flt km ea I X j = 0 then _ else _) = _; rw [if_pos h0]; exact h
theorem flt_ok {km ea : Nat} {I : Nat→Int} {X : Nat→ByteArray} : ∀ {n : Nat},(∀ i,i < n→0 ≤ I i∧I i < (km : Int))→(∀ i,i < n→(X i).size = ea)→flt km ea I X n = 0
 | 0,_,_ => rfl
 | n + 1,hI,hX => flt_next (flt_ok (fun i hi => hI i (by omega)) (fun i hi => hX i (by omega))) (by rw [bad1,if_pos (hI n (by omega)),if_pos (hX n (by omega))])
theorem flt_zero {km ea : Nat} {I : Nat→Int} {X : Nat→ByteArray} : ∀ {n : Nat},flt km ea I X n = 0→∀ i,i < n→(0 ≤ I i∧I i < (km : Int))∧(X i).size = ea
 | 0,_,i,hi => by omega
 | n + 1,h,i,hi => by
  by_cases h0 : flt km ea I X n = 0
  ·have hb : bad1 km ea (I n) (X n) = 0:=by
    have : flt km ea I X (n + 1) = bad1 km ea (I n) (X n):=by show (if flt km ea I X n = 0 then _ else _) = _; rw [if_pos h0]
    rw [← this]; exact h
   by_cases e : i = n
   ·subst e
    rw [bad1] at hb
    split at hb
    ·split at hb
     ·exact ⟨by assumption,by assumption⟩
     ·omega
    ·omega
   ·exact flt_zero h0 i (by omega)
  ·exact absurd ((flt_stays h0 1).symm.trans h) h0
def faultV (k m : Nat) (long : Int) (I : Nat→Int) (X : Nat→ByteArray) (n : Nat) : Int:=if long < 0 ∨ 65536 < long then 1 else flt (k + m) (eachN k long.toNat) I X n
theorem fault_any {w : World} {b sb f1 f2 g k m : Nat} (h : PP w b sb f1 f2 g k m) (k1 : 1 ≤ k) (km : k + m ≤ 255) {vp : Value} {n : Nat} {I : Nat→Int} {X : Nat→ByteArray} (hn : n ≤ maxLen) (hP : PX w vp n I X)
  (hXs : ∀ i,i < n→(X i).size ≤ 9223372036854775807) (long : Int) :
  Calls Tryz.prog 256 #[.pointer (some ⟨b,0,none⟩),vp,.int .i64 long] w fun e w' => e = .returned (.int .i64 (faultV k m long I X n))∧Below w.heap.size w w':=by
 obtain ⟨a,c,rfl,hP⟩:=hP
 have hn' : n ≤ 9223372036854775807:=hn
 have HP:=hide h
 have HX:=hide hP
 have HK:=hide (And.intro k1 km)
 obtain ⟨fv,hfv⟩ : ∃ fv,fv = faultV k m long I X n:=⟨_,rfl⟩
 rw [← hfv]
 have hE : Hid (Calls Tryz.prog 254 #[.pointer (some ⟨b,0,none⟩),.int .i64 long] w fun e w' => e = .returned (.tuple #[.int .i64 (eachR k long).1,.int .i64 (eachR k long).2])∧Below w.heap.size w w'):=each_any h k1 (by omega) long
 have HS:=hide hXs
 clear h hP hn hXs
 go_enter Tryz.func256,Tryz.ntmps256
 go_wp2_with fail
 refine hE.out.mono ?_
 rintro e w1 ⟨rfl,hb1⟩
 have HB1:=hide hb1
 clear hb1 hE
 by_cases hlong : long < 0 ∨ 65536 < long
 ·rw [faultV,if_pos hlong] at hfv
  subst hfv
  rw [eachR,if_pos hlong]
  go_wp2
  go_ret
  exact ⟨rfl,HB1.out⟩
 rw [faultV,if_neg hlong] at hfv
 rw [eachR,if_neg hlong]
 obtain ⟨ea,hea⟩ : ∃ ea,ea = eachN k long.toNat:=⟨_,rfl⟩
 have hle : ea ≤ 65536:=by rw [hea]; have:=eachN_le (k:=k) (n:=long.toNat) k1; omega
 rw [← hea] at hfv ⊢
 have HFV:=hide hfv
 clear hea hlong hfv
 go_wp2
 go_loopw [22] (fun z wr => ∃ j : Nat,j ≤ n∧z = .int .i64 j∧flt (k + m) ea I X j = 0∧Below w.heap.size w wr) (fun z _ => n - (RowKit.intOf z).toNat)
 case atStart => exact ⟨0,Nat.zero_le _,rfl,rfl,HB1.out⟩
 case round =>
  obtain ⟨j,hj,rfl,hf,hB⟩:=hrel
  clear HB1
  have HB:=hide hB
  have HF:=hide hf
  clear hf
  by_cases hlt : j < n
  ·obtain ⟨bl,off,rfl,hbl,hcell⟩:=HX.out.resolve_left (by omega)
   have p1:=(hB.cell (p:=⟨bl,off + j * 2,none⟩) hbl).trans (hcell j hlt).1
   have p2:=(hB.cell (p:=⟨bl,off + j * 2 + 1,none⟩) hbl).trans (hcell j hlt).2
   have b1 : (j : Int) < (n : Int):=by omega
   have b0 : (0 : Int) ≤ (j : Int):=by omega
   clear hB hcell
   go_upto_region 7 with fail
   obtain ⟨V,hV⟩ : ∃ V,V = wr.alloc (.cells #[.int .i64 (I j),.string (X j)] 309):=⟨_,rfl⟩
   have hbV : Below wr.heap.size wr V:=by rw [hV]; exact below_alloc (Below.refl _ _) _
   have hbk : V.heap[wr.heap.size]? = some (.cells #[.int .i64 (I j),.string (X j)] 309):=by rw [hV]; exact heap_alloc_new wr _
   have q1 : V.cell? ⟨wr.heap.size,0,none⟩ = some (.int .i64 (I j)):=by rw [cell_of_row V _ 0 _ _ _ hbk]; rfl
   have q2 : V.cell? ⟨wr.heap.size,1,none⟩ = some (.string (X j)):=by rw [cell_of_row V _ 1 _ _ _ hbk]; rfl
   have hsz : wr.heap.size < V.heap.size:=(Array.getElem?_eq_some_iff.mp hbk).1
   have HBV:=hide (below_step HB.out hbV)
   rw [← hV]
   clear hV hbV hbk HB p1 p2
   go_wp2_with fail
   refine (isNumber_any (HP.out.below HBV.out) HK.out.2 (I j)).mono ?_
   rintro e w2 ⟨rfl,hb2⟩
   have HB2:=hide (below_step HBV.out hb2)
   have q3:=(hb2.cell (p:=⟨wr.heap.size,1,none⟩) hsz).trans q2
   clear hb2 HBV q1 q2 hsz
   by_cases hnum : 0 ≤ I j∧I j < ((k + m : Nat) : Int)
   ·rw [decide_eq_true hnum]
    have hxs : (X j).size ≤ 9223372036854775807:=HS.out j hlt
    by_cases hs : (X j).size = ea
    ·have b3 : ((X j).size : Int) = (ea : Int):=by rw [hs]
     go_wp2
     exact ⟨⟨j + 1,by omega,by go_num,flt_next HF.out (by rw [bad1,if_pos hnum,if_pos hs]),HB2.out⟩,by simp [RowKit.intOf]; omega⟩
    ·have b3 : ¬ ((X j).size : Int) = (ea : Int):=by omega
     go_wp2
     go_ret
     have hv : bad1 (k + m) ea (I j) (X j) = 4:=by rw [bad1,if_pos hnum,if_neg hs]
     exact ⟨by rw [HFV.out,flt_at hlt HF.out (by rw [hv]; decide),hv]; rfl,HB2.out⟩
   ·rw [decide_eq_false hnum]
    go_wp2
    go_ret
    have hv : bad1 (k + m) ea (I j) (X j) = 1:=by rw [bad1,if_neg hnum]
    exact ⟨by rw [HFV.out,flt_at hlt HF.out (by rw [hv]; decide),hv]; rfl,HB2.out⟩
  ·obtain rfl : j = n:=by omega
   clear hB
   go_wp2
   go_ret
   exact ⟨by rw [HFV.out,HF.out]; rfl,HB.out⟩
theorem fault_ok {w : World} {b sb f1 f2 g k m : Nat} (h : PP w b sb f1 f2 g k m) (k1 : 1 ≤ k) (km : k + m ≤ 255) {vp : Value} {n : Nat} {I : Nat→Int} {X : Nat→ByteArray} (hn : n ≤ maxLen) (hP : PX w vp n I X)
  {long : Nat} (hl : long ≤ 65536) (hI : ∀ i,i < n→0 ≤ I i∧I i < ((k + m : Nat) : Int)) (hX : ∀ i,i < n→(X i).size = eachN k long) :
  Calls Tryz.prog 256 #[.pointer (some ⟨b,0,none⟩),vp,.int .i64 long] w fun e w' => e = .returned (.int .i64 0)∧Below w.heap.size w w':=by
 refine (fault_any h k1 km hn hP (fun i hi => by rw [hX i hi]; have:=eachN_le (k:=k) (n:=long) k1; omega) (long : Int)).mono ?_
 rintro e w' ⟨rfl,hb⟩
 refine ⟨?_,hb⟩
 rw [faultV,if_neg (by omega),Int.toNat_natCast,flt_ok hI hX]
end Go.Proofs.YtagijldedngcoaaGreatDoor.Zq

namespace Go.Proofs.YtagijldedngcoaaGreatDoor.Zq
open Go.RowKit Go.Lib Go.Maps

theorem join_any {w : World} {b sb f1 f2 g k m : Nat} (h : PP w b sb f1 f2 g k m) (k1 : 1 ≤ k) (km : k + m ≤ 255) {vp : Value} {n : Nat} {I : Nat→Int} {X : Nat→ByteArray} (hn : n ≤ maxLen) (hP : PX w vp n I X)
  {long : Nat} (hl : long ≤ 65536) (hI : ∀ i,i < n→0 ≤ I i∧I i < ((k + m : Nat) : Int)) (hX : ∀ i,i < n→(X i).size = eachN k long) :
  Calls Tryz.prog 237 #[.pointer (some ⟨b,0,none⟩),vp,.int .i64 long] w fun e w' =>
   (((fu k I n).length < k∧e = .returned (.tuple #[.string ⟨#[]⟩,.int .i64 50])) ∨ ((fu k I n).length = k∧e = .returned (.tuple #[.string (joinB k I X n long),.int .i64 0])))∧PP w' b sb f1 f2 g k m∧Gs (fun i => i = f1 ∨ i = f2) w w':=by
 have HA:=hide (And.intro hI hX)
 have HP:=hide h
 have HX:=hide hP
 clear h hP hI hX
 go_enter Tryz.func237,Tryz.ntmps237
 go_wp2_with fail
 refine (fault_ok HP.out k1 km hn HX.out hl HA.out.1 HA.out.2).mono ?_
 rintro e w1 ⟨rfl,hb1⟩
 have HB1:=hide hb1
 clear hb1
 go_wp2_with fail
 refine (ljoin_any (HP.out.below HB1.out) k1 km hn (HX.out.below HB1.out (Nat.le_refl _)) hl HA.out.1 HA.out.2).mono ?_
 rintro e w2 ⟨⟨hlt,rfl⟩ | ⟨hlt,rfl⟩,hP2,hg2⟩
 ·have HE : Hid (PP w2 b sb f1 f2 g k m∧Gs (fun i => i = f1 ∨ i = f2) w w2):=⟨hP2,(Gs.of_below _ HB1.out).trans hg2⟩
  clear hP2 hg2
  go_wp2
  exact bodyPost_ret (v:=.tuple #[.string ⟨#[]⟩,.int .i64 50]) (by simp [results,Tryz.results237,go_sem]) rfl ⟨.inl ⟨hlt,rfl⟩,HE.out⟩
 ·have HE : Hid (PP w2 b sb f1 f2 g k m∧Gs (fun i => i = f1 ∨ i = f2) w w2):=⟨hP2,(Gs.of_below _ HB1.out).trans hg2⟩
  clear hP2 hg2
  go_wp2
  exact bodyPost_ret (v:=.tuple #[.string (joinB k I X n long),.int .i64 0]) (by simp [results,Tryz.results237,go_sem]) rfl ⟨.inr ⟨hlt,rfl⟩,HE.out⟩

end Go.Proofs.YtagijldedngcoaaGreatDoor.Zq


/-
  Contracts of the program and of the statements (part 3 of 28).
-/
import Derived.Test.YtagijldedngcoaaGreatDoorOl1
import Derived.Test.YtagijldedngcoaaGreatDoorOl2
import Derived.Test.YtagijldedngcoaaGreatDoorRows
import Derived.Laws.IdiomStrings
import Derived.OwnWalk
import Derived.WalkMore
import Derived.Laws.AppendOwnNone
import Derived.Deep.RegionHeldLaw
import Derived.Deep.DeepCutAuto
set_option maxRecDepth 100000
set_option maxHeartbeats 1600000

namespace Go.Proofs.YtagijldedngcoaaGreatDoor.Zq.Fd
open Go.RowKit Go.Lib

/-! ### Plain mathematics -/
def strOf (l : List UInt8) : ByteArray:=⟨l.toArray⟩
theorem strOf_size (l : List UInt8) : (strOf l).size = l.length:=by simp [strOf,ByteArray.size]
theorem strOf_toList (l : List UInt8) : (strOf l).data.toList = l:=by simp [strOf]
def xorL (a b : List UInt8) : List UInt8:=List.zipWith (· ^^^ ·) a b
def mulB (c : Nat) (x : UInt8) : UInt8:=(prod x.toNat c).toUInt8
def byL (s : List UInt8) (c : Nat) : List UInt8:=s.map (mulB c)
theorem mulB_toNat (c : Nat) (x : UInt8) : (mulB c x).toNat = prod x.toNat c:=by
 rw [mulB,Nat.toUInt8,UInt8.toNat_ofNat']
 exact Nat.mod_eq_of_lt (prod_lt _ _)
theorem xorL_length (a b : List UInt8) (h : a.length = b.length) : (xorL a b).length = a.length:=by simp [xorL,h]
theorem byL_length (s : List UInt8) (c : Nat) : (byL s c).length = s.length:=by simp [byL]
def st (R L : List UInt8) (j : Nat) : List UInt8:=R.take j ++ L.drop j
theorem st_zero (R L : List UInt8) : st R L 0 = L:=by simp [st]
theorem st_all (R L : List UInt8) (h : R.length = L.length) : st R L L.length = R:=by simp [st,← h]
theorem st_length (R L : List UInt8) (h : R.length = L.length) (j : Nat) : (st R L j).length = L.length:=by simp [st]; omega
theorem st_get (R L : List UInt8) (h : R.length = L.length) (j : Nat) (hj : j < L.length) : (st R L j)[j]? = some L[j]:=by
 rw [st,List.getElem?_append_right (by rw [List.length_take]; omega),List.length_take,Nat.min_eq_left (by omega),Nat.sub_self,List.getElem?_drop,Nat.add_zero,List.getElem?_eq_getElem hj]
theorem st_set (R L : List UInt8) (h : R.length = L.length) (j : Nat) (hj : j < L.length) : (st R L j).set j (R[j]'(by omega)) = st R L (j + 1):=by
 rw [st,st,List.set_append_right _ _ (by rw [List.length_take]; omega),List.length_take,Nat.min_eq_left (by omega),Nat.sub_self,List.drop_eq_getElem_cons hj,List.set_cons_zero,List.take_succ_eq_append_getElem (by omega),List.append_assoc]
 rfl

theorem get_some {α : Type} (l : List α) (j : Nat) (h : j < l.length) : ∃ x,l[j]? = some x:=⟨_,List.getElem?_eq_getElem h⟩
theorem st_get2 {R L : List UInt8} (h : R.length = L.length) {j : Nat} {x : UInt8} (hx : L[j]? = some x) : (st R L j)[j]? = some x:=by
 obtain ⟨hj,rfl⟩:=List.getElem?_eq_some_iff.1 hx
 exact st_get R L h j hj
theorem st_set2 {R L : List UInt8} (h : R.length = L.length) {j : Nat} {z : UInt8} (hz : R[j]? = some z) : (st R L j).set j z = st R L (j + 1):=by
 obtain ⟨hj,rfl⟩:=List.getElem?_eq_some_iff.1 hz
 exact st_set R L h j (by omega)
theorem xorL_get2 {a b : List UInt8} {j : Nat} {x y : UInt8} (hx : a[j]? = some x) (hy : b[j]? = some y) : (xorL a b)[j]? = some (x ^^^ y):=by
 rw [xorL,List.getElem?_zipWith,hx,hy]
theorem byL_get2 {s : List UInt8} (c : Nat) {j : Nat} {y : UInt8} (hy : s[j]? = some y) : (byL s c)[j]? = some (mulB c y):=by
 rw [byL,List.getElem?_map,hy]
 rfl

/-! ### A row of bytes -/
def BR (w : World) (g : Nat) (L : List UInt8) : Prop:=∃ (Z : List Value) (fr : Nat × Nat),w.heap[g]? = some (.cells (byteCells L ++ Z).toArray 5 fr)∧∀ j,j < L.length→w.frozen? ⟨g,j,none⟩ = false
section
variable {w w' : World} {g : Nat} {L : List UInt8}
theorem BR.lt (h : BR w g L) : g < w.heap.size:=by obtain ⟨_,_,h,_⟩:=h; exact lt_of_block h
theorem BR.cell (h : BR w g L) (j : Nat) (x : UInt8) (hx : L[j]? = some x) : w.cell? ⟨g,j,none⟩ = some (.int .u8 ((x.toNat : Nat) : Int)):=by
 obtain ⟨Z,fr,h,_⟩:=h
 have hj:=(List.getElem?_eq_some_iff.1 hx).1
 rw [cell_of_row w g j _ _ _ h,List.getElem?_toArray,List.getElem?_append_left (by rw [byteCells_length]; exact hj),byteCells,List.getElem?_map,hx]
 rfl
theorem BR.free (h : BR w g L) (j : Nat) (hj : j < L.length) : w.frozen? ⟨g,j,none⟩ = false:=by obtain ⟨_,_,_,h⟩:=h; exact h j hj
theorem BR.of_block (h : BR w g L) (hb : w'.heap[g]? = w.heap[g]?) : BR w' g L:=by
 obtain ⟨Z,fr,h1,h2⟩:=h
 exact ⟨Z,fr,hb.trans h1,fun j hj => (World.frozen?_of_block (a:=⟨g,j,none⟩) hb).trans (h2 j hj)⟩
theorem BR.drew (h : BR w g L) : BR w.drew g L:=h
theorem BR.set (h : BR w g L) (j : Nat) (hj : j < L.length) (x : UInt8) : BR (w.setCell ⟨g,j,none⟩ (.int .u8 ((x.toNat : Nat) : Int))) g (L.set j x):=by
 obtain ⟨Z,fr,h1,h2⟩:=h
 refine ⟨Z,fr,?_,fun k hk => ?_⟩
 ·rw [heap_set_list _ h1,List.set_append_left _ _ (by rw [byteCells_length]; exact hj),byteCells,byteCells,List.map_set]
 ·have:=h2 k (by simpa using hk)
  simp [this]
theorem BR.str (h : BR w g L) (cap : Nat) : (convert 79 9 (.slice (some ⟨g,0,none⟩) L.length cap)).run Tryz.prog w = .ok (.string (strOf L)) w:=by
 refine run_convert_bytes_back w 79 9 5 ⟨g,0,none⟩ cap L Tryz.underlying79 Tryz.underlying5 Tryz.underlying9 (fun j hj => ?_)
 rw [Addr.add_mid,Nat.zero_add]
 exact h.cell j _ (List.getElem?_eq_getElem hj)
theorem BR.str_all (h : BR w g L) (cap n : Nat) (hn : n = L.length) : (convert 79 9 (.slice (some ⟨g,0,none⟩) n cap)).run Tryz.prog w = .ok (.string (strOf L)) w:=by subst hn; exact h.str cap
theorem BR.made {B n : Nat} (h : w.ownsRow B 5 1 (.slice (some ⟨g,0,none⟩) n n) n (madeCells #[.int .u8 0] n).toList) : BR w g (List.replicate n 0):=by
 obtain ⟨h1,h2 | ⟨g',cap,cur,hv,hb,hg,_,_,hs,ht⟩⟩:=h
 ·simp at h2
 ·simp only [Value.slice.injEq,Option.some.injEq,Addr.mk.injEq,and_true,true_and] at hv
  obtain ⟨rfl,rfl⟩:=hv
  have e : cur.toList = byteCells (List.replicate n 0):=by
   rw [List.take_of_length_le (by simp [hs]),toList_madeCells_one] at ht
   rw [ht]
   simp [byteCells]
  refine ⟨[],(0,0),?_,fun j _ => frozen_of_row w g j _ _ hg⟩
  rw [List.append_nil,← e]
  simpa using hg
theorem BR.turned (s : ByteArray) (cap : Nat) (fr : Nat × Nat) (hs : s.size ≤ cap) (hfr : fr.1 = (bytesRow s cap).size) (h : w.heap[g]? = some (.cells (bytesRow s cap) 5 fr)) : BR w g s.data.toList:=by
 have e : bytesRow s cap = (byteCells s.data.toList ++ List.replicate (cap - s.size) (Value.int .u8 0)).toArray:=by
  apply Array.toList_inj.1
  simp [bytesRow,byteCells]
 have hz : (bytesRow s cap).size = cap:=by simp [bytesRow]; omega
 refine ⟨List.replicate (cap - s.size) (.int .u8 0),fr,by rw [← e]; exact h,fun j hj => ?_⟩
 have hj' : j < cap:=by rw [← Lib.size_eq] at hj; omega
 simp [World.frozen?,h]
 intro h1
 omega
end
end Go.Proofs.YtagijldedngcoaaGreatDoor.Zq.Fd

namespace Go.Proofs.YtagijldedngcoaaGreatDoor.Zq.Fd
open Go.RowKit Go.Lib

section
variable {w : World}
end
end Go.Proofs.YtagijldedngcoaaGreatDoor.Zq.Fd

namespace Go.Proofs.YtagijldedngcoaaGreatDoor.Zq.Fd
open Go.RowKit Go.Lib

theorem ix (s : ByteArray) (j : Nat) (h : j < s.size) (w : World) : (Instr.index 9 (.string s) (.int .i64 (j : Int))).run Tryz.prog w = .ok (.int .u8 (((s.data.toList[j]'(by rw [← Lib.size_eq]; exact h)).toNat : Nat) : Int)) w:=by
 rw [run_index_string w 9 s .i64 j Tryz.underlying9,dif_pos ⟨by omega,by omega⟩]
 rfl
theorem ix2 {s : ByteArray} {j : Nat} {y : UInt8} (h : s.data.toList[j]? = some y) (w : World) : (Instr.index 9 (.string s) (.int .i64 (j : Int))).run Tryz.prog w = .ok (.int .u8 ((y.toNat : Nat) : Int)) w:=by
 obtain ⟨hj,rfl⟩:=List.getElem?_eq_some_iff.1 h
 exact ix s j (by rw [Lib.size_eq]; exact hj) w
theorem u8_xor (x y : UInt8) : bits .xor .u8 (x.toNat : Int) (y.toNat : Int) = (((x ^^^ y).toNat : Nat) : Int):=by rw [xor_u8 _ _ x.toNat_lt y.toNat_lt,UInt8.toNat_xor]
theorem Tryz.info5 : (Tryz.prog.info? 5).map (fun i => (i.zero,i.size,i.bytes)) = some (some (.int .u8 0),1,1):=by kernel_rfl

end Go.Proofs.YtagijldedngcoaaGreatDoor.Zq.Fd

namespace Go.Proofs.YtagijldedngcoaaGreatDoor.Zq.Fd
open Go.RowKit Go.Lib

theorem _root_.Go.Proofs.YtagijldedngcoaaGreatDoor.Zq.TB.keep {w w' : World} {t g : Nat} {L : List UInt8} (h : TB w t) (hB : BR w g L) (hg : w.grownBy w' (some g)) : TB w' t:=by
 refine h.of_block (hg.block t h.lt ?_)
 intro e
 cases e
 obtain ⟨Z,fr,h1,_⟩:=hB
 have h2:=h1.symm.trans h
 simp at h2

theorem addP_any {w : World} {t g cap : Nat} {L : List UInt8} (hT : TB w t) (hB0 : BR w g L) (s : ByteArray) (hs : s.size = L.length) (c : Nat) (hc : c < 256) (hm : s.size ≤ 140737488355328) :
  Calls Tryz.prog 310 #[.pointer (some ⟨t,0,none⟩),.slice (some ⟨g,0,none⟩) L.length cap,.string s,.int .i64 c] w fun e w' => e = .returned (.tuple #[])∧BR w' g (xorL L (byL s.data.toList c))∧w.grownBy w' (some g):=by
 have hl : L.length = s.data.toList.length:=by rw [← Lib.size_eq,hs]
 have hRl:=xorL_length L (byL s.data.toList c) (by rw [byL_length]; exact hl)
 have HGT : Hid (∀ j x y,L[j]? = some x→s.data.toList[j]? = some y→(xorL L (byL s.data.toList c))[j]? = some (x ^^^ mulB c y)):=fun j x y hx hy => xorL_get2 hx (byL_get2 c hy)
 obtain ⟨n,hn⟩ : ∃ n,n = L.length:=⟨_,rfl⟩
 rw [← hn]
 obtain ⟨R,hR⟩ : ∃ R,xorL L (byL s.data.toList c) = R:=⟨_,rfl⟩
 rw [hR] at hRl HGT ⊢
 clear hR
 have HN : Hid _:=hn
 have HSZ : Hid _:=hs
 have HLL : Hid _:=hl
 have hnm : n ≤ 140737488355328:=by omega
 clear hn hs hm hl
 go_enter Tryz.func310,Tryz.ntmps310
 go_wp2
 go_loopw [11] (fun i wr => ∃ j : Nat,j ≤ n∧i = .int .i64 j∧BR wr g (st R L j)∧w.grownBy wr (some g)) (fun i _ => n - (RowKit.intOf i).toNat)
 case atStart => exact ⟨0,Nat.zero_le _,rfl,by rw [st_zero]; exact hB0,gb_refl _ _⟩
 case round =>
  obtain ⟨j,hj,rfl,hB,hg⟩:=hrel
  have hTr:=hT.keep hB0 hg
  by_cases hlt : j < n
  ·have hjl : j < L.length:=by rw [← HN.out]; exact hlt
   obtain ⟨x,hx⟩:=get_some L j hjl
   obtain ⟨y,hy⟩:=get_some s.data.toList j (by rw [← HLL.out]; exact hjl)
   have hz:=HGT.out j x y hx hy
   have cj:=hB.cell j _ (st_get2 hRl hx)
   have hf:=hB.free j (by rw [st_length _ _ hRl]; exact hjl)
   have hix:=ix2 hy
   have S:=hB.set j (by rw [st_length _ _ hRl]; exact hjl) (x ^^^ mulB c y)
   rw [st_set2 hRl hz] at S
   have hxx:=u8_xor x (mulB c y)
   rw [mulB_toNat] at hxx
   have hpl:=prod_lt y.toNat c
   have HS : Hid _:=S
   have HG : Hid _:=hg
   have HPP : Hid (∀ (v : Value) (w : World),v = .int .i64 ((y.toNat : Nat) : Int)→TB w t→Calls Tryz.prog 319 #[.pointer (some ⟨t,0,none⟩),v,.int .i64 (c : Int)] w fun e w' => e = .returned (.int .i64 ((prod y.toNat c : Nat) : Int))∧∃ m,w' = w.drewN m):=fun v w e h => by subst e; exact product_any h y.toNat c y.toNat_lt hc
   have hwy : IntKind.i64.wrap ((y.toNat : Nat) : Int) = ((y.toNat : Nat) : Int):=wraps_i64 _ (by omega) (by have:=y.toNat_lt; omega)
   have hwp : IntKind.u8.wrap ((prod y.toNat c : Nat) : Int) = ((prod y.toNat c : Nat) : Int):=wraps_u8 _ (by omega) (by omega)
   have hxl:=y.toNat_lt
   have hTd : TB wr.drew t:=hTr
   have htg : t ≠ g:=by
    intro e
    subst e
    obtain ⟨Z,fr,h1,_⟩:=hB
    have h2:=h1.symm.trans hTr
    simp at h2
   have hTs : ∀ (k : Nat) (v : Value),TB ((wr.drewN k).setCell ⟨g,j,none⟩ v) t:=fun k v => hTr.of_block (heap_setCell_other (wr.drewN k) _ _ _ htg)
   clear S hB hg hB0 hT hx hy hz
   generalize x ^^^ mulB c y = z at *
   generalize prod y.toNat c = pr at *
   have b0 : (0 : Int) ≤ (j : Int):=by omega
   have b1 : (j : Int) < (n : Int):=by omega
   go_wp2
   go_region_with (go_at_call 319; refine (HPP.out _ _ (by with_reducible rfl) (by first | assumption | exact hTd)).mono ?_; rintro e w2 ⟨rfl,m,rfl⟩)
   all_goals
    go_wp2
    go_roundw
    case rel => exact ⟨j + 1,by omega,by go_num,HS.out,gb_trans (gb_drewN HG.out _) (gb_set _ _ _ _)⟩
    case measure => simp [RowKit.intOf]; omega
  ·obtain rfl : j = n:=by omega
   have e:=st_all R L hRl
   rw [← HN.out] at e
   rw [e] at hB
   go_wp2
   go_end0
   exact ⟨rfl,hB,hg⟩
end Go.Proofs.YtagijldedngcoaaGreatDoor.Zq.Fd

namespace Go.Proofs.YtagijldedngcoaaGreatDoor.Zq.Fd
open Go.RowKit Go.Lib

/-! ### Lists in memory -/
def TX (w : World) (v : Value) (n : Nat) (X : Nat→ByteArray) : Prop :=
 ∃ a c,v = .slice a n c∧(n = 0 ∨ ∃ bl off,a = some ⟨bl,off,none⟩∧bl < w.heap.size∧∀ i,i < n→w.cell? ⟨bl,off + i,none⟩ = some (.string (X i)))
def NX (w : World) (v : Value) (n : Nat) (Z : Nat→Int) : Prop :=
 ∃ a c,v = .slice a n c∧(n = 0 ∨ ∃ bl off,a = some ⟨bl,off,none⟩∧bl < w.heap.size∧∀ i,i < n→w.cell? ⟨bl,off + i,none⟩ = some (.int .i64 (Z i)))

theorem _root_.Go.Proofs.YtagijldedngcoaaGreatDoor.Zq.F.not_here {w : World} {f bl o : Nat} {v : Value} (hF : F w f) (hc : w.cell? ⟨bl,o,none⟩ = some v) (hv : (∃ s,v = .string s) ∨ ∃ z,v = .int .i64 z) : bl ≠ f:=by
 have key : ∀ d m,FB w f d m→(∃ p,m = .pointer p)→bl ≠ f:=by
  rintro d _ h ⟨p,rfl⟩ e
  subst e
  rw [cell_of_row w bl o _ _ _ h] at hc
  simp only [fCells] at hc
  rcases o with _ | _ | _ | _ | o
  all_goals
   rcases hv with ⟨s,rfl⟩ | ⟨z,rfl⟩ <;> simp at hc
 rcases hF with h | ⟨t,_,h,_⟩
 ·exact key _ _ h ⟨_,rfl⟩
 ·exact key _ _ h ⟨_,rfl⟩
theorem TX.kept {w w' : World} {f n : Nat} {v : Value} {X : Nat→ByteArray} (h : TX w v n X) (hF : F w f) (hg : w.grownBy w' (some f)) : TX w' v n X:=by
 obtain ⟨a,c,rfl,h⟩:=h
 refine ⟨a,c,rfl,h.imp_right ?_⟩
 rintro ⟨bl,off,ha,hbl,hc⟩
 by_cases h0 : 0 < n
 ·have hne:=hF.not_here (hc 0 h0) (.inl ⟨_,rfl⟩)
  exact ⟨bl,off,ha,Nat.lt_of_lt_of_le hbl hg.size,fun i hi => (cell_congr (hg.block bl hbl (by simp; exact hne))).trans (hc i hi)⟩
 ·exact ⟨bl,off,ha,Nat.lt_of_lt_of_le hbl hg.size,fun i hi => absurd hi (by omega)⟩
theorem NX.kept {w w' : World} {f n : Nat} {v : Value} {Z : Nat→Int} (h : NX w v n Z) (hF : F w f) (hg : w.grownBy w' (some f)) : NX w' v n Z:=by
 obtain ⟨a,c,rfl,h⟩:=h
 refine ⟨a,c,rfl,h.imp_right ?_⟩
 rintro ⟨bl,off,ha,hbl,hc⟩
 by_cases h0 : 0 < n
 ·have hne:=hF.not_here (hc 0 h0) (.inr ⟨_,rfl⟩)
  exact ⟨bl,off,ha,Nat.lt_of_lt_of_le hbl hg.size,fun i hi => (cell_congr (hg.block bl hbl (by simp; exact hne))).trans (hc i hi)⟩
 ·exact ⟨bl,off,ha,Nat.lt_of_lt_of_le hbl hg.size,fun i hi => absurd hi (by omega)⟩
theorem TX.below {w w' : World} {n : Nat} {v : Value} {X : Nat→ByteArray} (h : TX w v n X) (hb : Below w.heap.size w w') : TX w' v n X:=by
 obtain ⟨a,c,rfl,h⟩:=h
 refine ⟨a,c,rfl,h.imp_right ?_⟩
 rintro ⟨bl,off,ha,hbl,hc⟩
 exact ⟨bl,off,ha,Nat.lt_of_lt_of_le hbl hb.size,fun i hi => (hb.cell (p:=⟨bl,off + i,none⟩) hbl).trans (hc i hi)⟩
theorem NX.below {w w' : World} {n : Nat} {v : Value} {Z : Nat→Int} (h : NX w v n Z) (hb : Below w.heap.size w w') : NX w' v n Z:=by
 obtain ⟨a,c,rfl,h⟩:=h
 refine ⟨a,c,rfl,h.imp_right ?_⟩
 rintro ⟨bl,off,ha,hbl,hc⟩
 exact ⟨bl,off,ha,Nat.lt_of_lt_of_le hbl hb.size,fun i hi => (hb.cell (p:=⟨bl,off + i,none⟩) hbl).trans (hc i hi)⟩

/-! ### Mixtures in plain mathematics -/
def mixAt (N : Nat) (X : Nat→ByteArray) (C : Nat→Nat) : Nat→List UInt8
 | 0 => List.replicate N 0
 | j + 1 => xorL (mixAt N X C j) (byL (X j).data.toList (C j))
theorem mixAt_length (N n : Nat) (X : Nat→ByteArray) (C : Nat→Nat) (h : ∀ i,i < n→(X i).size = N) : ∀ j,j ≤ n→(mixAt N X C j).length = N
 | 0,_ => by simp [mixAt]
 | j + 1,hj => by
  have ih:=mixAt_length N n X C h j (by omega)
  rw [mixAt,xorL_length _ _ (by rw [ih,byL_length,← Lib.size_eq,h j (by omega)]),ih]

def elB (Z : Nat→Int) (j : Nat) : Bool:=allB (fun i => isEl (Z i)) j
def szB (X : Nat→ByteArray) (j : Nat) : Bool:=allB (fun i => (X i).size == (X 0).size) j
theorem elB_succ (Z : Nat→Int) (j : Nat) : elB Z (j + 1) = (isEl (Z j) && elB Z j):=rfl
theorem szB_succ (X : Nat→ByteArray) (j : Nat) : szB X (j + 1) = ((X j).size == (X 0).size && szB X j):=rfl
def faultC (n m : Nat) (X : Nat→ByteArray) (Z : Nat→Int) : Int:=if n = m then (if szB X n then (if elB Z n then 0 else 1) else 4) else 4

/-! ### Scale -/
theorem gb_new {w w1 w2 : World} {f g : Nat} (h : w.grownBy w1 (some f)) (k : w1.grownBy w2 (some g)) (hg : w.heap.size ≤ g) : w.grownBy w2 (some f) :=
 ⟨k.os.trans h.os,k.tape.trans h.tape,k.output.trans h.output,Nat.le_trans h.size k.size,fun i hi hne => (k.block i (Nat.lt_of_lt_of_le hi h.size) (by simp; omega)).trans (h.block i hi hne)⟩
theorem gb_none {w w1 : World} {row : Option Nat} (h : w.grownBy w1 none) : w.grownBy w1 row:=⟨h.os,h.tape,h.output,h.size,fun i hi _ => h.block i hi (by simp)⟩
theorem _root_.Go.Proofs.YtagijldedngcoaaGreatDoor.Zq.F.row {w w' : World} {f g : Nat} {L : List UInt8} (h : F w f) (hB : BR w g L) (hg : w.grownBy w' (some g)) : F w' f:=by
 obtain ⟨Z,fr,h1,_⟩:=hB
 exact h.set h1 (by decide) (by decide) hg
theorem BR.field {w w' : World} {f g : Nat} {L : List UInt8} (h : BR w g L) (hF : F w f) (hg : w.grownBy w' (some f)) : BR w' g L:=by
 refine h.of_block (hg.block g h.lt ?_)
 intro e
 cases e
 obtain ⟨Z,fr,h1,_⟩:=h
 rcases hF with h2 | ⟨_,_,h2,_⟩
 ·have:=h1.symm.trans h2
  simp at this
 ·have:=h1.symm.trans h2
  simp at this

end Go.Proofs.YtagijldedngcoaaGreatDoor.Zq.Fd

namespace Go.Proofs.YtagijldedngcoaaGreatDoor.Zq.Fd
open Go.RowKit Go.Lib

theorem szB_at (X : Nat→ByteArray) (n j : Nat) (h : szB X n = true) (hj : j < n) : (X j).size = (X 0).size:=by
 have:=allB_spec _ _ h j hj
 simpa using this
theorem elB_at (Z : Nat→Int) (n j : Nat) (h : elB Z n = true) (hj : j < n) : isEl (Z j) = true:=allB_spec _ _ h j hj
theorem szB_false (X : Nat→ByteArray) : ∀ (n j : Nat),j < n→(X j).size ≠ (X 0).size→szB X n = false
 | n + 1,j,hj,h => by
  rw [szB_succ]
  by_cases e : j = n
  ·subst e; rw [show ((X j).size == (X 0).size) = false by simpa using h]; rfl
  ·rw [szB_false X n j (by omega) h,Bool.and_false]

theorem fault_any {w : World} {vl vc : Value} {n m : Nat} {X : Nat→ByteArray} {Z : Nat→Int} (hl : TX w vl n X) (hc : NX w vc m Z) (hn : n ≤ 140737488355328) (hm : m ≤ 140737488355328) :
  Calls Tryz.prog 309 #[vl,vc] w fun e w' => e = .returned (.int .i64 (faultC n m X Z))∧w' = w:=by
 obtain ⟨al,cl,rfl,HL⟩:=hl
 obtain ⟨ac,cc,rfl,HC⟩:=hc
 have KL : Hid _:=HL
 have KC : Hid _:=HC
 clear HL HC
 by_cases hnm : n = m
 ·subst hnm
  obtain ⟨r,hr⟩ : ∃ r,r = faultC n n X Z:=⟨_,rfl⟩
  rw [← hr]
  rw [faultC,if_pos rfl] at hr
  have HR : Hid _:=hr
  clear hr
  go_enter Tryz.func309,Tryz.ntmps309
  go_wp2
  go_step3
  go_wp2
  go_step3
  go_wp2
  go_loop [5,15] (fun c i => ∃ j : Nat,j ≤ n∧i = .int .i64 j∧c = .int .i64 (if elB Z j then 0 else 1)∧szB X j = true) (fun _ i => n - (RowKit.intOf i).toNat)
  case atStart => exact ⟨0,Nat.zero_le _,rfl,rfl,rfl⟩
  case round =>
   obtain ⟨j,hj,rfl,rfl,hsz⟩:=hrel
   have HSZ : Hid _:=hsz
   clear hsz
   by_cases hlt : j < n
   ·obtain ⟨bl,off,rfl,hbl,hcl⟩:=KL.out.resolve_left (by omega)
    obtain ⟨bc,oc,rfl,hbc,hcc⟩:=KC.out.resolve_left (by omega)
    have c1:=hcl j hlt
    have c0:=hcl 0 (by omega)
    have cz:=hcc j hlt
    rw [Nat.add_zero] at c0
    have b0 : (0 : Int) ≤ (j : Int):=by omega
    have b1 : (j : Int) < (n : Int):=by omega
    have b2 : (0 : Int) < (n : Int):=by omega
    clear hcl hcc
    by_cases hs : (X j).size = (X 0).size
    ·have hs' : (((X j).size : Int) != ((X 0).size : Int)) = false:=by simp; omega
     have HS2 : Hid (szB X (j + 1) = true):=by
      show _ = _
      rw [szB_succ,HSZ.out,show ((X j).size == (X 0).size) = true by simpa using hs]
      rfl
     have HE:=elB_succ Z j
     have HEE : Hid _:=HE
     clear hs HE
     cases he : isEl (Z j)
     ·have e1 : elB Z (j + 1) = false:=by rw [HEE.out,he]; rfl
      go_wp2_with (go_at_call 280; refine (isElement_any _ _).mono ?_; rintro e w1 ⟨rfl,rfl⟩)
      go_wp2
      exact ⟨⟨j + 1,by omega,by go_num,by rw [e1]; rfl,HS2.out⟩,by simp [RowKit.intOf]; omega⟩
     ·have e1 : elB Z (j + 1) = elB Z j:=by rw [HEE.out,he]; rfl
      go_wp2_with (go_at_call 280; refine (isElement_any _ _).mono ?_; rintro e w1 ⟨rfl,rfl⟩)
      go_wp2
      exact ⟨⟨j + 1,by omega,by go_num,by rw [e1],HS2.out⟩,by simp [RowKit.intOf]; omega⟩
    ·have hs' : (((X j).size : Int) != ((X 0).size : Int)) = true:=by simp; omega
     have hr4 : r = 4:=by rw [HR.out,szB_false X n j hlt hs]; rfl
     subst hr4
     clear hs HR
     go_wp2
     try rw [Exit.noGoto_ret]
     go_ret
     exact ⟨rfl,rfl⟩
   ·obtain rfl : j = n:=by omega
    have hr5 : (if elB Z j then (0 : Int) else 1) = r:=by rw [HR.out,HSZ.out]; rfl
    rw [hr5]
    clear HR
    go_wp2
    try rw [Exit.noGoto_ret]
    go_ret
    exact ⟨rfl,rfl⟩
 ·rw [faultC,if_neg hnm]
  have h : ((n : Int) != (m : Int)) = true:=by simp; omega
  go_enter Tryz.func309,Tryz.ntmps309
  go_wp2
  go_step3
  go_wp2
  try rw [Exit.noGoto_ret]
  go_ret
  exact ⟨rfl,rfl⟩

theorem mix_bad {w : World} {vl vc fv : Value} {n m : Nat} {X : Nat→ByteArray} {Z : Nat→Int} (hl : TX w vl n X) (hc : NX w vc m Z) (hn : n ≤ 140737488355328) (hm : m ≤ 140737488355328) (h0 : faultC n m X Z ≠ 0) :
  Calls Tryz.prog 288 #[fv,vl,vc] w fun e w' => e = .returned (.tuple #[.string ⟨#[]⟩,.int .i64 (faultC n m X Z)])∧w' = w:=by
 have HF : Hid _:=fault_any hl hc hn hm
 clear hl hc hn hm
 generalize faultC n m X Z = r at *
 have h0' : (r != 0) = true:=by simpa using h0
 go_enter Tryz.func288,Tryz.ntmps288
 go_wp2_with fail
 refine Calls.mono HF.out ?_
 rintro e w1 ⟨rfl,rfl⟩
 go_wp2
 go_ret2
 exact ⟨rfl,rfl⟩
theorem mix_none {w : World} {vl vc fv : Value} {X : Nat→ByteArray} {Z : Nat→Int} (hl : TX w vl 0 X) (hc : NX w vc 0 Z) :
  Calls Tryz.prog 288 #[fv,vl,vc] w fun e w' => e = .returned (.tuple #[.string ⟨#[]⟩,.int .i64 0])∧w' = w:=by
 have HF : Hid _:=fault_any hl hc (by omega) (by omega)
 have e0 : faultC 0 0 X Z = 0:=rfl
 rw [e0] at HF
 obtain ⟨al,cl,rfl,_⟩:=hl
 clear hc
 go_enter Tryz.func288,Tryz.ntmps288
 go_wp2_with fail
 refine Calls.mono HF.out ?_
 rintro e w1 ⟨rfl,rfl⟩
 go_wp2
 go_ret2
 exact ⟨rfl,rfl⟩

def MX (w : World) (f : Nat) (vl vc : Value) (n : Nat) (X : Nat→ByteArray) (Z : Nat→Int) (L : List UInt8) (wr : World) : Prop :=
 F wr f∧BR wr w.heap.size L∧TX wr vl n X∧NX wr vc n Z∧w.grownBy wr (some f)

theorem TX.cell_at {w : World} {bl off n c : Nat} {X : Nat→ByteArray} (h : TX w (.slice (some ⟨bl,off,none⟩) n c) n X) (j : Nat) (hj : j < n) : w.cell? ⟨bl,off + j,none⟩ = some (.string (X j)):=by
 obtain ⟨a,c',e,h⟩:=h
 simp only [Value.slice.injEq,true_and] at e
 obtain ⟨rfl,rfl⟩:=e
 rcases h with h | ⟨bl',off',ha,_,hc⟩
 ·omega
 ·simp only [Option.some.injEq,Addr.mk.injEq,and_true] at ha
  obtain ⟨rfl,rfl⟩:=ha
  exact hc j hj
theorem NX.cell_at {w : World} {bl off n c : Nat} {X : Nat→Int} (h : NX w (.slice (some ⟨bl,off,none⟩) n c) n X) (j : Nat) (hj : j < n) : w.cell? ⟨bl,off + j,none⟩ = some (.int .i64 (X j)):=by
 obtain ⟨a,c',e,h⟩:=h
 simp only [Value.slice.injEq,true_and] at e
 obtain ⟨rfl,rfl⟩:=e
 rcases h with h | ⟨bl',off',ha,_,hc⟩
 ·omega
 ·simp only [Option.some.injEq,Addr.mk.injEq,and_true] at ha
  obtain ⟨rfl,rfl⟩:=ha
  exact hc j hj
theorem TX.row {w w' : World} {n g : Nat} {v : Value} {X : Nat→ByteArray} (h : TX w v n X) {w0 : World} (h0 : TX w0 v n X) (hg : w.grownBy w' (some g)) (hg0 : w0.heap.size ≤ g) : TX w' v n X:=by
 obtain ⟨a,c,rfl,h⟩:=h
 obtain ⟨a',c',e,h0⟩:=h0
 simp only [Value.slice.injEq,true_and] at e
 obtain ⟨rfl,rfl⟩:=e
 refine ⟨a,c,rfl,?_⟩
 rcases h with h | ⟨bl,off,rfl,hbl,hc⟩
 ·exact .inl h
 ·rcases h0 with h0 | ⟨bl0,off0,ha0,hbl0,hc0⟩
  ·exact .inl h0
  ·simp only [Option.some.injEq,Addr.mk.injEq,and_true] at ha0
   obtain ⟨rfl,rfl⟩:=ha0
   exact .inr ⟨bl,off,rfl,Nat.lt_of_lt_of_le hbl hg.size,fun i hi => (cell_congr (hg.block bl hbl (by simp; omega))).trans (hc i hi)⟩
theorem NX.row {w w' : World} {n g : Nat} {v : Value} {X : Nat→Int} (h : NX w v n X) {w0 : World} (h0 : NX w0 v n X) (hg : w.grownBy w' (some g)) (hg0 : w0.heap.size ≤ g) : NX w' v n X:=by
 obtain ⟨a,c,rfl,h⟩:=h
 obtain ⟨a',c',e,h0⟩:=h0
 simp only [Value.slice.injEq,true_and] at e
 obtain ⟨rfl,rfl⟩:=e
 refine ⟨a,c,rfl,?_⟩
 rcases h with h | ⟨bl,off,rfl,hbl,hc⟩
 ·exact .inl h
 ·rcases h0 with h0 | ⟨bl0,off0,ha0,hbl0,hc0⟩
  ·exact .inl h0
  ·simp only [Option.some.injEq,Addr.mk.injEq,and_true] at ha0
   obtain ⟨rfl,rfl⟩:=ha0
   exact .inr ⟨bl,off,rfl,Nat.lt_of_lt_of_le hbl hg.size,fun i hi => (cell_congr (hg.block bl hbl (by simp; omega))).trans (hc i hi)⟩

theorem mix_ok {w : World} {f n : Nat} {vl vc : Value} {X : Nat→ByteArray} {Z : Nat→Int} (hF : F w f) (hl : TX w vl n X) (hc : NX w vc n Z) (hn : n ≤ 140737488355328) (h0 : 0 < n) (hsz : szB X n = true) (hel : elB Z n = true) (hm : (X 0).size ≤ 140737488355328) :
  Calls Tryz.prog 288 #[.pointer (some ⟨f,0,none⟩),vl,vc] w fun e w' => e = .returned (.tuple #[.string (strOf (mixAt (X 0).size X (fun i => (Z i).toNat) n)),.int .i64 0])∧F w' f∧w.grownBy w' (some f):=by
 obtain ⟨i0,hi,hz0,hz1,hz2⟩:=info_parts Tryz.info5
 have HF : Hid _:=fault_any hl hc hn hn
 have e0 : faultC n n X Z = 0:=by rw [faultC,if_pos rfl,if_pos hsz,if_pos hel]
 rw [e0] at HF
 have hlt:=hF.lt
 obtain ⟨N,hN⟩ : ∃ N,N = (X 0).size:=⟨_,rfl⟩
 have hlen:=fun j hj => mixAt_length N n X (fun i => (Z i).toNat) (fun i hi => (szB_at X n i hsz hi).trans hN.symm) j hj
 have HLN : Hid _:=hlen
 have hsN : ∀ i,i < n→(X i).size = N:=fun i hi => (szB_at X n i hsz hi).trans hN.symm
 have HSN : Hid _:=hsN
 have HEL : Hid (∀ i,i < n→∃ c : Nat,Z i = c∧c < 256):=fun i hi => isEl_out _ (elB_at Z n i hel hi)
 have hTL : Hid _:=hl
 have hNC : Hid _:=hc
 rw [← hN]
 have hNm : N ≤ 140737488355328:=by omega
 obtain ⟨al,cl,rfl,HL⟩:=hl
 obtain ⟨ac,cc,rfl,HC⟩:=hc
 obtain ⟨bl,off,rfl,hbl,hcl⟩:=HL.resolve_left (by omega)
 obtain ⟨bc,oc,rfl,hbc,hcc⟩:=HC.resolve_left (by omega)
 have c0:=hcl 0 h0
 rw [Nat.add_zero] at c0
 have HN : Hid _:=hN
 have HX0 : Hid _:=hm
 have b2 : (0 : Int) < (n : Int):=by omega
 have hsz0 : (X 0).size = N:=hN.symm
 clear hsz hel hlen hsN hN hcl hcc HL HC hm e0
 generalize X 0 = x0 at *
 go_enter Tryz.func288,Tryz.ntmps288
 go_wp2_with fail
 refine Calls.mono HF.out ?_
 rintro e w1 ⟨rfl,hw1⟩
 subst w1
 go_wp2_with (first | (at_make; refine wpList_make_full _ rfl _ _ 79 rfl w.heap.size 5 i0 (.int .u8 0) 1 Tryz.underlying79 hi hz0 hz1 _ _ _ _ N rfl rfl (by simp) (by simp) (by rw [hz2]; omega) (by unfold maxLen; omega) (Nat.le_refl _) ?_))
 all_goals
 intro w0 hown0 hgrow0
 have hb0 : Below w.heap.size w w0:=(Below.refl _ _).grown hgrow0 (Nat.le_refl _) (fun k hk => by cases hk)
 have hB0:=BR.made hown0
 have hM0 : MX w f (.slice (some ⟨bl,off,none⟩) n cl) (.slice (some ⟨bc,oc,none⟩) n cc) n X Z (mixAt N X (fun i => (Z i).toNat) 0) w0 :=
  ⟨hF.below hb0 (Nat.le_refl _),hB0,TX.below hTL.out hb0,NX.below hNC.out hb0,gb_none hgrow0⟩
 have HM0 : Hid _:=hM0
 clear hown0 hz0 hz1 hz2 hi hb0 hB0 hgrow0 hM0 HF c0 hsz0
 go_wp2
 go_loopw [28] (fun i wr => ∃ j : Nat,j ≤ n∧i = .int .i64 j∧Hid (MX w f (.slice (some ⟨bl,off,none⟩) n cl) (.slice (some ⟨bc,oc,none⟩) n cc) n X Z (mixAt N X (fun i => (Z i).toNat) j) wr)) (fun i _ => n - (RowKit.intOf i).toNat)
 case atStart => exact ⟨0,Nat.zero_le _,rfl,HM0⟩
 case round =>
  clear HM0
  obtain ⟨j,hj,rfl,hM⟩:=hrel
  by_cases hlt : j < n
  ·have c1:=hM.out.2.2.1.cell_at j hlt
   have cz:=hM.out.2.2.2.1.cell_at j hlt
   obtain ⟨c,hZc,hc⟩:=HEL.out j hlt
   have HE : Hid (mixAt N X (fun i => (Z i).toNat) (j + 1) = xorL (mixAt N X (fun i => (Z i).toNat) j) (byL (X j).data.toList c)):=by
    show _ = _
    rw [mixAt,hZc]
    rfl
   rw [hZc] at cz
   have A30 : Hid (∀ w' : World,MX w f (.slice (some ⟨bl,off,none⟩) n cl) (.slice (some ⟨bc,oc,none⟩) n cc) n X Z (mixAt N X (fun i => (Z i).toNat) j) w'→Calls Tryz.prog 281 #[.pointer (some ⟨f,0,none⟩)] w' fun e w'' => ∃ t,e = .returned (.pointer (some ⟨t,0,none⟩))∧TB w'' t∧Hid (MX w f (.slice (some ⟨bl,off,none⟩) n cl) (.slice (some ⟨bc,oc,none⟩) n cc) n X Z (mixAt N X (fun i => (Z i).toNat) j) w'')∧w''.cell? ⟨bc,oc + j,none⟩ = some (.int .i64 (c : Int))):=by
    intro w' h
    refine (tables_any h.1).mono ?_
    rintro e w'' ⟨t,rfl,hT,hF',hg⟩
    have h' : MX w f (.slice (some ⟨bl,off,none⟩) n cl) (.slice (some ⟨bc,oc,none⟩) n cc) n X Z (mixAt N X (fun i => (Z i).toNat) j) w'':=⟨hF',h.2.1.field h.1 hg,h.2.2.1.kept h.1 hg,h.2.2.2.1.kept h.1 hg,gb_trans h.2.2.2.2 hg⟩
    exact ⟨t,rfl,hT,h',by rw [h'.2.2.2.1.cell_at j hlt,hZc]⟩
   have A38 : Hid (∀ (t : Nat) (w' : World),TB w' t→Hid (MX w f (.slice (some ⟨bl,off,none⟩) n cl) (.slice (some ⟨bc,oc,none⟩) n cc) n X Z (mixAt N X (fun i => (Z i).toNat) j) w')→Calls Tryz.prog 310 #[.pointer (some ⟨t,0,none⟩),.slice (some ⟨w.heap.size,0,none⟩) N N,.string (X j),.int .i64 (c : Int)] w' fun e w'' => e = .returned (.tuple #[])∧Hid (MX w f (.slice (some ⟨bl,off,none⟩) n cl) (.slice (some ⟨bc,oc,none⟩) n cc) n X Z (mixAt N X (fun i => (Z i).toNat) (j + 1)) w'')∧w''.cell? ⟨bc,oc + j,none⟩ = some (.int .i64 (c : Int))):=by
    intro t w' hT h
    have hLL:=HLN.out j hj
    have hS:=HSN.out j hlt
    have A:=addP_any (cap:=N) hT h.out.2.1 (X j) (hS.trans hLL.symm) c hc (by omega)
    rw [hLL] at A
    refine A.mono ?_
    rintro e w'' ⟨rfl,hB,hg⟩
    have h' : MX w f (.slice (some ⟨bl,off,none⟩) n cl) (.slice (some ⟨bc,oc,none⟩) n cc) n X Z (mixAt N X (fun i => (Z i).toNat) (j + 1)) w'' :=
     ⟨h.out.1.row h.out.2.1 hg,by rw [HE.out]; exact hB,h.out.2.2.1.row hTL.out hg (Nat.le_refl _),h.out.2.2.2.1.row hNC.out hg (Nat.le_refl _),gb_new h.out.2.2.2.2 hg (Nat.le_refl _)⟩
    exact ⟨rfl,h',by rw [h'.2.2.2.1.cell_at j hlt,hZc]⟩
   have hMd : MX w f (.slice (some ⟨bl,off,none⟩) n cl) (.slice (some ⟨bc,oc,none⟩) n cc) n X Z (mixAt N X (fun i => (Z i).toNat) j) wr.drew:=⟨hM.out.1,hM.out.2.1,hM.out.2.2.1,hM.out.2.2.2.1,⟨hM.out.2.2.2.2.os,hM.out.2.2.2.2.tape,hM.out.2.2.2.2.output,hM.out.2.2.2.2.size,hM.out.2.2.2.2.block⟩⟩
   have HMd : Hid _:=hMd
   clear hM hMd HE hZc
   have b0 : (0 : Int) ≤ (j : Int):=by omega
   have b1 : (j : Int) < (n : Int):=by omega
   generalize X j = xj at *
   go_wp2
   go_region_held3 (fun w' => w'.cell? ⟨bc,oc + j,none⟩ = some (.int .i64 (c : Int))) (first | assumption | exact cz)
    (first
     | (go_at_call 281; refine (A30.out _ HMd.out).mono ?_; rintro e w1 ⟨t,rfl,hT1,hM1,k1⟩)
     | (go_at_call 310; refine (A38.out _ _ hT1 hM1).mono ?_; rintro e w2 ⟨rfl,hM2,k2⟩))
   all_goals
    go_wp2
    go_roundw
    case rel => exact ⟨j + 1,by omega,by go_num,hM2⟩
    case measure => simp [RowKit.intOf]; omega
  ·obtain rfl : j = n:=by omega
   have hstr:=hM.out.2.1.str_all N N (HLN.out _ (Nat.le_refl _)).symm
   have HQ : Hid (F wr f∧w.grownBy wr (some f)):=⟨hM.out.1,hM.out.2.2.2.2⟩
   clear hM
   go_wp2
   go_ret2
   exact ⟨rfl,HQ.out⟩

def mixS (n m : Nat) (X : Nat→ByteArray) (Z : Nat→Int) : ByteArray:=if faultC n m X Z = 0 then (if n = 0 then ⟨#[]⟩ else strOf (mixAt (X 0).size X (fun i => (Z i).toNat) n)) else ⟨#[]⟩
theorem faultC_zero {n m : Nat} {X : Nat→ByteArray} {Z : Nat→Int} (h : faultC n m X Z = 0) : n = m∧szB X n = true∧elB Z n = true:=by
 unfold faultC at h
 split at h
 ·split at h
  ·split at h
   ·exact ⟨by assumption,by assumption,by assumption⟩
   ·cases h
  ·cases h
 ·cases h
theorem mix_any {w : World} {f n m : Nat} {vl vc : Value} {X : Nat→ByteArray} {Z : Nat→Int} (hF : F w f) (hl : TX w vl n X) (hc : NX w vc m Z) (hn : n ≤ 140737488355328) (hm : m ≤ 140737488355328) (hx : 0 < n→(X 0).size ≤ 140737488355328) :
  Calls Tryz.prog 288 #[.pointer (some ⟨f,0,none⟩),vl,vc] w fun e w' => e = .returned (.tuple #[.string (mixS n m X Z),.int .i64 (faultC n m X Z)])∧F w' f∧w.grownBy w' (some f):=by
 by_cases h : faultC n m X Z = 0
 ·obtain ⟨rfl,h1,h2⟩:=faultC_zero h
  rw [mixS,if_pos h,h]
  by_cases h0 : n = 0
  ·subst h0
   rw [if_pos rfl]
   refine (mix_none hl hc).mono ?_
   rintro e w' ⟨rfl,rfl⟩
   exact ⟨rfl,hF,gb_refl _ _⟩
  ·rw [if_neg h0]
   exact mix_ok hF hl hc hn (by omega) h1 h2 (hx (by omega))
 ·rw [mixS,if_neg h]
  refine (mix_bad hl hc hn hm h).mono ?_
  rintro e w' ⟨rfl,rfl⟩
  exact ⟨rfl,hF,gb_refl _ _⟩
end Go.Proofs.YtagijldedngcoaaGreatDoor.Zq.Fd

namespace Go.Proofs.YtagijldedngcoaaGreatDoor.Zq.Fd
open Go.RowKit Go.Lib

def textsOf (X : Nat→ByteArray) (n : Nat) : List Value:=(List.range n).map fun i => Value.string (X i)
theorem textsOf_length (X : Nat→ByteArray) (n : Nat) : (textsOf X n).length = n:=by simp [textsOf]
theorem textsOf_get {X : Nat→ByteArray} {n j : Nat} (h : j < n) : (textsOf X n)[j]? = some (.string (X j)):=by rw [textsOf,List.getElem?_map,List.getElem?_range h]; rfl
end Go.Proofs.YtagijldedngcoaaGreatDoor.Zq.Fd

namespace Go.Proofs.YtagijldedngcoaaGreatDoor.Zq.Fd
open Go.RowKit Go.Lib

end Go.Proofs.YtagijldedngcoaaGreatDoor.Zq.Fd


namespace Go.Proofs.YtagijldedngcoaaGreatDoor.Zq
open Go.RowKit Go.Lib

def PL (w : World) (b sb f g k m : Nat) : Prop:=w.heap[b]? = some (.cells #[.int .i64 k,.int .i64 m,.int .i64 ((k + m : Nat) : Int),.int .i64 k,.slice (some ⟨g,0,none⟩) ((k + m) * k) ((k + m) * k),.pointer (some ⟨sb,0,none⟩),.pointer (some ⟨f,0,none⟩)] 319 (0,0))
section
variable {w w' : World} {b sb f g k m : Nat}
theorem PL.lt (h : PL w b sb f g k m) : b < w.heap.size:=lt_of_block h
theorem PL.cell0 (h : PL w b sb f g k m) : w.cell? ⟨b,0,none⟩ = some (.int .i64 k):=by rw [cell_of_row w b 0 _ _ _ h]; rfl
theorem PL.cell1 (h : PL w b sb f g k m) : w.cell? ⟨b,1,none⟩ = some (.int .i64 m):=by rw [cell_of_row w b 1 _ _ _ h]; rfl
theorem PL.cell2 (h : PL w b sb f g k m) : w.cell? ⟨b,2,none⟩ = some (.int .i64 ((k + m : Nat) : Int)):=by rw [cell_of_row w b 2 _ _ _ h]; rfl
theorem PL.cell3 (h : PL w b sb f g k m) : w.cell? ⟨b,3,none⟩ = some (.int .i64 k):=by rw [cell_of_row w b 3 _ _ _ h]; rfl
theorem PL.cell4 (h : PL w b sb f g k m) : w.cell? ⟨b,4,none⟩ = some (.slice (some ⟨g,0,none⟩) ((k + m) * k) ((k + m) * k)):=by rw [cell_of_row w b 4 _ _ _ h]; rfl
theorem PL.cell5 (h : PL w b sb f g k m) : w.cell? ⟨b,5,none⟩ = some (.pointer (some ⟨sb,0,none⟩)):=by rw [cell_of_row w b 5 _ _ _ h]; rfl
theorem PL.cell6 (h : PL w b sb f g k m) : w.cell? ⟨b,6,none⟩ = some (.pointer (some ⟨f,0,none⟩)):=by rw [cell_of_row w b 6 _ _ _ h]; rfl
theorem PL.of_block (h : PL w b sb f g k m) (hb : w'.heap[b]? = w.heap[b]?) : PL w' b sb f g k m:=hb.trans h
end
structure PP (w : World) (b sb f1 f2 g k m : Nat) : Prop where
 pl : PL w b sb f2 g k m
 sp : SP w sb f1
 fl : F w f2
 kb : KB w g ((k + m) * k) (flat k (cauM k))
 ne : f1 ≠ f2
section
variable {w w' : World} {b sb f1 f2 g k m : Nat}
theorem PP.below (h : PP w b sb f1 f2 g k m) (hb : Below w.heap.size w w') : PP w' b sb f1 f2 g k m :=
 ⟨h.pl.of_block (hb.block b h.pl.lt),h.sp.below hb (Nat.le_refl _),h.fl.below hb (Nat.le_refl _),h.kb.below hb (Nat.le_refl _),h.ne⟩
theorem PP.nef (h : PP w b sb f1 f2 g k m) : b ≠ f2∧g ≠ f2∧sb ≠ f2:=by
 refine ⟨fun e => ?_,fun e => ?_,fun e => ?_⟩
 ·subst e
  have x:=h.pl
  unfold PL at x
  rcases h.fl with z | ⟨_,_,z,_⟩ <;> (unfold FB at z; rw [x] at z; simp at z)
 ·subst e
  obtain ⟨Z,x⟩:=h.kb
  rcases h.fl with z | ⟨_,_,z,_⟩ <;> (unfold FB at z; rw [x] at z; simp at z)
 ·subst e
  have x:=h.sp.b
  unfold SPB at x
  rcases h.fl with z | ⟨_,_,z,_⟩ <;> (unfold FB at z; rw [x] at z; simp at z)
end

section
variable {w w' : World} {b g k m : Nat}
end
theorem snew_bad {w : World} (k m : Int) (hm : m ≤ 9223372036854775807) (h : k < 1 ∨ m < 0 ∨ 255 - m < k) :
  Calls Tryz.prog 204 #[.int .i64 k,.int .i64 m] w fun e w' => e = .returned (.tuple #[.pointer none,.int .i64 1])∧Below w.heap.size w w':=by
 go_enter Tryz.func204,Tryz.ntmps204
 go_wp2_with fail
 refine (mnew_any _).mono ?_
 rintro e w1 ⟨sb,f,rfl,hS,hf,hsb,hb1⟩
 have HB1:=hide hb1
 clear hS hf hsb hb1
 go_wp2_with fail
 refine (cauchy_bad k m hm h).mono ?_
 rintro e w2 ⟨rfl,hb2⟩
 have HB2:=hide (below_step HB1.out hb2)
 clear HB1 hb2 h hm
 go_wp2
 exact bodyPost_ret (v:=.tuple #[.pointer none,.int .i64 1]) (by simp [results,Tryz.results204,go_sem]) rfl ⟨rfl,below_alloc HB2.out _⟩

theorem snew_ok {w : World} {k m : Nat} (k1 : 1 ≤ k) (km : k + m ≤ 255) :
  Calls Tryz.prog 204 #[.int .i64 k,.int .i64 m] w fun e w' => ∃ b sb f1 f2 g,e = .returned (.tuple #[.pointer (some ⟨b,0,none⟩),.int .i64 0])∧PP w' b sb f1 f2 g k m∧w.heap.size ≤ f2∧Below w.heap.size w w':=by
 go_enter Tryz.func204,Tryz.ntmps204
 go_wp2_with fail
 refine (mnew_any _).mono ?_
 rintro e w1 ⟨sb,f1,rfl,hS,hf,hsb,hb1⟩
 have HS1:=hide hS
 have HB1:=hide hb1
 have HF:=hide hf
 clear hS hf hsb hb1
 go_wp2_with fail
 refine (cauchy_ok HS1.out k1 km).mono ?_
 rintro e w2 ⟨g,rfl,hG,hg,hS2,hg2⟩
 have HB2:=hide (below_gb HB1.out hg2 HF.out HB1.out.size)
 obtain ⟨N,hN⟩ : ∃ N,N = (k + m) * k:=⟨_,rfl⟩
 obtain ⟨km',hkm⟩ : ∃ n,n = k + m:=⟨_,rfl⟩
 rw [← hkm] at hN
 rw [← hkm,← hN] at hG ⊢
 have X:=Bx.new w2 (km' : Int) (k : Int) (.slice (some ⟨g,0,none⟩) N N)
 have HX:=hide X
 have HS2:=hide (hS2.alloc (.cells #[.int .i64 (km' : Int),.int .i64 (k : Int),.slice (some ⟨g,0,none⟩) N N] 313))
 have HG:=hide (hG.alloc (.cells #[.int .i64 (km' : Int),.int .i64 (k : Int),.slice (some ⟨g,0,none⟩) N N] 313))
 have HB3:=hide (below_alloc HB2.out (.cells #[.int .i64 (km' : Int),.int .i64 (k : Int),.slice (some ⟨g,0,none⟩) N N] 313))
 have HE:=hide (And.intro hkm hN)
 clear HS1 HB1 HF hG hg hS2 hg2 HB2 hN hkm X
 obtain ⟨W,hW⟩ : ∃ W,W = w2.alloc (.cells #[.int .i64 (km' : Int),.int .i64 (k : Int),.slice (some ⟨g,0,none⟩) N N] 313):=⟨_,rfl⟩
 rw [← hW] at HX HS2 HG HB3
 have HW:=hide hW
 clear hW
 go_upto_region 5 with fail
 rw [← HW.out]
 have HK : Hid (∀ w',Below W.heap.size W w'→w'.cell? ⟨w2.heap.size,0,none⟩ = some (.int .i64 (km' : Int))∧w'.cell? ⟨w2.heap.size,1,none⟩ = some (.int .i64 (k : Int))∧w'.cell? ⟨w2.heap.size,2,none⟩ = some (.slice (some ⟨g,0,none⟩) N N)):=fun w' hb => ⟨(HX.out.below hb (Nat.le_refl _)).cell0,(HX.out.below hb (Nat.le_refl _)).cell1,(HX.out.below hb (Nat.le_refl _)).cell2⟩
 have HB0 : Hid (Below W.heap.size W W.drew):=(Below.refl _ _).drew
 go_region_held_law (fun wx => wx.cell? ⟨w2.heap.size,0,none⟩ = some (.int .i64 (km' : Int))∧wx.cell? ⟨w2.heap.size,1,none⟩ = some (.int .i64 (k : Int))∧wx.cell? ⟨w2.heap.size,2,none⟩ = some (.slice (some ⟨g,0,none⟩) N N))
  (first | with_reducible exact HK.out _ HB0.out | with_reducible exact HK.out _ (by assumption) | with_reducible exact HK.out _ (below_alloc (by assumption) _))
  (first
   | (go_at_call 240; refine (new_any _).mono ?_; rintro e wa ⟨rfl,hF,hba⟩; have hbA:=below_step HB0.out hba))
 all_goals
  go_wp2
  obtain ⟨rfl,rfl⟩:=HE.out
  have hlt : W.heap.size < wa.heap.size:=hF.lt
  refine bodyPost_ret (v:=.tuple #[.pointer (some ⟨wa.heap.size,0,none⟩),.int .i64 0]) (by simp [results,Tryz.results204,go_sem]) rfl ⟨wa.heap.size,sb,f1,W.heap.size,g,rfl,⟨heap_alloc_new wa _,(HS2.out.below hbA (Nat.le_refl _)).alloc _,hF.below (below_alloc (Below.refl wa.heap.size wa) _) (Nat.le_refl _),(HG.out.below hbA (Nat.le_refl _)).alloc _,by have:=HS2.out.ltf; omega⟩,HB3.out.size,below_alloc (below_step HB3.out hbA) _⟩

/-! ### Shape,Each -/
theorem shape_any {w : World} {b sb f1 f2 g k m : Nat} (h : PP w b sb f1 f2 g k m) :
  Calls Tryz.prog 253 #[.pointer (some ⟨b,0,none⟩)] w fun e w' => e = .returned (.tuple #[.int .i64 k,.int .i64 m])∧Below w.heap.size w w':=by
 have c0:=h.pl.cell0
 have c1:=h.pl.cell1
 clear h
 go_enter Tryz.func253,Tryz.ntmps253
 go_wp2
 go_quiet (fail)
 go_wp2
 exact bodyPost_ret (v:=.tuple #[.int .i64 k,.int .i64 m]) (by simp [results,Tryz.results253,go_sem]) rfl ⟨rfl,below_drew (Below.refl _ _) _⟩

def eachN (k n : Nat) : Nat:=(n + k - 1) / k
def eachR (k : Nat) (long : Int) : Int × Int:=if long < 0 ∨ 65536 < long then (0,1) else (((eachN k long.toNat : Nat) : Int),0)
theorem quo_nat (a k : Nat) : (((a : Nat) : Int).tdiv ((k : Nat) : Int)) = ((a / k : Nat) : Int):=by rw [Int.ofNat_tdiv]
theorem eachN_le {k n : Nat} (h : 1 ≤ k) : eachN k n ≤ n:=by
 unfold eachN
 rcases Nat.eq_zero_or_pos n with rfl | hn
 ·rw [Nat.div_eq_of_lt (by omega)]; exact Nat.le_refl _
 ·refine Nat.div_le_of_le_mul ?_
  have : n + k ≤ k * n + 1:=by
   obtain ⟨a,rfl⟩ : ∃ a,k = a + 1:=⟨k - 1,by omega⟩
   obtain ⟨c,rfl⟩ : ∃ c,n = c + 1:=⟨n - 1,by omega⟩
   have e : (a + 1) * (c + 1) = a * c + a + c + 1:=by rw [Nat.add_mul,Nat.mul_add,Nat.one_mul,Nat.mul_one]; omega
   have:=Nat.zero_le (a * c)
   omega
  omega
theorem eachN_ge {k n : Nat} (h : 1 ≤ k) : n ≤ k * eachN k n:=by
 unfold eachN
 have h1:=Nat.div_add_mod (n + k - 1) k
 have h2:=Nat.mod_lt (n + k - 1) (show 0 < k by omega)
 omega
theorem eachN_up {k n : Nat} : k * eachN k n ≤ n + k - 1:=Nat.mul_div_le _ _

theorem each_any {w : World} {b sb f1 f2 g k m : Nat} (h : PP w b sb f1 f2 g k m) (k1 : 1 ≤ k) (k2 : k ≤ 255) (long : Int) :
  Calls Tryz.prog 254 #[.pointer (some ⟨b,0,none⟩),.int .i64 long] w fun e w' => e = .returned (.tuple #[.int .i64 (eachR k long).1,.int .i64 (eachR k long).2])∧Below w.heap.size w w':=by
 have c0:=h.pl.cell0
 clear h
 by_cases h1 : long < 0
 ·rw [eachR,if_pos (.inl h1)]
  go_enter Tryz.func254,Tryz.ntmps254
  go_wp2
  exact bodyPost_ret (v:=.tuple #[.int .i64 0,.int .i64 1]) (by simp [results,Tryz.results254,go_sem]) rfl ⟨rfl,Below.refl _ _⟩
 by_cases h2 : 65536 < long
 ·rw [eachR,if_pos (.inr h2)]
  go_enter Tryz.func254,Tryz.ntmps254
  go_wp2
  exact bodyPost_ret (v:=.tuple #[.int .i64 0,.int .i64 1]) (by simp [results,Tryz.results254,go_sem]) rfl ⟨rfl,Below.refl _ _⟩
 rw [eachR,if_neg (by omega)]
 obtain ⟨n,rfl⟩ : ∃ n : Nat,long = n:=⟨long.toNat,by omega⟩
 have q1 : ((n : Int) + (k : Int) - 1).tdiv (k : Int) = ((eachN k n : Nat) : Int):=by
  rw [eachN,← quo_nat]
  congr 1
  omega
 have hk0 : (k : Int) ≠ 0:=by omega
 have hq : eachN k n ≤ n:=eachN_le k1
 rw [Int.toNat_natCast]
 generalize eachN k n = q at *
 go_enter Tryz.func254,Tryz.ntmps254
 go_wp2
 go_quiet (fail)
 go_wp2
 exact bodyPost_ret (v:=.tuple #[.int .i64 q,.int .i64 0]) (by simp [results,Tryz.results254,go_sem]) rfl ⟨rfl,below_drew (Below.refl _ _) _⟩

end Go.Proofs.YtagijldedngcoaaGreatDoor.Zq


namespace Go.Proofs.YtagijldedngcoaaGreatDoor.Zq

def crcP : Nat:=2197175160
def tS (r : Nat) : Nat:=if r % 2 = 1 then r / 2 ^^^ crcP else r / 2
def tN : Nat→Nat→Nat
 | 0,r => r
 | n + 1,r => tN n (tS r)
theorem tS_bit (r i : Nat) : (tS r).testBit i = ((r.testBit (i + 1)) ^^ (r.testBit 0 && crcP.testBit i)):=by
 rw [tS]
 by_cases h : r % 2 = 1
 ·rw [if_pos h,Nat.testBit_xor,Nat.testBit_succ]
  simp [h]
 ·rw [if_neg h,Nat.testBit_succ]
  simp [h]
theorem tS_xor (a b : Nat) : tS (a ^^^ b) = tS a ^^^ tS b:=by
 apply Nat.eq_of_testBit_eq
 intro i
 rw [Nat.testBit_xor,tS_bit,tS_bit,tS_bit,Nat.testBit_xor,Nat.testBit_xor]
 cases a.testBit (i + 1) <;> cases b.testBit (i + 1) <;> cases a.testBit 0 <;> cases b.testBit 0 <;> cases crcP.testBit i <;> rfl
theorem tN_xor : ∀ (n a b : Nat),tN n (a ^^^ b) = tN n a ^^^ tN n b
 | 0,_,_ => rfl
 | n + 1,a,b => by rw [tN,tN,tN,tS_xor,tN_xor n]
theorem tN_add : ∀ (n m r : Nat),tN (n + m) r = tN m (tN n r)
 | 0,m,r => by rw [Nat.zero_add]; rfl
 | n + 1,m,r => by rw [show n + 1 + m = (n + m) + 1 by omega,tN,tN,tN_add n m]
theorem tS_double (r : Nat) : tS (r * 2) = r:=by
 rw [tS,if_neg (by omega)]
 omega
theorem tN_shift : ∀ (n r : Nat),tN n (r * 2 ^ n) = r
 | 0,r => by simp [tN]
 | n + 1,r => by rw [tN,Nat.pow_succ,← Nat.mul_assoc,tS_double,tN_shift n r]
theorem tS_lt {r : Nat} (h : r < 4294967296) : tS r < 4294967296:=by
 rw [tS]
 split
 ·exact Nat.xor_lt_two_pow (n:=32) (by omega) (by decide)
 ·omega
theorem tN_lt : ∀ (n : Nat) {r : Nat},r < 4294967296→tN n r < 4294967296
 | 0,_,h => h
 | n + 1,_,h => tN_lt n (tS_lt h)
theorem tS_zero {r : Nat} (h : r < 4294967296) (h0 : tS r = 0) : r = 0:=by
 by_cases ho : r % 2 = 1
 ·exfalso
  have e : (tS r).testBit 31 = true:=by
   rw [tS_bit,Nat.testBit_lt_two_pow (i:=31 + 1) (by omega)]
   simp [ho]
   decide
  rw [h0] at e
  simp at e
 ·rw [tS,if_neg ho] at h0
  omega
theorem tN_zero : ∀ (n : Nat) {r : Nat},r < 4294967296→tN n r = 0→r = 0
 | 0,_,_,h0 => h0
 | n + 1,_,h,h0 => tS_zero h (tN_zero n (tS_lt h) h0)
theorem xor_zero_eq {a b : Nat} (h : a ^^^ b = 0) : a = b:=by
 apply Nat.eq_of_testBit_eq
 intro i
 have:=congrArg (fun x => x.testBit i) h
 simp only [Nat.testBit_xor,Nat.zero_testBit] at this
 cases ha : a.testBit i <;> cases hb : b.testBit i <;> simp [ha,hb] at this ⊢
def crcS (r : Nat) (l : List UInt8) : Nat:=l.foldl (fun r b => tN 8 (r ^^^ b.toNat)) r
theorem crcS_nil (r : Nat) : crcS r [] = r:=rfl
theorem crcS_cons (r : Nat) (b : UInt8) (l : List UInt8) : crcS r (b :: l) = crcS (tN 8 (r ^^^ b.toNat)) l:=List.foldl_cons ..
def leN : List UInt8→Nat
 | [] => 0
 | b :: l => b.toNat ^^^ leN l * 2 ^ 8
theorem crcS_eq : ∀ (l : List UInt8) (r : Nat),crcS r l = tN (8 * l.length) (r ^^^ leN l)
 | [],r => by rw [crcS_nil,leN,List.length_nil,Nat.mul_zero,tN,Nat.xor_zero]
 | b :: l,r => by
  rw [crcS_cons,crcS_eq l,leN,List.length_cons,show 8 * (l.length + 1) = 8 + 8 * l.length by omega,tN_add 8,← Nat.xor_assoc,tN_xor 8 _ (leN l * 2 ^ 8),tN_shift]
theorem crcS_append : ∀ (l m : List UInt8) (r : Nat),crcS r (l ++ m) = crcS (crcS r l) m
 | [],_,_ => rfl
 | b :: l,m,r => by rw [List.cons_append,crcS_cons,crcS_cons,crcS_append l m]
theorem crcS_lt : ∀ (l : List UInt8) {r : Nat},r < 4294967296→crcS r l < 4294967296
 | [],_,h => h
 | b :: l,_,h => by
  rw [crcS_cons]
  exact crcS_lt l (tN_lt 8 (Nat.xor_lt_two_pow (n:=32) h (by have:=b.toNat_lt; omega)))
theorem leN_bit : ∀ (l : List UInt8) (q : Nat),(leN l).testBit q = (l.getD (q / 8) 0).toNat.testBit (q % 8)
 | [],q => by simp [leN]
 | b :: l,q => by
  have hb : ∀ i,8 ≤ i→b.toNat.testBit i = false:=fun i hi => Nat.testBit_lt_two_pow (Nat.lt_of_lt_of_le b.toNat_lt (Nat.pow_le_pow_right (by decide) hi))
  rw [leN,Nat.testBit_xor,Nat.testBit_mul_two_pow]
  by_cases h : q < 8
  ·rw [show q / 8 = 0 by omega,show q % 8 = q by omega]
   simp [show ¬ 8 ≤ q by omega]
  ·rw [hb q (by omega),show q / 8 = (q - 8) / 8 + 1 by omega,show q % 8 = (q - 8) % 8 by omega]
   simp [show 8 ≤ q by omega,leN_bit l (q - 8)]
def xorB : List UInt8→List UInt8→List UInt8
 | a :: x,b :: y => (a ^^^ b) :: xorB x y
 | _,_ => []
theorem xorB_length : ∀ (x y : List UInt8),x.length = y.length→(xorB x y).length = x.length
 | [],[],_ => rfl
 | a :: x,b :: y,h => by simp only [xorB,List.length_cons]; rw [xorB_length x y (by simpa using h)]
theorem leN_xor : ∀ (x y : List UInt8),x.length = y.length→leN (xorB x y) = leN x ^^^ leN y
 | [],[],_ => rfl
 | a :: x,b :: y,h => by
  have hm : (leN x ^^^ leN y) * 2 ^ 8 = leN x * 2 ^ 8 ^^^ leN y * 2 ^ 8:=by
   apply Nat.eq_of_testBit_eq
   intro i
   simp only [Nat.testBit_mul_two_pow,Nat.testBit_xor]
   cases decide (8 ≤ i) <;> simp
  rw [xorB,leN,leN,leN,leN_xor x y (by simpa using h),hm,UInt8.toNat_xor]
  ac_rfl
theorem crcS_xor (x y : List UInt8) (h : x.length = y.length) (a b : Nat) : crcS (a ^^^ b) (xorB x y) = crcS a x ^^^ crcS b y:=by
 rw [crcS_eq,crcS_eq,crcS_eq,xorB_length x y h,← h,← tN_xor,leN_xor x y h]
 congr 1
 ac_rfl
theorem leN_inj : ∀ (x y : List UInt8),x.length = y.length→leN (xorB x y) = 0→x = y
 | [],[],_,_ => rfl
 | a :: x,b :: y,h,h0 => by
  rw [xorB,leN] at h0
  have h1:=xor_zero_eq h0
  have h2:=(a ^^^ b).toNat_lt
  have h3 : leN (xorB x y) = 0:=by
   rcases Nat.eq_zero_or_pos (leN (xorB x y)) with e | e
   ·exact e
   ·omega
  rw [h3,Nat.zero_mul,UInt8.toNat_xor] at h1
  rw [leN_inj x y (by simpa using h) h3,UInt8.toNat_inj.1 (xor_zero_eq h1)]
theorem burst {s t : List UInt8} (hl : s.length = t.length) (r : Nat) {first p : Nat} (hp : p < 4294967296) (hf : first ≤ 8 * s.length) (he : leN (xorB s t) = p * 2 ^ first % 2 ^ (8 * s.length)) (h : crcS r s = crcS r t) : s = t:=by
 apply leN_inj s t hl
 obtain ⟨n,hn⟩ : ∃ n,8 * s.length = first + n:=⟨8 * s.length - first,by omega⟩
 have e1 : p * 2 ^ first % 2 ^ (8 * s.length) = (p % 2 ^ n) * 2 ^ first:=by
  rw [hn,Nat.pow_add,Nat.mul_comm (2 ^ first),Nat.mul_mod_mul_right]
 have hx:=crcS_xor s t hl r r
 rw [Nat.xor_self,h,Nat.xor_self,crcS_eq,xorB_length s t hl,Nat.zero_xor,he,e1,hn,tN_add,tN_shift] at hx
 have h0:=tN_zero n (Nat.lt_of_le_of_lt (Nat.mod_le _ _) hp) hx
 rw [he,e1,h0,Nat.zero_mul]
def le4 (w : Nat) : List UInt8:=[UInt8.ofNat w,UInt8.ofNat (w / 256),UInt8.ofNat (w / 65536),UInt8.ofNat (w / 16777216)]
theorem leN_le4 {w : Nat} (h : w < 4294967296) : leN (le4 w) = w:=by
 apply Nat.eq_of_testBit_eq
 intro q
 rw [leN_bit]
 by_cases hq : q < 32
 ·have hd : q / 8 = 0 ∨ q / 8 = 1 ∨ q / 8 = 2 ∨ q / 8 = 3:=by omega
  have hb : ∀ (x i : Nat),i < 8→(UInt8.ofNat x).toNat.testBit i = x.testBit i:=fun x i hi => by
   rw [UInt8.toNat_ofNat',show (2 ^ 8 : Nat) = 2 ^ 8 from rfl,Nat.testBit_mod_two_pow]
   simp [hi]
  have hs : ∀ k,(w / 2 ^ k).testBit (q % 8) = w.testBit (k + q % 8):=fun k => by rw [Nat.testBit_div_two_pow,Nat.add_comm]
  rcases hd with e | e | e | e <;> rw [e]
  ·show (UInt8.ofNat w).toNat.testBit (q % 8) = _
   rw [hb _ _ (by omega),show q % 8 = q by omega]
  ·show (UInt8.ofNat (w / 256)).toNat.testBit (q % 8) = _
   rw [hb _ _ (by omega),show w / 256 = w / 2 ^ 8 from rfl,hs 8,show 8 + q % 8 = q by omega]
  ·show (UInt8.ofNat (w / 65536)).toNat.testBit (q % 8) = _
   rw [hb _ _ (by omega),show w / 65536 = w / 2 ^ 16 from rfl,hs 16,show 16 + q % 8 = q by omega]
  ·show (UInt8.ofNat (w / 16777216)).toNat.testBit (q % 8) = _
   rw [hb _ _ (by omega),show w / 16777216 = w / 2 ^ 24 from rfl,hs 24,show 24 + q % 8 = q by omega]
 ·rw [Nat.testBit_lt_two_pow (x:=w) (i:=q) (Nat.lt_of_lt_of_le h (Nat.pow_le_pow_right (n:=2) (by decide) (show 32 ≤ q by omega)))]
  rw [List.getD_eq_getElem?_getD,List.getElem?_eq_none (by simp [le4]; omega)]
  simp
def crcV (l : List UInt8) : Nat:=crcS 4294967295 l ^^^ 4294967295
theorem crcV_lt (l : List UInt8) : crcV l < 4294967296:=Nat.xor_lt_two_pow (n:=32) (crcS_lt l (by decide)) (by decide)
theorem crc_whole (l : List UInt8) : crcS 4294967295 (l ++ le4 (crcV l)) = tN 32 4294967295:=by
 rw [crcS_append,crcS_eq,leN_le4 (crcV_lt l),crcV,← Nat.xor_assoc,Nat.xor_self,Nat.zero_xor]
 rfl
theorem crc_found {l m : List UInt8} (hl : l.length = m.length) {first p : Nat} (hp : p < 4294967296) (hf : first ≤ 8 * (l.length + 4))
  (he : leN (xorB (l ++ le4 (crcV l)) (m ++ le4 (crcV m))) = p * 2 ^ first % 2 ^ (8 * (l.length + 4))) : l ++ le4 (crcV l) = m ++ le4 (crcV m):=by
 have h4 : (l ++ le4 (crcV l)).length = l.length + 4:=by simp [le4]
 have h5 : (m ++ le4 (crcV m)).length = m.length + 4:=by simp [le4]
 refine burst (by rw [h4,h5,hl]) 4294967295 hp (by rw [h4]; exact hf) (by rw [h4]; exact he) ?_
 rw [crc_whole,crc_whole]
end Go.Proofs.YtagijldedngcoaaGreatDoor.Zq

namespace Go.Proofs.YtagijldedngcoaaGreatDoor.Zq

structure SX where
 k : Int
 m : Int
 i : Int
 long : Int
 id : ByteArray
 data : ByteArray
def okS (x : SX) : Prop:=(1 ≤ x.k∧0 ≤ x.m∧x.k + x.m ≤ 255)∧(0 ≤ x.i∧x.i < x.k + x.m)∧(0 ≤ x.long∧x.long ≤ 65536)∧x.id.size = 32∧x.data.size = eachN x.k.toNat x.long.toNat
def be4 (n : Nat) : List UInt8:=[UInt8.ofNat (n / 16777216),UInt8.ofNat (n / 65536),UInt8.ofNat (n / 256),UInt8.ofNat n]
def nb4 (a b c d : UInt8) : Nat:=a.toNat * 16777216 + b.toNat * 65536 + c.toNat * 256 + d.toNat
theorem nb4_be4 (n : Nat) (h : n < 4294967296) : nb4 (UInt8.ofNat (n / 16777216)) (UInt8.ofNat (n / 65536)) (UInt8.ofNat (n / 256)) (UInt8.ofNat n) = n:=by
 simp only [nb4,UInt8.toNat_ofNat']
 omega
def txL (x : SX) : List UInt8:=71 :: 82 :: 84 :: 1 :: UInt8.ofNat x.k.toNat :: UInt8.ofNat x.m.toNat :: UInt8.ofNat x.i.toNat :: (be4 x.long.toNat ++ (x.id.data.toList ++ x.data.data.toList))
def fullL (x : SX) : List UInt8:=txL x ++ le4 (crcV (txL x))
theorem bsize (s : ByteArray) : s.data.toList.length = s.size:=by rw [Array.length_toList]; rfl
theorem txL_length (x : SX) : (txL x).length = 11 + x.id.size + x.data.size:=by
 simp only [txL,be4,List.length_cons,List.length_append,List.length_nil,bsize]
 omega
theorem fullL_length (x : SX) : (fullL x).length = 15 + x.id.size + x.data.size:=by
 rw [fullL,List.length_append,txL_length]
 simp only [le4,List.length_cons,List.length_nil]
 omega
def decX (l : List UInt8) : SX :=
 ⟨(l.getD 4 0).toNat,(l.getD 5 0).toNat,(l.getD 6 0).toNat,nb4 (l.getD 7 0) (l.getD 8 0) (l.getD 9 0) (l.getD 10 0),⟨((l.drop 11).take 32).toArray⟩,⟨((l.drop 43).take (l.length - 47)).toArray⟩⟩
def decOK (l : List UInt8) : Prop:=47 ≤ l.length∧okS (decX l)∧fullL (decX l) = l
theorem ofNat_toNat {z : Int} (h0 : 0 ≤ z) (h1 : z ≤ 255) : (((UInt8.ofNat z.toNat).toNat : Nat) : Int) = z:=by
 rw [UInt8.toNat_ofNat']
 omega
theorem bytes_back (s : ByteArray) : (⟨s.data.toList.toArray⟩ : ByteArray) = s:=by simp
theorem dec_full {x : SX} (h : okS x) : decX (fullL x) = x:=by
 obtain ⟨⟨k1,m0,km⟩,⟨i0,i1⟩,⟨l0,l1⟩,hid,hd⟩:=h
 have hlen:=fullL_length x
 have e11 : (fullL x).drop 11 = (x.id.data.toList ++ x.data.data.toList) ++ le4 (crcV (txL x)):=rfl
 have e43 : (fullL x).drop 43 = x.data.data.toList ++ le4 (crcV (txL x)):=by
  rw [show (43 : Nat) = 11 + 32 from rfl,← List.drop_drop,e11,List.append_assoc,List.drop_left' (by rw [bsize,hid])]
 have ek : ((((fullL x).getD 4 0).toNat : Nat) : Int) = x.k:=ofNat_toNat (by omega) (by omega)
 have em : ((((fullL x).getD 5 0).toNat : Nat) : Int) = x.m:=ofNat_toNat m0 (by omega)
 have ei : ((((fullL x).getD 6 0).toNat : Nat) : Int) = x.i:=ofNat_toNat i0 (by omega)
 have el : ((nb4 ((fullL x).getD 7 0) ((fullL x).getD 8 0) ((fullL x).getD 9 0) ((fullL x).getD 10 0) : Nat) : Int) = x.long:=by
  have:=nb4_be4 x.long.toNat (by omega)
  show ((nb4 (UInt8.ofNat (x.long.toNat / 16777216)) (UInt8.ofNat (x.long.toNat / 65536)) (UInt8.ofNat (x.long.toNat / 256)) (UInt8.ofNat x.long.toNat) : Nat) : Int) = _
  rw [this]
  omega
 have e1 : (⟨(((fullL x).drop 11).take 32).toArray⟩ : ByteArray) = x.id:=by
  rw [e11,List.append_assoc,List.take_left' (by rw [bsize,hid]),bytes_back]
 have e2 : (⟨(((fullL x).drop 43).take ((fullL x).length - 47)).toArray⟩ : ByteArray) = x.data:=by
  rw [e43,List.take_left' (by rw [bsize]; omega),bytes_back]
 rw [decX,ek,em,ei,el,e1,e2]
theorem full_ok {x : SX} (h : okS x) : decOK (fullL x):=by
 refine ⟨?_,?_,?_⟩
 ·rw [fullL_length,h.2.2.2.1]; omega
 ·rw [dec_full h]; exact h
 ·rw [dec_full h]
theorem turned_found {x : SX} {l : List UInt8} (hl : l.length = (fullL x).length) {first p : Nat} (hp : p < 4294967296) (hf : first ≤ 8 * l.length)
  (he : leN (xorB (fullL x) l) = p * 2 ^ first % 2 ^ (8 * l.length)) (h : decOK l) : l = fullL x:=by
 have e : fullL (decX l) = l:=h.2.2
 have h1 : (txL x).length + 4 = l.length:=by rw [hl,fullL_length,txL_length]; omega
 have h2 : (txL (decX l)).length + 4 = l.length:=by
  have : (fullL (decX l)).length = l.length:=by rw [e]
  rw [fullL_length] at this
  rw [txL_length]
  omega
 have:=crc_found (l:=txL x) (m:=txL (decX l)) (by omega) hp (by rw [h1]; exact hf) (by rw [h1]; show leN (xorB (fullL x) (fullL (decX l))) = _; rw [e]; exact he)
 exact e.symm.trans this.symm
theorem getD_take {l : List UInt8} {n j : Nat} (h : j < n) : (l.take n).getD j 0 = l.getD j 0:=by
 rw [List.getD_eq_getElem?_getD,List.getD_eq_getElem?_getD,List.getElem?_take,if_pos h]
theorem cut_found {x : SX} (hx : okS x) {n : Nat} (hn : n < (fullL x).length) : ¬ decOK ((fullL x).take n):=by
 rintro ⟨h47,hok,_⟩
 have hlen : ((fullL x).take n).length = n:=by rw [List.length_take]; omega
 rw [hlen] at h47
 have hd:=hok.2.2.2.2
 have ek : (decX ((fullL x).take n)).k = x.k:=by
  show (((((fullL x).take n).getD 4 0).toNat : Nat) : Int) = _
  rw [getD_take (by omega)]
  exact congrArg SX.k (dec_full hx)
 have el : (decX ((fullL x).take n)).long = x.long:=by
  show ((nb4 (((fullL x).take n).getD 7 0) (((fullL x).take n).getD 8 0) (((fullL x).take n).getD 9 0) (((fullL x).take n).getD 10 0) : Nat) : Int) = _
  rw [getD_take (by omega),getD_take (by omega),getD_take (by omega),getD_take (by omega)]
  exact congrArg SX.long (dec_full hx)
 have es : (decX ((fullL x).take n)).data.size = n - 47:=by
  show (((((fullL x).take n).drop 43).take (((fullL x).take n).length - 47)).toArray).size = _
  rw [List.size_toArray,List.length_take,List.length_drop,hlen]
  omega
 rw [ek,el,es,← hx.2.2.2.2] at hd
 rw [fullL_length,hx.2.2.2.1] at hn
 omega
end Go.Proofs.YtagijldedngcoaaGreatDoor.Zq


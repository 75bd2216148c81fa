/-
  Contracts of the program and of the statements (part 11 of 28).
-/
import Derived.Test.YtagijldedngcoaaGreatDoorOl5
import Derived.Test.YtagijldedngcoaaGreatDoorOl9
import Derived.Test.YtagijldedngcoaaGreatDoorOl10
import Derived.Test.YtagijldedngcoaaGreatDoorOl6
import Derived.Test.YtagijldedngcoaaGreatDoorOl1
import Derived.Maps.AppendAt
import Derived.BigQuiet
import Derived.Deep.RegionHeldLaw
set_option maxRecDepth 100000
set_option maxHeartbeats 1600000

namespace Go.Proofs.YtagijldedngcoaaGreatDoor.Zq
open Go.RowKit Go.Lib

def six (x : SX) : List Value:=[.int .i64 x.k,.int .i64 x.m,.int .i64 x.i,.int .i64 x.long,.string x.id,.string x.data]
section
variable {X Y : Nat→SX}
end
structure C6 (w : World) (b o : Nat) (x : SX) : Prop where
 c0 : w.cell? ⟨b,o,none⟩ = some (.int .i64 x.k)
 c1 : w.cell? ⟨b,o + 1,none⟩ = some (.int .i64 x.m)
 c2 : w.cell? ⟨b,o + 2,none⟩ = some (.int .i64 x.i)
 c3 : w.cell? ⟨b,o + 3,none⟩ = some (.int .i64 x.long)
 c4 : w.cell? ⟨b,o + 4,none⟩ = some (.string x.id)
 c5 : w.cell? ⟨b,o + 5,none⟩ = some (.string x.data)
theorem C6.below {w w' : World} {b o B : Nat} {x : SX} (h : C6 w b o x) (hb : Below B w w') (hl : b < B) : C6 w' b o x :=
 ⟨(hb.cell (p:=⟨b,o,none⟩) hl).trans h.c0,(hb.cell (p:=⟨b,o + 1,none⟩) hl).trans h.c1,(hb.cell (p:=⟨b,o + 2,none⟩) hl).trans h.c2,(hb.cell (p:=⟨b,o + 3,none⟩) hl).trans h.c3,(hb.cell (p:=⟨b,o + 4,none⟩) hl).trans h.c4,(hb.cell (p:=⟨b,o + 5,none⟩) hl).trans h.c5⟩
def LX (w : World) (v : Value) (n : Nat) (X : Nat→SX) : Prop :=
 ∃ a c,v = .slice a n c∧(n = 0 ∨ ∃ bl off,a = some ⟨bl,off,none⟩∧bl < w.heap.size∧∀ i,i < n→C6 w bl (off + i * 6) (X i))
section
variable {T : TypeId} {B n : Nat} {v : Value} {X Y : Nat→SX} {w w' : World}
end
def oneS (x : SX) (T : TypeId) : Obj:=.cells #[.int .i64 x.k,.int .i64 x.m,.int .i64 x.i,.int .i64 x.long,.string x.id,.string x.data] T
theorem Tryz.infoSh : (Tryz.prog.info? 232).map (fun i => (i.zero,i.size,i.bytes)) = some (some (.agg #[.int .i64 0,.int .i64 0,.int .i64 0,.int .i64 0,.string ⟨#[]⟩,.string ⟨#[]⟩]),6,64):=by kernel_rfl
/-! ### What shards are gathered to -/
def ftS (x y : SX) : Prop:=x.k = y.k∧x.m = y.m∧x.long = y.long∧x.id = y.id
def allS (X : Nat→SX) (n : Nat) : Prop:=∀ i,i < n→okS (X i)∧ftS (X 0) (X i)
def gJC (X : Nat→SX) (n : Nat) : Int:=jnC (X 0).k.toNat (X 0).m.toNat (X 0).long (fun i => (X i).i) (fun i => (X i).data) n
def gJS (X : Nat→SX) (n : Nat) : ByteArray:=jnS (X 0).k.toNat (X 0).m.toNat (X 0).long (fun i => (X i).i) (fun i => (X i).data) n
def GA (X : Nat→SX) (n : Nat) (S : ByteArray) (c : Int) : Prop :=
 (¬ (0 < n∧allS X n)∧S = ⟨#[]⟩∧c = 4) ∨ ((0 < n∧allS X n)∧((gJC X n ≠ 0∧S = ⟨#[]⟩∧c = gJC X n) ∨ (gJC X n = 0∧((bs (Sh.digest (gJS X n).data.toList) ≠ (X 0).id∧S = ⟨#[]⟩∧c = 60) ∨ (bs (Sh.digest (gJS X n).data.toList) = (X 0).id∧S = gJS X n∧c = 0)))))
theorem GA.one {X : Nat→SX} {n : Nat} {S S' : ByteArray} {c c' : Int} (h : GA X n S c) (h' : GA X n S' c') : S = S'∧c = c':=by
 rcases h with ⟨h1,rfl,rfl⟩ | ⟨h1,h2⟩ <;> rcases h' with ⟨k1,rfl,rfl⟩ | ⟨k1,k2⟩
 ·exact ⟨rfl,rfl⟩
 ·exact absurd k1 h1
 ·exact absurd h1 k1
 ·rcases h2 with ⟨h3,rfl,rfl⟩ | ⟨h3,h4⟩ <;> rcases k2 with ⟨k3,rfl,rfl⟩ | ⟨k3,k4⟩
  ·exact ⟨rfl,rfl⟩
  ·exact absurd k3 h3
  ·exact absurd h3 k3
  ·rcases h4 with ⟨h5,rfl,rfl⟩ | ⟨h5,rfl,rfl⟩ <;> rcases k4 with ⟨k5,rfl,rfl⟩ | ⟨k5,rfl,rfl⟩
   ·exact ⟨rfl,rfl⟩
   ·exact absurd k5 h5
   ·exact absurd h5 k5
   ·exact ⟨rfl,rfl⟩
end Go.Proofs.YtagijldedngcoaaGreatDoor.Zq


namespace Go.Proofs.YtagijldedngcoaaGreatDoor.Zq
open Go.RowKit Go.Lib

theorem asked_le {s : ByteArray} {p : Nat} {x : Int} {B : Nm.Ah} (hp : p ≤ s.size) (h : Nm.AhOk s p B) : p + (Nm.asked x B).long ≤ s.size:=by
 unfold Nm.asked
 split
 ·rcases h with ⟨_,h⟩ | ⟨c,_,rfl⟩
  ·exact h
  ·exact hp
 ·exact hp
theorem asked_num {s : ByteArray} {p k : Nat} {x : Int} : (Nm.asked x (Nm.fixedA s p k)).num < 256 ^ k:=by
 have h0 : 0 < 256 ^ k:=Nat.pow_pos (by decide)
 unfold Nm.asked
 split
 ·unfold Nm.fixedA
  split
  ·exact h0
  ·split
   ·exact h0
   ·refine Nat.lt_of_lt_of_le (Nm.numOf_lt _) (Nat.pow_le_pow_right (by decide) ?_)
    simp
    omega
 ·exact h0
theorem asked_txt {s : ByteArray} {p : Nat} {n x : Int} : (Nm.asked x (Nm.bytesA s p n)).txt.size ≤ s.size:=by
 unfold Nm.asked
 split
 ·unfold Nm.bytesA
  split
  ·exact Nat.zero_le _
  ·split
   ·exact Nat.zero_le _
   ·simp
    omega
 ·exact Nat.zero_le _
theorem bytes_ok {s : ByteArray} {p k : Nat} (h : p + k ≤ s.size) : Nm.asked 0 (Nm.bytesA s p k) = ⟨0,s.extract p (p + k),k,0⟩:=by
 rw [Nm.asked_zero,Nm.bytesA,if_neg (by omega),if_neg (by omega),Int.toNat_natCast]
theorem bytes_end {s : ByteArray} {p k : Nat} (h : ¬ p + k ≤ s.size) : Nm.asked 0 (Nm.bytesA s p k) = .bad 10:=by
 rw [Nm.asked_zero,Nm.bytesA,if_neg (by omega),if_pos (by omega)]
theorem fixed_ok {s : ByteArray} {p k : Nat} (h : p + k ≤ s.size) (h1 : 1 ≤ k) (h7 : k ≤ 7) : Nm.asked 0 (Nm.fixedA s p k) = ⟨Nm.numOf (s.extract p (p + k)).data.toList,⟨#[]⟩,k,0⟩:=by
 rw [Nm.asked_zero,Nm.fixedA,if_neg (by omega),if_neg (by omega),Int.toNat_natCast]
theorem fixed_end {s : ByteArray} {p k : Nat} (h : ¬ p + k ≤ s.size) (h1 : 1 ≤ k) (h7 : k ≤ 7) : Nm.asked 0 (Nm.fixedA s p k) = .bad 10:=by
 rw [Nm.asked_zero,Nm.fixedA,if_neg (by omega),if_pos (by omega)]
theorem ext_list (s : ByteArray) (p q : Nat) : (s.extract p q).data.toList = (s.data.toList.drop p).take (q - p):=by
 simp [ByteArray.data_extract,List.extract_eq_take_drop]
theorem drop_getD {l : List UInt8} {p : Nat} (h : p < l.length) : l.drop p = l.getD p 0 :: l.drop (p + 1):=by
 rw [List.drop_eq_getElem_cons h]
 simp [List.getD,h]
theorem num_one (s : ByteArray) {p : Nat} (h : p + 1 ≤ s.size) : Nm.numOf (s.extract p (p + 1)).data.toList = (s.data.toList.getD p 0).toNat:=by
 have hl:=bsize s
 rw [ext_list,drop_getD (by omega),show p + 1 - p = 1 by omega]
 simp [Nm.numOf]
theorem num_four (s : ByteArray) {p : Nat} (h : p + 4 ≤ s.size) : Nm.numOf (s.extract p (p + 4)).data.toList = nb4 (s.data.toList.getD p 0) (s.data.toList.getD (p + 1) 0) (s.data.toList.getD (p + 2) 0) (s.data.toList.getD (p + 3) 0):=by
 have hl:=bsize s
 rw [ext_list,drop_getD (by omega),drop_getD (by omega),drop_getD (by omega),drop_getD (p:=p + 1 + 1 + 1) (by omega),show p + 4 - p = 4 by omega,show p + 1 + 1 = p + 2 by omega,show p + 2 + 1 = p + 3 by omega]
 simp only [List.take_succ_cons,List.take_zero,Nm.numOf,List.foldl_cons,List.foldl_nil,nb4]
 omega
theorem ext_back (s : ByteArray) (p q : Nat) : s.extract p q = ⟨((s.data.toList.drop p).take (q - p)).toArray⟩:=by
 apply ByteArray.ext
 apply Array.toList_inj.1
 rw [ext_list]
theorem bad_on {c : Int} (h : c ≠ 0) (B : Nm.Ah) : Nm.asked (Nm.Ah.bad c).code B = .bad c:=Nm.asked_some h B
theorem read_fields {s : ByteArray} {A0 A1 A2 A3 A4 A5 A6 : Nm.Ah} (h0 : A0 = Nm.asked 0 (Nm.bytesA s 0 4)) (h1 : A1 = Nm.asked A0.code (Nm.fixedA s A0.long 1)) (h2 : A2 = Nm.asked A1.code (Nm.fixedA s (A0.long + A1.long) 1))
  (h3 : A3 = Nm.asked A2.code (Nm.fixedA s (A0.long + A1.long + A2.long) 1)) (h4 : A4 = Nm.asked A3.code (Nm.fixedA s (A0.long + A1.long + A2.long + A3.long) 4)) (h5 : A5 = Nm.asked A4.code (Nm.bytesA s (A0.long + A1.long + A2.long + A3.long + A4.long) 32))
  (h6 : A6 = Nm.asked A5.code (Nm.bytesA s (A0.long + A1.long + A2.long + A3.long + A4.long + A5.long) ((s.size : Int) - ((A0.long + A1.long + A2.long + A3.long + A4.long + A5.long : Nat) : Int) - 4))) :
  (47 ≤ s.size→(⟨A1.num,A2.num,A3.num,A4.num,A5.txt,A6.txt⟩ : SX) = decX s.data.toList)∧(s.size < 47→A5.txt.size ≠ 32 ∨ 15 + A5.txt.size + A6.txt.size ≠ s.size):=by
 have hl:=bsize s
 have ten : (10 : Int) ≠ 0:=by decide
 have short : A5 = .bad 10→s.size < 43→((47 ≤ s.size→(⟨A1.num,A2.num,A3.num,A4.num,A5.txt,A6.txt⟩ : SX) = decX s.data.toList)∧(s.size < 47→A5.txt.size ≠ 32 ∨ 15 + A5.txt.size + A6.txt.size ≠ s.size)):=fun e h =>
  ⟨fun h' => by omega,fun _ => .inl (by rw [e]; decide)⟩
 by_cases c0 : 0 + 4 ≤ s.size
 ·rw [show (4 : Int) = ((4 : Nat) : Int) from rfl,bytes_ok c0] at h0
  subst h0
  dsimp only at h1
  by_cases c1 : 4 + 1 ≤ s.size
  ·rw [show (1 : Int) = ((1 : Nat) : Int) from rfl,fixed_ok c1 (by decide) (by decide)] at h1
   subst h1
   dsimp only at h2
   by_cases c2 : 5 + 1 ≤ s.size
   ·rw [show (1 : Int) = ((1 : Nat) : Int) from rfl,fixed_ok c2 (by decide) (by decide)] at h2
    subst h2
    dsimp only at h3
    by_cases c3 : 6 + 1 ≤ s.size
    ·rw [show (1 : Int) = ((1 : Nat) : Int) from rfl,fixed_ok c3 (by decide) (by decide)] at h3
     subst h3
     dsimp only at h4
     by_cases c4 : 7 + 4 ≤ s.size
     ·rw [show (4 : Int) = ((4 : Nat) : Int) from rfl,fixed_ok c4 (by decide) (by decide)] at h4
      subst h4
      dsimp only at h5
      by_cases c5 : 11 + 32 ≤ s.size
      ·rw [show (32 : Int) = ((32 : Nat) : Int) from rfl,bytes_ok c5] at h5
       subst h5
       by_cases c6 : 47 ≤ s.size
       ·dsimp only at h6
        rw [show ((s.size : Int) - ((4 + 1 + 1 + 1 + 4 + 32 : Nat) : Int) - 4) = ((s.size - 47 : Nat) : Int) by omega,bytes_ok (p:=43) (by omega)] at h6
        subst h6
        refine ⟨fun _ => ?_,fun h' => by omega⟩
        rw [decX,num_one s c1,num_one s c2,num_one s c3,num_four s c4,hl,ext_back,ext_back,show 11 + 32 - 11 = 32 from rfl,show 43 + (s.size - 47) - 43 = s.size - 47 by omega]
       ·have e6 : A6.txt = ⟨#[]⟩:=by
         rw [h6,Nm.asked_zero,Nm.bytesA,if_pos (by simp only; omega)]
         rfl
        refine ⟨fun h' => by omega,fun _ => .inr ?_⟩
        have z : (s.extract 11 (11 + 32)).size = 32:=by simp; omega
        rw [e6]
        simp only [z]
        show 15 + 32 + 0 ≠ s.size
        omega
      ·rw [show (32 : Int) = ((32 : Nat) : Int) from rfl,bytes_end c5] at h5
       exact short h5 (by omega)
     ·rw [show (4 : Int) = ((4 : Nat) : Int) from rfl,fixed_end c4 (by decide) (by decide)] at h4
      rw [h4,bad_on ten] at h5
      exact short h5 (by omega)
    ·rw [show (1 : Int) = ((1 : Nat) : Int) from rfl,fixed_end c3 (by decide) (by decide)] at h3
     rw [h3,bad_on ten] at h4
     rw [h4,bad_on ten] at h5
     exact short h5 (by omega)
   ·rw [show (1 : Int) = ((1 : Nat) : Int) from rfl,fixed_end c2 (by decide) (by decide)] at h2
    rw [h2,bad_on ten] at h3
    rw [h3,bad_on ten] at h4
    rw [h4,bad_on ten] at h5
    exact short h5 (by omega)
  ·rw [show (1 : Int) = ((1 : Nat) : Int) from rfl,fixed_end c1 (by decide) (by decide)] at h1
   rw [h1,bad_on ten] at h2
   rw [h2,bad_on ten] at h3
   rw [h3,bad_on ten] at h4
   rw [h4,bad_on ten] at h5
   exact short h5 (by omega)
 ·rw [show (4 : Int) = ((4 : Nat) : Int) from rfl,bytes_end c0] at h0
  rw [h0,bad_on ten] at h1
  rw [h1,bad_on ten] at h2
  rw [h2,bad_on ten] at h3
  rw [h3,bad_on ten] at h4
  rw [h4,bad_on ten] at h5
  exact short h5 (by omega)

theorem SK.grown {T : TypeId} {w w' : World} {b : Nat} {k m i long : Int} {id data : ByteArray} (h : SK T w b k m i long id data) {row : Option Nat} (hg : w.grownBy w' row) (hne : some b ≠ row) : SK T w' b k m i long id data:=h.of_block (hg.block b h.lt hne)
theorem SK.set5 {T : TypeId} {w : World} {b : Nat} {k m i long : Int} {id data : ByteArray} (h : SK T w b k m i long id data) (d : ByteArray) : SK T (w.setCell ⟨b,5,none⟩ (.string d)) b k m i long id d:=Nm.heap_set_self (u:=.string d) h
theorem SK.other {T : TypeId} {w : World} {b : Nat} {k m i long : Int} {id data : ByteArray} (h : SK T w b k m i long id data) {g : Nat} (hne : b ≠ g) (j : Nat) (u : Value) : SK T (w.setCell ⟨g,j,none⟩ u) b k m i long id data:=h.grown (Nm.gb_set w g j u) (by simpa using hne)
theorem SK.put {T : TypeId} {w : World} {b : Nat} {k m i long : Int} {id data : ByteArray} (h : SK T w b k m i long id data) (k' m' i' long' : Int) (id' data' : ByteArray) :
  SK T ((((((w.setCell ⟨b,0,none⟩ (.int .i64 k')).setCell ⟨b,1,none⟩ (.int .i64 m')).setCell ⟨b,2,none⟩ (.int .i64 i')).setCell ⟨b,3,none⟩ (.int .i64 long')).setCell ⟨b,4,none⟩ (.string id')).setCell ⟨b,5,none⟩ (.string data')) b k' m' i' long' id' data' :=
 Nm.heap_set_self (u:=.string data') (Nm.heap_set_self (u:=.string id') (Nm.heap_set_self (u:=.int .i64 long') (Nm.heap_set_self (u:=.int .i64 i') (Nm.heap_set_self (u:=.int .i64 m') (Nm.heap_set_self (u:=.int .i64 k') h)))))

theorem below_put6 {B : Nat} {w w1 : World} (hb : Below B w w1) {g : Nat} (hg : B ≤ g) (u0 u1 u2 u3 u4 u5 : Value) :
  Below B w ((((((w1.setCell ⟨g,0,none⟩ u0).setCell ⟨g,1,none⟩ u1).setCell ⟨g,2,none⟩ u2).setCell ⟨g,3,none⟩ u3).setCell ⟨g,4,none⟩ u4).setCell ⟨g,5,none⟩ u5) :=
 (((((hb.setCell (p:=⟨g,0,none⟩) hg u0).setCell (p:=⟨g,1,none⟩) hg u1).setCell (p:=⟨g,2,none⟩) hg u2).setCell (p:=⟨g,3,none⟩) hg u3).setCell (p:=⟨g,4,none⟩) hg u4).setCell (p:=⟨g,5,none⟩) hg u5

theorem sread_any (s : ByteArray) (w : World) (hs : s.size ≤ 1000000) :
  Calls Tryz.prog 251 #[.string s] w fun e w' => ∃ (k m i long : Nat) (id data : ByteArray),e = .returned (.agg #[.int .i64 k,.int .i64 m,.int .i64 i,.int .i64 long,.string id,.string data]) ∧
   (k < 256∧m < 256∧i < 256∧long < 4294967296∧id.size ≤ s.size∧data.size ≤ s.size)∧(47 ≤ s.size→(⟨k,m,i,long,id,data⟩ : SX) = decX s.data.toList)∧(s.size < 47→id.size ≠ 32 ∨ 15 + id.size + data.size ≠ s.size)∧Below w.heap.size w w':=by
 have hs' : s.size ≤ 140737488355328:=by omega
 have X:=SK.new 232 w 0 0 0 0 ⟨#[]⟩ ⟨#[]⟩
 obtain ⟨W,hW⟩ : ∃ W,W = w.alloc (.cells #[.int .i64 0,.int .i64 0,.int .i64 0,.int .i64 0,.string ⟨#[]⟩,.string ⟨#[]⟩] 232):=⟨_,rfl⟩
 have HB : Hid (Below w.heap.size w W):=by rw [hW]; exact below_alloc (Below.refl _ _) _
 rw [← hW] at X
 have HW:=hide hW
 have HX:=hide X
 have hl:=X.lt
 clear X hW
 go_enter Tryz.func251,Tryz.ntmps251
 go_wp2_with fail
 rw [← HW.out]
 refine (Nm.read_any s W).mono ?_
 rintro e w1 ⟨rfl,hR,hb1⟩
 have HX1:=hide (HX.out.below hb1 hl)
 have HB1:=hide (HB.out.trans (hb1.mono HB.out.size))
 obtain ⟨b,hbz⟩ : ∃ b,b = W.heap.size:=⟨_,rfl⟩
 rw [← hbz] at hR hl ⊢
 have HZ:=hide hbz
 clear HX HB HW hb1 hbz
 go_wp2_with fail
 have hc:=Nm.rBytes_any 4 hR (Nat.zero_le _) hs' (by decide)
 obtain ⟨A0,hA0⟩ : ∃ A,A = Nm.asked 0 (Nm.bytesA s 0 4):=⟨_,rfl⟩
 have q0 : 0 + A0.long ≤ s.size:=by rw [hA0]; exact asked_le (Nat.zero_le _) (Nm.bytesA_ok _ _ _)
 rw [← hA0,Nat.zero_add] at hc
 rw [Nat.zero_add] at q0
 refine Calls.mono hc ?_
 rintro e w2 ⟨rfl,hR2,hg2⟩
 have HA0:=hide hA0
 clear hc hA0 hR
 go_wp2_with fail
 have hc:=Nm.rFixed_any 1 hR2 q0 hs' (by decide)
 obtain ⟨A1,hA1⟩ : ∃ A,A = Nm.asked A0.code (Nm.fixedA s A0.long 1):=⟨_,rfl⟩
 have q1 : A0.long + A1.long ≤ s.size:=by rw [hA1]; exact asked_le q0 (Nm.fixedA_ok _ _ _)
 rw [← hA1] at hc
 refine Calls.mono hc ?_
 rintro e w3 ⟨rfl,hR3,hg3⟩
 have HA1:=hide hA1
 have hg3:=Nm.gb_trans hg2 hg3
 clear hc hA1 hR2 hg2
 go_wp2_with fail
 have hc:=Nm.rFixed_any 1 hR3 q1 hs' (by decide)
 obtain ⟨A2,hA2⟩ : ∃ A,A = Nm.asked A1.code (Nm.fixedA s (A0.long + A1.long) 1):=⟨_,rfl⟩
 have q2 : A0.long + A1.long + A2.long ≤ s.size:=by rw [hA2]; exact asked_le q1 (Nm.fixedA_ok _ _ _)
 rw [← hA2] at hc
 refine Calls.mono hc ?_
 rintro e w4 ⟨rfl,hR4,hg4⟩
 have HA2:=hide hA2
 have hg4:=Nm.gb_trans hg3 hg4
 clear hc hA2 hR3 hg3
 go_wp2_with fail
 have hc:=Nm.rFixed_any 1 hR4 q2 hs' (by decide)
 obtain ⟨A3,hA3⟩ : ∃ A,A = Nm.asked A2.code (Nm.fixedA s (A0.long + A1.long + A2.long) 1):=⟨_,rfl⟩
 have q3 : A0.long + A1.long + A2.long + A3.long ≤ s.size:=by rw [hA3]; exact asked_le q2 (Nm.fixedA_ok _ _ _)
 rw [← hA3] at hc
 refine Calls.mono hc ?_
 rintro e w5 ⟨rfl,hR5,hg5⟩
 have HA3:=hide hA3
 have hg5:=Nm.gb_trans hg4 hg5
 clear hc hA3 hR4 hg4
 go_wp2_with fail
 have hc:=Nm.rFixed_any 4 hR5 q3 hs' (by decide)
 obtain ⟨A4,hA4⟩ : ∃ A,A = Nm.asked A3.code (Nm.fixedA s (A0.long + A1.long + A2.long + A3.long) 4):=⟨_,rfl⟩
 have q4 : A0.long + A1.long + A2.long + A3.long + A4.long ≤ s.size:=by rw [hA4]; exact asked_le q3 (Nm.fixedA_ok _ _ _)
 rw [← hA4] at hc
 refine Calls.mono hc ?_
 rintro e w6 ⟨rfl,hR6,hg6⟩
 have HA4:=hide hA4
 have hg6:=Nm.gb_trans hg5 hg6
 clear hc hA4 hR5 hg5
 go_wp2_with fail
 have hc:=Nm.rBytes_any 32 hR6 q4 hs' (by decide)
 obtain ⟨A5,hA5⟩ : ∃ A,A = Nm.asked A4.code (Nm.bytesA s (A0.long + A1.long + A2.long + A3.long + A4.long) 32):=⟨_,rfl⟩
 have q5 : A0.long + A1.long + A2.long + A3.long + A4.long + A5.long ≤ s.size:=by rw [hA5]; exact asked_le q4 (Nm.bytesA_ok _ _ _)
 rw [← hA5] at hc
 refine Calls.mono hc ?_
 rintro e w7 ⟨rfl,hR7,hg7⟩
 have HA5:=hide hA5
 have HG7:=hide (Nm.gb_trans hg6 hg7)
 clear hc hA5 hR6 hg6 hg7
 have HX7:=hide (HX1.out.grown HG7.out (by simp; omega))
 obtain ⟨P,hP⟩ : ∃ P,P = A0.long + A1.long + A2.long + A3.long + A4.long + A5.long:=⟨_,rfl⟩
 rw [← hP] at hR7 q5
 have HP:=hide hP
 clear hP q0 q1 q2 q3 q4
 have hR8:=hR7.alloc (.cells #[.int .i64 A1.num,.int .i64 A2.num,.int .i64 A3.num,.int .i64 A4.num,.string A5.txt,.string ⟨#[]⟩] 232)
 have X8:=SK.new 232 w7 A1.num A2.num A3.num A4.num A5.txt ⟨#[]⟩
 have HB8:=hide (Nm.gb_alloc HG7.out (.cells #[.int .i64 A1.num,.int .i64 A2.num,.int .i64 A3.num,.int .i64 A4.num,.string A5.txt,.string ⟨#[]⟩] 232))
 have X0:=HX7.out.alloc (.cells #[.int .i64 A1.num,.int .i64 A2.num,.int .i64 A3.num,.int .i64 A4.num,.string A5.txt,.string ⟨#[]⟩] 232)
 have hbl : b < w7.heap.size:=hR7.lt
 have b1 : A1.num < 256:=by rw [HA1.out]; exact asked_num (k:=1)
 have b2 : A2.num < 256:=by rw [HA2.out]; exact asked_num (k:=1)
 have b3 : A3.num < 256:=by rw [HA3.out]; exact asked_num (k:=1)
 have b4 : A4.num < 4294967296:=by rw [HA4.out]; exact asked_num (k:=4)
 have b5 : A5.txt.size ≤ s.size:=by rw [HA5.out]; exact asked_txt
 have HBD:=hide (And.intro b1 (And.intro b2 (And.intro b3 (And.intro b4 b5))))
 clear b1 b2 b3 b4 b5
 go_wp2_with fail
 refine (Nm.left_any hR8 q5 hs').mono ?_
 rintro e w8 ⟨rfl,nd,hw8⟩
 have hR9 : Nm.Rd 384 w8 b s P A5.code:=by rw [hw8]; exact hR8.drewN nd
 have X9 : SK 232 w8 w7.heap.size A1.num A2.num A3.num A4.num A5.txt ⟨#[]⟩:=by rw [hw8]; exact X8
 have Z9 : SK 232 w8 w.heap.size 0 0 0 0 ⟨#[]⟩ ⟨#[]⟩:=by rw [hw8]; exact X0
 have HB9 : Hid (w1.grownBy w8 (some b)):=by rw [hw8]; exact Nm.gb_drewN HB8.out nd
 clear hR8 X8 X0 HB8 hR7 HX7 HG7 hw8
 go_wp2_with fail
 have hc:=Nm.rBytes_any ((s.size : Int) - (P : Int) - 4) hR9 q5 hs' (by omega)
 obtain ⟨A6,hA6⟩ : ∃ A,A = Nm.asked A5.code (Nm.bytesA s P ((s.size : Int) - (P : Int) - 4)):=⟨_,rfl⟩
 rw [← hA6] at hc
 refine Calls.mono hc ?_
 rintro e w9 ⟨rfl,hR10,hg10⟩
 have b6 : A6.txt.size ≤ s.size:=by rw [hA6]; exact asked_txt
 have HR : Hid ((47 ≤ s.size→(⟨A1.num,A2.num,A3.num,A4.num,A5.txt,A6.txt⟩ : SX) = decX s.data.toList)∧(s.size < 47→A5.txt.size ≠ 32 ∨ 15 + A5.txt.size + A6.txt.size ≠ s.size)):=by
  obtain rfl:=HP.out
  exact read_fields HA0.out HA1.out HA2.out HA3.out HA4.out HA5.out hA6
 have HB10:=hide (Nm.gb_trans HB9.out hg10)
 have X10:=X9.grown hg10 (by simp; omega)
 have Z10:=Z9.grown hg10 (by simp; omega)
 have X11:=X10.set5 A6.txt
 have Z11:=Z10.other (show w.heap.size ≠ w7.heap.size by omega) 5 (.string A6.txt)
 clear hc hA6 hR9 X9 Z9 HB9 hg10 hR10 HA0 HA1 HA2 HA3 HA4 HA5 HP q5 HX1
 have f5:=X10.free 5
 have c5:=X10.cell5
 obtain ⟨V,hV⟩ : ∃ V,V = w9.setCell ⟨w7.heap.size,5,none⟩ (.string A6.txt):=⟨_,rfl⟩
 have HV:=hide hV
 have HB11 : Hid (Below w.heap.size w V):=by
  have h1:=HB1.out
  have h2:=HB10.out
  have hz:=HZ.out
  rw [hV]
  exact ⟨h2.os.trans h1.os,h2.tape.trans h1.tape,h2.output.trans h1.output,Nat.le_trans h1.size (by simpa using h2.size),fun k hk => by
   rw [heap_setCell_other w9 ⟨w7.heap.size,5,none⟩ k _ (by show k ≠ w7.heap.size; omega),h2.block k (Nat.lt_of_lt_of_le hk h1.size) (by simp; omega),h1.block k hk]⟩
 rw [← hV] at X11 Z11
 have c0:=X10.cell0
 have c1:=X10.cell1
 have c2:=X10.cell2
 have c3:=X10.cell3
 have c4:=X10.cell4
 have z0:=Z10.cell0
 have z1:=Z10.cell1
 have z2:=Z10.cell2
 have z3:=Z10.cell3
 have z4:=Z10.cell4
 have z5:=Z10.cell5
 have y0:=Z10.free 0
 have y1:=Z10.free 1
 have y2:=Z10.free 2
 have y3:=Z10.free 3
 have y4:=Z10.free 4
 have y5:=Z10.free 5
 have n1 : ¬ w7.heap.size = w.heap.size:=by omega
 have n2 : ¬ w.heap.size = w7.heap.size:=by omega
 clear hV HB1 HB10 Z10 HZ
 go_wp2
 rw [← HV.out]
 have G:=Z11.put A1.num A2.num A3.num A4.num A5.txt A6.txt
 obtain ⟨b1,b2,b3,b4,b5⟩:=HBD.out
 exact bodyPost_ret (v:=.agg #[.int .i64 A1.num,.int .i64 A2.num,.int .i64 A3.num,.int .i64 A4.num,.string A5.txt,.string A6.txt]) (by simp [results,Tryz.results251,go_sem,G.cell0,G.cell1,G.cell2,G.cell3,G.cell4,G.cell5]) rfl
  ⟨A1.num,A2.num,A3.num,A4.num,A5.txt,A6.txt,rfl,⟨b1,b2,b3,b4,b5,b6⟩,HR.out.1,HR.out.2,below_put6 HB11.out (Nat.le_refl _) _ _ _ _ _ _⟩
end Go.Proofs.YtagijldedngcoaaGreatDoor.Zq


namespace Go.Proofs.YtagijldedngcoaaGreatDoor.Zq
open Go.RowKit Go.Lib

theorem unlike_tests {A s : ByteArray} (h : ¬ A = s) : (¬ A.toList = s.toList)∧(A.toList == s.toList) = false:=by
 have h2 : ¬ A.toList = s.toList:=fun e => h (by
  rw [ByteArray.toList_eq,ByteArray.toList_eq] at e
  exact ByteArray.ext (Array.toList_inj.1 e))
 exact ⟨h2,by simpa using h2⟩

theorem decode_ok (s : ByteArray) (w : World) (hs : s.size ≤ 1000000) (h : decOK s.data.toList) :
  Calls Tryz.prog 232 #[.string s] w fun e w' => ∃ (k m i long : Nat) (id data : ByteArray),e = .returned (.tuple #[.agg #[.int .i64 k,.int .i64 m,.int .i64 i,.int .i64 long,.string id,.string data],.int .i64 0]) ∧
   (⟨k,m,i,long,id,data⟩ : SX) = decX s.data.toList∧Below w.heap.size w w':=by
 have HO:=hide h
 have X:=SK.new 232 w 0 0 0 0 ⟨#[]⟩ ⟨#[]⟩
 obtain ⟨W,hW⟩ : ∃ W,W = w.alloc (.cells #[.int .i64 0,.int .i64 0,.int .i64 0,.int .i64 0,.string ⟨#[]⟩,.string ⟨#[]⟩] 232):=⟨_,rfl⟩
 have HB : Hid (Below w.heap.size w W):=by rw [hW]; exact below_alloc (Below.refl _ _) _
 rw [← hW] at X
 have HW:=hide hW
 have HX:=hide X
 have hl:=X.lt
 clear X hW h
 go_enter Tryz.func232,Tryz.ntmps232
 go_wp2_with fail
 rw [← HW.out]
 refine (sread_any s W hs).mono ?_
 rintro e w1 ⟨k,m,i,long,id,data,rfl,⟨hk,hm,hi,hlo,hid,hda⟩,hdec,_,hb1⟩
 obtain ⟨hO1,hO2,hO3⟩:=HO.out
 have hdx:=hdec (by rw [← bsize]; exact hO1)
 rw [← hdx] at hO2 hO3
 have hA : bs (fullL ⟨k,m,i,long,id,data⟩) = s:=by rw [hO3,bs_of]
 have HDX:=hide hdx
 have HOK:=hide hO2
 have HA:=hide hA
 have HX1:=hide ((HX.out.below hb1 hl).alloc (.cells #[.int .i64 (k : Int),.int .i64 (m : Int),.int .i64 (i : Int),.int .i64 (long : Int),.string id,.string data] 232))
 have HY1:=hide (SK.new 232 w1 k m i long id data)
 have HB1:=hide ((HB.out.trans (hb1.mono HB.out.size)).alloc (Nat.le_trans HB.out.size hb1.size) (.cells #[.int .i64 (k : Int),.int .i64 (m : Int),.int .i64 (i : Int),.int .i64 (long : Int),.string id,.string data] 232))
 have n1 : ¬ w1.heap.size = w.heap.size:=by have:=hb1.size; omega
 have n2 : ¬ w.heap.size = w1.heap.size:=fun e => n1 e.symm
 obtain ⟨V,hV⟩ : ∃ V,V = w1.alloc (.cells #[.int .i64 (k : Int),.int .i64 (m : Int),.int .i64 (i : Int),.int .i64 (long : Int),.string id,.string data] 232):=⟨_,rfl⟩
 rw [← hV] at HX1 HY1 HB1
 have HV:=hide hV
 clear hV HX HB HW hb1 hdec hdx hO1 hO2 hO3 hA HO
 go_wp2_with fail
 rw [← HV.out]
 refine (written_any k m i long id data V hk hm hi hlo (by omega) (by omega)).mono ?_
 rintro e w2 ⟨rfl,hb2⟩
 rw [HA.out]
 have HX2:=hide (HX1.out.below hb2 HX1.out.lt)
 have HY2:=hide (HY1.out.below hb2 HY1.out.lt)
 have HB2:=hide (HB1.out.trans (hb2.mono HB1.out.size))
 have c0:=HY2.out.cell0
 have c1:=HY2.out.cell1
 have c2:=HY2.out.cell2
 have c3:=HY2.out.cell3
 have c4:=HY2.out.cell4
 have c5:=HY2.out.cell5
 clear hb2 HX1 HY1 HB1 HV
 go_wp2_with fail
 refine (check_ok _ _ _ _ id data _ HOK.out).mono ?_
 rintro e w3 ⟨rfl,hb3⟩
 clear c0 c1 c2 c3 c4 c5
 have Y3:=HY2.out.below hb3 HY2.out.lt
 have X3:=HX2.out.below hb3 HX2.out.lt
 have HB3:=hide (HB2.out.trans (hb3.mono HB2.out.size))
 have c0:=Y3.cell0
 have c1:=Y3.cell1
 have c2:=Y3.cell2
 have c3:=Y3.cell3
 have c4:=Y3.cell4
 have c5:=Y3.cell5
 have z0:=X3.cell0
 have z1:=X3.cell1
 have z2:=X3.cell2
 have z3:=X3.cell3
 have z4:=X3.cell4
 have z5:=X3.cell5
 have y0:=X3.free 0
 have y1:=X3.free 1
 have y2:=X3.free 2
 have y3:=X3.free 3
 have y4:=X3.free 4
 have y5:=X3.free 5
 clear hb3 HX2 HY2 HB2
 go_wp2
 have G:=X3.put k m i long id data
 exact bodyPost_ret (v:=.tuple #[.agg #[.int .i64 k,.int .i64 m,.int .i64 i,.int .i64 long,.string id,.string data],.int .i64 0]) (by simp [results,Tryz.results232,go_sem,G.cell0,G.cell1,G.cell2,G.cell3,G.cell4,G.cell5]) rfl
  ⟨k,m,i,long,id,data,rfl,HDX.out,below_put6 HB3.out (Nat.le_refl _) _ _ _ _ _ _⟩

theorem decode_bad (s : ByteArray) (w : World) (hs : s.size ≤ 1000000) (h : ¬ decOK s.data.toList) :
  Calls Tryz.prog 232 #[.string s] w fun e w' => e = .returned (.tuple #[.agg #[.int .i64 0,.int .i64 0,.int .i64 0,.int .i64 0,.string ⟨#[]⟩,.string ⟨#[]⟩],.int .i64 60])∧Below w.heap.size w w':=by
 have HO:=hide h
 have X:=SK.new 232 w 0 0 0 0 ⟨#[]⟩ ⟨#[]⟩
 obtain ⟨W,hW⟩ : ∃ W,W = w.alloc (.cells #[.int .i64 0,.int .i64 0,.int .i64 0,.int .i64 0,.string ⟨#[]⟩,.string ⟨#[]⟩] 232):=⟨_,rfl⟩
 have HB : Hid (Below w.heap.size w W):=by rw [hW]; exact below_alloc (Below.refl _ _) _
 rw [← hW] at X
 have HW:=hide hW
 have HX:=hide X
 have hl:=X.lt
 clear X hW h
 go_enter Tryz.func232,Tryz.ntmps232
 go_wp2_with fail
 rw [← HW.out]
 refine (sread_any s W hs).mono ?_
 rintro e w1 ⟨k,m,i,long,id,data,rfl,⟨hk,hm,hi,hlo,hid,hda⟩,hdec,hno,hb1⟩
 have HNK : Hid (bs (fullL ⟨k,m,i,long,id,data⟩) = s→¬ okS ⟨k,m,i,long,id,data⟩):=fun hA hok => by
  have hA2 : fullL ⟨k,m,i,long,id,data⟩ = s.data.toList:=by rw [← hA,bs_toList]
  by_cases h47 : 47 ≤ s.size
  ·have hdx:=hdec h47
   refine HO.out ⟨by rw [bsize]; exact h47,by rw [← hdx]; exact hok,by rw [← hdx]; exact hA2⟩
  ·have hz : 15 + id.size + data.size = s.size:=by
    rw [← bsize s,← hA2,fullL_length]
   rcases hno (by omega) with h1 | h1
   ·exact h1 hok.2.2.2.1
   ·exact h1 hz
 have HX1:=hide ((HX.out.below hb1 hl).alloc (.cells #[.int .i64 (k : Int),.int .i64 (m : Int),.int .i64 (i : Int),.int .i64 (long : Int),.string id,.string data] 232))
 have HY1:=hide (SK.new 232 w1 k m i long id data)
 have HB1:=hide ((HB.out.trans (hb1.mono HB.out.size)).alloc (Nat.le_trans HB.out.size hb1.size) (.cells #[.int .i64 (k : Int),.int .i64 (m : Int),.int .i64 (i : Int),.int .i64 (long : Int),.string id,.string data] 232))
 obtain ⟨V,hV⟩ : ∃ V,V = w1.alloc (.cells #[.int .i64 (k : Int),.int .i64 (m : Int),.int .i64 (i : Int),.int .i64 (long : Int),.string id,.string data] 232):=⟨_,rfl⟩
 rw [← hV] at HX1 HY1 HB1
 have HV:=hide hV
 clear hV HX HB HW hb1 hdec hno HO
 go_wp2_with fail
 rw [← HV.out]
 refine (written_any k m i long id data V hk hm hi hlo (by omega) (by omega)).mono ?_
 rintro e w2 ⟨rfl,hb2⟩
 have HX2:=hide (HX1.out.below hb2 HX1.out.lt)
 have HY2:=hide (HY1.out.below hb2 HY1.out.lt)
 have HB2:=hide (HB1.out.trans (hb2.mono HB1.out.size))
 obtain ⟨A,hA⟩ : ∃ A,A = bs (fullL ⟨k,m,i,long,id,data⟩):=⟨_,rfl⟩
 rw [← hA] at HNK ⊢
 clear hb2 HX1 HY1 HB1 HV hA
 by_cases hAs : A = s
 ·have HNO:=hide (HNK.out hAs)
  subst hAs
  have c0:=HY2.out.cell0
  have c1:=HY2.out.cell1
  have c2:=HY2.out.cell2
  have c3:=HY2.out.cell3
  have c4:=HY2.out.cell4
  have c5:=HY2.out.cell5
  clear HNK
  go_wp2_with fail
  refine (check_bad _ _ _ _ id data _ (by omega) HNO.out).mono ?_
  rintro e w3 ⟨rfl,hb3⟩
  have X3:=HX2.out.below hb3 HX2.out.lt
  have HB3:=hide (HB2.out.trans (hb3.mono HB2.out.size))
  have z0:=X3.cell0
  have z1:=X3.cell1
  have z2:=X3.cell2
  have z3:=X3.cell3
  have z4:=X3.cell4
  have z5:=X3.cell5
  have y0:=X3.free 0
  have y1:=X3.free 1
  have y2:=X3.free 2
  have y3:=X3.free 3
  have y4:=X3.free 4
  have y5:=X3.free 5
  clear hb3 HX2 HY2 HB2 c0 c1 c2 c3 c4 c5
  go_wp2
  have G:=X3.put 0 0 0 0 ⟨#[]⟩ ⟨#[]⟩
  exact bodyPost_ret (v:=.tuple #[.agg #[.int .i64 0,.int .i64 0,.int .i64 0,.int .i64 0,.string ⟨#[]⟩,.string ⟨#[]⟩],.int .i64 60]) (by simp [results,Tryz.results232,go_sem,G.cell0,G.cell1,G.cell2,G.cell3,G.cell4,G.cell5]) rfl
   ⟨rfl,below_put6 HB3.out (Nat.le_refl _) _ _ _ _ _ _⟩
 ·obtain ⟨u1,u2⟩:=unlike_tests hAs
  have X3:=HX2.out
  have z0:=X3.cell0
  have z1:=X3.cell1
  have z2:=X3.cell2
  have z3:=X3.cell3
  have z4:=X3.cell4
  have z5:=X3.cell5
  have y0:=X3.free 0
  have y1:=X3.free 1
  have y2:=X3.free 2
  have y3:=X3.free 3
  have y4:=X3.free 4
  have y5:=X3.free 5
  clear HX2 HY2 HNK hAs
  go_wp2
  have G:=X3.put 0 0 0 0 ⟨#[]⟩ ⟨#[]⟩
  exact bodyPost_ret (v:=.tuple #[.agg #[.int .i64 0,.int .i64 0,.int .i64 0,.int .i64 0,.string ⟨#[]⟩,.string ⟨#[]⟩],.int .i64 60]) (by simp [results,Tryz.results232,go_sem,G.cell0,G.cell1,G.cell2,G.cell3,G.cell4,G.cell5]) rfl
   ⟨rfl,below_put6 HB2.out (Nat.le_refl _) _ _ _ _ _ _⟩
end Go.Proofs.YtagijldedngcoaaGreatDoor.Zq


namespace Go.Proofs.YtagijldedngcoaaGreatDoor.Zq
open Go.RowKit Go.Lib

def shX (k m : Nat) (s : ByteArray) (i : Nat) : SX:=⟨k,m,i,s.size,bs (Sh.digest s.data.toList),shd k s i⟩
def shB (k m : Nat) (s : ByteArray) (i : Nat) : ByteArray:=bs (fullL (shX k m s i))
theorem shX_ok {k m : Nat} (k1 : 1 ≤ k) (km : k + m ≤ 255) {s : ByteArray} (hs : s.size ≤ 65536) {i : Nat} (hi : i < k + m) : okS (shX k m s i):=by
 refine ⟨⟨by simp only [shX]; omega,by simp only [shX]; omega,by simp only [shX]; omega⟩,⟨by simp only [shX]; omega,by simp only [shX]; omega⟩,⟨by simp only [shX]; omega,by simp only [shX]; omega⟩,?_,?_⟩
 ·show (bs (Sh.digest s.data.toList)).size = 32
  rw [bs_size,Sh.digest_length]
 ·show (shd k s i).size = eachN ((k : Int).toNat) ((s.size : Int).toNat)
  rw [Int.toNat_natCast,Int.toNat_natCast]
  exact shd_size k1 s i

theorem one_piece (w : World) (s : ByteArray) : Sh.Pieces (w.alloc (.cells #[.string s] 9)) (.slice (some ⟨w.heap.size,0,none⟩) 1 1) [s]:=by
 refine ⟨_,1,rfl,.inr ⟨w.heap.size,0,rfl,by simp,fun k hk => ?_⟩⟩
 have : k = 0:=by simpa using hk
 subst this
 rw [cell_of_row _ w.heap.size (0 + 0) _ _ _ (heap_alloc_new w _)]
 rfl
theorem joined_one (s : ByteArray) : Sh.strOf (Sh.digest (Sh.joined [s])) = bs (Sh.digest s.data.toList):=by
 rw [show Sh.joined [s] = s.data.toList by simp [Sh.joined]]
 rfl
theorem sum_one {w : World} (hL : Sh.Laid w) (s : ByteArray) (hs : s.size ≤ 1000000) :
  Calls Tryz.prog 37 #[.slice (some ⟨w.heap.size,0,none⟩) 1 1] (w.alloc (.cells #[.string s] 9)) fun e w' => e = .returned (.string (bs (Sh.digest s.data.toList)))∧Below w.heap.size w w':=by
 have hb : Below w.heap.size w (w.alloc (.cells #[.string s] 9)):=below_alloc (Below.refl _ _) _
 refine (Sh.sum_any (hL.below hb hL.size) (one_piece w s) (by simp) (by simp [Sh.joined]; omega)).mono ?_
 rintro e w1 ⟨rfl,hb1⟩
 rw [joined_one]
 exact ⟨rfl,below_step hb hb1⟩

theorem make_ok {w : World} (hL : Sh.Laid w) {k m : Nat} (k1 : 1 ≤ k) (km : k + m ≤ 255) {s : ByteArray} (hs : s.size ≤ 65536) :
  Calls Tryz.prog 157 #[.int .i64 k,.int .i64 m,.string s] w fun e w' => ∃ q,e = .returned (.tuple #[.slice (some ⟨q,0,none⟩) (k + m) (k + m),.int .i64 0])∧SB w' q (k + m) (shB k m s)∧w.heap.size ≤ q∧Below w.heap.size w w':=by
 obtain ⟨n,hn⟩ : ∃ n,n = k + m:=⟨_,rfl⟩
 have hnb : n ≤ 255:=by omega
 have HL:=hide hL
 have HK:=hide (And.intro k1 (And.intro km (And.intro hs hn)))
 obtain ⟨ID,hID⟩ : ∃ d,d = bs (Sh.digest s.data.toList):=⟨_,rfl⟩
 have HID:=hide hID
 have zID : ID.size = 32:=by rw [hID,bs_size,Sh.digest_length]
 have kk : k < 256:=by omega
 have mm : m < 256:=by omega
 rw [← hn]
 clear hL hn k1 km hID
 go_enter Tryz.func157,Tryz.ntmps157
 go_wp2_with fail
 refine (snew_ok HK.out.1 HK.out.2.1).mono ?_
 rintro e w1 ⟨b,sb,f1,f2,g,rfl,hP,hf2,hb1⟩
 have HP:=hide hP
 have HB1:=hide hb1
 have HF:=hide hf2
 clear hb1 hP hf2
 go_wp2_with fail
 refine (split_ok HP.out HK.out.1 HK.out.2.1 HK.out.2.2.1).mono ?_
 rintro e w2 ⟨q,rfl,hS,hq,_,hg2⟩
 rw [← HK.out.2.2.2] at hS ⊢
 have HB2:=hide (below_gb HB1.out hg2 HF.out HB1.out.size)
 have HS2:=hide hS
 have HL2:=hide (HL.out.below HB2.out HL.out.size)
 have HQ:=hide (Nat.le_trans HB1.out.size hq)
 clear hS hq hg2 HB1 HP HF HL
 go_wp2_with fail
 refine (sum_one HL2.out s (by omega)).mono ?_
 rintro e w3 ⟨rfl,hb3⟩
 rw [← HID.out]
 have HB3:=hide (HB2.out.trans (hb3.mono HB2.out.size))
 have HS3:=hide (HS2.out.below hb3 (Nat.le_refl _))
 have hmk : ∀ w : World,_:=fun w => run_make_row' (P:=Tryz.prog) 44 9 (.string ⟨#[]⟩) 16 Tryz.underlying44 Tryz.infoS rfl .i64 .i64 n (by omega) (by omega) w
 clear hb3 HB2 HS2 HL2
 have HN4:=hide (SB.made w3 n)
 have hb34:=below_alloc (Below.refl w3.heap.size w3) (.cells (madeCells #[.string ⟨#[]⟩] n) 9)
 have HB4:=hide (HB3.out.trans (hb34.mono HB3.out.size))
 have HS4:=hide (HS3.out.below hb34 (Nat.le_refl _))
 have HQ4 : Hid (q < w3.heap.size∧w.heap.size ≤ w3.heap.size):=⟨HS3.out.lt,HB3.out.size⟩
 clear hb34 HB3 HS3
 obtain ⟨V,hV⟩ : ∃ V,V = w3.alloc (.cells (madeCells #[.string ⟨#[]⟩] n) 9):=⟨_,rfl⟩
 rw [← hV] at HN4 HB4 HS4
 have HV:=hide hV
 clear hV
 go_upto_region 9 with fail
 rw [← HV.out]
 obtain ⟨p,hp⟩ : ∃ p,p = w3.heap.size:=⟨_,rfl⟩
 rw [← hp] at HN4 HQ4 ⊢
 clear HV hmk hp
 have HSZ : Hid (∀ i,(shd k s i).size ≤ 65536):=fun i => by
  rw [shd_size HK.out.1]
  exact Nat.le_trans (eachN_le HK.out.1) hs
 have HEQ : Hid (∀ i : Nat,bs (fullL ⟨k,m,i,s.size,ID,shd k s i⟩) = shB k m s i):=fun i => by
  rw [HID.out]
  rfl
 go_wp2
 go_loopw [41] (fun z wr => ∃ i : Nat,i ≤ n∧z = .int .i64 i∧SB wr p n (fun j => if j < i then shB k m s j else ⟨#[]⟩)∧SB wr q n (shd k s)∧Below w.heap.size w wr) (fun z _ => n - (RowKit.intOf z).toNat)
 case atStart => exact ⟨0,Nat.zero_le _,rfl,HN4.out.congr (fun i hi => by simp),HS4.out,HB4.out⟩
 case round =>
  obtain ⟨i,hi,rfl,hN,hS,hb⟩:=hrel
  clear HN4 HS4 HB4
  by_cases hlt : i < n
  ·have HNr:=hide hN
   have HSr:=hide hS
   have HBr:=hide hb
   have b1 : (i : Int) < (n : Int):=by omega
   have b0 : (0 : Int) ≤ (i : Int):=by omega
   have cq:=hS.cell i hlt
   have ii : i < 256:=by omega
   clear hN hS hb
   go_wp2_with fail
   refine (written_any k m i s.size ID (shd k s i) _ kk mm ii (by omega) (by omega) (by have:=HSZ.out i; omega)).mono ?_
   rintro e w5 ⟨rfl,hb5⟩
   rw [HEQ.out i]
   have hN2:=HNr.out.below hb5 (Nat.le_refl _)
   have HS2:=hide (HSr.out.below hb5 (Nat.le_refl _))
   have HB2:=hide (HBr.out.trans (hb5.mono HBr.out.size))
   have hset:=hN2.set i (shB k m s i)
   have gs:=gb_set w5 p i (.string (shB k m s i))
   have HN3 : Hid (SB (w5.setCell ⟨p,i,none⟩ (.string (shB k m s i))) p n (fun j => if j < i + 1 then shB k m s j else ⟨#[]⟩)):=hset.congr (fun j hj => by
    by_cases e1 : j = i
    ·subst e1; rw [if_pos rfl,if_pos (by omega)]
    ·rw [if_neg e1]
     by_cases e2 : j < i
     ·rw [if_pos e2,if_pos (by omega)]
     ·rw [if_neg e2,if_neg (by omega)])
   have nqq : q ≠ p:=by
    have:=HQ4.out
    omega
   have HS3:=hide (HS2.out.of_block (gs.block q HS2.out.lt (by simpa using nqq)))
   have HB3:=hide (HB2.out.setCell (p:=⟨p,i,none⟩) HQ4.out.2 (.string (shB k m s i)))
   have q1:=hN2.cell i hlt
   have q2:=hN2.free i
   clear hset gs hN2 HS2 HB2 HNr HSr HBr nqq hb5 cq
   go_wp2
   exact ⟨⟨i + 1,by omega,by go_num,HN3.out,HS3.out,HB3.out⟩,by simp [RowKit.intOf]; omega⟩
  ·obtain rfl : i = n:=by omega
   have HNr:=hide (hN.congr (X':=shB k m s) (fun j hj => if_pos hj))
   have HBr:=hide hb
   clear hN hS hb
   go_wp2
   go_ret2
   exact ⟨p,rfl,HNr.out,HQ4.out.2,HBr.out⟩
end Go.Proofs.YtagijldedngcoaaGreatDoor.Zq


namespace Go.Proofs.YtagijldedngcoaaGreatDoor.Zq
open Go.RowKit Go.Lib

theorem fu_all {k : Nat} {I : Nat→Int} : ∀ n,n ≤ k→(∀ s t,s < n→t < n→I s = I t→s = t)→fu k I n = List.range n
 | 0,_,_ => rfl
 | n + 1,hn,hi => by
  have e:=fu_all (k:=k) (I:=I) n (by omega) (fun s t hs ht => hi s t (by omega) (by omega))
  rw [fu_take,e,List.range_succ]
  ·rw [e,List.length_range]; omega
  ·rw [e]
   intro h
   obtain ⟨t,ht,h2⟩:=List.mem_map.1 h
   have:=hi t n (by have:=List.mem_range.1 ht; omega) (by omega) h2
   have:=List.mem_range.1 ht
   omega
theorem any_join {k m : Nat} (k1 : 1 ≤ k) (km : k + m ≤ 255) {I : Nat→Int} {X : Nat→ByteArray} {ρ : Nat→Nat} {n : Nat} (s : ByteArray) (hI : ∀ t,t < n→I t = ((ρ t : Nat) : Int)) (hρ : ∀ t,t < n→ρ t < k + m)
  (hX : ∀ t,t < n→X t = shd k s (ρ t)) (hf : (fu k I n).length = k) (hinj : ∀ a b,a < k→b < k→I ((fu k I n).getD a 0) = I ((fu k I n).getD b 0)→a = b) : joinB k I X n s.size = s:=by
 have hmem : ∀ t,t < k→(fu k I n).getD t 0 < n:=fun t ht => fu_lt (getD_mem (by rw [hf]; exact ht))
 have hr : ∀ t,t < k→rhoL I (fu k I n) t = ρ ((fu k I n).getD t 0):=fun t ht => by
  rw [rhoL,hI _ (hmem t ht)]
  exact Int.toNat_natCast _
 rw [joinB,cat_congr (Y':=pc k s) (fun i hi => bkd_shd k1 km (fun t ht => by rw [hr t ht]; exact hρ _ (hmem t ht)) (fun a b ha hb e => hinj a b ha hb (by
  rw [hr a ha,hr b hb] at e
  rw [hI _ (hmem a ha),hI _ (hmem b hb),e])) s (fun t ht => by rw [hr t ht,txJ]; exact hX _ (hmem t ht)) hi)]
 exact cat_back k1 s

section
variable {data : ByteArray} {out : Nat} {X : Nat→SX}
end
theorem gJS_size {X : Nat→SX} {n : Nat} : (gJS X n).size ≤ 65536:=by
 unfold gJS jnS
 split
 ·exact Nat.zero_le _
 split
 ·exact Nat.zero_le _
 rename_i h1 h2
 have hf : faultV (X 0).k.toNat (X 0).m.toNat (X 0).long (fun i => (X i).i) (fun i => (X i).data) n = 0:=Classical.not_not.1 h1
 have:=faultV_zero hf
 rw [joinB,ByteArray.size_extract]
 omega
end Go.Proofs.YtagijldedngcoaaGreatDoor.Zq


namespace Go.Proofs.YtagijldedngcoaaGreatDoor.Zq
open Go.RowKit Go.Lib

def amg (x : Int) (n : Nat) : Nat:=((x.tmod n + n).tmod n).toNat
theorem amg_spec (x : Int) (n : Nat) (hn : 0 < n) : (x.tmod n + n).tmod n = (amg x n : Int)∧amg x n < n∧0 ≤ x.tmod n + n∧x.tmod n + n < 2 * n:=by
 have hp : (0 : Int) < n:=by omega
 have h2 : -(n : Int) < x.tmod n∧x.tmod n < n:=by
  rcases Int.le_total 0 x with h | h
  ·have a:=Int.tmod_nonneg (n : Int) h
   have b:=Int.tmod_lt_of_pos x hp
   omega
  ·have a:=Int.tmod_nonneg (n : Int) (show 0 ≤ -x by omega)
   have b:=Int.tmod_lt_of_pos (-x) hp
   rw [Int.neg_tmod] at a b
   omega
 have h3 : 0 ≤ x.tmod n + n:=by omega
 have h4 : 0 ≤ (x.tmod n + n).tmod n:=Int.tmod_nonneg _ h3
 have h5:=Int.tmod_lt_of_pos (x.tmod n + n) (show (0 : Int) < n by omega)
 refine ⟨by rw [amg]; omega,by rw [amg]; omega,h3,by omega⟩
theorem among_any (w : World) (x : Int) (n : Nat) (hn : 0 < n) (hn2 : n < 100000) : Calls Tryz.prog 9 #[.int .i64 x,.int .i64 n] w fun e w' => e = .returned (.int .i64 ((amg x n : Nat) : Int))∧w' = w:=by
 obtain ⟨h1,h2,h3,h4⟩:=amg_spec x n hn
 have hb:=IntKind.i64.wrap
 generalize amg x n = r at *
 have h0 : ((n : Int) == 0) = false:=by simp; omega
 have h0' : ¬ ((n : Int) = 0):=by omega
 have hm1 : ¬ ((n : Int) = -1):=by omega
 obtain ⟨y,hy⟩ : ∃ y,y = x.tmod n:=⟨_,rfl⟩
 rw [← hy] at h1 h3 h4
 have hy':=hy.symm
 clear hy hb
 go_enter Tryz.func9,Tryz.ntmps9
 go_wp2
 go_ret
 exact ⟨rfl,rfl⟩

end Go.Proofs.YtagijldedngcoaaGreatDoor.Zq


namespace Go.Proofs.YtagijldedngcoaaGreatDoor.Zq
open Go.RowKit Go.Lib

end Go.Proofs.YtagijldedngcoaaGreatDoor.Zq


namespace Go.Proofs.YtagijldedngcoaaGreatDoor.Zq
open Go.RowKit Go.Lib

end Go.Proofs.YtagijldedngcoaaGreatDoor.Zq


namespace Go.Proofs.YtagijldedngcoaaGreatDoor.Zq
open Go.RowKit Go.Lib

end Go.Proofs.YtagijldedngcoaaGreatDoor.Zq


namespace Go.Proofs.YtagijldedngcoaaGreatDoor.Zq
open Go.RowKit Go.Lib

theorem ftS_not {x y : SX} (h : ¬ ftS x y) : (¬ x.k = y.k) ∨ (x.k = y.k∧¬ x.m = y.m) ∨ (x.k = y.k∧x.m = y.m∧¬ x.long = y.long) ∨ (x.k = y.k∧x.m = y.m∧x.long = y.long∧¬ x.id = y.id):=by
 unfold ftS at h
 by_cases h1 : x.k = y.k
 ·by_cases h2 : x.m = y.m
  ·by_cases h3 : x.long = y.long
   ·exact .inr (.inr (.inr ⟨h1,h2,h3,fun h4 => h ⟨h1,h2,h3,h4⟩⟩))
   ·exact .inr (.inr (.inl ⟨h1,h2,h3⟩))
  ·exact .inr (.inl ⟨h1,h2⟩)
 ·exact .inl h1
theorem ft_bool (x y : SX) : ∃ t : Bool,(t = true ↔ ftS x y):=by
 by_cases h : ftS x y
 ·exact ⟨true,by simp [h]⟩
 ·exact ⟨false,by simp [h]⟩

theorem fits_any (x y : SX) (w : World) (t : Bool) (ht : t = true ↔ ftS x y) :
  Calls Tryz.prog 235 #[.agg #[.int .i64 x.k,.int .i64 x.m,.int .i64 x.i,.int .i64 x.long,.string x.id,.string x.data],.agg #[.int .i64 y.k,.int .i64 y.m,.int .i64 y.i,.int .i64 y.long,.string y.id,.string y.data]] w fun e w' => e = .returned (.bool t)∧Below w.heap.size w w':=by
 have HB : Hid (∀ o1 o2,Below w.heap.size w ((w.alloc o1).alloc o2)):=fun o1 o2 => below_alloc (below_alloc (Below.refl _ _) _) _
 obtain ⟨k,m,i,long,id,data⟩:=x
 obtain ⟨k2,m2,i2,l2,id2,da2⟩:=y
 simp only at ht ⊢
 by_cases h : ftS ⟨k,m,i,long,id,data⟩ ⟨k2,m2,i2,l2,id2,da2⟩
 ·obtain rfl:=ht.2 h
  obtain ⟨h1,h2,h3,h4⟩:=h
  simp only at h1 h2 h3 h4
  subst h1 h2 h3 h4
  clear ht
  go_enter Tryz.func235,Tryz.ntmps235
  go_wp2
  go_ret
  exact ⟨rfl,HB.out _ _⟩
 ·obtain rfl : t = false:=by
   cases t
   ·rfl
   ·exact absurd (ht.1 rfl) h
  rcases ftS_not h with h1 | ⟨h1,h2⟩ | ⟨h1,h2,h3⟩ | ⟨h1,h2,h3,h4⟩
  ·simp only at h1
   have e1 : (k == k2) = false:=by simpa using h1
   clear ht h h1
   go_enter Tryz.func235,Tryz.ntmps235
   go_wp2
   go_ret
   exact ⟨rfl,HB.out _ _⟩
  ·simp only at h1 h2
   have e1 : (m == m2) = false:=by simpa using h2
   subst h1
   clear ht h h2
   go_enter Tryz.func235,Tryz.ntmps235
   go_wp2
   go_ret
   exact ⟨rfl,HB.out _ _⟩
  ·simp only at h1 h2 h3
   have e1 : (long == l2) = false:=by simpa using h3
   subst h1 h2
   clear ht h h3
   go_enter Tryz.func235,Tryz.ntmps235
   go_wp2
   go_ret
   exact ⟨rfl,HB.out _ _⟩
  ·simp only at h1 h2 h3 h4
   obtain ⟨u1,u2⟩:=unlike_tests h4
   subst h1 h2 h3
   clear ht h h4
   go_enter Tryz.func235,Tryz.ntmps235
   go_wp2
   go_ret
   exact ⟨rfl,HB.out _ _⟩

end Go.Proofs.YtagijldedngcoaaGreatDoor.Zq


/-
  Contracts of the program and of the statements (part 4 of 28).
-/
import Derived.Test.YtagijldedngcoaaGreatDoorRows
import Derived.Test.YtagijldedngcoaaGreatDoorOl3
import Derived.Lib.VarintMem
import Derived.WalkKit
import Derived.WalkSpells
import Derived.WalkLawsBesides
import Derived.Deep.QuietTactic
import Derived.BigQuiet
set_option maxRecDepth 100000
set_option maxHeartbeats 400000

namespace Go.Proofs.YtagijldedngcoaaGreatDoor.Zq.Nm
open Go.Lib

def fixedOf (x : Nat) : Nat→List UInt8
 | 0 => []
 | k + 1 => (x / 256 ^ k % 256).toUInt8 :: fixedOf x k

theorem fixedOf_length (x : Nat) : ∀ k,(fixedOf x k).length = k
 | 0 => rfl
 | k + 1 => by simp [fixedOf,fixedOf_length x k]

def strOf (l : List UInt8) : ByteArray:=⟨l.toArray⟩
end Go.Proofs.YtagijldedngcoaaGreatDoor.Zq.Nm

namespace Go.Proofs.YtagijldedngcoaaGreatDoor.Zq.Nm
open Go.RowKit Go.Lib

theorem Tryz.info5 : (Tryz.prog.info? 5).map (fun i => (i.zero,i.size,i.bytes)) = some (some (.int .u8 0),1,1):=by kernel_rfl

theorem run_string_of_own {w : World} {base : Nat} {v : Value} {l : List UInt8} (h : w.ownsRow base 5 1 v l.length (byteCells l)) :
  (convert 79 9 v).run Tryz.prog w = .ok (.string (strOf l)) w:=by
 rcases h.2 with ⟨hv,hn⟩ | ⟨g,cap,cur,hv,_⟩
 ·subst hv
  have hl : l = []:=List.eq_nil_of_length_eq_zero hn
  subst hl
  exact run_convert_bytes_nil w 79 5 Tryz.underlying79 Tryz.underlying5 0 0 9 Tryz.underlying9
 ·subst hv
  have hc:=fun j (hj : j < l.length) => h.cellAt j (by omega)
  have:=run_convert_bytes_arg w 79 5 Tryz.underlying79 Tryz.underlying5 g 0 l.length cap (l.map fun b => (b.toNat : Int)) (by simp)
   (fun i hi => by
    rw [Nat.zero_add,hc i hi]
    simp [byteCells,hi]) 9 Tryz.underlying9
  rw [this]
  have e : (l.map fun b => (b.toNat : Int)).map (fun n => UInt8.ofNat n.toNat) = l:=by
   rw [List.map_map]
   exact (List.map_congr_left fun a _ => by simp).trans (List.map_id l)
  simp only [strOfNums,strOf,e]

end Go.Proofs.YtagijldedngcoaaGreatDoor.Zq.Nm

namespace Go.Proofs.YtagijldedngcoaaGreatDoor.Zq.Nm
open Go.RowKit Go.Lib

theorem pow_256 (k : Nat) : (256 : Nat) ^ k = 2 ^ (8 * k):=by
 rw [show (256 : Nat) = 2 ^ 8 from rfl,← Nat.pow_mul]
theorem shr_zero (n k : Nat) (hr : n < 256 ^ k) : ((n : Int) / 2 ^ (8 * k) != 0) = false:=by
 rw [pow_256] at hr
 have : (n : Int) / 2 ^ (8 * k) = 0:=by
  have h2 : ((n / 2 ^ (8 * k) : Nat) : Int) = (n : Int) / 2 ^ (8 * k):=by simp
  rw [← h2,Nat.div_eq_of_lt hr]; rfl
 rw [this]; rfl

theorem set_zeros (x : UInt8) (F : List UInt8) (m : Nat) : (List.replicate (m + 1) 0 ++ F).set m x = List.replicate m 0 ++ x :: F:=by
 rw [List.replicate_succ',List.append_assoc,List.set_append_right _ _ (by simp)]
 simp

theorem zero_at (F : List UInt8) (m : Nat) : (byteCells (List.replicate (m + 1) 0 ++ F))[m]? = some (.int .u8 0):=by
 simp [byteCells,List.getElem?_append]

theorem rel_fix {B : Nat} {w wr : World} {n k j : Nat} {x : Int} (hlt : j < k) (hx : x = ((n / 256 ^ j % 256 : Nat) : Int)) (hown : wr.ownsRow B 5 1 (.slice (some ⟨B,0,none⟩) k k) k (byteCells (List.replicate (k - j) 0 ++ fixedOf n j))) (hb : Below B w wr) :
  (wr.setCell ⟨B,k - 1 - j,none⟩ (.int .u8 x)).ownsRow B 5 1 (.slice (some ⟨B,0,none⟩) k k) k (byteCells (List.replicate (k - (j + 1)) 0 ++ fixedOf n (j + 1))) ∧
  Below B w (wr.setCell ⟨B,k - 1 - j,none⟩ (.int .u8 x)):=by
 refine ⟨?_,hb.setCell (Nat.le_refl _) _⟩
 have h:=(hown.stored (k - 1 - j) (.int .u8 x)).1
 have e : (byteCells (List.replicate (k - j) 0 ++ fixedOf n j)).set (k - 1 - j) (.int .u8 x) = byteCells (List.replicate (k - (j + 1)) 0 ++ fixedOf n (j + 1)):=by
  have hk : k - j = (k - 1 - j) + 1:=by omega
  have hx2 : Value.int .u8 x = (fun b : UInt8 => Value.int .u8 b.toNat) (n / 256 ^ j % 256).toUInt8:=by
   show _ = Value.int .u8 ((n / 256 ^ j % 256).toUInt8.toNat : Int)
   rw [toUInt8_toNat (by omega),hx]
  rw [hk,hx2,byteCells,← List.map_set,set_zeros,fixedOf,show k - (j + 1) = k - 1 - j from by omega]
  rfl
 rw [e] at h
 exact h

theorem fixed_any (n k : Nat) (w : World) (hn : n ≤ 9223372036854775807) (hk1 : 1 ≤ k) (hk8 : k ≤ 8) (hr : n < 256 ^ k) :
  Calls Tryz.prog 264 #[.int .i64 n,.int .i64 k] w fun e w' => e = .returned (.tuple #[.string (strOf (fixedOf n k)),.int .i64 0])∧Below w.heap.size w w':=by
 obtain ⟨i0,hi,hz0,hz1,hz2⟩:=info_parts Tryz.info5
 have hsh:=shr_zero n k hr
 clear hr
 go_enter Tryz.func264,Tryz.ntmps264
 go_wp2_with (at_make; refine wpList_make_full _ rfl _ _ 79 rfl w.heap.size 5 i0 (.int .u8 0) 1 Tryz.underlying79 hi hz0 hz1 _ _ _ _ k rfl rfl rfl rfl (by rw [hz2]; omega) (by unfold maxLen; omega) (Nat.le_refl _) ?_)
 intro w0 hown0 hgrow0
 have hb0 : Below w.heap.size w w0:=(Below.refl _ _).grown hgrow0 (Nat.le_refl _) (fun k hk => by cases hk)
 have hz : w.heap.size < w0.heap.size:=(hown0.lt w.heap.size rfl).2
 clear hgrow0 hz0 hz1 hz2 hi
 go_wp2
 go_loopw [7,29] (fun _ i wr => ∃ j : Nat,j ≤ k∧i = .int .i64 j∧wr.ownsRow w.heap.size 5 1 (.slice (some ⟨w.heap.size,0,none⟩) k k) k (byteCells (List.replicate (k - j) 0 ++ fixedOf n j))∧Below w.heap.size w wr)
  (fun _ i _ => k - (intOf i).toNat)
 case atStart => exact ⟨0,Nat.zero_le _,rfl,by simpa [fixedOf,byteCells,toList_madeCells_one] using hown0,hb0⟩
 case round =>
  obtain ⟨j,hj,rfl,hown,hb⟩:=hrel
  by_cases hlt : j < k
  ·have hc : wr.cell? ⟨w.heap.size,k - 1 - j,none⟩ = some (.int .u8 0):=by
    rw [hown.cellAt (k - 1 - j) (by omega),show k - j = (k - 1 - j) + 1 from by omega,zero_at]
   have hf:=hown.frozenAt (k - 1 - j)
   have R:=rel_fix hlt (x:=(n : Int) / 2 ^ (8 * j) % 256) (by rw [pow_256]; simp) hown hb
   clear hown hb
   go_wp2
   go_roundw
   case rel => exact ⟨j + 1,by omega,by go_num,R.1,R.2⟩
   case measure => simp [intOf]; omega
  ·have hjk : j = k:=by omega
   subst hjk
   rw [Nat.sub_self,List.replicate_zero,List.nil_append] at hown
   have hs:=run_string_of_own (l:=fixedOf n j) (by rw [fixedOf_length]; exact hown)
   go_wp2
   go_ret2
   exact ⟨rfl,hb⟩

end Go.Proofs.YtagijldedngcoaaGreatDoor.Zq.Nm

namespace Go.Proofs.YtagijldedngcoaaGreatDoor.Zq.Nm
open Go.RowKit Go.Lib

def Rd (T : TypeId) (w : World) (b : Nat) (s : ByteArray) (p : Nat) (x : Int) : Prop :=
 w.heap[b]? = some (.cells #[.string s,.int .i64 p,.int .i64 x] T (0,0))

section
variable {T : TypeId} {w w' : World} {b : Nat} {s : ByteArray} {p : Nat} {x : Int}

theorem Rd.lt (h : Rd T w b s p x) : b < w.heap.size:=lt_of_block h
theorem Rd.cell0 (h : Rd T w b s p x) : w.cell? ⟨b,0,none⟩ = some (.string s):=by simp [World.cell?,show w.heap[b]? = _ from h]
theorem Rd.cell1 (h : Rd T w b s p x) : w.cell? ⟨b,1,none⟩ = some (.int .i64 p):=by simp [World.cell?,show w.heap[b]? = _ from h]
theorem Rd.cell2 (h : Rd T w b s p x) : w.cell? ⟨b,2,none⟩ = some (.int .i64 x):=by simp [World.cell?,show w.heap[b]? = _ from h]
theorem Rd.free (h : Rd T w b s p x) (j : Nat) : w.frozen? ⟨b,j,none⟩ = false:=by simp [World.frozen?,show w.heap[b]? = _ from h]
theorem Rd.of_block (h : Rd T w b s p x) (hb : w'.heap[b]? = w.heap[b]?) : Rd T w' b s p x:=hb.trans h
theorem Rd.below (h : Rd T w b s p x) {B : Nat} (hb : Below B w w') (hB : b < B) : Rd T w' b s p x:=h.of_block (hb.block b hB)
theorem Rd.grown (h : Rd T w b s p x) {row : Option Nat} (hg : w.grownBy w' row) (hne : some b ≠ row) : Rd T w' b s p x:=h.of_block (hg.block b h.lt hne)
theorem Rd.drewN (h : Rd T w b s p x) (n : Nat) : Rd T (w.drewN n) b s p x:=h
theorem heap_set_self {w : World} {b j : Nat} {u : Value} {c : Array Value} {fr : Nat × Nat} (h : w.heap[b]? = some (.cells c T fr)) : (w.setCell ⟨b,j,none⟩ u).heap[b]? = some (.cells (c.setIfInBounds j u) T fr):=by
 have hlt:=lt_of_block h
 have h' : w.heap[b] = .cells c T fr:=by simpa [Array.getElem?_eq_getElem hlt] using h
 show (w.heap.modify b _)[b]? = _
 rw [Array.getElem?_eq_getElem (by simpa using hlt),Array.getElem_modify_self,h']
 rfl
theorem Rd.set1 (h : Rd T w b s p x) (p' : Nat) : Rd T (w.setCell ⟨b,1,none⟩ (.int .i64 p')) b s p' x:=heap_set_self (u:=.int .i64 p') h
theorem Rd.set2 (h : Rd T w b s p x) (x' : Int) : Rd T (w.setCell ⟨b,2,none⟩ (.int .i64 x')) b s p x':=heap_set_self (u:=.int .i64 x') h

theorem gb_set (w : World) (b j : Nat) (u : Value) : w.grownBy (w.setCell ⟨b,j,none⟩ u) (some b) :=
 ⟨rfl,rfl,rfl,by simp,fun k _ hk => heap_setCell_other w ⟨b,j,none⟩ k u (fun e => hk (by simp [e]))⟩
theorem gb_below (h : Below w.heap.size w w') (row : Option Nat) : w.grownBy w' row:=⟨h.os,h.tape,h.output,h.size,fun k hk _ => h.block k hk⟩
theorem gb_trans {w1 w2 : World} {row : Option Nat} (h : w.grownBy w1 row) (k : w1.grownBy w2 row) : w.grownBy w2 row :=
 ⟨k.os.trans h.os,k.tape.trans h.tape,k.output.trans h.output,Nat.le_trans h.size k.size,fun i hi hne => (k.block i (Nat.lt_of_lt_of_le hi h.size) hne).trans (h.block i hi hne)⟩
theorem gb_drewN {w1 : World} {row : Option Nat} (h : w.grownBy w1 row) (n : Nat) : w.grownBy (w1.drewN n) row:=⟨h.os,h.tape,h.output,h.size,h.block⟩
theorem below_drew {B : Nat} (h : Below B w w') (n : Nat) : Below B w (w'.drewN n):=⟨h.os,h.tape,h.output,h.size,h.block⟩
end

theorem read_any (s : ByteArray) (w : World) :
  Calls Tryz.prog 271 #[.string s] w fun e w' => e = .returned (.pointer (some ⟨w.heap.size,0,none⟩))∧Rd 384 w' w.heap.size s 0 0∧Below w.heap.size w w':=by
 go_enter Tryz.func271,Tryz.ntmps271
 go_wp2
 go_ret
 exact ⟨rfl,heap_alloc_new w _,(Below.refl _ _).alloc (Nat.le_refl _) _⟩

theorem left_any {w : World} {b : Nat} {s : ByteArray} {p : Nat} {x : Int} (h : Rd 384 w b s p x) (hp : p ≤ s.size) (hs : s.size ≤ 140737488355328) :
  Calls Tryz.prog 274 #[.pointer (some ⟨b,0,none⟩)] w fun e w' => e = .returned (.int .i64 ((s.size : Int) - p))∧∃ n,w' = w.drewN n:=by
 have c0:=h.cell0
 have c1:=h.cell1
 go_enter Tryz.func274,Tryz.ntmps274
 go_wp2
 go_quiet (fail)
 go_wp2
 go_ret
 exact ⟨rfl,_,rfl⟩

def failed (x y : Int) : Int:=if x = 0 then y else x
theorem failed_zero (y : Int) : failed 0 y = y:=rfl
theorem failed_some {x : Int} (h : ¬ x = 0) (y : Int) : failed x y = x:=if_neg h

theorem fail_any {w : World} {b : Nat} {s : ByteArray} {p : Nat} {x : Int} (y : Int) (hr : Rd 384 w b s p x) :
  Calls Tryz.prog 311 #[.pointer (some ⟨b,0,none⟩),.int .i64 y] w fun e w' => e = .returned (.tuple #[])∧Rd 384 w' b s p (failed x y)∧w.grownBy w' (some b):=by
 have c2:=hr.cell2
 have f2:=hr.free 2
 by_cases hx : x = 0
 ·subst hx
  have R:=hr.set2 y
  clear hr
  go_enter Tryz.func311,Tryz.ntmps311
  go_wp2
  go_end0
  exact ⟨rfl,R,gb_set _ _ _ _⟩
 ·have hb : (x == 0) = false:=by simpa using hx
  have R : Rd 384 w b s p (failed x y):=by rw [failed_some hx]; exact hr
  clear hx hr
  go_enter Tryz.func311,Tryz.ntmps311
  go_wp2
  go_end0
  exact ⟨rfl,R,World.grownBy.refl _ _⟩

end Go.Proofs.YtagijldedngcoaaGreatDoor.Zq.Nm

namespace Go.Proofs.YtagijldedngcoaaGreatDoor.Zq.Nm
open Go.Lib

structure Ah where
 num : Nat
 txt : ByteArray
 long : Nat
 code : Int

def Ah.bad (c : Int) : Ah:=⟨0,⟨#[]⟩,0,c⟩

def bytesA (s : ByteArray) (p : Nat) (n : Int) : Ah :=
 if n < 0 then .bad 1 else if (s.size : Int) - p < n then .bad 10 else ⟨0,s.extract p (p + n.toNat),n.toNat,0⟩

def numOf (l : List UInt8) : Nat:=l.foldl (fun a c => a * 256 + c.toNat) 0

def fixedA (s : ByteArray) (p : Nat) (n : Int) : Ah :=
 if n < 1 ∨ 7 < n then .bad 1 else if (s.size : Int) - p < n then .bad 10 else ⟨numOf (s.extract p (p + n.toNat)).data.toList,⟨#[]⟩,n.toNat,0⟩

theorem numOf_snoc (l : List UInt8) (c : UInt8) : numOf (l ++ [c]) = numOf l * 256 + c.toNat:=by simp [numOf]
theorem numOf_lt_rev : ∀ l : List UInt8,numOf l.reverse < 256 ^ l.length
 | [] => by simp [numOf]
 | c :: l => by
  rw [List.reverse_cons,numOf_snoc,List.length_cons,Nat.pow_succ]
  have h1:=numOf_lt_rev l
  have h2:=c.toNat_lt
  omega
theorem numOf_lt (l : List UInt8) : numOf l < 256 ^ l.length:=by
 have h:=numOf_lt_rev l.reverse
 rwa [List.reverse_reverse,List.length_reverse] at h
theorem take_snoc (s : ByteArray) (k : Nat) (h : k < s.size) : s.data.toList.take (k + 1) = s.data.toList.take k ++ [s[k]]:=by
 rw [List.take_succ_eq_append_getElem (by simpa using h)]; rfl
theorem numOf_take (t : ByteArray) (j : Nat) (h : j < t.size) : numOf (t.data.toList.take (j + 1)) = numOf (t.data.toList.take j) * 256 + t[j].toNat:=by
 rw [take_snoc t j h,numOf_snoc]
theorem numOf_take_lt (t : ByteArray) (j k : Nat) (h : j ≤ k) : numOf (t.data.toList.take j) < 256 ^ k :=
 Nat.lt_of_lt_of_le (numOf_lt _) (Nat.pow_le_pow_right (by decide) (Nat.le_trans (List.length_take_le _ _) h))

theorem take_all (t : ByteArray) (j : Nat) (h : t.size = j) : t.data.toList.take j = t.data.toList :=
 List.take_of_length_le (by rw [← h]; exact Nat.le_of_eq (by simp))

theorem wraps_i64 (n : Int) (h₀ : 0 ≤ n) (h₁ : n < 2 ^ 63) : IntKind.i64.wrap n = n:=by rw [IntKind.wrap_i64]; omega
theorem or_i64 (a b : Nat) (ha : a < 2 ^ 63) (hb : b < 2 ^ 63) : bits .or .i64 (a : Int) (b : Int) = ((a ||| b : Nat) : Int) :=
 (bits_nat .i64 63 (by decide) wraps_i64 a b ha hb).2
theorem or_high (a c i : Nat) (hc : c < 2 ^ i) (ha : a * 2 ^ i < 2 ^ 63) (hc63 : c < 2 ^ 63) : bits .or .i64 ((a * 2 ^ i : Nat) : Int) (c : Int) = ((a * 2 ^ i + c : Nat) : Int):=by
 rw [or_i64 _ _ ha hc63,Nat.mul_comm,Nat.two_pow_add_eq_or_of_lt hc]
def AhOk (s : ByteArray) (p : Nat) (A : Ah) : Prop:=(A.code = 0∧p + A.long ≤ s.size) ∨ ∃ c : Int,c ≠ 0∧A = .bad c

theorem bytesA_ok (s : ByteArray) (p : Nat) (n : Int) : AhOk s p (bytesA s p n):=by
 unfold bytesA
 by_cases h1 : n < 0
 ·rw [if_pos h1]; exact .inr ⟨1,by decide,rfl⟩
 rw [if_neg h1]
 by_cases h2 : (s.size : Int) - p < n
 ·rw [if_pos h2]; exact .inr ⟨10,by decide,rfl⟩
 rw [if_neg h2]
 exact .inl ⟨rfl,by show p + n.toNat ≤ _; omega⟩
theorem fixedA_ok (s : ByteArray) (p : Nat) (n : Int) : AhOk s p (fixedA s p n):=by
 unfold fixedA
 by_cases h1 : n < 1 ∨ 7 < n
 ·rw [if_pos h1]; exact .inr ⟨1,by decide,rfl⟩
 rw [if_neg h1]
 by_cases h2 : (s.size : Int) - p < n
 ·rw [if_pos h2]; exact .inr ⟨10,by decide,rfl⟩
 rw [if_neg h2]
 exact .inl ⟨rfl,by show p + n.toNat ≤ _; omega⟩
def asked (x : Int) (A : Ah) : Ah:=if x = 0 then A else .bad x
theorem asked_zero (A : Ah) : asked 0 A = A:=rfl
theorem asked_some {x : Int} (h : ¬ x = 0) (A : Ah) : asked x A = .bad x:=if_neg h

end Go.Proofs.YtagijldedngcoaaGreatDoor.Zq.Nm

namespace Go.Proofs.YtagijldedngcoaaGreatDoor.Zq.Nm
open Go.RowKit Go.Lib

def Fd (w : World) (g : Nat) (n : Int) (t : ByteArray) (l : Int) : Prop :=
 w.heap[g]? = some (.cells #[.int .i64 n,.string t,.int .i64 l] 386 (0,0))

section
variable {w w' : World} {g : Nat} {n : Int} {t : ByteArray} {l : Int}
theorem Fd.lt (h : Fd w g n t l) : g < w.heap.size:=lt_of_block h
theorem Fd.cell0 (h : Fd w g n t l) : w.cell? ⟨g,0,none⟩ = some (.int .i64 n):=by simp [World.cell?,show w.heap[g]? = _ from h]
theorem Fd.cell1 (h : Fd w g n t l) : w.cell? ⟨g,1,none⟩ = some (.string t):=by simp [World.cell?,show w.heap[g]? = _ from h]
theorem Fd.cell2 (h : Fd w g n t l) : w.cell? ⟨g,2,none⟩ = some (.int .i64 l):=by simp [World.cell?,show w.heap[g]? = _ from h]
theorem Fd.free (h : Fd w g n t l) (j : Nat) : w.frozen? ⟨g,j,none⟩ = false:=by simp [World.frozen?,show w.heap[g]? = _ from h]
theorem Fd.below (h : Fd w g n t l) {B : Nat} (hb : Below B w w') (hB : g < B) : Fd w' g n t l:=(hb.block g hB).trans h
theorem Fd.grown (h : Fd w g n t l) {row : Option Nat} (hg : w.grownBy w' row) (hne : some g ≠ row) : Fd w' g n t l:=(hg.block g h.lt hne).trans h
theorem Fd.drewN (h : Fd w g n t l) (k : Nat) : Fd (w.drewN k) g n t l:=h
theorem Fd.put (h : Fd w g n t l) (n' : Int) (t' : ByteArray) (l' : Int) :
  Fd (((w.setCell ⟨g,0,none⟩ (.int .i64 n')).setCell ⟨g,1,none⟩ (.string t')).setCell ⟨g,2,none⟩ (.int .i64 l')) g n' t' l' :=
 heap_set_self (u:=.int .i64 l') (heap_set_self (u:=.string t') (heap_set_self (u:=.int .i64 n') h))
theorem Fd.alloc (h : Fd w g n t l) (o : Obj) : Fd (w.alloc o) g n t l:=(Below.heap_alloc w o g h.lt).trans h
theorem Fd.new (w : World) (n : Int) (t : ByteArray) (l : Int) : Fd (w.alloc (.cells #[.int .i64 n,.string t,.int .i64 l] 386)) w.heap.size n t l:=heap_alloc_new w _
end

theorem below_put {B : Nat} {w w1 : World} (hb : Below B w w1) {g : Nat} (hg : B ≤ g) (u0 u1 u2 : Value) :
  Below B w (((w1.setCell ⟨g,0,none⟩ u0).setCell ⟨g,1,none⟩ u1).setCell ⟨g,2,none⟩ u2):=((hb.setCell (p:=⟨g,0,none⟩) hg u0).setCell (p:=⟨g,1,none⟩) hg u1).setCell (p:=⟨g,2,none⟩) hg u2

theorem bytesAhead_any {w : World} {b : Nat} {s : ByteArray} {p : Nat} {x : Int} (n : Int) (hr : Rd 384 w b s p x) (hp : p ≤ s.size) (hs : s.size ≤ 140737488355328) (hn : n ≤ 9223372036854775807) :
  Calls Tryz.prog 299 #[.pointer (some ⟨b,0,none⟩),.int .i64 n] w fun e w' =>
   e = .returned (.tuple #[.agg #[.int .i64 (bytesA s p n).num,.string (bytesA s p n).txt,.int .i64 (bytesA s p n).long],.int .i64 (bytesA s p n).code])∧Below w.heap.size w w':=by
 by_cases h1 : n < 0
 ·rw [show bytesA s p n = .bad 1 from if_pos h1]
  show Calls _ _ _ _ fun e w' => e = .returned (.tuple #[.agg #[.int .i64 0,.string ⟨#[]⟩,.int .i64 0],.int .i64 1])∧_
  go_enter Tryz.func299,Tryz.ntmps299
  go_wp2
  exact bodyPost_ret (v:=.tuple #[.agg #[.int .i64 0,.string ⟨#[]⟩,.int .i64 0],.int .i64 1]) (by simp [results,Tryz.results299,go_sem]) rfl ⟨rfl,(Below.refl _ _).alloc (Nat.le_refl _) _⟩
 obtain ⟨k,rfl⟩:=Int.eq_ofNat_of_zero_le (show 0 ≤ n by omega)
 have hl:=hr.lt
 have hr1 : Rd 384 (w.alloc (.cells #[.int .i64 0,.string ⟨#[]⟩,.int .i64 0] 386)) b s p x:=hr.below ((Below.refl _ _).alloc (Nat.le_refl _) _) hl
 by_cases h2 : (s.size : Int) - p < k
 ·rw [show bytesA s p k = .bad 10 from by unfold bytesA; rw [if_neg h1,if_pos h2]]
  show Calls _ _ _ _ fun e w' => e = .returned (.tuple #[.agg #[.int .i64 0,.string ⟨#[]⟩,.int .i64 0],.int .i64 10])∧_
  go_enter Tryz.func299,Tryz.ntmps299
  go_wp2_with fail
  refine (left_any hr1 hp hs).mono ?_
  rintro e w1 ⟨rfl,nd,rfl⟩
  go_wp2
  have F:=((Fd.new w 0 ⟨#[]⟩ 0).drewN nd).put 0 ⟨#[]⟩ 0
  exact bodyPost_ret (v:=.tuple #[.agg #[.int .i64 0,.string ⟨#[]⟩,.int .i64 0],.int .i64 10]) (by simp [results,Tryz.results299,go_sem,F.cell0,F.cell1,F.cell2]) rfl ⟨rfl,below_put (below_drew ((Below.refl _ _).alloc (Nat.le_refl _) _) nd) (Nat.le_refl _) _ _ _⟩
 ·have hk : ((p : Int) + k) ≤ s.size:=by omega
  rw [show bytesA s p k = ⟨0,s.extract p (p + k),k,0⟩ from by unfold bytesA; rw [if_neg h1,if_neg h2]; simp]
  show Calls _ _ _ _ fun e w' => e = .returned (.tuple #[.agg #[.int .i64 0,.string (s.extract p (p + k)),.int .i64 k],.int .i64 0])∧_
  have c0:=hr.cell0
  have c1:=hr.cell1
  go_enter Tryz.func299,Tryz.ntmps299
  go_wp2_with fail
  refine (left_any hr1 hp hs).mono ?_
  rintro e w1 ⟨rfl,nd,rfl⟩
  go_wp2
  go_region
  go_wp2
  have F:=((Fd.new w 0 ⟨#[]⟩ 0).drewN (nd + 1)).put 0 (s.extract p (p + k)) k
  exact bodyPost_ret (v:=.tuple #[.agg #[.int .i64 0,.string (s.extract p (p + k)),.int .i64 k],.int .i64 0]) (by simp [results,Tryz.results299,go_sem,F.cell0,F.cell1,F.cell2]) rfl ⟨rfl,below_put (below_drew ((Below.refl _ _).alloc (Nat.le_refl _) _) (nd + 1)) (Nat.le_refl _) _ _ _⟩

theorem bytesAhead_short {w : World} {b : Nat} {s : ByteArray} {p : Nat} {x : Int} (k : Nat) (hr : Rd 384 w b s p x) (hp : p ≤ s.size) (hs : s.size ≤ 140737488355328) (hn : (k : Int) ≤ 9223372036854775807) (h : (s.size : Int) - p < k) :
  Calls Tryz.prog 299 #[.pointer (some ⟨b,0,none⟩),.int .i64 k] w fun e w' =>
   e = .returned (.tuple #[.agg #[.int .i64 0,.string ⟨#[]⟩,.int .i64 0],.int .i64 10])∧Below w.heap.size w w':=by
 have hc:=bytesAhead_any k hr hp hs hn
 rw [show bytesA s p k = .bad 10 from by unfold bytesA; rw [if_neg (by omega),if_pos h]] at hc
 exact hc
theorem bytesAhead_ok {w : World} {b : Nat} {s : ByteArray} {p : Nat} {x : Int} (k : Nat) (hr : Rd 384 w b s p x) (hp : p + k ≤ s.size) (hs : s.size ≤ 140737488355328) :
  Calls Tryz.prog 299 #[.pointer (some ⟨b,0,none⟩),.int .i64 k] w fun e w' =>
   e = .returned (.tuple #[.agg #[.int .i64 0,.string (s.extract p (p + k)),.int .i64 k],.int .i64 0])∧Below w.heap.size w w':=by
 have hc:=bytesAhead_any k hr (by omega) hs (by omega)
 rw [show bytesA s p k = ⟨0,s.extract p (p + k),k,0⟩ from by unfold bytesA; rw [if_neg (by omega),if_neg (by omega)]; simp] at hc
 exact hc

theorem fixedAhead_any {w : World} {b : Nat} {s : ByteArray} {p : Nat} {x : Int} (n : Int) (hr : Rd 384 w b s p x) (hp : p ≤ s.size) (hs : s.size ≤ 140737488355328) (hn : n ≤ 9223372036854775807) :
  Calls Tryz.prog 300 #[.pointer (some ⟨b,0,none⟩),.int .i64 n] w fun e w' =>
   e = .returned (.tuple #[.agg #[.int .i64 (fixedA s p n).num,.string (fixedA s p n).txt,.int .i64 (fixedA s p n).long],.int .i64 (fixedA s p n).code])∧Below w.heap.size w w':=by
 by_cases h1 : n < 1
 ·rw [show fixedA s p n = .bad 1 from if_pos (.inl h1)]
  show Calls _ _ _ _ fun e w' => e = .returned (.tuple #[.agg #[.int .i64 0,.string ⟨#[]⟩,.int .i64 0],.int .i64 1])∧_
  go_enter Tryz.func300,Tryz.ntmps300
  go_wp2
  exact bodyPost_ret (v:=.tuple #[.agg #[.int .i64 0,.string ⟨#[]⟩,.int .i64 0],.int .i64 1]) (by simp [results,Tryz.results300,go_sem]) rfl ⟨rfl,(Below.refl _ _).alloc (Nat.le_refl _) _⟩
 by_cases h7 : 7 < n
 ·rw [show fixedA s p n = .bad 1 from if_pos (.inr h7)]
  show Calls _ _ _ _ fun e w' => e = .returned (.tuple #[.agg #[.int .i64 0,.string ⟨#[]⟩,.int .i64 0],.int .i64 1])∧_
  go_enter Tryz.func300,Tryz.ntmps300
  go_wp2
  exact bodyPost_ret (v:=.tuple #[.agg #[.int .i64 0,.string ⟨#[]⟩,.int .i64 0],.int .i64 1]) (by simp [results,Tryz.results300,go_sem]) rfl ⟨rfl,(Below.refl _ _).alloc (Nat.le_refl _) _⟩
 obtain ⟨k,rfl⟩:=Int.eq_ofNat_of_zero_le (show 0 ≤ n by omega)
 have hl:=hr.lt
 have hr1 : Rd 384 (w.alloc (.cells #[.int .i64 0,.string ⟨#[]⟩,.int .i64 0] 386)) b s p x:=hr.below ((Below.refl _ _).alloc (Nat.le_refl _) _) hl
 by_cases h2 : (s.size : Int) - p < k
 ·rw [show fixedA s p k = .bad 10 from by unfold fixedA; rw [if_neg (by omega),if_pos h2]]
  show Calls _ _ _ _ fun e w' => e = .returned (.tuple #[.agg #[.int .i64 0,.string ⟨#[]⟩,.int .i64 0],.int .i64 10])∧_
  go_enter Tryz.func300,Tryz.ntmps300
  go_wp2_with fail
  refine (bytesAhead_short k hr1 hp hs hn h2).mono ?_
  rintro e w1 ⟨rfl,hb1⟩
  have z1 : w.heap.size < w1.heap.size:=by have:=hb1.size; simp only [World.size_alloc] at this; omega
  have F:=(Fd.new w 0 ⟨#[]⟩ 0).below hb1 (by simp)
  have a0:=F.cell0
  have a1:=F.cell1
  have a2:=F.cell2
  have f0:=F.free 0
  have f1:=F.free 1
  have f2:=F.free 2
  go_wp2
  have G:=(F.put 0 ⟨#[]⟩ 0).alloc (.cells #[.int .i64 0,.string ⟨#[]⟩,.int .i64 0] 386)
  exact bodyPost_ret (v:=.tuple #[.agg #[.int .i64 0,.string ⟨#[]⟩,.int .i64 0],.int .i64 10]) (by simp [results,Tryz.results300,go_sem,G.cell0,G.cell1,G.cell2]) rfl
   ⟨rfl,(below_put (((Below.refl _ _).alloc (Nat.le_refl _) _).trans (hb1.mono (by simp))) (Nat.le_refl _) _ _ _).alloc (by simp; omega) _⟩
 ·have hk : p + k ≤ s.size:=by omega
  rw [show fixedA s p k = ⟨numOf (s.extract p (p + k)).data.toList,⟨#[]⟩,k,0⟩ from by unfold fixedA; rw [if_neg (by omega),if_neg h2]; simp]
  show Calls _ _ _ _ fun e w' => e = .returned (.tuple #[.agg #[.int .i64 (numOf (s.extract p (p + k)).data.toList),.string ⟨#[]⟩,.int .i64 k],.int .i64 0])∧_
  have ht : (s.extract p (p + k)).size = k:=by simp; omega
  generalize hN : numOf (s.extract p (p + k)).data.toList = N
  have HN : Hid (numOf (s.extract p (p + k)).data.toList = N):=hN
  clear hN
  go_enter Tryz.func300,Tryz.ntmps300
  go_wp2_with fail
  refine (bytesAhead_ok k hr1 hk hs).mono ?_
  rintro e w1 ⟨rfl,hb1⟩
  generalize s.extract p (p + k) = t at *
  have z1 : w.heap.size < w1.heap.size:=by have:=hb1.size; simp only [World.size_alloc] at this; omega
  have F:=(Fd.new w 0 ⟨#[]⟩ 0).below hb1 (by simp)
  have a0:=F.cell0
  have a1:=F.cell1
  have a2:=F.cell2
  have f0:=F.free 0
  have f1:=F.free 1
  have f2:=F.free 2
  have HT : Hid (t.size = k):=ht
  clear ht
  go_wp2
  go_loop [8,28] (fun n i => ∃ j : Nat,j ≤ k∧i = .int .i64 j∧n = .int .i64 (numOf (t.data.toList.take j) : Nat)) (fun _ i => k - (intOf i).toNat)
  case atStart => exact ⟨0,Nat.zero_le _,rfl,rfl⟩
  case round =>
   obtain ⟨j,hj,rfl,rfl⟩:=hrel
   by_cases hlt : j < k
   ·have hjt : j < t.size:=by rw [HT.out]; exact hlt
    have R : Hid (wrap64 ((numOf (t.data.toList.take j) : Nat) * 256) = ((numOf (t.data.toList.take j) * 2 ^ 8 : Nat) : Int)∧wrap64 (t[j].toNat : Int) = t[j].toNat ∧
      bits .or .i64 ((numOf (t.data.toList.take j) * 2 ^ 8 : Nat) : Int) (t[j].toNat : Int) = ((numOf (t.data.toList.take (j + 1)) : Nat) : Int)):=by
     have hb:=numOf_take_lt t j 6 (by omega)
     have hb' : numOf (t.data.toList.take j) < 281474976710656:=hb
     have hc:=t[j].toNat_lt
     refine ⟨?_,IntWalk.wrap64_in _ ⟨by omega,by omega⟩,?_⟩
     ·rw [IntWalk.wrap64_in _ ⟨by omega,by omega⟩]; omega
     ·rw [or_high _ _ 8 (by simpa using hc) (by omega) (by omega),numOf_take t j hjt]
    go_wp2
    go_round
    case rel => exact ⟨j + 1,by omega,by go_num,by rw [R.out.1,R.out.2.1,R.out.2.2]⟩
    case measure => simp [intOf]; omega
   ·have hjk : j = k:=by omega
    subst hjk
    have hNt : numOf (t.data.toList.take j) = N:=by
     rw [take_all t j HT.out]; exact HN.out
    rw [hNt]
    clear hNt
    go_wp2
    have G:=(F.put N ⟨#[]⟩ j).alloc (.cells #[.int .i64 0,.string t,.int .i64 j] 386)
    exact bodyPost_ret (v:=.tuple #[.agg #[.int .i64 N,.string ⟨#[]⟩,.int .i64 j],.int .i64 0]) (by simp [results,Tryz.results300,go_sem,G.cell0,G.cell1,G.cell2]) rfl
     ⟨rfl,(below_put (((Below.refl _ _).alloc (Nat.le_refl _) _).trans (hb1.mono (by simp))) (Nat.le_refl _) _ _ _).alloc (by simp; omega) _⟩

end Go.Proofs.YtagijldedngcoaaGreatDoor.Zq.Nm

namespace Go.Proofs.YtagijldedngcoaaGreatDoor.Zq.Nm
open Go.RowKit Go.Lib

section
variable {w w1 w' : World} {g b : Nat} {n : Int} {t : ByteArray} {l : Int} {T : TypeId} {s : ByteArray} {p : Nat} {x : Int} {row : Option Nat}
theorem Fd.drew (h : Fd w g n t l) : Fd w.drew g n t l:=h
theorem Fd.other (h : Fd w g n t l) (hne : g ≠ b) (j : Nat) (u : Value) : Fd (w.setCell ⟨b,j,none⟩ u) g n t l:=h.grown (gb_set w b j u) (by simpa using hne)
theorem Rd.drew (h : Rd T w b s p x) : Rd T w.drew b s p x:=h
theorem Rd.alloc (h : Rd T w b s p x) (o : Obj) : Rd T (w.alloc o) b s p x:=h.of_block (Below.heap_alloc w o b h.lt)
theorem Rd.other (h : Rd T w b s p x) (hne : b ≠ g) (j : Nat) (u : Value) : Rd T (w.setCell ⟨g,j,none⟩ u) b s p x:=h.grown (gb_set w g j u) (by simpa using hne)
theorem Rd.others (h : Rd T w b s p x) (hne : b ≠ g) (u0 u1 u2 : Value) : Rd T (((w.setCell ⟨g,0,none⟩ u0).setCell ⟨g,1,none⟩ u1).setCell ⟨g,2,none⟩ u2) b s p x:=((h.other hne 0 u0).other hne 1 u1).other hne 2 u2
theorem Rd.set1' (h : Rd T w b s p x) {y : Int} {p' : Nat} (hy : y = (p' : Int)) : Rd T (w.setCell ⟨b,1,none⟩ (.int .i64 y)) b s p' x:=by subst hy; exact h.set1 p'
theorem gb_alloc (h : w.grownBy w1 row) (o : Obj) : w.grownBy (w1.alloc o) row:=gb_trans h (World.grownBy_alloc w1 o row)
theorem gb_drew (h : w.grownBy w1 row) : w.grownBy w1.drew row:=⟨h.os,h.tape,h.output,h.size,h.block⟩
theorem gb_new (h : w.grownBy w1 row) (hg : w.heap.size ≤ g) (j : Nat) (u : Value) : w.grownBy (w1.setCell ⟨g,j,none⟩ u) row :=
 ⟨h.os,h.tape,h.output,by simpa using h.size,fun k hk hne => (heap_setCell_other w1 ⟨g,j,none⟩ k u (fun e => by simp at e; omega)).trans (h.block k hk hne)⟩
theorem gb_puts (h : w.grownBy w1 row) (hg : w.heap.size ≤ g) (u0 u1 u2 : Value) : w.grownBy (((w1.setCell ⟨g,0,none⟩ u0).setCell ⟨g,1,none⟩ u1).setCell ⟨g,2,none⟩ u2) row:=gb_new (gb_new (gb_new h hg 0 u0) hg 1 u1) hg 2 u2
end

theorem ask_35 {w : World} {b : Nat} {s : ByteArray} {p : Nat} {x : Int} (n : Int) (A : Ah) (hr : Rd 384 w b s p x) (hs : s.size ≤ 140737488355328) (hok : AhOk s p A)
  (hc : ∀ w1,Rd 384 w1 b s p x→Calls Tryz.prog 300 #[.pointer (some ⟨b,0,none⟩),.int .i64 n] w1 fun e w' => e = .returned (.tuple #[.agg #[.int .i64 A.num,.string A.txt,.int .i64 A.long],.int .i64 A.code])∧Below w1.heap.size w1 w') :
  Calls Tryz.prog 298 #[.pointer (some ⟨b,0,none⟩),.func (.func 300) #[.pointer (some ⟨b,0,none⟩)] #[],.int .i64 n] w fun e w' =>
   e = .returned (.agg #[.int .i64 (asked x A).num,.string (asked x A).txt,.int .i64 (asked x A).long])∧Rd 384 w' b s (p + (asked x A).long) (asked x A).code∧w.grownBy w' (some b):=by
 have hl:=hr.lt
 have hr1 : Rd 384 (w.alloc (.cells #[.int .i64 0,.string ⟨#[]⟩,.int .i64 0] 386)) b s p x:=hr.below ((Below.refl _ _).alloc (Nat.le_refl _) _) hl
 have c2:=hr.cell2
 by_cases hx : x = 0
 ·subst hx
  rw [asked_zero]
  have HC:=hc _ hr1
  clear hc
  rcases hok with ⟨hcode,hlong⟩ | ⟨c,hc0,rfl⟩
  ·obtain ⟨num,txt,long,code⟩:=A
   simp only at hcode hlong HC ⊢
   subst hcode
   have HC' : Hid (Calls Tryz.prog 300 #[.pointer (some ⟨b,0,none⟩),.int .i64 n] (w.alloc (.cells #[.int .i64 0,.string ⟨#[]⟩,.int .i64 0] 386)) fun e w' => e = .returned (.tuple #[.agg #[.int .i64 num,.string txt,.int .i64 long],.int .i64 0])∧Below (w.alloc (.cells #[.int .i64 0,.string ⟨#[]⟩,.int .i64 0] 386)).heap.size (w.alloc (.cells #[.int .i64 0,.string ⟨#[]⟩,.int .i64 0] 386)) w'):=HC
   clear HC
   go_enter Tryz.func298,Tryz.ntmps298
   go_wp2_with fail
   refine (Calls.mono HC'.out ?_)
   rintro e w1 ⟨rfl,hb1⟩
   have z1 : w.heap.size < w1.heap.size:=by have:=hb1.size; simp only [World.size_alloc] at this; omega
   have F:=(Fd.new w 0 ⟨#[]⟩ 0).below hb1 (by simp)
   have hr2:=hr1.below hb1 (by simp; omega)
   have hl1:=hr2.lt
   have d1:=hr2.cell1
   have e1:=hr2.free 1
   have a0:=F.cell0
   have a1:=F.cell1
   have a2:=F.cell2
   have f0:=F.free 0
   have f1:=F.free 1
   have f2:=F.free 2
   clear HC'
   go_wp2
   go_region
   go_wp2
   have G:=(((F.other (show w.heap.size ≠ b by omega) 1 (.int .i64 ((p : Int) + long))).put num txt long).alloc (.cells #[.int .i64 num,.string txt,.int .i64 long] 386)).drew
   have R:=((hr2.set1' (show (p : Int) + long = ((p + long : Nat) : Int) by omega)).others (show b ≠ w.heap.size by omega) (.int .i64 num) (.string txt) (.int .i64 long)).alloc (.cells #[.int .i64 num,.string txt,.int .i64 long] 386)
   have B:=gb_alloc (gb_puts (gb_trans (gb_below (((Below.refl _ _).alloc (Nat.le_refl _) _).trans (hb1.mono (by simp))) (some b)) (gb_set w1 b 1 (.int .i64 ((p : Int) + long)))) (Nat.le_refl _) (.int .i64 num) (.string txt) (.int .i64 long)) (.cells #[.int .i64 num,.string txt,.int .i64 long] 386)
   exact bodyPost_ret (v:=.agg #[.int .i64 num,.string txt,.int .i64 long]) (by simp [results,Tryz.results298,go_sem,G.cell0,G.cell1,G.cell2]) rfl ⟨rfl,R.drew,gb_drew B⟩
  ·have HC' : Hid (Calls Tryz.prog 300 #[.pointer (some ⟨b,0,none⟩),.int .i64 n] (w.alloc (.cells #[.int .i64 0,.string ⟨#[]⟩,.int .i64 0] 386)) fun e w' => e = .returned (.tuple #[.agg #[.int .i64 0,.string ⟨#[]⟩,.int .i64 0],.int .i64 c])∧Below (w.alloc (.cells #[.int .i64 0,.string ⟨#[]⟩,.int .i64 0] 386)).heap.size (w.alloc (.cells #[.int .i64 0,.string ⟨#[]⟩,.int .i64 0] 386)) w'):=HC
   clear HC
   have hcb : (c != 0) = true:=by simpa using hc0
   clear hc0
   show Calls _ _ _ _ fun e w' => e = .returned (.agg #[.int .i64 0,.string ⟨#[]⟩,.int .i64 0])∧Rd 384 w' b s p c∧_
   go_enter Tryz.func298,Tryz.ntmps298
   go_wp2_with fail
   refine (Calls.mono HC'.out ?_)
   rintro e w1 ⟨rfl,hb1⟩
   have z1 : w.heap.size < w1.heap.size:=by have:=hb1.size; simp only [World.size_alloc] at this; omega
   have F:=(Fd.new w 0 ⟨#[]⟩ 0).below hb1 (by simp)
   have hr2:=(hr1.below hb1 (by simp; omega)).alloc (.cells #[.int .i64 0,.string ⟨#[]⟩,.int .i64 0] 386)
   clear HC'
   go_wp2_with fail
   refine (fail_any c hr2).mono ?_
   rintro e w2 ⟨rfl,hr3,hg3⟩
   have F2:=(F.alloc (.cells #[.int .i64 0,.string ⟨#[]⟩,.int .i64 0] 386)).grown hg3 (by simp; omega)
   rw [failed_zero] at hr3
   have a0:=F2.cell0
   have a1:=F2.cell1
   have a2:=F2.cell2
   have f0:=F2.free 0
   have f1:=F2.free 1
   have f2:=F2.free 2
   go_wp2
   have G:=F2.put 0 ⟨#[]⟩ 0
   have R:=hr3.others (show b ≠ w.heap.size by omega) (.int .i64 0) (.string ⟨#[]⟩) (.int .i64 0)
   have B:=gb_puts (gb_trans (gb_alloc (gb_below (((Below.refl _ _).alloc (Nat.le_refl _) _).trans (hb1.mono (by simp))) (some b)) (.cells #[.int .i64 0,.string ⟨#[]⟩,.int .i64 0] 386)) hg3) (Nat.le_refl _) (.int .i64 0) (.string ⟨#[]⟩) (.int .i64 0)
   exact bodyPost_ret (v:=.agg #[.int .i64 0,.string ⟨#[]⟩,.int .i64 0]) (by simp [results,Tryz.results298,go_sem,G.cell0,G.cell1,G.cell2]) rfl ⟨rfl,R,B⟩
 ·rw [asked_some hx]
  show Calls _ _ _ _ fun e w' => e = .returned (.agg #[.int .i64 0,.string ⟨#[]⟩,.int .i64 0])∧Rd 384 w' b s p x∧_
  have hcb : (x != 0) = true:=by simpa using hx
  clear hx hc
  go_enter Tryz.func298,Tryz.ntmps298
  go_wp2
  exact bodyPost_ret (v:=.agg #[.int .i64 0,.string ⟨#[]⟩,.int .i64 0]) (by simp [results,Tryz.results298,go_sem]) rfl ⟨rfl,hr1,gb_alloc (World.grownBy.refl _ _) _⟩

theorem ask_38 {w : World} {b : Nat} {s : ByteArray} {p : Nat} {x : Int} (n : Int) (A : Ah) (hr : Rd 384 w b s p x) (hs : s.size ≤ 140737488355328) (hok : AhOk s p A)
  (hc : ∀ w1,Rd 384 w1 b s p x→Calls Tryz.prog 299 #[.pointer (some ⟨b,0,none⟩),.int .i64 n] w1 fun e w' => e = .returned (.tuple #[.agg #[.int .i64 A.num,.string A.txt,.int .i64 A.long],.int .i64 A.code])∧Below w1.heap.size w1 w') :
  Calls Tryz.prog 298 #[.pointer (some ⟨b,0,none⟩),.func (.func 299) #[.pointer (some ⟨b,0,none⟩)] #[],.int .i64 n] w fun e w' =>
   e = .returned (.agg #[.int .i64 (asked x A).num,.string (asked x A).txt,.int .i64 (asked x A).long])∧Rd 384 w' b s (p + (asked x A).long) (asked x A).code∧w.grownBy w' (some b):=by
 have hl:=hr.lt
 have hr1 : Rd 384 (w.alloc (.cells #[.int .i64 0,.string ⟨#[]⟩,.int .i64 0] 386)) b s p x:=hr.below ((Below.refl _ _).alloc (Nat.le_refl _) _) hl
 have c2:=hr.cell2
 by_cases hx : x = 0
 ·subst hx
  rw [asked_zero]
  have HC:=hc _ hr1
  clear hc
  rcases hok with ⟨hcode,hlong⟩ | ⟨c,hc0,rfl⟩
  ·obtain ⟨num,txt,long,code⟩:=A
   simp only at hcode hlong HC ⊢
   subst hcode
   have HC' : Hid (Calls Tryz.prog 299 #[.pointer (some ⟨b,0,none⟩),.int .i64 n] (w.alloc (.cells #[.int .i64 0,.string ⟨#[]⟩,.int .i64 0] 386)) fun e w' => e = .returned (.tuple #[.agg #[.int .i64 num,.string txt,.int .i64 long],.int .i64 0])∧Below (w.alloc (.cells #[.int .i64 0,.string ⟨#[]⟩,.int .i64 0] 386)).heap.size (w.alloc (.cells #[.int .i64 0,.string ⟨#[]⟩,.int .i64 0] 386)) w'):=HC
   clear HC
   go_enter Tryz.func298,Tryz.ntmps298
   go_wp2_with fail
   refine (Calls.mono HC'.out ?_)
   rintro e w1 ⟨rfl,hb1⟩
   have z1 : w.heap.size < w1.heap.size:=by have:=hb1.size; simp only [World.size_alloc] at this; omega
   have F:=(Fd.new w 0 ⟨#[]⟩ 0).below hb1 (by simp)
   have hr2:=hr1.below hb1 (by simp; omega)
   have hl1:=hr2.lt
   have d1:=hr2.cell1
   have e1:=hr2.free 1
   have a0:=F.cell0
   have a1:=F.cell1
   have a2:=F.cell2
   have f0:=F.free 0
   have f1:=F.free 1
   have f2:=F.free 2
   clear HC'
   go_wp2
   go_region
   go_wp2
   have G:=(((F.other (show w.heap.size ≠ b by omega) 1 (.int .i64 ((p : Int) + long))).put num txt long).alloc (.cells #[.int .i64 num,.string txt,.int .i64 long] 386)).drew
   have R:=((hr2.set1' (show (p : Int) + long = ((p + long : Nat) : Int) by omega)).others (show b ≠ w.heap.size by omega) (.int .i64 num) (.string txt) (.int .i64 long)).alloc (.cells #[.int .i64 num,.string txt,.int .i64 long] 386)
   have B:=gb_alloc (gb_puts (gb_trans (gb_below (((Below.refl _ _).alloc (Nat.le_refl _) _).trans (hb1.mono (by simp))) (some b)) (gb_set w1 b 1 (.int .i64 ((p : Int) + long)))) (Nat.le_refl _) (.int .i64 num) (.string txt) (.int .i64 long)) (.cells #[.int .i64 num,.string txt,.int .i64 long] 386)
   exact bodyPost_ret (v:=.agg #[.int .i64 num,.string txt,.int .i64 long]) (by simp [results,Tryz.results298,go_sem,G.cell0,G.cell1,G.cell2]) rfl ⟨rfl,R.drew,gb_drew B⟩
  ·have HC' : Hid (Calls Tryz.prog 299 #[.pointer (some ⟨b,0,none⟩),.int .i64 n] (w.alloc (.cells #[.int .i64 0,.string ⟨#[]⟩,.int .i64 0] 386)) fun e w' => e = .returned (.tuple #[.agg #[.int .i64 0,.string ⟨#[]⟩,.int .i64 0],.int .i64 c])∧Below (w.alloc (.cells #[.int .i64 0,.string ⟨#[]⟩,.int .i64 0] 386)).heap.size (w.alloc (.cells #[.int .i64 0,.string ⟨#[]⟩,.int .i64 0] 386)) w'):=HC
   clear HC
   have hcb : (c != 0) = true:=by simpa using hc0
   clear hc0
   show Calls _ _ _ _ fun e w' => e = .returned (.agg #[.int .i64 0,.string ⟨#[]⟩,.int .i64 0])∧Rd 384 w' b s p c∧_
   go_enter Tryz.func298,Tryz.ntmps298
   go_wp2_with fail
   refine (Calls.mono HC'.out ?_)
   rintro e w1 ⟨rfl,hb1⟩
   have z1 : w.heap.size < w1.heap.size:=by have:=hb1.size; simp only [World.size_alloc] at this; omega
   have F:=(Fd.new w 0 ⟨#[]⟩ 0).below hb1 (by simp)
   have hr2:=(hr1.below hb1 (by simp; omega)).alloc (.cells #[.int .i64 0,.string ⟨#[]⟩,.int .i64 0] 386)
   clear HC'
   go_wp2_with fail
   refine (fail_any c hr2).mono ?_
   rintro e w2 ⟨rfl,hr3,hg3⟩
   have F2:=(F.alloc (.cells #[.int .i64 0,.string ⟨#[]⟩,.int .i64 0] 386)).grown hg3 (by simp; omega)
   rw [failed_zero] at hr3
   have a0:=F2.cell0
   have a1:=F2.cell1
   have a2:=F2.cell2
   have f0:=F2.free 0
   have f1:=F2.free 1
   have f2:=F2.free 2
   go_wp2
   have G:=F2.put 0 ⟨#[]⟩ 0
   have R:=hr3.others (show b ≠ w.heap.size by omega) (.int .i64 0) (.string ⟨#[]⟩) (.int .i64 0)
   have B:=gb_puts (gb_trans (gb_alloc (gb_below (((Below.refl _ _).alloc (Nat.le_refl _) _).trans (hb1.mono (by simp))) (some b)) (.cells #[.int .i64 0,.string ⟨#[]⟩,.int .i64 0] 386)) hg3) (Nat.le_refl _) (.int .i64 0) (.string ⟨#[]⟩) (.int .i64 0)
   exact bodyPost_ret (v:=.agg #[.int .i64 0,.string ⟨#[]⟩,.int .i64 0]) (by simp [results,Tryz.results298,go_sem,G.cell0,G.cell1,G.cell2]) rfl ⟨rfl,R,B⟩
 ·rw [asked_some hx]
  show Calls _ _ _ _ fun e w' => e = .returned (.agg #[.int .i64 0,.string ⟨#[]⟩,.int .i64 0])∧Rd 384 w' b s p x∧_
  have hcb : (x != 0) = true:=by simpa using hx
  clear hx hc
  go_enter Tryz.func298,Tryz.ntmps298
  go_wp2
  exact bodyPost_ret (v:=.agg #[.int .i64 0,.string ⟨#[]⟩,.int .i64 0]) (by simp [results,Tryz.results298,go_sem]) rfl ⟨rfl,hr1,gb_alloc (World.grownBy.refl _ _) _⟩

end Go.Proofs.YtagijldedngcoaaGreatDoor.Zq.Nm

namespace Go.Proofs.YtagijldedngcoaaGreatDoor.Zq.Nm
open Go.RowKit Go.Lib

theorem run_field0 (n : Int) (t : ByteArray) (l : Int) (w : World) : (Instr.field 386 (.agg #[.int .i64 n,.string t,.int .i64 l]) 0).run Tryz.prog w = .ok (.int .i64 n) w:=by kernel_rfl
theorem run_field1 (n : Int) (t : ByteArray) (l : Int) (w : World) : (Instr.field 386 (.agg #[.int .i64 n,.string t,.int .i64 l]) 1).run Tryz.prog w = .ok (.string t) w:=by kernel_rfl

theorem rFixed_any {w : World} {b : Nat} {s : ByteArray} {p : Nat} {x : Int} (n : Int) (hr : Rd 384 w b s p x) (hp : p ≤ s.size) (hs : s.size ≤ 140737488355328) (hn : n ≤ 9223372036854775807) :
  Calls Tryz.prog 273 #[.pointer (some ⟨b,0,none⟩),.int .i64 n] w fun e w' => e = .returned (.int .i64 (asked x (fixedA s p n)).num)∧Rd 384 w' b s (p + (asked x (fixedA s p n)).long) (asked x (fixedA s p n)).code∧w.grownBy w' (some b):=by
 have hc:=ask_35 n (fixedA s p n) hr hs (fixedA_ok s p n) (fun w1 h1 => fixedAhead_any n h1 hp hs hn)
 generalize asked x (fixedA s p n) = A at *
 have HC : Hid (Calls Tryz.prog 298 #[.pointer (some ⟨b,0,none⟩),.func (.func 300) #[.pointer (some ⟨b,0,none⟩)] #[],.int .i64 n] w fun e w' => e = .returned (.agg #[.int .i64 A.num,.string A.txt,.int .i64 A.long])∧Rd 384 w' b s (p + A.long) A.code∧w.grownBy w' (some b)):=hc
 clear hc
 go_enter Tryz.func273,Tryz.ntmps273
 go_wp2_with fail
 refine Calls.mono HC.out ?_
 rintro e w1 ⟨rfl,hr1,hg1⟩
 clear HC
 have hf0:=run_field0
 have hf1:=run_field1
 go_wp2
 go_ret
 exact ⟨rfl,hr1,hg1⟩

theorem rBytes_any {w : World} {b : Nat} {s : ByteArray} {p : Nat} {x : Int} (n : Int) (hr : Rd 384 w b s p x) (hp : p ≤ s.size) (hs : s.size ≤ 140737488355328) (hn : n ≤ 9223372036854775807) :
  Calls Tryz.prog 272 #[.pointer (some ⟨b,0,none⟩),.int .i64 n] w fun e w' => e = .returned (.string (asked x (bytesA s p n)).txt)∧Rd 384 w' b s (p + (asked x (bytesA s p n)).long) (asked x (bytesA s p n)).code∧w.grownBy w' (some b):=by
 have hc:=ask_38 n (bytesA s p n) hr hs (bytesA_ok s p n) (fun w1 h1 => bytesAhead_any n h1 hp hs hn)
 generalize asked x (bytesA s p n) = A at *
 have HC : Hid (Calls Tryz.prog 298 #[.pointer (some ⟨b,0,none⟩),.func (.func 299) #[.pointer (some ⟨b,0,none⟩)] #[],.int .i64 n] w fun e w' => e = .returned (.agg #[.int .i64 A.num,.string A.txt,.int .i64 A.long])∧Rd 384 w' b s (p + A.long) A.code∧w.grownBy w' (some b)):=hc
 clear hc
 go_enter Tryz.func272,Tryz.ntmps272
 go_wp2_with fail
 refine Calls.mono HC.out ?_
 rintro e w1 ⟨rfl,hr1,hg1⟩
 clear HC
 have hf0:=run_field0
 have hf1:=run_field1
 go_wp2
 go_ret
 exact ⟨rfl,hr1,hg1⟩

end Go.Proofs.YtagijldedngcoaaGreatDoor.Zq.Nm


namespace Go.Proofs.YtagijldedngcoaaGreatDoor.Zq
open Go.RowKit Go.Lib

theorem wraps_u32' (n : Int) (h₀ : 0 ≤ n) (h₁ : n < 2 ^ 32) : IntKind.u32.wrap n = n:=by rw [IntKind.wrap_u32]; omega
theorem xor_u32' (a b : Nat) (ha : a < 2 ^ 32) (hb : b < 2 ^ 32) : bits .xor .u32 (a : Int) (b : Int) = ((a ^^^ b : Nat) : Int):=xor_nat .u32 32 (by decide) wraps_u32' a b ha hb
theorem and_u32' (a b : Nat) (ha : a < 2 ^ 32) (hb : b < 2 ^ 32) : bits .and .u32 (a : Int) (b : Int) = ((a &&& b : Nat) : Int):=(bits_nat .u32 32 (by decide) wraps_u32' a b ha hb).1
theorem tN_snoc (n r : Nat) : tN (n + 1) r = tS (tN n r):=by rw [tN_add n 1]; rfl
theorem crc_step {y : Nat} (hy : y < 4294967296) : bits .xor .u32 ((y : Int) / 2) (bits .and .u32 (-(bits .and .u32 (y : Int) 1) % 4294967296) 2197175160) = ((tS y : Nat) : Int):=by
 have h1 : bits .and .u32 (y : Int) 1 = ((y % 2 : Nat) : Int):=by
  rw [show (1 : Int) = ((1 : Nat) : Int) from rfl,and_u32' y 1 hy (by decide),Nat.and_one_is_mod]
 have h2 : (y : Int) / 2 = ((y / 2 : Nat) : Int):=by omega
 rw [h1,h2,tS]
 by_cases h : y % 2 = 1
 ·rw [if_pos h,h]
  rw [show (-((1 : Nat) : Int) % 4294967296) = ((4294967295 : Nat) : Int) from rfl,show (2197175160 : Int) = ((2197175160 : Nat) : Int) from rfl,and_u32' _ _ (by decide) (by decide),
   show (4294967295 &&& 2197175160 : Nat) = crcP from rfl,xor_u32' _ _ (by omega) (by decide)]
 ·rw [if_neg h,show y % 2 = 0 by omega]
  rw [show (-((0 : Nat) : Int) % 4294967296) = ((0 : Nat) : Int) from rfl,show (2197175160 : Int) = ((2197175160 : Nat) : Int) from rfl,and_u32' _ _ (by decide) (by decide),
   show (0 &&& 2197175160 : Nat) = 0 from rfl,xor_u32' _ _ (by omega) (by decide),Nat.xor_zero]
theorem crcS_take {s : ByteArray} {j : Nat} (h : j < s.size) : crcS 4294967295 (s.data.toList.take (j + 1)) = tN 8 (crcS 4294967295 (s.data.toList.take j) ^^^ s[j].toNat):=by
 rw [Nm.take_snoc s j h,crcS_append]
 rfl

theorem crc_any (s : ByteArray) (w : World) (hs : s.size ≤ 140737488355328) :
  Calls Tryz.prog 245 #[.string s] w fun e w' => e = .returned (.int .i64 ((crcV s.data.toList : Nat) : Int))∧w' = w:=by
 obtain ⟨V,hV⟩ : ∃ V,V = crcV s.data.toList:=⟨_,rfl⟩
 rw [← hV]
 have HV : Hid (V = crcS 4294967295 s.data.toList ^^^ 4294967295):=by rw [hV]; rfl
 clear hV
 go_enter Tryz.func245,Tryz.ntmps245
 go_wp2
 go_loop [3,7] (fun r i => ∃ j : Nat,j ≤ s.size∧i = .int .i64 j∧r = .int .u32 ((crcS 4294967295 (s.data.toList.take j) : Nat) : Int)) (fun _ i => s.size - (intOf i).toNat)
 case atStart => exact ⟨0,Nat.zero_le _,rfl,rfl⟩
 case round =>
  obtain ⟨j,hj,rfl,rfl⟩:=hrel
  by_cases hlt : j < s.size
  ·obtain ⟨r0,hr0⟩ : ∃ r,r = crcS 4294967295 (s.data.toList.take j):=⟨_,rfl⟩
   have hrl : r0 < 4294967296:=by rw [hr0]; exact crcS_lt _ (by decide)
   have HE : Hid (crcS 4294967295 (s.data.toList.take (j + 1)) = tN 8 (r0 ^^^ s[j].toNat)):=by rw [hr0]; exact crcS_take hlt
   rw [← hr0]
   have hx : bits .xor .u32 (r0 : Int) ((s[j].toNat : Int) % 4294967296) = ((r0 ^^^ s[j].toNat : Nat) : Int):=by
    have:=s[j].toNat_lt
    rw [show ((s[j].toNat : Int) % 4294967296) = ((s[j].toNat : Nat) : Int) by omega,xor_u32' _ _ hrl (by omega)]
   have hxl : r0 ^^^ s[j].toNat < 4294967296:=Nat.xor_lt_two_pow (n:=32) hrl (by have:=s[j].toNat_lt; omega)
   clear hr0
   go_wp2
   generalize r0 ^^^ s[j].toNat = x at *
   go_loop [3,16] (fun r i => ∃ t : Nat,t ≤ 8∧i = .int .i64 t∧r = .int .u32 ((tN t x : Nat) : Int)) (fun _ i => 8 - (intOf i).toNat)
   case atStart => exact ⟨0,Nat.zero_le _,rfl,rfl⟩
   case round =>
    obtain ⟨t,ht,rfl,rfl⟩:=hrel
    by_cases hlt2 : t < 8
    ·have hy : tN t x < 4294967296:=tN_lt t hxl
     have HS : Hid (tN (t + 1) x = tS (tN t x)):=tN_snoc t x
     generalize tN t x = y at *
     have hst:=crc_step hy
     go_wp2
     go_round
     case rel => exact ⟨t + 1,by omega,by go_num,by rw [HS.out]⟩
     case measure => simp [intOf]; omega
    ·have : t = 8:=by omega
     subst this
     rw [← HE.out]
     go_wp2
     go_round
     case rel => exact ⟨j + 1,by omega,by go_num,rfl⟩
     case measure => simp [intOf]; omega
  ·have hjn : j = s.size:=by omega
   subst hjn
   rw [Nm.take_all s _ rfl]
   have hc : crcS 4294967295 s.data.toList < 4294967296:=crcS_lt _ (by decide)
   generalize crcS 4294967295 s.data.toList = y at *
   have hv:=HV.out
   clear HV
   have HF : Hid (wrap64 (bits .xor .u32 IntKind.u32.max (y : Int)) = ((y ^^^ 4294967295 : Nat) : Int)):=by
    have hl : 4294967295 ^^^ y < 4294967296:=Nat.xor_lt_two_pow (n:=32) (by decide) hc
    rw [show IntKind.u32.max = ((4294967295 : Nat) : Int) from rfl,xor_u32' _ _ (by decide) hc,Nat.xor_comm] at *
    exact IntWalk.wrap64_in _ ⟨by omega,by omega⟩
   go_wp2
   go_ret
   refine ⟨?_,rfl⟩
   show Ending.returned (Value.int IntKind.i64 (wrap64 (bits .xor .u32 IntKind.u32.max (y : Int)))) = _
   rw [HF.out]
end Go.Proofs.YtagijldedngcoaaGreatDoor.Zq


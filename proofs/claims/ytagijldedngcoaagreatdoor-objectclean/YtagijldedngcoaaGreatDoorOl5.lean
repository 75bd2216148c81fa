/-
  Contracts of the program and of the statements (part 5 of 28).
-/
import Derived.Test.YtagijldedngcoaaGreatDoorOl4
import Derived.Test.YtagijldedngcoaaGreatDoorRows
import Derived.Deep.RegionHeld3
import Derived.BigQuiet
import Derived.Shelf.Strings.Builder1
import Derived.Shelf.Strings.Builder2
import Derived.Shelf.Strings.OnBuilder
import Derived.Shelf.Strings.BuilderF
import Derived.Shelf.Sort.Plain
import Derived.Shelf.Strings.Prefix
import Derived.Shelf.Bits.Mul64
import Derived.Shelf.Strings.Repeat
import Derived.Shelf.Slices.In.SortNone
set_option maxRecDepth 100000
set_option maxHeartbeats 400000

namespace Go.Proofs.YtagijldedngcoaaGreatDoor.Zq
open Go.RowKit Go.Lib

def bs (l : List UInt8) : ByteArray:=⟨l.toArray⟩
theorem bs_toList (l : List UInt8) : (bs l).data.toList = l:=by simp [bs]
theorem bs_size (l : List UInt8) : (bs l).size = l.length:=by simp [bs,ByteArray.size]
theorem bs_of (s : ByteArray) : bs s.data.toList = s:=by simp [bs]
theorem bs_append (a b : List UInt8) : bs a ++ bs b = bs (a ++ b):=by
 apply ByteArray.ext
 simp [bs,ByteArray.data_append]
theorem fixedOf_one {n : Nat} (h : n < 256) : Nm.fixedOf n 1 = [UInt8.ofNat n]:=by
 simp only [Nm.fixedOf,Nat.pow_zero,Nat.div_one,Nat.mod_eq_of_lt h]
theorem ofNat_mod (n : Nat) : UInt8.ofNat (n % 256) = UInt8.ofNat n:=by
 apply UInt8.toNat_inj.1
 simp
theorem fixedOf_four (n : Nat) : Nm.fixedOf n 4 = be4 n:=by
 simp only [Nm.fixedOf,be4]
 show [UInt8.ofNat (n / 16777216 % 256),UInt8.ofNat (n / 65536 % 256),UInt8.ofNat (n / 256 % 256),UInt8.ofNat (n / 1 % 256)] = _
 rw [ofNat_mod,ofNat_mod,ofNat_mod,ofNat_mod,Nat.div_one]

theorem fixedP_any (n k : Nat) (w : World) (hn : n ≤ 9223372036854775807) (hk1 : 1 ≤ k) (hk8 : k ≤ 8) (hr : n < 256 ^ k) :
  Calls Tryz.prog 243 #[.int .i64 n,.int .i64 k] w fun e w' => e = .returned (.string (bs (Nm.fixedOf n k)))∧Below w.heap.size w w':=by
 have HC : Hid _:=Nm.fixed_any n k w hn hk1 hk8 hr
 clear hr
 go_enter Tryz.func243,Tryz.ntmps243
 go_wp2_with fail
 refine Calls.mono HC.out ?_
 rintro e w1 ⟨rfl,hb⟩
 go_wp2
 go_ret
 exact ⟨rfl,hb⟩

theorem low_step {n j : Nat} (hj : j < 4) : (byteCells ((le4 n).take j ++ List.replicate (4 - j) 0)).set j (.int .u8 ((n : Int) / 2 ^ (8 * j) % 256)) = byteCells ((le4 n).take (j + 1) ++ List.replicate (4 - (j + 1)) 0):=by
 have e : ∀ m : Nat,Value.int .u8 ((m : Int) % 256) = Value.int .u8 ((UInt8.ofNat m).toNat : Int):=fun m => by simp
 have e2 : ∀ i : Nat,(n : Int) / 2 ^ (8 * i) = ((n / 2 ^ (8 * i) : Nat) : Int):=fun i => by simp
 rw [e2,e]
 have : j = 0 ∨ j = 1 ∨ j = 2 ∨ j = 3:=by omega
 rcases this with rfl | rfl | rfl | rfl <;> simp [le4,byteCells,List.replicate]
theorem low_zero {n j : Nat} (hj : j < 4) : (byteCells ((le4 n).take j ++ List.replicate (4 - j) 0))[j]? = some (.int .u8 0):=by
 have : j = 0 ∨ j = 1 ∨ j = 2 ∨ j = 3:=by omega
 rcases this with rfl | rfl | rfl | rfl <;> simp [le4,byteCells,List.replicate]

theorem lowest_any (n : Nat) (w : World) :
  Calls Tryz.prog 244 #[.int .i64 n] w fun e w' => e = .returned (.string (bs (le4 n)))∧Below w.heap.size w w':=by
 obtain ⟨i0,hi,hz0,hz1,hz2⟩:=info_parts Nm.Tryz.info5
 go_enter Tryz.func244,Tryz.ntmps244
 go_wp2_with (at_make; refine wpList_make_full _ rfl _ _ 79 rfl w.heap.size 5 i0 (.int .u8 0) 1 Tryz.underlying79 hi hz0 hz1 _ _ _ _ 4 rfl rfl rfl rfl (by rw [hz2]; omega) (by unfold maxLen; omega) (Nat.le_refl _) ?_)
 intro w0 hown0 hgrow0
 have hb0 : Below w.heap.size w w0:=(Below.refl _ _).grown hgrow0 (Nat.le_refl _) (fun k hk => by cases hk)
 clear hgrow0 hz0 hz1 hz2 hi
 go_wp2
 go_loopw [8] (fun i wr => ∃ j : Nat,j ≤ 4∧i = .int .i64 j∧wr.ownsRow w.heap.size 5 1 (.slice (some ⟨w.heap.size,0,none⟩) 4 4) 4 (byteCells ((le4 n).take j ++ List.replicate (4 - j) 0))∧Below w.heap.size w wr)
  (fun i _ => 4 - (intOf i).toNat)
 case atStart => exact ⟨0,Nat.zero_le _,rfl,by simpa [byteCells,toList_madeCells_one] using hown0,hb0⟩
 case round =>
  obtain ⟨j,hj,rfl,hown,hb⟩:=hrel
  by_cases hlt : j < 4
  ·have hc : wr.cell? ⟨w.heap.size,j,none⟩ = some (.int .u8 0):=by rw [hown.cellAt j (by omega),low_zero hlt]
   have hf:=hown.frozenAt j
   have R:=(hown.stored j (.int .u8 ((n : Int) / 2 ^ (8 * j) % 256))).1
   rw [low_step hlt] at R
   have R2:=hb.setCell (p:=⟨w.heap.size,j,none⟩) (Nat.le_refl _) (.int .u8 ((n : Int) / 2 ^ (8 * j) % 256))
   clear hown hb
   go_wp2
   go_roundw
   case rel => exact ⟨j + 1,by omega,by go_num,R,R2⟩
   case measure => simp [intOf]; omega
  ·have hjk : j = 4:=by omega
   subst hjk
   rw [show (le4 n).take 4 ++ List.replicate (4 - 4) 0 = le4 n by simp [le4]] at hown
   have hs:=Nm.run_string_of_own (l:=le4 n) hown
   rw [show Nm.strOf (le4 n) = bs (le4 n) from rfl] at hs
   go_wp2
   go_ret
   exact ⟨rfl,hb⟩

def SK (T : TypeId) (w : World) (b : Nat) (k m i long : Int) (id data : ByteArray) : Prop:=w.heap[b]? = some (.cells #[.int .i64 k,.int .i64 m,.int .i64 i,.int .i64 long,.string id,.string data] T (0,0))
section
variable {T : TypeId} {w w' : World} {b : Nat} {k m i long : Int} {id data : ByteArray}
theorem SK.lt (h : SK T w b k m i long id data) : b < w.heap.size:=lt_of_block h
theorem SK.cell0 (h : SK T w b k m i long id data) : w.cell? ⟨b,0,none⟩ = some (.int .i64 k):=by simp [World.cell?,show w.heap[b]? = _ from h]
theorem SK.cell1 (h : SK T w b k m i long id data) : w.cell? ⟨b,1,none⟩ = some (.int .i64 m):=by simp [World.cell?,show w.heap[b]? = _ from h]
theorem SK.cell2 (h : SK T w b k m i long id data) : w.cell? ⟨b,2,none⟩ = some (.int .i64 i):=by simp [World.cell?,show w.heap[b]? = _ from h]
theorem SK.cell3 (h : SK T w b k m i long id data) : w.cell? ⟨b,3,none⟩ = some (.int .i64 long):=by simp [World.cell?,show w.heap[b]? = _ from h]
theorem SK.cell4 (h : SK T w b k m i long id data) : w.cell? ⟨b,4,none⟩ = some (.string id):=by simp [World.cell?,show w.heap[b]? = _ from h]
theorem SK.cell5 (h : SK T w b k m i long id data) : w.cell? ⟨b,5,none⟩ = some (.string data):=by simp [World.cell?,show w.heap[b]? = _ from h]
theorem SK.free (h : SK T w b k m i long id data) (j : Nat) : w.frozen? ⟨b,j,none⟩ = false:=by simp [World.frozen?,show w.heap[b]? = _ from h]
theorem SK.of_block (h : SK T w b k m i long id data) (hb : w'.heap[b]? = w.heap[b]?) : SK T w' b k m i long id data:=hb.trans h
theorem SK.below (h : SK T w b k m i long id data) {B : Nat} (hb : Below B w w') (hB : b < B) : SK T w' b k m i long id data:=h.of_block (hb.block b hB)
theorem SK.alloc (h : SK T w b k m i long id data) (o : Obj) : SK T (w.alloc o) b k m i long id data:=h.of_block (Below.heap_alloc w o b h.lt)
theorem SK.new (T : TypeId) (w : World) (k m i long : Int) (id data : ByteArray) : SK T (w.alloc (.cells #[.int .i64 k,.int .i64 m,.int .i64 i,.int .i64 long,.string id,.string data] T)) w.heap.size k m i long id data:=heap_alloc_new w _
end

theorem add_run {a b c : ByteArray} (h : a ++ b = c) (hz : a.size + b.size ≤ 9223372036854775807) (w : World) : (Op.stringOp .add a b).run Tryz.prog w = .ok (.string c) w:=by
 rw [run_string_add_sum w a b hz,h]
theorem add_run2 {a b c : ByteArray} (h : a ++ b = c) (hz : a.size + b.size ≤ 9223372036854775807) (w : World) : (binOp .add 9 (.string a) (.string b)).run Tryz.prog w = .ok (.string c) w:=by
 rw [binOp_string_add,add_run h hz]
theorem size_add (a b : ByteArray) : (a ++ b).size = a.size + b.size:=by simp

theorem tx_parts (k m i long : Nat) (id data : ByteArray) (hk : k < 256) (hm : m < 256) (hi : i < 256) :
  (⟨#[71,82,84,1]⟩ : ByteArray) ++ bs (Nm.fixedOf k 1) ++ bs (Nm.fixedOf m 1) ++ bs (Nm.fixedOf i 1) ++ bs (Nm.fixedOf long 4) ++ id ++ data = bs (txL ⟨k,m,i,long,id,data⟩):=by
 rw [fixedOf_one hk,fixedOf_one hm,fixedOf_one hi,fixedOf_four]
 apply ByteArray.ext
 simp [bs,txL,ByteArray.data_append,be4]

theorem written_any (k m i long : Nat) (id data : ByteArray) (w : World) (hk : k < 256) (hm : m < 256) (hi : i < 256) (hl : long < 4294967296) (hid : id.size ≤ 1000000) (hda : data.size ≤ 1000000) :
  Calls Tryz.prog 206 #[.agg #[.int .i64 k,.int .i64 m,.int .i64 i,.int .i64 long,.string id,.string data]] w fun e w' => e = .returned (.string (bs (fullL ⟨k,m,i,long,id,data⟩)))∧Below w.heap.size w w':=by
 obtain ⟨A7,hA7⟩ : ∃ A,A = bs (fullL ⟨k,m,i,long,id,data⟩):=⟨_,rfl⟩
 rw [← hA7]
 obtain ⟨K1,hK1⟩ : ∃ A,A = bs (Nm.fixedOf k 1):=⟨_,rfl⟩
 obtain ⟨K2,hK2⟩ : ∃ A,A = bs (Nm.fixedOf m 1):=⟨_,rfl⟩
 obtain ⟨K3,hK3⟩ : ∃ A,A = bs (Nm.fixedOf i 1):=⟨_,rfl⟩
 obtain ⟨K4,hK4⟩ : ∃ A,A = bs (Nm.fixedOf long 4):=⟨_,rfl⟩
 have z1 : K1.size = 1:=by rw [hK1,bs_size,Nm.fixedOf_length]
 have z2 : K2.size = 1:=by rw [hK2,bs_size,Nm.fixedOf_length]
 have z3 : K3.size = 1:=by rw [hK3,bs_size,Nm.fixedOf_length]
 have z4 : K4.size = 4:=by rw [hK4,bs_size,Nm.fixedOf_length]
 obtain ⟨A1,hA1⟩ : ∃ A,A = (⟨#[71,82,84,1]⟩ : ByteArray) ++ K1:=⟨_,rfl⟩
 obtain ⟨A2,hA2⟩ : ∃ A,A = A1 ++ K2:=⟨_,rfl⟩
 obtain ⟨A3,hA3⟩ : ∃ A,A = A2 ++ K3:=⟨_,rfl⟩
 obtain ⟨A4,hA4⟩ : ∃ A,A = A3 ++ K4:=⟨_,rfl⟩
 obtain ⟨A5,hA5⟩ : ∃ A,A = A4 ++ id:=⟨_,rfl⟩
 obtain ⟨A6,hA6⟩ : ∃ A,A = A5 ++ data:=⟨_,rfl⟩
 have y1 : A1.size = 5:=by rw [hA1,size_add,z1]; rfl
 have y2 : A2.size = 6:=by rw [hA2,size_add,z2,y1]
 have y3 : A3.size = 7:=by rw [hA3,size_add,z3,y2]
 have y4 : A4.size = 11:=by rw [hA4,size_add,z4,y3]
 have y5 : A5.size = 11 + id.size:=by rw [hA5,size_add,y4]
 have y6 : A6.size = 11 + id.size + data.size:=by rw [hA6,size_add,y5]
 have hT : A6 = bs (txL ⟨k,m,i,long,id,data⟩):=by
  rw [hA6,hA5,hA4,hA3,hA2,hA1,hK1,hK2,hK3,hK4]
  exact tx_parts k m i long id data hk hm hi
 have HT : Hid (A6.data.toList = txL ⟨k,m,i,long,id,data⟩):=by rw [hT]; exact bs_toList _
 have HF : Hid (A6 ++ bs (le4 (crcV A6.data.toList)) = A7):=by
  rw [HT.out,hA7,hT,bs_append]
  rfl
 have r1:=add_run hA1.symm (by rw [z1]; decide)
 have r2:=add_run hA2.symm (by omega)
 have r3:=add_run hA3.symm (by omega)
 have r4:=add_run hA4.symm (by omega)
 have r5:=add_run hA5.symm (by omega)
 have r6:=add_run hA6.symm (by omega)
 have s1:=add_run2 hA1.symm (by rw [z1]; decide)
 have s2:=add_run2 hA2.symm (by omega)
 have s3:=add_run2 hA3.symm (by omega)
 have s4:=add_run2 hA4.symm (by omega)
 have s5:=add_run2 hA5.symm (by omega)
 have s6:=add_run2 hA6.symm (by omega)
 have HZ : Hid (A6.size ≤ 3000000):=by show A6.size ≤ _; omega
 have X:=SK.new 232 w k m i long id data
 obtain ⟨W,hW⟩ : ∃ W,W = w.alloc (.cells #[.int .i64 k,.int .i64 m,.int .i64 i,.int .i64 long,.string id,.string data] 232):=⟨_,rfl⟩
 have HB : Hid (Below w.heap.size w W):=by rw [hW]; exact below_alloc (Below.refl _ _) _
 rw [← hW] at X
 have HW:=hide hW
 have hXl:=X.lt
 have KS : Hid (∀ w' w'' : World,Below W.heap.size W w'→Below w'.heap.size w' w''→(Below W.heap.size W w''∧w''.cell? ⟨w.heap.size,0,none⟩ = some (.int .i64 k)∧w''.cell? ⟨w.heap.size,1,none⟩ = some (.int .i64 m)∧w''.cell? ⟨w.heap.size,2,none⟩ = some (.int .i64 i)∧w''.cell? ⟨w.heap.size,3,none⟩ = some (.int .i64 long)∧w''.cell? ⟨w.heap.size,4,none⟩ = some (.string id)∧w''.cell? ⟨w.heap.size,5,none⟩ = some (.string data))):=fun w' w'' h1 h2 => by
  have h:=below_step h1 h2
  have Y:=X.below h hXl
  exact ⟨h,Y.cell0,Y.cell1,Y.cell2,Y.cell3,Y.cell4,Y.cell5⟩
 have S0 : Hid (Below W.heap.size W W.drew∧W.drew.cell? ⟨w.heap.size,0,none⟩ = some (.int .i64 k)∧W.drew.cell? ⟨w.heap.size,1,none⟩ = some (.int .i64 m)∧W.drew.cell? ⟨w.heap.size,2,none⟩ = some (.int .i64 i)∧W.drew.cell? ⟨w.heap.size,3,none⟩ = some (.int .i64 long)∧W.drew.cell? ⟨w.heap.size,4,none⟩ = some (.string id)∧W.drew.cell? ⟨w.heap.size,5,none⟩ = some (.string data)):=⟨(Below.refl _ _).drew,X.cell0,X.cell1,X.cell2,X.cell3,X.cell4,X.cell5⟩
 have C1 : Hid (∀ (v u : Value) (w' : World),v = .int .i64 (k : Int)→u = .int .i64 1→(Below W.heap.size W w'∧w'.cell? ⟨w.heap.size,0,none⟩ = some (.int .i64 k)∧w'.cell? ⟨w.heap.size,1,none⟩ = some (.int .i64 m)∧w'.cell? ⟨w.heap.size,2,none⟩ = some (.int .i64 i)∧w'.cell? ⟨w.heap.size,3,none⟩ = some (.int .i64 long)∧w'.cell? ⟨w.heap.size,4,none⟩ = some (.string id)∧w'.cell? ⟨w.heap.size,5,none⟩ = some (.string data))→Calls Tryz.prog 243 #[v,u] w' fun e w'' => e = .returned (.string K1)∧(Below W.heap.size W w''∧w''.cell? ⟨w.heap.size,0,none⟩ = some (.int .i64 k)∧w''.cell? ⟨w.heap.size,1,none⟩ = some (.int .i64 m)∧w''.cell? ⟨w.heap.size,2,none⟩ = some (.int .i64 i)∧w''.cell? ⟨w.heap.size,3,none⟩ = some (.int .i64 long)∧w''.cell? ⟨w.heap.size,4,none⟩ = some (.string id)∧w''.cell? ⟨w.heap.size,5,none⟩ = some (.string data))):=fun v u w' hv hu h => by
  subst hv
  subst hu
  rw [hK1]
  exact (fixedP_any k 1 w' (by omega) (by decide) (by decide) (by simpa using hk)).mono fun _ _ ⟨he,hk⟩ => ⟨he,KS.out _ _ h.1 hk⟩
 have C2 : Hid (∀ (v u : Value) (w' : World),v = .int .i64 (m : Int)→u = .int .i64 1→(Below W.heap.size W w'∧w'.cell? ⟨w.heap.size,0,none⟩ = some (.int .i64 k)∧w'.cell? ⟨w.heap.size,1,none⟩ = some (.int .i64 m)∧w'.cell? ⟨w.heap.size,2,none⟩ = some (.int .i64 i)∧w'.cell? ⟨w.heap.size,3,none⟩ = some (.int .i64 long)∧w'.cell? ⟨w.heap.size,4,none⟩ = some (.string id)∧w'.cell? ⟨w.heap.size,5,none⟩ = some (.string data))→Calls Tryz.prog 243 #[v,u] w' fun e w'' => e = .returned (.string K2)∧(Below W.heap.size W w''∧w''.cell? ⟨w.heap.size,0,none⟩ = some (.int .i64 k)∧w''.cell? ⟨w.heap.size,1,none⟩ = some (.int .i64 m)∧w''.cell? ⟨w.heap.size,2,none⟩ = some (.int .i64 i)∧w''.cell? ⟨w.heap.size,3,none⟩ = some (.int .i64 long)∧w''.cell? ⟨w.heap.size,4,none⟩ = some (.string id)∧w''.cell? ⟨w.heap.size,5,none⟩ = some (.string data))):=fun v u w' hv hu h => by
  subst hv
  subst hu
  rw [hK2]
  exact (fixedP_any m 1 w' (by omega) (by decide) (by decide) (by simpa using hm)).mono fun _ _ ⟨he,hk⟩ => ⟨he,KS.out _ _ h.1 hk⟩
 have C3 : Hid (∀ (v u : Value) (w' : World),v = .int .i64 (i : Int)→u = .int .i64 1→(Below W.heap.size W w'∧w'.cell? ⟨w.heap.size,0,none⟩ = some (.int .i64 k)∧w'.cell? ⟨w.heap.size,1,none⟩ = some (.int .i64 m)∧w'.cell? ⟨w.heap.size,2,none⟩ = some (.int .i64 i)∧w'.cell? ⟨w.heap.size,3,none⟩ = some (.int .i64 long)∧w'.cell? ⟨w.heap.size,4,none⟩ = some (.string id)∧w'.cell? ⟨w.heap.size,5,none⟩ = some (.string data))→Calls Tryz.prog 243 #[v,u] w' fun e w'' => e = .returned (.string K3)∧(Below W.heap.size W w''∧w''.cell? ⟨w.heap.size,0,none⟩ = some (.int .i64 k)∧w''.cell? ⟨w.heap.size,1,none⟩ = some (.int .i64 m)∧w''.cell? ⟨w.heap.size,2,none⟩ = some (.int .i64 i)∧w''.cell? ⟨w.heap.size,3,none⟩ = some (.int .i64 long)∧w''.cell? ⟨w.heap.size,4,none⟩ = some (.string id)∧w''.cell? ⟨w.heap.size,5,none⟩ = some (.string data))):=fun v u w' hv hu h => by
  subst hv
  subst hu
  rw [hK3]
  exact (fixedP_any i 1 w' (by omega) (by decide) (by decide) (by simpa using hi)).mono fun _ _ ⟨he,hk⟩ => ⟨he,KS.out _ _ h.1 hk⟩
 have C4 : Hid (∀ (v u : Value) (w' : World),v = .int .i64 (long : Int)→u = .int .i64 4→(Below W.heap.size W w'∧w'.cell? ⟨w.heap.size,0,none⟩ = some (.int .i64 k)∧w'.cell? ⟨w.heap.size,1,none⟩ = some (.int .i64 m)∧w'.cell? ⟨w.heap.size,2,none⟩ = some (.int .i64 i)∧w'.cell? ⟨w.heap.size,3,none⟩ = some (.int .i64 long)∧w'.cell? ⟨w.heap.size,4,none⟩ = some (.string id)∧w'.cell? ⟨w.heap.size,5,none⟩ = some (.string data))→Calls Tryz.prog 243 #[v,u] w' fun e w'' => e = .returned (.string K4)∧(Below W.heap.size W w''∧w''.cell? ⟨w.heap.size,0,none⟩ = some (.int .i64 k)∧w''.cell? ⟨w.heap.size,1,none⟩ = some (.int .i64 m)∧w''.cell? ⟨w.heap.size,2,none⟩ = some (.int .i64 i)∧w''.cell? ⟨w.heap.size,3,none⟩ = some (.int .i64 long)∧w''.cell? ⟨w.heap.size,4,none⟩ = some (.string id)∧w''.cell? ⟨w.heap.size,5,none⟩ = some (.string data))):=fun v u w' hv hu h => by
  subst hv
  subst hu
  rw [hK4]
  exact (fixedP_any long 4 w' (by omega) (by decide) (by decide) (by simpa using hl)).mono fun _ _ ⟨he,hk⟩ => ⟨he,KS.out _ _ h.1 hk⟩
 have HX:=hide X
 clear hK1 hK2 hK3 hK4 hA1 hA2 hA3 hA4 hA5 hA6 hA7 hT X hW KS y1 y2 y3 y4 y5 y6 z1 z2 z3 z4 hXl
 go_enter Tryz.func206,Tryz.ntmps206
 go_wp2_with fail
 rw [← HW.out]
 go_region_held3 (fun w' => Below W.heap.size W w'∧w'.cell? ⟨w.heap.size,0,none⟩ = some (.int .i64 k)∧w'.cell? ⟨w.heap.size,1,none⟩ = some (.int .i64 m)∧w'.cell? ⟨w.heap.size,2,none⟩ = some (.int .i64 i)∧w'.cell? ⟨w.heap.size,3,none⟩ = some (.int .i64 long)∧w'.cell? ⟨w.heap.size,4,none⟩ = some (.string id)∧w'.cell? ⟨w.heap.size,5,none⟩ = some (.string data)) (first | assumption | exact S0.out | exact ⟨by assumption,by assumption,by assumption,by assumption,by assumption,by assumption,by assumption⟩)
  (first
   | (go_at_call 243; refine (C1.out _ _ _ (by with_reducible rfl) (by with_reducible rfl) (by first | assumption | exact ⟨by assumption,by assumption,by assumption,by assumption,by assumption,by assumption,by assumption⟩)).mono ?_; rintro e w1 ⟨rfl,a1,b1,c1,d1,e1,f1,g1⟩)
   | (go_at_call 243; refine (C2.out _ _ _ (by with_reducible rfl) (by with_reducible rfl) (by first | assumption | exact ⟨by assumption,by assumption,by assumption,by assumption,by assumption,by assumption,by assumption⟩)).mono ?_; rintro e w2 ⟨rfl,a2,b2,c2,d2,e2,f2,g2⟩)
   | (go_at_call 243; refine (C3.out _ _ _ (by with_reducible rfl) (by with_reducible rfl) (by first | assumption | exact ⟨by assumption,by assumption,by assumption,by assumption,by assumption,by assumption,by assumption⟩)).mono ?_; rintro e w3 ⟨rfl,a3,b3,c3,d3,e3,f3,g3⟩)
   | (go_at_call 243; refine (C4.out _ _ _ (by with_reducible rfl) (by with_reducible rfl) (by first | assumption | exact ⟨by assumption,by assumption,by assumption,by assumption,by assumption,by assumption,by assumption⟩)).mono ?_; rintro e w4 ⟨rfl,a4,b4,c4,d4,e4,f4,g4⟩))
 clear C1 C2 C3 C4 r1 r2 r3 r4 r5 r6 s1 s2 s3 s4 s5 s6 S0
 clear b1 b2 b3 b4 c1 c2 c3 c4 d1 d2 d3 d4 e1 e2 e3 e4 f1 f2 f3 f4 g1 g2 g3 g4 a1 a2 a3
 have hb4:=hide (HB.out.trans (a4.mono HB.out.size))
 clear a4
 go_wp2_with fail
 refine (crc_any A6 _ (by have:=HZ.out; omega)).mono ?_
 rintro e w5 ⟨rfl,hw5⟩
 subst w5
 go_wp2_with fail
 refine (lowest_any (crcV A6.data.toList) _).mono ?_
 rintro e w6 ⟨rfl,hb6⟩
 have zL : (bs (le4 (crcV A6.data.toList))).size = 4:=by rw [bs_size]; rfl
 have hz:=HZ.out
 have r7:=add_run HF.out (by rw [zL]; omega)
 have s7:=add_run2 HF.out (by rw [zL]; omega)
 generalize bs (le4 (crcV A6.data.toList)) = L at *
 clear zL hz
 go_wp2
 go_ret
 exact ⟨rfl,hb4.out.trans (hb6.mono hb4.out.size)⟩
end Go.Proofs.YtagijldedngcoaaGreatDoor.Zq


namespace Go.Proofs.YtagijldedngcoaaGreatDoor.Zq
open Go.RowKit Go.Lib

def tbit (L : List UInt8) (q : Nat) : List UInt8:=L.set (q / 8) (L.getD (q / 8) 0 ^^^ UInt8.ofNat (2 ^ (q % 8)))
theorem tbit_length (L : List UInt8) (q : Nat) : (tbit L q).length = L.length:=List.length_set
theorem pow8 (q : Nat) : 2 ^ (q % 8) < 256:=Nat.lt_of_le_of_lt (Nat.pow_le_pow_right (by decide) (show q % 8 ≤ 7 by omega)) (by decide)
theorem leN_tbit {L : List UInt8} {q : Nat} (h : q < 8 * L.length) : leN (tbit L q) = leN L ^^^ 2 ^ q:=by
 apply Nat.eq_of_testBit_eq
 intro i
 rw [leN_bit,Nat.testBit_xor,leN_bit,Nat.testBit_two_pow,tbit]
 by_cases e : i / 8 = q / 8
 ·rw [e,List.getD_eq_getElem?_getD,List.getElem?_set_self (by omega),Option.getD_some,UInt8.toNat_xor,Nat.testBit_xor,UInt8.toNat_ofNat',Nat.mod_eq_of_lt (pow8 q),Nat.testBit_two_pow]
  by_cases e2 : q = i
  ·subst e2
   simp
  ·rw [decide_eq_false e2,decide_eq_false (show ¬ q % 8 = i % 8 by omega)]
 ·rw [List.getD_eq_getElem?_getD,List.getElem?_set_ne (fun e2 => e e2.symm),← List.getD_eq_getElem?_getD,decide_eq_false (show ¬ q = i by intro e2; subst e2; exact e rfl),Bool.xor_false]

def pE (p first N j : Nat) : Nat:=p % 2 ^ j * 2 ^ first % 2 ^ N
theorem pE_bit (p first N j i : Nat) : (pE p first N j).testBit i = (decide (i < N) && (decide (first ≤ i) && (decide (i - first < j) && p.testBit (i - first)))):=by
 rw [pE,Nat.testBit_mod_two_pow,Nat.testBit_mul_two_pow,Nat.testBit_mod_two_pow]
theorem pE_zero (p first N : Nat) : pE p first N 0 = 0:=by simp [pE,Nat.mod_one]
theorem pE_all {p : Nat} (h : p < 4294967296) (first N : Nat) : pE p first N 32 = p * 2 ^ first % 2 ^ N:=by
 rw [pE,Nat.mod_eq_of_lt (show p < 2 ^ 32 from h)]
theorem pE_on {p first N j : Nat} (hb : p.testBit j = true) (h : first + j < N) : pE p first N (j + 1) = pE p first N j ^^^ 2 ^ (first + j):=by
 apply Nat.eq_of_testBit_eq
 intro i
 rw [pE_bit,Nat.testBit_xor,pE_bit,Nat.testBit_two_pow]
 by_cases e : first + j = i
 ·subst e
  simp [h,hb]
 ·rw [decide_eq_false e,Bool.xor_false]
  by_cases h1 : first ≤ i
  ·rw [show decide (i - first < j + 1) = decide (i - first < j) by
    by_cases h2 : i - first < j
    ·rw [decide_eq_true h2,decide_eq_true (by omega)]
    ·rw [decide_eq_false h2,decide_eq_false (by omega)]]
  ·simp [h1]
theorem pE_off {p first N j : Nat} (h : p.testBit j = false ∨ N ≤ first + j) : pE p first N (j + 1) = pE p first N j:=by
 apply Nat.eq_of_testBit_eq
 intro i
 rw [pE_bit,pE_bit]
 by_cases e : first + j = i
 ·subst e
  rcases h with h | h
  ·simp [h]
  ·simp [show ¬ first + j < N by omega]
 ·by_cases h1 : first ≤ i
  ·rw [show decide (i - first < j + 1) = decide (i - first < j) by
    by_cases h2 : i - first < j
    ·rw [decide_eq_true h2,decide_eq_true (by omega)]
    ·rw [decide_eq_false h2,decide_eq_false (by omega)]]
  ·simp [h1]
theorem xor_cancel (a b : Nat) : a ^^^ (a ^^^ b) = b:=by rw [← Nat.xor_assoc,Nat.xor_self,Nat.zero_xor]

theorem test_bit {p j : Nat} (hp : p < 4294967296) : (bits .and .u32 ((p : Int) / 2 ^ j) 1 == 1) = p.testBit j:=by
 have h1 : (p : Int) / 2 ^ j = ((p / 2 ^ j : Nat) : Int):=by simp
 have h2 : p / 2 ^ j < 4294967296:=Nat.lt_of_le_of_lt (Nat.div_le_self _ _) hp
 rw [h1,show (1 : Int) = ((1 : Nat) : Int) from rfl,and_u32' _ _ h2 (by decide),Nat.and_one_is_mod,Nat.testBit_eq_decide_div_mod_eq]
 by_cases h : p / 2 ^ j % 2 = 1
 ·rw [h,decide_eq_true rfl]
  rfl
 ·rw [show p / 2 ^ j % 2 = 0 by omega]
  rfl

structure TL (L0 L : List UInt8) (p first j : Nat) : Prop where
 len : L.length = L0.length
 num : leN L = leN L0 ^^^ pE p first (8 * L0.length) j
theorem TL.start (L0 : List UInt8) (p first : Nat) : TL L0 L0 p first 0:=⟨rfl,by rw [pE_zero,Nat.xor_zero]⟩
theorem TL.on {L0 L : List UInt8} {p first j : Nat} (h : TL L0 L p first j) (hb : p.testBit j = true) (hq : first + j < 8 * L0.length) : TL L0 (tbit L (first + j)) p first (j + 1) :=
 ⟨by rw [tbit_length,h.len],by rw [leN_tbit (by rw [h.len]; exact hq),h.num,pE_on hb hq,Nat.xor_assoc]⟩
theorem TL.off {L0 L : List UInt8} {p first j : Nat} (h : TL L0 L p first j) (hb : p.testBit j = false ∨ 8 * L0.length ≤ first + j) : TL L0 L p first (j + 1):=⟨h.len,by rw [pE_off hb,h.num]⟩
theorem TL.found {x : SX} {L : List UInt8} {p first : Nat} (h : TL (fullL x) L p first 32) (hp : p < 4294967296) (hf : first ≤ 8 * (fullL x).length) (hd : decOK L) : L = fullL x:=by
 refine turned_found h.len hp (by rw [h.len]; exact hf) ?_ hd
 rw [leN_xor _ _ h.len.symm,h.num,xor_cancel,pE_all hp,h.len]
end Go.Proofs.YtagijldedngcoaaGreatDoor.Zq


namespace Go.Proofs.YtagijldedngcoaaGreatDoor.Zq
open Go.RowKit Go.Lib

theorem isId_any (id : ByteArray) (w : World) : Calls Tryz.prog 255 #[.string id] w fun e w' => e = .returned (.bool (decide (id.size = 32)))∧w' = w:=by
 by_cases h : id.size = 32
 ·rw [decide_eq_true h]
  have h2 : ((id.size : Int) == 32) = true:=by rw [h]; rfl
  clear h
  go_enter Tryz.func255,Tryz.ntmps255
  go_wp2
  go_ret
  exact ⟨rfl,rfl⟩
 ·rw [decide_eq_false h]
  have h2 : ((id.size : Int) == 32) = false:=by simp; omega
  clear h
  go_enter Tryz.func255,Tryz.ntmps255
  go_wp2
  go_ret
  exact ⟨rfl,rfl⟩

def okB (k m : Nat) (i long : Int) (id data : ByteArray) : Prop:=(0 ≤ i∧i < ((k + m : Nat) : Int))∧(0 ≤ long∧long ≤ 65536)∧id.size = 32∧data.size = eachN k long.toNat

section
variable {w : World} {b sb f1 f2 g k m : Nat}
theorem checkBy_bad (h : PP w b sb f1 f2 g k m) (k1 : 1 ≤ k) (km : k + m ≤ 255) (xk xm i long : Int) (id data : ByteArray) (hn : ¬ okB k m i long id data) :
  Calls Tryz.prog 236 #[.pointer (some ⟨b,0,none⟩),.agg #[.int .i64 xk,.int .i64 xm,.int .i64 i,.int .i64 long,.string id,.string data]] w fun e w' => e = .returned (.int .i64 60)∧Below w.heap.size w w':=by
 have X:=SK.new 232 w xk xm i long id data
 have hB0 : Hid (Below w.heap.size w (w.alloc (.cells #[.int .i64 xk,.int .i64 xm,.int .i64 i,.int .i64 long,.string id,.string data] 232))):=below_alloc (Below.refl _ _) _
 have h1:=h.below hB0.out
 obtain ⟨W,hW⟩ : ∃ W,W = w.alloc (.cells #[.int .i64 xk,.int .i64 xm,.int .i64 i,.int .i64 long,.string id,.string data] 232):=⟨_,rfl⟩
 rw [← hW] at X h1 hB0
 have HW:=hide hW
 have HX:=hide X
 have HP:=hide h1
 have HN:=hide hn
 clear h X h1 hn hW
 go_enter Tryz.func236,Tryz.ntmps236
 go_wp2_with fail
 rw [← HW.out]
 refine (shape_any HP.out).mono ?_
 rintro e w1 ⟨rfl,hb1⟩
 have HP1:=hide (HP.out.below hb1)
 have HX1:=hide (HX.out.below hb1 HX.out.lt)
 have HB1:=hide (hB0.out.trans (hb1.mono hB0.out.size))
 have c3:=HX1.out.cell3
 clear hb1 HP HX hB0 HW
 go_wp2_with fail
 refine (each_any HP1.out k1 (by omega) long).mono ?_
 rintro e w2 ⟨rfl,hb2⟩
 have HX2:=hide (HX1.out.below hb2 HX1.out.lt)
 have HB2:=hide (HB1.out.trans (hb2.mono HB1.out.size))
 have a2:=HX2.out.cell2
 have a4:=HX2.out.cell4
 have a5:=HX2.out.cell5
 clear c3 hb2 HP1 HX1 HB1
 by_cases hi : 0 ≤ i∧i < ((k + m : Nat) : Int)
 ·obtain ⟨hi0,hi1⟩:=hi
  have hi2 : ¬ i < 0:=by omega
  have hi3 : ¬ ((k : Int) + (m : Int) ≤ i):=by omega
  by_cases hl : 0 ≤ long∧long ≤ 65536
  ·have he : eachR k long = (((eachN k long.toNat : Nat) : Int),0):=by rw [eachR,if_neg (by omega)]
   rw [he]
   by_cases hid : id.size = 32
   ·have hda : (((data.size : Nat) : Int) != ((eachN k long.toNat : Nat) : Int)) = true:=by
     rw [bne_iff_ne]
     intro hh
     exact HN.out ⟨⟨hi0,hi1⟩,hl,hid,by omega⟩
    have HE : Hid (decide (id.size = 32) = true):=decide_eq_true hid
    generalize eachN k long.toNat = q at *
    clear HN hid
    go_wp2_with fail
    refine (isId_any id _).mono ?_
    rintro e w3 ⟨rfl,hw3⟩
    subst w3
    rw [HE.out]
    go_wp2
    go_ret
    exact ⟨rfl,HB2.out⟩
   ·have HE : Hid (decide (id.size = 32) = false):=decide_eq_false hid
    generalize eachN k long.toNat = q at *
    clear HN hid
    go_wp2_with fail
    refine (isId_any id _).mono ?_
    rintro e w3 ⟨rfl,hw3⟩
    subst w3
    rw [HE.out]
    go_wp2
    go_ret
    exact ⟨rfl,HB2.out⟩
  ·have he : eachR k long = (0,1):=by rw [eachR,if_pos (by omega)]
   rw [he]
   clear HN
   go_wp2
   go_ret
   exact ⟨rfl,HB2.out⟩
 ·by_cases hi0 : i < 0
  ·clear HN hi
   generalize eachR k long = q at *
   go_wp2
   go_ret
   exact ⟨rfl,HB2.out⟩
  ·have hi1 : (k : Int) + (m : Int) ≤ i:=by omega
   clear HN hi
   generalize eachR k long = q at *
   go_wp2
   go_ret
   exact ⟨rfl,HB2.out⟩

theorem checkBy_ok (h : PP w b sb f1 f2 g k m) (k1 : 1 ≤ k) (km : k + m ≤ 255) (xk xm i long : Int) (id data : ByteArray) (hn : okB k m i long id data) :
  Calls Tryz.prog 236 #[.pointer (some ⟨b,0,none⟩),.agg #[.int .i64 xk,.int .i64 xm,.int .i64 i,.int .i64 long,.string id,.string data]] w fun e w' => e = .returned (.int .i64 0)∧Below w.heap.size w w':=by
 have X:=SK.new 232 w xk xm i long id data
 have hB0 : Hid (Below w.heap.size w (w.alloc (.cells #[.int .i64 xk,.int .i64 xm,.int .i64 i,.int .i64 long,.string id,.string data] 232))):=below_alloc (Below.refl _ _) _
 have h1:=h.below hB0.out
 obtain ⟨W,hW⟩ : ∃ W,W = w.alloc (.cells #[.int .i64 xk,.int .i64 xm,.int .i64 i,.int .i64 long,.string id,.string data] 232):=⟨_,rfl⟩
 rw [← hW] at X h1 hB0
 have HW:=hide hW
 have HX:=hide X
 have HP:=hide h1
 obtain ⟨⟨hi0,hi1⟩,hl,hid,hda⟩:=hn
 have hi2 : ¬ i < 0:=by omega
 have hi3 : ¬ ((k : Int) + (m : Int) ≤ i):=by omega
 have he : eachR k long = (((data.size : Nat) : Int),0):=by rw [eachR,if_neg (by omega),hda]
 have HE : Hid (decide (id.size = 32) = true):=decide_eq_true hid
 have HEA:=hide he
 clear h X h1 hW hl hda hid he hi1 hi0
 go_enter Tryz.func236,Tryz.ntmps236
 go_wp2_with fail
 rw [← HW.out]
 refine (shape_any HP.out).mono ?_
 rintro e w1 ⟨rfl,hb1⟩
 have HP1:=hide (HP.out.below hb1)
 have HX1:=hide (HX.out.below hb1 HX.out.lt)
 have HB1:=hide (hB0.out.trans (hb1.mono hB0.out.size))
 have c3:=HX1.out.cell3
 clear hb1 HP HX hB0 HW
 go_wp2_with fail
 refine (each_any HP1.out k1 (by omega) long).mono ?_
 rintro e w2 ⟨rfl,hb2⟩
 have HX2:=hide (HX1.out.below hb2 HX1.out.lt)
 have HB2:=hide (HB1.out.trans (hb2.mono HB1.out.size))
 have a2:=HX2.out.cell2
 have a4:=HX2.out.cell4
 have a5:=HX2.out.cell5
 clear c3 hb2 HP1 HX1 HB1
 rw [HEA.out]
 go_wp2_with fail
 refine (isId_any id _).mono ?_
 rintro e w3 ⟨rfl,hw3⟩
 subst w3
 rw [HE.out]
 go_wp2
 go_ret
 exact ⟨rfl,HB2.out⟩
end

theorem okS_iff (k m : Nat) (k1 : 1 ≤ k) (km : k + m ≤ 255) (i long : Int) (id data : ByteArray) : okS ⟨k,m,i,long,id,data⟩ ↔ okB k m i long id data:=by
 unfold okS okB
 simp only [Int.toNat_natCast]
 constructor
 ·rintro ⟨_,⟨h1,h2⟩,h3⟩
  exact ⟨⟨h1,by omega⟩,h3⟩
 ·rintro ⟨⟨h1,h2⟩,h3⟩
  exact ⟨⟨by omega,by omega,by omega⟩,⟨h1,by omega⟩,h3⟩

theorem check_ok (k m i long : Int) (id data : ByteArray) (w : World) (h : okS ⟨k,m,i,long,id,data⟩) :
  Calls Tryz.prog 252 #[.agg #[.int .i64 k,.int .i64 m,.int .i64 i,.int .i64 long,.string id,.string data]] w fun e w' => e = .returned (.int .i64 0)∧Below w.heap.size w w':=by
 have h0:=h.1
 simp only at h0
 obtain ⟨K,rfl⟩:=Int.eq_ofNat_of_zero_le (show 0 ≤ k by omega)
 obtain ⟨M,rfl⟩:=Int.eq_ofNat_of_zero_le (show 0 ≤ m by omega)
 have k1 : 1 ≤ K:=by omega
 have km : K + M ≤ 255:=by omega
 have HO:=hide ((okS_iff K M k1 km i long id data).1 h)
 have X:=SK.new 232 w K M i long id data
 have hB0 : Hid (Below w.heap.size w (w.alloc (.cells #[.int .i64 (K : Int),.int .i64 (M : Int),.int .i64 i,.int .i64 long,.string id,.string data] 232))):=below_alloc (Below.refl _ _) _
 have HX:=hide X
 clear h h0 X
 go_enter Tryz.func252,Tryz.ntmps252
 go_wp2_with fail
 refine (snew_ok k1 km).mono ?_
 rintro e w1 ⟨b,sb,f1,f2,g,rfl,hP,_,hb1⟩
 have HP:=hide hP
 have HB1:=hide (hB0.out.trans (hb1.mono hB0.out.size))
 have Y:=HX.out.below hb1 HX.out.lt
 have c0:=Y.cell0
 have c1:=Y.cell1
 have c2:=Y.cell2
 have c3:=Y.cell3
 have c4:=Y.cell4
 have c5:=Y.cell5
 clear hP hb1 HX hB0 Y
 go_wp2_with fail
 refine (checkBy_ok HP.out k1 km _ _ i long id data HO.out).mono ?_
 rintro e w2 ⟨rfl,hb2⟩
 go_wp2
 go_ret
 exact ⟨rfl,HB1.out.trans (hb2.mono HB1.out.size)⟩

theorem check_bad (k m i long : Int) (id data : ByteArray) (w : World) (hm : m ≤ 9223372036854775807) (h : ¬ okS ⟨k,m,i,long,id,data⟩) :
  Calls Tryz.prog 252 #[.agg #[.int .i64 k,.int .i64 m,.int .i64 i,.int .i64 long,.string id,.string data]] w fun e w' => e = .returned (.int .i64 60)∧Below w.heap.size w w':=by
 have hB0 : Hid (Below w.heap.size w (w.alloc (.cells #[.int .i64 k,.int .i64 m,.int .i64 i,.int .i64 long,.string id,.string data] 232))):=below_alloc (Below.refl _ _) _
 by_cases hp : k < 1 ∨ m < 0 ∨ 255 - m < k
 ·have HPB:=hide hp
  clear h hp
  go_enter Tryz.func252,Tryz.ntmps252
  go_wp2_with fail
  refine (snew_bad k m hm HPB.out).mono ?_
  rintro e w1 ⟨rfl,hb1⟩
  have HB1:=hide (hB0.out.trans (hb1.mono hB0.out.size))
  clear hb1 hB0
  go_wp2
  go_ret
  exact ⟨rfl,HB1.out⟩
 ·obtain ⟨K,rfl⟩:=Int.eq_ofNat_of_zero_le (show 0 ≤ k by omega)
  obtain ⟨M,rfl⟩:=Int.eq_ofNat_of_zero_le (show 0 ≤ m by omega)
  have k1 : 1 ≤ K:=by omega
  have km : K + M ≤ 255:=by omega
  have HO : Hid (¬ okB K M i long id data):=fun hh => h ((okS_iff K M k1 km i long id data).2 hh)
  have X:=SK.new 232 w K M i long id data
  have HX:=hide X
  clear h hp X
  go_enter Tryz.func252,Tryz.ntmps252
  go_wp2_with fail
  refine (snew_ok k1 km).mono ?_
  rintro e w1 ⟨b,sb,f1,f2,g,rfl,hP,_,hb1⟩
  have HP:=hide hP
  have HB1:=hide (hB0.out.trans (hb1.mono hB0.out.size))
  have Y:=HX.out.below hb1 HX.out.lt
  have c0:=Y.cell0
  have c1:=Y.cell1
  have c2:=Y.cell2
  have c3:=Y.cell3
  have c4:=Y.cell4
  have c5:=Y.cell5
  clear hP hb1 HX hB0 Y
  go_wp2_with fail
  refine (checkBy_bad HP.out k1 km _ _ i long id data HO.out).mono ?_
  rintro e w2 ⟨rfl,hb2⟩
  go_wp2
  go_ret
  exact ⟨rfl,HB1.out.trans (hb2.mono HB1.out.size)⟩
end Go.Proofs.YtagijldedngcoaaGreatDoor.Zq


namespace Go.Proofs.YtagijldedngcoaaGreatDoor
open Go.Shelf
def Tryz.lays156_ren : Go.Shelf.Ren:=⟨fun | 156 => 277 | 165 => 284 | 166 => 285 | 169 => 287 | 240 => 307 | 241 => 308 | 276 => 317 | 277 => 318 | n => n,fun | 31 => 44 | 9 => 9 | 3 => 3 | 4 => 4 | 0 => 0 | 20 => 20 | 72 => 372 | 76 => 375 | 70 => 370 | 37 => 79 | 75 => 374 | 127 => 399 | 164 => 406 | 5 => 5 | 80 => 157 | n => n,fun | n => n⟩
theorem Tryz.lays156 : Go.Proofs.Lays.n156 Tryz.prog Tryz.lays156_ren:={
 mixed:=by kernel_rfl
 f156:=Tryz.func277.trans (congrArg some (by kernel_rfl))
 f165:=Tryz.func284.trans (congrArg some (by kernel_rfl))
 f166:=Tryz.func285.trans (congrArg some (by kernel_rfl))
 f169:=Tryz.func287.trans (congrArg some (by kernel_rfl))
 f240:=Tryz.func307.trans (congrArg some (by kernel_rfl))
 f241:=Tryz.func308.trans (congrArg some (by kernel_rfl))
 f276:=Tryz.func317.trans (congrArg some (by kernel_rfl))
 f277:=Tryz.func318.trans (congrArg some (by kernel_rfl))
 t0:=Tryz.underlying0
 a0:=Tryz.isAgg0
 z0:=Tryz.sizeOf0
 v0:=Tryz.zeroValue0
 t3:=Tryz.underlying3
 a3:=Tryz.isAgg3
 z3:=Tryz.sizeOf3
 v3:=Tryz.zeroValue3
 t4:=Tryz.underlying4
 a4:=Tryz.isAgg4
 z4:=Tryz.sizeOf4
 v4:=Tryz.zeroValue4
 t9:=Tryz.underlying9
 a9:=Tryz.isAgg9
 z9:=Tryz.sizeOf9
 v9:=Tryz.zeroValue9
 t20:=Tryz.underlying20
 a20:=Tryz.isAgg20
 z20:=Tryz.sizeOf20
 v20:=Tryz.zeroValue20
 t31:=Tryz.underlying44
 a31:=Tryz.isAgg44
 z31:=Tryz.sizeOf44
 v31:=Tryz.zeroValue44
 t37:=Tryz.underlying79
 a37:=Tryz.isAgg79
 z37:=Tryz.sizeOf79
 v37:=Tryz.zeroValue79
 t70:=Tryz.underlying370
 a70:=Tryz.isAgg370
 z70:=Tryz.sizeOf370
 v70:=Tryz.zeroValue370
 t72:=Tryz.underlying372
 a72:=Tryz.isAgg372
 z72:=Tryz.sizeOf372
 v72:=Tryz.zeroValue372
 t75:=Tryz.underlying374
 a75:=Tryz.isAgg374
 z75:=Tryz.sizeOf374
 v75:=Tryz.zeroValue374
 t76:=Tryz.underlying375
 a76:=Tryz.isAgg375
 z76:=Tryz.sizeOf375
 v76:=Tryz.zeroValue375
 t127:=Tryz.underlying399
 a127:=Tryz.isAgg399
 z127:=Tryz.sizeOf399
 v127:=Tryz.zeroValue399
 t164:=Tryz.underlying406
 a164:=Tryz.isAgg406
 z164:=Tryz.sizeOf406
 v164:=Tryz.zeroValue406 }
theorem Tryz.Builder_Extra_156 : Builder.Extra Tryz.prog Tryz.lays156_ren:={
 sizeBuilder:=by kernel_rfl
 liesBuilder:=by kernel_rfl
 t5:=Tryz.underlying5
 a5:=Tryz.isAgg5
 z5:=Tryz.sizeOf5
 v5:=Tryz.zeroValue5
 infoByte:=by kernel_rfl
 cellsByte:=by kernel_rfl
 sizeByte:=by kernel_rfl
 neB5:=by decide }
open Go.RowKit in
theorem Tryz.strings_Join (bk o c : Nat) (xs : List ByteArray) (sep : ByteArray) (w : World) (hcells : ∀ (j : Nat) x,xs[j]? = some x→w.cell? ⟨bk,o + j,none⟩ = some (.string x)) (hbk : bk < w.heap.size) (hN : xs.length ≤ 140737488355328) (hcap : xs.length ≤ c) (hlen : (Lib.join (xs.map (·.data.toList)) sep.data.toList).length ≤ 140737488355328) :
  Calls Tryz.prog 277 #[.slice (some ⟨bk,o,none⟩) xs.length c,.string sep] w fun e w' => e = .returned (.string ⟨(Lib.join (xs.map (·.data.toList)) sep.data.toList).toArray⟩)∧Below w.heap.size w w':=Any.strings_Join Tryz.lays156 Tryz.Builder_Extra_156 bk o c xs sep w hcells hbk hN hcap hlen
def Tryz.lays190_ren : Go.Shelf.Ren:=⟨fun | 190 => 107 | 125 => 151 | 258 => 150 | 128 => 199 | 129 => 200 | 302 => 190 | 303 => 191 | 304 => 192 | 305 => 193 | 306 => 194 | 307 => 195 | 308 => 196 | 309 => 197 | 310 => 198 | 333 => 226 | 329 => 227 | 330 => 228 | 334 => 229 | 335 => 230 | 336 => 231 | 344 => 250 | n => n,fun | 31 => 44 | 9 => 9 | 3 => 3 | 46 => 213 | 0 => 0 | 51 => 152 | 53 => 250 | 4 => 4 | 183 => 267 | 182 => 266 | 131 => 132 | 5 => 5 | 218 => 295 | 222 => 299 | 228 => 329 | 229 => 330 | n => n,fun | n => n⟩
theorem Tryz.lays190 : Go.Proofs.Lays.n190 Tryz.prog Tryz.lays190_ren:={
 mixed:=by kernel_rfl
 f125:=Tryz.func151.trans (congrArg some (by kernel_rfl))
 f128:=Tryz.func199.trans (congrArg some (by kernel_rfl))
 f129:=Tryz.func200.trans (congrArg some (by kernel_rfl))
 f190:=Tryz.func107.trans (congrArg some (by kernel_rfl))
 f258:=Tryz.func150.trans (congrArg some (by kernel_rfl))
 f302:=Tryz.func190.trans (congrArg some (by kernel_rfl))
 f303:=Tryz.func191.trans (congrArg some (by kernel_rfl))
 f304:=Tryz.func192.trans (congrArg some (by kernel_rfl))
 f305:=Tryz.func193.trans (congrArg some (by kernel_rfl))
 f306:=Tryz.func194.trans (congrArg some (by kernel_rfl))
 f307:=Tryz.func195.trans (congrArg some (by kernel_rfl))
 f308:=Tryz.func196.trans (congrArg some (by kernel_rfl))
 f309:=Tryz.func197.trans (congrArg some (by kernel_rfl))
 f310:=Tryz.func198.trans (congrArg some (by kernel_rfl))
 f329:=Tryz.func227.trans (congrArg some (by kernel_rfl))
 f330:=Tryz.func228.trans (congrArg some (by kernel_rfl))
 f333:=Tryz.func226.trans (congrArg some (by kernel_rfl))
 f334:=Tryz.func229.trans (congrArg some (by kernel_rfl))
 f335:=Tryz.func230.trans (congrArg some (by kernel_rfl))
 f336:=Tryz.func231.trans (congrArg some (by kernel_rfl))
 f344:=Tryz.func250.trans (congrArg some (by kernel_rfl))
 t0:=Tryz.underlying0
 a0:=Tryz.isAgg0
 z0:=Tryz.sizeOf0
 v0:=Tryz.zeroValue0
 t3:=Tryz.underlying3
 a3:=Tryz.isAgg3
 z3:=Tryz.sizeOf3
 v3:=Tryz.zeroValue3
 t4:=Tryz.underlying4
 a4:=Tryz.isAgg4
 z4:=Tryz.sizeOf4
 v4:=Tryz.zeroValue4
 t5:=Tryz.underlying5
 a5:=Tryz.isAgg5
 z5:=Tryz.sizeOf5
 v5:=Tryz.zeroValue5
 t9:=Tryz.underlying9
 a9:=Tryz.isAgg9
 z9:=Tryz.sizeOf9
 v9:=Tryz.zeroValue9
 t31:=Tryz.underlying44
 a31:=Tryz.isAgg44
 z31:=Tryz.sizeOf44
 v31:=Tryz.zeroValue44
 t46:=Tryz.underlying213
 a46:=Tryz.isAgg213
 z46:=Tryz.sizeOf213
 v46:=Tryz.zeroValue213
 t51:=Tryz.underlying152
 a51:=Tryz.isAgg152
 z51:=Tryz.sizeOf152
 v51:=Tryz.zeroValue152
 t53:=Tryz.underlying250
 a53:=Tryz.isAgg250
 z53:=Tryz.sizeOf250
 v53:=Tryz.zeroValue250
 t131:=Tryz.underlying132
 a131:=Tryz.isAgg132
 z131:=Tryz.sizeOf132
 v131:=Tryz.zeroValue132
 t182:=Tryz.underlying266
 a182:=Tryz.isAgg266
 z182:=Tryz.sizeOf266
 v182:=Tryz.zeroValue266
 t183:=Tryz.underlying267
 a183:=Tryz.isAgg267
 z183:=Tryz.sizeOf267
 v183:=Tryz.zeroValue267
 t218:=Tryz.underlying295
 a218:=Tryz.isAgg295
 z218:=Tryz.sizeOf295
 v218:=Tryz.zeroValue295
 t222:=Tryz.underlying299
 a222:=Tryz.isAgg299
 z222:=Tryz.sizeOf299
 v222:=Tryz.zeroValue299
 t228:=Tryz.underlying329
 a228:=Tryz.isAgg329
 z228:=Tryz.sizeOf329
 v228:=Tryz.zeroValue329
 t229:=Tryz.underlying330
 a229:=Tryz.isAgg330
 z229:=Tryz.sizeOf330
 v229:=Tryz.zeroValue330 }
open Go.Sort Go.RowKit in
theorem Tryz.slices_Sort_string (blk off cap : Nat) (ss : List (List UInt8)) (w : World) (hH : Holds encStr w blk off ss.toArray) (hblk : blk < w.heap.size) (hsz : ss.length < 4611686018427387904) :
  Calls Tryz.prog 107 #[.slice (some ⟨blk,off,none⟩) ss.length cap] w fun e w' =>
   e = .returned (.tuple #[])∧∃ n os,w' = grow (putRow encStr (Sort.ahead w n) blk off (ss.mergeSort fun x y => decide (x ≤ y)).toArray) os:=Any.slices_Sort_string Tryz.lays190 blk off cap ss w hH hblk hsz
def Tryz.lays99_ren : Go.Shelf.Ren:=⟨fun | 99 => 106 | 206 => 149 | n => n,fun | 9 => 9 | 4 => 4 | 3 => 3 | n => n,fun | n => n⟩
theorem Tryz.lays99 : Go.Proofs.Lays.n99 Tryz.prog Tryz.lays99_ren:={
 mixed:=by kernel_rfl
 f99:=Tryz.func106.trans (congrArg some (by kernel_rfl))
 f206:=Tryz.func149.trans (congrArg some (by kernel_rfl))
 t3:=Tryz.underlying3
 a3:=Tryz.isAgg3
 z3:=Tryz.sizeOf3
 v3:=Tryz.zeroValue3
 t4:=Tryz.underlying4
 a4:=Tryz.isAgg4
 z4:=Tryz.sizeOf4
 v4:=Tryz.zeroValue4
 t9:=Tryz.underlying9
 a9:=Tryz.isAgg9
 z9:=Tryz.sizeOf9
 v9:=Tryz.zeroValue9 }
open Go.RowKit Go.Lib in
theorem Tryz.strings_HasPrefix (s p : ByteArray) (w : World) :
  Calls Tryz.prog 106 #[.string s,.string p] w fun e w' => e = .returned (.bool (Lib.hasPrefix s.data.toList p.data.toList))∧w' = w:=Any.strings_HasPrefix Tryz.lays99 s p w
def Tryz.lays105_ren : Go.Shelf.Ren:=⟨fun | 105 => 262 | 212 => 283 | 99 => 106 | 165 => 284 | 166 => 285 | 170 => 286 | 169 => 287 | 263 => 305 | 264 => 306 | 206 => 149 | 240 => 307 | 241 => 308 | 276 => 317 | 277 => 318 | n => n,fun | 9 => 9 | 3 => 3 | 4 => 4 | 20 => 20 | 0 => 0 | 46 => 213 | 109 => 368 | 5 => 5 | 72 => 372 | 76 => 375 | 51 => 152 | 146 => 395 | 53 => 250 | 148 => 397 | 70 => 370 | 37 => 79 | 75 => 374 | 127 => 399 | 164 => 406 | 80 => 157 | n => n,fun | n => n⟩
theorem Tryz.lays105 : Go.Proofs.Lays.n105 Tryz.prog Tryz.lays105_ren:={
 mixed:=by kernel_rfl
 f99:=Tryz.func106.trans (congrArg some (by kernel_rfl))
 f105:=Tryz.func262.trans (congrArg some (by kernel_rfl))
 f165:=Tryz.func284.trans (congrArg some (by kernel_rfl))
 f166:=Tryz.func285.trans (congrArg some (by kernel_rfl))
 f169:=Tryz.func287.trans (congrArg some (by kernel_rfl))
 f170:=Tryz.func286.trans (congrArg some (by kernel_rfl))
 f206:=Tryz.func149.trans (congrArg some (by kernel_rfl))
 f212:=Tryz.func283.trans (congrArg some (by kernel_rfl))
 f240:=Tryz.func307.trans (congrArg some (by kernel_rfl))
 f241:=Tryz.func308.trans (congrArg some (by kernel_rfl))
 f263:=Tryz.func305.trans (congrArg some (by kernel_rfl))
 f264:=Tryz.func306.trans (congrArg some (by kernel_rfl))
 f276:=Tryz.func317.trans (congrArg some (by kernel_rfl))
 f277:=Tryz.func318.trans (congrArg some (by kernel_rfl))
 t0:=Tryz.underlying0
 a0:=Tryz.isAgg0
 z0:=Tryz.sizeOf0
 v0:=Tryz.zeroValue0
 t3:=Tryz.underlying3
 a3:=Tryz.isAgg3
 z3:=Tryz.sizeOf3
 v3:=Tryz.zeroValue3
 t4:=Tryz.underlying4
 a4:=Tryz.isAgg4
 z4:=Tryz.sizeOf4
 v4:=Tryz.zeroValue4
 t5:=Tryz.underlying5
 a5:=Tryz.isAgg5
 z5:=Tryz.sizeOf5
 v5:=Tryz.zeroValue5
 t9:=Tryz.underlying9
 a9:=Tryz.isAgg9
 z9:=Tryz.sizeOf9
 v9:=Tryz.zeroValue9
 t20:=Tryz.underlying20
 a20:=Tryz.isAgg20
 z20:=Tryz.sizeOf20
 v20:=Tryz.zeroValue20
 t37:=Tryz.underlying79
 a37:=Tryz.isAgg79
 z37:=Tryz.sizeOf79
 v37:=Tryz.zeroValue79
 t46:=Tryz.underlying213
 a46:=Tryz.isAgg213
 z46:=Tryz.sizeOf213
 v46:=Tryz.zeroValue213
 t51:=Tryz.underlying152
 a51:=Tryz.isAgg152
 z51:=Tryz.sizeOf152
 v51:=Tryz.zeroValue152
 t53:=Tryz.underlying250
 a53:=Tryz.isAgg250
 z53:=Tryz.sizeOf250
 v53:=Tryz.zeroValue250
 t70:=Tryz.underlying370
 a70:=Tryz.isAgg370
 z70:=Tryz.sizeOf370
 v70:=Tryz.zeroValue370
 t72:=Tryz.underlying372
 a72:=Tryz.isAgg372
 z72:=Tryz.sizeOf372
 v72:=Tryz.zeroValue372
 t75:=Tryz.underlying374
 a75:=Tryz.isAgg374
 z75:=Tryz.sizeOf374
 v75:=Tryz.zeroValue374
 t76:=Tryz.underlying375
 a76:=Tryz.isAgg375
 z76:=Tryz.sizeOf375
 v76:=Tryz.zeroValue375
 t109:=Tryz.underlying368
 a109:=Tryz.isAgg368
 z109:=Tryz.sizeOf368
 v109:=Tryz.zeroValue368
 t127:=Tryz.underlying399
 a127:=Tryz.isAgg399
 z127:=Tryz.sizeOf399
 v127:=Tryz.zeroValue399
 t146:=Tryz.underlying395
 a146:=Tryz.isAgg395
 z146:=Tryz.sizeOf395
 v146:=Tryz.zeroValue395
 t148:=Tryz.underlying397
 a148:=Tryz.isAgg397
 z148:=Tryz.sizeOf397
 v148:=Tryz.zeroValue397
 t164:=Tryz.underlying406
 a164:=Tryz.isAgg406
 z164:=Tryz.sizeOf406
 v164:=Tryz.zeroValue406 }
theorem Tryz.Builder_Extra_105 : Builder.Extra Tryz.prog Tryz.lays105_ren:={
 sizeBuilder:=by kernel_rfl
 liesBuilder:=by kernel_rfl
 t5:=Tryz.underlying5
 a5:=Tryz.isAgg5
 z5:=Tryz.sizeOf5
 v5:=Tryz.zeroValue5
 infoByte:=by kernel_rfl
 cellsByte:=by kernel_rfl
 sizeByte:=by kernel_rfl
 neB5:=by decide }
open Go.RowKit Go.Lib in
theorem Tryz.strings_Repeat (s : ByteArray) (c : Nat) (w : World) (hc : c ≤ 9223372036854775807) (hlen : s.size * c ≤ 140737488355328) :
  Calls Tryz.prog 262 #[.string s,.int .i64 c] w fun e w' => e = .returned (.string ⟨(Lib.repeatL s.data.toList c).toArray⟩)∧Below w.heap.size w w':=Any.strings_Repeat Tryz.lays105 Tryz.Builder_Extra_105 s c w hc hlen
open Go.RowKit Go.Sort in
theorem Tryz.slices_Sort_string_none (p : Option Addr) (cap : Nat) (w : World) :
  Calls Tryz.prog 107 #[.slice p 0 cap] w fun e w' => e = .returned (.tuple #[])∧w' = w:=Any.slices_Sort_string_none Tryz.lays190 p cap w
end Go.Proofs.YtagijldedngcoaaGreatDoor


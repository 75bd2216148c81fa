/-
  Contracts of the program and of the statements (part 1 of 28).
-/
import Derived.Test.YtagijldedngcoaaGreatDoorRows
import Derived.Tactics
import Derived.Tactics2
import Derived.Defers
import Derived.Laws.Pointers
import Derived.Laws.LoneSync
import Derived.Laws.NewBlocks
import Derived.RegionTactic
import Derived.RegionCalls
import Derived.ChangeAlike
import Derived.ProofKit
import Derived.WalkKit
import Derived.WalkSpells
import Derived.WalkLawsBesides
import Derived.Deep.QuietTactic
import Derived.BigQuiet
import Derived.Laws.Unary
import Derived.Deep.WholeRow
import Derived.Deep.MidRow
import Derived.Lib.LaidTab
import Derived.Lib.SliceRun
import Derived.Lib.BufferWrite
import Derived.Great.BuildSlice
import Derived.BigRegion
import Derived.Deep.RegionHeld3
set_option maxRecDepth 100000
set_option maxHeartbeats 800000

namespace Go.Proofs.YtagijldedngcoaaGreatDoor.Zq

def bigP : Nat:=0xc3a251ebb65bee77f87c3e1fcc6633da6df5b99f8c4623d269f7b85c2e17c8643219cfa45229d7a8542a15c9a79048241209c7a05028140a05c1a39249e7b0582c160bc663f279ffbc5e2fd46a35d9af944a25d1ab964be673fa7dfdbd9d8d8581838241e3b259efb45a2dd5a99788442211cba653ea75f9bf9c4e27d068341a0dc5a1938a45e1b39a4de5b19b8e47e070381c0e07c06030180c0603c261f3ba5dedb5998f844221d3aa55e9b7984c2613ca65f1bb9e4fe47239dfac562bd66bf67bfe7ffc7e3fdc6e37d86c361bce67f0783c1e0fc46231dbae57e8743a1dcda5918b8643e271fbbe5fec763bde6ff47a3dddad9589878040201008040201
def bigL : Nat:=0xb73ca33a17a587f6e53eed0f60b94b2e97f85d14fb895323c1a774479a19786f44110c3726efb034d84093b356e7ab82dc301ff28c4dd3e0ccbb7d29fe62c5698616a2b64a5fece452fa5c96779973c0af250b43aa5592d7d28b1edbc4fd7ccbeb49a18572765b5191a90aae7bc31dd15a71a0ea1c7a0990081b9f599d9c9e073b39a4f53d0eb82df7138822a646186e1036ee333fb2e6812ff14cdfba28616815b55ee3f99598bf244254d68adafcca48847550a8adc2d070e9798f1a589b0638f40d2c1221456d3532b180f0de2767b4e294be41d5d9c9834faccfe88e5705f32b206c317fdd66e1bdd4c84ece8d042a6b7e65bcc7cd036a64c60263010000
def pw (i : Nat) : Nat:=(bigP >>> (8 * i)) % 256
def lg (a : Nat) : Nat:=(bigL >>> (8 * a)) % 256
def part (a b : Nat) : Nat→Nat
 | 0 => 0
 | i + 1 => if b.testBit i then part a b i ^^^ (a <<< i) else part a b i
def red : Nat→Nat→Nat
 | 0,n => n
 | i + 1,n => if n.testBit (i + 8) then red i (n ^^^ (391 <<< i)) else red i n
def times (a b : Nat) : Nat:=red 8 (part a b 8)
def dbl (a : Nat) : Nat:=if a * 2 < 256 then a * 2 else (a * 2) ^^^ 391
def prod (a b : Nat) : Nat:=if a = 0 then 0 else if b = 0 then 0 else pw ((lg a + lg b) % 255)

def allB (p : Nat→Bool) : Nat→Bool
 | 0 => true
 | n + 1 => p n && allB p n
theorem allB_spec (p : Nat→Bool) : ∀ n,allB p n = true→∀ i,i < n→p i = true
 | 0,_,i,hi => absurd hi (Nat.not_lt_zero i)
 | n + 1,h,i,hi => by
  simp only [allB,Bool.and_eq_true] at h
  rcases Nat.lt_succ_iff_lt_or_eq.mp hi with h1 | h1
  ·exact allB_spec p n h.2 i h1
  ·rw [h1]; exact h.1

theorem c_lgpw : allB (fun i => Nat.beq (lg (pw i)) i) 255 = true:=by decide +kernel
theorem c_pwlg : allB (fun a => Nat.beq (pw (lg (a + 1))) (a + 1)) 255 = true:=by decide +kernel
theorem c_dbl : allB (fun i => Nat.beq (dbl (pw i)) (pw ((i + 1) % 255))) 255 = true:=by decide +kernel
theorem c_pos : allB (fun i => Nat.blt 0 (pw i)) 255 = true:=by decide +kernel
theorem c_lg : allB (fun i => Nat.blt (lg i) 255) 256 = true:=by decide +kernel

theorem lg_pw (i : Nat) (h : i < 255) : lg (pw i) = i:=Nat.eq_of_beq_eq_true (allB_spec _ _ c_lgpw i h)
theorem pw_lg (a : Nat) (h0 : a ≠ 0) (h : a < 256) : pw (lg a) = a:=by
 obtain ⟨b,rfl⟩ : ∃ b,a = b + 1:=⟨a - 1,by omega⟩
 exact Nat.eq_of_beq_eq_true (allB_spec _ _ c_pwlg b (by omega))
theorem dbl_pw (i : Nat) (h : i < 255) : dbl (pw i) = pw ((i + 1) % 255):=Nat.eq_of_beq_eq_true (allB_spec _ _ c_dbl i h)
theorem pw_lt (i : Nat) : pw i < 256:=Nat.mod_lt _ (by decide)
theorem pw_pos (i : Nat) (h : i < 255) : 0 < pw i:=by have:=allB_spec _ _ c_pos i h; simp [Nat.blt] at this; omega
theorem lg_lt (a : Nat) (h : a < 256) : lg a < 255:=by have:=allB_spec _ _ c_lg a h; simp [Nat.blt] at this; omega
theorem pw_ne (i : Nat) : pw (i % 255) ≠ 0:=Nat.pos_iff_ne_zero.1 (pw_pos _ (Nat.mod_lt _ (by decide)))

/-! ### Products by logarithms -/
theorem prod_lt (a b : Nat) : prod a b < 256:=by
 unfold prod
 split
 ·decide
 ·split
  ·decide
  ·exact pw_lt _
theorem prod_zero (a : Nat) : prod a 0 = 0:=by unfold prod; simp
theorem zero_prod (a : Nat) : prod 0 a = 0:=by unfold prod; simp
theorem prod_ne (a b : Nat) (ha : a ≠ 0) (hb : b ≠ 0) : prod a b = pw ((lg a + lg b) % 255):=by rw [prod,if_neg ha,if_neg hb]
theorem prod_pos (a b : Nat) (ha : a ≠ 0) (hb : b ≠ 0) : prod a b ≠ 0:=by rw [prod_ne a b ha hb]; exact pw_ne _
theorem lg_prod (a b : Nat) (ha : a ≠ 0) (hb : b ≠ 0) : lg (prod a b) = (lg a + lg b) % 255:=by rw [prod_ne a b ha hb,lg_pw _ (Nat.mod_lt _ (by decide))]
theorem prod_comm (a b : Nat) : prod a b = prod b a:=by
 by_cases ha : a = 0
 ·subst ha; rw [prod_zero,zero_prod]
 by_cases hb : b = 0
 ·subst hb; rw [prod_zero,zero_prod]
 rw [prod_ne a b ha hb,prod_ne b a hb ha,Nat.add_comm]
theorem prod_assoc (a b c : Nat) : prod (prod a b) c = prod a (prod b c):=by
 by_cases ha : a = 0
 ·subst ha; rw [zero_prod,zero_prod,zero_prod]
 by_cases hb : b = 0
 ·subst hb; rw [prod_zero,zero_prod,prod_zero]
 by_cases hc : c = 0
 ·subst hc; rw [prod_zero,prod_zero,prod_zero]
 rw [prod_ne _ c (prod_pos a b ha hb) hc,prod_ne a _ ha (prod_pos b c hb hc),lg_prod a b ha hb,lg_prod b c hb hc]
 congr 1; omega
theorem lg_one : lg 1 = 0:=by decide +kernel
theorem pw_zero : pw 0 = 1:=by decide +kernel
theorem prod_one (a : Nat) (h : a < 256) : prod a 1 = a:=by
 by_cases ha : a = 0
 ·subst ha; exact zero_prod _
 rw [prod_ne a 1 ha (by decide),lg_one,Nat.add_zero,Nat.mod_eq_of_lt (lg_lt a h),pw_lg a ha h]
def quot (a b : Nat) : Nat:=if a = 0 then 0 else pw ((255 + lg a - lg b) % 255)
theorem quot_lt (a b : Nat) : quot a b < 256:=by
 unfold quot
 split
 ·decide
 ·exact pw_lt _
theorem quot_prod (a b : Nat) (ha : a < 256) (hb : b < 256) (h0 : b ≠ 0) : prod (quot a b) b = a:=by
 by_cases h : a = 0
 ·subst h; exact zero_prod _
 have l1:=lg_lt a ha
 have l2:=lg_lt b hb
 have e : quot a b ≠ 0:=by rw [quot,if_neg h]; exact pw_ne _
 rw [prod_ne _ b e h0,quot,if_neg h,lg_pw _ (Nat.mod_lt _ (by decide))]
 rw [show ((255 + lg a - lg b) % 255 + lg b) % 255 = lg a by omega,pw_lg a h ha]
/-! ### Powers -/
/-! ### Products bit by bit are linear -/
theorem part_xor_l (a c b : Nat) : ∀ i,part (a ^^^ c) b i = part a b i ^^^ part c b i
 | 0 => by simp [part]
 | i + 1 => by
  simp only [part]
  split
  ·rw [part_xor_l a c b i,Nat.shiftLeft_xor_distrib]
   simp only [Nat.xor_assoc]
   congr 1
   rw [← Nat.xor_assoc,← Nat.xor_assoc,Nat.xor_comm (part c b i) (a <<< i)]
  ·exact part_xor_l a c b i
theorem part_xor_r (a b c : Nat) : ∀ i,part a (b ^^^ c) i = part a b i ^^^ part a c i
 | 0 => by simp [part]
 | i + 1 => by
  simp only [part,Nat.testBit_xor,part_xor_r a b c i]
  cases b.testBit i <;> cases c.testBit i
  ·simp
  ·simp [Nat.xor_assoc]
  ·simp only [Bool.xor_false,if_true,Bool.false_eq_true,if_false]
   rw [Nat.xor_assoc,Nat.xor_assoc,Nat.xor_comm (part a c i)]
  ·simp only [Bool.xor_true,Bool.not_true,Bool.false_eq_true,if_false,if_true]
   rw [Nat.xor_assoc,Nat.xor_comm (a <<< i),Nat.xor_assoc,Nat.xor_self,Nat.xor_zero]
theorem red_xor : ∀ i x y,red i (x ^^^ y) = red i x ^^^ red i y
 | 0,_,_ => rfl
 | i + 1,x,y => by
  simp only [red,Nat.testBit_xor]
  cases x.testBit (i + 8) <;> cases y.testBit (i + 8)
  ·simp [red_xor i]
  ·simp [red_xor i,Nat.xor_assoc]
  ·simp only [Bool.xor_false,if_true,Bool.false_eq_true,if_false]
   rw [← red_xor i,Nat.xor_assoc,Nat.xor_assoc,Nat.xor_comm y]
  ·simp only [Bool.xor_true,Bool.not_true,Bool.false_eq_true,if_false,if_true]
   rw [← red_xor i]
   congr 1
   rw [Nat.xor_assoc,Nat.xor_comm (391 <<< i),Nat.xor_assoc,Nat.xor_self,Nat.xor_zero]
theorem times_xor_l (a c b : Nat) : times (a ^^^ c) b = times a b ^^^ times c b:=by rw [times,part_xor_l,red_xor]; rfl
theorem times_xor_r (a b c : Nat) : times a (b ^^^ c) = times a b ^^^ times a c:=by rw [times,part_xor_r,red_xor]; rfl

theorem linear_eq (f g : Nat→Nat) (hf : ∀ x y,f (x ^^^ y) = f x ^^^ f y) (hg : ∀ x y,g (x ^^^ y) = g x ^^^ g y) :
  ∀ k,(∀ i,i < k→f (2 ^ i) = g (2 ^ i))→∀ a,a < 2 ^ k→f a = g a
 | 0,_,a,ha => by
  obtain rfl : a = 0:=by simpa using ha
  have h1:=hf 0 0
  have h2:=hg 0 0
  simp only [Nat.xor_self] at h1 h2
  rw [h1,h2]
 | k + 1,h,a,ha => by
  have ih:=linear_eq f g hf hg k (fun i hi => h i (by omega))
  by_cases h1 : a < 2 ^ k
  ·exact ih a h1
  ·have e : a = 2 ^ k ^^^ (a ^^^ 2 ^ k):=by rw [Nat.xor_comm a,← Nat.xor_assoc,Nat.xor_self,Nat.zero_xor]
   have hlt : a ^^^ 2 ^ k < 2 ^ k:=by
    obtain ⟨r,hr,hr2⟩ : ∃ r,a = 2 ^ k + r∧r < 2 ^ k:=⟨a - 2 ^ k,by omega,by rw [Nat.pow_succ] at ha; omega⟩
    have e2 : 2 ^ k + r = 2 ^ k ^^^ r:=by
     apply Nat.eq_of_testBit_eq
     intro i
     rw [Nat.testBit_xor]
     have e3:=Nat.testBit_two_pow_mul_add 1 hr2 i
     rw [Nat.mul_one] at e3
     rw [e3,Nat.testBit_two_pow]
     by_cases hi : i < k
     ·rw [if_pos hi,show decide (k = i) = false by simp; omega,Bool.false_xor]
     ·rw [if_neg hi,Nat.testBit_lt_two_pow (Nat.lt_of_lt_of_le hr2 (Nat.pow_le_pow_right (by decide) (Nat.le_of_not_lt hi))),Bool.xor_false]
      by_cases h5 : i = k
      ·subst h5; simp
      ·rw [show i - k = (i - k - 1) + 1 by omega]
       simp [Nat.testBit_succ]
       omega
    rw [hr,e2,Nat.xor_comm (2 ^ k),Nat.xor_assoc,Nat.xor_self,Nat.xor_zero]
    exact hr2
   rw [e,hf,hg,h k (by omega),ih _ hlt]

def dbl2 (x : Nat) : Nat:=red 8 (x <<< 1)
theorem dbl2_xor (x y : Nat) : dbl2 (x ^^^ y) = dbl2 x ^^^ dbl2 y:=by rw [dbl2,Nat.shiftLeft_xor_distrib,red_xor]; rfl
theorem c_dbl2 : allB (fun i => Nat.beq (dbl2 i) (dbl i)) 256 = true:=by decide +kernel
theorem dbl2_eq (i : Nat) (h : i < 256) : dbl2 i = dbl i:=Nat.eq_of_beq_eq_true (allB_spec _ _ c_dbl2 i h)
theorem c_basis : allB (fun i => allB (fun j => Nat.beq (times (dbl2 (2 ^ i)) (2 ^ j)) (dbl2 (times (2 ^ i) (2 ^ j)))) 8) 8 = true:=by decide +kernel
theorem times_dbl (a b : Nat) (ha : a < 256) (hb : b < 256) : times (dbl2 a) b = dbl2 (times a b):=by
 refine linear_eq (fun a => times (dbl2 a) b) (fun a => dbl2 (times a b)) (fun x y => by simp only [dbl2_xor,times_xor_l]) (fun x y => by simp only [dbl2_xor,times_xor_l]) 8 (fun i hi => ?_) a (by omega)
 refine linear_eq (fun b => times (dbl2 (2 ^ i)) b) (fun b => dbl2 (times (2 ^ i) b)) (fun x y => by simp only [times_xor_r]) (fun x y => by simp only [dbl2_xor,times_xor_r]) 8 (fun j hj => ?_) b (by omega)
 exact Nat.eq_of_beq_eq_true (allB_spec _ _ (allB_spec _ _ c_basis i hi) j hj)
theorem c_one : allB (fun b => Nat.beq (times 1 b) b) 256 = true:=by decide +kernel
theorem times_one_l (b : Nat) (hb : b < 256) : times 1 b = b:=Nat.eq_of_beq_eq_true (allB_spec _ _ c_one b hb)
theorem times_zero_l (b : Nat) : times 0 b = 0:=by
 have h:=times_xor_l 0 0 b
 simpa only [Nat.xor_self] using h
theorem times_zero_r (b : Nat) : times b 0 = 0:=by
 have h:=times_xor_r b 0 0
 simpa only [Nat.xor_self] using h
theorem times_pw (b : Nat) (hb : b < 256) (h0 : b ≠ 0) : ∀ n,n < 255→times (pw n) b = pw ((n + lg b) % 255)
 | 0,_ => by rw [pw_zero,times_one_l b hb,Nat.zero_add,Nat.mod_eq_of_lt (lg_lt b hb),pw_lg b h0 hb]
 | n + 1,h => by
  have ih:=times_pw b hb h0 n (by omega)
  have e : pw (n + 1) = dbl2 (pw n):=by rw [dbl2_eq _ (pw_lt _),dbl_pw n (by omega),Nat.mod_eq_of_lt h]
  rw [e,times_dbl _ _ (pw_lt _) hb,ih,dbl2_eq _ (pw_lt _),dbl_pw _ (Nat.mod_lt _ (by decide))]
  congr 1
  omega
theorem times_eq (a b : Nat) (ha : a < 256) (hb : b < 256) : times a b = prod a b:=by
 by_cases h1 : a = 0
 ·subst h1; rw [times_zero_l,zero_prod]
 by_cases h2 : b = 0
 ·subst h2; rw [times_zero_r,prod_zero]
 rw [prod_ne a b h1 h2,← times_pw b hb h2 (lg a) (lg_lt a ha),pw_lg a h1 ha]
theorem prod_xor (a b c : Nat) (ha : a < 256) (hb : b < 256) (hc : c < 256) : prod a (b ^^^ c) = prod a b ^^^ prod a c:=by
 have hx : b ^^^ c < 256:=Nat.xor_lt_two_pow (n:=8) hb hc
 rw [← times_eq a _ ha hx,times_xor_r,times_eq a b ha hb,times_eq a c ha hc]
theorem xor_prod (a b c : Nat) (ha : a < 256) (hb : b < 256) (hc : c < 256) : prod (a ^^^ b) c = prod a c ^^^ prod b c:=by
 rw [prod_comm,prod_xor c a b hc ha hb,prod_comm c a,prod_comm c b]

/-! ### The tables as they are made -/
def tab : Nat→Nat→Nat
 | 0,_ => 0
 | n + 1,i => if i = 510 + pw n then n else if i = n + 255 then pw n else if i = n then pw n else tab n i
theorem tab_spec (i : Nat) : ∀ n,n ≤ 255→tab n i = if i < n then pw i else if 255 ≤ i∧i < 255 + n then pw (i - 255) else if 510 < i∧i < 766∧lg (i - 510) < n then lg (i - 510) else 0
 | 0,_ => by rw [tab,if_neg (by omega),if_neg (by omega),if_neg (by omega)]
 | n + 1,h => by
  have ih:=tab_spec i n (by omega)
  have h1:=pw_pos n (by omega)
  have h2:=pw_lt n
  have h3:=lg_pw n (by omega)
  rw [tab]
  by_cases c1 : i = 510 + pw n
  ·rw [if_pos c1,if_neg (by omega),if_neg (by omega),show i - 510 = pw n by omega,h3,if_pos ⟨by omega,by omega,by omega⟩]
  rw [if_neg c1]
  by_cases c2 : i = n + 255
  ·rw [if_pos c2,if_neg (by omega),if_pos ⟨by omega,by omega⟩,show i - 255 = n by omega]
  rw [if_neg c2]
  by_cases c3 : i = n
  ·rw [if_pos c3,if_pos (by omega),c3]
  rw [if_neg c3,ih]
  by_cases c4 : i < n
  ·rw [if_pos c4,if_pos (by omega)]
  rw [if_neg c4,if_neg (show ¬ i < n + 1 by omega)]
  by_cases c5 : 255 ≤ i∧i < 255 + n
  ·rw [if_pos c5,if_pos (show 255 ≤ i∧i < 255 + (n + 1) by omega)]
  rw [if_neg c5,if_neg (show ¬ (255 ≤ i∧i < 255 + (n + 1)) by omega)]
  by_cases c6 : 510 < i∧i < 766∧lg (i - 510) < n
  ·rw [if_pos c6,if_pos ⟨c6.1,c6.2.1,by omega⟩]
  rw [if_neg c6,if_neg]
  rintro ⟨d1,d2,d3⟩
  have d4 : lg (i - 510) = n:=by
   have : ¬ lg (i - 510) < n:=fun h => c6 ⟨d1,d2,h⟩
   omega
  have d5:=pw_lg (i - 510) (by omega) (by omega)
  rw [d4] at d5
  omega
theorem lg_zero : lg 0 = 0:=by decide +kernel
theorem tab_pw (i : Nat) (h : i < 510) : tab 255 i = pw (i % 255):=by
 rw [tab_spec i 255 (Nat.le_refl _)]
 by_cases h1 : i < 255
 ·rw [if_pos h1,Nat.mod_eq_of_lt h1]
 ·rw [if_neg h1,if_pos (by omega),show i % 255 = i - 255 by omega]
theorem tab_lg (a : Nat) (h : a < 256) : tab 255 (510 + a) = lg a:=by
 rw [tab_spec _ 255 (Nat.le_refl _),if_neg (by omega),if_neg (by omega),show 510 + a - 510 = a by omega]
 by_cases h1 : a = 0
 ·subst h1; rw [if_neg (by omega),lg_zero]
 ·rw [if_pos ⟨by omega,by omega,lg_lt a h⟩]
end Go.Proofs.YtagijldedngcoaaGreatDoor.Zq

namespace Go.Proofs.YtagijldedngcoaaGreatDoor.Zq
open Go.RowKit

theorem disable (w : World) : (callFunc 340 #[]).run Tryz.prog w = .ok (.value (.tuple #[])) w:=run_call_mark0 Tryz.func340 (by kernel_rfl) (by kernel_rfl) (by kernel_rfl) .disable (by kernel_rfl) w
theorem enable (w : World) : (callFunc 342 #[]).run Tryz.prog w = .ok (.value (.tuple #[])) w:=run_call_mark0 Tryz.func342 (by kernel_rfl) (by kernel_rfl) (by kernel_rfl) .enable (by kernel_rfl) w
theorem acquire (a : Addr) (w : World) : (callFunc 343 #[.pointer (some a)]).run Tryz.prog w = .ok (.value (.tuple #[])) w:=run_call_marked Tryz.func343 (by kernel_rfl) (by kernel_rfl) (by kernel_rfl) .acquire (by kernel_rfl) a w
theorem releaseMerge (a : Addr) (w : World) : (callFunc 345 #[.pointer (some a)]).run Tryz.prog w = .ok (.value (.tuple #[])) w:=run_call_marked Tryz.func345 (by kernel_rfl) (by kernel_rfl) (by kernel_rfl) .releaseMerge (by kernel_rfl) a w

theorem store_deferred (a : Addr) (x : Value) (u : FrameMode) (w : World) (hc : w.cell? a = some x) (hz : w.frozen? a = false) :
  CallsD Tryz.prog 327 #[.pointer (some a),.bool true] u w fun e u' w' => u' = u∧(e = .returned (.tuple #[])∧w' = w.drew.setCell a (.int .u32 1)):=by
 have hc' : w.drew.cell? a = some x:=by go_simp
 have hz' : w.drew.frozen? a = false:=by go_simp
 have hst:=run_call_store (P:=Tryz.prog) Tryz.func335 (by kernel_rfl) (by kernel_rfl) (by kernel_rfl) (by kernel_rfl) (k:=.u32) (y:=1) hc' hz'
 go_enter_d Tryz.func327,Tryz.ntmps327
 go_wp2
 go_region_calls
 all_goals (go_end0; exact ⟨rfl,rfl⟩)

theorem unlock_deferred (a : Addr) (u : FrameMode) (w : World) (hc : w.cell? a = some (.int .i32 1)) (hz : w.frozen? a = false) :
  CallsD Tryz.prog 326 #[.pointer (some a)] u w fun e u' w' => u' = u∧(e = .returned (.tuple #[])∧w' = w.setCell a (.int .i32 0)):=by
 have hd:=disable
 have he:=enable
 have hr:=releaseMerge
 have hadd:=run_call_add (P:=Tryz.prog) Tryz.func346 (by kernel_rfl) (by kernel_rfl) (by kernel_rfl) .i32 (by kernel_rfl) (y:=-1) (s:=0) hc hz (by simp [go_sem]; rfl)
 have hcv:=run_convert_to_unsafe (P:=Tryz.prog) (src:=425) (dst:=406) Tryz.underlying425 Tryz.underlying406 (by kernel_rfl) hc
 go_enter_d Tryz.func326,Tryz.ntmps326
 go_wp2
 go_end0
 go_wp2
 go_end0
 exact ⟨rfl,rfl⟩

theorem lock_free (a : Addr) (w : World) (hc : w.cell? a = some (.int .i32 0)) (hz : w.frozen? a = false) :
  Calls Tryz.prog 325 #[.pointer (some a)] w fun e w' => e = .returned (.tuple #[])∧w' = w.setCell a (.int .i32 1):=by
 have hd:=disable
 have he:=enable
 have ha:=acquire
 have hcas:=run_call_cas_hit (P:=Tryz.prog) Tryz.func341 (by kernel_rfl) (by kernel_rfl) (by kernel_rfl) .i32 (by kernel_rfl) (y:=1) hc hz
 have hc' : (w.setCell a (.int .i32 1)).cell? a = some (.int .i32 1):=World.cell?_setCell_same w a _ hc
 have hcv:=run_convert_to_unsafe (P:=Tryz.prog) (src:=425) (dst:=406) Tryz.underlying425 Tryz.underlying406 (by kernel_rfl) hc'
 go_enter Tryz.func325,Tryz.ntmps325
 go_wp2
 first | go_end0 | (simp only [Exit.inBlock,Exit.then]; refine bodyPost_ret (results_none rfl _ _ _) rfl ?_) | refine bodyPost_ret (results_none rfl _ _ _) rfl ?_
 go_wp2
 go_end0
 exact ⟨rfl,rfl⟩

theorem load_any (a : Addr) (x : Int) (w : World) (hc : w.cell? a = some (.int .u32 x)) :
  Calls Tryz.prog 314 #[.pointer (some a)] w fun e w' => e = .returned (.bool (x != 0))∧w' = w:=by
 have hl:=run_call_load (P:=Tryz.prog) Tryz.func324 (by kernel_rfl) (by kernel_rfl) (by kernel_rfl) .u32 (by kernel_rfl) (w:=w) (a:=a) (x:=x) hc
 go_enter Tryz.func314,Tryz.ntmps314
 go_wp2
 go_ret
 exact ⟨rfl,rfl⟩
end Go.Proofs.YtagijldedngcoaaGreatDoor.Zq

namespace Go.Proofs.YtagijldedngcoaaGreatDoor.Zq
open Go.RowKit Go.Lib

/-! ### Xor of small numbers -/
theorem wraps_i64 (n : Int) (h₀ : 0 ≤ n) (h₁ : n < 2 ^ 62) : IntKind.i64.wrap n = n:=by rw [IntKind.wrap_i64]; omega
theorem wraps_u8 (n : Int) (h₀ : 0 ≤ n) (h₁ : n < 2 ^ 8) : IntKind.u8.wrap n = n:=by rw [IntKind.wrap_u8]; omega
theorem xor_nat (k : IntKind) (j : Nat) (hj : j ≤ k.bits) (hk : ∀ (n : Int),0 ≤ n→n < 2 ^ j→k.wrap n = n) (a b : Nat) (ha : a < 2 ^ j) (hb : b < 2 ^ j) :
  bits .xor k (a : Int) (b : Int) = ((a ^^^ b : Nat) : Int):=by
 have hp : 2 ^ j ≤ 2 ^ k.bits:=Nat.pow_le_pow_right (by decide) hj
 have hx : a ^^^ b < 2 ^ j:=Nat.xor_lt_two_pow ha hb
 have hm : (a ^^^ b) % 2 ^ k.bits = a ^^^ b:=Nat.mod_eq_of_lt (by omega)
 have ea : BitVec.ofInt k.bits (a : Int) = BitVec.ofNat k.bits a:=by simp
 have eb : BitVec.ofInt k.bits (b : Int) = BitVec.ofNat k.bits b:=by simp
 have : bits .xor k (a : Int) (b : Int) = k.wrap ((BitVec.ofInt k.bits (a : Int) ^^^ BitVec.ofInt k.bits (b : Int)).toNat : Int):=rfl
 rw [this,ea,eb,BitVec.toNat_xor,BitVec.toNat_ofNat,BitVec.toNat_ofNat,Nat.mod_eq_of_lt (by omega),Nat.mod_eq_of_lt (by omega)]
 exact hk _ (by omega) (by exact_mod_cast hx)
theorem xor_i64 (a b : Nat) (ha : a < 2 ^ 62) (hb : b < 2 ^ 62) : bits .xor .i64 (a : Int) (b : Int) = ((a ^^^ b : Nat) : Int):=xor_nat .i64 62 (by decide) wraps_i64 a b ha hb
theorem xor_u8 (a b : Nat) (ha : a < 256) (hb : b < 256) : bits .xor .u8 (a : Int) (b : Int) = ((a ^^^ b : Nat) : Int):=xor_nat .u8 8 (by decide) wraps_u8 a b ha hb

/-! ### Growth -/
section
variable {w w' : World} {b : Nat}
theorem gb_refl (w : World) (row : Option Nat) : w.grownBy w row:=⟨rfl,rfl,rfl,Nat.le_refl _,fun _ _ _ => rfl⟩
theorem gb_set (w : World) (b j : Nat) (u : Value) : w.grownBy (w.setCell ⟨b,j,none⟩ u) (some b) :=
 ⟨rfl,rfl,rfl,by simp,fun k _ hk => heap_setCell_other w ⟨b,j,none⟩ k u (fun e => hk (by simp [e]))⟩
theorem gb_below (h : Below w.heap.size w w') (row : Option Nat) : w.grownBy w' row:=⟨h.os,h.tape,h.output,h.size,fun k hk _ => h.block k hk⟩
theorem gb_trans {w1 w2 : World} {row : Option Nat} (h : w.grownBy w1 row) (k : w1.grownBy w2 row) : w.grownBy w2 row :=
 ⟨k.os.trans h.os,k.tape.trans h.tape,k.output.trans h.output,Nat.le_trans h.size k.size,fun i hi hne => (k.block i (Nat.lt_of_lt_of_le hi h.size) hne).trans (h.block i hi hne)⟩
theorem gb_drewN {w1 : World} {row : Option Nat} (h : w.grownBy w1 row) (n : Nat) : w.grownBy (w1.drewN n) row:=⟨h.os,h.tape,h.output,h.size,h.block⟩
theorem below_drew {B : Nat} (h : Below B w w') (n : Nat) : Below B w (w'.drewN n):=⟨h.os,h.tape,h.output,h.size,h.block⟩
theorem below_gb {w1 : World} {B : Nat} (h : Below B w w') (hg : w'.grownBy w1 (some b)) (hb : B ≤ b) (hB : B ≤ w'.heap.size) : Below B w w1 :=
 h.grown hg hB (fun k hk => by cases hk; exact hb)
theorem below_step {w9 w' w'' : World} (h : Below w9.heap.size w9 w') (k : Below w'.heap.size w' w'') : Below w9.heap.size w9 w'':=h.trans (k.mono h.size)
theorem below_alloc {w9 w' : World} (h : Below w9.heap.size w9 w') (o : Obj) : Below w9.heap.size w9 (w'.alloc o):=h.alloc h.size o
end

/-! ### A block's cells as a list -/
theorem heap_set_list {w : World} {b o : Nat} {c : List Value} {T : TypeId} {fr : Nat × Nat} (v : Value) (h : w.heap[b]? = some (.cells c.toArray T fr)) : (w.setCell ⟨b,o,none⟩ v).heap[b]? = some (.cells (c.set o v).toArray T fr):=by
 rw [setCell_eq_setRow w b o _ T fr v h,setRow_heap w b _ _ T fr h]
 simp
theorem cell_ne (w : World) (g i k : Nat) (u : Value) (h : k ≠ i) : (w.setCell ⟨g,i,none⟩ u).cell? ⟨g,k,none⟩ = w.cell? ⟨g,k,none⟩:=by
 have:=World.cell?_setCells_out g [u] i w ⟨g,k,none⟩ (fun _ _ => by simp; omega)
 exact this

/-! ### The tables -/
def tabCells (n : Nat) : List Value:=(List.range 766).map fun i => .int .u8 ((tab n i : Nat) : Int)
theorem tabCells_get (n i : Nat) (h : i < 766) : (tabCells n)[i]? = some (.int .u8 ((tab n i : Nat) : Int)):=by
 rw [tabCells,List.getElem?_map,List.getElem?_range h]
 rfl
theorem tabCells_length (n : Nat) : (tabCells n).length = 766:=by simp [tabCells]
theorem tabCells_step (n : Nat) (hn : n < 255) : (((tabCells n).set n (.int .u8 ((pw n : Nat) : Int))).set (n + 255) (.int .u8 ((pw n : Nat) : Int))).set (510 + pw n) (.int .u8 (n : Int)) = tabCells (n + 1):=by
 have hp:=pw_lt n
 apply List.ext_getElem?
 intro i
 by_cases hi : i < 766
 ·rw [tabCells_get (n + 1) i hi,tab]
  simp only [List.getElem?_set,List.length_set,tabCells_length,tabCells_get n i hi]
  by_cases c1 : 510 + pw n = i
  ·rw [if_pos c1,if_pos (by omega),if_pos c1.symm]
  rw [if_neg c1,if_neg (show ¬ i = 510 + pw n from fun h => c1 h.symm)]
  by_cases c2 : n + 255 = i
  ·rw [if_pos c2,if_pos (by omega),if_pos c2.symm]
  rw [if_neg c2,if_neg (show ¬ i = n + 255 from fun h => c2 h.symm)]
  by_cases c3 : n = i
  ·rw [if_pos c3,if_pos (by omega),if_pos c3.symm]
  rw [if_neg c3,if_neg (show ¬ i = n from fun h => c3 h.symm)]
 ·rw [List.getElem?_eq_none (by simp [tabCells_length]; omega),List.getElem?_eq_none (by simp [tabCells_length]; omega)]

def TB (w : World) (t : Nat) : Prop:=w.heap[t]? = some (.cells (tabCells 255).toArray 394 (0,0))
section
variable {w w' : World} {t : Nat}
theorem TB.lt (h : TB w t) : t < w.heap.size:=lt_of_block h
theorem TB.pw (h : TB w t) (i : Nat) (hi : i < 510) : w.cell? ⟨t,i,none⟩ = some (.int .u8 ((pw (i % 255) : Nat) : Int)):=by
 rw [cell_of_row w t i _ _ _ h,← tab_pw i hi]
 simpa using tabCells_get 255 i (by omega)
theorem TB.lg (h : TB w t) (a : Nat) (ha : a < 256) : w.cell? ⟨t,510 + a,none⟩ = some (.int .u8 ((lg a : Nat) : Int)):=by
 rw [cell_of_row w t _ _ _ _ h,← tab_lg a ha]
 simpa using tabCells_get 255 (510 + a) (by omega)
theorem TB.of_block (h : TB w t) (hb : w'.heap[t]? = w.heap[t]?) : TB w' t:=hb.trans h
end

/-! ### A field -/
def fCells (d : Int) (m : Value) : List Value:=[.int .u32 d,.int .i32 0,.int .u32 0,m]
def FB (w : World) (b : Nat) (d : Int) (m : Value) : Prop:=w.heap[b]? = some (.cells (fCells d m).toArray 354 (0,0))
def F (w : World) (b : Nat) : Prop:=FB w b 0 (.pointer none) ∨ ∃ t,t ≠ b∧FB w b 1 (.pointer (some ⟨t,0,none⟩))∧TB w t
section
variable {w w' : World} {b : Nat} {d : Int} {m : Value}
theorem FB.lt (h : FB w b d m) : b < w.heap.size:=lt_of_block h
theorem FB.cell0 (h : FB w b d m) : w.cell? ⟨b,0,none⟩ = some (.int .u32 d):=by rw [cell_of_row w b 0 _ _ _ h]; rfl
theorem FB.cell1 (h : FB w b d m) : w.cell? ⟨b,1,none⟩ = some (.int .i32 0):=by rw [cell_of_row w b 1 _ _ _ h]; rfl
theorem FB.cell3 (h : FB w b d m) : w.cell? ⟨b,3,none⟩ = some m:=by rw [cell_of_row w b 3 _ _ _ h]; rfl
theorem FB.free (h : FB w b d m) (j : Nat) : w.frozen? ⟨b,j,none⟩ = false:=frozen_of_row w b j _ _ h
theorem FB.of_block (h : FB w b d m) (hb : w'.heap[b]? = w.heap[b]?) : FB w' b d m:=hb.trans h
theorem F.lt (h : F w b) : b < w.heap.size:=by
 rcases h with h | ⟨_,_,h,_⟩
 ·exact h.lt
 ·exact h.lt
theorem F.below (h : F w b) {B : Nat} (hb : Below B w w') (hB : w.heap.size ≤ B) : F w' b:=by
 rcases h with h | ⟨t,h1,h2,h3⟩
 ·exact .inl (h.of_block (hb.block b (Nat.lt_of_lt_of_le h.lt hB)))
 ·exact .inr ⟨t,h1,h2.of_block (hb.block b (Nat.lt_of_lt_of_le h2.lt hB)),h3.of_block (hb.block t (Nat.lt_of_lt_of_le h3.lt hB))⟩
theorem F.drew (h : F w b) : F w.drew b:=h
theorem F.set (h : F w b) {c : Nat} {cs : Array Value} {T : TypeId} {fr : Nat × Nat} (hc : w.heap[c]? = some (.cells cs T fr)) (h1 : T ≠ 354) (h2 : T ≠ 394) (hg : w.grownBy w' (some c)) : F w' b:=by
 have ne : ∀ k cs' T' fr',w.heap[k]? = some (.cells cs' T' fr')→T ≠ T'→k ≠ c:=by
  intro k cs' T' fr' hk hT e
  subst e
  rw [hc] at hk
  simp at hk
  exact hT hk.2.1
 rcases h with h | ⟨t,h3,h4,h5⟩
 ·exact .inl (h.of_block (hg.block b h.lt (by simp; exact ne _ _ _ _ h h1)))
 ·exact .inr ⟨t,h3,h4.of_block (hg.block b h4.lt (by simp; exact ne _ _ _ _ h4 h1)),h5.of_block (hg.block t h5.lt (by simp; exact ne _ _ _ _ h5 h2))⟩
end
end Go.Proofs.YtagijldedngcoaaGreatDoor.Zq

namespace Go.Proofs.YtagijldedngcoaaGreatDoor.Zq
open Go.RowKit Go.Lib

theorem double_any (a : Nat) (ha : a < 256) (w : World) :
  Calls Tryz.prog 316 #[.int .i64 a] w fun e w' => e = .returned (.int .i64 ((dbl a : Nat) : Int))∧w' = w:=by
 by_cases h : a * 2 < 256
 ·rw [dbl,if_pos h]
  have h' : ¬ (256 : Int) ≤ (a : Int) * 2:=by omega
  go_enter Tryz.func316,Tryz.ntmps316
  go_wp2
  go_ret
  exact ⟨by go_num,rfl⟩
 ·have hx:=xor_i64 (a * 2) 391 (by omega) (by decide)
  rw [dbl,if_neg h]
  have h' : (256 : Int) ≤ (a : Int) * 2:=by omega
  go_enter Tryz.func316,Tryz.ntmps316
  go_wp2
  go_ret
  refine ⟨?_,rfl⟩
  rw [← hx]
  rfl

theorem make_any (w : World) :
  Calls Tryz.prog 304 #[] w fun e w' => e = .returned (.pointer (some ⟨w.heap.size,0,none⟩))∧TB w' w.heap.size∧Below w.heap.size w w':=by
 go_enter Tryz.func304,Tryz.ntmps304
 go_wp2_with (refine wpList_buildTo rfl 394 _ rfl _ rfl (tabCells 0).toArray (by kernel_rfl) ?_)
 have hc1 : (w.alloc (.cells (tabCells 0).toArray 394)).heap[w.heap.size]? = some (.cells (tabCells 0).toArray 394 (0,0)):=heap_alloc_new w _
 have hb1 : Below w.heap.size w (w.alloc (.cells (tabCells 0).toArray 394)):=(Below.refl _ _).alloc (Nat.le_refl _) _
 go_loopw [2,6] (fun p i wr => ∃ n : Nat,n ≤ 255∧p = .int .i64 ((pw (n % 255) : Nat) : Int)∧i = .int .i64 n∧wr.heap[w.heap.size]? = some (.cells (tabCells n).toArray 394 (0,0))∧Below w.heap.size w wr)
  (fun _ i _ => 255 - (RowKit.intOf i).toNat)
 case atStart => exact ⟨0,by omega,by rw [Nat.zero_mod,pw_zero]; rfl,rfl,hc1,hb1⟩
 case round =>
  clear hc1 hb1
  obtain ⟨n,hn,rfl,rfl,hc,hb⟩:=hrel
  by_cases hlt : n < 255
  ·have hp1:=pw_lt n
   have hD:=double_any (pw n) hp1
   rw [dbl_pw n hlt] at hD
   have R:=tabCells_step n hlt
   have hm : n % 255 = n:=Nat.mod_eq_of_lt hlt
   rw [hm]
   have h1:=fun u : Value => heap_set_list (o:=n) u hc
   have h2:=fun u v : Value => heap_set_list (o:=n + 255) v (h1 u)
   have h3:=h2 (.int .u8 ((pw n : Nat) : Int)) (.int .u8 ((pw n : Nat) : Int))
   have h4:=heap_set_list (o:=510 + pw n) (.int .u8 (n : Int)) h3
   rw [R] at h4
   have k1 : wr.cell? ⟨w.heap.size,n,none⟩ = some (.int .u8 ((tab n n : Nat) : Int)):=by
    rw [cell_of_row wr _ n _ _ _ hc]
    simpa using tabCells_get n n (by omega)
   have f1:=frozen_of_row wr _ n _ _ hc
   have k2 : ∀ u,(wr.setCell ⟨w.heap.size,n,none⟩ u).cell? ⟨w.heap.size,n + 255,none⟩ = some (.int .u8 ((tab n (n + 255) : Nat) : Int)):=fun u => by
    rw [cell_ne _ _ _ _ _ (by omega),cell_of_row wr _ _ _ _ _ hc]
    simpa using tabCells_get n (n + 255) (by omega)
   have f2:=fun u => frozen_of_row _ _ (n + 255) _ _ (h1 u)
   have k3 : ∀ u v,((wr.setCell ⟨w.heap.size,n,none⟩ u).setCell ⟨w.heap.size,n + 255,none⟩ v).cell? ⟨w.heap.size,510 + pw n,none⟩ = some (.int .u8 ((tab n (510 + pw n) : Nat) : Int)):=fun u v => by
    rw [cell_ne _ _ _ _ _ (by omega),cell_ne _ _ _ _ _ (by omega),cell_of_row wr _ _ _ _ _ hc]
    simpa using tabCells_get n (510 + pw n) (by omega)
   have f3:=fun u v => frozen_of_row _ _ (510 + pw n) _ _ (h2 u v)
   have HR : Hid _:=h4
   have HB : Hid _:=hb
   have HD : Hid _:=hD
   clear R h1 h2 h3 h4 hb hD hm hc
   generalize tab n n = x1 at *
   generalize tab n (n + 255) = x2 at *
   generalize tab n (510 + pw n) = x3 at *
   generalize pw n = p at *
   have b0 : (0 : Int) ≤ (n : Int):=by omega
   have b1 : (n : Int) < 510:=by omega
   have b2 : (0 : Int) ≤ (n : Int) + 255:=by omega
   have b3 : (n : Int) + 255 < 510:=by omega
   have b4 : (0 : Int) ≤ (p : Int):=by omega
   have b5 : (p : Int) < 256:=by omega
   go_wp2_with fail
   refine (HD.out _).mono ?_
   rintro e w2 ⟨rfl,rfl⟩
   go_wp2
   go_roundw
   case rel => exact ⟨n + 1,by omega,rfl,by go_num,HR.out,((HB.out.setCell (by simp) _).setCell (by simp) _).setCell (by simp) _⟩
   case measure => simp [RowKit.intOf]; omega
  ·obtain rfl : n = 255:=by omega
   rw [show ((255 : Nat) : Int) = 255 from rfl]
   have HC : Hid _:=hc
   have HB : Hid _:=hb
   clear hc hb
   go_wp2
   go_ret
   exact ⟨rfl,HC.out,HB.out⟩

end Go.Proofs.YtagijldedngcoaaGreatDoor.Zq

namespace Go.Proofs.YtagijldedngcoaaGreatDoor.Zq
open Go.RowKit Go.Lib

theorem cell_congr {w w' : World} {b o : Nat} (h : w'.heap[b]? = w.heap[b]?) : w'.cell? ⟨b,o,none⟩ = w.cell? ⟨b,o,none⟩:=by simp [World.cell?,h]
theorem below_undrew {w w' : World} (h : Below w.drew.heap.size w.drew w') : Below w.heap.size w w':=⟨h.os,h.tape,h.output,h.size,h.block⟩
theorem kept_pl {w w' : World} {pl : Addr} {v : Value} (h : Below w.heap.size w w') (hl : pl.block < w.heap.size) (hp : w.cell? pl = some v) : w'.cell? pl = some v:=(h.cell hl).trans hp

theorem maker_world {w w' : World} {b : Nat} {x0 x1 x2 : Value} (hB : w.heap[b]? = some (.cells [x0,x1,x2,.pointer none].toArray 354 (0,0))) (hT : TB w' w.heap.size) (hbel : Below w.heap.size w w') :
  ∃ t,t ≠ b∧(w'.setCell ⟨b,3,none⟩ (.pointer (some ⟨w.heap.size,0,none⟩))).heap[b]? = some (.cells [x0,x1,x2,.pointer (some ⟨t,0,none⟩)].toArray 354 (0,0))∧TB (w'.setCell ⟨b,3,none⟩ (.pointer (some ⟨w.heap.size,0,none⟩))) t ∧
   w.grownBy (w'.setCell ⟨b,3,none⟩ (.pointer (some ⟨w.heap.size,0,none⟩))) (some b):=by
 have hlt:=lt_of_block hB
 have hB':=(hbel.block b hlt).trans hB
 refine ⟨w.heap.size,by omega,heap_set_list _ hB',hT.of_block (heap_setCell_other _ _ _ _ (by simp; omega)),gb_trans (gb_below hbel _) (gb_set _ _ _ _)⟩

theorem maker_any {w : World} {b : Nat} {pl : Addr} {x0 x1 x2 : Value} (hB : w.heap[b]? = some (.cells [x0,x1,x2,.pointer none].toArray 354 (0,0))) (hl : pl.block < w.heap.size) (hp : w.cell? pl = some (.pointer (some ⟨b,0,none⟩))) :
  Calls Tryz.prog 303 #[.pointer (some pl)] w fun e w' => e = .returned (.tuple #[])∧∃ t,t ≠ b∧w'.heap[b]? = some (.cells [x0,x1,x2,.pointer (some ⟨t,0,none⟩)].toArray 354 (0,0))∧TB w' t∧w.grownBy w' (some b):=by
 have hlt:=lt_of_block hB
 have c3 : w.cell? ⟨b,3,none⟩ = some (.pointer none):=by rw [cell_of_row w b 3 _ _ _ hB]; rfl
 have f3:=frozen_of_row w b 3 _ _ hB
 have HB : Hid _:=hB
 clear hB
 go_enter Tryz.func303,Tryz.ntmps303
 go_wp2_with fail
 go_region_with (go_at_call 304; refine (make_any _).mono ?_; rintro e w' ⟨rfl,hT,hbel⟩; have e1:=kept_pl hbel hl hp; have e3:=kept_pl (pl:=⟨b,3,none⟩) hbel hlt c3; have e4:=(hbel.frozen (p:=⟨b,3,none⟩) hlt).trans f3)
 all_goals
  go_end0
  refine ⟨rfl,maker_world HB.out hT (below_undrew hbel)⟩

theorem slow_any {w : World} {b : Nat} {pl : Addr} (hF : FB w b 0 (.pointer none)) (hpb : ¬ b = pl.block) (hpl : pl.block < w.heap.size) (hp : w.cell? pl = some (.pointer (some ⟨b,0,none⟩))) :
  Calls Tryz.prog 315 #[.pointer (some ⟨b,0,none⟩),.func (.func 303) #[] #[.pointer (some pl)]] w fun e w' => e = .returned (.tuple #[])∧∃ t,t ≠ b∧FB w' b 1 (.pointer (some ⟨t,0,none⟩))∧TB w' t∧w.grownBy w' (some b):=by
 have hlt:=hF.lt
 have c0:=hF.cell0
 have c1:=hF.cell1
 have c3:=hF.cell3
 have f1:=hF.free 1
 have hnot : ∀ (x : Bool) (w : World),(Op.unary .not (.bool x)).run Tryz.prog w = .ok (.bool (!x)) w:=fun _ _ => rfl
 have d0 : (w.setCell ⟨b,1,none⟩ (.int .i32 1)).cell? ⟨b,0,none⟩ = some (.int .u32 0):=(cell_ne w b 1 0 _ (by decide)).trans c0
 have d3 : (w.setCell ⟨b,1,none⟩ (.int .i32 1)).cell? ⟨b,3,none⟩ = some (.pointer none):=(cell_ne w b 1 3 _ (by decide)).trans c3
 have dp : (w.setCell ⟨b,1,none⟩ (.int .i32 1)).cell? pl = some (.pointer (some ⟨b,0,none⟩)):=(World.cell?_setCell_other _ ⟨b,1,none⟩ pl _ (fun h => hpb (by rw [← h]))).trans hp
 go_enter_defers Tryz.func315,Tryz.ntmps315
 go_wp2_with fail
 refine (lock_free ⟨b,1,none⟩ _ c1 f1).mono ?_
 rintro e w1 ⟨rfl,rfl⟩
 go_wp2_with fail
 refine (load_any _ 0 _ d0).mono ?_
 rintro e w1 ⟨rfl,rfl⟩
 go_wp2_with fail
 refine (maker_any (heap_set_list _ hF) (by simpa using hpl) dp).mono ?_
 rintro e w2 ⟨rfl,t,ht,hb2,hT2,hg2⟩
 go_wp2
 have s0 : w2.cell? ⟨b,0,none⟩ = some (.int .u32 0):=by rw [cell_of_row w2 b 0 _ _ _ hb2]; rfl
 have g0:=frozen_of_row w2 b 0 _ _ hb2
 have hb3 : (w2.drew.setCell ⟨b,0,none⟩ (.int .u32 1)).heap[b]? = _:=heap_set_list (w:=w2.drew) (o:=0) (.int .u32 1) hb2
 have s1 : (w2.drew.setCell ⟨b,0,none⟩ (.int .u32 1)).cell? ⟨b,1,none⟩ = some (.int .i32 1):=by rw [cell_of_row _ b 1 _ _ _ hb3]; rfl
 have g1:=frozen_of_row _ b 1 _ _ hb3
 refine leaves_cons (f:=327) (args:=#[.pointer (some ⟨b,0,none⟩),.bool true]) (by simp) (by simp [go_sem]) ?_
 refine (store_deferred ⟨b,0,none⟩ (.int .u32 0) .returning _ s0 g0).mono ?_
 rintro e u' w'' ⟨rfl,rfl,rfl⟩
 refine leaves_cons (f:=326) (args:=#[.pointer (some ⟨b,1,none⟩)]) (by simp [settle]) (by simp [go_sem]) ?_
 refine (unlock_deferred ⟨b,1,none⟩ _ _ s1 g1).mono ?_
 rintro e u' w'' ⟨rfl,rfl,rfl⟩
 simp only [Leaves,settle,results,Tryz.results315]
 have hb4:=heap_set_list (o:=1) (.int .i32 0) hb3
 have hT4 : TB ((w2.drew.setCell ⟨b,0,none⟩ (.int .u32 1)).setCell ⟨b,1,none⟩ (.int .i32 0)) t:=hT2.of_block (by rw [heap_setCell_other _ _ _ _ (by simp; exact ht),heap_setCell_other _ _ _ _ (by simp; exact ht)]; rfl)
 have hg4 : w.grownBy ((w2.drew.setCell ⟨b,0,none⟩ (.int .u32 1)).setCell ⟨b,1,none⟩ (.int .i32 0)) (some b):=gb_trans (gb_trans (gb_set _ _ _ _) hg2) (gb_trans (gb_trans (gb_drewN (gb_refl w2 _) 1) (gb_set _ _ _ _)) (gb_set _ _ _ _))
 simp
 exact ⟨t,ht,hb4,hT4,hg4⟩

theorem do_done {w : World} {b : Nat} {m fv : Value} (hF : FB w b 1 m) :
  Calls Tryz.prog 302 #[.pointer (some ⟨b,0,none⟩),fv] w fun e w' => e = .returned (.tuple #[])∧w' = w:=by
 have hnot : ∀ (x : Bool) (w : World),(Op.unary .not (.bool x)).run Tryz.prog w = .ok (.bool (!x)) w:=fun _ _ => rfl
 have c0:=hF.cell0
 go_enter Tryz.func302,Tryz.ntmps302
 go_wp2_with fail
 refine (load_any _ 1 _ c0).mono ?_
 rintro e w1 ⟨rfl,rfl⟩
 go_wp2
 go_end0
 exact ⟨rfl,rfl⟩

theorem do_first {w : World} {b : Nat} {pl : Addr} (hF : FB w b 0 (.pointer none)) (hpb : ¬ b = pl.block) (hpl : pl.block < w.heap.size) (hp : w.cell? pl = some (.pointer (some ⟨b,0,none⟩))) :
  Calls Tryz.prog 302 #[.pointer (some ⟨b,0,none⟩),.func (.func 303) #[] #[.pointer (some pl)]] w fun e w' => e = .returned (.tuple #[])∧∃ t,t ≠ b∧FB w' b 1 (.pointer (some ⟨t,0,none⟩))∧TB w' t∧w.grownBy w' (some b):=by
 have hnot : ∀ (x : Bool) (w : World),(Op.unary .not (.bool x)).run Tryz.prog w = .ok (.bool (!x)) w:=fun _ _ => rfl
 have c0:=hF.cell0
 go_enter Tryz.func302,Tryz.ntmps302
 go_wp2_with fail
 refine (load_any _ 0 _ c0).mono ?_
 rintro e w1 ⟨rfl,rfl⟩
 go_wp2_with fail
 refine (slow_any hF hpb hpl hp).mono ?_
 rintro e w1 ⟨rfl,R⟩
 go_wp2
 go_end0
 exact ⟨rfl,R⟩

theorem tables_any {w : World} {b : Nat} (hF : F w b) :
  Calls Tryz.prog 281 #[.pointer (some ⟨b,0,none⟩)] w fun e w' => ∃ t,e = .returned (.pointer (some ⟨t,0,none⟩))∧TB w' t∧F w' b∧w.grownBy w' (some b):=by
 have hlt:=hF.lt
 have hmf : ∀ (fn : Fn) (first cap : Array Value) (w : World),(Instr.makeFunc fn first cap).run Tryz.prog w = .ok (.func fn first cap) w:=fun _ _ _ _ => rfl
 have hb1 : Below w.heap.size w (w.alloc (.cells #[.pointer (some ⟨b,0,none⟩)] 316)):=(Below.refl _ _).alloc (Nat.le_refl _) _
 have hp : (w.alloc (.cells #[.pointer (some ⟨b,0,none⟩)] 316)).cell? ⟨w.heap.size,0,none⟩ = some (.pointer (some ⟨b,0,none⟩)):=by simp
 rcases hF with hF | ⟨t,ht,hF,hT⟩
 ·have hF1:=hF.of_block (hb1.block b hlt)
  go_enter Tryz.func281,Tryz.ntmps281
  go_wp2_with fail
  refine (do_first (pl:=⟨w.heap.size,0,none⟩) hF1 (by simp; omega) (by simp) hp).mono ?_
  rintro e w2 ⟨rfl,t,ht,hF2,hT2,hg2⟩
  have hp2 : w2.cell? ⟨w.heap.size,0,none⟩ = some (.pointer (some ⟨b,0,none⟩)):=by
   rw [← hp]
   exact cell_congr (hg2.block w.heap.size (by simp) (by simp; omega))
  have c3:=hF2.cell3
  go_wp2
  go_ret
  exact ⟨t,rfl,hT2,.inr ⟨t,ht,hF2,hT2⟩,gb_trans (gb_below hb1 _) hg2⟩
 ·have hF1:=hF.of_block (hb1.block b hlt)
  have hT1:=hT.of_block (hb1.block t hT.lt)
  go_enter Tryz.func281,Tryz.ntmps281
  go_wp2_with fail
  refine (do_done hF1).mono ?_
  rintro e w2 ⟨rfl,rfl⟩
  have c3:=hF1.cell3
  go_wp2
  go_ret
  exact ⟨t,rfl,hT1,.inr ⟨t,ht,hF1,hT1⟩,gb_below hb1 _⟩
end Go.Proofs.YtagijldedngcoaaGreatDoor.Zq

namespace Go.Proofs.YtagijldedngcoaaGreatDoor.Zq
open Go.RowKit Go.Lib

theorem new_any (w : World) :
  Calls Tryz.prog 240 #[] w fun e w' => e = .returned (.pointer (some ⟨w.heap.size,0,none⟩))∧F w' w.heap.size∧Below w.heap.size w w':=by
 go_enter Tryz.func240,Tryz.ntmps240
 go_wp2
 go_ret
 exact ⟨rfl,.inl (heap_alloc_new w _),(Below.refl _ _).alloc (Nat.le_refl _) _⟩

def isEl (a : Int) : Bool:=decide (0 ≤ a) && decide (a < 256)
theorem isElement_any (a : Int) (w : World) : Calls Tryz.prog 280 #[.int .i64 a] w fun e w' => e = .returned (.bool (isEl a))∧w' = w:=by
 by_cases h : 0 ≤ a
 ·rw [isEl,show decide (0 ≤ a) = true from decide_eq_true h,Bool.true_and]
  go_enter Tryz.func280,Tryz.ntmps280
  go_wp2
  go_ret
  exact ⟨rfl,rfl⟩
 ·rw [isEl,show decide (0 ≤ a) = false from decide_eq_false h,Bool.false_and]
  go_enter Tryz.func280,Tryz.ntmps280
  go_wp2
  go_ret
  exact ⟨rfl,rfl⟩
theorem isEl_nat (a : Nat) (h : a < 256) : isEl (a : Int) = true:=by simp [isEl]; omega
theorem isEl_out (a : Int) (h : isEl a = true) : ∃ n : Nat,a = n∧n < 256:=by
 simp [isEl] at h
 exact ⟨a.toNat,by omega,by omega⟩

theorem product_any {w : World} {t : Nat} (hT : TB w t) (a b : Nat) (ha : a < 256) (hb : b < 256) :
  Calls Tryz.prog 319 #[.pointer (some ⟨t,0,none⟩),.int .i64 a,.int .i64 b] w fun e w' => e = .returned (.int .i64 ((prod a b : Nat) : Int))∧∃ m,w' = w.drewN m:=by
 by_cases h1 : a = 0
 ·subst h1
  rw [zero_prod]
  go_enter Tryz.func319,Tryz.ntmps319
  go_wp2
  go_ret
  exact ⟨rfl,0,rfl⟩
 by_cases h2 : b = 0
 ·subst h2
  rw [prod_zero]
  have h1' : ((a : Int) == 0) = false:=by simp; omega
  go_enter Tryz.func319,Tryz.ntmps319
  go_wp2
  go_ret
  exact ⟨rfl,0,rfl⟩
 have ca:=hT.lg a ha
 have cb:=hT.lg b hb
 have la:=lg_lt a ha
 have lb:=lg_lt b hb
 have cp:=hT.pw (lg a + lg b) (by omega)
 have hp:=pw_lt ((lg a + lg b) % 255)
 rw [prod_ne a b h1 h2]
 generalize pw ((lg a + lg b) % 255) = p at *
 generalize lg a = x at *
 generalize lg b = y at *
 have h1' : ((a : Int) == 0) = false:=by simp; omega
 have h2' : ((b : Int) == 0) = false:=by simp; omega
 have b0 : (0 : Int) ≤ (a : Int):=by omega
 have b1 : (a : Int) < 256:=by omega
 have b2 : (0 : Int) ≤ (b : Int):=by omega
 have b3 : (b : Int) < 256:=by omega
 have b4 : (0 : Int) ≤ (x : Int) + (y : Int):=by omega
 have b5 : (x : Int) + (y : Int) < 510:=by omega
 clear hT
 go_enter Tryz.func319,Tryz.ntmps319
 go_wp2
 go_quiet (fail)
 go_wp2
 go_ret
 exact ⟨by go_num,_,rfl⟩
end Go.Proofs.YtagijldedngcoaaGreatDoor.Zq

namespace Go.Proofs.YtagijldedngcoaaGreatDoor.Zq
open Go.RowKit Go.Lib

theorem quotient_any {w : World} {t : Nat} (hT : TB w t) (a b : Nat) (ha : a < 256) (hb : b < 256) :
  Calls Tryz.prog 282 #[.pointer (some ⟨t,0,none⟩),.int .i64 a,.int .i64 b] w fun e w' => e = .returned (.int .i64 ((quot a b : Nat) : Int))∧∃ m,w' = w.drewN m:=by
 by_cases h1 : a = 0
 ·subst h1
  rw [quot,if_pos rfl]
  go_enter Tryz.func282,Tryz.ntmps282
  go_wp2
  go_ret
  exact ⟨rfl,0,rfl⟩
 have ca:=hT.lg a ha
 have cb:=hT.lg b hb
 have la:=lg_lt a ha
 have lb:=lg_lt b hb
 have cp:=hT.pw (255 + lg a - lg b) (by omega)
 have hp:=pw_lt ((255 + lg a - lg b) % 255)
 rw [quot,if_neg h1]
 generalize pw ((255 + lg a - lg b) % 255) = p at *
 generalize lg a = x at *
 generalize lg b = y at *
 obtain ⟨z,hz⟩ : ∃ z,z = 255 + x - y:=⟨_,rfl⟩
 rw [← hz] at cp
 have hzi : (255 : Int) + (x : Int) - (y : Int) = (z : Int):=by omega
 have hz1 : z < 510:=by omega
 clear hz
 have h1' : ((a : Int) == 0) = false:=by simp; omega
 have b0 : (0 : Int) ≤ (a : Int):=by omega
 have b1 : (a : Int) < 256:=by omega
 have b2 : (0 : Int) ≤ (b : Int):=by omega
 have b3 : (b : Int) < 256:=by omega
 have b4 : (0 : Int) ≤ (z : Int):=by omega
 have b5 : (z : Int) < 510:=by omega
 have hw : IntKind.i64.wrap ((255 : Int) + (x : Int) - (y : Int)) = (z : Int):=by rw [hzi]; exact wraps_i64 _ (by omega) (by omega)
 have hw2 : IntKind.i64.wrap ((255 : Int) + (x : Int)) = 255 + (x : Int):=wraps_i64 _ (by omega) (by omega)
 clear hT
 go_enter Tryz.func282,Tryz.ntmps282
 go_wp2
 go_quiet (fail)
 go_wp2
 go_ret
 exact ⟨by go_num,_,rfl⟩

/-! ### The methods -/
section
variable {w : World} {f : Nat}
theorem F.tabled {w' : World} (h : F w f) (n : Nat) (hg : w'.grownBy w (some f)) : F (w.drewN n) f∧w'.grownBy (w.drewN n) (some f):=⟨h,gb_drewN hg n⟩

theorem mul_ok (hF : F w f) (a b : Nat) (ha : a < 256) (hb : b < 256) :
  Calls Tryz.prog 338 #[.pointer (some ⟨f,0,none⟩),.int .i64 a,.int .i64 b] w fun e w' => e = .returned (.tuple #[.int .i64 ((prod a b : Nat) : Int),.int .i64 0])∧F w' f∧w.grownBy w' (some f):=by
 have ea:=isEl_nat a ha
 have eb:=isEl_nat b hb
 go_enter Tryz.func338,Tryz.ntmps338
 go_wp2_with (go_at_call 280; refine (isElement_any _ _).mono ?_; rintro e w1 ⟨rfl,rfl⟩)
 go_wp2_with fail
 refine (tables_any hF).mono ?_
 rintro e w1 ⟨t,rfl,hT,hF1,hg⟩
 go_wp2_with fail
 refine (product_any hT a b ha hb).mono ?_
 rintro e w1 ⟨rfl,m,rfl⟩
 go_wp2
 go_ret2
 exact ⟨rfl,hF1.tabled m hg⟩

theorem div_ok (hF : F w f) (a b : Nat) (ha : a < 256) (hb : b < 256) (h0 : b ≠ 0) :
  Calls Tryz.prog 260 #[.pointer (some ⟨f,0,none⟩),.int .i64 a,.int .i64 b] w fun e w' => e = .returned (.tuple #[.int .i64 ((quot a b : Nat) : Int),.int .i64 0])∧F w' f∧w.grownBy w' (some f):=by
 have ea:=isEl_nat a ha
 have eb:=isEl_nat b hb
 have h0' : ((b : Int) == 0) = false:=by simp; omega
 go_enter Tryz.func260,Tryz.ntmps260
 go_wp2_with (go_at_call 280; refine (isElement_any _ _).mono ?_; rintro e w1 ⟨rfl,rfl⟩)
 go_wp2_with fail
 refine (tables_any hF).mono ?_
 rintro e w1 ⟨t,rfl,hT,hF1,hg⟩
 go_wp2_with fail
 refine (quotient_any hT a b ha hb).mono ?_
 rintro e w1 ⟨rfl,m,rfl⟩
 go_wp2
 go_ret2
 exact ⟨rfl,hF1.tabled m hg⟩
end
end Go.Proofs.YtagijldedngcoaaGreatDoor.Zq

namespace Go.Proofs.YtagijldedngcoaaGreatDoor.Zq
open Go.RowKit Go.Lib

end Go.Proofs.YtagijldedngcoaaGreatDoor.Zq


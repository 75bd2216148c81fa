/-
  Contracts of the program and of the statements (part 2 of 28).
-/
import Derived.Test.YtagijldedngcoaaGreatDoorOl1
import Derived.OwnWalk
import Derived.Deep.OwnRows
import Derived.Laws.CopyOwn
import Derived.WalkMore
set_option maxRecDepth 100000
set_option maxHeartbeats 1600000

namespace Go.Proofs.YtagijldedngcoaaGreatDoor.Zq

structure K where
 v : Nat
 lt : v < 256
namespace K
theorem ext {a b : K} (h : a.v = b.v) : a = b:=by
 cases a; cases b; simp at h; subst h; rfl
instance : Add K:=⟨fun a b => ⟨a.v ^^^ b.v,Nat.xor_lt_two_pow (n:=8) a.lt b.lt⟩⟩
instance : Mul K:=⟨fun a b => ⟨prod a.v b.v,prod_lt _ _⟩⟩
instance : OfNat K 0:=⟨⟨0,by decide⟩⟩
instance : OfNat K 1:=⟨⟨1,by decide⟩⟩
def inv (a : K) : K:=⟨quot 1 a.v,quot_lt _ _⟩
instance : DecidableEq K:=fun a b => if h : a.v = b.v then .isTrue (ext h) else .isFalse (fun e => h (by rw [e]))
theorem add_v (a b : K) : (a + b).v = a.v ^^^ b.v:=rfl
theorem mul_v (a b : K) : (a * b).v = prod a.v b.v:=rfl
theorem add_comm (a b : K) : a + b = b + a:=ext (Nat.xor_comm _ _)
theorem add_assoc (a b c : K) : a + b + c = a + (b + c):=ext (Nat.xor_assoc _ _ _)
theorem add_zero (a : K) : a + 0 = a:=ext (Nat.xor_zero _)
theorem zero_add (a : K) : 0 + a = a:=ext (Nat.zero_xor _)
theorem add_self (a : K) : a + a = 0:=ext (Nat.xor_self _)
theorem mul_comm (a b : K) : a * b = b * a:=ext (prod_comm _ _)
theorem mul_assoc (a b c : K) : a * b * c = a * (b * c):=ext (prod_assoc _ _ _)
theorem mul_one (a : K) : a * 1 = a:=ext (prod_one _ a.lt)
theorem one_mul (a : K) : 1 * a = a:=by rw [mul_comm,mul_one]
theorem mul_zero (a : K) : a * 0 = 0:=ext (prod_zero a.v)
theorem zero_mul (a : K) : 0 * a = 0:=ext (zero_prod a.v)
theorem mul_add (a b c : K) : a * (b + c) = a * b + a * c:=ext (prod_xor _ _ _ a.lt b.lt c.lt)
theorem add_mul (a b c : K) : (a + b) * c = a * c + b * c:=ext (xor_prod _ _ _ a.lt b.lt c.lt)
theorem v_ne {a : K} (h : a ≠ 0) : a.v ≠ 0:=fun e => h (ext e)
theorem inv_mul {a : K} (h : a ≠ 0) : inv a * a = 1:=ext (quot_prod 1 a.v (by decide) a.lt (v_ne h))
theorem mul_inv {a : K} (h : a ≠ 0) : a * inv a = 1:=by rw [mul_comm,inv_mul h]
theorem one_ne : (1 : K) ≠ 0:=fun h => by have:=congrArg K.v h; exact absurd this (by decide)
theorem mul_eq_zero {a b : K} (h : a * b = 0) (ha : a ≠ 0) : b = 0:=by
 have:=congrArg (fun x => inv a * x) h
 simp only [← mul_assoc,inv_mul ha,one_mul,mul_zero] at this
 exact this
theorem eq_of_add {a b : K} (h : a + b = 0) : a = b:=by
 have:=congrArg (fun x => x + b) h
 simpa only [add_assoc,add_self,add_zero,zero_add] using this
theorem add_left_comm (a b c : K) : a + (b + c) = b + (a + c):=by rw [← add_assoc,add_comm a b,add_assoc]
theorem mul_left_comm (a b c : K) : a * (b * c) = b * (a * c):=by rw [← mul_assoc,mul_comm a b,mul_assoc]
end K
open K

/-! ### Sums -/
def S : Nat→(Nat→K)→K
 | 0,_ => 0
 | n + 1,f => S n f + f n
theorem S_congr {n : Nat} {f g : Nat→K} (h : ∀ i,i < n→f i = g i) : S n f = S n g:=by
 induction n with
 | zero => rfl
 | succ n ih => rw [S,S,ih (fun i hi => h i (by omega)),h n (by omega)]
theorem S_zero (n : Nat) : S n (fun _ => 0) = 0:=by
 induction n with
 | zero => rfl
 | succ n ih => rw [S,ih,add_zero]
theorem S_add (n : Nat) (f g : Nat→K) : S n (fun i => f i + g i) = S n f + S n g:=by
 induction n with
 | zero => exact (add_zero 0).symm
 | succ n ih => rw [S,S,S,ih,add_assoc,add_assoc,add_left_comm (S n g)]
theorem S_mul (n : Nat) (c : K) (f : Nat→K) : c * S n f = S n (fun i => c * f i):=by
 induction n with
 | zero => exact mul_zero c
 | succ n ih => rw [S,S,mul_add,ih]
theorem mul_S (n : Nat) (c : K) (f : Nat→K) : S n f * c = S n (fun i => f i * c):=by
 rw [mul_comm,S_mul]; exact S_congr fun i _ => mul_comm _ _
theorem S_swap (n m : Nat) (f : Nat→Nat→K) : S n (fun i => S m (fun j => f i j)) = S m (fun j => S n (fun i => f i j)):=by
 induction n with
 | zero => exact (S_zero m).symm
 | succ n ih => simp only [S]; rw [ih,S_add]
def dl (i j : Nat) : K:=if i = j then 1 else 0
theorem dl_self (i : Nat) : dl i i = 1:=if_pos rfl
theorem dl_ne {i j : Nat} (h : i ≠ j) : dl i j = 0:=if_neg h
theorem dl_comm (i j : Nat) : dl i j = dl j i:=by
 by_cases h : i = j
 ·rw [h]
 ·rw [dl_ne h,dl_ne (fun e => h e.symm)]
theorem S_one {n i : Nat} (f : Nat→K) (hi : i < n) (h : ∀ k,k < n→k ≠ i→f k = 0) : S n f = f i:=by
 induction n with
 | zero => omega
 | succ n ih =>
  rw [S]
  by_cases e : i = n
  ·subst e
   rw [S_congr (g:=fun _ => 0) (fun k hk => h k (by omega) (by omega)),S_zero,zero_add]
  ·rw [ih (by omega) (fun k hk hne => h k (by omega) hne),h n (by omega) (fun x => e x.symm),add_zero]
theorem S_dl_l {n i : Nat} (f : Nat→K) (hi : i < n) : S n (fun k => dl i k * f k) = f i:=by
 rw [S_one _ hi (fun k _ hne => by rw [dl_ne (fun e => hne e.symm),zero_mul]),dl_self,one_mul]
theorem S_dl_r {n i : Nat} (f : Nat→K) (hi : i < n) : S n (fun k => f k * dl k i) = f i:=by
 rw [S_one _ hi (fun k _ hne => by rw [dl_ne hne,mul_zero]),dl_self,mul_one]
theorem S_cut {n m : Nat} (f : Nat→K) (hm : m ≤ n) (h : ∀ k,m ≤ k→k < n→f k = 0) : S n f = S m f:=by
 induction n with
 | zero => obtain rfl : m = 0:=by omega
           rfl
 | succ n ih =>
  by_cases e : m = n + 1
  ·rw [e]
  ·rw [S,ih (by omega) (fun k h1 h2 => h k h1 (by omega)),h n (by omega) (by omega),add_zero]
theorem S_assoc (n m : Nat) (x : Nat→K) (A : Nat→Nat→K) (y : Nat→K) :
  S n (fun i => x i * S m (fun j => A i j * y j)) = S m (fun j => S n (fun i => x i * A i j) * y j):=by
 simp only [S_mul,mul_S]
 rw [S_swap]
 exact S_congr fun j _ => S_congr fun i _ => (mul_assoc _ _ _).symm
abbrev Mt:=Nat→Nat→K
def mm (n : Nat) (A B : Mt) : Mt:=fun i j => S n (fun k => A i k * B k j)
theorem mm_assoc (n m : Nat) (A B C : Mt) (i j : Nat) : mm n A (mm m B C) i j = mm m (mm n A B) C i j:=S_assoc n m (A i) B (fun k => C k j)
theorem mm_congr {n : Nat} {A B A' B' : Mt} {i j : Nat} (h1 : ∀ k,k < n→A i k = A' i k) (h2 : ∀ k,k < n→B k j = B' k j) : mm n A B i j = mm n A' B' i j :=
 S_congr fun k hk => by rw [h1 k hk,h2 k hk]
theorem mm_dl_l {n i : Nat} (B : Mt) (j : Nat) (hi : i < n) : mm n dl B i j = B i j:=S_dl_l (fun k => B k j) hi
theorem mm_dl_r {n j : Nat} (A : Mt) (i : Nat) (hj : j < n) : mm n A dl i j = A i j:=S_dl_r (fun k => A i k) hj
/-! ### More unknowns than equations -/
def skip (p i : Nat) : Nat:=if i < p then i else i + 1
theorem S_skip (n p : Nat) (f : Nat→K) (hp : p ≤ n) : S (n + 1) f = S n (fun i => f (skip p i)) + f p:=by
 induction n with
 | zero =>
  obtain rfl : p = 0:=by omega
  rfl
 | succ n ih =>
  by_cases h : p = n + 1
  ·subst h
   rw [S]
   congr 1
   exact S_congr fun i hi => by rw [skip,if_pos hi]
  ·rw [S,ih (by omega),S]
   rw [show skip p n = n + 1 by rw [skip,if_neg (by omega)]]
   rw [add_assoc,add_assoc,add_comm (f p)]
def back (p i : Nat) : Nat:=if i < p then i else i - 1
theorem back_skip (p i : Nat) : back p (skip p i) = i:=by
 unfold back skip
 by_cases h : i < p
 ·rw [if_pos h,if_pos h]
 ·rw [if_neg h,if_neg (by omega)]; omega
theorem skip_ne (p i : Nat) : skip p i ≠ p:=by unfold skip; split <;> omega
theorem kernel : ∀ (r n : Nat) (B : Mt),r < n→∃ x : Nat→K,(∃ i,i < n∧x i ≠ 0)∧∀ j,j < r→S n (fun i => x i * B i j) = 0
 | 0,n,_,h => ⟨fun _ => 1,⟨0,h,one_ne⟩,fun j hj => absurd hj (Nat.not_lt_zero j)⟩
 | r + 1,n,B,h => by
  by_cases hz : ∃ p,p < n∧B p r ≠ 0
  ·obtain ⟨p,hp,hne⟩:=hz
   obtain ⟨m,rfl⟩ : ∃ m,n = m + 1:=⟨n - 1,by omega⟩
   obtain ⟨x,⟨i,hi,hx⟩,hs⟩:=kernel r m (fun i j => B (skip p i) j + B (skip p i) r * inv (B p r) * B p j) (by omega)
   let c : K:=S m (fun i => x i * (B (skip p i) r * inv (B p r)))
   refine ⟨fun i => if i = p then c else x (back p i),⟨skip p i,by unfold skip; split <;> omega,?_⟩,fun j hj => ?_⟩
   ·show (if skip p i = p then c else x (back p (skip p i))) ≠ 0
    rw [if_neg (skip_ne p i),back_skip]; exact hx
   ·rw [S_skip m p _ (by omega)]
    show S m (fun i => (if skip p i = p then c else x (back p (skip p i))) * B (skip p i) j) + (if p = p then c else x (back p p)) * B p j = 0
    rw [if_pos rfl,S_congr (g:=fun i => x i * B (skip p i) j) (fun i _ => by rw [if_neg (skip_ne p i),back_skip])]
    rw [mul_S,← S_add]
    by_cases hjr : j = r
    ·subst hjr
     rw [S_congr (g:=fun _ => 0) (fun i _ => ?_),S_zero]
     rw [mul_assoc,mul_assoc,inv_mul hne,mul_one,add_self]
    ·have:=hs j (by omega)
     rw [← this]
     exact S_congr fun i _ => by rw [mul_add]; simp only [mul_assoc]
  ·obtain ⟨x,hx,hs⟩:=kernel r n B (by omega)
   refine ⟨x,hx,fun j hj => ?_⟩
   by_cases hjr : j = r
   ·subst hjr
    rw [S_congr (g:=fun _ => 0) (fun i hi => ?_),S_zero]
    have : B i j = 0:=by
     apply Decidable.byContradiction
     intro h1
     exact hz ⟨i,hi,h1⟩
    rw [this,mul_zero]
   ·exact hs j (by omega)
theorem inner_le {r s : Nat} {B C : Mt} (h : ∀ i,i < r→∀ j,j < r→mm s B C i j = dl i j) : r ≤ s:=by
 apply Decidable.byContradiction
 intro hlt
 obtain ⟨x,⟨i,hi,hx⟩,hs⟩:=kernel s r B (by omega)
 apply hx
 have e : S r (fun k => x k * dl k i) = x i:=S_dl_r x hi
 rw [← e,S_congr (g:=fun k => x k * mm s B C k i) (fun k hk => by rw [h k hk i hi])]
 show S r (fun k => x k * S s (fun l => B k l * C l i)) = 0
 rw [S_assoc,S_congr (g:=fun _ => 0) (fun l hl => by rw [hs l hl,zero_mul]),S_zero]

/-! ### Rank -/
def Thin (m n : Nat) (A : Mt) (r : Nat) : Prop:=∃ B C : Mt,∀ i,i < m→∀ j,j < n→A i j = mm r B C i j
def Wide (m n : Nat) (A : Mt) (r : Nat) : Prop:=∃ X Y : Mt,∀ s,s < r→∀ t,t < r→mm n (mm m X A) Y s t = dl s t
def Rk (m n : Nat) (A : Mt) (r : Nat) : Prop:=Thin m n A r∧Wide m n A r
theorem Wide.le {m n r s : Nat} {A : Mt} (h : Wide m n A r) (k : Thin m n A s) : r ≤ s:=by
 obtain ⟨X,Y,h⟩:=h
 obtain ⟨B,C,k⟩:=k
 refine inner_le (B:=mm m X B) (C:=mm n C Y) fun i hi j hj => ?_
 rw [← h i hi j hj,mm_assoc]
 refine mm_congr (fun l hl => ?_) (fun _ _ => rfl)
 rw [← mm_assoc]
 exact mm_congr (fun _ _ => rfl) (fun q hq => (k q hq l hl).symm)
theorem Rk.congr {m n r : Nat} {A A' : Mt} (h : Rk m n A r) (e : ∀ i,i < m→∀ j,j < n→A' i j = A i j) : Rk m n A' r:=by
 obtain ⟨⟨B,C,h1⟩,X,Y,h2⟩:=h
 refine ⟨⟨B,C,fun i hi j hj => (e i hi j hj).trans (h1 i hi j hj)⟩,X,Y,fun s hs t ht => ?_⟩
 rw [← h2 s hs t ht]
 exact mm_congr (fun l hl => mm_congr (fun _ _ => rfl) (fun q hq => e q hq l hl)) (fun _ _ => rfl)
theorem Rk.le_rows {m n r : Nat} {A : Mt} (h : Rk m n A r) : r ≤ m:=h.2.le ⟨dl,A,fun _ hi j _ => (mm_dl_l A j hi).symm⟩
/-! ### Rows that are made of rows -/
def Sp (m : Nat) (R R' : Mt) : Prop:=∃ E : Mt,∀ i,i < m→∀ j,R' i j = mm m E R i j
theorem Sp.refl (m : Nat) (R : Mt) : Sp m R R:=⟨dl,fun _ hi j => (mm_dl_l R j hi).symm⟩
theorem Sp.trans {m : Nat} {R R' R'' : Mt} (h : Sp m R R') (k : Sp m R' R'') : Sp m R R'':=by
 obtain ⟨E,h⟩:=h
 obtain ⟨E',k⟩:=k
 refine ⟨mm m E' E,fun i hi j => ?_⟩
 rw [k i hi j,← mm_assoc]
 exact mm_congr (fun _ _ => rfl) (fun l hl => h l hl j)
def swp (R : Mt) (a b : Nat) : Mt:=fun i => if i = a then R b else if i = b then R a else R i
theorem swp_swp (R : Mt) (a b : Nat) : swp (swp R a b) a b = R:=by
 funext i
 unfold swp
 by_cases h1 : i = a
 ·rw [if_pos h1]
  by_cases h2 : b = a
  ·rw [if_pos h2,h1,h2]
  ·rw [if_neg h2,if_pos rfl,h1]
 ·rw [if_neg h1]
  by_cases h2 : i = b
  ·rw [if_pos h2,if_pos rfl,h2]
  ·rw [if_neg h2,if_neg h1,if_neg h2]
theorem Sp.swp {m : Nat} (R : Mt) {a b : Nat} (ha : a < m) (hb : b < m) : Sp m R (swp R a b):=by
 refine ⟨fun i k => if i = a then dl b k else if i = b then dl a k else dl i k,fun i hi j => ?_⟩
 unfold Go.Proofs.YtagijldedngcoaaGreatDoor.Zq.swp
 by_cases h1 : i = a
 ·simp only [mm,if_pos h1]; exact (S_dl_l (fun k => R k j) hb).symm
 ·by_cases h2 : i = b
  ·simp only [mm,if_neg h1,if_pos h2]; exact (S_dl_l (fun k => R k j) ha).symm
  ·simp only [mm,if_neg h1,if_neg h2]; exact (S_dl_l (fun k => R k j) hi).symm
def elim (R : Mt) (a c : Nat) : Mt:=fun i j => if i = a then R a j * inv (R a c) else R i j + R a j * inv (R a c) * R i c
theorem Sp.elim {m : Nat} (R : Mt) {a c : Nat} (ha : a < m) : Sp m R (elim R a c):=by
 refine ⟨fun i k => if i = a then dl a k * inv (R a c) else dl i k + dl a k * (inv (R a c) * R i c),fun i hi j => ?_⟩
 unfold Go.Proofs.YtagijldedngcoaaGreatDoor.Zq.elim
 by_cases h1 : i = a
 ·simp only [mm,if_pos h1]
  rw [S_congr (g:=fun k => dl a k * (inv (R a c) * R k j)) (fun k _ => mul_assoc _ _ _),S_dl_l (fun k => inv (R a c) * R k j) ha,mul_comm]
 ·simp only [mm,if_neg h1,add_mul]
  rw [S_add,S_dl_l (fun k => R k j) hi,S_congr (g:=fun k => dl a k * (inv (R a c) * R i c * R k j)) (fun k _ => mul_assoc _ _ _),S_dl_l (fun k => inv (R a c) * R i c * R k j) ha]
  congr 1
  rw [mul_assoc,mul_comm]
theorem Sp.elim_back {m : Nat} (R : Mt) {a c : Nat} (ha : a < m) (hc : R a c ≠ 0) : Sp m (Go.Proofs.YtagijldedngcoaaGreatDoor.Zq.elim R a c) R:=by
 refine ⟨fun i k => if i = a then dl a k * R a c else dl i k + dl a k * R i c,fun i hi j => ?_⟩
 by_cases h1 : i = a
 ·simp only [mm,if_pos h1]
  rw [S_congr (g:=fun k => dl a k * (R a c * Go.Proofs.YtagijldedngcoaaGreatDoor.Zq.elim R a c k j)) (fun k _ => mul_assoc _ _ _),S_dl_l (fun k => R a c * Go.Proofs.YtagijldedngcoaaGreatDoor.Zq.elim R a c k j) ha,Go.Proofs.YtagijldedngcoaaGreatDoor.Zq.elim,if_pos rfl,mul_left_comm,mul_inv hc,mul_one,h1]
 ·simp only [mm,if_neg h1,add_mul]
  rw [S_add,S_dl_l (fun k => Go.Proofs.YtagijldedngcoaaGreatDoor.Zq.elim R a c k j) hi,S_congr (g:=fun k => dl a k * (R i c * Go.Proofs.YtagijldedngcoaaGreatDoor.Zq.elim R a c k j)) (fun k _ => mul_assoc _ _ _),S_dl_l (fun k => R i c * Go.Proofs.YtagijldedngcoaaGreatDoor.Zq.elim R a c k j) ha]
  unfold Go.Proofs.YtagijldedngcoaaGreatDoor.Zq.elim
  rw [if_neg h1,if_pos rfl,add_assoc,mul_comm (R i c),add_self,add_zero]

/-! ### The elimination -/
def lead (R : Mt) (c : Nat) : Nat→Nat→Option Nat
 | 0,_ => none
 | k + 1,a => if R a c ≠ 0 then some a else lead R c k (a + 1)
theorem lead_some {R : Mt} {c : Nat} : ∀ {k a n : Nat},lead R c k a = some n→a ≤ n∧n < a + k∧R n c ≠ 0∧∀ i,a ≤ i→i < n→R i c = 0
 | 0,_,_,h => by simp [lead] at h
 | k + 1,a,n,h => by
  rw [lead] at h
  by_cases h1 : R a c ≠ 0
  ·rw [if_pos h1] at h
   cases h
   exact ⟨Nat.le_refl _,by omega,h1,fun i h2 h3 => by omega⟩
  ·rw [if_neg h1] at h
   obtain ⟨h2,h3,h4,h5⟩:=lead_some h
   refine ⟨by omega,by omega,h4,fun i h6 h7 => ?_⟩
   by_cases h8 : i = a
   ·rw [h8]; exact Decidable.byContradiction h1
   ·exact h5 i (by omega) h7
theorem lead_none {R : Mt} {c : Nat} : ∀ {k a : Nat},lead R c k a = none→∀ i,a ≤ i→i < a + k→R i c = 0
 | 0,_,_,i,h1,h2 => by omega
 | k + 1,a,h,i,h2,h3 => by
  rw [lead] at h
  by_cases h1 : R a c ≠ 0
  ·rw [if_pos h1] at h; cases h
  ·rw [if_neg h1] at h
   by_cases h8 : i = a
   ·rw [h8]; exact Decidable.byContradiction h1
   ·exact lead_none h i (by omega) (by omega)
def step (m : Nat) (s : Mt × Nat) (c : Nat) : Mt × Nat :=
 match lead s.1 c (m - s.2) s.2 with
 | none => s
 | some n => (elim (swp s.1 s.2 n) s.2 c,s.2 + 1)
def redu (m : Nat) (R : Mt) : Nat→Mt × Nat
 | 0 => (R,0)
 | c + 1 => step m (redu m R c) c
structure Red (m : Nat) (R0 : Mt) (c : Nat) (s : Mt × Nat) : Prop where
 to : Sp m R0 s.1
 fro : Sp m s.1 R0
 le : s.2 ≤ m
 lec : s.2 ≤ c
 zero : ∀ i,s.2 ≤ i→i < m→∀ j,j < c→s.1 i j = 0
 piv : ∃ p : Nat→Nat,∀ t,t < s.2→p t < c∧(∀ i,i < m→s.1 i (p t) = dl i t)∧(s.2 = c→p t = t)
theorem red_step {m c : Nat} {R0 : Mt} {s : Mt × Nat} (h : Red m R0 c s) : Red m R0 (c + 1) (step m s c):=by
 obtain ⟨R,a⟩:=s
 obtain ⟨hto,hfro,hle,hlec,hz,p,hp⟩:=h
 simp only at hle hlec hz hp
 unfold step
 simp only
 cases hl : lead R c (m - a) a with
 | none =>
  have h0:=lead_none hl
  refine ⟨hto,hfro,hle,Nat.le_succ_of_le hlec,fun i h1 h2 j hj => ?_,p,fun t ht => ?_⟩
  ·by_cases e : j = c
   ·rw [e]; exact h0 i h1 (by omega)
   ·exact hz i h1 h2 j (by omega)
  ·obtain ⟨q1,q2,q3⟩:=hp t ht
   exact ⟨by omega,q2,fun e => by simp only at e; omega⟩
 | some n =>
  obtain ⟨n1,n2,n3,n4⟩:=lead_some hl
  have ham : a < m:=by omega
  have hnm : n < m:=by omega
  have hR1 : swp R a n a c ≠ 0:=by unfold swp; rw [if_pos rfl]; exact n3
  have hlow : ∀ i,a ≤ i→i < m→∀ j,j < c→swp R a n i j = 0:=by
   intro i h1 h2 j hj
   unfold swp
   by_cases e1 : i = a
   ·rw [if_pos e1]; exact hz n n1 hnm j hj
   ·rw [if_neg e1]
    by_cases e2 : i = n
    ·rw [if_pos e2]; exact hz a (Nat.le_refl _) ham j hj
    ·rw [if_neg e2]; exact hz i h1 h2 j hj
  have hpv : ∀ t,t < a→∀ i,i < m→swp R a n i (p t) = dl i t:=by
   intro t ht i hi
   obtain ⟨q1,q2,q3⟩:=hp t ht
   by_cases h1 : a ≤ i
   ·rw [hlow i h1 hi (p t) q1,dl_ne (by omega)]
   ·unfold swp
    rw [if_neg (by omega),if_neg (by omega)]
    exact q2 i hi
  have ha0 : ∀ j,j < c→swp R a n a j = 0:=hlow a (Nat.le_refl _) ham
  refine ⟨(hto.trans (Sp.swp R ham hnm)).trans (Sp.elim _ ham),?_,by simp only; omega,by simp only; omega,?_,?_⟩
  ·refine (Sp.elim_back _ ham hR1).trans (Sp.trans ?_ hfro)
   have:=Sp.swp (swp R a n) ham hnm
   rwa [swp_swp] at this
  ·intro i h1 h2 j hj
   simp only at h1 ⊢
   unfold elim
   rw [if_neg (by omega)]
   by_cases e : j = c
   ·rw [e,mul_inv hR1,one_mul,add_self]
   ·rw [ha0 j (by omega),zero_mul,zero_mul,add_zero]
    exact hlow i (by omega) h2 j (by omega)
  ·refine ⟨fun t => if t = a then c else p t,fun t ht => ?_⟩
   simp only at ht ⊢
   by_cases e : t = a
   ·rw [if_pos e]
    refine ⟨by omega,fun i hi => ?_,fun h => by omega⟩
    unfold elim
    by_cases e2 : i = a
    ·rw [if_pos e2,mul_inv hR1,e,e2,dl_self]
    ·rw [if_neg e2,mul_inv hR1,one_mul,add_self,e,dl_ne e2]
   ·rw [if_neg e]
    obtain ⟨q1,q2,q3⟩:=hp t (by omega)
    refine ⟨by omega,fun i hi => ?_,fun h => q3 (by omega)⟩
    unfold elim
    by_cases e2 : i = a
    ·rw [if_pos e2,ha0 _ q1,zero_mul,e2,dl_ne (by omega)]
    ·rw [if_neg e2,ha0 _ q1,zero_mul,zero_mul,add_zero]
     exact hpv t (by omega) i hi
theorem red_all (m : Nat) (R : Mt) : ∀ c,Red m R c (redu m R c)
 | 0 => ⟨Sp.refl _ _,Sp.refl _ _,Nat.zero_le _,Nat.le_refl _,fun _ _ _ j hj => absurd hj (Nat.not_lt_zero j),fun t => t,fun t ht => absurd ht (Nat.not_lt_zero t)⟩
 | c + 1 => red_step (red_all m R c)
theorem redu_rank (m n : Nat) (A : Mt) : Rk m n A (redu m A n).2:=by
 obtain ⟨⟨E,hto⟩,⟨E',hfro⟩,hle,hlec,hz,p,hp⟩:=red_all m A n
 refine ⟨⟨E',(redu m A n).1,fun i hi j hj => ?_⟩,E,fun j t => dl j (p t),fun s hs t ht => ?_⟩
 ·rw [hfro i hi j]
  exact S_cut _ hle (fun k h1 h2 => by rw [hz k h1 h2 j hj,mul_zero])
 ·obtain ⟨q1,q2,q3⟩:=hp t ht
  rw [← q2 s (by omega),hto s (by omega)]
  exact S_dl_r (fun k => mm m E A s k) q1
theorem redu_inv (n : Nat) (A : Mt) (W : Mt) (h1 : ∀ i,i < n→∀ j,j < n→W i j = A i j) (h2 : ∀ i,i < n→∀ j,j < n→W i (n + j) = dl i j) (h : (redu n W n).2 = n) :
  ∀ i,i < n→∀ j,j < n→mm n (fun i j => (redu n W n).1 i (n + j)) A i j = dl i j∧mm n A (fun i j => (redu n W n).1 i (n + j)) i j = dl i j:=by
 obtain ⟨⟨E,hto⟩,⟨E',hfro⟩,hle,hlec,hz,p,hp⟩:=red_all n W n
 have hone : ∀ i,i < n→∀ j,j < n→(redu n W n).1 i j = dl i j:=by
  intro i hi j hj
  obtain ⟨q1,q2,q3⟩:=hp j (by omega)
  rw [← q2 i hi,q3 h]
 have hE : ∀ i,i < n→∀ j,j < n→(redu n W n).1 i (n + j) = E i j:=by
  intro i hi j hj
  rw [hto i hi]
  refine Eq.trans (mm_congr (B':=fun a b => dl a (b - n)) (fun _ _ => rfl) (fun k hk => ?_)) ?_
  ·rw [h2 k hk j hj]; simp
  ·show S n (fun k => E i k * dl k (n + j - n)) = E i j
   rw [show n + j - n = j by omega]
   exact S_dl_r (fun k => E i k) hj
 have hE' : ∀ i,i < n→∀ j,j < n→E' i j = A i j:=by
  intro i hi j hj
  rw [← h1 i hi j hj,hfro i hi]
  refine Eq.trans ?_ (mm_congr (A:=E') (B:=dl) (fun _ _ => rfl) (fun k hk => (hone k hk j hj).symm))
  exact (mm_dl_r E' i hj).symm
 intro i hi j hj
 constructor
 ·rw [← hone i hi j hj,hto i hi]
  exact mm_congr (fun k hk => hE i hi k hk) (fun k hk => (h1 k hk j hj).symm)
 ·rw [← h2 i hi j hj,hfro i hi]
  exact mm_congr (fun k hk => (hE' i hi k hk).symm) (fun _ _ => rfl)
end Go.Proofs.YtagijldedngcoaaGreatDoor.Zq

namespace Go.Proofs.YtagijldedngcoaaGreatDoor.Zq
open Go.RowKit Go.Lib

theorem Tryz.info3 : (Tryz.prog.info? 3).map (fun i => (i.zero,i.size,i.bytes)) = some (some (.int .i64 0),1,8):=by kernel_rfl
theorem Tryz.info162 : (Tryz.prog.info? 162).map (fun i => (i.zero,i.size,i.bytes)) = some (some (.slice none 0 0),1,24):=by kernel_rfl

def isSd (n : Int) : Bool:=decide (1 ≤ n) && decide (n ≤ 255)
theorem isSide_any (n : Int) (w : World) : Calls Tryz.prog 279 #[.int .i64 n] w fun e w' => e = .returned (.bool (isSd n))∧w' = w:=by
 by_cases h : 1 ≤ n
 ·rw [isSd,show decide (1 ≤ n) = true from decide_eq_true h,Bool.true_and]
  go_enter Tryz.func279,Tryz.ntmps279
  go_wp2
  go_ret
  exact ⟨rfl,rfl⟩
 ·rw [isSd,show decide (1 ≤ n) = false from decide_eq_false h,Bool.false_and]
  go_enter Tryz.func279,Tryz.ntmps279
  go_wp2
  go_ret
  exact ⟨rfl,rfl⟩

theorem hide {p : Prop} (h : p) : Hid p:=h
def kcell (a : K) : Value:=.int .i64 ((a.v : Nat) : Int)
def kcells (n : Nat) (f : Nat→K) : List Value:=(List.range n).map fun k => kcell (f k)
theorem kcells_length (n : Nat) (f : Nat→K) : (kcells n f).length = n:=by simp [kcells]
theorem kcells_get {n i : Nat} (f : Nat→K) (h : i < n) : (kcells n f)[i]? = some (kcell (f i)):=by
 rw [kcells,List.getElem?_map,List.getElem?_range h]; rfl
theorem kcells_congr {n : Nat} {f g : Nat→K} (h : ∀ i,i < n→f i = g i) : kcells n f = kcells n g:=by
 apply List.ext_getElem?
 intro i
 by_cases hi : i < n
 ·rw [kcells_get f hi,kcells_get g hi,h i hi]
 ·rw [List.getElem?_eq_none (by rw [kcells_length]; omega),List.getElem?_eq_none (by rw [kcells_length]; omega)]
theorem kcells_set {n i : Nat} (f : Nat→K) (x : K) : (kcells n f).set i (kcell x) = kcells n (fun k => if k = i then x else f k):=by
 apply List.ext_getElem?
 intro j
 rw [List.getElem?_set,kcells_length]
 by_cases hj : j < n
 ·rw [kcells_get _ hj,kcells_get _ hj]
  by_cases e : i = j
  ·subst e; rw [if_pos rfl,if_pos hj,if_pos rfl]
  ·rw [if_neg e,if_neg (fun h => e h.symm)]
 ·rw [List.getElem?_eq_none (by rw [kcells_length]; omega),List.getElem?_eq_none (by rw [kcells_length]; omega)]
  split
  ·rw [if_neg (by omega)]
  ·rfl
def KB (w : World) (g n : Nat) (f : Nat→K) : Prop:=∃ Z : List Value,w.heap[g]? = some (.cells (kcells n f ++ Z).toArray 3 (0,0))
section
variable {w w' : World} {g n : Nat} {f : Nat→K}
theorem KB.lt (h : KB w g n f) : g < w.heap.size:=by obtain ⟨_,h⟩:=h; exact lt_of_block h
theorem KB.cell (h : KB w g n f) (i : Nat) (hi : i < n) : w.cell? ⟨g,i,none⟩ = some (.int .i64 (((f i).v : Nat) : Int)):=by
 obtain ⟨Z,h⟩:=h
 rw [cell_of_row w g i _ _ _ h,List.getElem?_toArray,List.getElem?_append_left (by rw [kcells_length]; exact hi),kcells_get f hi]; rfl
theorem KB.free (h : KB w g n f) (i : Nat) : w.frozen? ⟨g,i,none⟩ = false:=by obtain ⟨Z,h⟩:=h; exact frozen_of_row w g i _ _ h
theorem KB.of_block (h : KB w g n f) (hb : w'.heap[g]? = w.heap[g]?) : KB w' g n f:=by obtain ⟨Z,h⟩:=h; exact ⟨Z,hb.trans h⟩
theorem KB.congr (h : KB w g n f) {f' : Nat→K} (e : ∀ i,i < n→f i = f' i) : KB w g n f':=by
 obtain ⟨Z,h⟩:=h; exact ⟨Z,by rw [← kcells_congr e]; exact h⟩
theorem KB.set (h : KB w g n f) (i : Nat) (hi : i < n) (x : K) : KB (w.setCell ⟨g,i,none⟩ (.int .i64 ((x.v : Nat) : Int))) g n (fun k => if k = i then x else f k):=by
 obtain ⟨Z,h⟩:=h
 refine ⟨Z,?_⟩
 rw [heap_set_list _ h,List.set_append_left _ _ (by rw [kcells_length]; exact hi)]
 rw [show Value.int .i64 ((x.v : Nat) : Int) = kcell x from rfl,kcells_set]
end

def NX (w : World) (f : Nat) (v : Value) (n : Nat) (Z : Nat→Int) : Prop :=
 ∃ a c,v = .slice a n c∧n ≤ c∧(n = 0 ∨ ∃ bl off,a = some ⟨bl,off,none⟩∧bl < w.heap.size∧bl ≠ f∧∀ j,j < n→w.cell? ⟨bl,off + j,none⟩ = some (.int .i64 (Z j)))
theorem NX.grown {w w' : World} {f n : Nat} {v : Value} {Z : Nat→Int} (h : NX w f v n Z) (hg : w.grownBy w' (some f)) : NX w' f v n Z:=by
 obtain ⟨a,c,rfl,hc,h⟩:=h
 refine ⟨a,c,rfl,hc,?_⟩
 rcases h with h | ⟨bl,off,rfl,hbl,hf,hc⟩
 ·exact .inl h
 ·exact .inr ⟨bl,off,rfl,Nat.lt_of_lt_of_le hbl hg.size,hf,fun i hi => (cell_congr (hg.block bl hbl (by simp; omega))).trans (hc i hi)⟩
theorem KB.nx {w : World} {f g n c : Nat} {F : Nat→K} (h : KB w g n F) (hc : n ≤ c) (hf : g ≠ f) : NX w f (.slice (some ⟨g,0,none⟩) n c) n (fun k => (((F k).v : Nat) : Int)) :=
 ⟨_,c,rfl,hc,.inr ⟨g,0,rfl,h.lt,hf,fun j hj => by rw [Nat.zero_add]; exact h.cell j hj⟩⟩

def SPB (w : World) (sb f : Nat) : Prop:=w.heap[sb]? = some (.cells #[.pointer (some ⟨f,0,none⟩)] 338 (0,0))
structure SP (w : World) (sb f : Nat) : Prop where
 b : SPB w sb f
 fl : F w f
 ne : sb ≠ f
section
variable {w w' : World} {sb f : Nat}
theorem SPB.lt (h : SPB w sb f) : sb < w.heap.size:=lt_of_block h
theorem SPB.cell (h : SPB w sb f) : w.cell? ⟨sb,0,none⟩ = some (.pointer (some ⟨f,0,none⟩)):=by rw [cell_of_row w sb 0 _ _ _ h]; rfl
theorem SPB.of_block (h : SPB w sb f) (hb : w'.heap[sb]? = w.heap[sb]?) : SPB w' sb f:=hb.trans h
theorem SP.lt (h : SP w sb f) : sb < w.heap.size:=h.b.lt
theorem SP.ltf (h : SP w sb f) : f < w.heap.size:=h.fl.lt
theorem SP.field (h : SP w sb f) (hg : w.grownBy w' (some f)) (hF : F w' f) : SP w' sb f:=⟨h.b.of_block (hg.block sb h.b.lt (by simp; exact h.ne)),hF,h.ne⟩
theorem SP.below (h : SP w sb f) {B : Nat} (hb : Below B w w') (hB : w.heap.size ≤ B) : SP w' sb f:=⟨h.b.of_block (hb.block sb (Nat.lt_of_lt_of_le h.b.lt hB)),h.fl.below hb hB,h.ne⟩
theorem SP.set (h : SP w sb f) {c : Nat} {cs : Array Value} {T : TypeId} {fr : Nat × Nat} (hc : w.heap[c]? = some (.cells cs T fr)) (h1 : T ≠ 354) (h2 : T ≠ 394) (h3 : T ≠ 338) (hg : w.grownBy w' (some c)) : SP w' sb f:=by
 have ne : sb ≠ c:=by
  intro e
  subst e
  have:=h.b
  unfold SPB at this
  rw [hc] at this
  simp at this
  exact h3 this.2.1
 exact ⟨h.b.of_block (hg.block sb h.b.lt (by simp; exact ne)),h.fl.set hc h1 h2 hg,h.ne⟩
end

theorem mnew_any (w : World) : Calls Tryz.prog 238 #[] w fun e w' => ∃ sb f,e = .returned (.pointer (some ⟨sb,0,none⟩))∧SP w' sb f∧w.heap.size ≤ f∧w.heap.size ≤ sb∧Below w.heap.size w w':=by
 go_enter Tryz.func238,Tryz.ntmps238
 go_wp2_with fail
 refine (new_any _).mono ?_
 rintro e w1 ⟨rfl,hF,hb⟩
 have hlt:=hF.lt
 go_wp2
 go_ret
 exact ⟨w1.heap.size,w.heap.size,rfl,⟨heap_alloc_new w1 _,hF.below ((Below.refl w1.heap.size w1).alloc (Nat.le_refl _) _) (Nat.le_refl _),by omega⟩,Nat.le_refl _,hb.size,hb.alloc hb.size _⟩

theorem made_kcells (n : Nat) : madeCells #[.int .i64 0] n = (kcells n (fun _ => 0) ++ []).toArray:=by
 apply Array.toList_inj.1
 rw [toList_madeCells_one]
 apply List.ext_getElem?
 intro i
 by_cases hi : i < n
 ·rw [List.append_nil,kcells_get _ hi]; simp [hi]; rfl
 ·rw [List.getElem?_eq_none (by simp; omega),List.getElem?_eq_none (by simp [kcells_length]; omega)]

theorem zeros_any (w : World) (r c : Nat) (hr : r ≤ 255) (hc : c ≤ 255) : Calls Tryz.prog 259 #[.int .i64 r,.int .i64 c] w fun e w' => ∃ g,e = .returned (.agg #[.int .i64 r,.int .i64 c,.slice (some ⟨g,0,none⟩) (r * c) (r * c)])∧KB w' g (r * c) (fun _ => 0)∧w.heap.size ≤ g∧Below w.heap.size w w':=by
 have hrc : r * c ≤ 255 * 255:=Nat.mul_le_mul hr hc
 obtain ⟨n,hn⟩ : ∃ n,n = r * c:=⟨_,rfl⟩
 have hm : (r : Int) * (c : Int) = (n : Int):=by rw [← Int.natCast_mul,hn]
 rw [← hn] at hrc ⊢
 clear hn
 have hmk : ∀ w : World,_:=fun w => run_make_row' (P:=Tryz.prog) 162 3 (.int .i64 0) 8 Tryz.underlying162 Tryz.info3 rfl .i64 .i64 n (by omega) (by omega) w
 go_enter Tryz.func259,Tryz.ntmps259
 go_wp2
 refine bodyPost_ret (v:=.agg #[.int .i64 r,.int .i64 c,.slice (some ⟨w.heap.size + 1,0,none⟩) n n]) (by simp [results,Tryz.results259,go_sem]) rfl ⟨_,rfl,⟨[],?_⟩,by omega,((Below.refl _ _).alloc (Nat.le_refl _) _).alloc (by simp) _⟩
 rw [← made_kcells]
 have:=heap_alloc_new (w.alloc (.cells #[.int .i64 r,.int .i64 c,.slice (some ⟨w.heap.size + 1,0,none⟩) n n] 313)) (.cells (madeCells #[.int .i64 0] n) 3)
 simpa using this

theorem row_any (w : World) (i : Nat) {r : Int} {c : Nat} (hi : i < 255) (h1 : 1 ≤ c) (hc : c ≤ 255) {b k cp n : Nat} (h : (i + 1) * c ≤ n) (hn : n ≤ cp) : Calls Tryz.prog 261 #[.agg #[.int .i64 r,.int .i64 c,.slice (some ⟨b,k,none⟩) n cp],.int .i64 i] w fun e w' => e = .returned (.slice (some ⟨b,k + i * c,none⟩) c c)∧Below w.heap.size w w':=by
 have hrc : (i + 1) * c ≤ 255 * 255:=Nat.mul_le_mul (by omega) hc
 obtain ⟨x,hx⟩ : ∃ x,x = i * c:=⟨_,rfl⟩
 have hx2 : (i + 1) * c = x + c:=by rw [Nat.add_mul,Nat.one_mul,hx]
 have hm : (i : Int) * (c : Int) = (x : Int):=by rw [← Int.natCast_mul,hx]
 have hm2 : ((i : Int) + 1) * (c : Int) = (x : Int) + (c : Int):=by rw [Int.add_mul,Int.one_mul,hm]
 rw [← hx]
 rw [hx2] at h hrc
 clear hx hx2
 go_enter Tryz.func261,Tryz.ntmps261
 go_wp2
 go_quiet (fail)
 go_wp2
 go_ret
 exact ⟨by rw [show x + c - x = c by omega]; rfl,below_drew ((Below.refl _ _).alloc (Nat.le_refl _) _) _⟩
end Go.Proofs.YtagijldedngcoaaGreatDoor.Zq

namespace Go.Proofs.YtagijldedngcoaaGreatDoor.Zq
open Go.RowKit Go.Lib

def upB (most : Int) (Z : Nat→Int) (n : Nat) : Bool:=allB (fun j => decide (0 ≤ Z j) && decide (Z j ≤ most)) n
theorem upB_succ (most : Int) (Z : Nat→Int) (n : Nat) : upB most Z (n + 1) = ((decide (0 ≤ Z n) && decide (Z n ≤ most)) && upB most Z n):=rfl
theorem upB_false (most : Int) (Z : Nat→Int) : ∀ (n j : Nat),j < n→(decide (0 ≤ Z j) && decide (Z j ≤ most)) = false→upB most Z n = false
 | n + 1,j,hj,h => by
  rw [upB_succ]
  by_cases e : j = n
  ·subst e; rw [h]; rfl
  ·rw [upB_false most Z n j (by omega) h,Bool.and_false]
def inB (most x : Int) : Bool:=decide (0 ≤ x) && decide (x ≤ most)
theorem out1_any {w : World} {mb : Nat} {most : Int} (x : Int) (hm : w.cell? ⟨mb,0,none⟩ = some (.int .i64 most)) :
  Calls Tryz.prog 329 #[.int .i64 x,.pointer (some ⟨mb,0,none⟩)] w fun e w' => e = .returned (.bool (!(inB most x)))∧w' = w:=by
 by_cases h : 0 ≤ x
 ·have h' : ¬ x < 0:=by omega
  by_cases h2 : x ≤ most
  ·rw [show inB most x = true by simp [inB,h,h2]]
   have h2' : ¬ most < x:=by omega
   go_enter Tryz.func329,Tryz.ntmps329
   go_wp2
   go_ret
   exact ⟨rfl,rfl⟩
  ·rw [show inB most x = false by simp [inB,h2]]
   have h2' : most < x:=by omega
   go_enter Tryz.func329,Tryz.ntmps329
   go_wp2
   go_ret
   exact ⟨rfl,rfl⟩
 ·rw [show inB most x = false by simp [inB,h]]
  have h' : x < 0:=by omega
  go_enter Tryz.func329,Tryz.ntmps329
  go_wp2
  go_ret
  exact ⟨rfl,rfl⟩

theorem idxI_any {w : World} {f n : Nat} {v : Value} {Z : Nat→Int} {mb : Nat} {most : Int} (h : NX w f v n Z) (hm : w.cell? ⟨mb,0,none⟩ = some (.int .i64 most)) (hn : n ≤ 140737488355328) :
  Calls Tryz.prog 337 #[v,.func (.func 329) #[] #[.pointer (some ⟨mb,0,none⟩)]] w fun e w' => w' = w∧∃ r : Int,e = .returned (.int .i64 r)∧(decide (0 ≤ r)) = !(upB most Z n):=by
 obtain ⟨a,c,rfl,hc,h⟩:=h
 have H : Hid _:=h
 clear h
 go_enter Tryz.func337,Tryz.ntmps337
 go_wp2
 go_loop [8] (fun i => ∃ j : Nat,j ≤ n∧i = .int .i64 j∧upB most Z j = true) (fun i => n - (RowKit.intOf i).toNat)
 case atStart => exact ⟨0,Nat.zero_le _,rfl,rfl⟩
 case round =>
  obtain ⟨j,hj,rfl,hup⟩:=hrel
  have HU : Hid _:=hup
  clear hup
  by_cases hlt : j < n
  ·obtain ⟨bl,off,rfl,hbl,hf,hcl⟩:=H.out.resolve_left (by omega)
   have c1:=hcl j hlt
   have b0 : (0 : Int) ≤ (j : Int):=by omega
   have b1 : (j : Int) < (n : Int):=by omega
   clear hcl
   cases hin : inB most (Z j)
   ·have HO : Hid (upB most Z n = false):=upB_false most Z n j hlt hin
    go_wp2_with fail
    refine (out1_any _ hm).mono ?_
    rintro e w1 ⟨rfl,hw1⟩
    subst w1
    rw [hin]
    go_wp2
    try rw [Exit.noGoto_ret]
    go_ret
    exact ⟨rfl,j,rfl,by rw [HO.out]; simp⟩
   ·have HO : Hid (upB most Z (j + 1) = true):=by
     show _ = _
     rw [upB_succ,show (decide (0 ≤ Z j) && decide (Z j ≤ most)) = true from hin,HU.out]; rfl
    go_wp2_with fail
    refine (out1_any _ hm).mono ?_
    rintro e w1 ⟨rfl,hw1⟩
    subst w1
    rw [hin]
    go_wp2
    exact ⟨⟨j + 1,by omega,by go_num,HO.out⟩,by simp [RowKit.intOf]; omega⟩
  ·obtain rfl : j = n:=by omega
   go_wp2
   try rw [Exit.noGoto_ret]
   go_ret
   exact ⟨rfl,-1,rfl,by rw [HU.out]; rfl⟩
theorem contains_any {w : World} {f n : Nat} {v : Value} {Z : Nat→Int} {mb : Nat} {most : Int} (h : NX w f v n Z) (hm : w.cell? ⟨mb,0,none⟩ = some (.int .i64 most)) (hn : n ≤ 140737488355328) :
  Calls Tryz.prog 328 #[v,.func (.func 329) #[] #[.pointer (some ⟨mb,0,none⟩)]] w fun e w' => e = .returned (.bool (!(upB most Z n)))∧w' = w:=by
 obtain ⟨a,c,rfl,hc⟩:=id h
 have H : Hid _:=h
 clear h hc
 go_enter Tryz.func328,Tryz.ntmps328
 go_wp2_with fail
 refine (idxI_any H.out hm hn).mono ?_
 rintro e w1 ⟨hw1,r,rfl,hr⟩
 subst w1
 have HR : Hid _:=hr
 clear hr
 cases hu : upB most Z n
 ·have hr : (0 ≤ r):=by have:=HR.out; rw [hu] at this; simpa using this
  go_wp2
  go_ret
  exact ⟨by simp [hu],rfl⟩
 ·have hr : ¬ (0 ≤ r):=by have:=HR.out; rw [hu] at this; simpa using this
  go_wp2
  go_ret
  exact ⟨by simp [hu,hr],rfl⟩
theorem allUp_any {w : World} {f n : Nat} {v : Value} {Z : Nat→Int} {most : Int} (h : NX w f v n Z) (hn : n ≤ 140737488355328) :
  Calls Tryz.prog 321 #[.int .i64 most,v] w fun e w' => e = .returned (.bool (upB most Z n))∧Below w.heap.size w w':=by
 have h1:=h.grown (gb_below ((Below.refl w.heap.size w).alloc (Nat.le_refl _) (.cells #[.int .i64 most] 3)) (some f))
 clear h
 obtain ⟨a,c,rfl,hc⟩:=id h1
 have H : Hid _:=h1
 clear h1 hc
 go_enter Tryz.func321,Tryz.ntmps321
 go_wp2_with fail
 refine (contains_any H.out (most:=most) ?_ hn).mono ?_
 ·simp
 rintro e w1 ⟨rfl,hw1⟩
 subst w1
 go_wp2
 go_ret
 exact ⟨by simp,(Below.refl _ _).alloc (Nat.le_refl _) _⟩

def chk (r c : Int) (n : Nat) (Z : Nat→Int) : Int:=if isSd r = false then 1 else if isSd c = false then 1 else if (n : Int) ≠ r * c then 4 else if upB 255 Z n = false then 1 else 0
theorem isSd_out {r : Int} (h : isSd r = true) : ∃ k : Nat,r = k∧1 ≤ k∧k ≤ 255:=by
 simp [isSd] at h
 exact ⟨r.toNat,by omega,by omega,by omega⟩
theorem isSd_nat {r : Nat} (h1 : 1 ≤ r) (h2 : r ≤ 255) : isSd (r : Int) = true:=by simp [isSd]; omega

theorem check_any {w : World} {f n : Nat} {v : Value} {Z : Nat→Int} {r c : Int} (h : NX w f v n Z) (hn : n ≤ 140737488355328) :
  Calls Tryz.prog 320 #[.agg #[.int .i64 r,.int .i64 c,v]] w fun e w' => e = .returned (.int .i64 (chk r c n Z))∧Below w.heap.size w w':=by
 have h1:=h.grown (gb_below ((Below.refl w.heap.size w).alloc (Nat.le_refl _) (.cells #[.int .i64 r,.int .i64 c,v] 313)) (some f))
 clear h
 obtain ⟨a,cp,rfl,hc⟩:=id h1
 have H : Hid _:=h1
 clear h1 hc
 cases er : isSd r
 ·rw [chk,if_pos er]
  go_enter Tryz.func320,Tryz.ntmps320
  go_wp2_with (go_at_call 279; refine (isSide_any _ _).mono ?_; rintro e w1 ⟨rfl,rfl⟩)
  try rw [Exit.noGoto_ret]
  go_ret
  exact ⟨rfl,(Below.refl _ _).alloc (Nat.le_refl _) _⟩
 cases ec : isSd c
 ·rw [chk,if_neg (by simp [er]),if_pos ec]
  go_enter Tryz.func320,Tryz.ntmps320
  go_wp2_with (go_at_call 279; refine (isSide_any _ _).mono ?_; rintro e w1 ⟨rfl,rfl⟩)
  try rw [Exit.noGoto_ret]
  go_ret
  exact ⟨rfl,(Below.refl _ _).alloc (Nat.le_refl _) _⟩
 obtain ⟨r',hr',r1,r2⟩:=isSd_out er
 obtain ⟨c',hc',c1,c2⟩:=isSd_out ec
 have hrc : r' * c' ≤ 255 * 255:=Nat.mul_le_mul r2 c2
 obtain ⟨m,hm⟩ : ∃ m,m = r' * c':=⟨_,rfl⟩
 have hm1 : r * c = (m : Int):=by rw [hr',hc',← Int.natCast_mul,hm]
 by_cases hnm : n = m
 ·subst hnm
  rw [chk,if_neg (by simp [er]),if_neg (by simp [ec]),if_neg (by simp [hm1])]
  clear hm hrc hr' hc'
  cases eu : upB 255 Z n
  ·rw [if_pos rfl]
   go_enter Tryz.func320,Tryz.ntmps320
   go_wp2_with (first | (go_at_call 279; refine (isSide_any _ _).mono ?_; rintro e w1 ⟨rfl,rfl⟩) | fail)
   refine (allUp_any H.out hn).mono ?_
   rintro e w1 ⟨rfl,hb⟩
   rw [eu]
   go_wp2
   try rw [Exit.noGoto_ret]
   go_ret
   exact ⟨rfl,below_step ((Below.refl _ _).alloc (Nat.le_refl _) _) hb⟩
  ·rw [if_neg (by simp)]
   go_enter Tryz.func320,Tryz.ntmps320
   go_wp2_with (first | (go_at_call 279; refine (isSide_any _ _).mono ?_; rintro e w1 ⟨rfl,rfl⟩) | fail)
   refine (allUp_any H.out hn).mono ?_
   rintro e w1 ⟨rfl,hb⟩
   rw [eu]
   go_wp2
   try rw [Exit.noGoto_ret]
   go_ret
   exact ⟨rfl,below_step ((Below.refl _ _).alloc (Nat.le_refl _) _) hb⟩
 ·rw [chk,if_neg (by simp [er]),if_neg (by simp [ec]),if_pos (by rw [hm1]; omega)]
  have hne : ((n : Int) != (m : Int)) = true:=by simp; omega
  rw [← hm] at hrc
  clear hm hr' hc' hnm
  go_enter Tryz.func320,Tryz.ntmps320
  go_wp2_with (first | (go_at_call 279; refine (isSide_any _ _).mono ?_; rintro e w1 ⟨rfl,rfl⟩) | fail)
  try rw [Exit.noGoto_ret]
  go_ret
  exact ⟨rfl,(Below.refl _ _).alloc (Nat.le_refl _) _⟩
end Go.Proofs.YtagijldedngcoaaGreatDoor.Zq

namespace Go.Proofs.YtagijldedngcoaaGreatDoor.Zq
open Go.RowKit Go.Lib

structure Two (f g : Nat) (w w' : World) : Prop where
 os : w'.os = w.os
 tape : w'.tape = w.tape
 output : w'.output = w.output
 size : w.heap.size ≤ w'.heap.size
 block : ∀ k,k < w.heap.size→k ≠ f→k ≠ g→w'.heap[k]? = w.heap[k]?
theorem Two.refl (f g : Nat) (w : World) : Two f g w w:=⟨rfl,rfl,rfl,Nat.le_refl _,fun _ _ _ _ => rfl⟩
theorem Two.gb {f g b : Nat} {w w' w'' : World} (h : Two f g w w') (k : w'.grownBy w'' (some b)) (hb : b = f ∨ b = g) : Two f g w w'' :=
 ⟨k.os.trans h.os,k.tape.trans h.tape,k.output.trans h.output,Nat.le_trans h.size k.size,fun i hi h1 h2 => (k.block i (Nat.lt_of_lt_of_le hi h.size) (by simp; rcases hb with rfl | rfl <;> assumption)).trans (h.block i hi h1 h2)⟩
theorem SP.kset {w w' : World} {sb f g n : Nat} {G : Nat→K} (h : SP w sb f) (hG : KB w g n G) (hg : w.grownBy w' (some g)) : SP w' sb f:=by
 obtain ⟨Z,hG⟩:=hG
 exact h.set hG (by decide) (by decide) (by decide) hg

theorem SP.kne {w : World} {sb f g n : Nat} {G : Nat→K} (hS : SP w sb f) (hG : KB w g n G) : g ≠ f:=by
 intro e
 subst e
 obtain ⟨Z,hG⟩:=hG
 rcases hS.fl with h | ⟨_,_,h,_⟩ <;> (unfold FB at h; rw [hG] at h; simp at h)
theorem SP.kns {w : World} {sb f g n : Nat} {G : Nat→K} (hS : SP w sb f) (hG : KB w g n G) : sb ≠ g:=by
 intro e
 subst e
 obtain ⟨Z,hG⟩:=hG
 have h:=hS.b
 unfold SPB at h
 rw [hG] at h
 simp at h

def adds (G : Nat→K) (o : Nat) (H : Nat→K) (c : K) (j : Nat) : Nat→K:=fun k => if o ≤ k∧k < o + j then G k + H (k - o) * c else G k
theorem adds_zero (G : Nat→K) (o : Nat) (H : Nat→K) (c : K) : adds G o H c 0 = G:=by
 funext k; rw [adds,if_neg (by omega)]
theorem adds_at (G : Nat→K) (o : Nat) (H : Nat→K) (c : K) (j : Nat) : adds G o H c j (o + j) = G (o + j):=by rw [adds,if_neg (by omega)]
theorem adds_step (G : Nat→K) (o : Nat) (H : Nat→K) (c : K) (j k : Nat) : (if k = o + j then G (o + j) + H j * c else adds G o H c j k) = adds G o H c (j + 1) k:=by
 by_cases e : k = o + j
 ·subst e; rw [if_pos rfl,adds,if_pos (by omega),show o + j - o = j by omega]
 ·rw [if_neg e,adds,adds]
  by_cases h : o ≤ k∧k < o + j
  ·rw [if_pos h,if_pos (by omega)]
  ·rw [if_neg h,if_neg (by omega)]

def RD (w : World) (b o n : Nat) (H : Nat→K) : Prop:=∀ j,j < n→w.cell? ⟨b,o + j,none⟩ = some (.int .i64 (((H j).v : Nat) : Int))

theorem addTimes_any {w : World} {sb f g o N cp bl ol n cl : Nat} {G H : Nat→K} (hS : SP w sb f) (hG : KB w g N G) (hL : RD w bl ol n H) (hbl : bl < w.heap.size) (hblf : bl ≠ f) (hblg : bl ≠ g) (hon : o + n ≤ N) (hN : N < 2 ^ 62) (c : K) :
  Calls Tryz.prog 339 #[.pointer (some ⟨sb,0,none⟩),.slice (some ⟨g,o,none⟩) n cp,.slice (some ⟨bl,ol,none⟩) n cl,.int .i64 ((c.v : Nat) : Int)] w fun e w' => e = .returned (.tuple #[])∧SP w' sb f∧KB w' g N (adds G o H c n)∧Two f g w w':=by
 by_cases hc : c.v = 0
 ·have e0 : c = 0:=K.ext hc
  have e1 : adds G o H c n = G:=by
   funext k; rw [adds,e0]; split
   ·rw [K.mul_zero,K.add_zero]
   ·rfl
  rw [e1]
  have HS:=hide hS
  have HG:=hide hG
  clear hS hG hL e1
  rw [hc]
  go_enter Tryz.func339,Tryz.ntmps339
  go_wp2
  exact bodyPost_ret (results_none rfl _ _ _) rfl ⟨rfl,HS.out,HG.out,Two.refl _ _ _⟩
 ·have hc' : (((c.v : Nat) : Int) == 0) = false:=by simp; omega
  have HS:=hide hS
  have HG:=hide hG
  have HL:=hide hL
  have hgf : g ≠ f:=hS.kne hG
  clear hS hG hL
  go_enter Tryz.func339,Tryz.ntmps339
  go_wp2
  go_loopw [16] (fun i wr => ∃ j : Nat,j ≤ n∧i = .int .i64 j∧SP wr sb f∧KB wr g N (adds G o H c j)∧Two f g w wr) (fun i _ => n - (RowKit.intOf i).toNat)
  case atStart => exact ⟨0,Nat.zero_le _,rfl,HS.out,by rw [adds_zero]; exact HG.out,Two.refl _ _ _⟩
  case round =>
   obtain ⟨j,hj,rfl,hS,hG,hT⟩:=hrel
   by_cases hlt : j < n
   ·have c1:=(cell_congr (hT.block bl hbl hblf hblg)).trans (HL.out j hlt)
    have c2:=hS.b.cell
    have b0 : (0 : Int) ≤ (j : Int):=by omega
    have b1 : (j : Int) < (n : Int):=by omega
    have HS1:=hide hS
    have HG1:=hide hG
    have HT1:=hide hT
    clear hS hG hT
    go_wp2_with fail
    refine (mul_ok HS1.out.fl (H j).v c.v (H j).lt c.lt).mono ?_
    rintro e w1 ⟨rfl,hF1,hg1⟩
    have hS1:=HS1.out.field hg1 hF1
    have hG1:=HG1.out.of_block (hg1.block g HG1.out.lt (by simp; exact hgf))
    have hT1:=HT1.out.gb hg1 (.inl rfl)
    have c3:=hG1.cell (o + j) (by omega)
    rw [adds_at] at c3
    have z3:=hG1.free (o + j)
    obtain ⟨y,hy⟩ : ∃ y,y = G (o + j) + H j * c:=⟨_,rfl⟩
    have hx : bits .xor .i64 (((G (o + j)).v : Nat) : Int) ((prod (H j).v c.v : Nat) : Int) = (((G (o + j) + H j * c).v : Nat) : Int):=xor_i64 _ _ (Nat.lt_of_lt_of_le (G (o + j)).lt (by decide)) (Nat.lt_of_lt_of_le (prod_lt _ _) (by decide))
    have HS2:=hide hS1
    have HG2:=hide hG1
    have HT2:=hide hT1
    clear hS1 hG1 hT1 hF1 hg1
    rw [← hy] at hx
    have HY:=hide hy
    clear hy
    go_wp2
    refine ⟨⟨j + 1,by omega,by go_num,HS2.out.kset HG2.out (gb_set w1 g (o + j) _),?_,HT2.out.gb (gb_set w1 g (o + j) _) (.inr rfl)⟩,by simp [RowKit.intOf]; omega⟩
    exact (HG2.out.set (o + j) (by omega) y).congr (fun k _ => by rw [HY.out,adds_step])
   ·obtain rfl : j = n:=by omega
    have HS1:=hide hS
    have HG1:=hide hG
    have HT1:=hide hT
    clear hS hG hT
    go_wp2
    go_end0
    exact ⟨rfl,HS1.out,HG1.out,HT1.out⟩
end Go.Proofs.YtagijldedngcoaaGreatDoor.Zq

namespace Go.Proofs.YtagijldedngcoaaGreatDoor.Zq
open K
def mt (c : Nat) (A : Nat→K) : Mt:=fun i j => A (i * c + j)
def flat (c : Nat) (M : Mt) : Nat→K:=fun k => M (k / c) (k % c)
theorem div_at {c i j : Nat} (h : j < c) : (i * c + j) / c = i:=by rw [Nat.mul_comm,Nat.mul_add_div (by omega),Nat.div_eq_of_lt h,Nat.add_zero]
theorem mod_at {c i j : Nat} (h : j < c) : (i * c + j) % c = j:=by rw [Nat.mul_comm,Nat.mul_add_mod,Nat.mod_eq_of_lt h]
theorem mt_flat {c : Nat} (M : Mt) (i : Nat) {j : Nat} (h : j < c) : mt c (flat c M) i j = M i j:=by rw [mt,flat,div_at h,mod_at h]
theorem div_lt {k r c : Nat} (h : k < r * c) : k / c < r:=Nat.div_lt_of_lt_mul (by rwa [Nat.mul_comm])
theorem at_lt {i j r c : Nat} (hi : i < r) (hj : j < c) : i * c + j < r * c:=by
 have : (i + 1) * c ≤ r * c:=Nat.mul_le_mul_right _ hi
 rw [Nat.add_mul,Nat.one_mul] at this
 omega
theorem in_row {k i c : Nat} (hc : 0 < c) : (i * c ≤ k∧k < i * c + c) ↔ k / c = i:=by
 constructor
 ·intro ⟨h1,h2⟩
  obtain ⟨j,rfl⟩ : ∃ j,k = i * c + j:=⟨k - i * c,by omega⟩
  exact div_at (by omega)
 ·intro h
  have e:=Nat.div_add_mod k c
  have l:=Nat.mod_lt k hc
  rw [h,Nat.mul_comm] at e
  omega
theorem row_off {k i c : Nat} (h : k / c = i) : k - i * c = k % c:=by
 have e:=Nat.div_add_mod k c
 rw [h,Nat.mul_comm] at e
 omega
end Go.Proofs.YtagijldedngcoaaGreatDoor.Zq

namespace Go.Proofs.YtagijldedngcoaaGreatDoor.Zq
open Go.RowKit Go.Lib

def Bx (w : World) (b : Nat) (r c : Int) (v : Value) : Prop:=w.heap[b]? = some (.cells #[.int .i64 r,.int .i64 c,v] 313 (0,0))
section
variable {w w' : World} {b : Nat} {r c : Int} {v : Value}
theorem Bx.lt (h : Bx w b r c v) : b < w.heap.size:=lt_of_block h
theorem Bx.cell0 (h : Bx w b r c v) : w.cell? ⟨b,0,none⟩ = some (.int .i64 r):=by rw [cell_of_row w b 0 _ _ _ h]; rfl
theorem Bx.cell1 (h : Bx w b r c v) : w.cell? ⟨b,1,none⟩ = some (.int .i64 c):=by rw [cell_of_row w b 1 _ _ _ h]; rfl
theorem Bx.cell2 (h : Bx w b r c v) : w.cell? ⟨b,2,none⟩ = some v:=by rw [cell_of_row w b 2 _ _ _ h]; rfl
theorem Bx.free (h : Bx w b r c v) (j : Nat) : w.frozen? ⟨b,j,none⟩ = false:=frozen_of_row w b j _ _ h
theorem Bx.of_block (h : Bx w b r c v) (hb : w'.heap[b]? = w.heap[b]?) : Bx w' b r c v:=hb.trans h
theorem Bx.below {B : Nat} (h : Bx w b r c v) (ht : Below B w w') (hB : w.heap.size ≤ B) : Bx w' b r c v:=h.of_block (ht.block b (Nat.lt_of_lt_of_le h.lt hB))
theorem Bx.ne {g n : Nat} {G : Nat→K} (h : Bx w b r c v) (hG : KB w g n G) : b ≠ g:=by
 intro e
 subst e
 obtain ⟨Z,hG⟩:=hG
 unfold Bx at h
 rw [hG] at h
 simp at h
end
theorem Bx.put {w : World} {b : Nat} {r c : Int} {v : Value} (h : Bx w b r c v) (r' c' : Int) (v' : Value) :
  Bx (((w.setCell ⟨b,0,none⟩ (.int .i64 r')).setCell ⟨b,1,none⟩ (.int .i64 c')).setCell ⟨b,2,none⟩ v') b r' c' v'∧w.grownBy (((w.setCell ⟨b,0,none⟩ (.int .i64 r')).setCell ⟨b,1,none⟩ (.int .i64 c')).setCell ⟨b,2,none⟩ v') (some b):=by
 refine ⟨?_,gb_trans (gb_trans (gb_set w b 0 _) (gb_set _ b 1 _)) (gb_set _ b 2 _)⟩
 unfold Bx at h ⊢
 rw [show #[Value.int .i64 r,Value.int .i64 c,v] = [Value.int .i64 r,Value.int .i64 c,v].toArray from rfl] at h
 rw [heap_set_list _ (heap_set_list _ (heap_set_list _ h))]
 rfl
theorem KB.below {w w' : World} {g n B : Nat} {G : Nat→K} (h : KB w g n G) (hb : Below B w w') (hB : w.heap.size ≤ B) : KB w' g n G:=h.of_block (hb.block g (Nat.lt_of_lt_of_le h.lt hB))
theorem gb_new {w w1 w2 : World} {f g : Nat} (h : w.grownBy w1 (some f)) (k : w1.grownBy w2 (some g)) (hg : w.heap.size ≤ g) : w.grownBy w2 (some f) :=
 ⟨k.os.trans h.os,k.tape.trans h.tape,k.output.trans h.output,Nat.le_trans h.size k.size,fun i hi hne => (k.block i (Nat.lt_of_lt_of_le hi h.size) (by simp; omega)).trans (h.block i hi hne)⟩

def oneF (n i : Nat) : Nat→K:=fun k => if k / n = k % n∧k / n < i then 1 else 0
theorem oneF_step (n i k : Nat) (hn : i < n) : (if k = i * n + i then 1 else oneF n i k) = oneF n (i + 1) k:=by
 unfold oneF
 by_cases h : k = i * n + i
 ·subst h; rw [if_pos rfl,div_at hn,mod_at hn,if_pos ⟨rfl,by omega⟩]
 ·rw [if_neg h]
  by_cases e : k / n = k % n
  ·by_cases l : k / n < i
   ·rw [if_pos ⟨e,l⟩,if_pos ⟨e,by omega⟩]
   ·rw [if_neg (by intro h; exact l h.2),if_neg]
    rintro ⟨_,h2⟩
    have e2 : k / n = i:=by omega
    have:=Nat.div_add_mod k n
    rw [← e,e2,Nat.mul_comm] at this
    omega
  ·rw [if_neg (by intro h; exact e h.1),if_neg (by intro h; exact e h.1)]
theorem oneF_all (n k : Nat) (h : k < n * n) : oneF n n k = flat n dl k:=by
 unfold oneF flat dl
 have:=div_lt h
 by_cases e : k / n = k % n
 ·rw [if_pos ⟨e,this⟩,if_pos e]
 ·rw [if_neg (by intro h; exact e h.1),if_neg e]

theorem row_at (w : World) (i : Nat) {r : Int} {c : Nat} {b k cp n x : Nat} (hx : x = k + i * c) (hi : i < 255) (h1 : 1 ≤ c) (hc : c ≤ 255) (h : (i + 1) * c ≤ n) (hn : n ≤ cp) : Calls Tryz.prog 261 #[.agg #[.int .i64 r,.int .i64 c,.slice (some ⟨b,k,none⟩) n cp],.int .i64 i] w fun e w' => e = .returned (.slice (some ⟨b,x,none⟩) c c)∧Below w.heap.size w w':=by
 rw [hx]; exact row_any w i hi h1 hc h hn
theorem row_in {i r c : Nat} (h : i < r) : (i + 1) * c ≤ r * c:=Nat.mul_le_mul_right _ h

theorem one_ok (w : World) (n : Nat) (h1 : 1 ≤ n) (h2 : n ≤ 255) : Calls Tryz.prog 258 #[.int .i64 n] w fun e w' => ∃ g,e = .returned (.tuple #[.agg #[.int .i64 n,.int .i64 n,.slice (some ⟨g,0,none⟩) (n * n) (n * n)],.int .i64 0])∧KB w' g (n * n) (flat n dl)∧w.heap.size ≤ g∧Below w.heap.size w w':=by
 have hs:=isSd_nat h1 h2
 have hnn : n * n ≤ 255 * 255:=Nat.mul_le_mul h2 h2
 obtain ⟨N,hN⟩ : ∃ N,N = n * n:=⟨_,rfl⟩
 have HZ : Hid _:=fun w => zeros_any w n n h2 h2
 rw [← hN] at HZ hnn ⊢
 have HN:=hide hN
 clear hN
 go_enter Tryz.func258,Tryz.ntmps258
 go_wp2_with (first | (go_at_call 279; refine (isSide_any _ _).mono ?_; rintro e w1 ⟨rfl,rfl⟩) | fail)
 refine Calls.mono (HZ.out _) ?_
 rintro e w1 ⟨g,rfl,hG,hgs,hb⟩
 have hX : Bx w1 w.heap.size 0 0 (.slice none 0 0):=Bx.below (heap_alloc_new w _) hb (Nat.le_refl _)
 have hb1 : Below w.heap.size w w1:=below_step ((Below.refl _ _).alloc (Nat.le_refl _) _) hb
 have hgs' : w.heap.size ≤ g:=Nat.le_trans (by simp) hgs
 clear hgs hb
 have hg1:=hG.lt
 have hx1:=hX.lt
 have hne:=hX.ne hG
 have A:=(Below.refl w1.heap.size w1).alloc (Nat.le_refl _) (.cells #[.int .i64 n,.int .i64 n,.slice (some ⟨g,0,none⟩) N N] 313)
 have hG2:=hide (hG.below A (Nat.le_refl _))
 have hX2:=hide (hX.below A (Nat.le_refl _))
 have hP2 : Hid (Bx _ w1.heap.size n n (.slice (some ⟨g,0,none⟩) N N)):=heap_alloc_new w1 (.cells #[.int .i64 n,.int .i64 n,.slice (some ⟨g,0,none⟩) N N] 313)
 have hb2:=hide (below_alloc hb1 (.cells #[.int .i64 n,.int .i64 n,.slice (some ⟨g,0,none⟩) N N] 313))
 clear hG hX hb1 A
 go_wp2
 go_loopw [14] (fun i wr => ∃ j : Nat,j ≤ n∧i = .int .i64 j∧KB wr g N (oneF n j)∧Bx wr w1.heap.size n n (.slice (some ⟨g,0,none⟩) N N)∧Bx wr w.heap.size 0 0 (.slice none 0 0)∧Below w.heap.size w wr) (fun i _ => n - (RowKit.intOf i).toNat)
 case atStart => exact ⟨0,Nat.zero_le _,rfl,hG2.out.congr (fun k _ => by rw [oneF,if_neg (by omega)]),hP2.out,hX2.out,hb2.out⟩
 case round =>
  obtain ⟨j,hj,rfl,hG,hP,hX,hb⟩:=hrel
  by_cases hlt : j < n
  ·have p0:=hP.cell0
   have p1:=hP.cell1
   have p2:=hP.cell2
   obtain ⟨x,hx⟩ : ∃ x,x = j * n:=⟨_,rfl⟩
   have hxN : x + j < N:=by rw [HN.out,hx]; exact at_lt hlt hlt
   have HR : Hid _:=fun w => row_at w j (r:=n) (c:=n) (b:=g) (k:=0) (cp:=N) (n:=N) (x:=x) (by omega) (by omega) h1 h2 (by rw [HN.out]; exact row_in hlt) (Nat.le_refl _)
   have HX:=hide hx
   have HG:=hide hG
   have HP:=hide hP
   have HX1:=hide hX
   have HB:=hide hb
   have b0 : (0 : Int) ≤ (j : Int):=by omega
   have b1 : (j : Int) < (n : Int):=by omega
   clear hG hP hX hb hx
   go_wp2_with fail
   refine Calls.mono (HR.out _) ?_
   rintro e w2 ⟨rfl,hb3⟩
   have hG3:=HG.out.below hb3 (Nat.le_refl _)
   have c3:=hG3.cell (x + j) hxN
   have z3:=hG3.free (x + j)
   have hP3:=HP.out.below hb3 (Nat.le_refl _)
   have hX3:=HX1.out.below hb3 (Nat.le_refl _)
   have hb4:=below_step HB.out hb3
   have HG3:=hide hG3
   have HP3:=hide hP3
   have HX3:=hide hX3
   have HB3:=hide hb4
   clear hG3 hP3 hX3 hb4 HG HP HX1 HB hb3 HR p0 p1 p2
   go_wp2
   have gs:=gb_set w2 g (x + j) (.int .i64 1)
   refine ⟨⟨j + 1,by omega,by go_num,?_,HP3.out.of_block (gs.block _ HP3.out.lt (by simp; exact HP3.out.ne HG3.out)),HX3.out.of_block (gs.block _ HX3.out.lt (by simp; exact HX3.out.ne HG3.out)),below_gb HB3.out gs hgs' HB3.out.size⟩,by simp [RowKit.intOf]; omega⟩
   refine (HG3.out.set (x + j) hxN 1).congr (fun k _ => ?_)
   rw [HX.out,oneF_step n j k hlt]
  ·obtain rfl : j = n:=by omega
   have p0:=hP.cell0
   have p1:=hP.cell1
   have p2:=hP.cell2
   have q0:=hX.cell0
   have q1:=hX.cell1
   have q2:=hX.cell2
   have f0:=hX.free
   have hlx:=hX.lt
   have hlp:=hP.lt
   have HG:=hide hG
   have HX1:=hide hX
   have HB:=hide hb
   clear hG hX hb hP
   go_wp2
   obtain ⟨hX5,g5⟩:=HX1.out.put (j : Int) (j : Int) (.slice (some ⟨g,0,none⟩) N N)
   refine bodyPost_ret (v:=.tuple #[.agg #[.int .i64 j,.int .i64 j,.slice (some ⟨g,0,none⟩) N N],.int .i64 0]) (by simp [results,Tryz.results258,go_sem,hX5.cell0,hX5.cell1,hX5.cell2]) rfl ⟨g,rfl,?_,hgs',below_gb HB.out g5 (Nat.le_refl _) HB.out.size⟩
   exact (HG.out.of_block (g5.block g HG.out.lt (by simp; exact fun e => HX1.out.ne HG.out e.symm))).congr (fun k hk => oneF_all j k (by rw [← HN.out]; exact hk))
end Go.Proofs.YtagijldedngcoaaGreatDoor.Zq

namespace Go.Proofs.YtagijldedngcoaaGreatDoor.Zq
open Go.RowKit Go.Lib

theorem Bx.alloc {w : World} {b : Nat} {r c : Int} {v : Value} (h : Bx w b r c v) (o : Obj) : Bx (w.alloc o) b r c v:=h.below ((Below.refl _ _).alloc (Nat.le_refl _) o) (Nat.le_refl _)
theorem Bx.new (w : World) (r c : Int) (v : Value) : Bx (w.alloc (.cells #[.int .i64 r,.int .i64 c,v] 313)) w.heap.size r c v:=heap_alloc_new w _
theorem KB.alloc {w : World} {g n : Nat} {G : Nat→K} (h : KB w g n G) (o : Obj) : KB (w.alloc o) g n G:=h.below ((Below.refl _ _).alloc (Nat.le_refl _) o) (Nat.le_refl _)
theorem SP.alloc {w : World} {sb f : Nat} (h : SP w sb f) (o : Obj) : SP (w.alloc o) sb f:=h.below ((Below.refl _ _).alloc (Nat.le_refl _) o) (Nat.le_refl _)
theorem NX.below {w w' : World} {f n : Nat} {v : Value} {Z : Nat→Int} (h : NX w f v n Z) (hb : Below w.heap.size w w') : NX w' f v n Z:=h.grown (gb_below hb (some f))
theorem NX.alloc {w : World} {f n : Nat} {v : Value} {Z : Nat→Int} (h : NX w f v n Z) (o : Obj) : NX (w.alloc o) f v n Z:=h.below ((Below.refl _ _).alloc (Nat.le_refl _) o)
theorem NX.at {w : World} {f n : Nat} {v : Value} {Z : Nat→Int} (h : NX w f v n Z) (hn : n ≠ 0) : ∃ bl off c,v = .slice (some ⟨bl,off,none⟩) n c∧n ≤ c∧bl < w.heap.size∧bl ≠ f:=by
 obtain ⟨a,c,rfl,hc,h | ⟨bl,off,rfl,h1,h2,_⟩⟩:=h
 ·exact absurd h hn
 ·exact ⟨bl,off,c,rfl,hc,h1,h2⟩
theorem NX.cell_at {w : World} {f n bl off c : Nat} {Z : Nat→Int} (h : NX w f (.slice (some ⟨bl,off,none⟩) n c) n Z) (j : Nat) (hj : j < n) : w.cell? ⟨bl,off + j,none⟩ = some (.int .i64 (Z j)):=by
 obtain ⟨a,c',e,_,h⟩:=h
 simp only [Value.slice.injEq,true_and] at e
 obtain ⟨rfl,rfl⟩:=e
 rcases h with h | ⟨bl',off',ha,_,_,hc⟩
 ·omega
 ·simp only [Option.some.injEq,Addr.mk.injEq,and_true] at ha
  obtain ⟨rfl,rfl⟩:=ha
  exact hc j hj
theorem up_K (n : Nat) (A : Nat→K) : upB 255 (fun k => (((A k).v : Nat) : Int)) n = true:=by
 induction n with
 | zero => rfl
 | succ n ih =>
  have:=(A n).lt
  rw [upB_succ,ih,Bool.and_true]
  simp; omega
theorem chk_ok {r c : Nat} (h1 : 1 ≤ r) (h2 : r ≤ 255) (h3 : 1 ≤ c) (h4 : c ≤ 255) (A : Nat→K) : chk r c (r * c) (fun k => (((A k).v : Nat) : Int)) = 0:=by
 rw [chk,if_neg (by rw [isSd_nat h1 h2]; simp),if_neg (by rw [isSd_nat h3 h4]; simp),if_neg (by simp),if_neg (by rw [up_K]; simp)]

end Go.Proofs.YtagijldedngcoaaGreatDoor.Zq

namespace Go.Proofs.YtagijldedngcoaaGreatDoor.Zq
open Go.RowKit Go.Lib

def xk (i j : Nat) : K:=⟨(i ^^^ j) % 256,Nat.mod_lt _ (by decide)⟩
theorem xk_v {i j : Nat} (hi : i < 256) (hj : j < 256) : (xk i j).v = i ^^^ j:=Nat.mod_eq_of_lt (Nat.xor_lt_two_pow (n:=8) hi hj)
def cauM (k : Nat) : Mt:=fun i j => if i < k then dl i j else K.inv (xk i j)
def cauS (k i j : Nat) : Nat→K:=fun t => if t / k < i ∨ (t / k = i∧t % k < j) then cauM k (t / k) (t % k) else 0
theorem cauS_next (k i t : Nat) (hk : 0 < k) : cauS k i k t = cauS k (i + 1) 0 t:=by
 have:=Nat.mod_lt t hk
 unfold cauS
 by_cases h : t / k < i ∨ (t / k = i∧t % k < k)
 ·rw [if_pos h,if_pos (by omega)]
 ·rw [if_neg h,if_neg (by omega)]
theorem cauS_step (k i j t : Nat) (hj : j < k) (hi : k ≤ i) : (if t = i * k + j then K.inv (xk i j) else cauS k i j t) = cauS k i (j + 1) t:=by
 by_cases h : t = i * k + j
 ·subst h
  rw [if_pos rfl,cauS,div_at hj,mod_at hj,if_pos (by omega),cauM,if_neg (by omega)]
 ·rw [if_neg h]
  unfold cauS
  by_cases h2 : t / k < i ∨ (t / k = i∧t % k < j)
  ·rw [if_pos h2,if_pos (by omega)]
  ·rw [if_neg h2,if_neg]
   intro h3
   apply h
   have e:=Nat.div_add_mod t k
   have h4 : t / k = i:=by omega
   have h5 : t % k = j:=by omega
   rw [h4,h5,Nat.mul_comm] at e
   exact e.symm
theorem cauS_all (k n t : Nat) (h : t < n * k) : cauS k n 0 t = flat k (cauM k) t:=by
 rw [cauS,if_pos (.inl (div_lt h)),flat]
theorem cauS_start (k t : Nat) (hk : 0 < k) : cauS k k 0 t = if t < k * k then flat k dl t else 0:=by
 unfold cauS
 by_cases h : t < k * k
 ·rw [if_pos h,if_pos (.inl (div_lt h)),cauM,if_pos (div_lt h),flat]
 ·rw [if_neg h,if_neg]
  intro h2
  apply h
  have e:=Nat.div_add_mod t k
  have l:=Nat.mod_lt t hk
  have h3 : t / k < k:=by omega
  have : k * (t / k) + k ≤ k * k:=by
   have:=Nat.mul_le_mul_left k (show t / k + 1 ≤ k from h3)
   rwa [Nat.mul_add,Nat.mul_one] at this
  omega

theorem cauchy_bad {w : World} {sv : Value} (k m : Int) (hm' : m ≤ 9223372036854775807) (h : k < 1 ∨ m < 0 ∨ 255 - m < k) : Calls Tryz.prog 239 #[sv,.int .i64 k,.int .i64 m] w fun e w' => e = .returned (.tuple #[.agg #[.int .i64 0,.int .i64 0,.slice none 0 0],.int .i64 1])∧Below w.heap.size w w':=by
 by_cases h1 : k < 1
 ·go_enter Tryz.func239,Tryz.ntmps239
  go_wp2
  exact bodyPost_ret (v:=.tuple #[.agg #[.int .i64 0,.int .i64 0,.slice none 0 0],.int .i64 1]) (by simp [results,Tryz.results239,go_sem]) rfl ⟨rfl,(Below.refl _ _).alloc (Nat.le_refl _) _⟩
 by_cases h2 : m < 0
 ·go_enter Tryz.func239,Tryz.ntmps239
  go_wp2
  exact bodyPost_ret (v:=.tuple #[.agg #[.int .i64 0,.int .i64 0,.slice none 0 0],.int .i64 1]) (by simp [results,Tryz.results239,go_sem]) rfl ⟨rfl,(Below.refl _ _).alloc (Nat.le_refl _) _⟩
 have h3 : 255 - m < k:=by omega
 clear h
 go_enter Tryz.func239,Tryz.ntmps239
 go_wp2
 exact bodyPost_ret (v:=.tuple #[.agg #[.int .i64 0,.int .i64 0,.slice none 0 0],.int .i64 1]) (by simp [results,Tryz.results239,go_sem]) rfl ⟨rfl,(Below.refl _ _).alloc (Nat.le_refl _) _⟩

def splF (o M : Nat) (a b : Nat→K) : Nat→K:=fun t => if o ≤ t∧t < o + M then a (t - o) else b t
theorem kcells_splice {o M N : Nat} (a b : Nat→K) (Z : List Value) (h : o + M ≤ N) : List.take o (kcells N b ++ Z) ++ (kcells M a ++ List.drop (o + M) (kcells N b ++ Z)) = kcells N (splF o M a b) ++ Z:=by
 apply List.ext_getElem?
 intro i
 have lt : (List.take o (kcells N b ++ Z)).length = o:=by rw [List.length_take,List.length_append,kcells_length]; omega
 by_cases h1 : i < o
 ·rw [List.getElem?_append_left (by omega),List.getElem?_take,if_pos h1,List.getElem?_append_left (by rw [kcells_length]; omega),List.getElem?_append_left (by rw [kcells_length]; omega),kcells_get _ (by omega),kcells_get _ (by omega),splF,if_neg (by omega)]
 rw [List.getElem?_append_right (by omega),lt]
 by_cases h2 : i < o + M
 ·rw [List.getElem?_append_left (by rw [kcells_length]; omega),List.getElem?_append_left (by rw [kcells_length]; omega),kcells_get _ (by omega),kcells_get _ (by omega),splF,if_pos (by omega)]
 rw [List.getElem?_append_right (by rw [kcells_length]; omega),kcells_length,List.getElem?_drop,show o + M + (i - o - M) = i by omega]
 by_cases h3 : i < N
 ·rw [List.getElem?_append_left (by rw [kcells_length]; omega),List.getElem?_append_left (by rw [kcells_length]; omega),kcells_get _ h3,kcells_get _ h3,splF,if_neg (by omega)]
 ·rw [List.getElem?_append_right (by rw [kcells_length]; omega),List.getElem?_append_right (by rw [kcells_length]; omega),kcells_length,kcells_length]

theorem Tryz.size3 : (Tryz.prog.info? 3).map (·.size) = some 1:=by kernel_rfl
structure CauI (w : World) (sb f g N pb : Nat) (rr cc : Nat) (G : Nat→K) (wr : World) : Prop where
 S : SP wr sb f
 G : KB wr g N G
 r : Bx wr w.heap.size 0 0 (.slice none 0 0)
 p : Bx wr pb rr cc (.slice (some ⟨g,0,none⟩) N N)
 gr : w.grownBy wr (some f)
theorem CauI.congr {w : World} {sb f g N pb rr cc : Nat} {G G' : Nat→K} {wr : World} (h : CauI w sb f g N pb rr cc G wr) (e : ∀ t,G t = G' t) : CauI w sb f g N pb rr cc G' wr:=⟨h.S,h.G.congr (fun t _ => e t),h.r,h.p,h.gr⟩
structure Mid (sb f : Nat) (w w' : World) : Prop where
 S : SP w' sb f
 gr : w.grownBy w' (some f)
theorem cell_off {w : World} {g i : Nat} {u : Value} {b j : Nat} (h : b ≠ g) : (w.setCell ⟨g,i,none⟩ u).cell? ⟨b,j,none⟩ = w.cell? ⟨b,j,none⟩:=cell_congr (heap_setCell_other w ⟨g,i,none⟩ b u h)

theorem cauchy_ok {w : World} {sb f k m : Nat} (hS : SP w sb f) (k1 : 1 ≤ k) (km : k + m ≤ 255) :
  Calls Tryz.prog 239 #[.pointer (some ⟨sb,0,none⟩),.int .i64 k,.int .i64 m] w fun e w' =>
   ∃ g,e = .returned (.tuple #[.agg #[.int .i64 ((k + m : Nat) : Int),.int .i64 k,.slice (some ⟨g,0,none⟩) ((k + m) * k) ((k + m) * k)],.int .i64 0])∧KB w' g ((k + m) * k) (flat k (cauM k))∧w.heap.size ≤ g∧SP w' sb f∧w.grownBy w' (some f):=by
 obtain ⟨n,hn⟩ : ∃ n,n = k + m:=⟨_,rfl⟩
 have hni : (k : Int) + (m : Int) = (n : Int):=by omega
 rw [← hn] at km ⊢
 have hkn : k ≤ n:=by omega
 have hNN : n * k ≤ 255 * 255:=Nat.mul_le_mul km (by omega)
 have hMM : k * k ≤ n * k:=Nat.mul_le_mul_right _ hkn
 have HZ : Hid _:=fun w => zeros_any w n k km (by omega)
 have HO : Hid _:=fun w => one_ok w k k1 (by omega)
 have QN : Hid (∀ i,i < n→(i + 1) * k ≤ n * k):=fun i hi => row_in hi
 have QP : Hid (∀ t,t < n * k→cauS k n 0 t = flat k (cauM k) t):=fun t ht => cauS_all k n t ht
 have QS : Hid (∀ t,cauS k k 0 t = if t < k * k then flat k dl t else 0):=fun t => cauS_start k t k1
 generalize n * k = N at *
 generalize k * k = M at *
 have hlt:=hS.lt
 have hltf:=hS.ltf
 have S1:=hide (hS.alloc (.cells #[.int .i64 0,.int .i64 0,.slice none 0 0] 313))
 have X6:=hide (Bx.new w 0 0 (.slice none 0 0))
 have L1:=hide (below_alloc (Below.refl w.heap.size w) (.cells #[.int .i64 0,.int .i64 0,.slice none 0 0] 313))
 clear hS hn
 have i1 : ¬ (k : Int) < 1:=by omega
 have i2 : ¬ (m : Int) < 0:=by omega
 have i3 : ¬ (255 : Int) - (m : Int) < (k : Int):=by omega
 go_enter Tryz.func239,Tryz.ntmps239
 go_wp2_with fail
 refine Calls.mono (HO.out _) ?_
 rintro e w1 ⟨og,rfl,hO,hog,j1⟩
 have S2:=(S1.out.below j1 (Nat.le_refl _)).alloc (.cells #[.int .i64 k,.int .i64 k,.slice (some ⟨og,0,none⟩) M M] 313)
 have X62:=(X6.out.below j1 (Nat.le_refl _)).alloc (.cells #[.int .i64 k,.int .i64 k,.slice (some ⟨og,0,none⟩) M M] 313)
 have X82:=Bx.new w1 k k (.slice (some ⟨og,0,none⟩) M M)
 have O2:=hO.alloc (.cells #[.int .i64 k,.int .i64 k,.slice (some ⟨og,0,none⟩) M M] 313)
 have L2:=below_alloc (below_step L1.out j1) (.cells #[.int .i64 k,.int .i64 k,.slice (some ⟨og,0,none⟩) M M] 313)
 have hsz:=(below_step L1.out j1).size
 have HS2:=hide S2
 have HX62:=hide X62
 have HX82:=hide X82
 have HO2:=hide O2
 have HL2:=hide L2
 clear S1 X6 L1 j1 hO hog S2 X62 X82 O2 L2 HO
 go_wp2_with fail
 refine Calls.mono (HZ.out _) ?_
 rintro e w2 ⟨g,rfl,hG,hgs,j2⟩
 have hgs' : w.heap.size ≤ g:=Nat.le_trans HL2.out.size hgs
 have S3:=(HS2.out.below j2 (Nat.le_refl _)).alloc (.cells #[.int .i64 n,.int .i64 k,.slice (some ⟨g,0,none⟩) N N] 313)
 have X63:=(HX62.out.below j2 (Nat.le_refl _)).alloc (.cells #[.int .i64 n,.int .i64 k,.slice (some ⟨g,0,none⟩) N N] 313)
 have X83:=(HX82.out.below j2 (Nat.le_refl _)).alloc (.cells #[.int .i64 n,.int .i64 k,.slice (some ⟨g,0,none⟩) N N] 313)
 have X10:=Bx.new w2 n k (.slice (some ⟨g,0,none⟩) N N)
 have O3:=(HO2.out.below j2 (Nat.le_refl _)).alloc (.cells #[.int .i64 n,.int .i64 k,.slice (some ⟨g,0,none⟩) N N] 313)
 have G3:=hG.alloc (.cells #[.int .i64 n,.int .i64 k,.slice (some ⟨g,0,none⟩) N N] 313)
 have L3:=below_alloc (below_step HL2.out j2) (.cells #[.int .i64 n,.int .i64 k,.slice (some ⟨g,0,none⟩) N N] 313)
 have hsz2:=(below_step HL2.out j2).size
 have p2:=X10.cell2
 have q2:=X83.cell2
 obtain ⟨Z,hZ⟩:=id G3
 have HS3:=hide S3
 have HX63:=hide X63
 have HX10:=hide X10
 have HO3:=hide O3
 have HG3:=hide G3
 have HL3:=hide L3
 have HZZ:=hide hZ
 clear HS2 HX62 HX82 HO2 HL2 hG hgs j2 S3 X63 X83 X10 O3 G3 L3 HZ hZ
 obtain ⟨RR,hRR⟩ : ∃ RR,RR = (List.take 0 (kcells N (fun _ => 0) ++ Z) ++ kcells M (flat k dl) ++ List.drop (0 + (kcells M (flat k dl)).length) (kcells N (fun _ => 0) ++ Z)).toArray:=⟨_,rfl⟩
 have hcp:=run_copy_row (P:=Tryz.prog) (w2.alloc (.cells #[.int .i64 n,.int .i64 k,.slice (some ⟨g,0,none⟩) N N] 313)) 162 162 3 3 g 0 N N ⟨og,0,none⟩ M M _ 3 (kcells M (flat k dl)) Tryz.underlying162 Tryz.size3 HZZ.out (by rw [kcells_length]; exact (Nat.min_eq_left hMM).symm)
  (fun j v hj => by
   have hj' : j < M:=by have:=(List.getElem?_eq_some_iff.1 hj).1; rwa [kcells_length] at this
   rw [kcells_get _ hj'] at hj
   cases hj
   rw [Addr.add_mid,Nat.zero_add]
   exact HO3.out.cell j hj')
  (by simp [kcells_length]; omega) (fun v hv => by obtain ⟨_,_,rfl⟩:=List.mem_map.1 hv; rfl)
 simp only [] at hcp
 rw [← hRR] at hcp
 have gr4 : (w2.alloc (.cells #[.int .i64 n,.int .i64 k,.slice (some ⟨g,0,none⟩) N N] 313)).grownBy ((w2.alloc (.cells #[.int .i64 n,.int .i64 k,.slice (some ⟨g,0,none⟩) N N] 313)).setRow g RR) (some g):=⟨rfl,rfl,rfl,by simp [World.setRow],fun k _ hk => setRow_other _ g k _ (by simpa using hk)⟩
 have G4 : KB ((w2.alloc (.cells #[.int .i64 n,.int .i64 k,.slice (some ⟨g,0,none⟩) N N] 313)).setRow g RR) g N (cauS k k 0):=by
  refine ⟨Z,?_⟩
  rw [setRow_heap _ g _ _ 3 _ HZZ.out,hRR,kcells_length,List.append_assoc,kcells_splice _ _ Z (by omega)]
  congr 4
  apply kcells_congr
  intro t _
  rw [QS.out,splF,Nat.zero_add,Nat.sub_zero]
  by_cases h : t < M
  ·rw [if_pos h,if_pos ⟨Nat.zero_le _,h⟩]
  ·rw [if_neg h,if_neg (fun e => h e.2)]
 have I : CauI w sb f g N w2.heap.size n k (cauS k k 0) ((w2.alloc (.cells #[.int .i64 n,.int .i64 k,.slice (some ⟨g,0,none⟩) N N] 313)).setRow g RR) :=
  ⟨HS3.out.kset HG3.out gr4,G4,HX63.out.of_block (gr4.block _ HX63.out.lt (by simp; exact HX63.out.ne HG3.out)),HX10.out.of_block (gr4.block _ HX10.out.lt (by simp; exact HX10.out.ne HG3.out)),gb_new (gb_below HL3.out _) gr4 hgs'⟩
 have HI:=hide I
 clear HS3 HX63 HX10 HO3 HG3 HL3 HZZ hRR gr4 G4 I
 go_wp2
 go_loopw [11] (fun z wr => ∃ i : Nat,k ≤ i∧i ≤ n∧z = .int .i64 i∧CauI w sb f g N w2.heap.size n k (cauS k i 0) wr) (fun z _ => n - (RowKit.intOf z).toNat)
 case atStart => exact ⟨k,Nat.le_refl _,hkn,rfl,HI.out⟩
 case round =>
  obtain ⟨i,hki,hi,rfl,I⟩:=hrel
  clear HI hcp p2 q2
  by_cases hlt1 : i < n
  ·have HI:=hide I
   clear I
   go_wp2
   go_loopw [50] (fun z wr => ∃ j : Nat,j ≤ k∧z = .int .i64 j∧CauI w sb f g N w2.heap.size n k (cauS k i j) wr) (fun z _ => k - (RowKit.intOf z).toNat)
   case atStart => exact ⟨0,Nat.zero_le _,rfl,HI.out⟩
   case round =>
    obtain ⟨j,hj,rfl,I⟩:=hrel
    clear HI
    by_cases hlt2 : j < k
    ·obtain ⟨y,hy⟩ : ∃ y,y = i * k:=⟨_,rfl⟩
     have hyN : y + j < N:=by have:=QN.out i hlt1; rw [Nat.add_mul,Nat.one_mul] at this; omega
     have hxv:=xk_v (show i < 256 by omega) (show j < 256 by omega)
     have hx0 : (xk i j).v ≠ 0:=by rw [hxv]; intro h; have h':=congrArg (· ^^^ j) h; simp only [Nat.xor_assoc,Nat.xor_self,Nat.xor_zero,Nat.zero_xor] at h'; omega
     have hx : bits .xor .i64 (i : Int) (j : Int) = (((xk i j).v : Nat) : Int):=by rw [hxv]; exact xor_i64 i j (by omega) (by omega)
     have R1 : Hid (∀ (w' : World),Mid sb f wr w'→Calls Tryz.prog 261 #[.agg #[.int .i64 n,.int .i64 k,.slice (some ⟨g,0,none⟩) N N],.int .i64 i] w' fun e w'' => e = .returned (.slice (some ⟨g,y,none⟩) k k)∧Mid sb f wr w''∧w''.cell? ⟨w2.heap.size,0,none⟩ = some (.int .i64 n)∧w''.cell? ⟨w2.heap.size,1,none⟩ = some (.int .i64 k)∧w''.cell? ⟨w2.heap.size,2,none⟩ = some (.slice (some ⟨g,0,none⟩) N N)∧w''.cell? ⟨sb,0,none⟩ = some (.pointer (some ⟨f,0,none⟩))):=by
      intro w' hm
      refine (row_at w' i (x:=y) (by omega) (by omega) k1 (by omega) (QN.out i hlt1) (Nat.le_refl _)).mono ?_
      rintro e w'' ⟨rfl,q⟩
      have q' : Mid sb f wr w'':=⟨hm.S.below q (Nat.le_refl _),gb_trans hm.gr (gb_below q _)⟩
      have P:=I.p.of_block (q'.gr.block _ I.p.lt (by simp; omega))
      exact ⟨rfl,q',P.cell0,P.cell1,P.cell2,q'.S.b.cell⟩
     have R2 : Hid (∀ (w' : World),Mid sb f wr w'→Calls Tryz.prog 260 #[.pointer (some ⟨f,0,none⟩),.int .i64 1,.int .i64 (((xk i j).v : Nat) : Int)] w' fun e w'' => e = .returned (.tuple #[.int .i64 (((K.inv (xk i j)).v : Nat) : Int),.int .i64 0])∧Mid sb f wr w''∧w''.cell? ⟨w2.heap.size,0,none⟩ = some (.int .i64 n)∧w''.cell? ⟨w2.heap.size,1,none⟩ = some (.int .i64 k)∧w''.cell? ⟨w2.heap.size,2,none⟩ = some (.slice (some ⟨g,0,none⟩) N N)∧w''.cell? ⟨sb,0,none⟩ = some (.pointer (some ⟨f,0,none⟩))):=by
      intro w' hm
      refine (div_ok hm.S.fl 1 (xk i j).v (by decide) (xk i j).lt hx0).mono ?_
      rintro e w'' ⟨rfl,q1,q2⟩
      have q' : Mid sb f wr w'':=⟨hm.S.field q2 q1,gb_trans hm.gr q2⟩
      have P:=I.p.of_block (q'.gr.block _ I.p.lt (by simp; omega))
      exact ⟨rfl,q',P.cell0,P.cell1,P.cell2,q'.S.b.cell⟩
     have FIN : Hid (∀ w',Mid sb f wr w'→CauI w sb f g N w2.heap.size n k (cauS k i (j + 1)) (w'.setCell ⟨g,y + j,none⟩ (.int .i64 (((K.inv (xk i j)).v : Nat) : Int)))):=by
      intro w' hm
      have hg : g ≠ f:=I.S.kne I.G
      have G':=I.G.of_block (hm.gr.block _ I.G.lt (by simp; exact hg))
      have gs:=gb_set w' g (y + j) (.int .i64 (((K.inv (xk i j)).v : Nat) : Int))
      have P:=I.p.of_block (hm.gr.block _ I.p.lt (by simp; omega))
      have R:=I.r.of_block (hm.gr.block _ I.r.lt (by simp; omega))
      refine ⟨hm.S.kset G' gs,(G'.set (y + j) hyN _).congr (fun t _ => ?_),R.of_block (gs.block _ R.lt (by simp; exact R.ne G')),P.of_block (gs.block _ P.lt (by simp; exact P.ne G')),gb_new (gb_trans I.gr hm.gr) gs hgs'⟩
      rw [hy]; exact cauS_step k i j t hlt2 hki
     obtain ⟨ov,hov⟩ : ∃ ov,ov = Value.int .i64 (((cauS k i j (y + j)).v : Nat) : Int):=⟨_,rfl⟩
     have FREE : Hid (∀ w',Mid sb f wr w'→w'.frozen? ⟨g,y + j,none⟩ = false∧w'.cell? ⟨g,y + j,none⟩ = some ov):=by
      intro w' hm
      have G':=I.G.of_block (hm.gr.block _ I.G.lt (by simp; exact I.S.kne I.G))
      exact ⟨G'.free _,by rw [G'.cell _ hyN,hov]⟩
     have m0:=I.p.cell0
     have m1:=I.p.cell1
     have m2:=I.p.cell2
     have m3:=I.S.b.cell
     have hM0 : Hid (Mid sb f wr wr.drew):=⟨⟨I.S.b,I.S.fl,I.S.ne⟩,⟨rfl,rfl,rfl,Nat.le_refl _,fun _ _ _ => rfl⟩⟩
     have np:=I.p.ne I.G
     have ns:=I.S.kns I.G
     clear I hy hxv hov
     have b0 : (0 : Int) ≤ (j : Int):=by omega
     have b1' : (j : Int) < (k : Int):=by omega
     have hv0:=(xk i j).lt
     generalize (K.inv (xk i j)).v = vv at *
     generalize (xk i j).v = uu at *
     go_wp2_with fail
     go_region_held3 (fun w' => w'.cell? ⟨w2.heap.size,0,none⟩ = some (.int .i64 n)∧w'.cell? ⟨w2.heap.size,1,none⟩ = some (.int .i64 k)∧w'.cell? ⟨w2.heap.size,2,none⟩ = some (.slice (some ⟨g,0,none⟩) N N)∧w'.cell? ⟨sb,0,none⟩ = some (.pointer (some ⟨f,0,none⟩))) (first | assumption | exact ⟨by assumption,by assumption,by assumption,by assumption⟩ | exact ⟨m0,m1,m2,m3⟩ | exact ⟨(cell_off np).trans (by assumption),(cell_off np).trans (by assumption),(cell_off np).trans (by assumption),(cell_off ns).trans (by assumption)⟩)
      (first
       | (go_at_call 261; refine (R1.out _ (by first | assumption | exact hM0.out)).mono ?_; rintro e wa ⟨rfl,ka,ka1,ka2,ka3,ka4⟩; obtain ⟨kf1,kf2⟩:=FREE.out _ ka)
       | (go_at_call 260; refine (R2.out _ (by first | assumption | exact hM0.out)).mono ?_; rintro e wb ⟨rfl,kb,kb1,kb2,kb3,kb4⟩; obtain ⟨kg1,kg2⟩:=FREE.out _ kb))
     all_goals
      clear R1 R2 FREE
      go_wp2
      exact ⟨⟨j + 1,by omega,by go_num,by first | exact FIN.out _ ka | exact FIN.out _ kb⟩,by simp [RowKit.intOf]; omega⟩
    ·obtain rfl : j = k:=by omega
     have HI:=hide I
     clear I
     go_wp2
     exact ⟨⟨i + 1,by omega,by omega,by go_num,HI.out.congr (fun t => cauS_next j i t k1)⟩,by simp [RowKit.intOf]; omega⟩
  ·obtain rfl : i = n:=by omega
   have p0:=I.p.cell0
   have p1:=I.p.cell1
   have p2:=I.p.cell2
   have q0:=I.r.cell0
   have q1:=I.r.cell1
   have q2:=I.r.cell2
   have f2:=I.r.free
   have hne:=I.r.ne I.G
   have HI:=hide I
   clear I
   go_wp2
   obtain ⟨hX5,g5⟩:=HI.out.r.put (i : Int) (k : Int) (.slice (some ⟨g,0,none⟩) N N)
   refine bodyPost_ret (v:=.tuple #[.agg #[.int .i64 i,.int .i64 k,.slice (some ⟨g,0,none⟩) N N],.int .i64 0]) (by simp [results,Tryz.results239,go_sem,hX5.cell0,hX5.cell1,hX5.cell2]) rfl ⟨g,rfl,?_,hgs',HI.out.S.set HI.out.r (by decide) (by decide) (by decide) g5,gb_new HI.out.gr g5 (by omega)⟩
   exact (HI.out.G.of_block (g5.block g HI.out.G.lt (by simp; exact fun e => hne e.symm))).congr (fun t ht => QP.out t ht)
end Go.Proofs.YtagijldedngcoaaGreatDoor.Zq

namespace Go.Proofs.YtagijldedngcoaaGreatDoor.Zq
open Go.RowKit Go.Lib

section
variable {w w' : World} {b : Nat} {r c : Int} {v : Value}
end
end Go.Proofs.YtagijldedngcoaaGreatDoor.Zq

namespace Go.Proofs.YtagijldedngcoaaGreatDoor.Zq
open Go.RowKit Go.Lib

end Go.Proofs.YtagijldedngcoaaGreatDoor.Zq


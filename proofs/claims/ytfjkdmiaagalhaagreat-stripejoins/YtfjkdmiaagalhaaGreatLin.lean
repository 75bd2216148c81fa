/-
  Plain mathematics: the field as a type, sums, matrices as functions, the dimension's law, elimination by rows, rank and inverse.
-/
import Derived.Test.YtfjkdmiaagalhaaGreatMath
namespace Go.Proofs.YtfjkdmiaagalhaaGreat

structure K where
  v : Nat
  lt : v < 256
namespace K
theorem ext {a b : K} (h : a.v = b.v) : a = b := by
  cases a; cases b; simp at h; subst h; rfl
instance : Add K := ⟨fun a b => ⟨a.v ^^^ b.v, Nat.xor_lt_two_pow (n := 8) a.lt b.lt⟩⟩
instance : Mul K := ⟨fun a b => ⟨prod a.v b.v, prod_lt _ _⟩⟩
instance : OfNat K 0 := ⟨⟨0, by decide⟩⟩
instance : OfNat K 1 := ⟨⟨1, by decide⟩⟩
def inv (a : K) : K := ⟨quot 1 a.v, quot_lt _ _⟩
instance : DecidableEq K := fun a b => if h : a.v = b.v then .isTrue (ext h) else .isFalse (fun e => h (by rw [e]))
theorem add_v (a b : K) : (a + b).v = a.v ^^^ b.v := rfl
theorem mul_v (a b : K) : (a * b).v = prod a.v b.v := rfl
theorem zero_v : (0 : K).v = 0 := rfl
theorem one_v : (1 : K).v = 1 := rfl
theorem add_comm (a b : K) : a + b = b + a := ext (Nat.xor_comm _ _)
theorem add_assoc (a b c : K) : a + b + c = a + (b + c) := ext (Nat.xor_assoc _ _ _)
theorem add_zero (a : K) : a + 0 = a := ext (Nat.xor_zero _)
theorem zero_add (a : K) : 0 + a = a := ext (Nat.zero_xor _)
theorem add_self (a : K) : a + a = 0 := ext (Nat.xor_self _)
theorem mul_comm (a b : K) : a * b = b * a := ext (prod_comm _ _)
theorem mul_assoc (a b c : K) : a * b * c = a * (b * c) := ext (prod_assoc _ _ _)
theorem mul_one (a : K) : a * 1 = a := ext (prod_one _ a.lt)
theorem one_mul (a : K) : 1 * a = a := by rw [mul_comm, mul_one]
theorem mul_zero (a : K) : a * 0 = 0 := ext (prod_zero a.v)
theorem zero_mul (a : K) : 0 * a = 0 := ext (zero_prod a.v)
theorem mul_add (a b c : K) : a * (b + c) = a * b + a * c := ext (prod_xor _ _ _ a.lt b.lt c.lt)
theorem add_mul (a b c : K) : (a + b) * c = a * c + b * c := ext (xor_prod _ _ _ a.lt b.lt c.lt)
theorem v_ne {a : K} (h : a ≠ 0) : a.v ≠ 0 := fun e => h (ext e)
theorem inv_mul {a : K} (h : a ≠ 0) : inv a * a = 1 := ext (quot_prod 1 a.v (by decide) a.lt (v_ne h))
theorem mul_inv {a : K} (h : a ≠ 0) : a * inv a = 1 := by rw [mul_comm, inv_mul h]
theorem one_ne : (1 : K) ≠ 0 := fun h => by have := congrArg K.v h; exact absurd this (by decide)
theorem mul_eq_zero {a b : K} (h : a * b = 0) (ha : a ≠ 0) : b = 0 := by
  have := congrArg (fun x => inv a * x) h
  simp only [← mul_assoc, inv_mul ha, one_mul, mul_zero] at this
  exact this
theorem eq_of_add {a b : K} (h : a + b = 0) : a = b := by
  have := congrArg (fun x => x + b) h
  simpa only [add_assoc, add_self, add_zero, zero_add] using this
theorem add_cancel (a b : K) : a + (a + b) = b := by rw [← add_assoc, add_self, zero_add]
theorem add_left_comm (a b c : K) : a + (b + c) = b + (a + c) := by rw [← add_assoc, add_comm a b, add_assoc]
theorem mul_left_comm (a b c : K) : a * (b * c) = b * (a * c) := by rw [← mul_assoc, mul_comm a b, mul_assoc]
end K
open K

/-! ### Sums -/
def S : Nat → (Nat → K) → K
  | 0, _ => 0
  | n + 1, f => S n f + f n
theorem S_congr {n : Nat} {f g : Nat → K} (h : ∀ i, i < n → f i = g i) : S n f = S n g := by
  induction n with
  | zero => rfl
  | succ n ih => rw [S, S, ih (fun i hi => h i (by omega)), h n (by omega)]
theorem S_zero (n : Nat) : S n (fun _ => 0) = 0 := by
  induction n with
  | zero => rfl
  | succ n ih => rw [S, ih, add_zero]
theorem S_add (n : Nat) (f g : Nat → K) : S n (fun i => f i + g i) = S n f + S n g := by
  induction n with
  | zero => exact (add_zero 0).symm
  | succ n ih => rw [S, S, S, ih, add_assoc, add_assoc, add_left_comm (S n g)]
theorem S_mul (n : Nat) (c : K) (f : Nat → K) : c * S n f = S n (fun i => c * f i) := by
  induction n with
  | zero => exact mul_zero c
  | succ n ih => rw [S, S, mul_add, ih]
theorem mul_S (n : Nat) (c : K) (f : Nat → K) : S n f * c = S n (fun i => f i * c) := by
  rw [mul_comm, S_mul]; exact S_congr fun i _ => mul_comm _ _
theorem S_swap (n m : Nat) (f : Nat → Nat → K) : S n (fun i => S m (fun j => f i j)) = S m (fun j => S n (fun i => f i j)) := by
  induction n with
  | zero => exact (S_zero m).symm
  | succ n ih => simp only [S]; rw [ih, S_add]
def dl (i j : Nat) : K := if i = j then 1 else 0
theorem dl_self (i : Nat) : dl i i = 1 := if_pos rfl
theorem dl_ne {i j : Nat} (h : i ≠ j) : dl i j = 0 := if_neg h
theorem dl_comm (i j : Nat) : dl i j = dl j i := by
  by_cases h : i = j
  · rw [h]
  · rw [dl_ne h, dl_ne (fun e => h e.symm)]
/-- A sum in which one member alone counts. -/
theorem S_one {n i : Nat} (f : Nat → K) (hi : i < n) (h : ∀ k, k < n → k ≠ i → f k = 0) : S n f = f i := by
  induction n with
  | zero => omega
  | succ n ih =>
    rw [S]
    by_cases e : i = n
    · subst e
      rw [S_congr (g := fun _ => 0) (fun k hk => h k (by omega) (by omega)), S_zero, zero_add]
    · rw [ih (by omega) (fun k hk hne => h k (by omega) hne), h n (by omega) (fun x => e x.symm), add_zero]
theorem S_dl_l {n i : Nat} (f : Nat → K) (hi : i < n) : S n (fun k => dl i k * f k) = f i := by
  rw [S_one _ hi (fun k _ hne => by rw [dl_ne (fun e => hne e.symm), zero_mul]), dl_self, one_mul]
theorem S_dl_r {n i : Nat} (f : Nat → K) (hi : i < n) : S n (fun k => f k * dl k i) = f i := by
  rw [S_one _ hi (fun k _ hne => by rw [dl_ne hne, mul_zero]), dl_self, mul_one]
/-- Members above a place that are 0 do not count. -/
theorem S_cut {n m : Nat} (f : Nat → K) (hm : m ≤ n) (h : ∀ k, m ≤ k → k < n → f k = 0) : S n f = S m f := by
  induction n with
  | zero => obtain rfl : m = 0 := by omega
            rfl
  | succ n ih =>
    by_cases e : m = n + 1
    · rw [e]
    · rw [S, ih (by omega) (fun k h1 h2 => h k h1 (by omega)), h n (by omega) (by omega), add_zero]
/-- Products of three. -/
theorem S_assoc (n m : Nat) (x : Nat → K) (A : Nat → Nat → K) (y : Nat → K) :
    S n (fun i => x i * S m (fun j => A i j * y j)) = S m (fun j => S n (fun i => x i * A i j) * y j) := by
  simp only [S_mul, mul_S]
  rw [S_swap]
  exact S_congr fun j _ => S_congr fun i _ => (mul_assoc _ _ _).symm
abbrev Mt := Nat → Nat → K
def mm (n : Nat) (A B : Mt) : Mt := fun i j => S n (fun k => A i k * B k j)
theorem mm_assoc (n m : Nat) (A B C : Mt) (i j : Nat) : mm n A (mm m B C) i j = mm m (mm n A B) C i j := S_assoc n m (A i) B (fun k => C k j)
theorem mm_congr {n : Nat} {A B A' B' : Mt} {i j : Nat} (h1 : ∀ k, k < n → A i k = A' i k) (h2 : ∀ k, k < n → B k j = B' k j) : mm n A B i j = mm n A' B' i j :=
  S_congr fun k hk => by rw [h1 k hk, h2 k hk]
theorem mm_dl_l {n i : Nat} (B : Mt) (j : Nat) (hi : i < n) : mm n dl B i j = B i j := S_dl_l (fun k => B k j) hi
theorem mm_dl_r {n j : Nat} (A : Mt) (i : Nat) (hj : j < n) : mm n A dl i j = A i j := S_dl_r (fun k => A i k) hj
theorem mm_T (n : Nat) (A B : Mt) (i j : Nat) : mm n (fun a b => B b a) (fun a b => A b a) j i = mm n A B i j := S_congr fun _ _ => mul_comm _ _

/-! ### More unknowns than equations -/
/-- The place p left out. -/
def skip (p i : Nat) : Nat := if i < p then i else i + 1
theorem S_skip (n p : Nat) (f : Nat → K) (hp : p ≤ n) : S (n + 1) f = S n (fun i => f (skip p i)) + f p := by
  induction n with
  | zero =>
    obtain rfl : p = 0 := by omega
    rfl
  | succ n ih =>
    by_cases h : p = n + 1
    · subst h
      rw [S]
      congr 1
      exact S_congr fun i hi => by rw [skip, if_pos hi]
    · rw [S, ih (by omega), S]
      rw [show skip p n = n + 1 by rw [skip, if_neg (by omega)]]
      rw [add_assoc, add_assoc, add_comm (f p)]
def back (p i : Nat) : Nat := if i < p then i else i - 1
theorem back_skip (p i : Nat) : back p (skip p i) = i := by
  unfold back skip
  by_cases h : i < p
  · rw [if_pos h, if_pos h]
  · rw [if_neg h, if_neg (by omega)]; omega
theorem skip_ne (p i : Nat) : skip p i ≠ p := by unfold skip; split <;> omega
theorem kernel : ∀ (r n : Nat) (B : Mt), r < n → ∃ x : Nat → K, (∃ i, i < n ∧ x i ≠ 0) ∧ ∀ j, j < r → S n (fun i => x i * B i j) = 0
  | 0, n, _, h => ⟨fun _ => 1, ⟨0, h, one_ne⟩, fun j hj => absurd hj (Nat.not_lt_zero j)⟩
  | r + 1, n, B, h => by
    by_cases hz : ∃ p, p < n ∧ B p r ≠ 0
    · obtain ⟨p, hp, hne⟩ := hz
      obtain ⟨m, rfl⟩ : ∃ m, n = m + 1 := ⟨n - 1, by omega⟩
      obtain ⟨x, ⟨i, hi, hx⟩, hs⟩ := kernel r m (fun i j => B (skip p i) j + B (skip p i) r * inv (B p r) * B p j) (by omega)
      let c : K := S m (fun i => x i * (B (skip p i) r * inv (B p r)))
      refine ⟨fun i => if i = p then c else x (back p i), ⟨skip p i, by unfold skip; split <;> omega, ?_⟩, fun j hj => ?_⟩
      · show (if skip p i = p then c else x (back p (skip p i))) ≠ 0
        rw [if_neg (skip_ne p i), back_skip]; exact hx
      · rw [S_skip m p _ (by omega)]
        show S m (fun i => (if skip p i = p then c else x (back p (skip p i))) * B (skip p i) j) + (if p = p then c else x (back p p)) * B p j = 0
        rw [if_pos rfl, S_congr (g := fun i => x i * B (skip p i) j) (fun i _ => by rw [if_neg (skip_ne p i), back_skip])]
        rw [mul_S, ← S_add]
        by_cases hjr : j = r
        · subst hjr
          rw [S_congr (g := fun _ => 0) (fun i _ => ?_), S_zero]
          rw [mul_assoc, mul_assoc, inv_mul hne, mul_one, add_self]
        · have := hs j (by omega)
          rw [← this]
          exact S_congr fun i _ => by rw [mul_add]; simp only [mul_assoc]
    · obtain ⟨x, hx, hs⟩ := kernel r n B (by omega)
      refine ⟨x, hx, fun j hj => ?_⟩
      by_cases hjr : j = r
      · subst hjr
        rw [S_congr (g := fun _ => 0) (fun i hi => ?_), S_zero]
        have : B i j = 0 := by
          apply Decidable.byContradiction
          intro h1
          exact hz ⟨i, hi, h1⟩
        rw [this, mul_zero]
      · exact hs j (by omega)
/-- The square of ones through a narrower place: no. -/
theorem inner_le {r s : Nat} {B C : Mt} (h : ∀ i, i < r → ∀ j, j < r → mm s B C i j = dl i j) : r ≤ s := by
  apply Decidable.byContradiction
  intro hlt
  obtain ⟨x, ⟨i, hi, hx⟩, hs⟩ := kernel s r B (by omega)
  apply hx
  have e : S r (fun k => x k * dl k i) = x i := S_dl_r x hi
  rw [← e, S_congr (g := fun k => x k * mm s B C k i) (fun k hk => by rw [h k hk i hi])]
  show S r (fun k => x k * S s (fun l => B k l * C l i)) = 0
  rw [S_assoc, S_congr (g := fun _ => 0) (fun l hl => by rw [hs l hl, zero_mul]), S_zero]

/-! ### Rank -/
/-- r is the rank of the m times n matrix. -/
def Thin (m n : Nat) (A : Mt) (r : Nat) : Prop := ∃ B C : Mt, ∀ i, i < m → ∀ j, j < n → A i j = mm r B C i j
def Wide (m n : Nat) (A : Mt) (r : Nat) : Prop := ∃ X Y : Mt, ∀ s, s < r → ∀ t, t < r → mm n (mm m X A) Y s t = dl s t
def Rk (m n : Nat) (A : Mt) (r : Nat) : Prop := Thin m n A r ∧ Wide m n A r
theorem Wide.le {m n r s : Nat} {A : Mt} (h : Wide m n A r) (k : Thin m n A s) : r ≤ s := by
  obtain ⟨X, Y, h⟩ := h
  obtain ⟨B, C, k⟩ := k
  refine inner_le (B := mm m X B) (C := mm n C Y) fun i hi j hj => ?_
  rw [← h i hi j hj, mm_assoc]
  refine mm_congr (fun l hl => ?_) (fun _ _ => rfl)
  rw [← mm_assoc]
  exact mm_congr (fun _ _ => rfl) (fun q hq => (k q hq l hl).symm)
theorem Rk.eq {m n r s : Nat} {A : Mt} (h : Rk m n A r) (k : Rk m n A s) : r = s := Nat.le_antisymm (h.2.le k.1) (k.2.le h.1)
theorem Rk.congr {m n r : Nat} {A A' : Mt} (h : Rk m n A r) (e : ∀ i, i < m → ∀ j, j < n → A' i j = A i j) : Rk m n A' r := by
  obtain ⟨⟨B, C, h1⟩, X, Y, h2⟩ := h
  refine ⟨⟨B, C, fun i hi j hj => (e i hi j hj).trans (h1 i hi j hj)⟩, X, Y, fun s hs t ht => ?_⟩
  rw [← h2 s hs t ht]
  exact mm_congr (fun l hl => mm_congr (fun _ _ => rfl) (fun q hq => e q hq l hl)) (fun _ _ => rfl)
theorem Rk.turn {m n r : Nat} {A : Mt} (h : Rk m n A r) : Rk n m (fun i j => A j i) r := by
  obtain ⟨⟨B, C, h1⟩, X, Y, h2⟩ := h
  refine ⟨⟨fun i j => C j i, fun i j => B j i, fun i hi j hj => ?_⟩, fun i j => Y j i, fun i j => X j i, fun s hs t ht => ?_⟩
  · rw [mm_T]; exact h1 j hj i hi
  · rw [← mm_assoc, dl_comm, ← h2 t ht s hs]
    refine Eq.trans (mm_congr (B' := fun a b => mm m X A b a) (fun _ _ => rfl) (fun l _ => ?_)) (mm_T n (mm m X A) Y t s)
    exact mm_T m X A t l
theorem Rk.le_rows {m n r : Nat} {A : Mt} (h : Rk m n A r) : r ≤ m := h.2.le ⟨dl, A, fun _ hi j _ => (mm_dl_l A j hi).symm⟩
theorem Rk.le_cols {m n r : Nat} {A : Mt} (h : Rk m n A r) : r ≤ n := h.2.le ⟨A, dl, fun i _ _ hj => (mm_dl_r A i hj).symm⟩
/-- A row that is a mixture of the rows adds nothing. -/
theorem Rk.more {m n r : Nat} {A : Mt} (h : Rk m n A r) (x : Nat → K) (A' : Mt) (e : ∀ i, i < m → ∀ j, j < n → A' i j = A i j) (e' : ∀ j, j < n → A' m j = S m (fun k => x k * A k j)) : Rk (m + 1) n A' r := by
  obtain ⟨⟨B, C, h1⟩, X, Y, h2⟩ := h
  refine ⟨⟨fun i k => if i < m then B i k else S m (fun l => x l * B l k), C, fun i hi j hj => ?_⟩, fun s i => if i < m then X s i else 0, Y, fun s hs t ht => ?_⟩
  · by_cases him : i < m
    · rw [e i him j hj, h1 i him j hj]
      exact mm_congr (fun k _ => by rw [if_pos him]) (fun _ _ => rfl)
    · obtain rfl : i = m := by omega
      rw [e' j hj, S_congr (g := fun k => x k * S r (fun l => B k l * C l j)) (fun k hk => by rw [h1 k hk j hj]; rfl), S_assoc]
      exact S_congr fun k _ => by simp only [if_neg him]
  · rw [← h2 s hs t ht]
    refine mm_congr (fun l hl => ?_) (fun _ _ => rfl)
    show S (m + 1) (fun k => (if k < m then X s k else 0) * A' k l) = S m (fun k => X s k * A k l)
    rw [S, if_neg (Nat.lt_irrefl m), zero_mul, add_zero]
    exact S_congr fun k hk => by rw [if_pos hk, e k hk l hl]

/-! ### Rows that are made of rows -/
def Sp (m : Nat) (R R' : Mt) : Prop := ∃ E : Mt, ∀ i, i < m → ∀ j, R' i j = mm m E R i j
theorem Sp.refl (m : Nat) (R : Mt) : Sp m R R := ⟨dl, fun _ hi j => (mm_dl_l R j hi).symm⟩
theorem Sp.trans {m : Nat} {R R' R'' : Mt} (h : Sp m R R') (k : Sp m R' R'') : Sp m R R'' := by
  obtain ⟨E, h⟩ := h
  obtain ⟨E', k⟩ := k
  refine ⟨mm m E' E, fun i hi j => ?_⟩
  rw [k i hi j, ← mm_assoc]
  exact mm_congr (fun _ _ => rfl) (fun l hl => h l hl j)
def swp (R : Mt) (a b : Nat) : Mt := fun i => if i = a then R b else if i = b then R a else R i
theorem swp_swp (R : Mt) (a b : Nat) : swp (swp R a b) a b = R := by
  funext i
  unfold swp
  by_cases h1 : i = a
  · rw [if_pos h1]
    by_cases h2 : b = a
    · rw [if_pos h2, h1, h2]
    · rw [if_neg h2, if_pos rfl, h1]
  · rw [if_neg h1]
    by_cases h2 : i = b
    · rw [if_pos h2, if_pos rfl, h2]
    · rw [if_neg h2, if_neg h1, if_neg h2]
theorem Sp.swp {m : Nat} (R : Mt) {a b : Nat} (ha : a < m) (hb : b < m) : Sp m R (swp R a b) := by
  refine ⟨fun i k => if i = a then dl b k else if i = b then dl a k else dl i k, fun i hi j => ?_⟩
  unfold Go.Proofs.YtfjkdmiaagalhaaGreat.swp
  by_cases h1 : i = a
  · simp only [mm, if_pos h1]; exact (S_dl_l (fun k => R k j) hb).symm
  · by_cases h2 : i = b
    · simp only [mm, if_neg h1, if_pos h2]; exact (S_dl_l (fun k => R k j) ha).symm
    · simp only [mm, if_neg h1, if_neg h2]; exact (S_dl_l (fun k => R k j) hi).symm
/-- The row a made 1 in the column c, the others 0 there. -/
def elim (R : Mt) (a c : Nat) : Mt := fun i j => if i = a then R a j * inv (R a c) else R i j + R a j * inv (R a c) * R i c
theorem Sp.elim {m : Nat} (R : Mt) {a c : Nat} (ha : a < m) : Sp m R (elim R a c) := by
  refine ⟨fun i k => if i = a then dl a k * inv (R a c) else dl i k + dl a k * (inv (R a c) * R i c), fun i hi j => ?_⟩
  unfold Go.Proofs.YtfjkdmiaagalhaaGreat.elim
  by_cases h1 : i = a
  · simp only [mm, if_pos h1]
    rw [S_congr (g := fun k => dl a k * (inv (R a c) * R k j)) (fun k _ => mul_assoc _ _ _), S_dl_l (fun k => inv (R a c) * R k j) ha, mul_comm]
  · simp only [mm, if_neg h1, add_mul]
    rw [S_add, S_dl_l (fun k => R k j) hi, S_congr (g := fun k => dl a k * (inv (R a c) * R i c * R k j)) (fun k _ => mul_assoc _ _ _), S_dl_l (fun k => inv (R a c) * R i c * R k j) ha]
    congr 1
    rw [mul_assoc, mul_comm]
theorem Sp.elim_back {m : Nat} (R : Mt) {a c : Nat} (ha : a < m) (hc : R a c ≠ 0) : Sp m (Go.Proofs.YtfjkdmiaagalhaaGreat.elim R a c) R := by
  refine ⟨fun i k => if i = a then dl a k * R a c else dl i k + dl a k * R i c, fun i hi j => ?_⟩
  by_cases h1 : i = a
  · simp only [mm, if_pos h1]
    rw [S_congr (g := fun k => dl a k * (R a c * Go.Proofs.YtfjkdmiaagalhaaGreat.elim R a c k j)) (fun k _ => mul_assoc _ _ _), S_dl_l (fun k => R a c * Go.Proofs.YtfjkdmiaagalhaaGreat.elim R a c k j) ha, Go.Proofs.YtfjkdmiaagalhaaGreat.elim, if_pos rfl, mul_left_comm, mul_inv hc, mul_one, h1]
  · simp only [mm, if_neg h1, add_mul]
    rw [S_add, S_dl_l (fun k => Go.Proofs.YtfjkdmiaagalhaaGreat.elim R a c k j) hi, S_congr (g := fun k => dl a k * (R i c * Go.Proofs.YtfjkdmiaagalhaaGreat.elim R a c k j)) (fun k _ => mul_assoc _ _ _), S_dl_l (fun k => R i c * Go.Proofs.YtfjkdmiaagalhaaGreat.elim R a c k j) ha]
    unfold Go.Proofs.YtfjkdmiaagalhaaGreat.elim
    rw [if_neg h1, if_pos rfl, add_assoc, mul_comm (R i c), add_self, add_zero]

/-! ### The elimination -/
/-- The first row from a on, below m, with something in the column. -/
def lead (R : Mt) (c : Nat) : Nat → Nat → Option Nat
  | 0, _ => none
  | k + 1, a => if R a c ≠ 0 then some a else lead R c k (a + 1)
theorem lead_some {R : Mt} {c : Nat} : ∀ {k a n : Nat}, lead R c k a = some n → a ≤ n ∧ n < a + k ∧ R n c ≠ 0 ∧ ∀ i, a ≤ i → i < n → R i c = 0
  | 0, _, _, h => by simp [lead] at h
  | k + 1, a, n, h => by
    rw [lead] at h
    by_cases h1 : R a c ≠ 0
    · rw [if_pos h1] at h
      cases h
      exact ⟨Nat.le_refl _, by omega, h1, fun i h2 h3 => by omega⟩
    · rw [if_neg h1] at h
      obtain ⟨h2, h3, h4, h5⟩ := lead_some h
      refine ⟨by omega, by omega, h4, fun i h6 h7 => ?_⟩
      by_cases h8 : i = a
      · rw [h8]; exact Decidable.byContradiction h1
      · exact h5 i (by omega) h7
theorem lead_none {R : Mt} {c : Nat} : ∀ {k a : Nat}, lead R c k a = none → ∀ i, a ≤ i → i < a + k → R i c = 0
  | 0, _, _, i, h1, h2 => by omega
  | k + 1, a, h, i, h2, h3 => by
    rw [lead] at h
    by_cases h1 : R a c ≠ 0
    · rw [if_pos h1] at h; cases h
    · rw [if_neg h1] at h
      by_cases h8 : i = a
      · rw [h8]; exact Decidable.byContradiction h1
      · exact lead_none h i (by omega) (by omega)
def step (m : Nat) (s : Mt × Nat) (c : Nat) : Mt × Nat :=
  match lead s.1 c (m - s.2) s.2 with
  | none => s
  | some n => (elim (swp s.1 s.2 n) s.2 c, s.2 + 1)
def redu (m : Nat) (R : Mt) : Nat → Mt × Nat
  | 0 => (R, 0)
  | c + 1 => step m (redu m R c) c
/-- What holds of the rows behind c columns. -/
structure Red (m : Nat) (R0 : Mt) (c : Nat) (s : Mt × Nat) : Prop where
  to : Sp m R0 s.1
  fro : Sp m s.1 R0
  le : s.2 ≤ m
  lec : s.2 ≤ c
  zero : ∀ i, s.2 ≤ i → i < m → ∀ j, j < c → s.1 i j = 0
  piv : ∃ p : Nat → Nat, ∀ t, t < s.2 → p t < c ∧ (∀ i, i < m → s.1 i (p t) = dl i t) ∧ (s.2 = c → p t = t)
theorem red_step {m c : Nat} {R0 : Mt} {s : Mt × Nat} (h : Red m R0 c s) : Red m R0 (c + 1) (step m s c) := by
  obtain ⟨R, a⟩ := s
  obtain ⟨hto, hfro, hle, hlec, hz, p, hp⟩ := h
  simp only at hle hlec hz hp
  unfold step
  simp only
  cases hl : lead R c (m - a) a with
  | none =>
    have h0 := lead_none hl
    refine ⟨hto, hfro, hle, Nat.le_succ_of_le hlec, fun i h1 h2 j hj => ?_, p, fun t ht => ?_⟩
    · by_cases e : j = c
      · rw [e]; exact h0 i h1 (by omega)
      · exact hz i h1 h2 j (by omega)
    · obtain ⟨q1, q2, q3⟩ := hp t ht
      exact ⟨by omega, q2, fun e => by simp only at e; omega⟩
  | some n =>
    obtain ⟨n1, n2, n3, n4⟩ := lead_some hl
    have ham : a < m := by omega
    have hnm : n < m := by omega
    have hR1 : swp R a n a c ≠ 0 := by unfold swp; rw [if_pos rfl]; exact n3
    have hlow : ∀ i, a ≤ i → i < m → ∀ j, j < c → swp R a n i j = 0 := by
      intro i h1 h2 j hj
      unfold swp
      by_cases e1 : i = a
      · rw [if_pos e1]; exact hz n n1 hnm j hj
      · rw [if_neg e1]
        by_cases e2 : i = n
        · rw [if_pos e2]; exact hz a (Nat.le_refl _) ham j hj
        · rw [if_neg e2]; exact hz i h1 h2 j hj
    have hpv : ∀ t, t < a → ∀ i, i < m → swp R a n i (p t) = dl i t := by
      intro t ht i hi
      obtain ⟨q1, q2, q3⟩ := hp t ht
      by_cases h1 : a ≤ i
      · rw [hlow i h1 hi (p t) q1, dl_ne (by omega)]
      · unfold swp
        rw [if_neg (by omega), if_neg (by omega)]
        exact q2 i hi
    have ha0 : ∀ j, j < c → swp R a n a j = 0 := hlow a (Nat.le_refl _) ham
    refine ⟨(hto.trans (Sp.swp R ham hnm)).trans (Sp.elim _ ham), ?_, by simp only; omega, by simp only; omega, ?_, ?_⟩
    · refine (Sp.elim_back _ ham hR1).trans (Sp.trans ?_ hfro)
      have := Sp.swp (swp R a n) ham hnm
      rwa [swp_swp] at this
    · intro i h1 h2 j hj
      simp only at h1 ⊢
      unfold elim
      rw [if_neg (by omega)]
      by_cases e : j = c
      · rw [e, mul_inv hR1, one_mul, add_self]
      · rw [ha0 j (by omega), zero_mul, zero_mul, add_zero]
        exact hlow i (by omega) h2 j (by omega)
    · refine ⟨fun t => if t = a then c else p t, fun t ht => ?_⟩
      simp only at ht ⊢
      by_cases e : t = a
      · rw [if_pos e]
        refine ⟨by omega, fun i hi => ?_, fun h => by omega⟩
        unfold elim
        by_cases e2 : i = a
        · rw [if_pos e2, mul_inv hR1, e, e2, dl_self]
        · rw [if_neg e2, mul_inv hR1, one_mul, add_self, e, dl_ne e2]
      · rw [if_neg e]
        obtain ⟨q1, q2, q3⟩ := hp t (by omega)
        refine ⟨by omega, fun i hi => ?_, fun h => q3 (by omega)⟩
        unfold elim
        by_cases e2 : i = a
        · rw [if_pos e2, ha0 _ q1, zero_mul, e2, dl_ne (by omega)]
        · rw [if_neg e2, ha0 _ q1, zero_mul, zero_mul, add_zero]
          exact hpv t (by omega) i hi
theorem red_all (m : Nat) (R : Mt) : ∀ c, Red m R c (redu m R c)
  | 0 => ⟨Sp.refl _ _, Sp.refl _ _, Nat.zero_le _, Nat.le_refl _, fun _ _ _ j hj => absurd hj (Nat.not_lt_zero j), fun t => t, fun t ht => absurd ht (Nat.not_lt_zero t)⟩
  | c + 1 => red_step (red_all m R c)
/-- How many are ahead at the end is the rank. -/
theorem redu_rank (m n : Nat) (A : Mt) : Rk m n A (redu m A n).2 := by
  obtain ⟨⟨E, hto⟩, ⟨E', hfro⟩, hle, hlec, hz, p, hp⟩ := red_all m A n
  refine ⟨⟨E', (redu m A n).1, fun i hi j hj => ?_⟩, E, fun j t => dl j (p t), fun s hs t ht => ?_⟩
  · rw [hfro i hi j]
    exact S_cut _ hle (fun k h1 h2 => by rw [hz k h1 h2 j hj, mul_zero])
  · obtain ⟨q1, q2, q3⟩ := hp t ht
    rw [← q2 s (by omega), hto s (by omega)]
    exact S_dl_r (fun k => mm m E A s k) q1
/-- With all of them ahead, what stood beside is the inverse. -/
theorem redu_inv (n : Nat) (A : Mt) (W : Mt) (h1 : ∀ i, i < n → ∀ j, j < n → W i j = A i j) (h2 : ∀ i, i < n → ∀ j, j < n → W i (n + j) = dl i j) (h : (redu n W n).2 = n) :
    ∀ i, i < n → ∀ j, j < n → mm n (fun i j => (redu n W n).1 i (n + j)) A i j = dl i j ∧ mm n A (fun i j => (redu n W n).1 i (n + j)) i j = dl i j := by
  obtain ⟨⟨E, hto⟩, ⟨E', hfro⟩, hle, hlec, hz, p, hp⟩ := red_all n W n
  have hone : ∀ i, i < n → ∀ j, j < n → (redu n W n).1 i j = dl i j := by
    intro i hi j hj
    obtain ⟨q1, q2, q3⟩ := hp j (by omega)
    rw [← q2 i hi, q3 h]
  have hE : ∀ i, i < n → ∀ j, j < n → (redu n W n).1 i (n + j) = E i j := by
    intro i hi j hj
    rw [hto i hi]
    refine Eq.trans (mm_congr (B' := fun a b => dl a (b - n)) (fun _ _ => rfl) (fun k hk => ?_)) ?_
    · rw [h2 k hk j hj]; simp
    · show S n (fun k => E i k * dl k (n + j - n)) = E i j
      rw [show n + j - n = j by omega]
      exact S_dl_r (fun k => E i k) hj
  have hE' : ∀ i, i < n → ∀ j, j < n → E' i j = A i j := by
    intro i hi j hj
    rw [← h1 i hi j hj, hfro i hi]
    refine Eq.trans ?_ (mm_congr (A := E') (B := dl) (fun _ _ => rfl) (fun k hk => (hone k hk j hj).symm))
    exact (mm_dl_r E' i hj).symm
  intro i hi j hj
  constructor
  · rw [← hone i hi j hj, hto i hi]
    exact mm_congr (fun k hk => hE i hi k hk) (fun k hk => (h1 k hk j hj).symm)
  · rw [← h2 i hi j hj, hfro i hi]
    exact mm_congr (fun k hk => (hE' i hi k hk).symm) (fun _ _ => rfl)
end Go.Proofs.YtfjkdmiaagalhaaGreat

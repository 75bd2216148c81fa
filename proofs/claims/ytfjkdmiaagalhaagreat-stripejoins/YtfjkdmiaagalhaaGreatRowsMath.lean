/-
  Plain mathematics: any k rows of Cauchy(k, m) that are unlike have an inverse.
-/
import Derived.Test.YtfjkdmiaagalhaaGreatCau
import Derived.Test.YtfjkdmiaagalhaaGreatBeside
namespace Go.Proofs.YtfjkdmiaagalhaaGreat
open K

/-- Sums over lists of places. -/
def SL (l : List Nat) (f : Nat → K) : K := l.foldr (fun a s => f a + s) 0
theorem SL_cons (a : Nat) (l : List Nat) (f : Nat → K) : SL (a :: l) f = f a + SL l f := rfl
theorem SL_congr {l : List Nat} {f g : Nat → K} (h : ∀ a ∈ l, f a = g a) : SL l f = SL l g := by
  induction l with
  | nil => rfl
  | cons a l ih => rw [SL_cons, SL_cons, h a (by simp), ih (fun b hb => h b (by simp [hb]))]
theorem SL_add (l : List Nat) (f g : Nat → K) : SL l (fun a => f a + g a) = SL l f + SL l g := by
  induction l with
  | nil => exact (add_zero 0).symm
  | cons a l ih => rw [SL_cons, SL_cons, SL_cons, ih, add_assoc, add_assoc, add_left_comm (g a)]
theorem SL_mul (l : List Nat) (c : K) (f : Nat → K) : c * SL l f = SL l (fun a => c * f a) := by
  induction l with
  | nil => exact mul_zero c
  | cons a l ih => rw [SL_cons, SL_cons, mul_add, ih]
theorem SL_append (l l' : List Nat) (f : Nat → K) : SL (l ++ l') f = SL l f + SL l' f := by
  induction l with
  | nil => exact (zero_add _).symm
  | cons a l ih => rw [List.cons_append, SL_cons, SL_cons, ih, add_assoc]
theorem SL_range (n : Nat) (f : Nat → K) : SL (List.range n) f = S n f := by
  induction n with
  | zero => rfl
  | succ n ih => rw [List.range_succ, SL_append, ih, S, SL_cons]; show _ + (f n + 0) = _; rw [add_zero]
theorem SL_filter (l : List Nat) (p : Nat → Bool) (f : Nat → K) (h : ∀ a ∈ l, p a = false → f a = 0) : SL l f = SL (l.filter p) f := by
  induction l with
  | nil => rfl
  | cons a l ih =>
    have ih' := ih (fun b hb => h b (by simp [hb]))
    cases hp : p a
    · rw [List.filter_cons_of_neg (by simp [hp]), SL_cons, ih', h a (by simp) hp, zero_add]
    · rw [List.filter_cons_of_pos hp, SL_cons, SL_cons, ih']

/-- Cauchy's matrix has no kernel. -/
theorem cauchy_kernel : ∀ (I J : List Nat) (x y v : Nat → K), I.length = J.length → I.Nodup → J.Nodup →
    (∀ i ∈ I, ∀ i' ∈ I, x i = x i' → i = i') → (∀ j ∈ J, ∀ j' ∈ J, y j = y j' → j = j') → (∀ i ∈ I, ∀ j ∈ J, x i + y j ≠ 0) →
    (∀ i ∈ I, SL J (fun j => v j * inv (x i + y j)) = 0) → ∀ j ∈ J, v j = 0
  | [], [], _, _, _, _, _, _, _, _, _, _ => by intro j hj; simp at hj
  | [], _ :: _, _, _, _, h, _, _, _, _, _, _ => by simp at h
  | _ :: _, [], _, _, _, h, _, _, _, _, _, _ => by simp at h
  | i0 :: I, j0 :: J, x, y, v, hl, hI, hJ, hx, hy, hne, hs => by
    obtain ⟨hi0, hI⟩ := List.nodup_cons.1 hI
    obtain ⟨hj0, hJ⟩ := List.nodup_cons.1 hJ
    have n0 : x i0 + y j0 ≠ 0 := hne i0 (by simp) j0 (by simp)
    -- the rest, with other weights
    have key : ∀ j ∈ J, v j * ((y j + y j0) * inv (x i0 + y j)) = 0 := by
      refine cauchy_kernel I J x y (fun j => v j * ((y j + y j0) * inv (x i0 + y j))) (by simpa using hl) hI hJ
        (fun i hi i' hi' => hx i (by simp [hi]) i' (by simp [hi'])) (fun j hj j' hj' => hy j (by simp [hj]) j' (by simp [hj']))
        (fun i hi j hj => hne i (by simp [hi]) j (by simp [hj])) (fun i hi => ?_)
      have xi : x i + x i0 ≠ 0 := fun e => hi0 (by rw [← hx i (by simp [hi]) i0 (by simp) (eq_of_add e)]; exact hi)
      have ni : x i + y j0 ≠ 0 := hne i (by simp [hi]) j0 (by simp)
      have e1 := hs i (by simp [hi])
      have e0 := hs i0 (by simp)
      rw [SL_cons] at e1 e0
      have f1 := congrArg (fun z => (x i + y j0) * z) e1
      have f0 := congrArg (fun z => (x i0 + y j0) * z) e0
      simp only [mul_zero, mul_add (x i + y j0), mul_add (x i0 + y j0)] at f1 f0
      rw [mul_left_comm, mul_inv ni, mul_one] at f1
      rw [mul_left_comm, mul_inv n0, mul_one] at f0
      have f2 : (x i + y j0) * SL J (fun j => v j * inv (x i + y j)) + (x i0 + y j0) * SL J (fun j => v j * inv (x i0 + y j)) = 0 := by
        have a1 := eq_of_add f1
        have a0 := eq_of_add f0
        rw [← a1, ← a0, add_self]
      rw [SL_mul, SL_mul, ← SL_add] at f2
      have f3 : SL J (fun j => (x i + x i0) * (v j * ((y j + y j0) * inv (x i0 + y j)) * inv (x i + y j))) = 0 := by
        rw [← f2]
        refine SL_congr fun j hj => ?_
        have nij : x i + y j ≠ 0 := hne i (by simp [hi]) j (by simp [hj])
        have n0j : x i0 + y j ≠ 0 := hne i0 (by simp) j (by simp [hj])
        have e : (x i + y j0) * inv (x i + y j) + (x i0 + y j0) * inv (x i0 + y j) = (x i + x i0) * ((y j + y j0) * (inv (x i0 + y j) * inv (x i + y j))) := by
          have m : (x i + y j0) * (x i0 + y j) + (x i0 + y j0) * (x i + y j) = (x i + x i0) * (y j + y j0) := by
            simp only [mul_add, add_mul]
            have c1 := mul_comm (x i0) (x i)
            have c2 := mul_comm (y j0) (x i0)
            have c3 := mul_comm (y j0) (y j)
            have c4 := mul_comm (y j0) (x i)
            apply K.ext
            simp only [add_v]
            rw [show (x i * x i0).v = (x i0 * x i).v by rw [mul_comm], show (y j0 * x i0).v = (x i0 * y j0).v by rw [mul_comm], show (y j0 * x i).v = (x i * y j0).v by rw [mul_comm], show (y j0 * y j).v = (y j * y j0).v by rw [mul_comm]]
            apply Nat.eq_of_testBit_eq
            intro b
            simp only [Nat.testBit_xor]
            cases (x i0 * x i).v.testBit b <;> cases (x i0 * y j0).v.testBit b <;> cases (x i * y j0).v.testBit b <;> cases (y j * y j0).v.testBit b <;> cases (x i * y j).v.testBit b <;> cases (x i0 * y j).v.testBit b <;> rfl
          have u1 : (x i + y j0) * inv (x i + y j) = (x i + y j0) * (x i0 + y j) * (inv (x i0 + y j) * inv (x i + y j)) := by
            rw [mul_assoc, ← mul_assoc (x i0 + y j), mul_inv n0j, one_mul]
          have u2 : (x i0 + y j0) * inv (x i0 + y j) = (x i0 + y j0) * (x i + y j) * (inv (x i0 + y j) * inv (x i + y j)) := by
            rw [mul_assoc, mul_comm (inv (x i0 + y j)), ← mul_assoc (x i + y j), mul_inv nij, one_mul]
          rw [u1, u2, ← add_mul, m, mul_assoc]
        have e' := congrArg (fun z => v j * z) e
        simp only [mul_add (v j)] at e'
        rw [mul_left_comm (x i + y j0), mul_left_comm (x i0 + y j0), e', mul_assoc (v j), mul_assoc (y j + y j0), mul_left_comm (x i + x i0) (v j)]
      rw [← SL_mul] at f3
      exact mul_eq_zero f3 xi
    have hv : ∀ j ∈ J, v j = 0 := by
      intro j hj
      have nz : (y j + y j0) * inv (x i0 + y j) ≠ 0 := by
        intro e
        have yj : y j + y j0 ≠ 0 := fun e => hj0 (by rw [← hy j (by simp [hj]) j0 (by simp) (eq_of_add e)]; exact hj)
        have z := mul_eq_zero e yj
        have n0j : x i0 + y j ≠ 0 := hne i0 (by simp) j (by simp [hj])
        have := mul_inv n0j
        rw [z, mul_zero] at this
        exact one_ne this.symm
      have := key j hj
      rw [mul_comm] at this
      exact mul_eq_zero this nz
    intro j hj
    rcases List.mem_cons.1 hj with rfl | hj
    · have e0 := hs i0 (by simp)
      rw [SL_cons, SL_congr (g := fun _ => 0 * 1) (fun b hb => by rw [hv b hb, zero_mul, zero_mul]), ← SL_mul, zero_mul, add_zero, mul_comm] at e0
      refine mul_eq_zero e0 (fun z => ?_)
      have := mul_inv n0
      rw [z, mul_zero] at this
      exact one_ne this.symm
    · exact hv j hj

/-! ### How many there are -/
theorem len_rm (a : Nat) : ∀ L : List Nat, L.Nodup → a ∈ L → (L.filter (fun b => !(b == a))).length + 1 = L.length
  | [], _, h => by simp at h
  | b :: L, hn, h => by
    obtain ⟨h1, h2⟩ := List.nodup_cons.1 hn
    by_cases e : b = a
    · subst e
      rw [List.filter_cons_of_neg (by simp), List.filter_eq_self.2 (fun c hc => by simp; rintro rfl; exact h1 hc), List.length_cons]
    · rw [List.filter_cons_of_pos (by simp [e]), List.length_cons, List.length_cons, len_rm a L h2 (by rcases List.mem_cons.1 h with h | h; exact absurd h.symm e; exact h)]
theorem len_out (k : Nat) : ∀ M : List Nat, M.Nodup → (∀ a ∈ M, a < k) → ((List.range k).filter (fun j => !(M.contains j))).length + M.length = k
  | [], _, _ => by rw [List.filter_eq_self.2 (fun _ _ => by simp)]; simp
  | a :: M, hn, hk => by
    obtain ⟨h1, h2⟩ := List.nodup_cons.1 hn
    have ih := len_out k M h2 (fun b hb => hk b (by simp [hb]))
    have e : (List.range k).filter (fun j => !((a :: M).contains j)) = ((List.range k).filter (fun j => !(M.contains j))).filter (fun b => !(b == a)) := by
      rw [List.filter_filter]
      apply List.filter_congr
      intro j _
      rw [List.contains_cons]
      cases M.contains j <;> cases (j == a) <;> rfl
    rw [e]
    have nd : ((List.range k).filter (fun j => !(M.contains j))).Nodup := List.Pairwise.filter _ List.nodup_range
    have := len_rm a _ nd (List.mem_filter.2 ⟨List.mem_range.2 (hk a (by simp)), by simpa using h1⟩)
    rw [List.length_cons]
    omega
theorem len_split (p : Nat → Bool) (l : List Nat) : (l.filter p).length + (l.filter (fun a => !(p a))).length = l.length := by
  induction l with
  | nil => rfl
  | cons a l ih =>
    cases h : p a
    · rw [List.filter_cons_of_neg (by simp [h]), List.filter_cons_of_pos (by simp [h]), List.length_cons, List.length_cons]; omega
    · rw [List.filter_cons_of_pos h, List.filter_cons_of_neg (by simp [h]), List.length_cons, List.length_cons]; omega
def kn (n : Nat) : K := ⟨n % 256, Nat.mod_lt _ (by decide)⟩
theorem kn_inj {a b : Nat} (ha : a < 256) (hb : b < 256) (h : kn a = kn b) : a = b := by
  have := congrArg K.v h
  simp only [kn] at this
  omega
theorem kn_add {a b : Nat} (ha : a < 256) (hb : b < 256) : kn a + kn b = xk a b := by
  apply K.ext
  rw [xk_v ha hb, add_v]
  show a % 256 ^^^ b % 256 = _
  rw [Nat.mod_eq_of_lt ha, Nat.mod_eq_of_lt hb]
theorem kn_ne {a b : Nat} (ha : a < 256) (hb : b < 256) (h : a ≠ b) : kn a + kn b ≠ 0 := fun e => h (kn_inj ha hb (eq_of_add e))

/-- ANY K ROWS. -/
theorem any_rows (k m : Nat) (hk : k + m ≤ 255) (ρ : Nat → Nat) (hρ : ∀ t, t < k → ρ t < k + m) (hi : ∀ s t, s < k → t < k → ρ s = ρ t → s = t) (P : Mt) (hP : ∀ i, i < k → ∀ j, j < k → P i j = cauM k (ρ i) j) :
    ∀ r, Thin k k P r → k ≤ r := by
  intro r ⟨B, C, hBC⟩
  apply Decidable.byContradiction
  intro hlt
  obtain ⟨v, ⟨i0, hi0, hv⟩, hs⟩ := kernel r k (fun i l => C l i) (by omega)
  have hrow : ∀ t, t < k → S k (fun j => cauM k (ρ t) j * v j) = 0 := by
    intro t ht
    rw [S_congr (g := fun j => mm r B C t j * v j) (fun j hj => by rw [← hP t ht j hj, hBC t ht j hj])]
    show S k (fun j => S r (fun l => B t l * C l j) * v j) = 0
    rw [← S_assoc r k (B t) C v, S_congr (g := fun _ => 0) (fun l hl => ?_), S_zero]
    rw [S_congr (g := fun j => v j * C l j) (fun j _ => mul_comm _ _), hs l hl, mul_zero]
  -- the rows of One
  have hone : ∀ t, t < k → ρ t < k → v (ρ t) = 0 := by
    intro t ht hl
    have := hrow t ht
    rw [S_congr (g := fun j => dl (ρ t) j * v j) (fun j _ => by rw [cauM, if_pos hl]), S_dl_l v hl] at this
    exact this
  let D := (List.range k).filter (fun t => decide (ρ t < k))
  let M := D.map ρ
  let I := (List.range k).filter (fun t => !(decide (ρ t < k)))
  let J := (List.range k).filter (fun j => !(M.contains j))
  have hD : ∀ t ∈ D, t < k ∧ ρ t < k := fun t ht => by
    obtain ⟨h1, h2⟩ := List.mem_filter.1 ht
    exact ⟨List.mem_range.1 h1, by simpa using h2⟩
  have hI : ∀ t ∈ I, t < k ∧ k ≤ ρ t := fun t ht => by
    obtain ⟨h1, h2⟩ := List.mem_filter.1 ht
    exact ⟨List.mem_range.1 h1, by simpa using h2⟩
  have hJ : ∀ j ∈ J, j < k := fun j hj => List.mem_range.1 (List.mem_filter.1 hj).1
  have ndD : D.Nodup := List.Pairwise.filter _ List.nodup_range
  have ndM : M.Nodup := by
    show List.Pairwise _ (D.map ρ)
    rw [List.pairwise_map]
    exact List.Pairwise.imp_of_mem (fun {a b} ha hb hne e => hne (hi a b (hD a ha).1 (hD b hb).1 e)) ndD
  have c1 := len_out k M ndM (fun a ha => by obtain ⟨t, ht, rfl⟩ := List.mem_map.1 ha; exact (hD t ht).2)
  have c2 := len_split (fun t => decide (ρ t < k)) (List.range k)
  have lM : M.length = D.length := List.length_map _
  have lIJ : I.length = J.length := by
    rw [List.length_range] at c2
    have c1' : J.length + M.length = k := c1
    have c2' : D.length + I.length = k := c2
    omega
  have out : ∀ j, j < k → (!(M.contains j)) = false → v j = 0 := by
    intro j _ h
    have : j ∈ M := by simpa using h
    obtain ⟨t, ht, rfl⟩ := List.mem_map.1 this
    exact hone t (hD t ht).1 (hD t ht).2
  have ker := cauchy_kernel I J (fun t => kn (ρ t)) (fun j => kn j) v lIJ (List.Pairwise.filter _ List.nodup_range) (List.Pairwise.filter _ List.nodup_range)
    (fun s hs t ht e => hi s t (hI s hs).1 (hI t ht).1 (kn_inj (by have := hρ s (hI s hs).1; omega) (by have := hρ t (hI t ht).1; omega) e))
    (fun a ha b hb e => kn_inj (by have := hJ a ha; omega) (by have := hJ b hb; omega) e)
    (fun t ht j hj => kn_ne (by have := hρ t (hI t ht).1; omega) (by have := hJ j hj; omega) (by have := (hI t ht).2; have := hJ j hj; omega))
    (fun t ht => by
      have e := hrow t (hI t ht).1
      rw [← SL_range, SL_filter _ (fun j => !(M.contains j)) _ (fun j hj h => by rw [out j (List.mem_range.1 hj) h, mul_zero])] at e
      rw [← e]
      refine SL_congr fun j hj => ?_
      rw [cauM, if_neg (by have := (hI t ht).2; omega), mul_comm, kn_add (by have := hρ t (hI t ht).1; omega) (by have := hJ j hj; omega)])
  apply hv
  cases h : !(M.contains i0)
  · exact out i0 hi0 h
  · exact ker i0 (List.mem_filter.2 ⟨List.mem_range.2 hi0, h⟩)
end Go.Proofs.YtfjkdmiaagalhaaGreat

namespace Go.Proofs.YtfjkdmiaagalhaaGreat
open K

/-- How far the elimination of the wide rows comes is the rank. -/
theorem wide_rank (n : Nat) (A : Nat → K) : Rk n n (mt n A) (redu n (wideM n A) n).2 :=
  (redu_rank n n (wideM n A)).congr (fun i _ j hj => by rw [wideM, if_pos hj, mt])
theorem wide_rank_eq (n : Nat) (A : Nat → K) : (redu n (wideM n A) n).2 = (redu n (mt n A) n).2 := (wide_rank n A).eq (redu_rank n n (mt n A))
/-- The inverse, if it has come so far. -/
def invQ (n : Nat) (A : Nat → K) : Mt := fun i j => (redu n (wideM n A) n).1 i (n + j)
theorem invQ_ok (n : Nat) (A : Nat → K) (h : (redu n (wideM n A) n).2 = n) : ∀ i, i < n → ∀ j, j < n → mm n (invQ n A) (mt n A) i j = dl i j ∧ mm n (mt n A) (invQ n A) i j = dl i j :=
  redu_inv n (mt n A) (wideM n A) (fun i _ j hj => by rw [wideM, if_pos hj, mt]) (fun i _ j _ => by rw [wideM, if_neg (by omega), show n + j - n = j by omega]) h
theorem flat_mul_left (n : Nat) (A : Nat → K) (h : (redu n (wideM n A) n).2 = n) (t : Nat) (ht : t < n * n) : flat n (mm n (mt n (flat n (invQ n A))) (mt n A)) t = flat n dl t := by
  rw [flat, flat, ← (invQ_ok n A h _ (div_lt ht) _ (mod_lt' ht)).1]
  exact mm_congr (fun l hl => mt_flat _ _ hl) (fun _ _ => rfl)
theorem flat_mul_right (n : Nat) (A : Nat → K) (h : (redu n (wideM n A) n).2 = n) (t : Nat) (ht : t < n * n) : flat n (mm n (mt n A) (mt n (flat n (invQ n A)))) t = flat n dl t := by
  rw [flat, flat, ← (invQ_ok n A h _ (div_lt ht) _ (mod_lt' ht)).2]
  exact mm_congr (fun _ _ => rfl) (fun l _ => mt_flat _ _ (mod_lt' ht))
/-- The picked rows of Cauchy(k, m). -/
theorem picked_full (k m : Nat) (hk : k + m ≤ 255) (ρ : Nat → Nat) (hρ : ∀ t, t < k → ρ t < k + m) (hi : ∀ s t, s < k → t < k → ρ s = ρ t → s = t) (A : Nat → K)
    (hA : ∀ t, t < k * k → A t = flat k (fun i j => mt k (flat k (cauM k)) (ρ i) j) t) : (redu k (wideM k A) k).2 = k := by
  have R := wide_rank k A
  refine Nat.le_antisymm R.le_rows (any_rows k m hk ρ hρ hi (mt k A) (fun i hi' j hj => ?_) _ R.1)
  rw [mt, hA _ (at_lt hi' hj), flat, div_at hj, mod_at hj, mt_flat _ _ hj]

/-! ### Out of a list, one by one -/
theorem take_out {L1 L2 : List Nat} {n : Nat} (hn : n < L1.length) (h : (L1 ++ L2).Nodup) : (L1.take n ++ L1.drop (n + 1) ++ (L2 ++ [L1[n]])).Nodup := by
  have e : L1.take n ++ L1[n] :: L1.drop (n + 1) = L1 := by rw [← List.drop_eq_getElem_cons hn, List.take_append_drop]
  refine (List.Perm.nodup_iff ?_).1 h
  have p1 : L1.Perm (L1[n] :: (L1.take n ++ L1.drop (n + 1))) := by
    conv => lhs; rw [← e]
    exact List.perm_middle
  have p2 : (L1 ++ L2).Perm (L1[n] :: (L1.take n ++ L1.drop (n + 1)) ++ L2) := p1.append_right L2
  refine p2.trans ?_
  rw [List.cons_append]
  rw [← List.append_assoc (L1.take n ++ L1.drop (n + 1)) L2 [L1[n]]]
  exact (List.perm_append_singleton _ _).symm
theorem nodup_inj {L : List Nat} (h : L.Nodup) (s t : Nat) (hs : s < L.length) (ht : t < L.length) (e : L.getD s 0 = L.getD t 0) : s = t := by
  rw [List.getD_eq_getElem?_getD, List.getD_eq_getElem?_getD, List.getElem?_eq_getElem hs, List.getElem?_eq_getElem ht] at e
  simp only [Option.getD_some] at e
  have hp := List.pairwise_iff_getElem.1 h
  rcases Nat.lt_trichotomy s t with l | l | l
  · exact absurd e (hp s t hs ht l)
  · exact l
  · exact absurd e.symm (hp t s ht hs l)
end Go.Proofs.YtfjkdmiaagalhaaGreat

/-
  Plain mathematics: inverses and ranks as the program reckons them; rows taken out of a list one by one.
-/
import Derived.Test.YthedeggggbdibaaCauMath
import Derived.Test.YthedeggggbdibaaBeside
namespace Go.Proofs.Ythedeggggbdibaa
open K

/-- How far the elimination of the wide rows comes is the rank. -/
theorem wide_rank (n : Nat) (A : Nat → K) : Rk n n (mt n A) (redu n (wideM n A) n).2 :=
  (redu_rank n n (wideM n A)).congr (fun i _ j hj => by rw [wideM, if_pos hj, mt])
theorem wide_rank_eq (n : Nat) (A : Nat → K) : (redu n (wideM n A) n).2 = (redu n (mt n A) n).2 := (wide_rank n A).eq (redu_rank n n (mt n A))
/-- The inverse, if it has come so far. -/
def invQ (n : Nat) (A : Nat → K) : Mt := fun i j => (redu n (wideM n A) n).1 i (n + j)
theorem invQ_ok (n : Nat) (A : Nat → K) (h : (redu n (wideM n A) n).2 = n) : ∀ i, i < n → ∀ j, j < n → mm n (invQ n A) (mt n A) i j = dl i j ∧ mm n (mt n A) (invQ n A) i j = dl i j :=
  redu_inv n (mt n A) (wideM n A) (fun i _ j hj => by rw [wideM, if_pos hj, mt]) (fun i _ j _ => by rw [wideM, if_neg (by omega), show n + j - n = j by omega]) h
theorem flat_mul_left (n : Nat) (A : Nat → K) (h : (redu n (wideM n A) n).2 = n) (t : Nat) (ht : t < n * n) : flat n (mm n (mt n (flat n (invQ n A))) (mt n A)) t = flat n dl t := by
  rw [flat, flat, ← (invQ_ok n A h _ (div_lt ht) _ (mod_lt' ht)).1]
  exact mm_congr (fun l hl => mt_flat _ _ hl) (fun _ _ => rfl)
theorem flat_mul_right (n : Nat) (A : Nat → K) (h : (redu n (wideM n A) n).2 = n) (t : Nat) (ht : t < n * n) : flat n (mm n (mt n A) (mt n (flat n (invQ n A)))) t = flat n dl t := by
  rw [flat, flat, ← (invQ_ok n A h _ (div_lt ht) _ (mod_lt' ht)).2]
  exact mm_congr (fun _ _ => rfl) (fun l _ => mt_flat _ _ (mod_lt' ht))
/-- The picked rows of Cauchy(k, m). -/
theorem picked_full (k m : Nat) (hk : k + m ≤ 255) (ρ : Nat → Nat) (hρ : ∀ t, t < k → ρ t < k + m) (hi : ∀ s t, s < k → t < k → ρ s = ρ t → s = t) (A : Nat → K)
    (hA : ∀ t, t < k * k → A t = flat k (fun i j => mt k (flat k (cauM k)) (ρ i) j) t) : (redu k (wideM k A) k).2 = k := by
  have R := wide_rank k A
  refine Nat.le_antisymm R.le_rows (any_rows k m hk ρ hρ hi (mt k A) (fun i hi' j hj => ?_) _ R.1)
  rw [mt, hA _ (at_lt hi' hj), flat, div_at hj, mod_at hj, mt_flat _ _ hj]

/-! ### Out of a list, one by one -/
theorem take_out {L1 L2 : List Nat} {n : Nat} (hn : n < L1.length) (h : (L1 ++ L2).Nodup) : (L1.take n ++ L1.drop (n + 1) ++ (L2 ++ [L1[n]])).Nodup := by
  have e : L1.take n ++ L1[n] :: L1.drop (n + 1) = L1 := by rw [← List.drop_eq_getElem_cons hn, List.take_append_drop]
  refine (List.Perm.nodup_iff ?_).1 h
  have p1 : L1.Perm (L1[n] :: (L1.take n ++ L1.drop (n + 1))) := by
    conv => lhs; rw [← e]
    exact List.perm_middle
  have p2 : (L1 ++ L2).Perm (L1[n] :: (L1.take n ++ L1.drop (n + 1)) ++ L2) := p1.append_right L2
  refine p2.trans ?_
  rw [List.cons_append]
  rw [← List.append_assoc (L1.take n ++ L1.drop (n + 1)) L2 [L1[n]]]
  exact (List.perm_append_singleton _ _).symm
theorem nodup_inj {L : List Nat} (h : L.Nodup) (s t : Nat) (hs : s < L.length) (ht : t < L.length) (e : L.getD s 0 = L.getD t 0) : s = t := by
  rw [List.getD_eq_getElem?_getD, List.getD_eq_getElem?_getD, List.getElem?_eq_getElem hs, List.getElem?_eq_getElem ht] at e
  simp only [Option.getD_some] at e
  have hp := List.pairwise_iff_getElem.1 h
  rcases Nat.lt_trichotomy s t with l | l | l
  · exact absurd e (hp s t hs ht l)
  · exact l
  · exact absurd e.symm (hp t s ht hs l)
end Go.Proofs.Ythedeggggbdibaa

/-
  Plain mathematics: matrices row by row in one list; the product as it grows.
-/
import Derived.Test.YtfjkdmiaagalhaaGreatLin
namespace Go.Proofs.YtfjkdmiaagalhaaGreat
open K
def mt (c : Nat) (A : Nat → K) : Mt := fun i j => A (i * c + j)
def flat (c : Nat) (M : Mt) : Nat → K := fun k => M (k / c) (k % c)
theorem div_at {c i j : Nat} (h : j < c) : (i * c + j) / c = i := by rw [Nat.mul_comm, Nat.mul_add_div (by omega), Nat.div_eq_of_lt h, Nat.add_zero]
theorem mod_at {c i j : Nat} (h : j < c) : (i * c + j) % c = j := by rw [Nat.mul_comm, Nat.mul_add_mod, Nat.mod_eq_of_lt h]
theorem mt_flat {c : Nat} (M : Mt) (i : Nat) {j : Nat} (h : j < c) : mt c (flat c M) i j = M i j := by rw [mt, flat, div_at h, mod_at h]
theorem flat_mt {c : Nat} (A : Nat → K) (k : Nat) : flat c (mt c A) k = A k := by rw [flat, mt, Nat.mul_comm, Nat.div_add_mod]
theorem div_lt {k r c : Nat} (h : k < r * c) : k / c < r := Nat.div_lt_of_lt_mul (by rwa [Nat.mul_comm])
theorem mod_lt' {k r c : Nat} (h : k < r * c) : k % c < c := Nat.mod_lt _ (by apply Nat.pos_of_ne_zero; rintro rfl; simp at h)
theorem at_lt {i j r c : Nat} (hi : i < r) (hj : j < c) : i * c + j < r * c := by
  have : (i + 1) * c ≤ r * c := Nat.mul_le_mul_right _ hi
  rw [Nat.add_mul, Nat.one_mul] at this
  omega
theorem in_row {k i c : Nat} (hc : 0 < c) : (i * c ≤ k ∧ k < i * c + c) ↔ k / c = i := by
  constructor
  · intro ⟨h1, h2⟩
    obtain ⟨j, rfl⟩ : ∃ j, k = i * c + j := ⟨k - i * c, by omega⟩
    exact div_at (by omega)
  · intro h
    have e := Nat.div_add_mod k c
    have l := Nat.mod_lt k hc
    rw [h, Nat.mul_comm] at e
    omega
theorem row_off {k i c : Nat} (h : k / c = i) : k - i * c = k % c := by
  have e := Nat.div_add_mod k c
  rw [h, Nat.mul_comm] at e
  omega
/-- What the product has behind i rows and j members. -/
def prodF (ca cb : Nat) (A B : Nat → K) (i j : Nat) : Nat → K := fun k => if k / cb < i then mm ca (mt ca A) (mt cb B) (k / cb) (k % cb) else if k / cb = i then mm j (mt ca A) (mt cb B) i (k % cb) else 0
theorem prodF_zero (ca cb : Nat) (A B : Nat → K) : prodF ca cb A B 0 0 = fun _ => 0 := by
  funext k
  rw [prodF, if_neg (Nat.not_lt_zero _)]
  split <;> rfl
theorem prodF_next (ca cb : Nat) (A B : Nat → K) (i : Nat) : prodF ca cb A B i ca = prodF ca cb A B (i + 1) 0 := by
  funext k
  unfold prodF
  by_cases h1 : k / cb < i
  · rw [if_pos h1, if_pos (by omega)]
  rw [if_neg h1]
  by_cases h2 : k / cb = i
  · rw [if_pos h2, if_pos (by omega), h2]
  · rw [if_neg h2, if_neg (by omega)]
    split <;> rfl
theorem prodF_step (ca cb : Nat) (A B : Nat → K) (i j k : Nat) (hc : 0 < cb) :
    (if i * cb ≤ k ∧ k < i * cb + cb then prodF ca cb A B i j k + B (j * cb + (k - i * cb)) * A (i * ca + j) else prodF ca cb A B i j k) = prodF ca cb A B i (j + 1) k := by
  by_cases h : i * cb ≤ k ∧ k < i * cb + cb
  · rw [if_pos h]
    have e := (in_row hc).1 h
    have n : ¬ k / cb < i := by rw [e]; exact Nat.lt_irrefl _
    simp only [prodF, if_neg n, if_pos e]
    rw [row_off e]
    show _ = S (j + 1) _
    rw [S, mul_comm]
    rfl
  · rw [if_neg h]
    have e : k / cb ≠ i := fun e => h ((in_row hc).2 e)
    simp only [prodF, if_neg e]
theorem prodF_all (ca cb ra : Nat) (A B : Nat → K) (k : Nat) (h : k < ra * cb) : prodF ca cb A B ra 0 k = flat cb (mm ca (mt ca A) (mt cb B)) k := by
  rw [prodF, if_pos (div_lt h), flat]
end Go.Proofs.YtfjkdmiaagalhaaGreat

/-
  Plain mathematics for MatrixRing: products, what is turned about, inverses of products.
-/
import Derived.Test.YthedeggggbdibaaRowsMath
namespace Go.Proofs.Ythedeggggbdibaa
open K

theorem ring_assoc (r0 r1 r2 : Nat) (A B C : Nat → K) (t : Nat) (h : t < r0 * r0) :
    flat r0 (mm r2 (mt r2 (flat r2 (mm r1 (mt r1 A) (mt r2 B)))) (mt r0 C)) t = flat r0 (mm r1 (mt r1 A) (mt r0 (flat r0 (mm r2 (mt r2 B) (mt r0 C))))) t := by
  rw [flat, flat]
  refine (mm_congr (A' := mm r1 (mt r1 A) (mt r2 B)) (B' := mt r0 C) (fun k hk => mt_flat _ _ hk) (fun _ _ => rfl)).trans ?_
  refine (mm_assoc r1 r2 _ _ _ _ _).symm.trans ?_
  exact mm_congr (fun _ _ => rfl) (fun k _ => (mt_flat _ _ (mod_lt' h)).symm)
theorem ring_turn (r0 r1 r2 : Nat) (A B : Nat → K) (t : Nat) (h : t < r2 * r0) :
    flat r0 (fun i j => mt r2 (flat r2 (mm r1 (mt r1 A) (mt r2 B))) j i) t = flat r0 (mm r1 (mt r1 (flat r1 (fun i j => mt r2 B j i))) (mt r0 (flat r0 (fun i j => mt r1 A j i)))) t := by
  rw [flat, flat, mt_flat _ _ (div_lt h), ← mm_T]
  exact mm_congr (fun k hk => (mt_flat (fun i j => mt r2 B j i) _ hk).symm) (fun k _ => (mt_flat (fun i j => mt r1 A j i) k (mod_lt' h)).symm)

def Full (n : Nat) (A : Nat → K) : Prop := (redu n (wideM n A) n).2 = n
theorem full_le (n : Nat) (A : Nat → K) : (redu n (wideM n A) n).2 ≤ n := (wide_rank n A).le_rows
theorem full_right {n : Nat} {A : Nat → K} (B : Mt) (h : ∀ i, i < n → ∀ j, j < n → mm n (mt n A) B i j = dl i j) : Full n A :=
  Nat.le_antisymm (full_le n A) (Wide.le ⟨dl, B, fun s hs t ht => (mm_congr (fun k _ => mm_dl_l _ k hs) (fun _ _ => rfl)).trans (h s hs t ht)⟩ (wide_rank n A).1)
theorem full_left {n : Nat} {A : Nat → K} (B : Mt) (h : ∀ i, i < n → ∀ j, j < n → mm n B (mt n A) i j = dl i j) : Full n A :=
  Nat.le_antisymm (full_le n A) (Wide.le ⟨B, dl, fun s hs t ht => (mm_dl_r _ s ht).trans (h s hs t ht)⟩ (wide_rank n A).1)
def prodM (n : Nat) (D O : Nat → K) : Nat → K := flat n (mm n (mt n D) (mt n O))
theorem prodM_at (n : Nat) (D O : Nat → K) (i : Nat) {j : Nat} (hj : j < n) : mt n (prodM n D O) i j = mm n (mt n D) (mt n O) i j := mt_flat _ _ hj
theorem ring_bad {n : Nat} {D O : Nat → K} (h : Full n (prodM n D O)) : Full n D ∧ Full n O := by
  have hx := invQ_ok n (prodM n D O) h
  constructor
  · refine full_right (mm n (mt n O) (invQ n (prodM n D O))) (fun i hi j hj => ?_)
    rw [mm_assoc, ← (hx i hi j hj).2]
    exact mm_congr (fun k hk => (prodM_at n D O i hk).symm) (fun _ _ => rfl)
  · refine full_left (mm n (invQ n (prodM n D O)) (mt n D)) (fun i hi j hj => ?_)
    rw [← mm_assoc, ← (hx i hi j hj).1]
    exact mm_congr (fun _ _ => rfl) (fun k _ => (prodM_at n D O k hj).symm)
theorem ring_good {n : Nat} {D O : Nat → K} (hD : Full n D) (hO : Full n O) : Full n (prodM n D O) ∧ ∀ t, t < n * n → flat n (invQ n (prodM n D O)) t = flat n (mm n (mt n (flat n (invQ n O))) (mt n (flat n (invQ n D)))) t := by
  have xD := invQ_ok n D hD
  have xO := invQ_ok n O hO
  have hr : ∀ i, i < n → ∀ j, j < n → mm n (mt n (prodM n D O)) (mm n (invQ n O) (invQ n D)) i j = dl i j := by
    intro i hi j hj
    rw [← (xD i hi j hj).2]
    refine (mm_congr (A' := mm n (mt n D) (mt n O)) (fun k hk => prodM_at n D O i hk) (fun _ _ => rfl)).trans ?_
    rw [← mm_assoc]
    refine mm_congr (fun _ _ => rfl) (fun k hk => ?_)
    rw [mm_assoc]
    exact (mm_congr (fun l hl => (xO k hk l hl).2) (fun _ _ => rfl)).trans (mm_dl_l _ j hk)
  have hF : Full n (prodM n D O) := full_right _ hr
  refine ⟨hF, fun t ht => ?_⟩
  have xP := invQ_ok n (prodM n D O) hF
  have hi := div_lt ht
  have hj := mod_lt' ht
  rw [flat, flat]
  refine (mm_dl_r (invQ n (prodM n D O)) _ hj).symm.trans ?_
  refine (mm_congr (fun _ _ => rfl) (fun k hk => (hr k hk _ hj).symm)).trans ?_
  rw [mm_assoc]
  refine (mm_congr (fun k hk => (xP _ hi k hk).1) (fun _ _ => rfl)).trans ?_
  refine (mm_dl_l _ _ hi).trans ?_
  exact mm_congr (fun k hk => (mt_flat _ _ hk).symm) (fun k _ => (mt_flat _ _ hj).symm)
end Go.Proofs.Ythedeggggbdibaa

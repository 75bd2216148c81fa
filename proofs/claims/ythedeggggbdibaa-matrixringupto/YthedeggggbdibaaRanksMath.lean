/-
  Plain mathematics for MatrixRanks; more on lists of one's own.
-/
import Derived.Test.YthedeggggbdibaaMade
import Derived.Test.YthedeggggbdibaaTurn
namespace Go.Proofs.Ythedeggggbdibaa
open Go.RowKit Go.Lib

theorem rank_turned (r c : Nat) (A : Nat → K) : (redu c (mt r (flat r (fun i j => mt c A j i))) r).2 = (redu r (mt c A) c).2 := by
  have h1 := (redu_rank r c (mt c A)).turn
  have h2 := redu_rank c r (mt r (flat r (fun i j => mt c A j i)))
  exact h2.eq (h1.congr (fun i _ j hj => by rw [mt_flat _ _ hj]))
theorem rank_le (r c : Nat) (A : Nat → K) : (redu r (mt c A) c).2 ≤ r ∧ (redu r (mt c A) c).2 ≤ c := ⟨(redu_rank r c (mt c A)).le_rows, (redu_rank r c (mt c A)).le_cols⟩
/-- The matrix with one row more. -/
def moreF (N : Nat) (A M : Nat → K) : Nat → K := fun t => if t < N then A t else M (t - N)
theorem rank_more (r c : Nat) (A X : Nat → K) : (redu (r + 1) (mt c (moreF (r * c) A (flat c (mm r (mt r X) (mt c A))))) c).2 = (redu r (mt c A) c).2 := by
  refine (redu_rank (r + 1) c _).eq ((redu_rank r c (mt c A)).more (fun k => mt r X 0 k) _ (fun i hi j hj => ?_) (fun j hj => ?_))
  · rw [mt, moreF, if_pos (at_lt hi hj), mt]
  · rw [mt, moreF, if_neg (by omega), show r * c + j - r * c = 0 * c + j by omega, flat, div_at hj, mod_at hj]
    rfl

def vals (N : Nat) (A : Nat → K) : List Nat := (List.range N).map fun t => (A t).v
theorem vals_length (N : Nat) (A : Nat → K) : (vals N A).length = N := by simp [vals]
theorem vals_get (N : Nat) (A : Nat → K) (t : Nat) (h : t < N) : (vals N A).getD t 0 = (A t).v := by
  rw [List.getD_eq_getElem?_getD, vals, List.getElem?_map, List.getElem?_range h]; rfl
theorem vals_get? (N : Nat) (A : Nat → K) (t : Nat) (h : t < N) : (ints (vals N A))[t]? = some (.int .i64 (((A t).v : Nat) : Int)) := by
  rw [ints, vals, List.getElem?_map, List.getElem?_map, List.getElem?_range h]; rfl
theorem vals_succ (A : Nat → K) (i : Nat) : vals i A ++ [(A i).v] = vals (i + 1) A := by rw [vals, vals, List.range_succ, List.map_append]; rfl
theorem vals_app (N m : Nat) (A M : Nat → K) : vals N A ++ vals m M = vals (N + m) (moreF N A M) := by
  apply List.ext_getElem?
  intro i
  by_cases h1 : i < N
  · rw [List.getElem?_append_left (by rw [vals_length]; exact h1)]
    simp only [vals, List.getElem?_map, List.getElem?_range h1, List.getElem?_range (show i < N + m by omega), Option.map_some, moreF, if_pos h1]
  · rw [List.getElem?_append_right (by rw [vals_length]; omega), vals_length]
    by_cases h2 : i < N + m
    · simp only [vals, List.getElem?_map, List.getElem?_range (show i - N < m by omega), List.getElem?_range h2, Option.map_some, moreF, if_neg h1]
    · rw [List.getElem?_eq_none (by rw [vals_length]; omega), List.getElem?_eq_none (by rw [vals_length]; omega)]
/-- A list of elements of one's own is a list to be read. -/
theorem IL.knx {B f N : Nat} {A : Nat → K} {w : World} {v : Value} (h : IL B v (vals N A) w) (hf : f < B) : NX w f v N (fun t => (((A t).v : Nat) : Int)) := by
  have nx := h.nx hf
  rw [vals_length] at nx
  obtain ⟨a, cc, e1, e2, e3⟩ := nx
  refine ⟨a, cc, e1, e2, ?_⟩
  rcases e3 with e3 | ⟨bl, off, e4, e5, e6, e7⟩
  · exact .inl e3
  · refine .inr ⟨bl, off, e4, e5, e6, fun j hj => ?_⟩
    rw [e7 j hj]
    show some (Value.int .i64 (((vals N A).getD j 0 : Nat) : Int)) = _
    rw [vals_get N A j hj]
theorem IL.go {B f : Nat} {L : List Nat} {w w' : World} {v : Value} (h : IL B v L w) (hg : w.grownBy w' (some f)) (hf : f < B) : IL B v L w' :=
  h.apart hg (fun b hb e => by have := (h.lt b hb).1; simp only [Option.some.injEq] at e; omega)
theorem NX.up {w w' : World} {n : Nat} {v : Value} {Z : Nat → Int} {f : Nat} (h : NX w f v n Z) (hb : Below w.heap.size w w') : NX w' w'.heap.size v n Z := by
  obtain ⟨a, c, rfl, hc, h⟩ := h
  refine ⟨a, c, rfl, hc, ?_⟩
  rcases h with h | ⟨bl, off, rfl, hbl, hf, hc⟩
  · exact .inl h
  · exact .inr ⟨bl, off, rfl, Nat.lt_of_lt_of_le hbl hb.size, by have := hb.size; omega, fun i hi => (cell_congr (hb.block bl hbl)).trans (hc i hi)⟩
/-- A list to be read, appended to a new one. -/
theorem IL.copy {B f N : Nat} {A : Nat → K} {w : World} {va : Value} (hB : B ≤ w.heap.size) (hA : NX w f va N (fun t => (((A t).v : Nat) : Int))) (h0 : N ≠ 0) (hN : N ≤ 1000) (q : Nat) :
    ∃ ao cap w', (Builtin.append_ #[22, 22] 22 #[.slice (some ⟨w.heap.size, 0, none⟩) 0 0, va]).run Try.prog ((w.drewN q).alloc (.cells #[] 3)) = .ok (.slice ao N cap) w' ∧ IL B (.slice ao N cap) (vals N A) w' ∧ Below w.heap.size w w' := by
  obtain ⟨bl, off, c, rfl, hc, hbl, hf⟩ := hA.at h0
  have e6 : IL B (.slice (some ⟨w.heap.size, 0, none⟩) 0 0) [] ((w.drewN q).alloc (.cells #[] 3)) := IL.empty (w := w.drewN q) hB
  have hal : Below w.heap.size w ((w.drewN q).alloc (.cells #[] 3)) := (below_drew (Below.refl w.heap.size w) q).alloc (Nat.le_refl _) _
  have hA' := hA.below hal
  obtain ⟨v', w', h1, h2, h3, h4, h5⟩ := e6.app (a := ⟨bl, off, none⟩) (c := c) (vals N A) (fun t u hu => by
    have ht := ints_lt hu
    rw [vals_length] at ht
    rw [vals_get? N A t ht] at hu
    cases hu
    rw [Addr.add_mid]
    exact hA'.cell_at t ht) (by rw [vals_length, List.length_nil]; omega) (by simp; omega)
  rw [vals_length] at h1
  rw [List.nil_append] at h2
  obtain ⟨ao, cap, rfl⟩ := h2.shape
  rw [vals_length] at h1 h2
  refine ⟨ao, cap, w', h1, h2, ?_⟩
  exact hal.grown h3 (by simp) (fun k hk => by simp only [Value.ownBlock, Option.some.injEq] at hk; omega)
end Go.Proofs.Ythedeggggbdibaa

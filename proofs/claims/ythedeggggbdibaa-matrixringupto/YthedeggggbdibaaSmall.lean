/-
  The contracts of Among and alike; lists of numbers of one's own.
-/
import Derived.Test.YthedeggggbdibaaMakesLaw
import Derived.Maps.AppendAt
import Derived.Lib.AppendZeros
namespace Go.Proofs.Ythedeggggbdibaa
open Go.RowKit Go.Lib

def amg (x : Int) (n : Nat) : Nat := ((x.tmod n + n).tmod n).toNat
theorem amg_spec (x : Int) (n : Nat) (hn : 0 < n) : (x.tmod n + n).tmod n = (amg x n : Int) ∧ amg x n < n ∧ 0 ≤ x.tmod n + n ∧ x.tmod n + n < 2 * n := by
  have hp : (0 : Int) < n := by omega
  have h2 : -(n : Int) < x.tmod n ∧ x.tmod n < n := by
    rcases Int.le_total 0 x with h | h
    · have a := Int.tmod_nonneg (n : Int) h
      have b := Int.tmod_lt_of_pos x hp
      omega
    · have a := Int.tmod_nonneg (n : Int) (show 0 ≤ -x by omega)
      have b := Int.tmod_lt_of_pos (-x) hp
      rw [Int.neg_tmod] at a b
      omega
  have h3 : 0 ≤ x.tmod n + n := by omega
  have h4 : 0 ≤ (x.tmod n + n).tmod n := Int.tmod_nonneg _ h3
  have h5 := Int.tmod_lt_of_pos (x.tmod n + n) (show (0 : Int) < n by omega)
  refine ⟨by rw [amg]; omega, by rw [amg]; omega, h3, by omega⟩
set_option maxRecDepth 100000 in
theorem among_any (w : World) (x : Int) (n : Nat) (hn : 0 < n) (hn2 : n < 100000) : Calls Try.prog 30 #[.int .i64 x, .int .i64 n] w fun e w' => e = .returned (.int .i64 ((amg x n : Nat) : Int)) ∧ w' = w := by
  obtain ⟨h1, h2, h3, h4⟩ := amg_spec x n hn
  have hb := IntKind.i64.wrap
  generalize amg x n = r at *
  have h0 : ((n : Int) == 0) = false := by simp; omega
  have h0' : ¬ ((n : Int) = 0) := by omega
  have hm1 : ¬ ((n : Int) = -1) := by omega
  obtain ⟨y, hy⟩ : ∃ y, y = x.tmod n := ⟨_, rfl⟩
  rw [← hy] at h1 h3 h4
  have hy' := hy.symm
  clear hy hb
  go_enter Try.func30, Try.ntmps30
  go_wp2
  go_ret
  exact ⟨rfl, rfl⟩

set_option maxRecDepth 100000 in
theorem alike_any {w : World} {f f' n : Nat} {r c : Int} {v v' : Value} {Z : Nat → Int} (h : NX w f v n Z) (h' : NX w f' v' n Z) (hn : n ≤ 140737488355328) :
    Calls Try.prog 31 #[.agg #[.int .i64 r, .int .i64 c, v], .agg #[.int .i64 r, .int .i64 c, v']] w fun e w' => e = .returned (.bool true) ∧ Below w.heap.size w w' := by
  have A := hide ((h.alloc (.cells #[.int .i64 r, .int .i64 c, v] 24)).alloc (.cells #[.int .i64 r, .int .i64 c, v'] 24))
  have A' := hide ((h'.alloc (.cells #[.int .i64 r, .int .i64 c, v] 24)).alloc (.cells #[.int .i64 r, .int .i64 c, v'] 24))
  obtain ⟨a, cp, rfl, _⟩ := h
  obtain ⟨a', cp', rfl, _⟩ := h'
  go_enter Try.func31, Try.ntmps31
  go_wp2_with fail
  refine (sameInts_any A.out A'.out hn).mono ?_
  rintro e w1 ⟨rfl, m, rfl⟩
  go_wp2
  go_ret
  exact ⟨rfl, below_drew (below_alloc (below_alloc (Below.refl _ _) _) _) _⟩

/-! ### Lists of numbers -/
def ints (L : List Nat) : List Value := L.map fun (x : Nat) => Value.int .i64 ((x : Nat) : Int)
theorem ints_length (L : List Nat) : (ints L).length = L.length := by simp [ints]
theorem ints_one (L : List Nat) : ∀ u ∈ ints L, u.oneCell' = true := by
  intro u hu
  obtain ⟨_, _, rfl⟩ := List.mem_map.1 hu
  rfl
/-- A list in a block of one's own, from block B on. -/
structure IL (B : Nat) (v : Value) (L : List Nat) (w : World) : Prop where
  own : w.ownsRow B 3 1 v L.length (ints L)
theorem IL.nil (B : Nat) (w : World) : IL B (.slice none 0 0) [] w := ⟨World.ownsRow_nil w B 3 1⟩
theorem IL.cells {B : Nat} {L : List Nat} {w : World} {v : Value} (h : IL B v L w) : (v = .slice none 0 0 ∧ L = []) ∨ ∃ g cap, v = .slice (some ⟨g, 0, none⟩) L.length cap ∧ L.length ≤ cap ∧ B ≤ g ∧ g < w.heap.size ∧ ∀ j, j < L.length → w.cell? ⟨g, j, none⟩ = some (.int .i64 ((L.getD j 0 : Nat) : Int)) := by
  obtain ⟨h1, ⟨rfl, h2⟩ | ⟨g, cap, cur, rfl, hB, hg, hn, _, hs, ht⟩⟩ := h.own
  · exact .inl ⟨rfl, List.eq_nil_of_length_eq_zero h2⟩
  · refine .inr ⟨g, cap, rfl, hn, hB, lt_of_block hg, fun j hj => ?_⟩
    have e : (ints L)[j]? = some (.int .i64 ((L.getD j 0 : Nat) : Int)) := by
      rw [ints, List.getElem?_map, List.getD_eq_getElem?_getD, List.getElem?_eq_getElem hj]; rfl
    rw [← ht, Nat.mul_one, List.getElem?_take, if_pos hj] at e
    rw [cell_of_row w g j _ _ _ hg]
    simpa using e
theorem IL.nx {B f : Nat} {L : List Nat} {w : World} {v : Value} (h : IL B v L w) (hf : f < B) : NX w f v L.length (fun t => ((L.getD t 0 : Nat) : Int)) := by
  rcases h.cells with ⟨rfl, rfl⟩ | ⟨g, cap, rfl, hc, hB, hl, hcell⟩
  · exact NX.nil _ _ _
  · exact ⟨_, cap, rfl, hc, .inr ⟨g, 0, rfl, hl, by omega, fun j hj => by rw [Nat.zero_add]; exact hcell j hj⟩⟩
theorem IL.keep {B : Nat} {L : List Nat} {w w' : World} {v : Value} (h : IL B v L w) (hb : Below w.heap.size w w') : IL B v L w' := by
  refine ⟨h.own.1, ?_⟩
  rcases h.own.2 with h2 | ⟨g, cap, cur, e, hB, hg, r⟩
  · exact .inl h2
  · exact .inr ⟨g, cap, cur, e, hB, (hb.block g (lt_of_block hg)).trans hg, r⟩
theorem IL.apart {B : Nat} {L : List Nat} {w w' : World} {v : Value} {row : Option Nat} (h : IL B v L w) (hg : w.grownBy w' row) (ha : ∀ b, v.ownBlock = some b → row ≠ some b) : IL B v L w' := by
  refine ⟨h.own.1, ?_⟩
  rcases h.own.2 with h2 | ⟨g, cap, cur, e, hB, hgg, r⟩
  · exact .inl h2
  · exact .inr ⟨g, cap, cur, e, hB, (hg.block g (lt_of_block hgg) (by have := ha g (by rw [e]; rfl); exact fun x => this x.symm)).trans hgg, r⟩
/-- What is appended to it. -/
theorem IL.app {B : Nat} {L : List Nat} {w : World} {v : Value} (h : IL B v L w) {a : Addr} {c : Nat} (N : List Nat) (hN : ∀ j u, (ints N)[j]? = some u → w.cell? (a.add j) = some u) (hl : L.length + N.length ≤ 100000) (hB : B ≤ w.heap.size) :
    ∃ v' w', (Builtin.append_ #[22, 22] 22 #[v, .slice (some a) N.length c]).run Try.prog w = .ok v' w' ∧ IL B v' (L ++ N) w' ∧ w.grownBy w' v.ownBlock ∧ (v' = .slice none 0 0 ↔ v = .slice none 0 0 ∧ N.length = 0) ∧ (v'.ownBlock = v.ownBlock ∨ v'.ownBlock = some w.heap.size) := by
  obtain ⟨i0, hi, hz0, hz1, hz2⟩ := info_parts Try.info3
  obtain ⟨v', w', h1, h2, h3, h4, h5⟩ := run_append_own_at (P := Try.prog) w B 22 22 3 i0 (.int .i64 0) 1 8 Try.underlying22 hi hz0 hz1 hz2 rfl (by decide) v L.length (ints L) h.own a N.length c (ints N) (by rw [ints_length, Nat.mul_one]) hN (ints_one N) (by unfold maxLen; omega) (by omega) hB
  refine ⟨v', w', h1, ⟨?_⟩, h3, h4, h5⟩
  rw [List.length_append, ints, List.map_append]
  exact h2
theorem IL.lt {B : Nat} {L : List Nat} {w : World} {v : Value} (h : IL B v L w) (b : Nat) (hb : v.ownBlock = some b) : B ≤ b ∧ b < w.heap.size := by
  obtain ⟨h1, ⟨rfl, h2⟩ | ⟨g, cap, cur, rfl, hB, hg, _⟩⟩ := h.own
  · simp [Value.ownBlock] at hb
  · simp only [Value.ownBlock, Option.some.injEq] at hb
    subst hb
    exact ⟨hB, lt_of_block hg⟩
end Go.Proofs.Ythedeggggbdibaa

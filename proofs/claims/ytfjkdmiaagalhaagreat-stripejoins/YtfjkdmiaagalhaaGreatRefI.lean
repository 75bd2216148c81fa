/-
  Plain mathematics for MatrixRanks; more on lists of one's own.
-/
import Derived.Test.YtfjkdmiaagalhaaGreatPieces
import Derived.Test.YtfjkdmiaagalhaaGreatBeside
import Derived.Test.YtfjkdmiaagalhaaGreatRefE
namespace Go.Proofs.YtfjkdmiaagalhaaGreat
open Go.RowKit Go.Lib

theorem IL.nx {B f : Nat} {L : List Nat} {w : World} {v : Value} (h : IL B v L w) (hf : f < B) : NX w f v L.length (fun t => ((L.getD t 0 : Nat) : Int)) := by
  rcases h.cells with ⟨rfl, rfl⟩ | ⟨g, cap, rfl, hc, hB, hl, hcell⟩
  · exact NX.nil _ _ _
  · exact ⟨_, cap, rfl, hc, .inr ⟨g, 0, rfl, hl, by omega, fun j hj => by rw [Nat.zero_add]; exact hcell j hj⟩⟩
theorem ints_lt {L : List Nat} {j : Nat} {u : Value} (h : (ints L)[j]? = some u) : j < L.length := by
  have := (List.getElem?_eq_some_iff.1 h).1
  rwa [ints_length] at this


/-- The matrix with one row more. -/
def moreF (N : Nat) (A M : Nat → K) : Nat → K := fun t => if t < N then A t else M (t - N)
def vals (N : Nat) (A : Nat → K) : List Nat := (List.range N).map fun t => (A t).v
theorem vals_length (N : Nat) (A : Nat → K) : (vals N A).length = N := by simp [vals]
theorem vals_get (N : Nat) (A : Nat → K) (t : Nat) (h : t < N) : (vals N A).getD t 0 = (A t).v := by
  rw [List.getD_eq_getElem?_getD, vals, List.getElem?_map, List.getElem?_range h]; rfl
theorem vals_get? (N : Nat) (A : Nat → K) (t : Nat) (h : t < N) : (ints (vals N A))[t]? = some (.int .i64 (((A t).v : Nat) : Int)) := by
  rw [ints, vals, List.getElem?_map, List.getElem?_map, List.getElem?_range h]; rfl
theorem vals_succ (A : Nat → K) (i : Nat) : vals i A ++ [(A i).v] = vals (i + 1) A := by rw [vals, vals, List.range_succ, List.map_append]; rfl
theorem vals_app (N m : Nat) (A M : Nat → K) : vals N A ++ vals m M = vals (N + m) (moreF N A M) := by
  apply List.ext_getElem?
  intro i
  by_cases h1 : i < N
  · rw [List.getElem?_append_left (by rw [vals_length]; exact h1)]
    simp only [vals, List.getElem?_map, List.getElem?_range h1, List.getElem?_range (show i < N + m by omega), Option.map_some, moreF, if_pos h1]
  · rw [List.getElem?_append_right (by rw [vals_length]; omega), vals_length]
    by_cases h2 : i < N + m
    · simp only [vals, List.getElem?_map, List.getElem?_range (show i - N < m by omega), List.getElem?_range h2, Option.map_some, moreF, if_neg h1]
    · rw [List.getElem?_eq_none (by rw [vals_length]; omega), List.getElem?_eq_none (by rw [vals_length]; omega)]
/-- A list of elements of one's own is a list to be read. -/
theorem IL.knx {B f N : Nat} {A : Nat → K} {w : World} {v : Value} (h : IL B v (vals N A) w) (hf : f < B) : NX w f v N (fun t => (((A t).v : Nat) : Int)) := by
  have nx := h.nx hf
  rw [vals_length] at nx
  obtain ⟨a, cc, e1, e2, e3⟩ := nx
  refine ⟨a, cc, e1, e2, ?_⟩
  rcases e3 with e3 | ⟨bl, off, e4, e5, e6, e7⟩
  · exact .inl e3
  · refine .inr ⟨bl, off, e4, e5, e6, fun j hj => ?_⟩
    rw [e7 j hj]
    show some (Value.int .i64 (((vals N A).getD j 0 : Nat) : Int)) = _
    rw [vals_get N A j hj]
theorem IL.go {B f : Nat} {L : List Nat} {w w' : World} {v : Value} (h : IL B v L w) (hg : w.grownBy w' (some f)) (hf : f < B) : IL B v L w' :=
  h.apart hg (fun b hb e => by have := (h.lt b hb).1; simp only [Option.some.injEq] at e; omega)
theorem NX.up {w w' : World} {n : Nat} {v : Value} {Z : Nat → Int} {f : Nat} (h : NX w f v n Z) (hb : Below w.heap.size w w') : NX w' w'.heap.size v n Z := by
  obtain ⟨a, c, rfl, hc, h⟩ := h
  refine ⟨a, c, rfl, hc, ?_⟩
  rcases h with h | ⟨bl, off, rfl, hbl, hf, hc⟩
  · exact .inl h
  · exact .inr ⟨bl, off, rfl, Nat.lt_of_lt_of_le hbl hb.size, by have := hb.size; omega, fun i hi => (cell_congr (hb.block bl hbl)).trans (hc i hi)⟩
/-- A list to be read, appended to a new one. -/
theorem IL.copy {B f N : Nat} {A : Nat → K} {w : World} {va : Value} (hB : B ≤ w.heap.size) (hA : NX w f va N (fun t => (((A t).v : Nat) : Int))) (h0 : N ≠ 0) (hN : N ≤ 1000) (q : Nat) :
    ∃ ao cap w', (Builtin.append_ #[48, 48] 48 #[.slice (some ⟨w.heap.size, 0, none⟩) 0 0, va]).run Tryz.prog ((w.drewN q).alloc (.cells #[] 3)) = .ok (.slice ao N cap) w' ∧ IL B (.slice ao N cap) (vals N A) w' ∧ Below w.heap.size w w' := by
  obtain ⟨bl, off, c, rfl, hc, hbl, hf⟩ := hA.at h0
  have e6 : IL B (.slice (some ⟨w.heap.size, 0, none⟩) 0 0) [] ((w.drewN q).alloc (.cells #[] 3)) := IL.empty (w := w.drewN q) hB
  have hal : Below w.heap.size w ((w.drewN q).alloc (.cells #[] 3)) := (below_drew (Below.refl w.heap.size w) q).alloc (Nat.le_refl _) _
  have hA' := hA.below hal
  obtain ⟨v', w', h1, h2, h3, h4, h5⟩ := e6.app (a := ⟨bl, off, none⟩) (c := c) (vals N A) (fun t u hu => by
    have ht := ints_lt hu
    rw [vals_length] at ht
    rw [vals_get? N A t ht] at hu
    cases hu
    rw [Addr.add_mid]
    exact hA'.cell_at t ht) (by rw [vals_length, List.length_nil]; omega) (by simp; omega)
  rw [vals_length] at h1
  rw [List.nil_append] at h2
  obtain ⟨ao, cap, rfl⟩ := h2.shape
  rw [vals_length] at h1 h2
  refine ⟨ao, cap, w', h1, h2, ?_⟩
  exact hal.grown h3 (by simp) (fun k hk => by simp only [Value.ownBlock, Option.some.injEq] at hk; omega)
end Go.Proofs.YtfjkdmiaagalhaaGreat

namespace Go.Proofs.YtfjkdmiaagalhaaGreat
open Go.RowKit Go.Lib

set_option maxRecDepth 100000 in
set_option maxHeartbeats 1600000 in
theorem radd_any {w : World} {g r c i k cp : Nat} {M : Mt} (hG : KB w g (r * c) (flat c M)) (hi : i < r) (hk : k < r) (hik : i ≠ k) (hr : r ≤ 255) (hc : c ≤ 1000) (hcp : r * c ≤ cp) (y : K) (M' : Mt) (hM : ∀ a, a ≠ i → ∀ q, M' a q = M a q) (hMi : ∀ q, q < c → M' i q = M i q + M k q * y) :
    Calls Tryz.prog 46 #[.agg #[.int .i64 r, .int .i64 c, .slice (some ⟨g, 0, none⟩) (r * c) cp], .int .i64 i, .int .i64 k, .int .i64 ((y.v : Nat) : Int)] w fun e w' =>
      e = .returned (.tuple #[]) ∧ KB w' g (r * c) (flat c M') ∧ w.grownBy w' (some g) := by
  have hNN : r * c ≤ 255 * 1000 := Nat.mul_le_mul hr hc
  have QN : Hid (∀ j, j < c → i * c + j < r * c) := fun j hj => at_lt hi hj
  have QK : Hid (∀ j, j < c → k * c + j < r * c) := fun j hj => at_lt hk hj
  have QE : Hid (∀ t, t < r * c → flat c (colS M M' c) t = flat c M' t) := fun t ht => colS_all M M' t ht
  generalize r * c = N at *
  have I0 : MI w g N r c cp (flat c (colS M M' 0)) (w.alloc (.cells #[.int .i64 r, .int .i64 c, .slice (some ⟨g, 0, none⟩) N cp] 57)) := (MI.start hG).congr (fun t _ => (colS_zero M M' t).symm)
  have HI := hide I0
  obtain ⟨x, hx⟩ : ∃ x, x = i * c := ⟨_, rfl⟩
  have hxi : (i : Int) * (c : Int) = (x : Int) := by rw [← Int.natCast_mul, hx]
  have hgl := hG.lt
  have HXX := hide hx
  have HM := hide hM
  have HMI := hide hMi
  have HIK := hide hik
  clear I0 hG hx hM hMi hik
  go_enter Tryz.func46, Tryz.ntmps46
  go_wp2
  go_loopw [8] (fun z wr => ∃ j : Nat, j ≤ c ∧ z = .int .i64 j ∧ MI w g N r c cp (flat c (colS M M' j)) wr) (fun z _ => c - (RowKit.intOf z).toNat)
  case atStart => exact ⟨0, Nat.zero_le _, rfl, HI.out⟩
  case round =>
    obtain ⟨j, hj, rfl, I⟩ := hrel
    clear HI
    have m0 := I.x.cell0
    have m1 := I.x.cell1
    have m2 := I.x.cell2
    by_cases hlt : j < c
    · have hxN : x + j < N := by rw [HXX.out]; exact QN.out j hlt
      have hat : flat c (colS M M' j) (x + j) = M i j := by rw [HXX.out]; exact colS_at M M' hlt
      have hak : flat c (colS M M' j) (k * c + j) = M k j := colS_at M M' hlt
      obtain ⟨mij, hmij⟩ : ∃ mij, mij = M i j := ⟨_, rfl⟩
      obtain ⟨mkj, hmkj⟩ : ∃ mkj, mkj = M k j := ⟨_, rfl⟩
      have R1 : Hid (∀ (v u1 u2 : Value) (w' : World), v = .agg #[.int .i64 r, .int .i64 c, .slice (some ⟨g, 0, none⟩) N cp] → u1 = .int .i64 i → u2 = .int .i64 j → Below wr.heap.size wr w' → Calls Tryz.prog 40 #[v, u1, u2] w' fun e w'' => e = .returned (.int .i64 ((mij.v : Nat) : Int)) ∧ Below wr.heap.size wr w'' ∧ (w''.cell? ⟨w.heap.size, 0, none⟩ = some (.int .i64 r) ∧ w''.cell? ⟨w.heap.size, 1, none⟩ = some (.int .i64 c) ∧ w''.cell? ⟨w.heap.size, 2, none⟩ = some (.slice (some ⟨g, 0, none⟩) N cp)) ∧ w''.cell? ⟨g, x + j, none⟩ = some (.int .i64 ((mij.v : Nat) : Int)) ∧ w''.frozen? ⟨g, x + j, none⟩ = false) := by
        intro v u1 u2 w' h1 h2 h3 hb
        subst h1 h2 h3
        have I1 := I.below hb
        refine (at_any (r := (r : Int)) (c := c) (i := i) (j := j) (I1.G.nx (f := g + 1) (c := cp) hcp (by omega)) rfl (QN.out j hlt) (by have := QN.out j hlt; omega) (by omega)).mono ?_
        rintro e w'' ⟨rfl, q⟩
        have I' := I.below (below_step hb q)
        exact ⟨by rw [← HXX.out, hat, hmij], below_step hb q, ⟨I'.x.cell0, I'.x.cell1, I'.x.cell2⟩, by rw [I'.G.cell _ hxN, hat, hmij], I'.G.free _⟩
      have R3 : Hid (∀ (v u1 u2 : Value) (w' : World), v = .agg #[.int .i64 r, .int .i64 c, .slice (some ⟨g, 0, none⟩) N cp] → u1 = .int .i64 k → u2 = .int .i64 j → Below wr.heap.size wr w' → Calls Tryz.prog 40 #[v, u1, u2] w' fun e w'' => e = .returned (.int .i64 ((mkj.v : Nat) : Int)) ∧ Below wr.heap.size wr w'' ∧ (w''.cell? ⟨w.heap.size, 0, none⟩ = some (.int .i64 r) ∧ w''.cell? ⟨w.heap.size, 1, none⟩ = some (.int .i64 c) ∧ w''.cell? ⟨w.heap.size, 2, none⟩ = some (.slice (some ⟨g, 0, none⟩) N cp)) ∧ w''.cell? ⟨g, x + j, none⟩ = some (.int .i64 ((mij.v : Nat) : Int)) ∧ w''.frozen? ⟨g, x + j, none⟩ = false) := by
        intro v u1 u2 w' h1 h2 h3 hb
        subst h1 h2 h3
        have I1 := I.below hb
        refine (at_any (r := (r : Int)) (c := c) (i := k) (j := j) (I1.G.nx (f := g + 1) (c := cp) hcp (by omega)) rfl (QK.out j hlt) (by have := QK.out j hlt; omega) (by omega)).mono ?_
        rintro e w'' ⟨rfl, q⟩
        have I' := I.below (below_step hb q)
        exact ⟨by rw [hak, hmkj], below_step hb q, ⟨I'.x.cell0, I'.x.cell1, I'.x.cell2⟩, by rw [I'.G.cell _ hxN, hat, hmij], I'.G.free _⟩
      have R2 : Hid (∀ (u1 u2 : Value) (w' : World), u1 = .int .i64 ((mkj.v : Nat) : Int) → u2 = .int .i64 ((y.v : Nat) : Int) → Calls Tryz.prog 58 #[u1, u2] w' fun e w'' => e = .returned (.int .i64 (((mkj * y).v : Nat) : Int)) ∧ w'' = w') := fun u1 u2 w' h1 h2 => by rw [h1, h2]; exact refTimes_any mkj.v y.v mkj.lt y.lt w'
      obtain ⟨z, hz⟩ : ∃ z, z = mij + mkj * y := ⟨_, rfl⟩
      have hxx : bits .xor .i64 ((mij.v : Nat) : Int) (((mkj * y).v : Nat) : Int) = ((z.v : Nat) : Int) := by
        rw [xor_i64 _ _ (Nat.lt_of_lt_of_le (K.lt _) (by decide)) (Nat.lt_of_lt_of_le (K.lt _) (by decide)), hz]
        rfl
      have FIN : Hid (∀ w', Below wr.heap.size wr w' → MI w g N r c cp (flat c (colS M M' (j + 1))) (w'.setCell ⟨g, x + j, none⟩ (.int .i64 ((z.v : Nat) : Int)))) := by
        intro w' hb
        exact ((I.below hb).set (x + j) hxN z).congr (fun t _ => by rw [HXX.out, hz, hmij, hmkj, ← HMI.out j hlt]; exact colS_step M M' hlt HM.out t)
      have np := I.x.ne I.G
      have b0 : (0 : Int) ≤ (x : Int) + (j : Int) := by omega
      have b1 : (x : Int) + (j : Int) < (N : Int) := by omega
      have b2 : ((x : Int) + (j : Int)).toNat = x + j := by omega
      have b3 : (j : Int) < (c : Int) := by omega
      have hwb : IntKind.i64.wrap ((i : Int) * (c : Int)) = (x : Int) := by rw [hxi]; exact wraps_i64 _ (by omega) (by omega)
      have hwc : IntKind.i64.wrap ((x : Int) + (j : Int)) = (x : Int) + (j : Int) := wraps_i64 _ (by omega) (by omega)
      have HB0 : Hid (Below wr.heap.size wr wr.drew) := (Below.refl _ _).drew
      clear I hat hmij hz hxi hak hmkj
      generalize (mkj * y).v = pr at *
      go_wp2_with fail
      go_region_held3 (fun w' => w'.cell? ⟨w.heap.size, 0, none⟩ = some (.int .i64 r) ∧ w'.cell? ⟨w.heap.size, 1, none⟩ = some (.int .i64 c) ∧ w'.cell? ⟨w.heap.size, 2, none⟩ = some (.slice (some ⟨g, 0, none⟩) N cp)) (first | assumption | exact ⟨by assumption, by assumption, by assumption⟩ | exact ⟨m0, m1, m2⟩ | exact ⟨(cell_off np).trans (by assumption), (cell_off np).trans (by assumption), (cell_off np).trans (by assumption)⟩)
        (first
          | (go_at_call 40; refine (R1.out _ _ _ _ (by with_reducible rfl) (by with_reducible rfl) (by with_reducible rfl) (by first | assumption | exact HB0.out)).mono ?_; rintro e wa ⟨rfl, ka, ⟨ka1, ka2, ka3⟩, ka4, ka5⟩)
          | (go_at_call 40; refine (R3.out _ _ _ _ (by with_reducible rfl) (by with_reducible rfl) (by with_reducible rfl) (by first | assumption | exact HB0.out)).mono ?_; rintro e wb ⟨rfl, kb, ⟨kb1, kb2, kb3⟩, kb4, kb5⟩)
          | (go_at_call 58; refine (R2.out _ _ _ (by with_reducible rfl) (by with_reducible rfl)).mono ?_; rintro e wz ⟨rfl, hwz⟩; subst wz))
      all_goals
        clear R1 R2 R3
        go_wp2
        exact ⟨⟨j + 1, by omega, by go_num, by first | exact FIN.out _ ka | exact FIN.out _ kb⟩, by simp [RowKit.intOf]; omega⟩
    · obtain rfl : j = c := by omega
      have b1 : ¬ (j : Int) < (j : Int) := by omega
      have HI := hide I
      clear I
      go_wp2
      go_end0
      exact ⟨rfl, HI.out.G.congr (fun t ht => QE.out t ht), HI.out.gr⟩
end Go.Proofs.YtfjkdmiaagalhaaGreat

namespace Go.Proofs.YtfjkdmiaagalhaaGreat
open Go.RowKit Go.Lib

theorem swap_step {c a b j : Nat} (M M' : Mt) (hj : j < c) (hM : ∀ i, i ≠ a → i ≠ b → ∀ q, M' i q = M i q) (ha : M' a j = M b j) (hb : M' b j = M a j) (t : Nat) :
    (if t = b * c + j then M a j else if t = a * c + j then M b j else flat c (colS M M' j) t) = flat c (colS M M' (j + 1)) t := by
  by_cases h : t = b * c + j
  · subst h; rw [if_pos rfl]; unfold flat colS; rw [div_at hj, mod_at hj, if_pos (Nat.lt_succ_self _), hb]
  · rw [if_neg h]
    by_cases h' : t = a * c + j
    · subst h'; rw [if_pos rfl]; unfold flat colS; rw [div_at hj, mod_at hj, if_pos (Nat.lt_succ_self _), ha]
    · rw [if_neg h']
      unfold flat colS
      by_cases h2 : t % c = j
      · have h3 : t / c ≠ a := fun h1 => h' (at_eq h1 h2)
        have h4 : t / c ≠ b := fun h1 => h (at_eq h1 h2)
        rw [hM _ h3 h4]; split <;> split <;> rfl
      · by_cases h3 : t % c < j
        · rw [if_pos h3, if_pos (by omega)]
        · rw [if_neg h3, if_neg (by omega)]

set_option maxRecDepth 100000 in
set_option maxHeartbeats 1600000 in
theorem swap_any {w : World} {g r c i k cp : Nat} {M : Mt} (hG : KB w g (r * c) (flat c M)) (hi : i < r) (hk : k < r) (hr : r ≤ 255) (hc : c ≤ 1000) (hcp : r * c ≤ cp) (M' : Mt) (hM : ∀ a, a ≠ i → a ≠ k → ∀ q, M' a q = M a q) (hMi : ∀ q, q < c → M' i q = M k q) (hMk : ∀ q, q < c → M' k q = M i q) :
    Calls Tryz.prog 44 #[.agg #[.int .i64 r, .int .i64 c, .slice (some ⟨g, 0, none⟩) (r * c) cp], .int .i64 i, .int .i64 k] w fun e w' =>
      e = .returned (.tuple #[]) ∧ KB w' g (r * c) (flat c M') ∧ w.grownBy w' (some g) := by
  have hNN : r * c ≤ 255 * 1000 := Nat.mul_le_mul hr hc
  have QN : Hid (∀ j, j < c → i * c + j < r * c) := fun j hj => at_lt hi hj
  have QK : Hid (∀ j, j < c → k * c + j < r * c) := fun j hj => at_lt hk hj
  have QE : Hid (∀ t, t < r * c → flat c (colS M M' c) t = flat c M' t) := fun t ht => colS_all M M' t ht
  generalize r * c = N at *
  have I0 : MI w g N r c cp (flat c (colS M M' 0)) (w.alloc (.cells #[.int .i64 r, .int .i64 c, .slice (some ⟨g, 0, none⟩) N cp] 57)) := (MI.start hG).congr (fun t _ => (colS_zero M M' t).symm)
  have HI := hide I0
  obtain ⟨x, hx⟩ : ∃ x, x = i * c := ⟨_, rfl⟩
  have hxi : (i : Int) * (c : Int) = (x : Int) := by rw [← Int.natCast_mul, hx]
  obtain ⟨x2, hx2⟩ : ∃ x, x = k * c := ⟨_, rfl⟩
  have hxk : (k : Int) * (c : Int) = (x2 : Int) := by rw [← Int.natCast_mul, hx2]
  have hgl := hG.lt
  have HXX := hide hx
  have HXK := hide hx2
  have HM := hide hM
  have HMI := hide hMi
  have HMK := hide hMk
  clear I0 hG hx hM hMi hMk hx2
  go_enter Tryz.func44, Tryz.ntmps44
  go_wp2
  go_loopw [6] (fun z wr => ∃ j : Nat, j ≤ c ∧ z = .int .i64 j ∧ MI w g N r c cp (flat c (colS M M' j)) wr) (fun z _ => c - (RowKit.intOf z).toNat)
  case atStart => exact ⟨0, Nat.zero_le _, rfl, HI.out⟩
  case round =>
    obtain ⟨j, hj, rfl, I⟩ := hrel
    clear HI
    have m0 := I.x.cell0
    have m1 := I.x.cell1
    have m2 := I.x.cell2
    by_cases hlt : j < c
    · have hxN : x + j < N := by rw [HXX.out]; exact QN.out j hlt
      have hkN : x2 + j < N := by rw [HXK.out]; exact QK.out j hlt
      have hat : flat c (colS M M' j) (x + j) = M i j := by rw [HXX.out]; exact colS_at M M' hlt
      have hak : flat c (colS M M' j) (x2 + j) = M k j := by rw [HXK.out]; exact colS_at M M' hlt
      obtain ⟨mij, hmij⟩ : ∃ mij, mij = M i j := ⟨_, rfl⟩
      obtain ⟨mkj, hmkj⟩ : ∃ mkj, mkj = M k j := ⟨_, rfl⟩
      have b3 : (j : Int) < (c : Int) := by omega
      have R1 : Hid (∀ (w' : World), Below wr.heap.size wr w' → Calls Tryz.prog 40 #[.agg #[.int .i64 r, .int .i64 c, .slice (some ⟨g, 0, none⟩) N cp], .int .i64 i, .int .i64 j] w' fun e w'' => e = .returned (.int .i64 ((mij.v : Nat) : Int)) ∧ Below wr.heap.size wr w'') := by
        intro w' hb
        have I1 := I.below hb
        refine (at_any (r := (r : Int)) (c := c) (i := i) (j := j) (I1.G.nx (f := g + 1) (c := cp) hcp (by omega)) rfl (QN.out j hlt) (by have := QN.out j hlt; omega) (by omega)).mono ?_
        rintro e w'' ⟨rfl, q⟩
        exact ⟨by rw [← HXX.out, hat, hmij], below_step hb q⟩
      have HI := hide I
      have HAT := hide hat
      have HAK := hide hak
      have HMIJ := hide hmij
      have HMKJ := hide hmkj
      clear I hat hak hmij hmkj
      go_wp2_with fail
      refine (R1.out _ (Below.refl _ _)).mono ?_
      rintro e w1 ⟨rfl, k1⟩
      have I := HI.out.below k1
      clear HI k1 R1 m0 m1 m2
      have m0 := I.x.cell0
      have m1 := I.x.cell1
      have m2 := I.x.cell2
      have R3 : Hid (∀ (v u1 u2 : Value) (w' : World), v = .agg #[.int .i64 r, .int .i64 c, .slice (some ⟨g, 0, none⟩) N cp] → u1 = .int .i64 k → u2 = .int .i64 j → Below w1.heap.size w1 w' → Calls Tryz.prog 40 #[v, u1, u2] w' fun e w'' => e = .returned (.int .i64 ((mkj.v : Nat) : Int)) ∧ Below w1.heap.size w1 w'' ∧ (w''.cell? ⟨w.heap.size, 0, none⟩ = some (.int .i64 r) ∧ w''.cell? ⟨w.heap.size, 1, none⟩ = some (.int .i64 c) ∧ w''.cell? ⟨w.heap.size, 2, none⟩ = some (.slice (some ⟨g, 0, none⟩) N cp)) ∧ w''.cell? ⟨g, x + j, none⟩ = some (.int .i64 ((mij.v : Nat) : Int)) ∧ w''.frozen? ⟨g, x + j, none⟩ = false) := by
        intro v u1 u2 w' h1 h2 h3 hb
        subst h1 h2 h3
        have I1 := I.below hb
        refine (at_any (r := (r : Int)) (c := c) (i := k) (j := j) (I1.G.nx (f := g + 1) (c := cp) hcp (by omega)) rfl (QK.out j hlt) (by have := QK.out j hlt; omega) (by omega)).mono ?_
        rintro e w'' ⟨rfl, q⟩
        have I' := I.below (below_step hb q)
        exact ⟨by rw [← HXK.out, HAK.out, HMKJ.out], below_step hb q, ⟨I'.x.cell0, I'.x.cell1, I'.x.cell2⟩, by rw [I'.G.cell _ hxN, HAT.out, HMIJ.out], I'.G.free _⟩
      have MID : Hid (∀ w', Below w1.heap.size w1 w' → MI w g N r c cp (fun t => if t = x + j then mkj else flat c (colS M M' j) t) (w'.setCell ⟨g, x + j, none⟩ (.int .i64 ((mkj.v : Nat) : Int)))) := fun w' hb => (I.below hb).set (x + j) hxN mkj
      have np := I.x.ne I.G
      have b0 : (0 : Int) ≤ (x : Int) + (j : Int) := by omega
      have b1 : (x : Int) + (j : Int) < (N : Int) := by omega
      have b2 : ((x : Int) + (j : Int)).toNat = x + j := by omega
      have hwb : IntKind.i64.wrap ((i : Int) * (c : Int)) = (x : Int) := by rw [hxi]; exact wraps_i64 _ (by omega) (by omega)
      have hwc : IntKind.i64.wrap ((x : Int) + (j : Int)) = (x : Int) + (j : Int) := wraps_i64 _ (by omega) (by omega)
      have HB0 : Hid (Below w1.heap.size w1 w1.drew) := (Below.refl _ _).drew
      clear I hxi
      go_wp2_with fail
      go_region_held3 (fun w' => w'.cell? ⟨w.heap.size, 0, none⟩ = some (.int .i64 r) ∧ w'.cell? ⟨w.heap.size, 1, none⟩ = some (.int .i64 c) ∧ w'.cell? ⟨w.heap.size, 2, none⟩ = some (.slice (some ⟨g, 0, none⟩) N cp)) (first | assumption | exact ⟨by assumption, by assumption, by assumption⟩ | exact ⟨m0, m1, m2⟩ | exact ⟨(cell_off np).trans (by assumption), (cell_off np).trans (by assumption), (cell_off np).trans (by assumption)⟩)
        (first
          | (go_at_call 40; refine (R3.out _ _ _ _ (by with_reducible rfl) (by with_reducible rfl) (by with_reducible rfl) (by first | assumption | exact HB0.out)).mono ?_; rintro e wb ⟨rfl, kb, ⟨kb1, kb2, kb3⟩, kb4, kb5⟩))
      all_goals
        have I2 := MID.out _ kb
        clear R3 MID b0 b1 b2 hwb hwc m0 m1 m2 kb kb1 kb2 kb3 kb4 kb5
        have m0 := I2.x.cell0
        have m1 := I2.x.cell1
        have m2 := I2.x.cell2
        have c4 := I2.G.cell (x2 + j) hkN
        have z4 := I2.G.free (x2 + j)
        have I3 : MI w g N r c cp (flat c (colS M M' (j + 1))) _ := (I2.set (x2 + j) hkN mij).congr (G' := flat c (colS M M' (j + 1))) (fun t _ => by show (if t = x2 + j then mij else if t = x + j then mkj else flat c (colS M M' j) t) = _; rw [HXX.out, HXK.out, HMIJ.out, HMKJ.out]; exact swap_step M M' hlt HM.out (HMI.out j hlt) (HMK.out j hlt) t)
        have HI3 := hide I3
        have b0 : (0 : Int) ≤ (x2 : Int) + (j : Int) := by omega
        have b1 : (x2 : Int) + (j : Int) < (N : Int) := by omega
        have b2 : ((x2 : Int) + (j : Int)).toNat = x2 + j := by omega
        clear I2 I3
        generalize (World.setCell _ ⟨g, x + j, none⟩ (.int .i64 ((mkj.v : Nat) : Int))) = w9 at *
        go_wp2
        exact ⟨⟨j + 1, by omega, by go_num, HI3.out⟩, by simp [RowKit.intOf]; omega⟩
    · obtain rfl : j = c := by omega
      have b1 : ¬ (j : Int) < (j : Int) := by omega
      have HI := hide I
      clear I
      go_wp2
      go_end0
      exact ⟨rfl, HI.out.G.congr (fun t ht => QE.out t ht), HI.out.gr⟩
end Go.Proofs.YtfjkdmiaagalhaaGreat

namespace Go.Proofs.YtfjkdmiaagalhaaGreat
open Go.RowKit Go.Lib

theorem Br.mc {w : World} {b : Nat} {r c : Int} {v : Value} (h : Br w b r c v) : w.cell? ⟨b, 0, none⟩ = some (.int .i64 r) ∧ w.cell? ⟨b, 1, none⟩ = some (.int .i64 c) ∧ w.cell? ⟨b, 2, none⟩ = some v := ⟨h.cell0, h.cell1, h.cell2⟩
theorem kcells_vals (N : Nat) (A : Nat → K) : ints (vals N A) = kcells N A := by
  rw [ints, vals, kcells, List.map_map]; rfl
/-- A list of one's own is a block of elements. -/
theorem IL.kb {B N : Nat} {A : Nat → K} {w : World} {ao : Option Addr} {cap : Nat} (h : IL B (.slice ao N cap) (vals N A) w) (h0 : N ≠ 0) : ∃ g, ao = some ⟨g, 0, none⟩ ∧ KB w g N A ∧ N ≤ cap ∧ B ≤ g := by
  obtain ⟨h1, ⟨e, h2⟩ | ⟨g, cap', cur, e, hB, hg, hn, _, hs, ht⟩⟩ := h.own
  · rw [vals_length] at h2; exact absurd h2 h0
  · rw [vals_length] at e hn ht
    simp only [Value.slice.injEq, true_and] at e
    obtain ⟨rfl, rfl⟩ := e
    refine ⟨g, rfl, ⟨cur.toList.drop N, ?_⟩, hn, hB⟩
    rw [hg, ← kcells_vals, ← ht, Nat.mul_one, List.take_append_drop]

set_option maxRecDepth 100000 in
set_option maxHeartbeats 1600000 in
theorem copied_any {w : World} {f r c N : Nat} {va : Value} {A : Nat → K} (hA : NX w f va N (fun k => (((A k).v : Nat) : Int))) (h0 : N ≠ 0) (hN : N ≤ 1000) :
    Calls Tryz.prog 41 #[.agg #[.int .i64 r, .int .i64 c, va]] w fun e w' =>
      ∃ g cp, e = .returned (.agg #[.int .i64 r, .int .i64 c, .slice (some ⟨g, 0, none⟩) N cp]) ∧ KB w' g N A ∧ N ≤ cp ∧ w.heap.size ≤ g ∧ Below w.heap.size w w' := by
  obtain ⟨ba, oa, ca, rfl, ha3, ha4, ha5⟩ := hA.at h0
  obtain ⟨oA, hoA⟩ : ∃ o, o = Obj.cells #[.int .i64 r, .int .i64 c, .slice (some ⟨ba, oa, none⟩) N ca] 57 := ⟨_, rfl⟩
  obtain ⟨oR, hoR⟩ : ∃ o, o = Obj.cells #[.int .i64 0, .int .i64 0, .slice none 0 0] 57 := ⟨_, rfl⟩
  have L2 := below_alloc (below_alloc (Below.refl w.heap.size w) oA) oR
  have A2 := (hA.alloc oA).alloc oR
  have X1 := (show Br (w.alloc oA) w.heap.size r c (.slice (some ⟨ba, oa, none⟩) N ca) by rw [hoA]; exact Br.new _ _ _ _).alloc oR
  have X2 := show Br ((w.alloc oA).alloc oR) (w.alloc oA).heap.size 0 0 (.slice none 0 0) by rw [hoR]; exact Br.new _ _ _ _
  rw [show (w.alloc oA).heap.size = w.heap.size + 1 by simp] at X2
  have hsz : ((w.alloc oA).alloc oR).heap.size = w.heap.size + 2 := by simp
  obtain ⟨ao, cap, w', hr, hI, hb⟩ := IL.copy (B := w.heap.size + 2) (by omega) A2 h0 hN 1
  obtain ⟨g, rfl, hK, hc, hg⟩ := hI.kb h0
  have X1' := X1.below hb (Nat.le_refl _)
  have X2' := X2.below hb (Nat.le_refl _)
  have L' := below_step L2 hb
  have FIN : Hid (KB w' g N A ∧ N ≤ cap ∧ w.heap.size + 2 ≤ g ∧ Below w.heap.size w w' ∧ Br w' (w.heap.size + 1) 0 0 (.slice none 0 0)) := ⟨hK, hc, hg, L', X2'⟩
  obtain ⟨W, hW⟩ : ∃ W, W = (w.alloc oA).alloc oR := ⟨_, rfl⟩
  rw [hsz] at hr
  rw [← hW] at X1 hr hb hsz
  have p := X1
  have k := X1.alloc (.cells #[] 3)
  have p0 := hide X1.mc
  have k0 := hide k.mc
  have u0 := hide X1'.mc
  obtain ⟨hX5, g5⟩ := X2'.put (r : Int) (c : Int) (.slice (some ⟨g, 0, none⟩) N cap)
  have z0 := hide (X1'.of_block (g5.block _ X1'.lt (by simp))).mc
  clear hX5 g5
  have q0 := X1.cell0
  have q1 := X1.cell1
  have q2 := X1.cell2
  have v0 := X2'.cell0
  have v1 := X2'.cell1
  have v2 := X2'.cell2
  have f2 := X2'.free
  have HR := hide hr
  have HW : Hid (W = _) := hW
  rw [hoA, hoR] at HW
  clear hA L2 A2 X1 X2 hI hb hK X1' X2' L' hoA hoR hr hW p k
  go_enter Tryz.func41, Tryz.ntmps41
  go_wp2_with fail
  rw [← HW.out]
  clear HW
  go_region_held_law (fun w' => w'.cell? ⟨w.heap.size, 0, none⟩ = some (.int .i64 r) ∧ w'.cell? ⟨w.heap.size, 1, none⟩ = some (.int .i64 c) ∧ w'.cell? ⟨w.heap.size, 2, none⟩ = some (.slice (some ⟨ba, oa, none⟩) N ca)) (first | assumption | exact ⟨by assumption, by assumption, by assumption⟩ | exact p0.out | exact k0.out | exact u0.out | exact z0.out)
    (refine step_append_run rfl _ _ 48 48 rfl _ _ rfl rfl _ _ HR.out ?_)
  all_goals
    go_wp2
    obtain ⟨hK, hc, hg, L', X2'⟩ := FIN.out
    obtain ⟨hX5, g5⟩ := X2'.put (r : Int) (c : Int) (.slice (some ⟨g, 0, none⟩) N cap)
    refine bodyPost_ret (v := .agg #[.int .i64 r, .int .i64 c, .slice (some ⟨g, 0, none⟩) N cap]) (by simp [results, Tryz.results41, go_sem, hX5.cell0, hX5.cell1, hX5.cell2]) rfl ⟨g, cap, rfl, hK.of_block (g5.block g hK.lt (by simp; omega)), hc, by omega, below_gb L' g5 (by omega) L'.size⟩
end Go.Proofs.YtfjkdmiaagalhaaGreat

namespace Go.Proofs.YtfjkdmiaagalhaaGreat
open Go.RowKit Go.Lib

theorem lead_congr {R R' : Mt} {c : Nat} : ∀ (k a : Nat), (∀ i, a ≤ i → i < a + k → R i c = R' i c) → lead R c k a = lead R' c k a
  | 0, _, _ => rfl
  | k + 1, a, h => by
    rw [Go.Proofs.YtfjkdmiaagalhaaGreat.lead, Go.Proofs.YtfjkdmiaagalhaaGreat.lead, h a (Nat.le_refl _) (by omega), lead_congr k (a + 1) (fun i h1 h2 => h i (by omega) (by omega))]
theorem redu_full (m : Nat) (R : Mt) (c : Nat) (h : (redu m R c).2 = m) : ∀ d, (redu m R (c + d)).2 = m
  | 0 => h
  | d + 1 => by
    have e := redu_full m R c h d
    show (step m (redu m R (c + d)) (c + d)).2 = m
    rw [Go.Proofs.YtfjkdmiaagalhaaGreat.step, e, Nat.sub_self]
    exact e
/-- The rows between a and n are cleared. -/
def fcl (R : Mt) (a c n : Nat) : Mt := fun i j => if i = a then R a j * K.inv (R a c) else if a < i ∧ i < n then R i j + R a j * K.inv (R a c) * R i c else R i j
theorem fcl_first (R : Mt) (a c : Nat) (i : Nat) : fcl R a c (a + 1) i = if i = a then (fun j => R a j * K.inv (R a c)) else R i := by
  funext j
  unfold fcl
  by_cases h : i = a
  · rw [if_pos h, if_pos h]
  · rw [if_neg h, if_neg h, if_neg (by omega)]
theorem fcl_old (R : Mt) (a c n i j : Nat) (h1 : i ≠ a) (h2 : n ≤ i) : fcl R a c n i j = R i j := by
  unfold fcl; rw [if_neg h1, if_neg (by omega)]
theorem fcl_other (R : Mt) (a c n i j : Nat) (h : i ≠ n) : fcl R a c (n + 1) i j = fcl R a c n i j := by
  unfold fcl
  by_cases h1 : i = a
  · rw [if_pos h1, if_pos h1]
  · rw [if_neg h1, if_neg h1]
    by_cases h2 : a < i ∧ i < n
    · rw [if_pos h2, if_pos (by omega)]
    · rw [if_neg h2, if_neg (by omega)]
theorem fcl_next (R : Mt) (a c n j : Nat) (h : a < n) : fcl R a c (n + 1) n j = fcl R a c n n j + fcl R a c n a j * R n c := by
  unfold fcl
  rw [if_neg (by omega), if_pos (by omega), if_neg (by omega), if_neg (by omega), if_pos rfl]
theorem fcl_all (R : Mt) (a c m i : Nat) (h1 : a ≤ i) (h2 : i < m) : fcl R a c m i = elim R a c i := by
  funext j
  unfold fcl elim
  by_cases h : i = a
  · rw [if_pos h, if_pos h]
  · rw [if_neg h, if_neg h, if_pos (by omega)]
theorem elim_congr {R R' : Mt} {a c i : Nat} (h1 : R a = R' a) (h2 : R i = R' i) : elim R a c i = elim R' a c i := by
  funext j
  unfold elim; rw [h1, h2]
theorem swp_congr {R R' : Mt} {a b m i : Nat} (h : ∀ k, a ≤ k → k < m → R k = R' k) (hb : a ≤ b) (hbm : b < m) (hi : a ≤ i) (him : i < m) : swp R a b i = swp R' a b i := by
  unfold swp
  split
  · exact h b hb hbm
  · split
    · exact h a (Nat.le_refl _) (by omega)
    · exact h i hi him

/-- A matrix in one block, its box, and the box of what was handed in. -/
structure RKI (w : World) (g N pb r c cp : Nat) (va : Value) (R : Mt) (wr : World) : Prop where
  G : KB wr g N (flat c R)
  a : Br wr w.heap.size r c va
  p : Br wr pb r c (.slice (some ⟨g, 0, none⟩) N cp)
  gr : Below w.heap.size w wr
theorem RKI.below {w : World} {g N pb r c cp : Nat} {va : Value} {R : Mt} {wr w' : World} (h : RKI w g N pb r c cp va R wr) (hb : Below wr.heap.size wr w') : RKI w g N pb r c cp va R w' :=
  ⟨h.G.below hb (Nat.le_refl _), h.a.below hb (Nat.le_refl _), h.p.below hb (Nat.le_refl _), below_step h.gr hb⟩
theorem RKI.turn {w : World} {g N pb r c cp : Nat} {va : Value} {R R' : Mt} {wr w' : World} (h : RKI w g N pb r c cp va R wr) (hK : KB w' g N (flat c R')) (hg : wr.grownBy w' (some g)) (hgs : w.heap.size ≤ g) : RKI w g N pb r c cp va R' w' :=
  ⟨hK, h.a.gb hg (h.a.ne h.G), h.p.gb hg (h.p.ne h.G), below_gb h.gr hg hgs h.gr.size⟩

end Go.Proofs.YtfjkdmiaagalhaaGreat

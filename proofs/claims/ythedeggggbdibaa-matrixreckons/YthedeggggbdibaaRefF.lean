/-
  The contracts of the document's own add and swap.
-/
import Derived.Test.YthedeggggbdibaaRefE
namespace Go.Proofs.Ythedeggggbdibaa
open Go.RowKit Go.Lib

set_option maxRecDepth 100000 in
set_option maxHeartbeats 1600000 in
theorem radd_any {w : World} {g r c i k cp : Nat} {M : Mt} (hG : KB w g (r * c) (flat c M)) (hi : i < r) (hk : k < r) (hik : i ≠ k) (hr : r ≤ 255) (hc : c ≤ 1000) (hcp : r * c ≤ cp) (y : K) (M' : Mt) (hM : ∀ a, a ≠ i → ∀ q, M' a q = M a q) (hMi : ∀ q, q < c → M' i q = M i q + M k q * y) :
    Calls Try.prog 47 #[.agg #[.int .i64 r, .int .i64 c, .slice (some ⟨g, 0, none⟩) (r * c) cp], .int .i64 i, .int .i64 k, .int .i64 ((y.v : Nat) : Int)] w fun e w' =>
      e = .returned (.tuple #[]) ∧ KB w' g (r * c) (flat c M') ∧ w.grownBy w' (some g) := by
  have hNN : r * c ≤ 255 * 1000 := Nat.mul_le_mul hr hc
  have QN : Hid (∀ j, j < c → i * c + j < r * c) := fun j hj => at_lt hi hj
  have QK : Hid (∀ j, j < c → k * c + j < r * c) := fun j hj => at_lt hk hj
  have QE : Hid (∀ t, t < r * c → flat c (colS M M' c) t = flat c M' t) := fun t ht => colS_all M M' t ht
  generalize r * c = N at *
  have I0 : MI w g N r c cp (flat c (colS M M' 0)) (w.alloc (.cells #[.int .i64 r, .int .i64 c, .slice (some ⟨g, 0, none⟩) N cp] 29)) := (MI.start hG).congr (fun t _ => (colS_zero M M' t).symm)
  have HI := hide I0
  obtain ⟨x, hx⟩ : ∃ x, x = i * c := ⟨_, rfl⟩
  have hxi : (i : Int) * (c : Int) = (x : Int) := by rw [← Int.natCast_mul, hx]
  have hgl := hG.lt
  have HXX := hide hx
  have HM := hide hM
  have HMI := hide hMi
  have HIK := hide hik
  clear I0 hG hx hM hMi hik
  go_enter Try.func47, Try.ntmps47
  go_wp2
  go_loopw [8] (fun z wr => ∃ j : Nat, j ≤ c ∧ z = .int .i64 j ∧ MI w g N r c cp (flat c (colS M M' j)) wr) (fun z _ => c - (intOf z).toNat)
  case atStart => exact ⟨0, Nat.zero_le _, rfl, HI.out⟩
  case round =>
    obtain ⟨j, hj, rfl, I⟩ := hrel
    clear HI
    have m0 := I.x.cell0
    have m1 := I.x.cell1
    have m2 := I.x.cell2
    by_cases hlt : j < c
    · have hxN : x + j < N := by rw [HXX.out]; exact QN.out j hlt
      have hat : flat c (colS M M' j) (x + j) = M i j := by rw [HXX.out]; exact colS_at M M' hlt
      have hak : flat c (colS M M' j) (k * c + j) = M k j := colS_at M M' hlt
      obtain ⟨mij, hmij⟩ : ∃ mij, mij = M i j := ⟨_, rfl⟩
      obtain ⟨mkj, hmkj⟩ : ∃ mkj, mkj = M k j := ⟨_, rfl⟩
      have R1 : Hid (∀ (v u1 u2 : Value) (w' : World), v = .agg #[.int .i64 r, .int .i64 c, .slice (some ⟨g, 0, none⟩) N cp] → u1 = .int .i64 i → u2 = .int .i64 j → Below wr.heap.size wr w' → Calls Try.prog 39 #[v, u1, u2] w' fun e w'' => e = .returned (.int .i64 ((mij.v : Nat) : Int)) ∧ Below wr.heap.size wr w'' ∧ (w''.cell? ⟨w.heap.size, 0, none⟩ = some (.int .i64 r) ∧ w''.cell? ⟨w.heap.size, 1, none⟩ = some (.int .i64 c) ∧ w''.cell? ⟨w.heap.size, 2, none⟩ = some (.slice (some ⟨g, 0, none⟩) N cp)) ∧ w''.cell? ⟨g, x + j, none⟩ = some (.int .i64 ((mij.v : Nat) : Int)) ∧ w''.frozen? ⟨g, x + j, none⟩ = false) := by
        intro v u1 u2 w' h1 h2 h3 hb
        subst h1 h2 h3
        have I1 := I.below hb
        refine (at_any (r := (r : Int)) (c := c) (i := i) (j := j) (I1.G.nx (f := g + 1) (c := cp) hcp (by omega)) rfl (QN.out j hlt) (by have := QN.out j hlt; omega) (by omega)).mono ?_
        rintro e w'' ⟨rfl, q⟩
        have I' := I.below (below_step hb q)
        exact ⟨by rw [← HXX.out, hat, hmij], below_step hb q, ⟨I'.x.cell0, I'.x.cell1, I'.x.cell2⟩, by rw [I'.G.cell _ hxN, hat, hmij], I'.G.free _⟩
      have R3 : Hid (∀ (v u1 u2 : Value) (w' : World), v = .agg #[.int .i64 r, .int .i64 c, .slice (some ⟨g, 0, none⟩) N cp] → u1 = .int .i64 k → u2 = .int .i64 j → Below wr.heap.size wr w' → Calls Try.prog 39 #[v, u1, u2] w' fun e w'' => e = .returned (.int .i64 ((mkj.v : Nat) : Int)) ∧ Below wr.heap.size wr w'' ∧ (w''.cell? ⟨w.heap.size, 0, none⟩ = some (.int .i64 r) ∧ w''.cell? ⟨w.heap.size, 1, none⟩ = some (.int .i64 c) ∧ w''.cell? ⟨w.heap.size, 2, none⟩ = some (.slice (some ⟨g, 0, none⟩) N cp)) ∧ w''.cell? ⟨g, x + j, none⟩ = some (.int .i64 ((mij.v : Nat) : Int)) ∧ w''.frozen? ⟨g, x + j, none⟩ = false) := by
        intro v u1 u2 w' h1 h2 h3 hb
        subst h1 h2 h3
        have I1 := I.below hb
        refine (at_any (r := (r : Int)) (c := c) (i := k) (j := j) (I1.G.nx (f := g + 1) (c := cp) hcp (by omega)) rfl (QK.out j hlt) (by have := QK.out j hlt; omega) (by omega)).mono ?_
        rintro e w'' ⟨rfl, q⟩
        have I' := I.below (below_step hb q)
        exact ⟨by rw [hak, hmkj], below_step hb q, ⟨I'.x.cell0, I'.x.cell1, I'.x.cell2⟩, by rw [I'.G.cell _ hxN, hat, hmij], I'.G.free _⟩
      have R2 : Hid (∀ (u1 u2 : Value) (w' : World), u1 = .int .i64 ((mkj.v : Nat) : Int) → u2 = .int .i64 ((y.v : Nat) : Int) → Calls Try.prog 38 #[u1, u2] w' fun e w'' => e = .returned (.int .i64 (((mkj * y).v : Nat) : Int)) ∧ w'' = w') := fun u1 u2 w' h1 h2 => by rw [h1, h2]; exact refTimes_any mkj.v y.v mkj.lt y.lt w'
      obtain ⟨z, hz⟩ : ∃ z, z = mij + mkj * y := ⟨_, rfl⟩
      have hxx : bits .xor .i64 ((mij.v : Nat) : Int) (((mkj * y).v : Nat) : Int) = ((z.v : Nat) : Int) := by
        rw [xor_i64 _ _ (Nat.lt_of_lt_of_le (K.lt _) (by decide)) (Nat.lt_of_lt_of_le (K.lt _) (by decide)), hz]
        rfl
      have FIN : Hid (∀ w', Below wr.heap.size wr w' → MI w g N r c cp (flat c (colS M M' (j + 1))) (w'.setCell ⟨g, x + j, none⟩ (.int .i64 ((z.v : Nat) : Int)))) := by
        intro w' hb
        exact ((I.below hb).set (x + j) hxN z).congr (fun t _ => by rw [HXX.out, hz, hmij, hmkj, ← HMI.out j hlt]; exact colS_step M M' hlt HM.out t)
      have np := I.x.ne I.G
      have b0 : (0 : Int) ≤ (x : Int) + (j : Int) := by omega
      have b1 : (x : Int) + (j : Int) < (N : Int) := by omega
      have b2 : ((x : Int) + (j : Int)).toNat = x + j := by omega
      have b3 : (j : Int) < (c : Int) := by omega
      have hwb : IntKind.i64.wrap ((i : Int) * (c : Int)) = (x : Int) := by rw [hxi]; exact wraps_i64 _ (by omega) (by omega)
      have hwc : IntKind.i64.wrap ((x : Int) + (j : Int)) = (x : Int) + (j : Int) := wraps_i64 _ (by omega) (by omega)
      have HB0 : Hid (Below wr.heap.size wr wr.drew) := (Below.refl _ _).drew
      clear I hat hmij hz hxi hak hmkj
      generalize (mkj * y).v = pr at *
      go_wp2_with fail
      go_region_held3 (fun w' => w'.cell? ⟨w.heap.size, 0, none⟩ = some (.int .i64 r) ∧ w'.cell? ⟨w.heap.size, 1, none⟩ = some (.int .i64 c) ∧ w'.cell? ⟨w.heap.size, 2, none⟩ = some (.slice (some ⟨g, 0, none⟩) N cp)) (first | assumption | exact ⟨by assumption, by assumption, by assumption⟩ | exact ⟨m0, m1, m2⟩ | exact ⟨(cell_off np).trans (by assumption), (cell_off np).trans (by assumption), (cell_off np).trans (by assumption)⟩)
        (first
          | (go_at_call 39; refine (R1.out _ _ _ _ (by with_reducible rfl) (by with_reducible rfl) (by with_reducible rfl) (by first | assumption | exact HB0.out)).mono ?_; rintro e wa ⟨rfl, ka, ⟨ka1, ka2, ka3⟩, ka4, ka5⟩)
          | (go_at_call 39; refine (R3.out _ _ _ _ (by with_reducible rfl) (by with_reducible rfl) (by with_reducible rfl) (by first | assumption | exact HB0.out)).mono ?_; rintro e wb ⟨rfl, kb, ⟨kb1, kb2, kb3⟩, kb4, kb5⟩)
          | (go_at_call 38; refine (R2.out _ _ _ (by with_reducible rfl) (by with_reducible rfl)).mono ?_; rintro e wz ⟨rfl, hwz⟩; subst wz))
      all_goals
        clear R1 R2 R3
        go_wp2
        exact ⟨⟨j + 1, by omega, by go_num, by first | exact FIN.out _ ka | exact FIN.out _ kb⟩, by simp [intOf]; omega⟩
    · obtain rfl : j = c := by omega
      have b1 : ¬ (j : Int) < (j : Int) := by omega
      have HI := hide I
      clear I
      go_wp2
      go_end0
      exact ⟨rfl, HI.out.G.congr (fun t ht => QE.out t ht), HI.out.gr⟩
end Go.Proofs.Ythedeggggbdibaa

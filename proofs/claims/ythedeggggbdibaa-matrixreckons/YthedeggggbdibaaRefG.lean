/-
  The contract of the document's own swap.
-/
import Derived.Test.YthedeggggbdibaaRefE
namespace Go.Proofs.Ythedeggggbdibaa
open Go.RowKit Go.Lib

theorem swap_step {c a b j : Nat} (M M' : Mt) (hj : j < c) (hM : ∀ i, i ≠ a → i ≠ b → ∀ q, M' i q = M i q) (ha : M' a j = M b j) (hb : M' b j = M a j) (t : Nat) :
    (if t = b * c + j then M a j else if t = a * c + j then M b j else flat c (colS M M' j) t) = flat c (colS M M' (j + 1)) t := by
  by_cases h : t = b * c + j
  · subst h; rw [if_pos rfl]; unfold flat colS; rw [div_at hj, mod_at hj, if_pos (Nat.lt_succ_self _), hb]
  · rw [if_neg h]
    by_cases h' : t = a * c + j
    · subst h'; rw [if_pos rfl]; unfold flat colS; rw [div_at hj, mod_at hj, if_pos (Nat.lt_succ_self _), ha]
    · rw [if_neg h']
      unfold flat colS
      by_cases h2 : t % c = j
      · have h3 : t / c ≠ a := fun h1 => h' (at_eq h1 h2)
        have h4 : t / c ≠ b := fun h1 => h (at_eq h1 h2)
        rw [hM _ h3 h4]; split <;> split <;> rfl
      · by_cases h3 : t % c < j
        · rw [if_pos h3, if_pos (by omega)]
        · rw [if_neg h3, if_neg (by omega)]

set_option maxRecDepth 100000 in
set_option maxHeartbeats 1600000 in
theorem swap_any {w : World} {g r c i k cp : Nat} {M : Mt} (hG : KB w g (r * c) (flat c M)) (hi : i < r) (hk : k < r) (hr : r ≤ 255) (hc : c ≤ 1000) (hcp : r * c ≤ cp) (M' : Mt) (hM : ∀ a, a ≠ i → a ≠ k → ∀ q, M' a q = M a q) (hMi : ∀ q, q < c → M' i q = M k q) (hMk : ∀ q, q < c → M' k q = M i q) :
    Calls Try.prog 44 #[.agg #[.int .i64 r, .int .i64 c, .slice (some ⟨g, 0, none⟩) (r * c) cp], .int .i64 i, .int .i64 k] w fun e w' =>
      e = .returned (.tuple #[]) ∧ KB w' g (r * c) (flat c M') ∧ w.grownBy w' (some g) := by
  have hNN : r * c ≤ 255 * 1000 := Nat.mul_le_mul hr hc
  have QN : Hid (∀ j, j < c → i * c + j < r * c) := fun j hj => at_lt hi hj
  have QK : Hid (∀ j, j < c → k * c + j < r * c) := fun j hj => at_lt hk hj
  have QE : Hid (∀ t, t < r * c → flat c (colS M M' c) t = flat c M' t) := fun t ht => colS_all M M' t ht
  generalize r * c = N at *
  have I0 : MI w g N r c cp (flat c (colS M M' 0)) (w.alloc (.cells #[.int .i64 r, .int .i64 c, .slice (some ⟨g, 0, none⟩) N cp] 29)) := (MI.start hG).congr (fun t _ => (colS_zero M M' t).symm)
  have HI := hide I0
  obtain ⟨x, hx⟩ : ∃ x, x = i * c := ⟨_, rfl⟩
  have hxi : (i : Int) * (c : Int) = (x : Int) := by rw [← Int.natCast_mul, hx]
  obtain ⟨x2, hx2⟩ : ∃ x, x = k * c := ⟨_, rfl⟩
  have hxk : (k : Int) * (c : Int) = (x2 : Int) := by rw [← Int.natCast_mul, hx2]
  have hgl := hG.lt
  have HXX := hide hx
  have HXK := hide hx2
  have HM := hide hM
  have HMI := hide hMi
  have HMK := hide hMk
  clear I0 hG hx hM hMi hMk hx2
  go_enter Try.func44, Try.ntmps44
  go_wp2
  go_loopw [6] (fun z wr => ∃ j : Nat, j ≤ c ∧ z = .int .i64 j ∧ MI w g N r c cp (flat c (colS M M' j)) wr) (fun z _ => c - (intOf z).toNat)
  case atStart => exact ⟨0, Nat.zero_le _, rfl, HI.out⟩
  case round =>
    obtain ⟨j, hj, rfl, I⟩ := hrel
    clear HI
    have m0 := I.x.cell0
    have m1 := I.x.cell1
    have m2 := I.x.cell2
    by_cases hlt : j < c
    · have hxN : x + j < N := by rw [HXX.out]; exact QN.out j hlt
      have hkN : x2 + j < N := by rw [HXK.out]; exact QK.out j hlt
      have hat : flat c (colS M M' j) (x + j) = M i j := by rw [HXX.out]; exact colS_at M M' hlt
      have hak : flat c (colS M M' j) (x2 + j) = M k j := by rw [HXK.out]; exact colS_at M M' hlt
      obtain ⟨mij, hmij⟩ : ∃ mij, mij = M i j := ⟨_, rfl⟩
      obtain ⟨mkj, hmkj⟩ : ∃ mkj, mkj = M k j := ⟨_, rfl⟩
      have b3 : (j : Int) < (c : Int) := by omega
      have R1 : Hid (∀ (w' : World), Below wr.heap.size wr w' → Calls Try.prog 39 #[.agg #[.int .i64 r, .int .i64 c, .slice (some ⟨g, 0, none⟩) N cp], .int .i64 i, .int .i64 j] w' fun e w'' => e = .returned (.int .i64 ((mij.v : Nat) : Int)) ∧ Below wr.heap.size wr w'') := by
        intro w' hb
        have I1 := I.below hb
        refine (at_any (r := (r : Int)) (c := c) (i := i) (j := j) (I1.G.nx (f := g + 1) (c := cp) hcp (by omega)) rfl (QN.out j hlt) (by have := QN.out j hlt; omega) (by omega)).mono ?_
        rintro e w'' ⟨rfl, q⟩
        exact ⟨by rw [← HXX.out, hat, hmij], below_step hb q⟩
      have HI := hide I
      have HAT := hide hat
      have HAK := hide hak
      have HMIJ := hide hmij
      have HMKJ := hide hmkj
      clear I hat hak hmij hmkj
      go_wp2_with fail
      refine (R1.out _ (Below.refl _ _)).mono ?_
      rintro e w1 ⟨rfl, k1⟩
      have I := HI.out.below k1
      clear HI k1 R1 m0 m1 m2
      have m0 := I.x.cell0
      have m1 := I.x.cell1
      have m2 := I.x.cell2
      have R3 : Hid (∀ (v u1 u2 : Value) (w' : World), v = .agg #[.int .i64 r, .int .i64 c, .slice (some ⟨g, 0, none⟩) N cp] → u1 = .int .i64 k → u2 = .int .i64 j → Below w1.heap.size w1 w' → Calls Try.prog 39 #[v, u1, u2] w' fun e w'' => e = .returned (.int .i64 ((mkj.v : Nat) : Int)) ∧ Below w1.heap.size w1 w'' ∧ (w''.cell? ⟨w.heap.size, 0, none⟩ = some (.int .i64 r) ∧ w''.cell? ⟨w.heap.size, 1, none⟩ = some (.int .i64 c) ∧ w''.cell? ⟨w.heap.size, 2, none⟩ = some (.slice (some ⟨g, 0, none⟩) N cp)) ∧ w''.cell? ⟨g, x + j, none⟩ = some (.int .i64 ((mij.v : Nat) : Int)) ∧ w''.frozen? ⟨g, x + j, none⟩ = false) := by
        intro v u1 u2 w' h1 h2 h3 hb
        subst h1 h2 h3
        have I1 := I.below hb
        refine (at_any (r := (r : Int)) (c := c) (i := k) (j := j) (I1.G.nx (f := g + 1) (c := cp) hcp (by omega)) rfl (QK.out j hlt) (by have := QK.out j hlt; omega) (by omega)).mono ?_
        rintro e w'' ⟨rfl, q⟩
        have I' := I.below (below_step hb q)
        exact ⟨by rw [← HXK.out, HAK.out, HMKJ.out], below_step hb q, ⟨I'.x.cell0, I'.x.cell1, I'.x.cell2⟩, by rw [I'.G.cell _ hxN, HAT.out, HMIJ.out], I'.G.free _⟩
      have MID : Hid (∀ w', Below w1.heap.size w1 w' → MI w g N r c cp (fun t => if t = x + j then mkj else flat c (colS M M' j) t) (w'.setCell ⟨g, x + j, none⟩ (.int .i64 ((mkj.v : Nat) : Int)))) := fun w' hb => (I.below hb).set (x + j) hxN mkj
      have np := I.x.ne I.G
      have b0 : (0 : Int) ≤ (x : Int) + (j : Int) := by omega
      have b1 : (x : Int) + (j : Int) < (N : Int) := by omega
      have b2 : ((x : Int) + (j : Int)).toNat = x + j := by omega
      have hwb : IntKind.i64.wrap ((i : Int) * (c : Int)) = (x : Int) := by rw [hxi]; exact wraps_i64 _ (by omega) (by omega)
      have hwc : IntKind.i64.wrap ((x : Int) + (j : Int)) = (x : Int) + (j : Int) := wraps_i64 _ (by omega) (by omega)
      have HB0 : Hid (Below w1.heap.size w1 w1.drew) := (Below.refl _ _).drew
      clear I hxi
      go_wp2_with fail
      go_region_held3 (fun w' => w'.cell? ⟨w.heap.size, 0, none⟩ = some (.int .i64 r) ∧ w'.cell? ⟨w.heap.size, 1, none⟩ = some (.int .i64 c) ∧ w'.cell? ⟨w.heap.size, 2, none⟩ = some (.slice (some ⟨g, 0, none⟩) N cp)) (first | assumption | exact ⟨by assumption, by assumption, by assumption⟩ | exact ⟨m0, m1, m2⟩ | exact ⟨(cell_off np).trans (by assumption), (cell_off np).trans (by assumption), (cell_off np).trans (by assumption)⟩)
        (first
          | (go_at_call 39; refine (R3.out _ _ _ _ (by with_reducible rfl) (by with_reducible rfl) (by with_reducible rfl) (by first | assumption | exact HB0.out)).mono ?_; rintro e wb ⟨rfl, kb, ⟨kb1, kb2, kb3⟩, kb4, kb5⟩))
      all_goals
        have I2 := MID.out _ kb
        clear R3 MID b0 b1 b2 hwb hwc m0 m1 m2 kb kb1 kb2 kb3 kb4 kb5
        have m0 := I2.x.cell0
        have m1 := I2.x.cell1
        have m2 := I2.x.cell2
        have c4 := I2.G.cell (x2 + j) hkN
        have z4 := I2.G.free (x2 + j)
        have I3 : MI w g N r c cp (flat c (colS M M' (j + 1))) _ := (I2.set (x2 + j) hkN mij).congr (G' := flat c (colS M M' (j + 1))) (fun t _ => by show (if t = x2 + j then mij else if t = x + j then mkj else flat c (colS M M' j) t) = _; rw [HXX.out, HXK.out, HMIJ.out, HMKJ.out]; exact swap_step M M' hlt HM.out (HMI.out j hlt) (HMK.out j hlt) t)
        have HI3 := hide I3
        have b0 : (0 : Int) ≤ (x2 : Int) + (j : Int) := by omega
        have b1 : (x2 : Int) + (j : Int) < (N : Int) := by omega
        have b2 : ((x2 : Int) + (j : Int)).toNat = x2 + j := by omega
        clear I2 I3
        generalize (World.setCell _ ⟨g, x + j, none⟩ (.int .i64 ((mkj.v : Nat) : Int))) = w9 at *
        go_wp2
        exact ⟨⟨j + 1, by omega, by go_num, HI3.out⟩, by simp [intOf]; omega⟩
    · obtain rfl : j = c := by omega
      have b1 : ¬ (j : Int) < (j : Int) := by omega
      have HI := hide I
      clear I
      go_wp2
      go_end0
      exact ⟨rfl, HI.out.G.congr (fun t ht => QE.out t ht), HI.out.gr⟩
end Go.Proofs.Ythedeggggbdibaa

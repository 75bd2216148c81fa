/-
  The walk of the statement that it is a field.
-/
import Derived.Test.YtcgiolehlokpnaaMethods
namespace Go.Proofs.Ytcgiolehlokpnaa
open Go.RowKit Go.Lib

theorem tmod_any (k n : Int) (hk : -9223372036854775808 ≤ k ∧ k ≤ 9223372036854775807) (hn : 1 ≤ n ∧ n ≤ 1000000) : (wrap64 (k.tmod n + n)).tmod n = k % n := by
  obtain ⟨h1, h2⟩ := hk
  obtain ⟨h3, h4⟩ := hn
  by_cases h : 0 ≤ k
  · have e1 := Int.emod_nonneg k (show n ≠ 0 by omega)
    have e2 := Int.emod_lt_of_pos k (show 0 < n by omega)
    rw [Int.tmod_eq_emod_of_nonneg h, IntWalk.wrap64_in _ ⟨by omega, by omega⟩, Int.tmod_eq_emod_of_nonneg (by omega)]
    rw [Int.add_emod_right, Int.emod_emod_of_dvd _ (Int.dvd_refl n)]
  · obtain ⟨m, rfl⟩ : ∃ m, k = -m := ⟨-k, by omega⟩
    have e1 := Int.emod_nonneg m (show n ≠ 0 by omega)
    have e2 := Int.emod_lt_of_pos m (show 0 < n by omega)
    rw [Int.neg_tmod, Int.tmod_eq_emod_of_nonneg (show 0 ≤ m by omega), IntWalk.wrap64_in _ ⟨by omega, by omega⟩, Int.tmod_eq_emod_of_nonneg (by omega), Int.add_emod_right]
    have e3 : -m = -(m % n) + n * (-(m / n)) := by
      have := Int.emod_add_mul_ediv m n
      rw [Int.mul_neg]
      omega
    rw [e3, Int.add_mul_emod_self_left]
theorem among_int (x n : Int) (w : World) (hx : -9223372036854775808 ≤ x ∧ x ≤ 9223372036854775807) (hn : 1 ≤ n ∧ n ≤ 1000000) :
    Calls Try.prog 27 #[.int .i64 x, .int .i64 n] w fun e w' => e = .returned (.int .i64 (x % n)) ∧ w' = w := by
  have HM : Hid _ := tmod_any x n hx hn
  have h1 := hn.1
  have h2 := hn.2
  clear hx hn
  go_enter Try.func27, Try.ntmps27
  go_wp2
  go_ret
  exact ⟨congrArg (fun z => Ending.returned (Value.int IntKind.i64 z)) HM.out, rfl⟩
/-- Among, told as a natural number. -/
theorem among_any (x : Int) (n : Nat) (hx : -9223372036854775808 ≤ x ∧ x ≤ 9223372036854775807) (hn : 1 ≤ n ∧ n ≤ 1000000) :
    ∃ m : Nat, m < n ∧ ∀ w : World, Calls Try.prog 27 #[.int .i64 x, .int .i64 n] w fun e w' => e = .returned (.int .i64 m) ∧ w' = w := by
  have e1 := Int.emod_nonneg x (show (n : Int) ≠ 0 by omega)
  have e2 := Int.emod_lt_of_pos x (show 0 < (n : Int) by omega)
  refine ⟨(x % n).toNat, by omega, fun w => ?_⟩
  rw [Int.toNat_of_nonneg e1]
  exact among_int x n w hx (by omega)

theorem spaceMul_any {w : World} {f : Nat} (hF : F w f) (a b : Nat) (ha : a < 256) (hb : b < 256) :
    Calls Try.prog 28 #[.agg #[.pointer (some ⟨f, 0, none⟩)], .int .i64 a, .int .i64 b] w fun e w' => e = .returned (.int .i64 ((prod a b : Nat) : Int)) ∧ F w' f ∧ w.grownBy w' (some f) := by
  have hb1 : Below w.heap.size w (w.alloc (.cells #[.pointer (some ⟨f, 0, none⟩)] 41)) := (Below.refl _ _).alloc (Nat.le_refl _) _
  go_enter Try.func28, Try.ntmps28
  go_wp2_with fail
  refine (mul_ok (hF.below hb1 (Nat.le_refl _)) a b ha hb).mono ?_
  rintro e w1 ⟨rfl, hF1, hg⟩
  go_wp2
  go_ret
  exact ⟨rfl, hF1, gb_trans (gb_below hb1 _) hg⟩

/-- What a statement over a space keeps along its calls. -/
def SQ (w : World) (f l : Nat) (w' : World) : Prop := F w' f ∧ w'.heap[l]? = some (.cells #[.pointer (some ⟨f, 0, none⟩)] 41 (0, 0)) ∧ Below w.heap.size w w'
section
variable {w w' w'' : World} {f l : Nat}
theorem SQ.cell (h : SQ w f l w') : w'.cell? ⟨l, 0, none⟩ = some (.pointer (some ⟨f, 0, none⟩)) := by rw [cell_of_row w' l 0 _ _ _ h.2.1]; rfl
theorem SQ.drew (h : SQ w f l w') : SQ w f l w'.drew := ⟨h.1.drew, h.2.1, h.2.2.drew⟩
theorem SQ.step (h : SQ w f l w') (hfl : f < l) (hwf : w.heap.size ≤ f) (hF : F w'' f) (hg : w'.grownBy w'' (some f)) : SQ w f l w'' :=
  ⟨hF, (hg.block l (lt_of_block h.2.1) (by simp; omega)).trans h.2.1, below_gb h.2.2 hg hwf (by have := h.2.2.size; omega)⟩
/-- A product in a space, whatever was done before. -/
theorem SQ.mul (hfl : f < l) (hwf : w.heap.size ≤ f) (a b p : Nat) (ha : a < 256) (hb : b < 256) (hp : prod a b = p) (v1 v2 : Value) (w' : World) (h1 : v1 = .int .i64 a) (h2 : v2 = .int .i64 b) (h : SQ w f l w' ∧ w'.cell? ⟨l, 0, none⟩ = some (.pointer (some ⟨f, 0, none⟩))) :
    Calls Try.prog 28 #[.agg #[.pointer (some ⟨f, 0, none⟩)], v1, v2] w' fun e w'' => e = .returned (.int .i64 (p : Int)) ∧ SQ w f l w'' ∧ w''.cell? ⟨l, 0, none⟩ = some (.pointer (some ⟨f, 0, none⟩)) := by
  subst h1 h2 hp
  refine (spaceMul_any h.1.1 a b ha hb).mono ?_
  rintro e w'' ⟨rfl, hF, hg⟩
  have R := h.1.step hfl hwf hF hg
  exact ⟨rfl, R, R.cell⟩
end

set_option maxHeartbeats 1600000 in
set_option maxRecDepth 100000 in
theorem is_walk (a b c : Int) (w : World) (ha : -9223372036854775808 ≤ a ∧ a ≤ 9223372036854775807) (hb : -9223372036854775808 ≤ b ∧ b ≤ 9223372036854775807) (hc : -9223372036854775808 ≤ c ∧ c ≤ 9223372036854775807) :
    Calls Try.prog 5 #[.int .i64 a, .int .i64 b, .int .i64 c] w fun e w' => e = .returned (.bool true) ∧ Below w.heap.size w w' := by
  obtain ⟨x, hx, hA⟩ := among_any a 256 ha (by decide)
  obtain ⟨y, hy, hB⟩ := among_any b 256 hb (by decide)
  obtain ⟨z, hz, hC⟩ := among_any c 256 hc (by decide)
  have HA : Hid _ := hA
  have HB : Hid _ := hB
  have HC : Hid _ := hC
  clear hA hB hC ha hb hc
  go_enter Try.func5, Try.ntmps5
  go_wp2_with fail
  refine (new_any _).mono ?_
  rintro e w1 ⟨rfl, hF, hbel⟩
  go_wp2_with fail
  have hbw : Below w.heap.size w (w1.alloc (.cells #[.pointer (some ⟨w.heap.size, 0, none⟩)] 41)) := hbel.alloc hbel.size _
  have hFa : F (w1.alloc (.cells #[.pointer (some ⟨w.heap.size, 0, none⟩)] 41)) w.heap.size := hF.below ((Below.refl _ _).alloc (Nat.le_refl _) _) (Nat.le_refl _)
  have hca : (w1.alloc (.cells #[.pointer (some ⟨w.heap.size, 0, none⟩)] 41)).heap[w1.heap.size]? = some (.cells #[.pointer (some ⟨w.heap.size, 0, none⟩)] 41 (0, 0)) := heap_alloc_new w1 _
  refine (works_any _).mono ?_
  rintro e w2 ⟨rfl, hb2⟩
  have R2 : SQ w w.heap.size w1.heap.size w2 := ⟨hFa.below hb2 (Nat.le_refl _), (hb2.block _ (by simp)).trans hca, hbw.trans (hb2.mono hbw.size)⟩
  have hfl : w.heap.size < w1.heap.size := hF.lt
  clear hbw hFa hca hb2 hF hbel
  generalize w1.heap.size = l at *
  go_wp2_with fail
  refine (HA.out _).mono ?_
  rintro e w3 ⟨rfl, rfl⟩
  go_wp2_with fail
  refine (HB.out _).mono ?_
  rintro e w3 ⟨rfl, rfl⟩
  go_wp2_with fail
  refine (HC.out _).mono ?_
  rintro e w3 ⟨rfl, rfl⟩
  clear HA HB HC
  have e1 : prod y x = prod x y := prod_comm y x
  have e2 : prod (prod x y) z = prod x (prod y z) := prod_assoc x y z
  have e3 : prod x (y ^^^ z) = prod x y ^^^ prod x z := prod_xor x y z hx hy hz
  have e4 : prod x 1 = x := prod_one x hx
  have hyz : y ^^^ z < 256 := Nat.xor_lt_two_pow (n := 8) hy hz
  have p1 := prod_lt x y
  have p2 := prod_lt y z
  have p3 := prod_lt x z
  have C1 : Hid _ := SQ.mul (w := w) hfl (Nat.le_refl _) x y _ hx hy rfl
  have C2 : Hid _ := SQ.mul (w := w) hfl (Nat.le_refl _) y x _ hy hx e1
  have C3 : Hid _ := SQ.mul (w := w) hfl (Nat.le_refl _) (prod x y) z _ p1 hz e2
  have C4 : Hid _ := SQ.mul (w := w) hfl (Nat.le_refl _) y z _ hy hz rfl
  have C5 : Hid _ := SQ.mul (w := w) hfl (Nat.le_refl _) x (prod y z) _ hx p2 rfl
  have C6 : Hid _ := SQ.mul (w := w) hfl (Nat.le_refl _) x (y ^^^ z) _ hx hyz e3
  have C7 : Hid _ := SQ.mul (w := w) hfl (Nat.le_refl _) x z _ hx hz rfl
  have C8 : Hid (∀ (v1 v2 : Value) (w' : World), v1 = .int .i64 x → v2 = .int .i64 1 → (SQ w w.heap.size l w' ∧ w'.cell? ⟨l, 0, none⟩ = some (.pointer (some ⟨w.heap.size, 0, none⟩))) →
      Calls Try.prog 28 #[.agg #[.pointer (some ⟨w.heap.size, 0, none⟩)], v1, v2] w' fun e w'' => e = .returned (.int .i64 (x : Int)) ∧ SQ w w.heap.size l w'' ∧ w''.cell? ⟨l, 0, none⟩ = some (.pointer (some ⟨w.heap.size, 0, none⟩))) :=
    fun v1 v2 w' h1 h2 h => SQ.mul (w := w) hfl (Nat.le_refl _) x 1 _ hx (by decide) e4 v1 v2 w' h1 h2 h
  have x1 := xor_i64 y z (by omega) (by omega)
  have x2 := xor_i64 (prod x y) (prod x z) (by omega) (by omega)
  generalize y ^^^ z = yz at *
  generalize prod x y ^^^ prod x z = d at *
  have R2c := R2.cell
  clear e1 e2 e3 e4
  generalize prod x (prod y z) = q at *
  generalize hP : prod x y = p at *
  generalize prod y z = r at *
  generalize prod x z = u at *
  have HP : Hid _ := hP
  clear hP
  go_wp2_with fail
  go_region_held3 (fun w' => SQ w w.heap.size l w' ∧ w'.cell? ⟨l, 0, none⟩ = some (.pointer (some ⟨w.heap.size, 0, none⟩))) (first | assumption | exact ⟨by assumption, by assumption⟩ | exact ⟨R2.drew, R2c⟩)
    (first
      | (go_at_call 28; refine (C1.out _ _ _ (by with_reducible rfl) (by with_reducible rfl) (by first | assumption | exact ⟨by assumption, by assumption⟩)).mono ?_; rintro e wa ⟨rfl, ka, ka2⟩)
      | (go_at_call 28; refine (C2.out _ _ _ (by with_reducible rfl) (by with_reducible rfl) (by first | assumption | exact ⟨by assumption, by assumption⟩)).mono ?_; rintro e wb ⟨rfl, kb, kb2⟩)
      | (go_at_call 28; refine (C3.out _ _ _ (by with_reducible rfl) (by with_reducible rfl) (by first | assumption | exact ⟨by assumption, by assumption⟩)).mono ?_; rintro e wc ⟨rfl, kc, kc2⟩)
      | (go_at_call 28; refine (C4.out _ _ _ (by with_reducible rfl) (by with_reducible rfl) (by first | assumption | exact ⟨by assumption, by assumption⟩)).mono ?_; rintro e wd ⟨rfl, kd, kd2⟩)
      | (go_at_call 28; refine (C5.out _ _ _ (by with_reducible rfl) (by with_reducible rfl) (by first | assumption | exact ⟨by assumption, by assumption⟩)).mono ?_; rintro e we ⟨rfl, ke, ke2⟩)
      | (go_at_call 28; refine (C6.out _ _ _ (by with_reducible rfl) (by with_reducible rfl) (by first | assumption | exact ⟨by assumption, by assumption⟩)).mono ?_; rintro e wf ⟨rfl, kf, kf2⟩)
      | (go_at_call 28; refine (C7.out _ _ _ (by with_reducible rfl) (by with_reducible rfl) (by first | assumption | exact ⟨by assumption, by assumption⟩)).mono ?_; rintro e wg ⟨rfl, kg, kg2⟩)
      | (go_at_call 28; refine (C8.out _ _ _ (by with_reducible rfl) (by with_reducible rfl) (by first | assumption | exact ⟨by assumption, by assumption⟩)).mono ?_; rintro e wh ⟨rfl, kh, kh2⟩))
  clear C2 C3 C4 C5 C6 C7 C8 x1 x2 R2 R2c p1 p2 p3 hyz
  by_cases hy0 : y = 0
  · subst hy0
    go_wp2_with fail
    refine (div_zero x hx _).mono ?_
    rintro e w4 ⟨rfl, rfl⟩
    go_wp2
    go_ret
    exact ⟨rfl, kh.2.2⟩
  · have hy0' : ((y : Int) == 0) = false := by simp; omega
    go_wp2_with fail
    refine (div_ok kh.1 x y hx hy hy0).mono ?_
    rintro e w4 ⟨rfl, hF4, hg4⟩
    have R4 := kh.step hfl (Nat.le_refl _) hF4 hg4
    have c4 := R4.cell
    have C9 : Hid _ := SQ.mul (w := w) hfl (Nat.le_refl _) (quot x y) y _ (quot_lt x y) hy (quot_prod x y hx hy hy0)
    generalize quot x y = s at *
    by_cases hx0 : x = 0
    · subst hx0
      go_wp2_with fail
      refine (C9.out _ _ _ rfl rfl ⟨R4, c4⟩).mono ?_
      rintro e w5 ⟨rfl, R5, c5⟩
      go_wp2
      go_ret
      exact ⟨rfl, R5.2.2⟩
    · have hx0' : ((x : Int) == 0) = false := by simp; omega
      have hp0 : p ≠ 0 := by rw [← HP.out]; exact prod_pos x y hx0 hy0
      have hp0' : ((p : Int) != 0) = true := by simp; omega
      go_wp2_with fail
      refine (C9.out _ _ _ rfl rfl ⟨R4, c4⟩).mono ?_
      rintro e w5 ⟨rfl, R5, c5⟩
      go_wp2_with fail
      refine (C1.out _ _ _ rfl rfl ⟨R5, c5⟩).mono ?_
      rintro e w6 ⟨rfl, R6, c6⟩
      go_wp2
      go_ret
      exact ⟨rfl, R6.2.2⟩
end Go.Proofs.Ytcgiolehlokpnaa

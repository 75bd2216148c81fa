/-
  Gear: the setup's check, the gear of a byte: the program's and the document's.
-/
import Derived.Test.YtdmlhkphdolbeaaDoorGeKit
import Derived.Lib.LaidTab
namespace Go.Proofs.YtdmlhkphdolbeaaDoor
open Go.RowKit Go.Lib

/-- The laid variable. -/
def Lm (w : World) : Prop := ∃ t fr, w.heap[0]? = some (.cells #[.int .u64 11400714819323198485, .int .i64 31, .int .u64 13787848793156543929, .int .i64 29] t fr)
theorem Lm.bel {w w' : World} (h : Lm w) (hb : Below w.heap.size w w') : Lm w' := by
  obtain ⟨t, fr, h⟩ := h
  exact ⟨t, fr, (hb.block 0 (lt_of_block h)).trans h⟩
theorem Lm.drew {w : World} (h : Lm w) : Lm w.drew := h
theorem xor_nat (k : IntKind) (j : Nat) (hj : j ≤ k.bits) (hk : ∀ (n : Int), 0 ≤ n → n < 2 ^ j → k.wrap n = n) (a b : Nat) (ha : a < 2 ^ j) (hb : b < 2 ^ j) :
    bits .xor k (a : Int) (b : Int) = ((a ^^^ b : Nat) : Int) := by
  have hp : 2 ^ j ≤ 2 ^ k.bits := Nat.pow_le_pow_right (by decide) hj
  have hx : a ^^^ b < 2 ^ j := Nat.xor_lt_two_pow ha hb
  have hm : (a ^^^ b) % 2 ^ k.bits = a ^^^ b := Nat.mod_eq_of_lt (by omega)
  have ea : BitVec.ofInt k.bits (a : Int) = BitVec.ofNat k.bits a := by simp
  have eb : BitVec.ofInt k.bits (b : Int) = BitVec.ofNat k.bits b := by simp
  have : bits .xor k (a : Int) (b : Int) = k.wrap ((BitVec.ofInt k.bits (a : Int) ^^^ BitVec.ofInt k.bits (b : Int)).toNat : Int) := rfl
  rw [this, ea, eb, BitVec.toNat_xor, BitVec.toNat_ofNat, BitVec.toNat_ofNat, Nat.mod_eq_of_lt (by omega), Nat.mod_eq_of_lt (by omega)]
  exact hk _ (by omega) (by exact_mod_cast hx)
theorem wraps_u64' (n : Int) (h₀ : 0 ≤ n) (h₁ : n < 2 ^ 64) : IntKind.u64.wrap n = n := by rw [IntKind.wrap_u64]; omega
theorem xor_u64' (a b : Nat) (ha : a < 2 ^ 64) (hb : b < 2 ^ 64) : bits .xor .u64 (a : Int) (b : Int) = ((a ^^^ b : Nat) : Int) := xor_nat .u64 64 (by decide) wraps_u64' a b ha hb

set_option maxRecDepth 100000 in
theorem within_any (w : World) (n a b : Int) : Calls Tryd.prog 21 #[.int .i64 n, .int .i64 a, .int .i64 b] w fun e w' => e = .returned (.bool (decide (a ≤ n) && decide (n ≤ b))) ∧ w' = w := by
  by_cases h1 : a ≤ n
  · by_cases h2 : n ≤ b
    · rw [decide_eq_true h1, decide_eq_true h2]
      go_enter Tryd.func21, Tryd.ntmps21
      go_wp2
      go_ret
      exact ⟨rfl, rfl⟩
    · rw [decide_eq_true h1, decide_eq_false h2]
      go_enter Tryd.func21, Tryd.ntmps21
      go_wp2
      go_ret
      exact ⟨rfl, rfl⟩
  · rw [decide_eq_false h1]
    go_enter Tryd.func21, Tryd.ntmps21
    go_wp2
    go_ret
    exact ⟨rfl, rfl⟩

set_option maxRecDepth 100000 in
theorem mixed_any {w : World} (hl : Lm w) (b : Nat) (hb : b < 256) : Calls Tryd.prog 22 #[.int .u8 (b : Int)] w fun e w' => e = .returned (.int .u64 ((gm b : Nat) : Int)) ∧ Below w.heap.size w w' := by
  obtain ⟨x0, hx0⟩ : ∃ x, x = b + 1 := ⟨_, rfl⟩
  obtain ⟨x1, hx1⟩ : ∃ x, x = x0 * 11400714819323198485 % 18446744073709551616 := ⟨_, rfl⟩
  obtain ⟨x2, hx2⟩ : ∃ x, x = x1 ^^^ x1 / 2147483648 := ⟨_, rfl⟩
  obtain ⟨x3, hx3⟩ : ∃ x, x = x2 * 13787848793156543929 % 18446744073709551616 := ⟨_, rfl⟩
  obtain ⟨x4, hx4⟩ : ∃ x, x = x3 ^^^ x3 / 536870912 := ⟨_, rfl⟩
  have hg : gm b = x4 := by rw [hx4, hx3, hx2, hx1, hx0]; rfl
  rw [hg]
  have l1 : x1 < 18446744073709551616 := by rw [hx1]; exact Nat.mod_lt _ (by decide)
  have l3 : x3 < 18446744073709551616 := by rw [hx3]; exact Nat.mod_lt _ (by decide)
  have l2 : x2 < 18446744073709551616 := by rw [hx2]; exact Nat.xor_lt_two_pow (n := 64) l1 (by omega)
  have q0 : (b : Int) + 1 = (x0 : Int) := by omega
  have q1 : IntKind.u64.wrap ((x0 : Int) * 11400714819323198485) = (x1 : Int) := by rw [hx1, IntKind.wrap_u64]; omega
  have q2 : bits .xor .u64 (x1 : Int) ((x1 : Int) / 2147483648) = (x2 : Int) := by
    rw [show (x1 : Int) / 2147483648 = ((x1 / 2147483648 : Nat) : Int) by omega, xor_u64' _ _ l1 (by omega), hx2]
  have q3 : IntKind.u64.wrap ((x2 : Int) * 13787848793156543929) = (x3 : Int) := by rw [hx3, IntKind.wrap_u64]; omega
  have q4 : bits .xor .u64 (x3 : Int) ((x3 : Int) / 536870912) = (x4 : Int) := by
    rw [show (x3 : Int) / 536870912 = ((x3 / 536870912 : Nat) : Int) by omega, xor_u64' _ _ l3 (by omega), hx4]
  obtain ⟨t, fr, hl⟩ := hl
  have z0 : w.cell? ⟨0, 0, none⟩ = some (.int .u64 11400714819323198485) := by simp [World.cell?, hl]
  have z1 : w.cell? ⟨0, 1, none⟩ = some (.int .i64 31) := by simp [World.cell?, hl]
  have z2 : w.cell? ⟨0, 2, none⟩ = some (.int .u64 13787848793156543929) := by simp [World.cell?, hl]
  have z3 : w.cell? ⟨0, 3, none⟩ = some (.int .i64 29) := by simp [World.cell?, hl]
  clear hl hg hx0 hx1 hx2 hx3 hx4
  have i0 : ∀ w : World, (Instr.index 71 (.agg #[.int .u64 11400714819323198485, .int .i64 31, .int .u64 13787848793156543929, .int .i64 29]) (.int .i64 0)).run Tryd.prog w = .ok (.agg #[.int .u64 11400714819323198485, .int .i64 31]) w := fun w => by kernel_rfl
  have i1 : ∀ w : World, (Instr.index 71 (.agg #[.int .u64 11400714819323198485, .int .i64 31, .int .u64 13787848793156543929, .int .i64 29]) (.int .i64 1)).run Tryd.prog w = .ok (.agg #[.int .u64 13787848793156543929, .int .i64 29]) w := fun w => by kernel_rfl
  go_enter Tryd.func22, Tryd.ntmps22
  go_wp2
  go_loopw [3, 10] (fun x i wr => Below w.heap.size w wr ∧ ((i = .int .i64 0 ∧ x = .int .u64 (x0 : Int)) ∨ (i = .int .i64 1 ∧ x = .int .u64 (x2 : Int)) ∨ (i = .int .i64 2 ∧ x = .int .u64 (x4 : Int)))) (fun _ i _ => 2 - (intOf i).toNat)
  case atStart => exact ⟨Below.refl _ _, .inl ⟨rfl, rfl⟩⟩
  case round =>
    obtain ⟨hB, ⟨rfl, rfl⟩ | ⟨rfl, rfl⟩ | ⟨rfl, rfl⟩⟩ := hrel
    · have HB := hide hB
      clear hB
      go_wp2
      exact ⟨⟨HB.out.alloc HB.out.size _, .inr (.inl ⟨rfl, rfl⟩)⟩, by decide⟩
    · have HB := hide hB
      clear hB
      go_wp2
      exact ⟨⟨HB.out.alloc HB.out.size _, .inr (.inr ⟨rfl, rfl⟩)⟩, by decide⟩
    · have HB := hide hB
      clear hB
      go_wp2
      go_ret
      exact ⟨rfl, HB.out⟩

theorem within_is {w : World} {n a b : Int} {r : Bool} (h : (decide (a ≤ n) && decide (n ≤ b)) = r) : Calls Tryd.prog 21 #[.int .i64 n, .int .i64 a, .int .i64 b] w fun e w' => e = .returned (.bool r) ∧ w' = w := by
  subst h
  exact within_any w n a b
/-- The code that a setup's check comes to. -/
def ckC (L B M : Int) : Int := if ((decide (1 ≤ L) && decide (L ≤ 4096)) && (decide (1 ≤ B) && decide (B ≤ 16)) && (decide (L ≤ M) && decide (M ≤ 16384))) = true then 0 else 1
theorem ck_ok {L B M : Nat} (o : OkX L B M) : ckC L B M = 0 := by
  have := o.l1; have := o.l2; have := o.b1; have := o.b2; have := o.m1; have := o.m2
  rw [ckC, if_pos]
  simp only [Bool.and_eq_true, decide_eq_true_eq]
  omega
theorem ck_nat {L B M : Int} (h : ckC L B M = 0) : ∃ l b m : Nat, L = l ∧ B = b ∧ M = m ∧ OkX l b m := by
  rw [ckC] at h
  split at h
  · rename_i hc
    simp only [Bool.and_eq_true, decide_eq_true_eq] at hc
    exact ⟨L.toNat, B.toNat, M.toNat, by omega, by omega, by omega, by omega, by omega, by omega, by omega, by omega, by omega⟩
  · cases h
theorem ck_01 (L B M : Int) : ckC L B M = 0 ∨ ckC L B M = 1 := by rw [ckC]; split <;> simp

set_option maxRecDepth 100000 in
theorem check_any (w : World) (L B M : Int) : Calls Tryd.prog 14 #[.agg #[.int .i64 L, .int .i64 B, .int .i64 M]] w fun e w' => e = .returned (.int .i64 (ckC L B M)) ∧ Below w.heap.size w w' := by
  rw [ckC]
  have HB : Hid (Below w.heap.size w (w.alloc (.cells #[.int .i64 L, .int .i64 B, .int .i64 M] 23))) := (Below.refl _ _).alloc (Nat.le_refl _) _
  cases h1 : (decide (1 ≤ L) && decide (L ≤ 4096))
  · go_enter Tryd.func14, Tryd.ntmps14
    go_wp2_with fail
    refine (within_is h1).mono ?_
    rintro _ _ ⟨rfl, rfl⟩
    go_wp2
    go_ret
    exact ⟨rfl, HB.out⟩
  · cases h2 : (decide (1 ≤ B) && decide (B ≤ 16))
    · go_enter Tryd.func14, Tryd.ntmps14
      go_wp2_with fail
      refine (within_is h1).mono ?_
      rintro _ _ ⟨rfl, rfl⟩
      go_wp2_with fail
      refine (within_is h2).mono ?_
      rintro _ _ ⟨rfl, rfl⟩
      go_wp2
      go_ret
      exact ⟨rfl, HB.out⟩
    · cases h3 : (decide (L ≤ M) && decide (M ≤ 16384)) <;>
      · go_enter Tryd.func14, Tryd.ntmps14
        go_wp2_with fail
        refine (within_is h1).mono ?_
        rintro _ _ ⟨rfl, rfl⟩
        go_wp2_with fail
        refine (within_is h2).mono ?_
        rintro _ _ ⟨rfl, rfl⟩
        go_wp2_with fail
        refine (within_is h3).mono ?_
        rintro _ _ ⟨rfl, rfl⟩
        go_wp2
        go_ret
        exact ⟨rfl, HB.out⟩

/-- Gear's answer. -/
def gearA (b : Int) : Value := if 0 ≤ b ∧ b ≤ 255 then .tuple #[.int .u64 ((gm b.toNat : Nat) : Int), .int .i64 0] else .tuple #[.int .u64 0, .int .i64 1]
set_option maxRecDepth 100000 in
theorem gear_any {w : World} (hl : Lm w) (b : Int) : Calls Tryd.prog 8 #[.int .i64 b] w fun e w' => e = .returned (gearA b) ∧ Below w.heap.size w w' := by
  rw [gearA]
  by_cases h : 0 ≤ b ∧ b ≤ 255
  · rw [if_pos h]
    obtain ⟨n, rfl⟩ : ∃ n : Nat, b = n := ⟨b.toNat, by omega⟩
    have h1 : (decide ((0 : Int) ≤ (n : Int)) && decide ((n : Int) ≤ 255)) = true := by simp; omega
    have hn : n < 256 := by omega
    have e1 : IntKind.u8.wrap (n : Int) = n := by rw [IntKind.wrap_u8]; omega
    go_enter Tryd.func8, Tryd.ntmps8
    go_wp2_with fail
    refine (within_is h1).mono ?_
    rintro _ _ ⟨rfl, rfl⟩
    go_wp2_with fail
    refine (mixed_any hl n hn).mono ?_
    rintro _ w1 ⟨rfl, hb⟩
    go_wp2
    go_ret2
    exact ⟨rfl, hb⟩
  · rw [if_neg h]
    have h1 : (decide ((0 : Int) ≤ b) && decide (b ≤ 255)) = false := by simp; omega
    go_enter Tryd.func8, Tryd.ntmps8
    go_wp2_with fail
    refine (within_is h1).mono ?_
    rintro _ _ ⟨rfl, rfl⟩
    go_wp2
    go_ret2
    exact ⟨rfl, Below.refl _ _⟩

/-! ### The document's -/
set_option maxRecDepth 100000 in
theorem rof_any (w : World) (b : Nat) (hb : b < 256) : Calls Tryd.prog 23 #[.int .u8 (b : Int)] w fun e w' => e = .returned (.int .u64 ((gm b : Nat) : Int)) ∧ w' = w := by
  obtain ⟨x0, hx0⟩ : ∃ x, x = b + 1 := ⟨_, rfl⟩
  obtain ⟨x1, hx1⟩ : ∃ x, x = x0 * 11400714819323198485 % 18446744073709551616 := ⟨_, rfl⟩
  obtain ⟨x2, hx2⟩ : ∃ x, x = x1 ^^^ x1 / 2147483648 := ⟨_, rfl⟩
  obtain ⟨x3, hx3⟩ : ∃ x, x = x2 * 13787848793156543929 % 18446744073709551616 := ⟨_, rfl⟩
  obtain ⟨x4, hx4⟩ : ∃ x, x = x3 ^^^ x3 / 536870912 := ⟨_, rfl⟩
  have hg : gm b = x4 := by rw [hx4, hx3, hx2, hx1, hx0]; rfl
  rw [hg]
  have l1 : x1 < 18446744073709551616 := by rw [hx1]; exact Nat.mod_lt _ (by decide)
  have l3 : x3 < 18446744073709551616 := by rw [hx3]; exact Nat.mod_lt _ (by decide)
  have l2 : x2 < 18446744073709551616 := by rw [hx2]; exact Nat.xor_lt_two_pow (n := 64) l1 (by omega)
  have q0 : (b : Int) + 1 = (x0 : Int) := by omega
  have q1 : IntKind.u64.wrap ((x0 : Int) * 11400714819323198485) = (x1 : Int) := by rw [hx1, IntKind.wrap_u64]; omega
  have q2 : bits .xor .u64 (x1 : Int) ((x1 : Int) / 2147483648) = (x2 : Int) := by
    rw [show (x1 : Int) / 2147483648 = ((x1 / 2147483648 : Nat) : Int) by omega, xor_u64' _ _ l1 (by omega), hx2]
  have q3 : IntKind.u64.wrap ((x2 : Int) * 13787848793156543929) = (x3 : Int) := by rw [hx3, IntKind.wrap_u64]; omega
  have q4 : bits .xor .u64 (x3 : Int) ((x3 : Int) / 536870912) = (x4 : Int) := by
    rw [show (x3 : Int) / 536870912 = ((x3 / 536870912 : Nat) : Int) by omega, xor_u64' _ _ l3 (by omega), hx4]
  clear hg hx0 hx1 hx2 hx3 hx4
  go_enter Tryd.func23, Tryd.ntmps23
  go_wp2
  go_ret
  exact ⟨rfl, rfl⟩
set_option maxRecDepth 100000 in
theorem rgear_any (w : World) (b : Int) : Calls Tryd.prog 9 #[.int .i64 b] w fun e w' => e = .returned (gearA b) ∧ w' = w := by
  rw [gearA]
  by_cases h0 : b < 0
  · rw [if_neg (by omega)]
    go_enter Tryd.func9, Tryd.ntmps9
    go_wp2
    go_ret2
    exact ⟨rfl, rfl⟩
  · by_cases h1 : 255 < b
    · rw [if_neg (by omega)]
      go_enter Tryd.func9, Tryd.ntmps9
      go_wp2
      go_ret2
      exact ⟨rfl, rfl⟩
    · rw [if_pos (by omega)]
      obtain ⟨n, rfl⟩ : ∃ n : Nat, b = n := ⟨b.toNat, by omega⟩
      have hn : n < 256 := by omega
      have e1 : IntKind.u8.wrap (n : Int) = n := by rw [IntKind.wrap_u8]; omega
      go_enter Tryd.func9, Tryd.ntmps9
      go_wp2_with fail
      refine (rof_any _ n hn).mono ?_
      rintro _ w1 ⟨rfl, rfl⟩
      go_wp2
      go_ret2
      exact ⟨rfl, rfl⟩
set_option maxRecDepth 100000 in
theorem rcheck_any (w : World) (L B M : Int) : Calls Tryd.prog 15 #[.agg #[.int .i64 L, .int .i64 B, .int .i64 M]] w fun e w' => e = .returned (.int .i64 (ckC L B M)) ∧ Below w.heap.size w w' := by
  have HB : Hid (Below w.heap.size w (w.alloc (.cells #[.int .i64 L, .int .i64 B, .int .i64 M] 25))) := (Below.refl _ _).alloc (Nat.le_refl _) _
  by_cases h1 : L < 1
  · rw [ckC, if_neg (by simp only [Bool.and_eq_true, decide_eq_true_eq]; omega)]
    go_enter Tryd.func15, Tryd.ntmps15
    go_wp2
    go_ret
    exact ⟨rfl, HB.out⟩
  by_cases h2 : 4096 < L
  · rw [ckC, if_neg (by simp only [Bool.and_eq_true, decide_eq_true_eq]; omega)]
    go_enter Tryd.func15, Tryd.ntmps15
    go_wp2
    go_ret
    exact ⟨rfl, HB.out⟩
  by_cases h3 : B < 1
  · rw [ckC, if_neg (by simp only [Bool.and_eq_true, decide_eq_true_eq]; omega)]
    go_enter Tryd.func15, Tryd.ntmps15
    go_wp2
    go_ret
    exact ⟨rfl, HB.out⟩
  by_cases h4 : 16 < B
  · rw [ckC, if_neg (by simp only [Bool.and_eq_true, decide_eq_true_eq]; omega)]
    go_enter Tryd.func15, Tryd.ntmps15
    go_wp2
    go_ret
    exact ⟨rfl, HB.out⟩
  by_cases h5 : M < L
  · rw [ckC, if_neg (by simp only [Bool.and_eq_true, decide_eq_true_eq]; omega)]
    go_enter Tryd.func15, Tryd.ntmps15
    go_wp2
    go_ret
    exact ⟨rfl, HB.out⟩
  by_cases h6 : 16384 < M
  · rw [ckC, if_neg (by simp only [Bool.and_eq_true, decide_eq_true_eq]; omega)]
    go_enter Tryd.func15, Tryd.ntmps15
    go_wp2
    go_ret
    exact ⟨rfl, HB.out⟩
  rw [ckC, if_pos (by simp only [Bool.and_eq_true, decide_eq_true_eq]; omega)]
  go_enter Tryd.func15, Tryd.ntmps15
  go_wp2
  go_ret
  exact ⟨rfl, HB.out⟩
end Go.Proofs.YtdmlhkphdolbeaaDoor

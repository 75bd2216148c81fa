/-
  Plain mathematics: the field of 256 that x^8 + x^7 + x^2 + x + 1 makes: powers of 2, logarithms, products bit by bit and by logarithms.
-/
namespace Go.Proofs.YtfjkdmiaagalhaaGreat

def bigP : Nat := 0xc3a251ebb65bee77f87c3e1fcc6633da6df5b99f8c4623d269f7b85c2e17c8643219cfa45229d7a8542a15c9a79048241209c7a05028140a05c1a39249e7b0582c160bc663f279ffbc5e2fd46a35d9af944a25d1ab964be673fa7dfdbd9d8d8581838241e3b259efb45a2dd5a99788442211cba653ea75f9bf9c4e27d068341a0dc5a1938a45e1b39a4de5b19b8e47e070381c0e07c06030180c0603c261f3ba5dedb5998f844221d3aa55e9b7984c2613ca65f1bb9e4fe47239dfac562bd66bf67bfe7ffc7e3fdc6e37d86c361bce67f0783c1e0fc46231dbae57e8743a1dcda5918b8643e271fbbe5fec763bde6ff47a3dddad9589878040201008040201
def bigL : Nat := 0xb73ca33a17a587f6e53eed0f60b94b2e97f85d14fb895323c1a774479a19786f44110c3726efb034d84093b356e7ab82dc301ff28c4dd3e0ccbb7d29fe62c5698616a2b64a5fece452fa5c96779973c0af250b43aa5592d7d28b1edbc4fd7ccbeb49a18572765b5191a90aae7bc31dd15a71a0ea1c7a0990081b9f599d9c9e073b39a4f53d0eb82df7138822a646186e1036ee333fb2e6812ff14cdfba28616815b55ee3f99598bf244254d68adafcca48847550a8adc2d070e9798f1a589b0638f40d2c1221456d3532b180f0de2767b4e294be41d5d9c9834faccfe88e5705f32b206c317fdd66e1bdd4c84ece8d042a6b7e65bcc7cd036a64c60263010000
/-- The power of 2, and the logarithm. -/
def pw (i : Nat) : Nat := (bigP >>> (8 * i)) % 256
def lg (a : Nat) : Nat := (bigL >>> (8 * a)) % 256
/-- The product of two polynomials, and the rest. -/
def part (a b : Nat) : Nat → Nat
  | 0 => 0
  | i + 1 => if b.testBit i then part a b i ^^^ (a <<< i) else part a b i
def red : Nat → Nat → Nat
  | 0, n => n
  | i + 1, n => if n.testBit (i + 8) then red i (n ^^^ (391 <<< i)) else red i n
def times (a b : Nat) : Nat := red 8 (part a b 8)
def dbl (a : Nat) : Nat := if a * 2 < 256 then a * 2 else (a * 2) ^^^ 391
def prod (a b : Nat) : Nat := if a = 0 then 0 else if b = 0 then 0 else pw ((lg a + lg b) % 255)

def allB (p : Nat → Bool) : Nat → Bool
  | 0 => true
  | n + 1 => p n && allB p n
theorem allB_spec (p : Nat → Bool) : ∀ n, allB p n = true → ∀ i, i < n → p i = true
  | 0, _, i, hi => absurd hi (Nat.not_lt_zero i)
  | n + 1, h, i, hi => by
    simp only [allB, Bool.and_eq_true] at h
    rcases Nat.lt_succ_iff_lt_or_eq.mp hi with h1 | h1
    · exact allB_spec p n h.2 i h1
    · rw [h1]; exact h.1

theorem c_lgpw : allB (fun i => Nat.beq (lg (pw i)) i) 255 = true := by decide +kernel
theorem c_pwlg : allB (fun a => Nat.beq (pw (lg (a + 1))) (a + 1)) 255 = true := by decide +kernel
theorem c_dbl : allB (fun i => Nat.beq (dbl (pw i)) (pw ((i + 1) % 255))) 255 = true := by decide +kernel
theorem c_pos : allB (fun i => Nat.blt 0 (pw i)) 255 = true := by decide +kernel
theorem c_lg : allB (fun i => Nat.blt (lg i) 255) 256 = true := by decide +kernel

theorem lg_pw (i : Nat) (h : i < 255) : lg (pw i) = i := Nat.eq_of_beq_eq_true (allB_spec _ _ c_lgpw i h)
theorem pw_lg (a : Nat) (h0 : a ≠ 0) (h : a < 256) : pw (lg a) = a := by
  obtain ⟨b, rfl⟩ : ∃ b, a = b + 1 := ⟨a - 1, by omega⟩
  exact Nat.eq_of_beq_eq_true (allB_spec _ _ c_pwlg b (by omega))
theorem dbl_pw (i : Nat) (h : i < 255) : dbl (pw i) = pw ((i + 1) % 255) := Nat.eq_of_beq_eq_true (allB_spec _ _ c_dbl i h)
theorem pw_lt (i : Nat) : pw i < 256 := Nat.mod_lt _ (by decide)
theorem pw_pos (i : Nat) (h : i < 255) : 0 < pw i := by have := allB_spec _ _ c_pos i h; simp [Nat.blt] at this; omega
theorem lg_lt (a : Nat) (h : a < 256) : lg a < 255 := by have := allB_spec _ _ c_lg a h; simp [Nat.blt] at this; omega
theorem pw_ne (i : Nat) : pw (i % 255) ≠ 0 := Nat.pos_iff_ne_zero.1 (pw_pos _ (Nat.mod_lt _ (by decide)))

/-! ### Products by logarithms -/
theorem prod_lt (a b : Nat) : prod a b < 256 := by
  unfold prod
  split
  · decide
  · split
    · decide
    · exact pw_lt _
theorem prod_zero (a : Nat) : prod a 0 = 0 := by unfold prod; simp
theorem zero_prod (a : Nat) : prod 0 a = 0 := by unfold prod; simp
theorem prod_ne (a b : Nat) (ha : a ≠ 0) (hb : b ≠ 0) : prod a b = pw ((lg a + lg b) % 255) := by rw [prod, if_neg ha, if_neg hb]
theorem prod_pos (a b : Nat) (ha : a ≠ 0) (hb : b ≠ 0) : prod a b ≠ 0 := by rw [prod_ne a b ha hb]; exact pw_ne _
theorem lg_prod (a b : Nat) (ha : a ≠ 0) (hb : b ≠ 0) : lg (prod a b) = (lg a + lg b) % 255 := by rw [prod_ne a b ha hb, lg_pw _ (Nat.mod_lt _ (by decide))]
theorem prod_comm (a b : Nat) : prod a b = prod b a := by
  by_cases ha : a = 0
  · subst ha; rw [prod_zero, zero_prod]
  by_cases hb : b = 0
  · subst hb; rw [prod_zero, zero_prod]
  rw [prod_ne a b ha hb, prod_ne b a hb ha, Nat.add_comm]
theorem prod_assoc (a b c : Nat) : prod (prod a b) c = prod a (prod b c) := by
  by_cases ha : a = 0
  · subst ha; rw [zero_prod, zero_prod, zero_prod]
  by_cases hb : b = 0
  · subst hb; rw [prod_zero, zero_prod, prod_zero]
  by_cases hc : c = 0
  · subst hc; rw [prod_zero, prod_zero, prod_zero]
  rw [prod_ne _ c (prod_pos a b ha hb) hc, prod_ne a _ ha (prod_pos b c hb hc), lg_prod a b ha hb, lg_prod b c hb hc]
  congr 1; omega
theorem lg_one : lg 1 = 0 := by decide +kernel
theorem pw_zero : pw 0 = 1 := by decide +kernel
theorem prod_one (a : Nat) (h : a < 256) : prod a 1 = a := by
  by_cases ha : a = 0
  · subst ha; exact zero_prod _
  rw [prod_ne a 1 ha (by decide), lg_one, Nat.add_zero, Nat.mod_eq_of_lt (lg_lt a h), pw_lg a ha h]
def quot (a b : Nat) : Nat := if a = 0 then 0 else pw ((255 + lg a - lg b) % 255)
theorem quot_lt (a b : Nat) : quot a b < 256 := by
  unfold quot
  split
  · decide
  · exact pw_lt _
theorem quot_prod (a b : Nat) (ha : a < 256) (hb : b < 256) (h0 : b ≠ 0) : prod (quot a b) b = a := by
  by_cases h : a = 0
  · subst h; exact zero_prod _
  have l1 := lg_lt a ha
  have l2 := lg_lt b hb
  have e : quot a b ≠ 0 := by rw [quot, if_neg h]; exact pw_ne _
  rw [prod_ne _ b e h0, quot, if_neg h, lg_pw _ (Nat.mod_lt _ (by decide))]
  rw [show ((255 + lg a - lg b) % 255 + lg b) % 255 = lg a by omega, pw_lg a h ha]
theorem prod_cancel (a b c : Nat) (ha : a < 256) (hc : c < 256) (hb : b < 256) (h0 : b ≠ 0) (h : prod a b = prod c b) : a = c := by
  by_cases h1 : a = 0
  · subst h1
    by_cases h2 : c = 0
    · exact h2.symm
    · rw [zero_prod] at h; exact absurd h.symm (prod_pos c b h2 h0)
  by_cases h2 : c = 0
  · subst h2; rw [zero_prod] at h; exact absurd h (prod_pos a b h1 h0)
  have l1 := lg_lt a ha
  have l2 := lg_lt c hc
  have l3 := lg_lt b hb
  have e := congrArg lg h
  rw [lg_prod a b h1 h0, lg_prod c b h2 h0] at e
  rw [← pw_lg a h1 ha, ← pw_lg c h2 hc, show lg a = lg c by omega]

/-! ### Powers -/
def power (a n : Nat) : Nat := if n = 0 then 1 else if a = 0 then 0 else pw (lg a * (n % 255) % 255)
theorem power_lt (a n : Nat) : power a n < 256 := by
  unfold power
  split
  · decide
  · split
    · decide
    · exact pw_lt _
theorem power_ne (a n : Nat) (ha : a ≠ 0) : power a n = pw (lg a * n % 255) := by
  unfold power
  by_cases h : n = 0
  · subst h; rw [if_pos rfl, Nat.mul_zero, Nat.zero_mod, pw_zero]
  · rw [if_neg h, if_neg ha, Nat.mul_mod, Nat.mod_mod, ← Nat.mul_mod]
theorem power_pos (a n : Nat) (ha : a ≠ 0) : power a n ≠ 0 := by rw [power_ne a n ha]; exact pw_ne _
theorem lg_power (a n : Nat) (ha : a ≠ 0) : lg (power a n) = lg a * n % 255 := by rw [power_ne a n ha, lg_pw _ (Nat.mod_lt _ (by decide))]
theorem power_add (a n m : Nat) (ha : a ≠ 0) : prod (power a n) (power a m) = power a (n + m) := by
  rw [prod_ne _ _ (power_pos a n ha) (power_pos a m ha), lg_power a n ha, lg_power a m ha, power_ne a _ ha, Nat.mul_add, ← Nat.add_mod]
theorem power_zero (a : Nat) : power a 0 = 1 := by simp [power]
/-- Squares: what the document's reckoning keeps. -/
theorem power_half (a n : Nat) (h : a < 256) : power a n = if n % 2 = 1 then prod a (power (prod a a) (n / 2)) else power (prod a a) (n / 2) := by
  by_cases hn : n = 0
  · subst hn; simp [power]
  by_cases ha : a = 0
  · subst ha
    rw [zero_prod, zero_prod, power, if_neg hn, if_pos rfl]
    split
    · rfl
    · rw [power, if_neg (by omega), if_pos rfl]
  have hs : lg (prod a a) * (n / 2) % 255 = lg a * (2 * (n / 2)) % 255 := by
    rw [lg_prod a a ha ha, Nat.mul_mod, Nat.mod_mod, ← Nat.mul_mod]
    congr 1
    rw [← Nat.two_mul, Nat.mul_comm 2 (lg a), Nat.mul_assoc]
  have e2 := power_ne (prod a a) (n / 2) (prod_pos a a ha ha)
  rw [hs, ← power_ne a _ ha] at e2
  split
  · rename_i h1
    have e1 : power a 1 = a := by rw [power_ne a 1 ha, Nat.mul_one, Nat.mod_eq_of_lt (lg_lt a h), pw_lg a ha h]
    have e3 := power_add a 1 (2 * (n / 2)) ha
    rw [e1, show 1 + 2 * (n / 2) = n by omega] at e3
    rw [e2, e3]
  · rename_i h1
    rw [e2, show 2 * (n / 2) = n by omega]

/-! ### Products bit by bit are linear -/
theorem part_xor_l (a c b : Nat) : ∀ i, part (a ^^^ c) b i = part a b i ^^^ part c b i
  | 0 => by simp [part]
  | i + 1 => by
    simp only [part]
    split
    · rw [part_xor_l a c b i, Nat.shiftLeft_xor_distrib]
      simp only [Nat.xor_assoc]
      congr 1
      rw [← Nat.xor_assoc, ← Nat.xor_assoc, Nat.xor_comm (part c b i) (a <<< i)]
    · exact part_xor_l a c b i
theorem part_xor_r (a b c : Nat) : ∀ i, part a (b ^^^ c) i = part a b i ^^^ part a c i
  | 0 => by simp [part]
  | i + 1 => by
    simp only [part, Nat.testBit_xor, part_xor_r a b c i]
    cases b.testBit i <;> cases c.testBit i
    · simp
    · simp [Nat.xor_assoc]
    · simp only [Bool.xor_false, if_true, Bool.false_eq_true, if_false]
      rw [Nat.xor_assoc, Nat.xor_assoc, Nat.xor_comm (part a c i)]
    · simp only [Bool.xor_true, Bool.not_true, Bool.false_eq_true, if_false, if_true]
      rw [Nat.xor_assoc, Nat.xor_comm (a <<< i), Nat.xor_assoc, Nat.xor_self, Nat.xor_zero]
theorem red_xor : ∀ i x y, red i (x ^^^ y) = red i x ^^^ red i y
  | 0, _, _ => rfl
  | i + 1, x, y => by
    simp only [red, Nat.testBit_xor]
    cases x.testBit (i + 8) <;> cases y.testBit (i + 8)
    · simp [red_xor i]
    · simp [red_xor i, Nat.xor_assoc]
    · simp only [Bool.xor_false, if_true, Bool.false_eq_true, if_false]
      rw [← red_xor i, Nat.xor_assoc, Nat.xor_assoc, Nat.xor_comm y]
    · simp only [Bool.xor_true, Bool.not_true, Bool.false_eq_true, if_false, if_true]
      rw [← red_xor i]
      congr 1
      rw [Nat.xor_assoc, Nat.xor_comm (391 <<< i), Nat.xor_assoc, Nat.xor_self, Nat.xor_zero]
theorem times_xor_l (a c b : Nat) : times (a ^^^ c) b = times a b ^^^ times c b := by rw [times, part_xor_l, red_xor]; rfl
theorem times_xor_r (a b c : Nat) : times a (b ^^^ c) = times a b ^^^ times a c := by rw [times, part_xor_r, red_xor]; rfl

/-- What is linear is told by the powers of 2 alone. -/
theorem linear_eq (f g : Nat → Nat) (hf : ∀ x y, f (x ^^^ y) = f x ^^^ f y) (hg : ∀ x y, g (x ^^^ y) = g x ^^^ g y) :
    ∀ k, (∀ i, i < k → f (2 ^ i) = g (2 ^ i)) → ∀ a, a < 2 ^ k → f a = g a
  | 0, _, a, ha => by
    obtain rfl : a = 0 := by simpa using ha
    have h1 := hf 0 0
    have h2 := hg 0 0
    simp only [Nat.xor_self] at h1 h2
    rw [h1, h2]
  | k + 1, h, a, ha => by
    have ih := linear_eq f g hf hg k (fun i hi => h i (by omega))
    by_cases h1 : a < 2 ^ k
    · exact ih a h1
    · have e : a = 2 ^ k ^^^ (a ^^^ 2 ^ k) := by rw [Nat.xor_comm a, ← Nat.xor_assoc, Nat.xor_self, Nat.zero_xor]
      have hlt : a ^^^ 2 ^ k < 2 ^ k := by
        obtain ⟨r, hr, hr2⟩ : ∃ r, a = 2 ^ k + r ∧ r < 2 ^ k := ⟨a - 2 ^ k, by omega, by rw [Nat.pow_succ] at ha; omega⟩
        have e2 : 2 ^ k + r = 2 ^ k ^^^ r := by
          apply Nat.eq_of_testBit_eq
          intro i
          rw [Nat.testBit_xor]
          have e3 := Nat.testBit_two_pow_mul_add 1 hr2 i
          rw [Nat.mul_one] at e3
          rw [e3, Nat.testBit_two_pow]
          by_cases hi : i < k
          · rw [if_pos hi, show decide (k = i) = false by simp; omega, Bool.false_xor]
          · rw [if_neg hi, Nat.testBit_lt_two_pow (Nat.lt_of_lt_of_le hr2 (Nat.pow_le_pow_right (by decide) (Nat.le_of_not_lt hi))), Bool.xor_false]
            by_cases h5 : i = k
            · subst h5; simp
            · rw [show i - k = (i - k - 1) + 1 by omega]
              simp [Nat.testBit_succ]
              omega
        rw [hr, e2, Nat.xor_comm (2 ^ k), Nat.xor_assoc, Nat.xor_self, Nat.xor_zero]
        exact hr2
      rw [e, hf, hg, h k (by omega), ih _ hlt]

/-- Doubling, linear. -/
def dbl2 (x : Nat) : Nat := red 8 (x <<< 1)
theorem dbl2_xor (x y : Nat) : dbl2 (x ^^^ y) = dbl2 x ^^^ dbl2 y := by rw [dbl2, Nat.shiftLeft_xor_distrib, red_xor]; rfl
theorem c_dbl2 : allB (fun i => Nat.beq (dbl2 i) (dbl i)) 256 = true := by decide +kernel
theorem dbl2_eq (i : Nat) (h : i < 256) : dbl2 i = dbl i := Nat.eq_of_beq_eq_true (allB_spec _ _ c_dbl2 i h)
theorem c_basis : allB (fun i => allB (fun j => Nat.beq (times (dbl2 (2 ^ i)) (2 ^ j)) (dbl2 (times (2 ^ i) (2 ^ j)))) 8) 8 = true := by decide +kernel
theorem times_dbl (a b : Nat) (ha : a < 256) (hb : b < 256) : times (dbl2 a) b = dbl2 (times a b) := by
  refine linear_eq (fun a => times (dbl2 a) b) (fun a => dbl2 (times a b)) (fun x y => by simp only [dbl2_xor, times_xor_l]) (fun x y => by simp only [dbl2_xor, times_xor_l]) 8 (fun i hi => ?_) a (by omega)
  refine linear_eq (fun b => times (dbl2 (2 ^ i)) b) (fun b => dbl2 (times (2 ^ i) b)) (fun x y => by simp only [times_xor_r]) (fun x y => by simp only [dbl2_xor, times_xor_r]) 8 (fun j hj => ?_) b (by omega)
  exact Nat.eq_of_beq_eq_true (allB_spec _ _ (allB_spec _ _ c_basis i hi) j hj)
theorem c_one : allB (fun b => Nat.beq (times 1 b) b) 256 = true := by decide +kernel
theorem times_one_l (b : Nat) (hb : b < 256) : times 1 b = b := Nat.eq_of_beq_eq_true (allB_spec _ _ c_one b hb)
theorem times_zero_l (b : Nat) : times 0 b = 0 := by
  have h := times_xor_l 0 0 b
  simpa only [Nat.xor_self] using h
theorem times_zero_r (b : Nat) : times b 0 = 0 := by
  have h := times_xor_r b 0 0
  simpa only [Nat.xor_self] using h
theorem times_pw (b : Nat) (hb : b < 256) (h0 : b ≠ 0) : ∀ n, n < 255 → times (pw n) b = pw ((n + lg b) % 255)
  | 0, _ => by rw [pw_zero, times_one_l b hb, Nat.zero_add, Nat.mod_eq_of_lt (lg_lt b hb), pw_lg b h0 hb]
  | n + 1, h => by
    have ih := times_pw b hb h0 n (by omega)
    have e : pw (n + 1) = dbl2 (pw n) := by rw [dbl2_eq _ (pw_lt _), dbl_pw n (by omega), Nat.mod_eq_of_lt h]
    rw [e, times_dbl _ _ (pw_lt _) hb, ih, dbl2_eq _ (pw_lt _), dbl_pw _ (Nat.mod_lt _ (by decide))]
    congr 1
    omega
theorem times_eq (a b : Nat) (ha : a < 256) (hb : b < 256) : times a b = prod a b := by
  by_cases h1 : a = 0
  · subst h1; rw [times_zero_l, zero_prod]
  by_cases h2 : b = 0
  · subst h2; rw [times_zero_r, prod_zero]
  rw [prod_ne a b h1 h2, ← times_pw b hb h2 (lg a) (lg_lt a ha), pw_lg a h1 ha]
theorem prod_xor (a b c : Nat) (ha : a < 256) (hb : b < 256) (hc : c < 256) : prod a (b ^^^ c) = prod a b ^^^ prod a c := by
  have hx : b ^^^ c < 256 := Nat.xor_lt_two_pow (n := 8) hb hc
  rw [← times_eq a _ ha hx, times_xor_r, times_eq a b ha hb, times_eq a c ha hc]
theorem xor_prod (a b c : Nat) (ha : a < 256) (hb : b < 256) (hc : c < 256) : prod (a ^^^ b) c = prod a c ^^^ prod b c := by
  rw [prod_comm, prod_xor c a b hc ha hb, prod_comm c a, prod_comm c b]

/-! ### The tables as they are made -/
def tab : Nat → Nat → Nat
  | 0, _ => 0
  | n + 1, i => if i = 510 + pw n then n else if i = n + 255 then pw n else if i = n then pw n else tab n i
theorem tab_spec (i : Nat) : ∀ n, n ≤ 255 → tab n i = if i < n then pw i else if 255 ≤ i ∧ i < 255 + n then pw (i - 255) else if 510 < i ∧ i < 766 ∧ lg (i - 510) < n then lg (i - 510) else 0
  | 0, _ => by rw [tab, if_neg (by omega), if_neg (by omega), if_neg (by omega)]
  | n + 1, h => by
    have ih := tab_spec i n (by omega)
    have h1 := pw_pos n (by omega)
    have h2 := pw_lt n
    have h3 := lg_pw n (by omega)
    rw [tab]
    by_cases c1 : i = 510 + pw n
    · rw [if_pos c1, if_neg (by omega), if_neg (by omega), show i - 510 = pw n by omega, h3, if_pos ⟨by omega, by omega, by omega⟩]
    rw [if_neg c1]
    by_cases c2 : i = n + 255
    · rw [if_pos c2, if_neg (by omega), if_pos ⟨by omega, by omega⟩, show i - 255 = n by omega]
    rw [if_neg c2]
    by_cases c3 : i = n
    · rw [if_pos c3, if_pos (by omega), c3]
    rw [if_neg c3, ih]
    by_cases c4 : i < n
    · rw [if_pos c4, if_pos (by omega)]
    rw [if_neg c4, if_neg (show ¬ i < n + 1 by omega)]
    by_cases c5 : 255 ≤ i ∧ i < 255 + n
    · rw [if_pos c5, if_pos (show 255 ≤ i ∧ i < 255 + (n + 1) by omega)]
    rw [if_neg c5, if_neg (show ¬ (255 ≤ i ∧ i < 255 + (n + 1)) by omega)]
    by_cases c6 : 510 < i ∧ i < 766 ∧ lg (i - 510) < n
    · rw [if_pos c6, if_pos ⟨c6.1, c6.2.1, by omega⟩]
    rw [if_neg c6, if_neg]
    rintro ⟨d1, d2, d3⟩
    have d4 : lg (i - 510) = n := by
      have : ¬ lg (i - 510) < n := fun h => c6 ⟨d1, d2, h⟩
      omega
    have d5 := pw_lg (i - 510) (by omega) (by omega)
    rw [d4] at d5
    omega
theorem lg_zero : lg 0 = 0 := by decide +kernel
theorem tab_pw (i : Nat) (h : i < 510) : tab 255 i = pw (i % 255) := by
  rw [tab_spec i 255 (Nat.le_refl _)]
  by_cases h1 : i < 255
  · rw [if_pos h1, Nat.mod_eq_of_lt h1]
  · rw [if_neg h1, if_pos (by omega), show i % 255 = i - 255 by omega]
theorem tab_lg (a : Nat) (h : a < 256) : tab 255 (510 + a) = lg a := by
  rw [tab_spec _ 255 (Nat.le_refl _), if_neg (by omega), if_neg (by omega), show 510 + a - 510 = a by omega]
  by_cases h1 : a = 0
  · subst h1; rw [if_neg (by omega), lg_zero]
  · rw [if_pos ⟨by omega, by omega, lg_lt a h⟩]
theorem tab_lt (n i : Nat) (hn : n ≤ 255) : tab n i < 256 := by
  induction n with
  | zero => simp [tab]
  | succ n ih =>
    simp only [tab]
    split
    · omega
    · split
      · exact pw_lt _
      · split
        · exact pw_lt _
        · exact ih (by omega)
end Go.Proofs.YtfjkdmiaagalhaaGreat

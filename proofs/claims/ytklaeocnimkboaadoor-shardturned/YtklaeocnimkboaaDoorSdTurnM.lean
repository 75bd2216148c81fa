/-
  SdTurnM: texts of earlier layers, laid over this program.
-/
import Derived.Test.YtklaeocnimkboaaDoorSdText
namespace Go.Proofs.YtklaeocnimkboaaDoor
open Go.RowKit Go.Lib

/-- The bit q of some bytes, turned. -/
def tbit (L : List UInt8) (q : Nat) : List UInt8 := L.set (q / 8) (L.getD (q / 8) 0 ^^^ UInt8.ofNat (2 ^ (q % 8)))
theorem tbit_length (L : List UInt8) (q : Nat) : (tbit L q).length = L.length := List.length_set
theorem pow8 (q : Nat) : 2 ^ (q % 8) < 256 := Nat.lt_of_le_of_lt (Nat.pow_le_pow_right (by decide) (show q % 8 ≤ 7 by omega)) (by decide)
theorem leN_tbit {L : List UInt8} {q : Nat} (h : q < 8 * L.length) : leN (tbit L q) = leN L ^^^ 2 ^ q := by
  apply Nat.eq_of_testBit_eq
  intro i
  rw [leN_bit, Nat.testBit_xor, leN_bit, Nat.testBit_two_pow, tbit]
  by_cases e : i / 8 = q / 8
  · rw [e, List.getD_eq_getElem?_getD, List.getElem?_set_self (by omega), Option.getD_some, UInt8.toNat_xor, Nat.testBit_xor, UInt8.toNat_ofNat', Nat.mod_eq_of_lt (pow8 q), Nat.testBit_two_pow]
    by_cases e2 : q = i
    · subst e2
      simp
    · rw [decide_eq_false e2, decide_eq_false (show ¬ q % 8 = i % 8 by omega)]
  · rw [List.getD_eq_getElem?_getD, List.getElem?_set_ne (fun e2 => e e2.symm), ← List.getD_eq_getElem?_getD, decide_eq_false (show ¬ q = i by intro e2; subst e2; exact e rfl), Bool.xor_false]

/-- So many bits of p, from a place on, within N bits. -/
def pE (p first N j : Nat) : Nat := p % 2 ^ j * 2 ^ first % 2 ^ N
theorem pE_bit (p first N j i : Nat) : (pE p first N j).testBit i = (decide (i < N) && (decide (first ≤ i) && (decide (i - first < j) && p.testBit (i - first)))) := by
  rw [pE, Nat.testBit_mod_two_pow, Nat.testBit_mul_two_pow, Nat.testBit_mod_two_pow]
theorem pE_zero (p first N : Nat) : pE p first N 0 = 0 := by simp [pE, Nat.mod_one]
theorem pE_all {p : Nat} (h : p < 4294967296) (first N : Nat) : pE p first N 32 = p * 2 ^ first % 2 ^ N := by
  rw [pE, Nat.mod_eq_of_lt (show p < 2 ^ 32 from h)]
theorem pE_on {p first N j : Nat} (hb : p.testBit j = true) (h : first + j < N) : pE p first N (j + 1) = pE p first N j ^^^ 2 ^ (first + j) := by
  apply Nat.eq_of_testBit_eq
  intro i
  rw [pE_bit, Nat.testBit_xor, pE_bit, Nat.testBit_two_pow]
  by_cases e : first + j = i
  · subst e
    simp [h, hb]
  · rw [decide_eq_false e, Bool.xor_false]
    by_cases h1 : first ≤ i
    · rw [show decide (i - first < j + 1) = decide (i - first < j) by
        by_cases h2 : i - first < j
        · rw [decide_eq_true h2, decide_eq_true (by omega)]
        · rw [decide_eq_false h2, decide_eq_false (by omega)]]
    · simp [h1]
theorem pE_off {p first N j : Nat} (h : p.testBit j = false ∨ N ≤ first + j) : pE p first N (j + 1) = pE p first N j := by
  apply Nat.eq_of_testBit_eq
  intro i
  rw [pE_bit, pE_bit]
  by_cases e : first + j = i
  · subst e
    rcases h with h | h
    · simp [h]
    · simp [show ¬ first + j < N by omega]
  · by_cases h1 : first ≤ i
    · rw [show decide (i - first < j + 1) = decide (i - first < j) by
        by_cases h2 : i - first < j
        · rw [decide_eq_true h2, decide_eq_true (by omega)]
        · rw [decide_eq_false h2, decide_eq_false (by omega)]]
    · simp [h1]
theorem xor_cancel (a b : Nat) : a ^^^ (a ^^^ b) = b := by rw [← Nat.xor_assoc, Nat.xor_self, Nat.zero_xor]

/-- What the program's test of a bit comes to. -/
theorem test_bit {p j : Nat} (hp : p < 4294967296) : (bits .and .u32 ((p : Int) / 2 ^ j) 1 == 1) = p.testBit j := by
  have h1 : (p : Int) / 2 ^ j = ((p / 2 ^ j : Nat) : Int) := by simp
  have h2 : p / 2 ^ j < 4294967296 := Nat.lt_of_le_of_lt (Nat.div_le_self _ _) hp
  rw [h1, show (1 : Int) = ((1 : Nat) : Int) from rfl, and_u32' _ _ h2 (by decide), Nat.and_one_is_mod, Nat.testBit_eq_decide_div_mod_eq]
  by_cases h : p / 2 ^ j % 2 = 1
  · rw [h, decide_eq_true rfl]
    rfl
  · rw [show p / 2 ^ j % 2 = 0 by omega]
    rfl

/-- The bytes behind so many rounds. -/
structure TL (L0 L : List UInt8) (p first j : Nat) : Prop where
  len : L.length = L0.length
  num : leN L = leN L0 ^^^ pE p first (8 * L0.length) j
theorem TL.start (L0 : List UInt8) (p first : Nat) : TL L0 L0 p first 0 := ⟨rfl, by rw [pE_zero, Nat.xor_zero]⟩
theorem TL.on {L0 L : List UInt8} {p first j : Nat} (h : TL L0 L p first j) (hb : p.testBit j = true) (hq : first + j < 8 * L0.length) : TL L0 (tbit L (first + j)) p first (j + 1) :=
  ⟨by rw [tbit_length, h.len], by rw [leN_tbit (by rw [h.len]; exact hq), h.num, pE_on hb hq, Nat.xor_assoc]⟩
theorem TL.off {L0 L : List UInt8} {p first j : Nat} (h : TL L0 L p first j) (hb : p.testBit j = false ∨ 8 * L0.length ≤ first + j) : TL L0 L p first (j + 1) := ⟨h.len, by rw [pE_off hb, h.num]⟩
theorem TL.found {x : SX} {L : List UInt8} {p first : Nat} (h : TL (fullL x) L p first 32) (hp : p < 4294967296) (hf : first ≤ 8 * (fullL x).length) (hd : decOK L) : L = fullL x := by
  refine turned_found h.len hp (by rw [h.len]; exact hf) ?_ hd
  rw [leN_xor _ _ h.len.symm, h.num, xor_cancel, pE_all hp, h.len]
end Go.Proofs.YtklaeocnimkboaaDoor


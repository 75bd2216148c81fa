/-
  What stands behind the bytes: plain mathematics.
-/
import Derived.Test.YtgpdmboeompncaaDoorHash
namespace Go.Proofs.YtgpdmboeompncaaDoor
open Go.RowKit Go.Lib

theorem fixedOf_length (x : Nat) : ∀ k, (fixedOf x k).length = k
  | 0 => rfl
  | k + 1 => by simp [fixedOf, fixedOf_length x k]

theorem block_at (s t : List UInt8) (q : Nat) (h : 64 * q ≤ s.length) : block (s ++ t) q = (s.drop (64 * q) ++ t).take 64 := by
  rw [block, List.drop_append_of_le_length h]

section
variable (s : List UInt8)
theorem pad_low (h : s.length % 64 ≤ 55) : (padded s).length / 64 = s.length / 64 + 1 ∧
    block (padded s) (s.length / 64) = s.drop (64 * (s.length / 64)) ++ (128 :: List.replicate (55 - s.length % 64) 0) ++ fixedOf (8 * s.length) 8 := by
  have e : (119 - s.length % 64) % 64 = 55 - s.length % 64 := by omega
  refine ⟨?_, ?_⟩
  · rw [padded, pad, e]
    simp only [List.length_append, List.length_cons, List.length_replicate, fixedOf_length]
    omega
  · rw [padded, block_at _ _ _ (by omega), pad, e]
    rw [List.take_of_length_le (by simp only [List.length_append, List.length_cons, List.length_replicate, fixedOf_length, List.length_drop]; omega)]
    simp
theorem pad_high (h : ¬ s.length % 64 ≤ 55) : (padded s).length / 64 = s.length / 64 + 1 + 1 ∧
    block (padded s) (s.length / 64) = s.drop (64 * (s.length / 64)) ++ (128 :: List.replicate (63 - s.length % 64) 0) ∧
    block (padded s) (s.length / 64 + 1) = List.replicate 56 0 ++ fixedOf (8 * s.length) 8 := by
  have e : (119 - s.length % 64) % 64 = (63 - s.length % 64) + 56 := by omega
  have hl : (s.drop (64 * (s.length / 64)) ++ (128 :: List.replicate (63 - s.length % 64) (0 : UInt8))).length = 64 := by
    simp only [List.length_append, List.length_cons, List.length_replicate, List.length_drop]
    omega
  have hp : padded s = (s ++ (128 :: List.replicate (63 - s.length % 64) 0)) ++ (List.replicate 56 0 ++ fixedOf (8 * s.length) 8) := by
    rw [padded, pad, e, ← List.replicate_append_replicate]
    simp
  have hls : (s ++ (128 :: List.replicate (63 - s.length % 64) (0 : UInt8))).length = 64 * (s.length / 64 + 1) := by
    simp only [List.length_append, List.length_cons, List.length_replicate]
    omega
  refine ⟨?_, ?_, ?_⟩
  · rw [hp, List.length_append, hls]
    simp only [List.length_append, List.length_replicate, fixedOf_length]
    omega
  · rw [hp, block_prefix _ _ _ (by omega), block_at _ _ _ (by omega)]
    exact List.take_of_length_le (by omega)
  · rw [hp, block_at _ _ _ (by omega), List.drop_of_length_le (by omega), List.nil_append]
    exact List.take_of_length_le (by simp [fixedOf_length])

/-- The sum's words, by the last block. -/
theorem digest_low (h : s.length % 64 ≤ 55) : digestV s = takeV (blocks s (s.length / 64)) (s.drop (64 * (s.length / 64)) ++ (128 :: List.replicate (55 - s.length % 64) 0) ++ fixedOf (8 * s.length) 8) := by
  rw [digestV, (pad_low s h).1, blocks, (pad_low s h).2, padded, blocks_prefix s _ _ (by omega)]
/-- The sum's words, by the last two blocks. -/
theorem digest_high (h : ¬ s.length % 64 ≤ 55) : digestV s = takeV (takeV (blocks s (s.length / 64)) (s.drop (64 * (s.length / 64)) ++ (128 :: List.replicate (63 - s.length % 64) 0))) (List.replicate 56 0 ++ fixedOf (8 * s.length) 8) := by
  rw [digestV, (pad_high s h).1, blocks, blocks, (pad_high s h).2.1, (pad_high s h).2.2, padded, blocks_prefix s _ _ (by omega)]
end

/-- The block, its last i bytes those of a number. -/
def endBl (base : List UInt8) (N i : Nat) : List UInt8 := base.take (64 - i) ++ fixedOf N i
theorem endBl_length (base : List UInt8) (N i : Nat) (h : base.length = 64) (hi : i ≤ 64) : (endBl base N i).length = 64 := by
  simp [endBl, fixedOf_length, h]; omega
theorem endBl_set (base : List UInt8) (N i : Nat) (h : base.length = 64) (hi : i < 64) : (endBl base N i).set (63 - i) (N / 256 ^ i % 256).toUInt8 = endBl base N (i + 1) := by
  have e : base.take (64 - i) = base.take (63 - i) ++ [base[63 - i]'(by omega)] := by
    rw [show 64 - i = 63 - i + 1 by omega, List.take_succ_eq_append_getElem (by omega)]
  have hl : (base.take (63 - i)).length = 63 - i := by rw [List.length_take]; omega
  rw [endBl, endBl, e, List.append_assoc, List.set_append_right _ _ (by omega), show 64 - (i + 1) = 63 - i by omega, hl, Nat.sub_self]
  rfl

end Go.Proofs.YtgpdmboeompncaaDoor

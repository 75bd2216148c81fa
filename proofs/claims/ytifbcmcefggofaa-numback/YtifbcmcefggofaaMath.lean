/-
  Plain mathematics of short and fixed numbers: nothing of the program is named here.
-/
import Derived.Lib.VarintMem
namespace Go.Proofs.Ytifbcmcefggofaa
open Go.Lib

theorem uvarint_nine {x : Nat} (h : x ≤ 9223372036854775807) : (uvarint x).length ≤ 9 :=
  uvarint_length 8 x (Nat.lt_of_le_of_lt h (by decide))

/-- The bytes of a fixed number: the highest first. -/
def fixedOf (x : Nat) : Nat → List UInt8
  | 0 => []
  | k + 1 => (x / 256 ^ k % 256).toUInt8 :: fixedOf x k

theorem fixedOf_length (x : Nat) : ∀ k, (fixedOf x k).length = k
  | 0 => rfl
  | k + 1 => by simp [fixedOf, fixedOf_length x k]

theorem fixedOf_snoc : ∀ (k x : Nat), fixedOf x (k + 1) = fixedOf (x / 256) k ++ [(x % 256).toUInt8]
  | 0, x => by simp [fixedOf]
  | k + 1, x => by
    rw [fixedOf, fixedOf_snoc k x]
    have h1 : x / 256 ^ (k + 1) = x / 256 / 256 ^ k := by rw [Nat.div_div_eq_div_mul, Nat.pow_succ, Nat.mul_comm]
    rw [h1, fixedOf]
    rfl

/-- A string of bytes. -/
def strOf (l : List UInt8) : ByteArray := ⟨l.toArray⟩
theorem strOf_size (l : List UInt8) : (strOf l).size = l.length := by simp [strOf, ByteArray.size]
theorem strOf_toList (l : List UInt8) : (strOf l).data.toList = l := by simp [strOf]

theorem byteCells_one (l : List UInt8) : ∀ u ∈ byteCells l, u.oneCell' = true := by
  intro u hu
  obtain ⟨_, _, rfl⟩ := List.mem_map.1 hu
  rfl

end Go.Proofs.Ytifbcmcefggofaa

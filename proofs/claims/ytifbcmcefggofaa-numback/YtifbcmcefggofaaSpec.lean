/-
  What stands ahead of a reader, as plain functions: nothing of the program is named here.
-/
import Derived.Test.YtifbcmcefggofaaMath
namespace Go.Proofs.Ytifbcmcefggofaa
open Go.Lib

/-- What a look ahead finds: a number or a text, how many bytes it takes, and a code (0: it is right). -/
structure Ah where
  num : Nat
  txt : ByteArray
  long : Nat
  code : Int

def Ah.bad (c : Int) : Ah := ⟨0, ⟨#[]⟩, 0, c⟩

def bytesA (s : ByteArray) (p : Nat) (n : Int) : Ah :=
  if n < 0 then .bad 1 else if (s.size : Int) - p < n then .bad 10 else ⟨0, s.extract p (p + n.toNat), n.toNat, 0⟩

def numOf (l : List UInt8) : Nat := l.foldl (fun a c => a * 256 + c.toNat) 0

def fixedA (s : ByteArray) (p : Nat) (n : Int) : Ah :=
  if n < 1 ∨ 7 < n then .bad 1 else if (s.size : Int) - p < n then .bad 10 else ⟨numOf (s.extract p (p + n.toNat)).data.toList, ⟨#[]⟩, n.toNat, 0⟩

/-- A short number read from place i on, n read so far; at most 'fuel' bytes more. -/
def shortGo (most : Int) : Nat → Nat → Nat → List UInt8 → Ah
  | 0, _, _, _ => .bad 3
  | _ + 1, _, _, [] => .bad 10
  | f + 1, i, n, c :: r =>
    if 128 ≤ c.toNat then shortGo most f (i + 1) (n + c.toNat % 128 * 2 ^ (7 * i)) r
    else if c.toNat = 0 ∧ 0 < i then .bad 3
    else if most < (n + c.toNat % 128 * 2 ^ (7 * i) : Nat) then .bad 2
    else ⟨n + c.toNat % 128 * 2 ^ (7 * i), ⟨#[]⟩, i + 1, 0⟩

def shortA (s : ByteArray) (p : Nat) (most : Int) : Ah := shortGo most 9 0 0 (s.data.toList.drop p)

def textA (s : ByteArray) (p : Nat) (most : Int) : Ah :=
  if (shortA s p most).code ≠ 0 then .bad (shortA s p most).code
  else if (s.size : Int) - p - (shortA s p most).long < (shortA s p most).num then .bad 10
  else ⟨0, s.extract (p + (shortA s p most).long) (p + (shortA s p most).long + (shortA s p most).num), (shortA s p most).long + (shortA s p most).num, 0⟩

theorem numOf_snoc (l : List UInt8) (c : UInt8) : numOf (l ++ [c]) = numOf l * 256 + c.toNat := by simp [numOf]
theorem numOf_lt_rev : ∀ l : List UInt8, numOf l.reverse < 256 ^ l.length
  | [] => by simp [numOf]
  | c :: l => by
    rw [List.reverse_cons, numOf_snoc, List.length_cons, Nat.pow_succ]
    have h1 := numOf_lt_rev l
    have h2 := c.toNat_lt
    omega
theorem numOf_lt (l : List UInt8) : numOf l < 256 ^ l.length := by
  have h := numOf_lt_rev l.reverse
  rwa [List.reverse_reverse, List.length_reverse] at h
theorem take_snoc (s : ByteArray) (k : Nat) (h : k < s.size) : s.data.toList.take (k + 1) = s.data.toList.take k ++ [s[k]] := by
  rw [List.take_succ_eq_append_getElem (by simpa using h)]; rfl
theorem drop_cons (s : ByteArray) (k : Nat) (h : k < s.size) : s.data.toList.drop k = s[k] :: s.data.toList.drop (k + 1) := by
  rw [List.drop_eq_getElem_cons (by simpa using h)]; rfl
theorem numOf_take (t : ByteArray) (j : Nat) (h : j < t.size) : numOf (t.data.toList.take (j + 1)) = numOf (t.data.toList.take j) * 256 + t[j].toNat := by
  rw [take_snoc t j h, numOf_snoc]
theorem numOf_take_lt (t : ByteArray) (j k : Nat) (h : j ≤ k) : numOf (t.data.toList.take j) < 256 ^ k :=
  Nat.lt_of_lt_of_le (numOf_lt _) (Nat.pow_le_pow_right (by decide) (Nat.le_trans (List.length_take_le _ _) h))

theorem take_all (t : ByteArray) (j : Nat) (h : t.size = j) : t.data.toList.take j = t.data.toList :=
  List.take_of_length_le (by rw [← h]; exact Nat.le_of_eq (by simp))

theorem wraps_i64 (n : Int) (h₀ : 0 ≤ n) (h₁ : n < 2 ^ 63) : IntKind.i64.wrap n = n := by rw [IntKind.wrap_i64]; omega
theorem or_i64 (a b : Nat) (ha : a < 2 ^ 63) (hb : b < 2 ^ 63) : bits .or .i64 (a : Int) (b : Int) = ((a ||| b : Nat) : Int) :=
  (bits_nat .i64 63 (by decide) wraps_i64 a b ha hb).2
theorem or_high (a c i : Nat) (hc : c < 2 ^ i) (ha : a * 2 ^ i < 2 ^ 63) (hc63 : c < 2 ^ 63) : bits .or .i64 ((a * 2 ^ i : Nat) : Int) (c : Int) = ((a * 2 ^ i + c : Nat) : Int) := by
  rw [or_i64 _ _ ha hc63, Nat.mul_comm, Nat.two_pow_add_eq_or_of_lt hc]
theorem or_low (a c i : Nat) (hc : c < 2 ^ i) (ha : a * 2 ^ i < 2 ^ 63) (hc63 : c < 2 ^ 63) : bits .or .i64 (c : Int) ((a * 2 ^ i : Nat) : Int) = ((c + a * 2 ^ i : Nat) : Int) := by
  rw [or_i64 _ _ hc63 ha, Nat.or_comm, Nat.mul_comm, ← Nat.two_pow_add_eq_or_of_lt hc, Nat.add_comm]

set_option maxRecDepth 100000 in
theorem andNot_fin : ∀ a : Fin 256, bits .andNot .u8 (a.val : Int) 128 = ((a.val % 128 : Nat) : Int) := by decide +kernel
set_option maxRecDepth 100000 in
theorem and_fin : ∀ a : Fin 256, (bits .and .u8 (a.val : Int) 128 != 0) = decide (128 ≤ a.val) := by decide +kernel
theorem andNot_byte (c : UInt8) : bits .andNot .u8 (c.toNat : Int) 128 = ((c.toNat % 128 : Nat) : Int) := andNot_fin ⟨c.toNat, c.toNat_lt⟩
theorem and_byte (c : UInt8) : (bits .and .u8 (c.toNat : Int) 128 != 0) = decide (128 ≤ c.toNat) := and_fin ⟨c.toNat, c.toNat_lt⟩

/-- What one byte of a short number does: its seven bits, at their place, and with what was read ahead of it. -/
theorem short_byte (c : UInt8) (j m : Nat) (hj : j < 9) (hm : m < 2 ^ (7 * j)) : ∃ v y z : Nat, v = c.toNat % 128 ∧ v < 128 ∧ y = v * 2 ^ (7 * j) ∧ y ≤ 9223372036854775807 ∧ z = m + c.toNat % 128 * 2 ^ (7 * j) ∧ z = m + y ∧
    z < 2 ^ (7 * (j + 1)) ∧ z ≤ 9223372036854775807 ∧ bits .or .i64 (m : Int) (y : Int) = (z : Int) := by
  have hv : c.toNat % 128 < 128 := Nat.mod_lt _ (by decide)
  have hp : 2 ^ (7 * (j + 1)) = 128 * 2 ^ (7 * j) := by rw [Nat.mul_add, Nat.pow_add, Nat.mul_comm]
  have hle : 2 ^ (7 * (j + 1)) ≤ 2 ^ 63 := Nat.pow_le_pow_right (by decide) (by omega)
  have hy : c.toNat % 128 * 2 ^ (7 * j) + 2 ^ (7 * j) ≤ 128 * 2 ^ (7 * j) := by
    have := Nat.mul_le_mul_right (2 ^ (7 * j)) (show c.toNat % 128 + 1 ≤ 128 by omega)
    rw [Nat.add_mul] at this
    omega
  have h0 : 0 < 2 ^ (7 * j) := Nat.two_pow_pos _
  refine ⟨_, _, _, rfl, hv, rfl, ?_, rfl, rfl, ?_, ?_, ?_⟩
  · omega
  · omega
  · omega
  · rw [or_low _ _ (7 * j) hm (by omega) (by omega)]

/-- A short number ahead: it is refused, or it is found, within the bytes that are there. -/
theorem shortGo_cases (most : Int) : ∀ (f i n : Nat) (l : List UInt8), i + f = 9 → n < 2 ^ (7 * i) →
    (∃ c : Int, c ≠ 0 ∧ shortGo most f i n l = .bad c) ∨ (∃ num long : Nat, shortGo most f i n l = ⟨num, ⟨#[]⟩, long, 0⟩ ∧ i + 1 ≤ long ∧ long ≤ i + l.length ∧ num ≤ 9223372036854775807 ∧ (num : Int) ≤ most)
  | 0, _, _, _, _, _ => .inl ⟨3, by decide, rfl⟩
  | _ + 1, _, _, [], _, _ => .inl ⟨10, by decide, rfl⟩
  | f + 1, i, n, c :: r, hi, hn => by
    obtain ⟨_, _, z, _, _, _, _, hz, _, hlt, hmax, _⟩ := short_byte c i n (by omega) hn
    rw [shortGo, ← hz]
    by_cases h1 : 128 ≤ c.toNat
    · rw [if_pos h1]
      rcases shortGo_cases most f (i + 1) z r (by omega) hlt with h | ⟨num, long, h, h2, h3, h4⟩
      · exact .inl h
      · exact .inr ⟨num, long, h, by omega, by simp only [List.length_cons]; omega, h4⟩
    rw [if_neg h1]
    by_cases h2 : c.toNat = 0 ∧ 0 < i
    · rw [if_pos h2]; exact .inl ⟨3, by decide, rfl⟩
    rw [if_neg h2]
    by_cases h3 : most < (z : Int)
    · rw [if_pos h3]; exact .inl ⟨2, by decide, rfl⟩
    rw [if_neg h3]
    exact .inr ⟨z, i + 1, rfl, Nat.le_refl _, by simp only [List.length_cons]; omega, hmax, by omega⟩

theorem shortA_cases (s : ByteArray) (p : Nat) (most : Int) (hp : p ≤ s.size) :
    (∃ c : Int, c ≠ 0 ∧ shortA s p most = .bad c) ∨ (∃ num long : Nat, shortA s p most = ⟨num, ⟨#[]⟩, long, 0⟩ ∧ p + long ≤ s.size ∧ num ≤ 9223372036854775807 ∧ (num : Int) ≤ most) := by
  rcases shortGo_cases most 9 0 0 (s.data.toList.drop p) rfl (by decide) with h | ⟨num, long, h, _, h3, h4⟩
  · exact .inl h
  · refine .inr ⟨num, long, h, ?_, h4⟩
    have : (s.data.toList.drop p).length = s.size - p := by simp
    omega

/-- What a look ahead may answer: something within the bytes that are there, or a refusal with nothing found. -/
def AhOk (s : ByteArray) (p : Nat) (A : Ah) : Prop := (A.code = 0 ∧ p + A.long ≤ s.size) ∨ ∃ c : Int, c ≠ 0 ∧ A = .bad c

theorem bytesA_ok (s : ByteArray) (p : Nat) (n : Int) : AhOk s p (bytesA s p n) := by
  unfold bytesA
  by_cases h1 : n < 0
  · rw [if_pos h1]; exact .inr ⟨1, by decide, rfl⟩
  rw [if_neg h1]
  by_cases h2 : (s.size : Int) - p < n
  · rw [if_pos h2]; exact .inr ⟨10, by decide, rfl⟩
  rw [if_neg h2]
  exact .inl ⟨rfl, by show p + n.toNat ≤ _; omega⟩
theorem fixedA_ok (s : ByteArray) (p : Nat) (n : Int) : AhOk s p (fixedA s p n) := by
  unfold fixedA
  by_cases h1 : n < 1 ∨ 7 < n
  · rw [if_pos h1]; exact .inr ⟨1, by decide, rfl⟩
  rw [if_neg h1]
  by_cases h2 : (s.size : Int) - p < n
  · rw [if_pos h2]; exact .inr ⟨10, by decide, rfl⟩
  rw [if_neg h2]
  exact .inl ⟨rfl, by show p + n.toNat ≤ _; omega⟩
theorem shortA_ok (s : ByteArray) (p : Nat) (most : Int) (hp : p ≤ s.size) : AhOk s p (shortA s p most) := by
  rcases shortA_cases s p most hp with h | ⟨num, long, h, h2, _⟩
  · exact .inr h
  · rw [h]; exact .inl ⟨rfl, h2⟩
theorem textA_ok (s : ByteArray) (p : Nat) (most : Int) (hp : p ≤ s.size) : AhOk s p (textA s p most) := by
  unfold textA
  rcases shortA_cases s p most hp with ⟨c, hc, h⟩ | ⟨num, long, h, h2, _⟩
  · rw [h, if_pos (show (Ah.bad c).code ≠ 0 from hc)]; exact .inr ⟨c, hc, rfl⟩
  · rw [h, if_neg (by simp)]
    by_cases h3 : (s.size : Int) - p - long < num
    · rw [if_pos h3]; exact .inr ⟨10, by decide, rfl⟩
    · rw [if_neg h3]; exact .inl ⟨rfl, by show p + (long + num) ≤ _; omega⟩

/-- What a reader with an error tells: nothing, and the error stays. -/
def asked (x : Int) (A : Ah) : Ah := if x = 0 then A else .bad x
theorem asked_zero (A : Ah) : asked 0 A = A := rfl
theorem asked_some {x : Int} (h : ¬ x = 0) (A : Ah) : asked x A = .bad x := if_neg h

end Go.Proofs.Ytifbcmcefggofaa

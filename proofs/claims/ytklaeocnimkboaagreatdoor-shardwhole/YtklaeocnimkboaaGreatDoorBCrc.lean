/-
  CrcMath, ShardMath: texts of earlier layers, laid over this program.
-/
import Derived.Test.YtklaeocnimkboaaGreatDoorRows
import Derived.Test.YtklaeocnimkboaaGreatDoorBPlan
namespace Go.Proofs.YtklaeocnimkboaaGreatDoor

def crcP : Nat := 2197175160
/-- One bit's step. -/
def tS (r : Nat) : Nat := if r % 2 = 1 then r / 2 ^^^ crcP else r / 2
def tN : Nat → Nat → Nat
  | 0, r => r
  | n + 1, r => tN n (tS r)
theorem tS_bit (r i : Nat) : (tS r).testBit i = ((r.testBit (i + 1)) ^^ (r.testBit 0 && crcP.testBit i)) := by
  rw [tS]
  by_cases h : r % 2 = 1
  · rw [if_pos h, Nat.testBit_xor, Nat.testBit_succ]
    simp [h]
  · rw [if_neg h, Nat.testBit_succ]
    simp [h]
theorem tS_xor (a b : Nat) : tS (a ^^^ b) = tS a ^^^ tS b := by
  apply Nat.eq_of_testBit_eq
  intro i
  rw [Nat.testBit_xor, tS_bit, tS_bit, tS_bit, Nat.testBit_xor, Nat.testBit_xor]
  cases a.testBit (i + 1) <;> cases b.testBit (i + 1) <;> cases a.testBit 0 <;> cases b.testBit 0 <;> cases crcP.testBit i <;> rfl
theorem tN_xor : ∀ (n a b : Nat), tN n (a ^^^ b) = tN n a ^^^ tN n b
  | 0, _, _ => rfl
  | n + 1, a, b => by rw [tN, tN, tN, tS_xor, tN_xor n]
theorem tN_add : ∀ (n m r : Nat), tN (n + m) r = tN m (tN n r)
  | 0, m, r => by rw [Nat.zero_add]; rfl
  | n + 1, m, r => by rw [show n + 1 + m = (n + m) + 1 by omega, tN, tN, tN_add n m]
theorem tS_double (r : Nat) : tS (r * 2) = r := by
  rw [tS, if_neg (by omega)]
  omega
theorem tN_shift : ∀ (n r : Nat), tN n (r * 2 ^ n) = r
  | 0, r => by simp [tN]
  | n + 1, r => by rw [tN, Nat.pow_succ, ← Nat.mul_assoc, tS_double, tN_shift n r]
theorem tS_lt {r : Nat} (h : r < 4294967296) : tS r < 4294967296 := by
  rw [tS]
  split
  · exact Nat.xor_lt_two_pow (n := 32) (by omega) (by decide)
  · omega
theorem tN_lt : ∀ (n : Nat) {r : Nat}, r < 4294967296 → tN n r < 4294967296
  | 0, _, h => h
  | n + 1, _, h => tN_lt n (tS_lt h)
theorem tS_zero {r : Nat} (h : r < 4294967296) (h0 : tS r = 0) : r = 0 := by
  by_cases ho : r % 2 = 1
  · exfalso
    have e : (tS r).testBit 31 = true := by
      rw [tS_bit, Nat.testBit_lt_two_pow (i := 31 + 1) (by omega)]
      simp [ho]
      decide
    rw [h0] at e
    simp at e
  · rw [tS, if_neg ho] at h0
    omega
theorem tN_zero : ∀ (n : Nat) {r : Nat}, r < 4294967296 → tN n r = 0 → r = 0
  | 0, _, _, h0 => h0
  | n + 1, _, h, h0 => tS_zero h (tN_zero n (tS_lt h) h0)
theorem xor_zero_eq {a b : Nat} (h : a ^^^ b = 0) : a = b := by
  apply Nat.eq_of_testBit_eq
  intro i
  have := congrArg (fun x => x.testBit i) h
  simp only [Nat.testBit_xor, Nat.zero_testBit] at this
  cases ha : a.testBit i <;> cases hb : b.testBit i <;> simp [ha, hb] at this ⊢
theorem tN_inj (n : Nat) {a b : Nat} (ha : a < 4294967296) (hb : b < 4294967296) (h : tN n a = tN n b) : a = b := by
  refine xor_zero_eq (tN_zero n (Nat.xor_lt_two_pow (n := 32) ha hb) ?_)
  rw [tN_xor, h, Nat.xor_self]
/-- The remainder behind bytes. -/
def crcS (r : Nat) (l : List UInt8) : Nat := l.foldl (fun r b => tN 8 (r ^^^ b.toNat)) r
theorem crcS_nil (r : Nat) : crcS r [] = r := rfl
theorem crcS_cons (r : Nat) (b : UInt8) (l : List UInt8) : crcS r (b :: l) = crcS (tN 8 (r ^^^ b.toNat)) l := List.foldl_cons ..
/-- Bytes as one number, the lowest first. -/
def leN : List UInt8 → Nat
  | [] => 0
  | b :: l => b.toNat ^^^ leN l * 2 ^ 8
theorem crcS_eq : ∀ (l : List UInt8) (r : Nat), crcS r l = tN (8 * l.length) (r ^^^ leN l)
  | [], r => by rw [crcS_nil, leN, List.length_nil, Nat.mul_zero, tN, Nat.xor_zero]
  | b :: l, r => by
    rw [crcS_cons, crcS_eq l, leN, List.length_cons, show 8 * (l.length + 1) = 8 + 8 * l.length by omega, tN_add 8, ← Nat.xor_assoc, tN_xor 8 _ (leN l * 2 ^ 8), tN_shift]
theorem crcS_append : ∀ (l m : List UInt8) (r : Nat), crcS r (l ++ m) = crcS (crcS r l) m
  | [], _, _ => rfl
  | b :: l, m, r => by rw [List.cons_append, crcS_cons, crcS_cons, crcS_append l m]
theorem crcS_lt : ∀ (l : List UInt8) {r : Nat}, r < 4294967296 → crcS r l < 4294967296
  | [], _, h => h
  | b :: l, _, h => by
    rw [crcS_cons]
    exact crcS_lt l (tN_lt 8 (Nat.xor_lt_two_pow (n := 32) h (by have := b.toNat_lt; omega)))
theorem leN_bit : ∀ (l : List UInt8) (q : Nat), (leN l).testBit q = (l.getD (q / 8) 0).toNat.testBit (q % 8)
  | [], q => by simp [leN]
  | b :: l, q => by
    have hb : ∀ i, 8 ≤ i → b.toNat.testBit i = false := fun i hi => Nat.testBit_lt_two_pow (Nat.lt_of_lt_of_le b.toNat_lt (Nat.pow_le_pow_right (by decide) hi))
    rw [leN, Nat.testBit_xor, Nat.testBit_mul_two_pow]
    by_cases h : q < 8
    · rw [show q / 8 = 0 by omega, show q % 8 = q by omega]
      simp [show ¬ 8 ≤ q by omega]
    · rw [hb q (by omega), show q / 8 = (q - 8) / 8 + 1 by omega, show q % 8 = (q - 8) % 8 by omega]
      simp [show 8 ≤ q by omega, leN_bit l (q - 8)]
theorem leN_lt : ∀ (l : List UInt8), leN l < 2 ^ (8 * l.length)
  | [] => by simp [leN]
  | b :: l => by
    rw [leN, List.length_cons, show 8 * (l.length + 1) = 8 * l.length + 8 by omega]
    have h := leN_lt l
    refine Nat.xor_lt_two_pow ?_ ?_
    · exact Nat.lt_of_lt_of_le b.toNat_lt (Nat.pow_le_pow_right (by decide) (by omega))
    · rw [Nat.pow_add]
      exact Nat.mul_lt_mul_of_pos_right h (by decide)
def xorB : List UInt8 → List UInt8 → List UInt8
  | a :: x, b :: y => (a ^^^ b) :: xorB x y
  | _, _ => []
theorem xorB_length : ∀ (x y : List UInt8), x.length = y.length → (xorB x y).length = x.length
  | [], [], _ => rfl
  | a :: x, b :: y, h => by simp only [xorB, List.length_cons]; rw [xorB_length x y (by simpa using h)]
theorem leN_xor : ∀ (x y : List UInt8), x.length = y.length → leN (xorB x y) = leN x ^^^ leN y
  | [], [], _ => rfl
  | a :: x, b :: y, h => by
    have hm : (leN x ^^^ leN y) * 2 ^ 8 = leN x * 2 ^ 8 ^^^ leN y * 2 ^ 8 := by
      apply Nat.eq_of_testBit_eq
      intro i
      simp only [Nat.testBit_mul_two_pow, Nat.testBit_xor]
      cases decide (8 ≤ i) <;> simp
    rw [xorB, leN, leN, leN, leN_xor x y (by simpa using h), hm, UInt8.toNat_xor]
    ac_rfl
theorem crcS_xor (x y : List UInt8) (h : x.length = y.length) (a b : Nat) : crcS (a ^^^ b) (xorB x y) = crcS a x ^^^ crcS b y := by
  rw [crcS_eq, crcS_eq, crcS_eq, xorB_length x y h, ← h, ← tN_xor, leN_xor x y h]
  congr 1
  ac_rfl
theorem leN_inj : ∀ (x y : List UInt8), x.length = y.length → leN (xorB x y) = 0 → x = y
  | [], [], _, _ => rfl
  | a :: x, b :: y, h, h0 => by
    rw [xorB, leN] at h0
    have h1 := xor_zero_eq h0
    have h2 := (a ^^^ b).toNat_lt
    have h3 : leN (xorB x y) = 0 := by
      rcases Nat.eq_zero_or_pos (leN (xorB x y)) with e | e
      · exact e
      · omega
    rw [h3, Nat.zero_mul, UInt8.toNat_xor] at h1
    rw [leN_inj x y (by simpa using h) h3, UInt8.toNat_inj.1 (xor_zero_eq h1)]
/-- Up to 32 bits that follow one another are found. -/
theorem burst {s t : List UInt8} (hl : s.length = t.length) (r : Nat) {first p : Nat} (hp : p < 4294967296) (hf : first ≤ 8 * s.length) (he : leN (xorB s t) = p * 2 ^ first % 2 ^ (8 * s.length)) (h : crcS r s = crcS r t) : s = t := by
  apply leN_inj s t hl
  obtain ⟨n, hn⟩ : ∃ n, 8 * s.length = first + n := ⟨8 * s.length - first, by omega⟩
  have e1 : p * 2 ^ first % 2 ^ (8 * s.length) = (p % 2 ^ n) * 2 ^ first := by
    rw [hn, Nat.pow_add, Nat.mul_comm (2 ^ first), Nat.mul_mod_mul_right]
  have hx := crcS_xor s t hl r r
  rw [Nat.xor_self, h, Nat.xor_self, crcS_eq, xorB_length s t hl, Nat.zero_xor, he, e1, hn, tN_add, tN_shift] at hx
  have h0 := tN_zero n (Nat.lt_of_le_of_lt (Nat.mod_le _ _) hp) hx
  rw [he, e1, h0, Nat.zero_mul]
/-- A number of 32 bits as four bytes. -/
def le4 (w : Nat) : List UInt8 := [UInt8.ofNat w, UInt8.ofNat (w / 256), UInt8.ofNat (w / 65536), UInt8.ofNat (w / 16777216)]
theorem leN_le4 {w : Nat} (h : w < 4294967296) : leN (le4 w) = w := by
  apply Nat.eq_of_testBit_eq
  intro q
  rw [leN_bit]
  by_cases hq : q < 32
  · have hd : q / 8 = 0 ∨ q / 8 = 1 ∨ q / 8 = 2 ∨ q / 8 = 3 := by omega
    have hb : ∀ (x i : Nat), i < 8 → (UInt8.ofNat x).toNat.testBit i = x.testBit i := fun x i hi => by
      rw [UInt8.toNat_ofNat', show (2 ^ 8 : Nat) = 2 ^ 8 from rfl, Nat.testBit_mod_two_pow]
      simp [hi]
    have hs : ∀ k, (w / 2 ^ k).testBit (q % 8) = w.testBit (k + q % 8) := fun k => by rw [Nat.testBit_div_two_pow, Nat.add_comm]
    rcases hd with e | e | e | e <;> rw [e]
    · show (UInt8.ofNat w).toNat.testBit (q % 8) = _
      rw [hb _ _ (by omega), show q % 8 = q by omega]
    · show (UInt8.ofNat (w / 256)).toNat.testBit (q % 8) = _
      rw [hb _ _ (by omega), show w / 256 = w / 2 ^ 8 from rfl, hs 8, show 8 + q % 8 = q by omega]
    · show (UInt8.ofNat (w / 65536)).toNat.testBit (q % 8) = _
      rw [hb _ _ (by omega), show w / 65536 = w / 2 ^ 16 from rfl, hs 16, show 16 + q % 8 = q by omega]
    · show (UInt8.ofNat (w / 16777216)).toNat.testBit (q % 8) = _
      rw [hb _ _ (by omega), show w / 16777216 = w / 2 ^ 24 from rfl, hs 24, show 24 + q % 8 = q by omega]
  · rw [Nat.testBit_lt_two_pow (x := w) (i := q) (Nat.lt_of_lt_of_le h (Nat.pow_le_pow_right (n := 2) (by decide) (show 32 ≤ q by omega)))]
    rw [List.getD_eq_getElem?_getD, List.getElem?_eq_none (by simp [le4]; omega)]
    simp
theorem le4_inj {a b : Nat} (ha : a < 4294967296) (hb : b < 4294967296) (h : le4 a = le4 b) : a = b := by
  rw [← leN_le4 ha, ← leN_le4 hb, h]
/-- The check of bytes. -/
def crcV (l : List UInt8) : Nat := crcS 4294967295 l ^^^ 4294967295
theorem crcV_lt (l : List UInt8) : crcV l < 4294967296 := Nat.xor_lt_two_pow (n := 32) (crcS_lt l (by decide)) (by decide)
/-- Bytes with their check behind them leave one remainder. -/
theorem crc_whole (l : List UInt8) : crcS 4294967295 (l ++ le4 (crcV l)) = tN 32 4294967295 := by
  rw [crcS_append, crcS_eq, leN_le4 (crcV_lt l), crcV, ← Nat.xor_assoc, Nat.xor_self, Nat.zero_xor]
  rfl
/-- Two texts of one length with their checks, that part in at most 32 bits that follow one another, are the same. -/
theorem crc_found {l m : List UInt8} (hl : l.length = m.length) {first p : Nat} (hp : p < 4294967296) (hf : first ≤ 8 * (l.length + 4))
    (he : leN (xorB (l ++ le4 (crcV l)) (m ++ le4 (crcV m))) = p * 2 ^ first % 2 ^ (8 * (l.length + 4))) : l ++ le4 (crcV l) = m ++ le4 (crcV m) := by
  have h4 : (l ++ le4 (crcV l)).length = l.length + 4 := by simp [le4]
  have h5 : (m ++ le4 (crcV m)).length = m.length + 4 := by simp [le4]
  refine burst (by rw [h4, h5, hl]) 4294967295 hp (by rw [h4]; exact hf) (by rw [h4]; exact he) ?_
  rw [crc_whole, crc_whole]
end Go.Proofs.YtklaeocnimkboaaGreatDoor

namespace Go.Proofs.YtklaeocnimkboaaGreatDoor

/-- A shard, in plain terms. -/
structure SX where
  k : Int
  m : Int
  i : Int
  long : Int
  id : ByteArray
  data : ByteArray
/-- It may be. -/
def okS (x : SX) : Prop := (1 ≤ x.k ∧ 0 ≤ x.m ∧ x.k + x.m ≤ 255) ∧ (0 ≤ x.i ∧ x.i < x.k + x.m) ∧ (0 ≤ x.long ∧ x.long ≤ 65536) ∧ x.id.size = 32 ∧ x.data.size = eachN x.k.toNat x.long.toNat
/-- Four bytes, the highest first. -/
def be4 (n : Nat) : List UInt8 := [UInt8.ofNat (n / 16777216), UInt8.ofNat (n / 65536), UInt8.ofNat (n / 256), UInt8.ofNat n]
def nb4 (a b c d : UInt8) : Nat := a.toNat * 16777216 + b.toNat * 65536 + c.toNat * 256 + d.toNat
theorem nb4_be4 (n : Nat) (h : n < 4294967296) : nb4 (UInt8.ofNat (n / 16777216)) (UInt8.ofNat (n / 65536)) (UInt8.ofNat (n / 256)) (UInt8.ofNat n) = n := by
  simp only [nb4, UInt8.toNat_ofNat']
  omega
/-- Its bytes but the check. -/
def txL (x : SX) : List UInt8 := 71 :: 82 :: 84 :: 1 :: UInt8.ofNat x.k.toNat :: UInt8.ofNat x.m.toNat :: UInt8.ofNat x.i.toNat :: (be4 x.long.toNat ++ (x.id.data.toList ++ x.data.data.toList))
def fullL (x : SX) : List UInt8 := txL x ++ le4 (crcV (txL x))
theorem bsize (s : ByteArray) : s.data.toList.length = s.size := by rw [Array.length_toList]; rfl
theorem txL_length (x : SX) : (txL x).length = 11 + x.id.size + x.data.size := by
  simp only [txL, be4, List.length_cons, List.length_append, List.length_nil, bsize]
  omega
theorem fullL_length (x : SX) : (fullL x).length = 15 + x.id.size + x.data.size := by
  rw [fullL, List.length_append, txL_length]
  simp only [le4, List.length_cons, List.length_nil]
  omega
/-- What bytes tell, whether they are a shard's or not. -/
def decX (l : List UInt8) : SX :=
  ⟨(l.getD 4 0).toNat, (l.getD 5 0).toNat, (l.getD 6 0).toNat, nb4 (l.getD 7 0) (l.getD 8 0) (l.getD 9 0) (l.getD 10 0), ⟨((l.drop 11).take 32).toArray⟩, ⟨((l.drop 43).take (l.length - 47)).toArray⟩⟩
/-- Bytes of a shard. -/
def decOK (l : List UInt8) : Prop := 47 ≤ l.length ∧ okS (decX l) ∧ fullL (decX l) = l
theorem ofNat_toNat {z : Int} (h0 : 0 ≤ z) (h1 : z ≤ 255) : (((UInt8.ofNat z.toNat).toNat : Nat) : Int) = z := by
  rw [UInt8.toNat_ofNat']
  omega
theorem bytes_back (s : ByteArray) : (⟨s.data.toList.toArray⟩ : ByteArray) = s := by simp
theorem dec_full {x : SX} (h : okS x) : decX (fullL x) = x := by
  obtain ⟨⟨k1, m0, km⟩, ⟨i0, i1⟩, ⟨l0, l1⟩, hid, hd⟩ := h
  have hlen := fullL_length x
  have e11 : (fullL x).drop 11 = (x.id.data.toList ++ x.data.data.toList) ++ le4 (crcV (txL x)) := rfl
  have e43 : (fullL x).drop 43 = x.data.data.toList ++ le4 (crcV (txL x)) := by
    rw [show (43 : Nat) = 11 + 32 from rfl, ← List.drop_drop, e11, List.append_assoc, List.drop_left' (by rw [bsize, hid])]
  have ek : ((((fullL x).getD 4 0).toNat : Nat) : Int) = x.k := ofNat_toNat (by omega) (by omega)
  have em : ((((fullL x).getD 5 0).toNat : Nat) : Int) = x.m := ofNat_toNat m0 (by omega)
  have ei : ((((fullL x).getD 6 0).toNat : Nat) : Int) = x.i := ofNat_toNat i0 (by omega)
  have el : ((nb4 ((fullL x).getD 7 0) ((fullL x).getD 8 0) ((fullL x).getD 9 0) ((fullL x).getD 10 0) : Nat) : Int) = x.long := by
    have := nb4_be4 x.long.toNat (by omega)
    show ((nb4 (UInt8.ofNat (x.long.toNat / 16777216)) (UInt8.ofNat (x.long.toNat / 65536)) (UInt8.ofNat (x.long.toNat / 256)) (UInt8.ofNat x.long.toNat) : Nat) : Int) = _
    rw [this]
    omega
  have e1 : (⟨(((fullL x).drop 11).take 32).toArray⟩ : ByteArray) = x.id := by
    rw [e11, List.append_assoc, List.take_left' (by rw [bsize, hid]), bytes_back]
  have e2 : (⟨(((fullL x).drop 43).take ((fullL x).length - 47)).toArray⟩ : ByteArray) = x.data := by
    rw [e43, List.take_left' (by rw [bsize]; omega), bytes_back]
  rw [decX, ek, em, ei, el, e1, e2]
/-- There and back. -/
theorem full_ok {x : SX} (h : okS x) : decOK (fullL x) := by
  refine ⟨?_, ?_, ?_⟩
  · rw [fullL_length, h.2.2.2.1]; omega
  · rw [dec_full h]; exact h
  · rw [dec_full h]
theorem full_inj {x y : SX} (hx : okS x) (hy : okS y) (h : fullL x = fullL y) : x = y := by
  rw [← dec_full hx, ← dec_full hy, h]
/-- Up to 32 bits that follow one another, turned, are found. -/
theorem turned_found {x : SX} {l : List UInt8} (hl : l.length = (fullL x).length) {first p : Nat} (hp : p < 4294967296) (hf : first ≤ 8 * l.length)
    (he : leN (xorB (fullL x) l) = p * 2 ^ first % 2 ^ (8 * l.length)) (h : decOK l) : l = fullL x := by
  have e : fullL (decX l) = l := h.2.2
  have h1 : (txL x).length + 4 = l.length := by rw [hl, fullL_length, txL_length]; omega
  have h2 : (txL (decX l)).length + 4 = l.length := by
    have : (fullL (decX l)).length = l.length := by rw [e]
    rw [fullL_length] at this
    rw [txL_length]
    omega
  have := crc_found (l := txL x) (m := txL (decX l)) (by omega) hp (by rw [h1]; exact hf) (by rw [h1]; show leN (xorB (fullL x) (fullL (decX l))) = _; rw [e]; exact he)
  exact e.symm.trans this.symm
theorem getD_take {l : List UInt8} {n j : Nat} (h : j < n) : (l.take n).getD j 0 = l.getD j 0 := by
  rw [List.getD_eq_getElem?_getD, List.getD_eq_getElem?_getD, List.getElem?_take, if_pos h]
/-- An end that is cut off is found. -/
theorem cut_found {x : SX} (hx : okS x) {n : Nat} (hn : n < (fullL x).length) : ¬ decOK ((fullL x).take n) := by
  rintro ⟨h47, hok, _⟩
  have hlen : ((fullL x).take n).length = n := by rw [List.length_take]; omega
  rw [hlen] at h47
  have hd := hok.2.2.2.2
  have ek : (decX ((fullL x).take n)).k = x.k := by
    show (((((fullL x).take n).getD 4 0).toNat : Nat) : Int) = _
    rw [getD_take (by omega)]
    exact congrArg SX.k (dec_full hx)
  have el : (decX ((fullL x).take n)).long = x.long := by
    show ((nb4 (((fullL x).take n).getD 7 0) (((fullL x).take n).getD 8 0) (((fullL x).take n).getD 9 0) (((fullL x).take n).getD 10 0) : Nat) : Int) = _
    rw [getD_take (by omega), getD_take (by omega), getD_take (by omega), getD_take (by omega)]
    exact congrArg SX.long (dec_full hx)
  have es : (decX ((fullL x).take n)).data.size = n - 47 := by
    show (((((fullL x).take n).drop 43).take (((fullL x).take n).length - 47)).toArray).size = _
    rw [List.size_toArray, List.length_take, List.length_drop, hlen]
    omega
  rw [ek, el, es, ← hx.2.2.2.2] at hd
  rw [fullL_length, hx.2.2.2.1] at hn
  omega
end Go.Proofs.YtklaeocnimkboaaGreatDoor


/-
  There and back, as plain mathematics: nothing of the program is named here.
-/
import Derived.Test.YtifbcmcefggofaaSpec
namespace Go.Proofs.Ytifbcmcefggofaa
open Go.Lib

theorem numOf_fixedOf_rev : ∀ (k v : Nat), v < 256 ^ k → numOf (fixedOf v k) = v
  | 0, v, h => by simp at h; subst h; rfl
  | k + 1, v, h => by
    rw [fixedOf_snoc, numOf_snoc, numOf_fixedOf_rev k (v / 256) (by rw [Nat.pow_succ] at h; exact Nat.div_lt_of_lt_mul (by rw [Nat.mul_comm]; exact h)), toUInt8_toNat (Nat.mod_lt _ (by decide))]
    omega

theorem uvarint_ne (n : Nat) : uvarint n ≠ [] := fun h => by have := uvarint_pos n; rw [h] at this; simp at this

/-- A short number that was written is read. -/
theorem shortGo_write (most : Int) : ∀ (f i m n : Nat) (r : List UInt8), (uvarint n).length ≤ f → (0 < i → 0 < n) → ((m + n * 2 ^ (7 * i) : Nat) : Int) ≤ most →
    shortGo most f i m (uvarint n ++ r) = ⟨m + n * 2 ^ (7 * i), ⟨#[]⟩, i + (uvarint n).length, 0⟩
  | 0, _, _, n, _, h, _, _ => by have := uvarint_pos n; omega
  | f + 1, i, m, n, r, h, hi, hm => by
    by_cases hn : n < 128
    · rw [uvarint_small hn]
      have hc : n.toUInt8.toNat = n := toUInt8_toNat (by omega)
      rw [List.cons_append, List.nil_append, shortGo, hc, if_neg (by omega), if_neg (by omega), Nat.mod_eq_of_lt hn, if_neg (by omega)]
      rfl
    · rw [uvarint_big (by omega)] at h ⊢
      have hc : (n % 128 + 128).toUInt8.toNat = n % 128 + 128 := toUInt8_toNat (by omega)
      have hp : 2 ^ (7 * (i + 1)) = 128 * 2 ^ (7 * i) := by rw [Nat.mul_add, Nat.pow_add, Nat.mul_comm]
      have e : m + n % 128 * 2 ^ (7 * i) + n / 128 * 2 ^ (7 * (i + 1)) = m + n * 2 ^ (7 * i) := by
        have : n * 2 ^ (7 * i) = (n % 128 + 128 * (n / 128)) * 2 ^ (7 * i) := by rw [Nat.mod_add_div]
        rw [this, hp, Nat.add_mul, Nat.add_assoc, ← Nat.mul_assoc, Nat.mul_comm (n / 128) 128]
      rw [List.length_cons] at h
      rw [List.cons_append, shortGo, hc, if_pos (by omega), show (n % 128 + 128) % 128 = n % 128 from by omega,
        shortGo_write most f (i + 1) _ (n / 128) r (by omega) (fun _ => by omega) (by rw [e]; exact hm), e, List.length_cons]
      congr 1
      omega

/-- Without its last byte it ends too early. -/
theorem shortGo_cut (most : Int) : ∀ (f i m n : Nat), (uvarint n).length ≤ f → shortGo most f i m (uvarint n).dropLast = .bad 10
  | 0, _, _, n, h => by have := uvarint_pos n; omega
  | f + 1, i, m, n, h => by
    by_cases hn : n < 128
    · rw [uvarint_small hn]; rfl
    · rw [uvarint_big (by omega)] at h ⊢
      have hc : (n % 128 + 128).toUInt8.toNat = n % 128 + 128 := toUInt8_toNat (by omega)
      rw [List.length_cons] at h
      rw [List.dropLast_cons_of_ne_nil (uvarint_ne _), shortGo, hc, if_pos (by omega)]
      exact shortGo_cut most f (i + 1) _ (n / 128) (by omega)

theorem shortA_write (t : ByteArray) (p n : Nat) (most : Int) (r : List UInt8) (h : t.data.toList.drop p = uvarint n ++ r) (hn : n ≤ 9223372036854775807) (hm : (n : Int) ≤ most) :
    shortA t p most = ⟨n, ⟨#[]⟩, (uvarint n).length, 0⟩ := by
  unfold shortA
  rw [h, shortGo_write most 9 0 0 n r (uvarint_nine hn) (fun h => by omega) (by simpa using hm)]
  simp
theorem shortA_cut (t : ByteArray) (p n : Nat) (most : Int) (h : t.data.toList.drop p = (uvarint n).dropLast) (hn : n ≤ 9223372036854775807) : shortA t p most = .bad 10 := by
  unfold shortA
  rw [h, shortGo_cut most 9 0 0 n (uvarint_nine hn)]

theorem drop_len (t : ByteArray) (p : Nat) : (t.data.toList.drop p).length = t.size - p := by simp

theorem extract_list (t : ByteArray) (p q : Nat) : (t.extract p q).data.toList = (t.data.toList.drop p).take (q - p) := by simp

theorem fixedA_write (t : ByteArray) (p v : Nat) (r : List UInt8) (h : t.data.toList.drop p = fixedOf v 5 ++ r) (hv : v < 256 ^ 5) : fixedA t p 5 = ⟨v, ⟨#[]⟩, 5, 0⟩ := by
  have hl := drop_len t p
  rw [h, List.length_append, fixedOf_length] at hl
  unfold fixedA
  rw [if_neg (by omega), if_neg (by omega)]
  rw [extract_list, h]
  rw [show p + (5 : Int).toNat - p = 5 from by simp, List.take_append_of_le_length (by rw [fixedOf_length]; exact Nat.le_refl _), List.take_of_length_le (by rw [fixedOf_length]; exact Nat.le_refl _), numOf_fixedOf_rev 5 v hv]
  rfl
theorem fixedA_cut (t : ByteArray) (p v : Nat) (h : t.data.toList.drop p = (fixedOf v 5).dropLast) : fixedA t p 5 = .bad 10 := by
  have hl := drop_len t p
  rw [h, List.length_dropLast, fixedOf_length] at hl
  unfold fixedA
  rw [if_neg (by omega), if_pos (by omega)]

theorem textA_write (t b : ByteArray) (p : Nat) (r : List UInt8) (h : t.data.toList.drop p = uvarint b.size ++ b.data.toList ++ r) (hb : b.size ≤ 500) : textA t p 500 = ⟨0, b, (uvarint b.size).length + b.size, 0⟩ := by
  have hs := shortA_write t p b.size 500 (b.data.toList ++ r) (by rw [h, List.append_assoc]) (by omega) (by omega)
  have hu := uvarint_pos b.size
  have hl := drop_len t p
  have hbl : b.data.toList.length = b.size := by simp
  rw [h, List.length_append, List.length_append, hbl] at hl
  unfold textA
  rw [hs, if_neg (by simp)]
  show (if (t.size : Int) - p - ((uvarint b.size).length : Nat) < (b.size : Nat) then _ else _) = _
  rw [if_neg (by omega)]
  have e : t.extract (p + (uvarint b.size).length) (p + (uvarint b.size).length + b.size) = b := by
    apply ByteArray.ext
    apply Array.ext'
    rw [extract_list, ← List.drop_drop, h, List.append_assoc, List.drop_left, show p + (uvarint b.size).length + b.size - (p + (uvarint b.size).length) = b.data.toList.length from by rw [hbl]; omega, List.take_left]
  rw [e]
theorem textA_cut (t b : ByteArray) (p : Nat) (hp : p ≤ t.size) (h : t.data.toList.drop p = (uvarint b.size ++ b.data.toList).dropLast) (hb : b.size ≤ 500) : textA t p 500 = .bad 10 := by
  have hbl : b.data.toList.length = b.size := by simp
  by_cases h0 : b.data.toList = []
  · rw [h0, List.append_nil] at h
    unfold textA
    rw [shortA_cut t p b.size 500 h (by omega), if_pos (show (Ah.bad 10).code ≠ 0 by decide)]
    rfl
  · rw [List.dropLast_append_of_ne_nil h0] at h
    have hs := shortA_write t p b.size 500 b.data.toList.dropLast h (by omega) (by omega)
    have hl := drop_len t p
    rw [h, List.length_append, List.length_dropLast, hbl] at hl
    have hpos : 0 < b.size := by rw [← hbl]; exact List.length_pos_iff.2 h0
    unfold textA
    rw [hs, if_neg (by simp)]
    show (if (t.size : Int) - p - ((uvarint b.size).length : Nat) < (b.size : Nat) then _ else _) = _
    rw [if_pos (by omega)]

/-- A reader stands ahead of 'rest', of which the last 'cut' bytes (none, or one) are gone; or it met the end, and nothing is to come. -/
def St (cut : Nat) (t : ByteArray) (rest : List UInt8) (p : Nat) (x : Int) : Prop :=
  p ≤ t.size ∧ ((x = 0 ∧ t.data.toList.drop p = rest.take (rest.length - cut) ∧ cut ≤ rest.length) ∨ (x = 10 ∧ cut = 1 ∧ rest = []))

/-- One piece is read. -/
theorem St.piece {cut : Nat} {t : ByteArray} {P r : List UInt8} {p : Nat} {x : Int} (hcut : cut ≤ 1) (hP : P ≠ []) (h : St cut t (P ++ r) p x) (A : Ah) (v : Ah)
    (hok : ∀ r', t.data.toList.drop p = P ++ r' → A = v) (hcode : v.code = 0) (hlong : v.long = P.length) (hbad : t.data.toList.drop p = P.dropLast → A = .bad 10) :
    St cut t r (p + (asked x A).long) (asked x A).code ∧ (cut = 0 → asked x A = v) := by
  obtain ⟨hp, ⟨rfl, hd, hc⟩ | ⟨_, _, hn⟩⟩ := h
  · rw [asked_zero]
    have hPl : 0 < P.length := List.length_pos_iff.2 hP
    have hlen := drop_len t p
    by_cases hr : cut ≤ r.length
    · have e : (P ++ r).take ((P ++ r).length - cut) = P ++ r.take (r.length - cut) := by
        rw [List.length_append, show P.length + r.length - cut = P.length + (r.length - cut) from by omega, List.take_length_add_append]
      rw [e] at hd
      have hA := hok _ hd
      rw [hd, List.length_append, List.length_take] at hlen
      rw [hA]
      refine ⟨⟨by rw [hlong]; omega, .inl ⟨hcode, ?_, hr⟩⟩, fun _ => rfl⟩
      rw [hlong, ← List.drop_drop, hd, List.drop_left]
    · have h1 : cut = 1 := by omega
      have h0 : r = [] := List.eq_nil_of_length_eq_zero (by omega)
      subst h1 h0
      rw [List.append_nil] at hd
      rw [hbad (by rw [hd, List.dropLast_eq_take])]
      exact ⟨⟨hp, .inr ⟨rfl, rfl, rfl⟩⟩, fun h => by cases h⟩
  · exact absurd (List.append_eq_nil_iff.1 hn).1 hP

theorem St.le {cut : Nat} {t : ByteArray} {rest : List UInt8} {p : Nat} {x : Int} (h : St cut t rest p x) : p ≤ t.size := h.1

theorem St.fixed {cut : Nat} {t : ByteArray} {v : Nat} {r : List UInt8} {p : Nat} {x : Int} (hcut : cut ≤ 1) (hv : v < 256 ^ 5) (h : St cut t (fixedOf v 5 ++ r) p x) :
    St cut t r (p + (asked x (fixedA t p 5)).long) (asked x (fixedA t p 5)).code ∧ (cut = 0 → (asked x (fixedA t p 5)).num = v) := by
  obtain ⟨h1, h2⟩ := h.piece hcut (fun e => by have := fixedOf_length v 5; rw [e] at this; simp at this) (fixedA t p 5) ⟨v, ⟨#[]⟩, 5, 0⟩ (fun r' hd => fixedA_write t p v r' hd hv) rfl (fixedOf_length v 5).symm (fun hd => fixedA_cut t p v hd)
  exact ⟨h1, fun hc => by rw [h2 hc]⟩
theorem St.short {cut : Nat} {t : ByteArray} {n : Nat} {r : List UInt8} {p : Nat} {x : Int} (hcut : cut ≤ 1) (hn : n ≤ 9223372036854775807) (h : St cut t (uvarint n ++ r) p x) :
    St cut t r (p + (asked x (shortA t p 9223372036854775807)).long) (asked x (shortA t p 9223372036854775807)).code ∧ (cut = 0 → (asked x (shortA t p 9223372036854775807)).num = n) := by
  obtain ⟨h1, h2⟩ := h.piece hcut (uvarint_ne n) (shortA t p 9223372036854775807) ⟨n, ⟨#[]⟩, (uvarint n).length, 0⟩ (fun r' hd => shortA_write t p n _ r' hd hn (by omega)) rfl rfl (fun hd => shortA_cut t p n _ hd hn)
  exact ⟨h1, fun hc => by rw [h2 hc]⟩
theorem St.text {cut : Nat} {t b : ByteArray} {r : List UInt8} {p : Nat} {x : Int} (hcut : cut ≤ 1) (hb : b.size ≤ 500) (h : St cut t (uvarint b.size ++ b.data.toList ++ r) p x) :
    St cut t r (p + (asked x (textA t p 500)).long) (asked x (textA t p 500)).code ∧ (cut = 0 → (asked x (textA t p 500)).txt = b) := by
  have hp := h.le
  obtain ⟨h1, h2⟩ := h.piece hcut (fun e => uvarint_ne _ (List.append_eq_nil_iff.1 e).1) (textA t p 500) ⟨0, b, (uvarint b.size).length + b.size, 0⟩ (fun r' hd => textA_write t b p r' hd hb) rfl (by simp) (fun hd => textA_cut t b p hp hd hb)
  exact ⟨h1, fun hc => by rw [h2 hc]⟩

theorem St.start (S : List UInt8) (cut : Nat) (h : cut ≤ S.length) (t : ByteArray) (ht : t.data.toList = S.take (S.length - cut)) : St cut t S 0 0 :=
  ⟨Nat.zero_le _, .inl ⟨rfl, by rw [List.drop_zero]; exact ht, h⟩⟩
theorem St.end0 {t : ByteArray} {p : Nat} {x : Int} (h : St 0 t [] p x) : x = 0 ∧ p = t.size := by
  obtain ⟨hp, ⟨rfl, hd, _⟩ | ⟨_, h1, _⟩⟩ := h
  · have := drop_len t p
    rw [hd] at this
    simp at this
    exact ⟨rfl, by omega⟩
  · cases h1
theorem St.end1 {t : ByteArray} {p : Nat} {x : Int} (h : St 1 t [] p x) : x = 10 := by
  obtain ⟨_, ⟨_, _, h1⟩ | ⟨h, _, _⟩⟩ := h
  · simp at h1
  · exact h

/-! What is written. -/
def pieceN (z : Int) : List UInt8 := fixedOf (z % 1099511627776).toNat 5 ++ (if 0 ≤ z then uvarint z.toNat else [])
def encN (l : List Int) : List UInt8 := l.flatMap pieceN
def pieceT (b : ByteArray) : List UInt8 := if b.size ≤ 500 then uvarint b.size ++ b.data.toList else []
def encT (l : List ByteArray) : List UInt8 := l.flatMap pieceT

theorem encN_cons (z : Int) (l : List Int) : encN (z :: l) = pieceN z ++ encN l := by simp [encN]
theorem encN_snoc (z : Int) (l : List Int) : encN (l ++ [z]) = encN l ++ pieceN z := by simp [encN]
theorem encT_cons (z : ByteArray) (l : List ByteArray) : encT (z :: l) = pieceT z ++ encT l := by simp [encT]
theorem encT_snoc (z : ByteArray) (l : List ByteArray) : encT (l ++ [z]) = encT l ++ pieceT z := by simp [encT]
theorem pieceN_pos {z : Int} (h : 0 ≤ z) : pieceN z = fixedOf (z % 1099511627776).toNat 5 ++ uvarint z.toNat := by unfold pieceN; rw [if_pos h]
theorem pieceN_neg {z : Int} (h : ¬ 0 ≤ z) : pieceN z = fixedOf (z % 1099511627776).toNat 5 := by unfold pieceN; rw [if_neg h, List.append_nil]
theorem pieceT_some {b : ByteArray} (h : b.size ≤ 500) : pieceT b = uvarint b.size ++ b.data.toList := if_pos h
theorem pieceT_none {b : ByteArray} (h : ¬ b.size ≤ 500) : pieceT b = [] := if_neg h

/-- The first n of a list that is told by a function. -/
def firsts {α : Type} (f : Nat → α) (n : Nat) : List α := (List.range n).map f
theorem firsts_succ {α : Type} (f : Nat → α) (n : Nat) : firsts f (n + 1) = firsts f n ++ [f n] := by simp [firsts, List.range_succ]
theorem firsts_drop {α : Type} (f : Nat → α) {i n : Nat} (h : i < n) : (firsts f n).drop i = f i :: (firsts f n).drop (i + 1) := by
  rw [List.drop_eq_getElem_cons (by simpa [firsts] using h)]
  simp [firsts]
theorem firsts_all {α : Type} (f : Nat → α) {i n : Nat} (h : n ≤ i) : (firsts f n).drop i = [] := List.drop_eq_nil_of_le (by simpa [firsts] using h)

theorem pieceN_le (z : Int) (h : z ≤ 9223372036854775807) : (pieceN z).length ≤ 14 := by
  by_cases h0 : 0 ≤ z
  · rw [pieceN_pos h0, List.length_append, fixedOf_length]
    have := uvarint_nine (x := z.toNat) (by omega)
    omega
  · rw [pieceN_neg h0, fixedOf_length]; omega
theorem pieceT_le (b : ByteArray) : (pieceT b).length ≤ 509 := by
  by_cases h0 : b.size ≤ 500
  · rw [pieceT_some h0, List.length_append]
    have := uvarint_nine (x := b.size) (by omega)
    have hbl : b.data.toList.length = b.size := by simp
    omega
  · rw [pieceT_none h0]; simp
theorem encN_le (Z : Nat → Int) : ∀ n : Nat, (∀ i, i < n → Z i ≤ 9223372036854775807) → (encN (firsts Z n)).length ≤ 14 * n
  | 0, _ => by simp [encN, firsts]
  | n + 1, h => by
    rw [firsts_succ, encN_snoc, List.length_append]
    have h1 := encN_le Z n (fun i hi => h i (by omega))
    have h2 := pieceN_le (Z n) (h n (by omega))
    omega
theorem encT_le (X : Nat → ByteArray) : ∀ n : Nat, (encT (firsts X n)).length ≤ 509 * n
  | 0 => by simp [encT, firsts]
  | n + 1 => by
    rw [firsts_succ, encT_snoc, List.length_append]
    have h1 := encT_le X n
    have h2 := pieceT_le (X n)
    omega

theorem strOf_append (a b : List UInt8) : strOf a ++ strOf b = strOf (a ++ b) := by
  apply ByteArray.ext
  simp [strOf, ByteArray.data_append]

end Go.Proofs.Ytifbcmcefggofaa

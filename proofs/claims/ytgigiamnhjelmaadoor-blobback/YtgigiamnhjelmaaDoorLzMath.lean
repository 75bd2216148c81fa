/-
  Lz: blocks and their sequences, in plain terms.
-/
import Derived.Test.YtgigiamnhjelmaaDoorRows
namespace Go.Proofs.YtgigiamnhjelmaaDoor

/-- A sequence: literals, and what is repeated behind them. -/
structure SQ where
  lit : ByteArray
  dist : Nat
  long : Nat
  deriving DecidableEq
/-- The byte at a place. -/
def bt (s : ByteArray) (i : Nat) : Nat := if h : i < s.size then (s[i]'h).toNat else 0
theorem bt_at {s : ByteArray} {i : Nat} (h : i < s.size) : bt s i = (s[i]'h).toNat := dif_pos h
theorem bt_lt (s : ByteArray) (i : Nat) : bt s i < 256 := by
  rw [bt]
  split
  · exact UInt8.toNat_lt _
  · decide
/-- A number that goes on. -/
def moG (s : ByteArray) : Nat → Nat → Nat → Option (Nat × Nat)
  | 0, _, _ => none
  | f + 1, i, n => if i < s.size then (if bt s i < 255 then some (n + bt s i, i + 1) else moG s f (i + 1) (n + bt s i)) else none
def mo (s : ByteArray) (i n : Nat) : Option (Nat × Nat) := if n < 15 then some (n, i) else moG s (s.size - i) i n
section
variable {s : ByteArray}
theorem moG_end {i n : Nat} (h : s.size ≤ i) : moG s (s.size - i) i n = none := by
  rw [show s.size - i = 0 by omega]
  rfl
theorem moG_one {i n : Nat} (h : i < s.size) (hb : bt s i < 255) : moG s (s.size - i) i n = some (n + bt s i, i + 1) := by
  rw [show s.size - i = (s.size - (i + 1)) + 1 by omega, moG, if_pos h, if_pos hb]
theorem moG_more {i n : Nat} (h : i < s.size) (hb : ¬ bt s i < 255) : moG s (s.size - i) i n = moG s (s.size - (i + 1)) (i + 1) (n + bt s i) := by
  rw [show s.size - i = (s.size - (i + 1)) + 1 by omega, moG, if_pos h, if_neg hb]
theorem moG_spec : ∀ (f i n : Nat) {m j : Nat}, moG s f i n = some (m, j) → i < j ∧ j ≤ s.size ∧ n ≤ m ∧ m ≤ n + 255 * (j - i)
  | 0, _, _, _, _, h => by cases h
  | f + 1, i, n, m, j, h => by
    rw [moG] at h
    have hb := bt_lt s i
    split at h
    · split at h
      · simp only [Option.some.injEq, Prod.mk.injEq] at h
        omega
      · have := moG_spec f _ _ h
        omega
    · cases h
theorem mo_spec {i n m j : Nat} (hi : i ≤ s.size) (h : mo s i n = some (m, j)) : i ≤ j ∧ j ≤ s.size ∧ n ≤ m ∧ m ≤ n + 255 * (j - i) := by
  rw [mo] at h
  split at h
  · simp only [Option.some.injEq, Prod.mk.injEq] at h
    omega
  · have := moG_spec _ _ _ h
    omega
theorem mo_few {i n : Nat} (h : n < 15) : mo s i n = some (n, i) := by rw [mo, if_pos h]
theorem mo_on {i n : Nat} (h : ¬ n < 15) : mo s i n = moG s (s.size - i) i n := by rw [mo, if_neg h]
end
/-- The distance that two bytes tell. -/
def ds (s : ByteArray) (i : Nat) : Nat := bt s i + bt s (i + 1) * 256
/-- The sequences from a place on, n bytes having been unpacked; how many bytes there are in all. -/
def psG (s : ByteArray) : Nat → Nat → Nat → Option (List SQ × Nat)
  | 0, _, _ => none
  | f + 1, i, n =>
    if i < s.size then
      match mo s (i + 1) (bt s i / 16) with
      | none => none
      | some (a, j) =>
        if s.size - j < a then none
        else if j + a = s.size then (if bt s i % 16 = 0 then some ([⟨s.extract j (j + a), 0, 0⟩], n + a) else none)
        else if s.size < j + a + 2 then none
        else match mo s (j + a + 2) (bt s i % 16) with
          | none => none
          | some (b, k) =>
            if ds s (j + a) = 0 ∨ n + a < ds s (j + a) then none
            else (psG s f k (n + a + (b + 4))).map fun r => (⟨s.extract j (j + a), ds s (j + a), b + 4⟩ :: r.1, r.2)
    else none
def pq (s : ByteArray) (i n : Nat) : Option (List SQ × Nat) := psG s (s.size - i) i n
def ps (s : ByteArray) : Option (List SQ × Nat) := pq s 0 0
section
variable {s : ByteArray}
theorem psG_enough : ∀ (f f' i n : Nat), s.size - i ≤ f → s.size - i ≤ f' → psG s f i n = psG s f' i n
  | 0, 0, _, _, _, _ => rfl
  | 0, f' + 1, i, n, h, _ => by rw [psG, psG, if_neg (by omega)]
  | f + 1, 0, i, n, _, h => by rw [psG, psG, if_neg (by omega)]
  | f + 1, f' + 1, i, n, h1, h2 => by
    rw [psG, psG]
    by_cases hi : i < s.size
    · rw [if_pos hi, if_pos hi]
      cases hm : mo s (i + 1) (bt s i / 16) with
      | none => rfl
      | some r =>
        obtain ⟨a, j⟩ := r
        have := mo_spec (by omega) hm
        by_cases c1 : s.size - j < a
        · simp only [if_pos c1]
        · by_cases c2 : j + a = s.size
          · simp only [if_neg c1, if_pos c2]
          · by_cases c3 : s.size < j + a + 2
            · simp only [if_neg c1, if_neg c2, if_pos c3]
            · simp only [if_neg c1, if_neg c2, if_neg c3]
              cases hk : mo s (j + a + 2) (bt s i % 16) with
              | none => rfl
              | some r =>
                obtain ⟨b, k⟩ := r
                have := mo_spec (by omega) hk
                by_cases c4 : ds s (j + a) = 0 ∨ n + a < ds s (j + a)
                · simp only [if_pos c4]
                · simp only [if_neg c4]
                  rw [psG_enough f f' k _ (by omega) (by omega)]
    · rw [if_neg hi, if_neg hi]
theorem pq_end {i n : Nat} (h : s.size ≤ i) : pq s i n = none := by rw [pq, show s.size - i = 0 by omega]; rfl
theorem pq_one {i n : Nat} (h : i < s.size) : pq s i n =
      match mo s (i + 1) (bt s i / 16) with
      | none => none
      | some (a, j) =>
        if s.size - j < a then none
        else if j + a = s.size then (if bt s i % 16 = 0 then some ([⟨s.extract j (j + a), 0, 0⟩], n + a) else none)
        else if s.size < j + a + 2 then none
        else match mo s (j + a + 2) (bt s i % 16) with
          | none => none
          | some (b, k) =>
            if ds s (j + a) = 0 ∨ n + a < ds s (j + a) then none
            else (pq s k (n + a + (b + 4))).map fun r => (⟨s.extract j (j + a), ds s (j + a), b + 4⟩ :: r.1, r.2) := by
  rw [pq, show s.size - i = (s.size - (i + 1)) + 1 by omega, psG, if_pos h]
  cases hm : mo s (i + 1) (bt s i / 16) with
  | none => rfl
  | some r =>
    obtain ⟨a, j⟩ := r
    have h1 := mo_spec (by omega) hm
    by_cases c1 : s.size - j < a
    · simp only [if_pos c1]
    · by_cases c2 : j + a = s.size
      · simp only [if_neg c1, if_pos c2]
      · by_cases c3 : s.size < j + a + 2
        · simp only [if_neg c1, if_neg c2, if_pos c3]
        · simp only [if_neg c1, if_neg c2, if_neg c3]
          cases hk : mo s (j + a + 2) (bt s i % 16) with
          | none => rfl
          | some r =>
            obtain ⟨b, k⟩ := r
            have h2 := mo_spec (by omega) hk
            simp only
            rw [psG_enough (s.size - (i + 1)) (s.size - k) k _ (by omega) (Nat.le_refl _), pq]
variable {i n a j b k : Nat}
theorem pq_bad (h : i < s.size) (h1 : mo s (i + 1) (bt s i / 16) = none) : pq s i n = none := by rw [pq_one h, h1]
theorem pq_cut (h : i < s.size) (h1 : mo s (i + 1) (bt s i / 16) = some (a, j)) (h2 : s.size - j < a) : pq s i n = none := by
  rw [pq_one h, h1]
  exact if_pos h2
theorem pq_last (h : i < s.size) (h1 : mo s (i + 1) (bt s i / 16) = some (a, j)) (h2 : ¬ s.size - j < a) (h3 : j + a = s.size) : pq s i n = if bt s i % 16 = 0 then some ([⟨s.extract j (j + a), 0, 0⟩], n + a) else none := by
  rw [pq_one h, h1]
  show (if _ then _ else if _ then _ else _) = _
  rw [if_neg h2, if_pos h3]
theorem pq_two (h : i < s.size) (h1 : mo s (i + 1) (bt s i / 16) = some (a, j)) (h2 : ¬ s.size - j < a) (h3 : ¬ j + a = s.size) (h4 : s.size < j + a + 2) : pq s i n = none := by
  rw [pq_one h, h1]
  show (if _ then _ else if _ then _ else if _ then _ else _) = _
  rw [if_neg h2, if_neg h3, if_pos h4]
theorem pq_bad2 (h : i < s.size) (h1 : mo s (i + 1) (bt s i / 16) = some (a, j)) (h2 : ¬ s.size - j < a) (h3 : ¬ j + a = s.size) (h4 : ¬ s.size < j + a + 2) (h5 : mo s (j + a + 2) (bt s i % 16) = none) : pq s i n = none := by
  rw [pq_one h, h1]
  show (if _ then _ else if _ then _ else if _ then _ else _) = _
  rw [if_neg h2, if_neg h3, if_neg h4, h5]
theorem pq_far (h : i < s.size) (h1 : mo s (i + 1) (bt s i / 16) = some (a, j)) (h2 : ¬ s.size - j < a) (h3 : ¬ j + a = s.size) (h4 : ¬ s.size < j + a + 2) (h5 : mo s (j + a + 2) (bt s i % 16) = some (b, k)) (h6 : ds s (j + a) = 0 ∨ n + a < ds s (j + a)) : pq s i n = none := by
  rw [pq_one h, h1]
  show (if _ then _ else if _ then _ else if _ then _ else _) = _
  rw [if_neg h2, if_neg h3, if_neg h4, h5]
  exact if_pos h6
theorem pq_go (h : i < s.size) (h1 : mo s (i + 1) (bt s i / 16) = some (a, j)) (h2 : ¬ s.size - j < a) (h3 : ¬ j + a = s.size) (h4 : ¬ s.size < j + a + 2) (h5 : mo s (j + a + 2) (bt s i % 16) = some (b, k)) (h6 : ¬ (ds s (j + a) = 0 ∨ n + a < ds s (j + a))) :
    pq s i n = (pq s k (n + a + (b + 4))).map fun r => (⟨s.extract j (j + a), ds s (j + a), b + 4⟩ :: r.1, r.2) := by
  rw [pq_one h, h1]
  show (if _ then _ else if _ then _ else if _ then _ else _) = _
  rw [if_neg h2, if_neg h3, if_neg h4, h5]
  exact if_neg h6
end
/-- Sequences that can be unpacked, n bytes having been; t bytes in all. -/
def VS : Nat → List SQ → Nat → Prop
  | n, [], t => t = n
  | n, q :: r, t => q.dist ≤ n + q.lit.size ∧ (q.dist = 0 ↔ r = []) ∧ (q.long = 0 ↔ r = []) ∧ VS (n + q.lit.size + q.long) r t
theorem VS.le : ∀ {l : List SQ} {n t : Nat}, VS n l t → n ≤ t
  | [], n, t, h => by rw [VS] at h; omega
  | q :: r, n, t, h => by have := VS.le h.2.2.2; omega
theorem pq_vs {s : ByteArray} : ∀ (f i n : Nat) {l : List SQ} {t : Nat}, s.size - i ≤ f → pq s i n = some (l, t) → VS n l t ∧ l ≠ [] ∧ l.length ≤ s.size - i ∧ t ≤ n + 289 * (s.size - i)
  | f, i, n, l, t, hf, h => by
    by_cases hi : i < s.size
    · cases hm : mo s (i + 1) (bt s i / 16) with
      | none => rw [pq_bad hi hm] at h; cases h
      | some r =>
        obtain ⟨a, j⟩ := r
        have g1 := mo_spec (by omega) hm
        have hb := bt_lt s i
        by_cases c1 : s.size - j < a
        · rw [pq_cut hi hm c1] at h; cases h
        · have hx : (s.extract j (j + a)).size = a := by rw [ByteArray.size_extract]; omega
          by_cases c2 : j + a = s.size
          · rw [pq_last hi hm c1 c2] at h
            split at h
            · simp only [Option.some.injEq, Prod.mk.injEq] at h
              obtain ⟨rfl, rfl⟩ := h
              refine ⟨⟨Nat.zero_le _, by simp, by simp, ?_⟩, by simp, by simp; omega, by omega⟩
              show n + a = n + (s.extract j (j + a)).size + 0
              omega
            · cases h
          · by_cases c3 : s.size < j + a + 2
            · rw [pq_two hi hm c1 c2 c3] at h; cases h
            · cases hk : mo s (j + a + 2) (bt s i % 16) with
              | none => rw [pq_bad2 hi hm c1 c2 c3 hk] at h; cases h
              | some r =>
                obtain ⟨b, k⟩ := r
                have g2 := mo_spec (by omega) hk
                by_cases c4 : ds s (j + a) = 0 ∨ n + a < ds s (j + a)
                · rw [pq_far hi hm c1 c2 c3 hk c4] at h; cases h
                · rw [pq_go hi hm c1 c2 c3 hk c4] at h
                  cases hr : pq s k (n + a + (b + 4)) with
                  | none => rw [hr] at h; cases h
                  | some r =>
                    obtain ⟨l', t'⟩ := r
                    rw [hr] at h
                    simp only [Option.map_some, Option.some.injEq, Prod.mk.injEq] at h
                    obtain ⟨rfl, rfl⟩ := h
                    match f, hf with
                    | 0, hf => omega
                    | f + 1, hf =>
                      obtain ⟨v1, v2, v3, v4⟩ := pq_vs f k _ (by omega) hr
                      refine ⟨⟨?_, ?_, ?_, ?_⟩, by simp, ?_, ?_⟩
                      · show ds s (j + a) ≤ n + (s.extract j (j + a)).size
                        omega
                      · constructor
                        · intro e
                          exact absurd (.inl e) c4
                        · intro e
                          exact absurd e v2
                      · constructor
                        · intro e
                          cases e
                        · intro e
                          exact absurd e v2
                      · show VS (n + (s.extract j (j + a)).size + (b + 4)) l' t'
                        rw [hx]
                        exact v1
                      · rw [List.length_cons]
                        omega
                      · omega
    · rw [pq_end (by omega)] at h; cases h
/-! ### What is unpacked -/
def rp (d : Nat) : Nat → List UInt8 → List UInt8
  | 0, out => out
  | k + 1, out => rp d k (out ++ [out.getD (out.length - d) 0])
def opn : List SQ → List UInt8 → List UInt8
  | [], out => out
  | q :: r, out => opn r (rp q.dist q.long (out ++ q.lit.data.toList))
theorem rp_len (d : Nat) : ∀ (k : Nat) (out : List UInt8), (rp d k out).length = out.length + k
  | 0, out => rfl
  | k + 1, out => by rw [rp, rp_len d k, List.length_append, List.length_singleton]; omega
theorem opn_len : ∀ {l : List SQ} {out : List UInt8} {t : Nat}, VS out.length l t → (opn l out).length = t
  | [], out, t, h => h.symm
  | q :: r, out, t, h => by
    rw [opn]
    refine opn_len ?_
    rw [rp_len, List.length_append]
    have e : q.lit.data.toList.length = q.lit.size := by simp
    rw [e]
    exact h.2.2.2
end Go.Proofs.YtgigiamnhjelmaaDoor

/-
  Lz: one sequence of a block, and all of them, up to the first that is wrong.
-/
import Derived.Test.YtgigiamnhjelmaaDoorLzUnp
namespace Go.Proofs.YtgigiamnhjelmaaDoor
/-- The sequence at a place, n bytes having been unpacked; the place behind it. -/
def stp (s : ByteArray) (i n : Nat) : Option (SQ × Nat) :=
  if i < s.size then
    match mo s (i + 1) (bt s i / 16) with
    | none => none
    | some (a, j) =>
      if s.size - j < a then none
      else if j + a = s.size then (if bt s i % 16 = 0 then some (⟨s.extract j (j + a), 0, 0⟩, s.size) else none)
      else if s.size < j + a + 2 then none
      else match mo s (j + a + 2) (bt s i % 16) with
        | none => none
        | some (b, k) => if ds s (j + a) = 0 ∨ n + a < ds s (j + a) then none else some (⟨s.extract j (j + a), ds s (j + a), b + 4⟩, k)
  else none
section
variable {s : ByteArray} {i n a j b k : Nat}
theorem st_end (h : s.size ≤ i) : stp s i n = none := if_neg (by omega)
theorem st_bad (h : i < s.size) (h1 : mo s (i + 1) (bt s i / 16) = none) : stp s i n = none := by rw [stp, if_pos h, h1]
theorem st_cut (h : i < s.size) (h1 : mo s (i + 1) (bt s i / 16) = some (a, j)) (h2 : s.size - j < a) : stp s i n = none := by
  rw [stp, if_pos h, h1]
  exact if_pos h2
theorem st_last (h : i < s.size) (h1 : mo s (i + 1) (bt s i / 16) = some (a, j)) (h2 : ¬ s.size - j < a) (h3 : j + a = s.size) : stp s i n = if bt s i % 16 = 0 then some (⟨s.extract j (j + a), 0, 0⟩, s.size) else none := by
  rw [stp, if_pos h, h1]
  show (if _ then _ else if _ then _ else _) = _
  rw [if_neg h2, if_pos h3]
theorem st_two (h : i < s.size) (h1 : mo s (i + 1) (bt s i / 16) = some (a, j)) (h2 : ¬ s.size - j < a) (h3 : ¬ j + a = s.size) (h4 : s.size < j + a + 2) : stp s i n = none := by
  rw [stp, if_pos h, h1]
  show (if _ then _ else if _ then _ else if _ then _ else _) = _
  rw [if_neg h2, if_neg h3, if_pos h4]
theorem st_bad2 (h : i < s.size) (h1 : mo s (i + 1) (bt s i / 16) = some (a, j)) (h2 : ¬ s.size - j < a) (h3 : ¬ j + a = s.size) (h4 : ¬ s.size < j + a + 2) (h5 : mo s (j + a + 2) (bt s i % 16) = none) : stp s i n = none := by
  rw [stp, if_pos h, h1]
  show (if _ then _ else if _ then _ else if _ then _ else _) = _
  rw [if_neg h2, if_neg h3, if_neg h4, h5]
theorem st_far (h : i < s.size) (h1 : mo s (i + 1) (bt s i / 16) = some (a, j)) (h2 : ¬ s.size - j < a) (h3 : ¬ j + a = s.size) (h4 : ¬ s.size < j + a + 2) (h6 : ds s (j + a) = 0 ∨ n + a < ds s (j + a)) : stp s i n = none := by
  rw [stp, if_pos h, h1]
  show (if _ then _ else if _ then _ else if _ then _ else _) = _
  rw [if_neg h2, if_neg h3, if_neg h4]
  cases mo s (j + a + 2) (bt s i % 16) with
  | none => rfl
  | some r => exact if_pos h6
theorem st_go (h : i < s.size) (h1 : mo s (i + 1) (bt s i / 16) = some (a, j)) (h2 : ¬ s.size - j < a) (h3 : ¬ j + a = s.size) (h4 : ¬ s.size < j + a + 2) (h5 : mo s (j + a + 2) (bt s i % 16) = some (b, k)) (h6 : ¬ (ds s (j + a) = 0 ∨ n + a < ds s (j + a))) :
    stp s i n = some (⟨s.extract j (j + a), ds s (j + a), b + 4⟩, k) := by
  rw [stp, if_pos h, h1]
  show (if _ then _ else if _ then _ else if _ then _ else _) = _
  rw [if_neg h2, if_neg h3, if_neg h4, h5]
  exact if_neg h6
/-- The sequences are those of the steps. -/
theorem pq_stp (s : ByteArray) (i n : Nat) : pq s i n = match stp s i n with
    | none => none
    | some (q, k) => if q.long = 0 then some ([q], n + q.lit.size) else (pq s k (n + q.lit.size + q.long)).map fun r => (q :: r.1, r.2) := by
  by_cases h : i < s.size
  · cases h1 : mo s (i + 1) (bt s i / 16) with
    | none => rw [pq_bad h h1, st_bad h h1]
    | some r =>
      obtain ⟨a, j⟩ := r
      have g1 := mo_spec (by omega) h1
      by_cases h2 : s.size - j < a
      · rw [pq_cut h h1 h2, st_cut h h1 h2]
      · have hx : (s.extract j (j + a)).size = a := by rw [ByteArray.size_extract]; omega
        by_cases h3 : j + a = s.size
        · rw [pq_last h h1 h2 h3, st_last h h1 h2 h3]
          split
          · show _ = if 0 = 0 then some ([_], n + (s.extract j (j + a)).size) else _
            rw [if_pos rfl, hx]
          · rfl
        · by_cases h4 : s.size < j + a + 2
          · rw [pq_two h h1 h2 h3 h4, st_two h h1 h2 h3 h4]
          · cases h5 : mo s (j + a + 2) (bt s i % 16) with
            | none => rw [pq_bad2 h h1 h2 h3 h4 h5, st_bad2 h h1 h2 h3 h4 h5]
            | some r =>
              obtain ⟨b, k⟩ := r
              by_cases h6 : ds s (j + a) = 0 ∨ n + a < ds s (j + a)
              · rw [pq_far h h1 h2 h3 h4 h5 h6, st_far h h1 h2 h3 h4 h6]
              · rw [pq_go h h1 h2 h3 h4 h5 h6, st_go h h1 h2 h3 h4 h5 h6]
                show _ = if b + 4 = 0 then _ else (pq s k (n + (s.extract j (j + a)).size + (b + 4))).map _
                rw [if_neg (by omega), hx]
  · rw [pq_end (by omega), st_end (by omega)]
theorem stp_spec {q : SQ} (h : stp s i n = some (q, k)) : i < k ∧ k ≤ s.size ∧ q.lit.size ≤ s.size - i ∧ q.lit.size + q.long ≤ 289 * (k - i) ∧ q.dist ≤ 65535 ∧ (q.long = 0 → q.dist = 0 ∧ k = s.size) ∧ (¬ q.long = 0 → 4 ≤ q.long ∧ 1 ≤ q.dist ∧ q.dist ≤ n + q.lit.size) := by
  by_cases hi : i < s.size
  · cases h1 : mo s (i + 1) (bt s i / 16) with
    | none => rw [st_bad hi h1] at h; cases h
    | some r =>
      obtain ⟨a, j⟩ := r
      have g1 := mo_spec (by omega) h1
      have hb := bt_lt s i
      by_cases h2 : s.size - j < a
      · rw [st_cut hi h1 h2] at h; cases h
      · have hx : (s.extract j (j + a)).size = a := by rw [ByteArray.size_extract]; omega
        by_cases h3 : j + a = s.size
        · rw [st_last hi h1 h2 h3] at h
          split at h
          · simp only [Option.some.injEq, Prod.mk.injEq] at h
            obtain ⟨rfl, rfl⟩ := h
            simp only [hx]
            exact ⟨by omega, by omega, by omega, by omega, by omega, fun _ => by simp, fun h => absurd trivial h⟩
          · cases h
        · by_cases h4 : s.size < j + a + 2
          · rw [st_two hi h1 h2 h3 h4] at h; cases h
          · cases h5 : mo s (j + a + 2) (bt s i % 16) with
            | none => rw [st_bad2 hi h1 h2 h3 h4 h5] at h; cases h
            | some r =>
              obtain ⟨b, k2⟩ := r
              have g2 := mo_spec (by omega) h5
              by_cases h6 : ds s (j + a) = 0 ∨ n + a < ds s (j + a)
              · rw [st_far hi h1 h2 h3 h4 h6] at h; cases h
              · rw [st_go hi h1 h2 h3 h4 h5 h6] at h
                simp only [Option.some.injEq, Prod.mk.injEq] at h
                obtain ⟨rfl, rfl⟩ := h
                have d1 := bt_lt s (j + a)
                have d2 := bt_lt s (j + a + 1)
                have d3 : ds s (j + a) ≤ 65535 := by rw [ds]; omega
                simp only [hx]
                exact ⟨by omega, by omega, by omega, by omega, d3, fun h => absurd h (by omega), fun _ => ⟨by omega, by omega, by omega⟩⟩
  · rw [st_end (by omega)] at h; cases h
/-- All sequences, up to the first that is wrong; is none? -/
def wkG (s : ByteArray) : Nat → Nat → Nat → List SQ × Bool
  | 0, _, _ => ([], false)
  | f + 1, i, n => match stp s i n with
    | none => ([], false)
    | some (q, k) => if q.long = 0 then ([q], true) else (q :: (wkG s f k (n + q.lit.size + q.long)).1, (wkG s f k (n + q.lit.size + q.long)).2)
def wk (s : ByteArray) (i n : Nat) : List SQ × Bool := wkG s (s.size - i) i n
theorem wkG_enough : ∀ (f f' i n : Nat), s.size - i ≤ f → s.size - i ≤ f' → wkG s f i n = wkG s f' i n
  | 0, 0, _, _, _, _ => rfl
  | 0, f' + 1, i, n, h, _ => by rw [wkG, wkG, st_end (by omega)]
  | f + 1, 0, i, n, _, h => by rw [wkG, wkG, st_end (by omega)]
  | f + 1, f' + 1, i, n, h1, h2 => by
    rw [wkG, wkG]
    cases hm : stp s i n with
    | none => rfl
    | some r =>
      obtain ⟨q, k⟩ := r
      have := stp_spec hm
      simp only
      rw [wkG_enough f f' k _ (by omega) (by omega)]
theorem wk_one (s : ByteArray) (i n : Nat) : wk s i n = match stp s i n with
    | none => ([], false)
    | some (q, k) => if q.long = 0 then ([q], true) else (q :: (wk s k (n + q.lit.size + q.long)).1, (wk s k (n + q.lit.size + q.long)).2) := by
  by_cases h : i < s.size
  · rw [wk, show s.size - i = (s.size - (i + 1)) + 1 by omega, wkG]
    cases hm : stp s i n with
    | none => rfl
    | some r =>
      obtain ⟨q, k⟩ := r
      have := stp_spec hm
      simp only
      rw [wkG_enough (s.size - (i + 1)) (s.size - k) k _ (by omega) (Nat.le_refl _)]
      rfl
  · rw [st_end (by omega), wk, show s.size - i = 0 by omega]
    rfl
theorem wk_no (h : stp s i n = none) : wk s i n = ([], false) := by rw [wk_one, h]
theorem wk_last {q : SQ} (h : stp s i n = some (q, k)) (h0 : q.long = 0) : wk s i n = ([q], true) := by
  rw [wk_one, h]
  exact if_pos h0
theorem wk_go {q : SQ} (h : stp s i n = some (q, k)) (h0 : ¬ q.long = 0) : wk s i n = (q :: (wk s k (n + q.lit.size + q.long)).1, (wk s k (n + q.lit.size + q.long)).2) := by
  rw [wk_one, h]
  exact if_neg h0
def sqn (l : List SQ) : Nat := (l.map fun q => q.lit.size + q.long).sum
theorem sqn_cons (q : SQ) (l : List SQ) : sqn (q :: l) = q.lit.size + q.long + sqn l := by simp [sqn]
theorem pq_wk : ∀ (f i n : Nat), s.size - i ≤ f → pq s i n = if (wk s i n).2 = true then some ((wk s i n).1, n + sqn (wk s i n).1) else none
  | f, i, n, hf => by
    rw [pq_stp]
    cases hm : stp s i n with
    | none => rw [wk_no hm]; rfl
    | some r =>
      obtain ⟨q, k⟩ := r
      have hsp := stp_spec hm
      simp only
      by_cases h0 : q.long = 0
      · rw [if_pos h0, wk_last hm h0]
        simp [sqn, h0]
      · rw [if_neg h0, wk_go hm h0]
        match f, hf with
        | 0, hf => omega
        | f + 1, hf =>
          rw [pq_wk f k _ (by omega)]
          split
          · simp only [Option.map_some]
            rw [sqn_cons]
            congr 2
            omega
          · rfl
theorem ps_wk (s : ByteArray) : ps s = if (wk s 0 0).2 = true then some ((wk s 0 0).1, sqn (wk s 0 0).1) else none := by
  rw [ps, pq_wk s.size 0 0 (by omega), Nat.zero_add]
end
end Go.Proofs.YtgigiamnhjelmaaDoor

/-
  Lz: a block and its beginnings, in plain terms.
-/
import Derived.Test.YtgigiamnhjelmaaDoorLzMath
namespace Go.Proofs.YtgigiamnhjelmaaDoor
/-- p is what q begins with. -/
structure Pre (p q : ByteArray) : Prop where
  sz : p.size ≤ q.size
  at_ : ∀ i, i < p.size → bt p i = bt q i
section
variable {p q : ByteArray}
theorem moG_pre (h : Pre p q) : ∀ (f f' i n : Nat) {r : Nat × Nat}, p.size - i ≤ f → q.size - i ≤ f' → moG p f i n = some r → moG q f' i n = some r
  | 0, _, _, _, _, _, _, hm => by cases hm
  | f + 1, f', i, n, r, h1, h2, hm => by
    rw [moG] at hm
    by_cases hi : i < p.size
    · rw [if_pos hi] at hm
      have hq : i < q.size := by have := h.sz; omega
      obtain ⟨g, rfl⟩ : ∃ g, f' = g + 1 := ⟨f' - 1, by omega⟩
      rw [moG, if_pos hq, ← h.at_ i hi]
      by_cases hb : bt p i < 255
      · rw [if_pos hb] at hm ⊢
        exact hm
      · rw [if_neg hb] at hm ⊢
        exact moG_pre h f g (i + 1) _ (by omega) (by omega) hm
    · rw [if_neg hi] at hm
      cases hm
theorem mo_pre (h : Pre p q) {i n : Nat} {r : Nat × Nat} (hm : mo p i n = some r) : mo q i n = some r := by
  rw [mo] at hm ⊢
  split at hm
  · rename_i hn
    rw [if_pos hn]
    exact hm
  · rename_i hn
    rw [if_neg hn]
    exact moG_pre h _ _ _ _ (Nat.le_refl _) (Nat.le_refl _) hm
theorem pq_least {s : ByteArray} {i n : Nat} {l : List SQ} {t : Nat} (h : pq s i n = some (l, t)) : n ≤ t := (pq_vs (s.size - i) i n (Nat.le_refl _) h).1.le
theorem pq_pre (h : Pre p q) (hlt : p.size < q.size) : ∀ (f i n : Nat) {l : List SQ} {t : Nat}, p.size - i ≤ f → pq p i n = some (l, t) → pq q i n = none ∨ ∃ l' t', pq q i n = some (l', t') ∧ t < t'
  | f, i, n, l, t, hf, hp => by
    by_cases hi : i < p.size
    · have hiq : i < q.size := by omega
      have hbi := h.at_ i hi
      cases hm : mo p (i + 1) (bt p i / 16) with
      | none => rw [pq_bad hi hm] at hp; cases hp
      | some r =>
        obtain ⟨a, j⟩ := r
        have g1 := mo_spec (by omega) hm
        have hmq := mo_pre h hm
        rw [hbi] at hmq
        by_cases c1 : p.size - j < a
        · rw [pq_cut hi hm c1] at hp; cases hp
        have c1q : ¬ q.size - j < a := by omega
        by_cases c2 : j + a = p.size
        · rw [pq_last hi hm c1 c2] at hp
          split at hp
          · simp only [Option.some.injEq, Prod.mk.injEq] at hp
            have c2q : ¬ j + a = q.size := by omega
            by_cases c3 : q.size < j + a + 2
            · exact .inl (pq_two hiq hmq c1q c2q c3)
            · cases hk : mo q (j + a + 2) (bt q i % 16) with
              | none => exact .inl (pq_bad2 hiq hmq c1q c2q c3 hk)
              | some r =>
                obtain ⟨b, k⟩ := r
                by_cases c4 : ds q (j + a) = 0 ∨ n + a < ds q (j + a)
                · exact .inl (pq_far hiq hmq c1q c2q c3 hk c4)
                · rw [pq_go hiq hmq c1q c2q c3 hk c4]
                  cases hr : pq q k (n + a + (b + 4)) with
                  | none => exact .inl rfl
                  | some r =>
                    obtain ⟨l2, t2⟩ := r
                    have := pq_least hr
                    exact .inr ⟨_, t2, rfl, by omega⟩
          · cases hp
        · by_cases c3 : p.size < j + a + 2
          · rw [pq_two hi hm c1 c2 c3] at hp; cases hp
          · have c2q : ¬ j + a = q.size := by omega
            have c3q : ¬ q.size < j + a + 2 := by omega
            cases hk : mo p (j + a + 2) (bt p i % 16) with
            | none => rw [pq_bad2 hi hm c1 c2 c3 hk] at hp; cases hp
            | some r =>
              obtain ⟨b, k⟩ := r
              have g2 := mo_spec (by omega) hk
              have hkq := mo_pre h hk
              rw [hbi] at hkq
              have hd : ds p (j + a) = ds q (j + a) := by rw [ds, ds, h.at_ _ (by omega), h.at_ _ (by omega)]
              by_cases c4 : ds p (j + a) = 0 ∨ n + a < ds p (j + a)
              · rw [pq_far hi hm c1 c2 c3 hk c4] at hp; cases hp
              · rw [pq_go hi hm c1 c2 c3 hk c4] at hp
                cases hr : pq p k (n + a + (b + 4)) with
                | none => rw [hr] at hp; cases hp
                | some r =>
                  obtain ⟨l2, t2⟩ := r
                  rw [hr] at hp
                  simp only [Option.map_some, Option.some.injEq, Prod.mk.injEq] at hp
                  obtain ⟨_, rfl⟩ := hp
                  match f, hf with
                  | 0, hf => omega
                  | f + 1, hf =>
                    rw [pq_go hiq hmq c1q c2q c3q hkq (by rw [← hd]; exact c4)]
                    rcases pq_pre h hlt f k _ (by omega) hr with h0 | ⟨l3, t3, h0, h4⟩
                    · rw [h0]; exact .inl rfl
                    · rw [h0]; exact .inr ⟨_, t3, rfl, h4⟩
    · rw [pq_end (by omega)] at hp; cases hp
theorem ps_pre (h : Pre p q) (hlt : p.size < q.size) {l : List SQ} {t : Nat} (hp : ps p = some (l, t)) : ps q = none ∨ ∃ l' t', ps q = some (l', t') ∧ t < t' := pq_pre h hlt p.size 0 0 (by omega) hp
end
theorem bt_extract {s : ByteArray} {k i : Nat} (hi : i < k) (hk : k ≤ s.size) : bt (s.extract 0 k) i = bt s i := by
  have h1 : i < (s.extract 0 k).size := by rw [ByteArray.size_extract]; omega
  rw [bt_at h1, bt_at (show i < s.size by omega)]
  congr 1
  rw [ByteArray.getElem_extract]
  simp
theorem pre_take {s : ByteArray} {k : Nat} (hk : k ≤ s.size) : Pre (s.extract 0 k) s :=
  ⟨by rw [ByteArray.size_extract]; omega, fun i hi => bt_extract (by rw [ByteArray.size_extract] at hi; omega) hk⟩
theorem pre_app (s t : ByteArray) : Pre s (s ++ t) := by
  refine ⟨by rw [ByteArray.size_append]; omega, fun i hi => ?_⟩
  have h2 : i < (s ++ t).size := by rw [ByteArray.size_append]; omega
  rw [bt_at hi, bt_at h2]
  congr 1
  rw [ByteArray.getElem_append_left hi]
end Go.Proofs.YtgigiamnhjelmaaDoor

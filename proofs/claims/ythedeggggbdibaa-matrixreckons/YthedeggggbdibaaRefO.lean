/-
  The program and the document's own answer alike: Mul, Inverse, Rank, Turn, Pick.
-/
import Derived.Test.YthedeggggbdibaaRefN
import Derived.Test.YthedeggggbdibaaMakesLaw
namespace Go.Proofs.Ythedeggggbdibaa
open Go.RowKit Go.Lib

theorem NX.congr {w : World} {f n : Nat} {v : Value} {Z Z' : Nat → Int} (h : NX w f v n Z) (e : ∀ t, t < n → Z t = Z' t) : NX w f v n Z' := by
  obtain ⟨a, c, rfl, hc, h⟩ := h
  refine ⟨a, c, rfl, hc, ?_⟩
  rcases h with h | ⟨bl, off, rfl, hbl, hf, hc⟩
  · exact .inl h
  · exact .inr ⟨bl, off, rfl, hbl, hf, fun j hj => by rw [← e j hj]; exact hc j hj⟩
theorem chk_out {r c : Int} {n : Nat} {Z : Nat → Int} (h : chk r c n Z = 0) : ∃ (r' c' : Nat) (A : Nat → K), r = r' ∧ c = c' ∧ 1 ≤ r' ∧ r' ≤ 255 ∧ 1 ≤ c' ∧ c' ≤ 255 ∧ n = r' * c' ∧ ∀ t, t < n → Z t = (((A t).v : Nat) : Int) := by
  unfold chk at h
  by_cases h1 : isSd r = false
  · rw [if_pos h1] at h; cases h
  rw [if_neg h1] at h
  by_cases h2 : isSd c = false
  · rw [if_pos h2] at h; cases h
  rw [if_neg h2] at h
  by_cases h3 : (n : Int) ≠ r * c
  · rw [if_pos h3] at h; cases h
  rw [if_neg h3] at h
  by_cases h4 : upB 255 Z n = false
  · rw [if_pos h4] at h; cases h
  obtain ⟨r', rfl, a1, a2⟩ := isSd_out (by simpa using h1)
  obtain ⟨c', rfl, b1, b2⟩ := isSd_out (by simpa using h2)
  have h4 : upB 255 Z n = true := by simpa using h4
  refine ⟨r', c', fun t => ⟨(Z t).toNat % 256, Nat.mod_lt _ (by decide)⟩, rfl, rfl, a1, a2, b1, b2, ?_, fun t ht => ?_⟩
  · have h3 : (n : Int) = (r' : Int) * (c' : Int) := Decidable.byContradiction h3
    rw [← Int.natCast_mul] at h3
    exact_mod_cast h3
  · have := upB_at 255 Z n t h4 ht
    show Z t = (((Z t).toNat % 256 : Nat) : Int)
    omega
/-- What both answer is the same. -/
def Alike1 (pf : World → Nat → Nat → Value → (Ending → World → Prop) → Prop) (rf : World → Value → (Ending → World → Prop) → Prop) (n : Nat) (Z : Nat → Int) : Prop :=
  ∃ D : MD, D.n ≤ 140737488355328 ∧
    (∀ w sb f va, SP w sb f → NX w f va n Z → pf w sb f va fun e w' => ∃ v, e = .returned (.tuple #[.agg #[.int .i64 D.r, .int .i64 D.c, v], .int .i64 D.e]) ∧ NX w' f v D.n D.Z ∧ SP w' sb f ∧ w.grownBy w' (some f)) ∧
    (∀ w f va, f < w.heap.size → NX w f va n Z → rf w va fun e w' => ∃ v, e = .returned (.tuple #[.agg #[.int .i64 D.r, .int .i64 D.c, v], .int .i64 D.e]) ∧ NX w' f v D.n D.Z ∧ Below w.heap.size w w')

theorem mul_both (ra ca rb cb : Int) (na nb : Nat) (Za Zb : Nat → Int) (hna : na ≤ 140737488355328) (hnb : nb ≤ 140737488355328) : ∃ D : MD, D.n ≤ 140737488355328 ∧
    (∀ w sb f va vb, SP w sb f → NX w f va na Za → NX w f vb nb Zb → Calls Try.prog 12 #[.pointer (some ⟨sb, 0, none⟩), .agg #[.int .i64 ra, .int .i64 ca, va], .agg #[.int .i64 rb, .int .i64 cb, vb]] w fun e w' => ∃ v, e = .returned (.tuple #[.agg #[.int .i64 D.r, .int .i64 D.c, v], .int .i64 D.e]) ∧ NX w' f v D.n D.Z ∧ SP w' sb f ∧ w.grownBy w' (some f)) ∧
    (∀ w f va vb, f < w.heap.size → NX w f va na Za → NX w f vb nb Zb → Calls Try.prog 13 #[.agg #[.int .i64 ra, .int .i64 ca, va], .agg #[.int .i64 rb, .int .i64 cb, vb]] w fun e w' => ∃ v, e = .returned (.tuple #[.agg #[.int .i64 D.r, .int .i64 D.c, v], .int .i64 D.e]) ∧ NX w' f v D.n D.Z ∧ Below w.heap.size w w') := by
  by_cases h1 : chk ra ca na Za = 0
  · by_cases h2 : chk rb cb nb Zb = 0
    · by_cases h3 : ca = rb
      · obtain ⟨ra', ca', A, rfl, rfl, a1, a2, a3, a4, rfl, hA⟩ := chk_out h1
        obtain ⟨rb', cb', B, rfl, rfl, b1, b2, b3, b4, rfl, hB⟩ := chk_out h2
        obtain rfl : ca' = rb' := by exact_mod_cast h3
        have hm : ra' * cb' ≤ 255 * 255 := Nat.mul_le_mul a2 b4
        refine ⟨⟨ra', cb', ra' * cb', kz (flat cb' (mm ca' (mt ca' A) (mt cb' B))), 0⟩, Nat.le_trans hm (by decide), fun w sb f va vb hS ha hb => ?_, fun w f va vb hf ha hb => ?_⟩
        · refine (mul_mat hS a1 a2 a3 a4 b3 b4 (ha.congr hA) (hb.congr hB)).mono ?_
          rintro e w' ⟨g, rfl, hG, _, hS', hgr⟩
          exact ⟨_, rfl, hG.nx (Nat.le_refl _) (hS'.kne hG), hS', hgr⟩
        · refine (refMul_ok a1 a2 a3 a4 b3 b4 (ha.congr hA) (hb.congr hB)).mono ?_
          rintro e w' ⟨g, rfl, hG, hg, hb'⟩
          exact ⟨_, rfl, hG.nx (f := f) (Nat.le_refl _) (by omega), hb'⟩
      · refine ⟨badD 4, by decide, fun w sb f va vb hS ha hb => ?_, fun w f va vb hf ha hb => ?_⟩
        · refine (mul_bad3 ha hb hna hnb h1 h2 h3).mono ?_
          rintro e w' ⟨rfl, hb'⟩
          exact ⟨_, rfl, NX.nil _ _ _, hS.below hb' (Nat.le_refl _), gb_below hb' _⟩
        · refine (refMul_bad3 ha hb hna hnb h1 h2 h3).mono ?_
          rintro e w' ⟨rfl, hb'⟩
          exact ⟨_, rfl, NX.nil _ _ _, hb'⟩
    · refine ⟨badD (chk rb cb nb Zb), Nat.zero_le _, fun w sb f va vb hS ha hb => ?_, fun w f va vb hf ha hb => ?_⟩
      · refine (mul_bad2 ha hb hna hnb h1 h2).mono ?_
        rintro e w' ⟨rfl, hb'⟩
        exact ⟨_, rfl, NX.nil _ _ _, hS.below hb' (Nat.le_refl _), gb_below hb' _⟩
      · refine (refMul_bad2 ha hb hna hnb h1 h2).mono ?_
        rintro e w' ⟨rfl, hb'⟩
        exact ⟨_, rfl, NX.nil _ _ _, hb'⟩
  · refine ⟨badD (chk ra ca na Za), Nat.zero_le _, fun w sb f va vb hS ha hb => ?_, fun w f va vb hf ha hb => ?_⟩
    · refine (mul_bad1 ha hb hna hnb h1).mono ?_
      rintro e w' ⟨rfl, hb'⟩
      exact ⟨_, rfl, NX.nil _ _ _, hS.below hb' (Nat.le_refl _), gb_below hb' _⟩
    · refine (refMul_bad1 ha hb hna hnb h1).mono ?_
      rintro e w' ⟨rfl, hb'⟩
      exact ⟨_, rfl, NX.nil _ _ _, hb'⟩

theorem inverse_both (r c : Int) (n : Nat) (Z : Nat → Int) (hn : n ≤ 1000) : Alike1 (fun w sb _ va Q => Calls Try.prog 15 #[.pointer (some ⟨sb, 0, none⟩), .agg #[.int .i64 r, .int .i64 c, va]] w Q) (fun w va Q => Calls Try.prog 16 #[.agg #[.int .i64 r, .int .i64 c, va]] w Q) n Z := by
  have hn' : n ≤ 140737488355328 := by omega
  by_cases h1 : chk r c n Z = 0
  · by_cases h3 : r = c
    · obtain ⟨r', c', A, rfl, rfl, a1, a2, a3, a4, rfl, hA⟩ := chk_out h1
      obtain rfl : r' = c' := by exact_mod_cast h3
      by_cases h4 : (redu r' (wideM r' A) r').2 = r'
      · refine ⟨⟨r', r', r' * r', kz (flat r' (fun i j => (redu r' (wideM r' A) r').1 i (r' + j))), 0⟩, hn', fun w sb f va hS ha => ?_, fun w f va hf ha => ?_⟩
        · refine (inverse_any hS a1 a2 (ha.congr hA)).mono ?_
          rintro e w' ⟨h, hS', hgr⟩
          rcases h with ⟨_, g, rfl, hG, hg⟩ | ⟨h, _⟩
          · exact ⟨_, rfl, hG.nx (Nat.le_refl _) (hS'.kne hG), hS', hgr⟩
          · omega
        · refine (refInverse_ok a1 a2 hn (ha.congr hA)).mono ?_
          rintro e w' ⟨h, hb'⟩
          rcases h with ⟨_, g, cp, rfl, hcp, hG, hg⟩ | ⟨h, _⟩
          · exact ⟨_, rfl, hG.nx (f := f) hcp (by omega), hb'⟩
          · omega
      · refine ⟨badD 40, by decide, fun w sb f va hS ha => ?_, fun w f va hf ha => ?_⟩
        · refine (inverse_any hS a1 a2 (ha.congr hA)).mono ?_
          rintro e w' ⟨h, hS', hgr⟩
          rcases h with ⟨h, _⟩ | ⟨_, rfl⟩
          · exact absurd h h4
          · exact ⟨_, rfl, NX.nil _ _ _, hS', hgr⟩
        · refine (refInverse_ok a1 a2 hn (ha.congr hA)).mono ?_
          rintro e w' ⟨h, hb'⟩
          rcases h with ⟨h, _⟩ | ⟨_, rfl⟩
          · exact absurd h h4
          · exact ⟨_, rfl, NX.nil _ _ _, hb'⟩
    · refine ⟨badD 4, by decide, fun w sb f va hS ha => ?_, fun w f va hf ha => ?_⟩
      · refine (inverse_bad2 ha hn' h1 h3).mono ?_
        rintro e w' ⟨rfl, hb'⟩
        exact ⟨_, rfl, NX.nil _ _ _, hS.below hb' (Nat.le_refl _), gb_below hb' _⟩
      · refine (refInverse_bad2 ha hn' h1 h3).mono ?_
        rintro e w' ⟨rfl, hb'⟩
        exact ⟨_, rfl, NX.nil _ _ _, hb'⟩
  · refine ⟨badD (chk r c n Z), Nat.zero_le _, fun w sb f va hS ha => ?_, fun w f va hf ha => ?_⟩
    · refine (inverse_bad ha hn' h1).mono ?_
      rintro e w' ⟨rfl, hb'⟩
      exact ⟨_, rfl, NX.nil _ _ _, hS.below hb' (Nat.le_refl _), gb_below hb' _⟩
    · refine (refInverse_bad ha hn' h1).mono ?_
      rintro e w' ⟨rfl, hb'⟩
      exact ⟨_, rfl, NX.nil _ _ _, hb'⟩

theorem rank_both (r c : Int) (n : Nat) (Z : Nat → Int) (hn : n ≤ 1000) : ∃ (k e0 : Int),
    (∀ w sb f va, SP w sb f → NX w f va n Z → Calls Try.prog 17 #[.pointer (some ⟨sb, 0, none⟩), .agg #[.int .i64 r, .int .i64 c, va]] w fun e w' => e = .returned (.tuple #[.int .i64 k, .int .i64 e0]) ∧ SP w' sb f ∧ w.grownBy w' (some f)) ∧
    (∀ w f va, NX w f va n Z → Calls Try.prog 18 #[.agg #[.int .i64 r, .int .i64 c, va]] w fun e w' => e = .returned (.tuple #[.int .i64 k, .int .i64 e0]) ∧ Below w.heap.size w w') := by
  have hn' : n ≤ 140737488355328 := by omega
  by_cases h1 : chk r c n Z = 0
  · obtain ⟨r', c', A, rfl, rfl, a1, a2, a3, a4, rfl, hA⟩ := chk_out h1
    exact ⟨_, 0, fun w sb f va hS ha => rank_ok hS a1 a2 a3 a4 (ha.congr hA), fun w f va ha => refRank_ok a1 a2 a3 a4 hn (ha.congr hA)⟩
  · refine ⟨0, chk r c n Z, fun w sb f va hS ha => ?_, fun w f va ha => refRank_bad ha hn' h1⟩
    refine (rank_bad ha hn' h1).mono ?_
    rintro e w' ⟨rfl, hb'⟩
    exact ⟨rfl, hS.below hb' (Nat.le_refl _), gb_below hb' _⟩

theorem turn_both (r c : Int) (n : Nat) (Z : Nat → Int) (hn : n ≤ 1000) : ∃ D : MD, D.n ≤ 140737488355328 ∧
    (∀ w f va, f < w.heap.size → NX w f va n Z → Calls Try.prog 21 #[.agg #[.int .i64 r, .int .i64 c, va]] w fun e w' => ∃ v, e = .returned (.tuple #[.agg #[.int .i64 D.r, .int .i64 D.c, v], .int .i64 D.e]) ∧ NX w' f v D.n D.Z ∧ Below w.heap.size w w') ∧
    (∀ w f va, f < w.heap.size → NX w f va n Z → Calls Try.prog 22 #[.agg #[.int .i64 r, .int .i64 c, va]] w fun e w' => ∃ v, e = .returned (.tuple #[.agg #[.int .i64 D.r, .int .i64 D.c, v], .int .i64 D.e]) ∧ NX w' f v D.n D.Z ∧ Below w.heap.size w w') := by
  have hn' : n ≤ 140737488355328 := by omega
  by_cases h1 : chk r c n Z = 0
  · obtain ⟨r', c', A, rfl, rfl, a1, a2, a3, a4, rfl, hA⟩ := chk_out h1
    refine ⟨⟨c', r', c' * r', kz (flat r' (fun i j => mt c' A j i)), 0⟩, by rw [Nat.mul_comm] at hn'; exact hn', fun w f va hf ha => ?_, fun w f va hf ha => ?_⟩
    · refine (turn_ok a1 a2 a3 a4 (ha.congr hA)).mono ?_
      rintro e w' ⟨g, rfl, hG, hg, hb'⟩
      exact ⟨_, rfl, hG.nx (f := f) (Nat.le_refl _) (by omega), hb'⟩
    · refine (refTurn_ok a1 a2 a3 a4 (ha.congr hA)).mono ?_
      rintro e w' ⟨g, rfl, hG, hg, hb'⟩
      exact ⟨_, rfl, hG.nx (f := f) (Nat.le_refl _) (by omega), hb'⟩
  · refine ⟨badD (chk r c n Z), Nat.zero_le _, fun w f va hf ha => ?_, fun w f va hf ha => ?_⟩
    · refine (turn_bad ha hn' h1).mono ?_
      rintro e w' ⟨rfl, hb'⟩
      exact ⟨_, rfl, NX.nil _ _ _, hb'⟩
    · refine (refTurn_bad ha hn' h1).mono ?_
      rintro e w' ⟨rfl, hb'⟩
      exact ⟨_, rfl, NX.nil _ _ _, hb'⟩

theorem pick_both (r c : Int) (n k : Nat) (Z Zr : Nat → Int) (hn : n ≤ 1000) (hk : k ≤ 140737488355328) : ∃ D : MD, D.n ≤ 140737488355328 ∧
    (∀ w f va vr, f < w.heap.size → NX w f va n Z → NX w f vr k Zr → Calls Try.prog 23 #[.agg #[.int .i64 r, .int .i64 c, va], vr] w fun e w' => ∃ v, e = .returned (.tuple #[.agg #[.int .i64 D.r, .int .i64 D.c, v], .int .i64 D.e]) ∧ NX w' f v D.n D.Z ∧ Below w.heap.size w w') ∧
    (∀ w f va vr, f < w.heap.size → NX w f va n Z → NX w f vr k Zr → Calls Try.prog 24 #[.agg #[.int .i64 r, .int .i64 c, va], vr] w fun e w' => ∃ v, e = .returned (.tuple #[.agg #[.int .i64 D.r, .int .i64 D.c, v], .int .i64 D.e]) ∧ NX w' f v D.n D.Z ∧ Below w.heap.size w w') := by
  have hn' : n ≤ 140737488355328 := by omega
  by_cases h1 : chk r c n Z = 0
  · obtain ⟨r', c', A, rfl, rfl, a1, a2, a3, a4, rfl, hA⟩ := chk_out h1
    have hrs := isSd_nat a1 a2
    by_cases h2 : isSd (k : Int) = true
    · obtain ⟨k', e, k1, k2⟩ := isSd_out h2
      obtain rfl : k = k' := by exact_mod_cast e
      have hm : k * c' ≤ 255 * 255 := Nat.mul_le_mul k2 a4
      by_cases h3 : upB ((r' : Int) - 1) Zr k = true
      · have hρ : ∀ t, t < k → (Zr t).toNat < r' ∧ Zr t = (((Zr t).toNat : Nat) : Int) := fun t ht => by have := upB_at _ Zr k t h3 ht; omega
        refine ⟨⟨k, c', k * c', kz (flat c' (fun i j => mt c' A (Zr i).toNat j)), 0⟩, Nat.le_trans hm (by decide), fun w f va vr hf ha hr => ?_, fun w f va vr hf ha hr => ?_⟩
        · refine (pick_ok a1 a2 a3 a4 k1 k2 (ha.congr hA) (hr.congr (fun t ht => (hρ t ht).2)) (fun t ht => (hρ t ht).1)).mono ?_
          rintro e w' ⟨g, rfl, hG, hg, hb'⟩
          exact ⟨_, rfl, hG.nx (f := f) (Nat.le_refl _) (by omega), hb'⟩
        · refine (refPick_in a1 a2 a3 a4 k1 k2 (ha.congr hA) hr).mono ?_
          rintro e w' ⟨h, hb'⟩
          rcases h with ⟨_, g, rfl, hG, hg⟩ | ⟨h, _⟩
          · exact ⟨_, rfl, hG.nx (f := f) (Nat.le_refl _) (by omega), hb'⟩
          · rw [h3] at h; cases h
      · have h3 : upB ((r' : Int) - 1) Zr k = false := by simpa using h3
        refine ⟨badD 1, by decide, fun w f va vr hf ha hr => ?_, fun w f va vr hf ha hr => ?_⟩
        · refine (pick_bad3 ha hr hn' hk h1 hrs h2 h3).mono ?_
          rintro e w' ⟨rfl, hb'⟩
          exact ⟨_, rfl, NX.nil _ _ _, hb'⟩
        · refine (refPick_in a1 a2 a3 a4 k1 k2 (ha.congr hA) hr).mono ?_
          rintro e w' ⟨h, hb'⟩
          rcases h with ⟨h, _⟩ | ⟨_, rfl⟩
          · rw [h3] at h; cases h
          · exact ⟨_, rfl, NX.nil _ _ _, hb'⟩
    · have h2 : isSd (k : Int) = false := by simpa using h2
      refine ⟨badD 1, by decide, fun w f va vr hf ha hr => ?_, fun w f va vr hf ha hr => ?_⟩
      · refine (pick_bad2 ha hr hn' hk h1 hrs h2).mono ?_
        rintro e w' ⟨rfl, hb'⟩
        exact ⟨_, rfl, NX.nil _ _ _, hb'⟩
      · refine (refPick_bad2 ha hr hn' hk h1 hrs h2).mono ?_
        rintro e w' ⟨rfl, hb'⟩
        exact ⟨_, rfl, NX.nil _ _ _, hb'⟩
  · refine ⟨badD (chk r c n Z), Nat.zero_le _, fun w f va vr hf ha hr => ?_, fun w f va vr hf ha hr => ?_⟩
    · refine (pick_bad ha hn' h1).mono ?_
      rintro e w' ⟨rfl, hb'⟩
      exact ⟨_, rfl, NX.nil _ _ _, hb'⟩
    · refine (refPick_bad ha hn' h1).mono ?_
      rintro e w' ⟨rfl, hb'⟩
      exact ⟨_, rfl, NX.nil _ _ _, hb'⟩
end Go.Proofs.Ythedeggggbdibaa

/-
  Gear: Chunks of whatever setup and bytes, by program and document; the chapter's example.
-/
import Derived.Test.YtdmlhkphdolbeaaDoorGeDoc
namespace Go.Proofs.YtdmlhkphdolbeaaDoor
open Go.RowKit Go.Lib
/-- The code of Chunks. -/
def cC (L B M : Int) (s : ByteArray) : Int := if ckC L B M = 0 then (if 1048576 < s.size then 2 else 0) else 1
/-- The list of Chunks. -/
def cL (L B M : Int) (s : ByteArray) : List ByteArray := if cC L B M s = 0 then cuts L.toNat B.toNat M.toNat s else []
section
variable {w : World} {s : ByteArray}
theorem cC_ok {L B M : Nat} (o : OkX L B M) (hs : s.size ≤ 1048576) : cC L B M s = 0 := by rw [cC, if_pos (ck_ok o), if_neg (by omega)]
set_option maxRecDepth 100000 in
set_option maxHeartbeats 800000 in
theorem chunks_any (hl : Lm w) (L B M : Int) (hs : s.size ≤ 10000 ∨ 1048576 < s.size) (hs2 : s.size ≤ 4611686018427387904) : Calls Tryd.prog 12 #[.agg #[.int .i64 L, .int .i64 B, .int .i64 M], .string s] w fun e w' => ∃ v, e = .returned (.tuple #[v, .int .i64 (cC L B M s)]) ∧ TS w.heap.size v (cL L B M s) w' ∧ Below w.heap.size w w' := by
  by_cases h0 : cC L B M s = 0
  · have hck : ckC L B M = 0 := by
      rw [cC] at h0
      split at h0
      · assumption
      · cases h0
    have hsz : s.size ≤ 10000 := by
      rw [cC, if_pos hck] at h0
      split at h0
      · cases h0
      · omega
    obtain ⟨l, b, m, rfl, rfl, rfl, ok⟩ := ck_nat hck
    rw [cL, if_pos h0, h0]
    exact chunks_ok ok hl hsz
  · rw [cL, if_neg h0]
    obtain ⟨w1, hw1⟩ : ∃ w1, w1 = w.alloc (.cells #[.int .i64 L, .int .i64 B, .int .i64 M] 23) := ⟨_, rfl⟩
    have hB1 : Below w.heap.size w w1 := by rw [hw1]; exact (Below.refl _ _).alloc (Nat.le_refl _) _
    have hW3 : w1.heap[w.heap.size]? = some (.cells #[.int .i64 L, .int .i64 B, .int .i64 M] 23 (0, 0)) := by rw [hw1]; exact heap_alloc_new w _
    have hw1' := hw1.symm
    obtain ⟨a0, a1, a2⟩ := cell3 hW3
    have HB := hide hB1
    clear hw1 hB1 hW3
    rcases ck_01 L B M with hc | hc
    · have hbig : 1048576 < s.size := Classical.byContradiction fun h => h0 (by rw [cC, if_pos hc, if_neg h])
      have HC : Hid (∀ w : World, Calls Tryd.prog 14 #[.agg #[.int .i64 L, .int .i64 B, .int .i64 M]] w fun e w' => e = .returned (.int .i64 0) ∧ Below w.heap.size w w') := by
        have := fun w => check_any w L B M
        rw [hc] at this
        exact this
      rw [cC, if_pos hc, if_pos hbig]
      have hbi : (1048576 : Int) < (s.size : Int) := by omega
      clear h0 hc hs
      go_enter Tryd.func12, Tryd.ntmps12
      go_wp2_with fail
      refine (HC.out w1).mono ?_
      rintro _ w2 ⟨rfl, hb2⟩
      have HB2 := hide (below_step HB.out hb2)
      clear hb2
      go_wp2
      go_ret2
      exact ⟨_, rfl, TS.nil _ _, HB2.out⟩
    · have HC : Hid (∀ w : World, Calls Tryd.prog 14 #[.agg #[.int .i64 L, .int .i64 B, .int .i64 M]] w fun e w' => e = .returned (.int .i64 1) ∧ Below w.heap.size w w') := by
        have := fun w => check_any w L B M
        rw [hc] at this
        exact this
      rw [cC, hc, if_neg (by decide)]
      clear h0 hc hs
      go_enter Tryd.func12, Tryd.ntmps12
      go_wp2_with fail
      refine (HC.out w1).mono ?_
      rintro _ w2 ⟨rfl, hb2⟩
      have HB2 := hide (below_step HB.out hb2)
      clear hb2
      go_wp2
      go_ret2
      exact ⟨_, rfl, TS.nil _ _, HB2.out⟩
set_option maxRecDepth 100000 in
set_option maxHeartbeats 800000 in
theorem rchunks_any (L B M : Int) (hs : s.size ≤ 10000 ∨ 1048576 < s.size) (hs2 : s.size ≤ 4611686018427387904) : Calls Tryd.prog 13 #[.agg #[.int .i64 L, .int .i64 B, .int .i64 M], .string s] w fun e w' => ∃ v, e = .returned (.tuple #[v, .int .i64 (cC L B M s)]) ∧ TS w.heap.size v (cL L B M s) w' ∧ Below w.heap.size w w' := by
  obtain ⟨w1, hw1⟩ : ∃ w1, w1 = w.alloc (.cells #[.int .i64 L, .int .i64 B, .int .i64 M] 25) := ⟨_, rfl⟩
  have hB1 : Below w.heap.size w w1 := by rw [hw1]; exact (Below.refl _ _).alloc (Nat.le_refl _) _
  have hW3 : w1.heap[w.heap.size]? = some (.cells #[.int .i64 L, .int .i64 B, .int .i64 M] 25 (0, 0)) := by rw [hw1]; exact heap_alloc_new w _
  have hw1' := hw1.symm
  obtain ⟨a0, a1, a2⟩ := cell3 hW3
  have HB := hide (And.intro hB1 hW3)
  clear hw1 hB1 hW3
  rcases ck_01 L B M with hc | hc
  · have HC : Hid (∀ w : World, Calls Tryd.prog 15 #[.agg #[.int .i64 L, .int .i64 B, .int .i64 M]] w fun e w' => e = .returned (.int .i64 0) ∧ Below w.heap.size w w') := by
      have := fun w => rcheck_any w L B M
      rw [hc] at this
      exact this
    by_cases hbig : 1048576 < s.size
    · rw [cL, cC, if_pos hc, if_pos hbig, if_neg (by decide)]
      have hbi : (1048576 : Int) < (s.size : Int) := by omega
      clear hc hs
      go_enter Tryd.func13, Tryd.ntmps13
      go_wp2_with fail
      refine (HC.out w1).mono ?_
      rintro _ w2 ⟨rfl, hb2⟩
      have HB2 := hide (below_step HB.out.1 hb2)
      clear hb2
      go_wp2
      go_ret2
      exact ⟨_, rfl, TS.nil _ _, HB2.out⟩
    · rw [cL, cC, if_pos hc, if_neg hbig, if_pos rfl]
      have hbi : ¬ (1048576 : Int) < (s.size : Int) := by omega
      obtain ⟨l, b, m, rfl, rfl, rfl, ok⟩ := ck_nat hc
      have HO := hide ok
      have HS : Hid (s.size ≤ 10000) := by rcases hs with h | h; exact h; omega
      clear hc hs ok
      go_enter Tryd.func13, Tryd.ntmps13
      go_wp2_with fail
      refine (HC.out w1).mono ?_
      rintro _ w2 ⟨rfl, hb2⟩
      obtain ⟨b0, b1, b2⟩ := cell3 ((hb2.block _ (lt_of_block HB.out.2)).trans HB.out.2)
      have HB2 := hide (below_step HB.out.1 hb2)
      clear hb2
      go_wp2_with fail
      refine (rcut_any HO.out HS.out).mono ?_
      rintro _ w3 ⟨v, rfl, hT, hb3⟩
      have HE := hide (And.intro (hT.mono HB2.out.size) (below_step HB2.out hb3))
      clear hT hb3
      go_wp2
      go_ret2
      exact ⟨_, rfl, HE.out⟩
  · have HC : Hid (∀ w : World, Calls Tryd.prog 15 #[.agg #[.int .i64 L, .int .i64 B, .int .i64 M]] w fun e w' => e = .returned (.int .i64 1) ∧ Below w.heap.size w w') := by
      have := fun w => rcheck_any w L B M
      rw [hc] at this
      exact this
    rw [cL, cC, hc, if_neg (by decide), if_neg (by decide)]
    clear hc hs
    go_enter Tryd.func13, Tryd.ntmps13
    go_wp2_with fail
    refine (HC.out w1).mono ?_
    rintro _ w2 ⟨rfl, hb2⟩
    have HB2 := hide (below_step HB.out.1 hb2)
    clear hb2
    go_wp2
    go_ret2
    exact ⟨_, rfl, TS.nil _ _, HB2.out⟩
theorem cuts_ex : cuts 2 1 2 ⟨#[97, 98, 99, 100, 101]⟩ = [⟨#[97, 98]⟩, ⟨#[99, 100]⟩, ⟨#[101]⟩] := by decide +kernel
set_option maxRecDepth 100000 in
theorem works11 (hl : Lm w) : Calls Tryd.prog 7 #[] w fun e w' => e = .returned (.bool true) ∧ Below w.heap.size w w' := by
  have HC : Hid _ := hide (chunks_ok (w := w) (L := 2) (B := 1) (M := 2) (s := ⟨#[97, 98, 99, 100, 101]⟩) ⟨by decide, by decide, by decide, by decide, by decide, by decide⟩ hl (by decide))
  rw [cuts_ex] at HC
  go_enter Tryd.func7, Tryd.ntmps7
  go_wp2_with fail
  refine HC.out.mono ?_
  rintro _ w1 ⟨v, rfl, hT, hb⟩
  obtain ⟨w2, hw2⟩ : ∃ w2, w1.alloc (.cells #[.string ⟨#[97, 98]⟩, .string ⟨#[99, 100]⟩, .string ⟨#[101]⟩] 9) = w2 := ⟨_, rfl⟩
  have hb2 : Below w1.heap.size w1 w2 := by rw [← hw2]; exact (Below.refl _ _).alloc (Nat.le_refl _) _
  have k2 : w2.heap[w1.heap.size]? = some (.cells #[.string ⟨#[97, 98]⟩, .string ⟨#[99, 100]⟩, .string ⟨#[101]⟩] 9 (0, 0)) := by rw [← hw2]; exact heap_alloc_new w1 _
  have hv2 : TR w2 (.slice (some ⟨w1.heap.size, 0, none⟩) 3 3) [⟨#[97, 98]⟩, ⟨#[99, 100]⟩, ⟨#[101]⟩] := by
    obtain ⟨e0, e1, e2⟩ := cell3 k2
    refine ⟨_, _, rfl, .inr ⟨_, _, rfl, lt_of_block k2, fun i x hx => ?_⟩⟩
    match i, hx with
    | 0, hx => obtain rfl : _ = x := by simpa using hx
               exact e0
    | 1, hx => obtain rfl : _ = x := by simpa using hx
               exact e1
    | 2, hx => obtain rfl : _ = x := by simpa using hx
               exact e2
    | _ + 3, hx => simp at hx
  have HS := hide (sameTexts_big (hT.tr.bel hb2) hv2 (by decide))
  have HB := hide (below_step hb hb2)
  clear hT hb hb2 k2 hv2
  go_wp2_with fail
  refine HS.out.mono ?_
  rintro _ w3 ⟨rfl, hb3⟩
  have HB3 := hide (below_step HB.out hb3)
  clear hb3
  go_wp2
  go_ret
  exact ⟨rfl, HB3.out⟩
end
end Go.Proofs.YtdmlhkphdolbeaaDoor

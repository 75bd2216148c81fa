/-
  The walk of MatrixMakes, and what all statements begin with.
-/
import Derived.Test.YthedeggggbdibaaRefB
namespace Go.Proofs.Ythedeggggbdibaa
open Go.RowKit Go.Lib

/-- What is told of a matrix, in plain data. -/
structure MD where
  r : Int
  c : Int
  n : Nat
  Z : Nat → Int
  e : Int
def badD (e : Int) : MD := ⟨0, 0, 0, fun _ => 0, e⟩
theorem NX.nil (w : World) (f : Nat) (Z : Nat → Int) : NX w f (.slice none 0 0) 0 Z := ⟨none, 0, rfl, Nat.le_refl _, .inl rfl⟩
def kz (F : Nat → K) : Nat → Int := fun k => (((F k).v : Nat) : Int)
def cauD (k m : Int) : MD := if k < 1 ∨ m < 0 ∨ 255 - m < k then badD 1 else ⟨k + m, k, ((k + m) * k).toNat, kz (flat k.toNat (cauM k.toNat)), 0⟩
def oneD (n : Int) : MD := if isSd n = false then badD 1 else ⟨n, n, (n * n).toNat, kz (flat n.toNat dl), 0⟩

theorem cauchy_any {w : World} {sb f : Nat} (hS : SP w sb f) (k m : Int) (hm : m ≤ 9223372036854775807) :
    Calls Try.prog 26 #[.pointer (some ⟨sb, 0, none⟩), .int .i64 k, .int .i64 m] w fun e w' => ∃ v, e = .returned (.tuple #[.agg #[.int .i64 (cauD k m).r, .int .i64 (cauD k m).c, v], .int .i64 (cauD k m).e]) ∧ NX w' f v (cauD k m).n (cauD k m).Z ∧ SP w' sb f ∧ w.grownBy w' (some f) := by
  by_cases h : k < 1 ∨ m < 0 ∨ 255 - m < k
  · rw [cauD, if_pos h]
    refine (cauchy_bad k m hm h).mono ?_
    rintro e w' ⟨rfl, hb⟩
    exact ⟨_, rfl, NX.nil _ _ _, hS.below hb (Nat.le_refl _), gb_below hb _⟩
  · rw [cauD, if_neg h]
    obtain ⟨k', rfl⟩ : ∃ k' : Nat, k = k' := ⟨k.toNat, by omega⟩
    obtain ⟨m', rfl⟩ : ∃ m' : Nat, m = m' := ⟨m.toNat, by omega⟩
    refine (cauchy_ok hS (k := k') (m := m') (by omega) (by omega)).mono ?_
    rintro e w' ⟨g, rfl, hG, _, hS', hgr⟩
    refine ⟨.slice (some ⟨g, 0, none⟩) ((k' + m') * k') ((k' + m') * k'), ?_, ?_, hS', hgr⟩
    · simp
    · have := hG.nx (Nat.le_refl _) (hS'.kne hG)
      have e : (((k' : Int) + (m' : Int)) * (k' : Int)).toNat = (k' + m') * k' := by rw [← Int.natCast_add, ← Int.natCast_mul, Int.toNat_natCast]
      simp only [e, Int.toNat_natCast]
      exact this
theorem refCauchy_any {w : World} {f : Nat} (hf : f < w.heap.size) (k m : Int) :
    Calls Try.prog 27 #[.int .i64 k, .int .i64 m] w fun e w' => ∃ v, e = .returned (.tuple #[.agg #[.int .i64 (cauD k m).r, .int .i64 (cauD k m).c, v], .int .i64 (cauD k m).e]) ∧ NX w' f v (cauD k m).n (cauD k m).Z ∧ Below w.heap.size w w' := by
  by_cases h : k < 1 ∨ m < 0 ∨ 255 - m < k
  · rw [cauD, if_pos h]
    refine (refCauchy_bad k m h).mono ?_
    rintro e w' ⟨rfl, hb⟩
    exact ⟨_, rfl, NX.nil _ _ _, hb⟩
  · rw [cauD, if_neg h]
    obtain ⟨k', rfl⟩ : ∃ k' : Nat, k = k' := ⟨k.toNat, by omega⟩
    obtain ⟨m', rfl⟩ : ∃ m' : Nat, m = m' := ⟨m.toNat, by omega⟩
    refine (refCauchy_ok (k := k') (m := m') (by omega) (by omega)).mono ?_
    rintro e w' ⟨g, rfl, hG, hgs, hb⟩
    refine ⟨.slice (some ⟨g, 0, none⟩) ((k' + m') * k') ((k' + m') * k'), ?_, ?_, hb⟩
    · simp
    · have := hG.nx (f := f) (Nat.le_refl _) (by omega)
      have e : (((k' : Int) + (m' : Int)) * (k' : Int)).toNat = (k' + m') * k' := by rw [← Int.natCast_add, ← Int.natCast_mul, Int.toNat_natCast]
      simp only [e, Int.toNat_natCast]
      exact this
theorem one_any {w : World} {f : Nat} (hf : f < w.heap.size) (n : Int) :
    Calls Try.prog 28 #[.int .i64 n] w fun e w' => ∃ v, e = .returned (.tuple #[.agg #[.int .i64 (oneD n).r, .int .i64 (oneD n).c, v], .int .i64 (oneD n).e]) ∧ NX w' f v (oneD n).n (oneD n).Z ∧ Below w.heap.size w w' := by
  cases h : isSd n
  · rw [oneD, if_pos h]
    refine (one_bad w n h).mono ?_
    rintro e w' ⟨rfl, hb⟩
    exact ⟨_, rfl, NX.nil _ _ _, hb⟩
  · rw [oneD, if_neg (by simp [h])]
    obtain ⟨n', rfl, h1, h2⟩ := isSd_out h
    refine (one_ok w n' h1 h2).mono ?_
    rintro e w' ⟨g, rfl, hG, hgs, hb⟩
    refine ⟨.slice (some ⟨g, 0, none⟩) (n' * n') (n' * n'), by simp, ?_, hb⟩
    have := hG.nx (f := f) (Nat.le_refl _) (by omega)
    have e : ((n' : Int) * (n' : Int)).toNat = n' * n' := by rw [← Int.natCast_mul, Int.toNat_natCast]
    simp only [e, Int.toNat_natCast]
    exact this
theorem refOne_any {w : World} {f : Nat} (hf : f < w.heap.size) (n : Int) :
    Calls Try.prog 29 #[.int .i64 n] w fun e w' => ∃ v, e = .returned (.tuple #[.agg #[.int .i64 (oneD n).r, .int .i64 (oneD n).c, v], .int .i64 (oneD n).e]) ∧ NX w' f v (oneD n).n (oneD n).Z ∧ Below w.heap.size w w' := by
  cases h : isSd n
  · rw [oneD, if_pos h]
    refine (refOne_bad w n h).mono ?_
    rintro e w' ⟨rfl, hb⟩
    exact ⟨_, rfl, NX.nil _ _ _, hb⟩
  · rw [oneD, if_neg (by simp [h])]
    obtain ⟨n', rfl, h1, h2⟩ := isSd_out h
    refine (refOne_ok w n' h1 h2).mono ?_
    rintro e w' ⟨g, rfl, hG, hgs, hb⟩
    refine ⟨.slice (some ⟨g, 0, none⟩) (n' * n') (n' * n'), by simp, ?_, hb⟩
    have := hG.nx (f := f) (Nat.le_refl _) (by omega)
    have e : ((n' : Int) * (n' : Int)).toNat = n' * n' := by rw [← Int.natCast_mul, Int.toNat_natCast]
    simp only [e, Int.toNat_natCast]
    exact this
theorem cauD_n (k m : Int) : (cauD k m).n ≤ 140737488355328 := by
  unfold cauD
  split
  · exact Nat.zero_le _
  · obtain ⟨k', rfl⟩ : ∃ k' : Nat, k = k' := ⟨k.toNat, by omega⟩
    obtain ⟨m', rfl⟩ : ∃ m' : Nat, m = m' := ⟨m.toNat, by omega⟩
    have : (k' + m') * k' ≤ 255 * 255 := Nat.mul_le_mul (by omega) (by omega)
    show (((k' : Int) + (m' : Int)) * (k' : Int)).toNat ≤ _
    rw [← Int.natCast_add, ← Int.natCast_mul, Int.toNat_natCast]
    omega
theorem oneD_n (n : Int) : (oneD n).n ≤ 140737488355328 := by
  cases h : isSd n
  · rw [oneD, if_pos h]; exact Nat.zero_le _
  · rw [oneD, if_neg (by simp [h])]
    obtain ⟨n', rfl, h1, h2⟩ := isSd_out h
    have : n' * n' ≤ 255 * 255 := Nat.mul_le_mul h2 h2
    show ((n' : Int) * (n' : Int)).toNat ≤ _
    rw [← Int.natCast_mul, Int.toNat_natCast]
    omega

set_option maxRecDepth 100000 in
theorem same_any {w : World} {f f' n : Nat} {r c : Int} {v v' : Value} {Z : Nat → Int} (h : NX w f v n Z) (h' : NX w f' v' n Z) (hn : n ≤ 140737488355328) :
    Calls Try.prog 14 #[.agg #[.int .i64 r, .int .i64 c, v], .agg #[.int .i64 r, .int .i64 c, v']] w fun e w' => e = .returned (.bool true) ∧ Below w.heap.size w w' := by
  have A := hide ((h.alloc (.cells #[.int .i64 r, .int .i64 c, v] 24)).alloc (.cells #[.int .i64 r, .int .i64 c, v'] 29))
  have A' := hide ((h'.alloc (.cells #[.int .i64 r, .int .i64 c, v] 24)).alloc (.cells #[.int .i64 r, .int .i64 c, v'] 29))
  obtain ⟨a, cp, rfl, _⟩ := h
  obtain ⟨a', cp', rfl, _⟩ := h'
  go_enter Try.func14, Try.ntmps14
  go_wp2_with fail
  refine (sameInts_any A.out A'.out hn).mono ?_
  rintro e w1 ⟨rfl, m, rfl⟩
  go_wp2
  go_ret
  exact ⟨rfl, below_drew (below_alloc (below_alloc (Below.refl _ _) _) _) _⟩

theorem one_cells (t : Nat) (ht : t < 2) : flat 1 (cauM 1) t = 1 := by
  have : t = 0 ∨ t = 1 := by omega
  rcases this with rfl | rfl
  · rfl
  · apply K.ext; decide +kernel
set_option maxRecDepth 100000 in
theorem mworks_any (w : World) : Calls Try.prog 9 #[] w fun e w' => e = .returned (.bool true) ∧ Below w.heap.size w w' := by
  go_enter Try.func9, Try.ntmps9
  go_wp2_with fail
  refine (mnew_any _).mono ?_
  rintro e w1 ⟨sb, f, rfl, hS, hf, hsb, hb1⟩
  have HC : Hid (Calls Try.prog 26 #[.pointer (some ⟨sb, 0, none⟩), .int .i64 1, .int .i64 1] w1 fun e w' => ∃ g, e = .returned (.tuple #[.agg #[.int .i64 2, .int .i64 1, .slice (some ⟨g, 0, none⟩) 2 2], .int .i64 0]) ∧ KB w' g 2 (fun _ => 1) ∧ Below w.heap.size w w') := by
    refine (cauchy_ok hS (k := 1) (m := 1) (by decide) (by decide)).mono ?_
    rintro e w' ⟨g, rfl, hG, _, hS', hgr⟩
    exact ⟨g, rfl, KB.congr hG (fun t ht => one_cells t ht), below_gb hb1 hgr hf hb1.size⟩
  clear hS hf hsb hb1
  go_wp2_with fail
  refine Calls.mono HC.out ?_
  rintro e w2 ⟨g, rfl, hG, hb2⟩
  have B : KB ((w2.alloc (.cells #[.int .i64 2, .int .i64 1, .slice (some ⟨g, 0, none⟩) 2 2] 24)).alloc (.cells #[.int .i64 1, .int .i64 1] 3)) (w2.heap.size + 1) 2 (fun _ => 1) := by
    refine ⟨[], ?_⟩
    have := heap_alloc_new (w2.alloc (.cells #[.int .i64 2, .int .i64 1, .slice (some ⟨g, 0, none⟩) 2 2] 24)) (.cells #[.int .i64 1, .int .i64 1] 3)
    simp only [show (w2.alloc (.cells #[.int .i64 2, .int .i64 1, .slice (some ⟨g, 0, none⟩) 2 2] 24)).heap.size = w2.heap.size + 1 by simp] at this
    exact this
  have HB := hide (B.nx (f := w2.heap.size + 2) (Nat.le_refl _) (by omega))
  have HA := hide (KB.nx (f := g + 1) ((hG.alloc (.cells #[.int .i64 2, .int .i64 1, .slice (some ⟨g, 0, none⟩) 2 2] 24)).alloc (.cells #[.int .i64 1, .int .i64 1] 3)) (Nat.le_refl _) (by omega))
  have HL := hide (below_alloc (below_alloc hb2 (.cells #[.int .i64 2, .int .i64 1, .slice (some ⟨g, 0, none⟩) 2 2] 24)) (.cells #[.int .i64 1, .int .i64 1] 3))
  clear B hG hb2 HC
  go_wp2_with fail
  refine (sameInts_any HA.out HB.out (by decide)).mono ?_
  rintro e w3 ⟨rfl, m, rfl⟩
  go_wp2
  go_ret
  exact ⟨rfl, below_drew HL.out _⟩

theorem Br.grown {w w' : World} {b f : Nat} {r c : Int} {v : Value} (h : Br w b r c v) (hg : w.grownBy w' (some f)) (hf : b ≠ f) : Br w' b r c v := h.of_block (hg.block b h.lt (by simpa using hf))
theorem Bx.grown {w w' : World} {b f : Nat} {r c : Int} {v : Value} (h : Bx w b r c v) (hg : w.grownBy w' (some f)) (hf : b ≠ f) : Bx w' b r c v := h.of_block (hg.block b h.lt (by simpa using hf))

set_option maxRecDepth 100000 in
set_option maxHeartbeats 1600000 in
theorem makes_walk (k m : Int) (w : World) (hm : m ≤ 9223372036854775807) : Calls Try.prog 4 #[.int .i64 k, .int .i64 m] w fun e w' => e = .returned (.bool true) ∧ Below w.heap.size w w' := by
  by_cases h1 : 40 < k ∧ k ≤ 255
  · obtain ⟨h1, h2⟩ := h1
    go_enter Try.func4, Try.ntmps4
    go_wp2_with (first | (go_at_call 8; refine (mnew_any _).mono ?_; rintro e w1 ⟨sb, f, rfl, hS, hf, hsb, hb1⟩) | (go_at_call 9; refine (mworks_any _).mono ?_; rintro e w2 ⟨rfl, hb2⟩))
    go_ret
    exact ⟨rfl, below_step hb1 hb2⟩
  by_cases h2 : 40 < m ∧ m ≤ 255
  · obtain ⟨h2, h3⟩ := h2
    have h1' : ¬ 40 < k ∨ (40 < k ∧ ¬ k ≤ 255) := by omega
    clear h1
    rcases h1' with h1 | ⟨h1, h4⟩
    all_goals
      go_enter Try.func4, Try.ntmps4
      go_wp2_with (first | (go_at_call 8; refine (mnew_any _).mono ?_; rintro e w1 ⟨sb, f, rfl, hS, hf, hsb, hb1⟩) | (go_at_call 9; refine (mworks_any _).mono ?_; rintro e w2 ⟨rfl, hb2⟩))
      go_ret
      exact ⟨rfl, below_step hb1 hb2⟩
  have HN := hide (cauD_n k m)
  have HO := hide (oneD_n k)
  have HC : Hid (∀ (w : World) (sb f : Nat), SP w sb f → _) := fun w sb f hS => cauchy_any (w := w) (sb := sb) (f := f) hS k m hm
  have HCr : Hid (∀ (w : World) (f : Nat), f < w.heap.size → _) := fun w f hf => refCauchy_any (w := w) (f := f) hf k m
  have HOn : Hid (∀ (w : World) (f : Nat), f < w.heap.size → _) := fun w f hf => one_any (w := w) (f := f) hf k
  have HOr : Hid (∀ (w : World) (f : Nat), f < w.heap.size → _) := fun w f hf => refOne_any (w := w) (f := f) hf k
  generalize cauD k m = C at *
  generalize oneD k = O at *
  obtain ⟨cr, cc, cn, cZ, ce⟩ := C
  obtain ⟨nr, nc, nn, nZ, ne⟩ := O
  simp only at HN HO HC HCr HOn HOr
  have h1' : ¬ 40 < k ∨ (40 < k ∧ ¬ k ≤ 255) := by omega
  have h2' : ¬ 40 < m ∨ (40 < m ∧ ¬ m ≤ 255) := by omega
  clear h1 h2
  have key : ∀ (w1 w2 : World) (sb f : Nat), SP w1 sb f → w.heap.size ≤ f → Below w.heap.size w w1 → Below w1.heap.size w1 w2 → SP w2 sb f ∧ w.heap.size ≤ f ∧ Below w.heap.size w w2 := fun w1 w2 sb f h1 h2 h3 h4 => ⟨h1.below h4 (Nat.le_refl _), h2, below_step h3 h4⟩
  have KEY := hide key
  clear key
  rcases h1' with h1 | ⟨h1, h3⟩ <;> rcases h2' with h2 | ⟨h2, h4⟩
  all_goals
    go_enter Try.func4, Try.ntmps4
    go_wp2_with (first | (go_at_call 8; refine (mnew_any _).mono ?_; rintro e w1 ⟨sb, f, rfl, hS, hf, hsb, hb1⟩) | (go_at_call 9; refine (mworks_any _).mono ?_; rintro e w2 ⟨rfl, hb2⟩) | fail)
    obtain ⟨S2, hf2, L2⟩ := KEY.out _ _ _ _ hS hf hb1 hb2
    clear hS hf hsb hb1 hb2
    refine Calls.mono (HC.out _ _ _ S2) ?_
    rintro e w3 ⟨v, rfl, nx, S3, g3⟩
    obtain ⟨a3, p3, rfl, _⟩ := id nx
    have X3 := Bx.new w3 cr cc (.slice a3 cn p3)
    have N3 := nx.alloc (.cells #[.int .i64 cr, .int .i64 cc, .slice a3 cn p3] 24)
    have L3 := below_alloc (below_gb L2 g3 hf2 L2.size) (.cells #[.int .i64 cr, .int .i64 cc, .slice a3 cn p3] 24)
    have F3 : f < (w3.alloc (.cells #[.int .i64 cr, .int .i64 cc, .slice a3 cn p3] 24)).heap.size := by have := S3.ltf; simp; omega
    clear nx S2 S3 g3 L2
    have HX3 := hide X3
    have HN3 := hide N3
    have HL3 := hide L3
    clear X3 N3 L3
    go_wp2_with fail
    refine Calls.mono (HCr.out _ _ F3) ?_
    rintro e w4 ⟨v', rfl, nx, b4⟩
    obtain ⟨a4, p4, rfl, _⟩ := id nx
    have X4 := (HX3.out.below b4 (Nat.le_refl _)).alloc (.cells #[.int .i64 cr, .int .i64 cc, .slice a4 cn p4] 29)
    have N4 := (HN3.out.below b4).alloc (.cells #[.int .i64 cr, .int .i64 cc, .slice a4 cn p4] 29)
    have Y4 := Br.new w4 cr cc (.slice a4 cn p4)
    have M4 := nx.alloc (.cells #[.int .i64 cr, .int .i64 cc, .slice a4 cn p4] 29)
    have L4 := below_alloc (below_step HL3.out b4) (.cells #[.int .i64 cr, .int .i64 cc, .slice a4 cn p4] 29)
    have F4 : f < (w4.alloc (.cells #[.int .i64 cr, .int .i64 cc, .slice a4 cn p4] 29)).heap.size := by have := b4.size; simp; omega
    clear nx b4 HX3 HN3 HL3 F3
    have HX4 := hide X4
    have HN4 := hide N4
    have HY4 := hide Y4
    have HM4 := hide M4
    have HL4 := hide L4
    clear X4 N4 Y4 M4 L4
    go_wp2_with fail
    refine Calls.mono (HOn.out _ _ F4) ?_
    rintro e w5 ⟨v5, rfl, nx, b5⟩
    obtain ⟨a5, p5, rfl, _⟩ := id nx
    have X5 := (HX4.out.below b5 (Nat.le_refl _)).alloc (.cells #[.int .i64 nr, .int .i64 nc, .slice a5 nn p5] 24)
    have N5 := (HN4.out.below b5).alloc (.cells #[.int .i64 nr, .int .i64 nc, .slice a5 nn p5] 24)
    have Y5 := (HY4.out.below b5 (Nat.le_refl _)).alloc (.cells #[.int .i64 nr, .int .i64 nc, .slice a5 nn p5] 24)
    have M5 := (HM4.out.below b5).alloc (.cells #[.int .i64 nr, .int .i64 nc, .slice a5 nn p5] 24)
    have Z5 := Bx.new w5 nr nc (.slice a5 nn p5)
    have O5 := nx.alloc (.cells #[.int .i64 nr, .int .i64 nc, .slice a5 nn p5] 24)
    have L5 := below_alloc (below_step HL4.out b5) (.cells #[.int .i64 nr, .int .i64 nc, .slice a5 nn p5] 24)
    have F5 : f < (w5.alloc (.cells #[.int .i64 nr, .int .i64 nc, .slice a5 nn p5] 24)).heap.size := by have := b5.size; simp; omega
    clear nx b5 HX4 HN4 HY4 HM4 HL4 F4
    have HX5 := hide X5
    have HN5 := hide N5
    have HY5 := hide Y5
    have HM5 := hide M5
    have HZ5 := hide Z5
    have HO5 := hide O5
    have HL5 := hide L5
    clear X5 N5 Y5 M5 Z5 O5 L5
    go_wp2_with fail
    refine Calls.mono (HOr.out _ _ F5) ?_
    rintro e w6 ⟨v6, rfl, nx, b6⟩
    obtain ⟨a6, p6, rfl, _⟩ := id nx
    have X6 := (HX5.out.below b6 (Nat.le_refl _)).alloc (.cells #[.int .i64 nr, .int .i64 nc, .slice a6 nn p6] 29)
    have N6 := (HN5.out.below b6).alloc (.cells #[.int .i64 nr, .int .i64 nc, .slice a6 nn p6] 29)
    have Y6 := (HY5.out.below b6 (Nat.le_refl _)).alloc (.cells #[.int .i64 nr, .int .i64 nc, .slice a6 nn p6] 29)
    have M6 := (HM5.out.below b6).alloc (.cells #[.int .i64 nr, .int .i64 nc, .slice a6 nn p6] 29)
    have Z6 := (HZ5.out.below b6 (Nat.le_refl _)).alloc (.cells #[.int .i64 nr, .int .i64 nc, .slice a6 nn p6] 29)
    have O6 := (HO5.out.below b6).alloc (.cells #[.int .i64 nr, .int .i64 nc, .slice a6 nn p6] 29)
    have W6 := Br.new w6 nr nc (.slice a6 nn p6)
    have P6 := nx.alloc (.cells #[.int .i64 nr, .int .i64 nc, .slice a6 nn p6] 29)
    have L6 := below_alloc (below_step HL5.out b6) (.cells #[.int .i64 nr, .int .i64 nc, .slice a6 nn p6] 29)
    clear nx b6 HX5 HN5 HY5 HM5 HZ5 HO5 HL5 F5
    have x0 := X6.cell0
    have x1 := X6.cell1
    have x2 := X6.cell2
    have y0 := Y6.cell0
    have y1 := Y6.cell1
    have y2 := Y6.cell2
    have HN6 := hide N6
    have HM6 := hide M6
    have HZ6 := hide Z6
    have HO6 := hide O6
    have HW6 := hide W6
    have HP6 := hide P6
    have HL6 := hide L6
    clear X6 N6 Y6 M6 Z6 O6 W6 P6 L6
    go_wp2_with fail
    refine (same_any HN6.out HM6.out HN.out).mono ?_
    rintro e w7 ⟨rfl, b7⟩
    have Z7 := HZ6.out.below b7 (Nat.le_refl _)
    have W7 := HW6.out.below b7 (Nat.le_refl _)
    have O7 := hide (HO6.out.below b7)
    have P7 := hide (HP6.out.below b7)
    have L7 := hide (below_step HL6.out b7)
    clear x0 x1 x2 y0 y1 y2 HN6 HM6 HZ6 HO6 HW6 HP6 HL6 b7
    have z0 := Z7.cell0
    have z1 := Z7.cell1
    have z2 := Z7.cell2
    have w0 := W7.cell0
    have w1' := W7.cell1
    have w2' := W7.cell2
    clear Z7 W7
    go_wp2_with fail
    refine (same_any O7.out P7.out HO.out).mono ?_
    rintro e w8 ⟨rfl, b8⟩
    go_wp2
    go_ret
    exact ⟨rfl, below_step L7.out b8⟩
end Go.Proofs.Ythedeggggbdibaa

/-
  The contracts of what looks whether a matrix may be.
-/
import Derived.Test.YtfjkdmiaagalhaaGreatMem
import Derived.WalkMore
namespace Go.Proofs.YtfjkdmiaagalhaaGreat
open Go.RowKit Go.Lib

/-- Are all from 0 to most? -/
def upB (most : Int) (Z : Nat → Int) (n : Nat) : Bool := allB (fun j => decide (0 ≤ Z j) && decide (Z j ≤ most)) n
theorem upB_succ (most : Int) (Z : Nat → Int) (n : Nat) : upB most Z (n + 1) = ((decide (0 ≤ Z n) && decide (Z n ≤ most)) && upB most Z n) := rfl
theorem upB_false (most : Int) (Z : Nat → Int) : ∀ (n j : Nat), j < n → (decide (0 ≤ Z j) && decide (Z j ≤ most)) = false → upB most Z n = false
  | n + 1, j, hj, h => by
    rw [upB_succ]
    by_cases e : j = n
    · subst e; rw [h]; rfl
    · rw [upB_false most Z n j (by omega) h, Bool.and_false]
theorem upB_at (most : Int) (Z : Nat → Int) (n j : Nat) (h : upB most Z n = true) (hj : j < n) : 0 ≤ Z j ∧ Z j ≤ most := by
  have := allB_spec _ _ h j hj
  simpa using this

def inB (most x : Int) : Bool := decide (0 ≤ x) && decide (x ≤ most)
set_option maxRecDepth 100000 in
theorem out1_any {w : World} {mb : Nat} {most : Int} (x : Int) (hm : w.cell? ⟨mb, 0, none⟩ = some (.int .i64 most)) :
    Calls Tryz.prog 94 #[.int .i64 x, .pointer (some ⟨mb, 0, none⟩)] w fun e w' => e = .returned (.bool (!(inB most x))) ∧ w' = w := by
  by_cases h : 0 ≤ x
  · have h' : ¬ x < 0 := by omega
    by_cases h2 : x ≤ most
    · rw [show inB most x = true by simp [inB, h, h2]]
      have h2' : ¬ most < x := by omega
      go_enter Tryz.func94, Tryz.ntmps94
      go_wp2
      go_ret
      exact ⟨rfl, rfl⟩
    · rw [show inB most x = false by simp [inB, h2]]
      have h2' : most < x := by omega
      go_enter Tryz.func94, Tryz.ntmps94
      go_wp2
      go_ret
      exact ⟨rfl, rfl⟩
  · rw [show inB most x = false by simp [inB, h]]
    have h' : x < 0 := by omega
    go_enter Tryz.func94, Tryz.ntmps94
    go_wp2
    go_ret
    exact ⟨rfl, rfl⟩

set_option maxRecDepth 100000 in
theorem idxI_any {w : World} {f n : Nat} {v : Value} {Z : Nat → Int} {mb : Nat} {most : Int} (h : NX w f v n Z) (hm : w.cell? ⟨mb, 0, none⟩ = some (.int .i64 most)) (hn : n ≤ 140737488355328) :
    Calls Tryz.prog 102 #[v, .func (.func 94) #[] #[.pointer (some ⟨mb, 0, none⟩)]] w fun e w' => w' = w ∧ ∃ r : Int, e = .returned (.int .i64 r) ∧ (decide (0 ≤ r)) = !(upB most Z n) := by
  obtain ⟨a, c, rfl, hc, h⟩ := h
  have H : Hid _ := h
  clear h
  go_enter Tryz.func102, Tryz.ntmps102
  go_wp2
  go_loop [8] (fun i => ∃ j : Nat, j ≤ n ∧ i = .int .i64 j ∧ upB most Z j = true) (fun i => n - (intOf i).toNat)
  case atStart => exact ⟨0, Nat.zero_le _, rfl, rfl⟩
  case round =>
    obtain ⟨j, hj, rfl, hup⟩ := hrel
    have HU : Hid _ := hup
    clear hup
    by_cases hlt : j < n
    · obtain ⟨bl, off, rfl, hbl, hf, hcl⟩ := H.out.resolve_left (by omega)
      have c1 := hcl j hlt
      have b0 : (0 : Int) ≤ (j : Int) := by omega
      have b1 : (j : Int) < (n : Int) := by omega
      clear hcl
      cases hin : inB most (Z j)
      · have HO : Hid (upB most Z n = false) := upB_false most Z n j hlt hin
        go_wp2_with fail
        refine (out1_any _ hm).mono ?_
        rintro e w1 ⟨rfl, hw1⟩
        subst w1
        rw [hin]
        go_wp2
        try rw [Exit.noGoto_ret]
        go_ret
        exact ⟨rfl, j, rfl, by rw [HO.out]; simp⟩
      · have HO : Hid (upB most Z (j + 1) = true) := by
          show _ = _
          rw [upB_succ, show (decide (0 ≤ Z j) && decide (Z j ≤ most)) = true from hin, HU.out]; rfl
        go_wp2_with fail
        refine (out1_any _ hm).mono ?_
        rintro e w1 ⟨rfl, hw1⟩
        subst w1
        rw [hin]
        go_wp2
        exact ⟨⟨j + 1, by omega, by go_num, HO.out⟩, by simp [intOf]; omega⟩
    · obtain rfl : j = n := by omega
      go_wp2
      try rw [Exit.noGoto_ret]
      go_ret
      exact ⟨rfl, -1, rfl, by rw [HU.out]; rfl⟩
set_option maxRecDepth 100000 in
theorem contains_any {w : World} {f n : Nat} {v : Value} {Z : Nat → Int} {mb : Nat} {most : Int} (h : NX w f v n Z) (hm : w.cell? ⟨mb, 0, none⟩ = some (.int .i64 most)) (hn : n ≤ 140737488355328) :
    Calls Tryz.prog 93 #[v, .func (.func 94) #[] #[.pointer (some ⟨mb, 0, none⟩)]] w fun e w' => e = .returned (.bool (!(upB most Z n))) ∧ w' = w := by
  obtain ⟨a, c, rfl, hc⟩ := id h
  have H : Hid _ := h
  clear h hc
  go_enter Tryz.func93, Tryz.ntmps93
  go_wp2_with fail
  refine (idxI_any H.out hm hn).mono ?_
  rintro e w1 ⟨hw1, r, rfl, hr⟩
  subst w1
  have HR : Hid _ := hr
  clear hr
  cases hu : upB most Z n
  · have hr : (0 ≤ r) := by have := HR.out; rw [hu] at this; simpa using this
    go_wp2
    go_ret
    exact ⟨by simp [hu], rfl⟩
  · have hr : ¬ (0 ≤ r) := by have := HR.out; rw [hu] at this; simpa using this
    go_wp2
    go_ret
    exact ⟨by simp [hu, hr], rfl⟩
set_option maxRecDepth 100000 in
theorem allUp_any {w : World} {f n : Nat} {v : Value} {Z : Nat → Int} {most : Int} (h : NX w f v n Z) (hn : n ≤ 140737488355328) :
    Calls Tryz.prog 85 #[.int .i64 most, v] w fun e w' => e = .returned (.bool (upB most Z n)) ∧ Below w.heap.size w w' := by
  have h1 := h.grown (gb_below ((Below.refl w.heap.size w).alloc (Nat.le_refl _) (.cells #[.int .i64 most] 3)) (some f))
  clear h
  obtain ⟨a, c, rfl, hc⟩ := id h1
  have H : Hid _ := h1
  clear h1 hc
  go_enter Tryz.func85, Tryz.ntmps85
  go_wp2_with fail
  refine (contains_any H.out (most := most) ?_ hn).mono ?_
  · simp
  rintro e w1 ⟨rfl, hw1⟩
  subst w1
  go_wp2
  go_ret
  exact ⟨by simp, (Below.refl _ _).alloc (Nat.le_refl _) _⟩

def chk (r c : Int) (n : Nat) (Z : Nat → Int) : Int := if isSd r = false then 1 else if isSd c = false then 1 else if (n : Int) ≠ r * c then 4 else if upB 255 Z n = false then 1 else 0
theorem isSd_out {r : Int} (h : isSd r = true) : ∃ k : Nat, r = k ∧ 1 ≤ k ∧ k ≤ 255 := by
  simp [isSd] at h
  exact ⟨r.toNat, by omega, by omega, by omega⟩
theorem isSd_nat {r : Nat} (h1 : 1 ≤ r) (h2 : r ≤ 255) : isSd (r : Int) = true := by simp [isSd]; omega

set_option maxRecDepth 100000 in
theorem check_any {w : World} {f n : Nat} {v : Value} {Z : Nat → Int} {r c : Int} (h : NX w f v n Z) (hn : n ≤ 140737488355328) :
    Calls Tryz.prog 84 #[.agg #[.int .i64 r, .int .i64 c, v]] w fun e w' => e = .returned (.int .i64 (chk r c n Z)) ∧ Below w.heap.size w w' := by
  have h1 := h.grown (gb_below ((Below.refl w.heap.size w).alloc (Nat.le_refl _) (.cells #[.int .i64 r, .int .i64 c, v] 50)) (some f))
  clear h
  obtain ⟨a, cp, rfl, hc⟩ := id h1
  have H : Hid _ := h1
  clear h1 hc
  cases er : isSd r
  · rw [chk, if_pos er]
    go_enter Tryz.func84, Tryz.ntmps84
    go_wp2_with (go_at_call 54; refine (isSide_any _ _).mono ?_; rintro e w1 ⟨rfl, rfl⟩)
    try rw [Exit.noGoto_ret]
    go_ret
    exact ⟨rfl, (Below.refl _ _).alloc (Nat.le_refl _) _⟩
  cases ec : isSd c
  · rw [chk, if_neg (by simp [er]), if_pos ec]
    go_enter Tryz.func84, Tryz.ntmps84
    go_wp2_with (go_at_call 54; refine (isSide_any _ _).mono ?_; rintro e w1 ⟨rfl, rfl⟩)
    try rw [Exit.noGoto_ret]
    go_ret
    exact ⟨rfl, (Below.refl _ _).alloc (Nat.le_refl _) _⟩
  obtain ⟨r', hr', r1, r2⟩ := isSd_out er
  obtain ⟨c', hc', c1, c2⟩ := isSd_out ec
  have hrc : r' * c' ≤ 255 * 255 := Nat.mul_le_mul r2 c2
  obtain ⟨m, hm⟩ : ∃ m, m = r' * c' := ⟨_, rfl⟩
  have hm1 : r * c = (m : Int) := by rw [hr', hc', ← Int.natCast_mul, hm]
  by_cases hnm : n = m
  · subst hnm
    rw [chk, if_neg (by simp [er]), if_neg (by simp [ec]), if_neg (by simp [hm1])]
    clear hm hrc hr' hc'
    cases eu : upB 255 Z n
    · rw [if_pos rfl]
      go_enter Tryz.func84, Tryz.ntmps84
      go_wp2_with (first | (go_at_call 54; refine (isSide_any _ _).mono ?_; rintro e w1 ⟨rfl, rfl⟩) | fail)
      refine (allUp_any H.out hn).mono ?_
      rintro e w1 ⟨rfl, hb⟩
      rw [eu]
      go_wp2
      try rw [Exit.noGoto_ret]
      go_ret
      exact ⟨rfl, below_step ((Below.refl _ _).alloc (Nat.le_refl _) _) hb⟩
    · rw [if_neg (by simp)]
      go_enter Tryz.func84, Tryz.ntmps84
      go_wp2_with (first | (go_at_call 54; refine (isSide_any _ _).mono ?_; rintro e w1 ⟨rfl, rfl⟩) | fail)
      refine (allUp_any H.out hn).mono ?_
      rintro e w1 ⟨rfl, hb⟩
      rw [eu]
      go_wp2
      try rw [Exit.noGoto_ret]
      go_ret
      exact ⟨rfl, below_step ((Below.refl _ _).alloc (Nat.le_refl _) _) hb⟩
  · rw [chk, if_neg (by simp [er]), if_neg (by simp [ec]), if_pos (by rw [hm1]; omega)]
    have hne : ((n : Int) != (m : Int)) = true := by simp; omega
    rw [← hm] at hrc
    clear hm hr' hc' hnm
    go_enter Tryz.func84, Tryz.ntmps84
    go_wp2_with (first | (go_at_call 54; refine (isSide_any _ _).mono ?_; rintro e w1 ⟨rfl, rfl⟩) | fail)
    try rw [Exit.noGoto_ret]
    go_ret
    exact ⟨rfl, (Below.refl _ _).alloc (Nat.le_refl _) _⟩
end Go.Proofs.YtfjkdmiaagalhaaGreat

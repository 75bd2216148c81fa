/-
  Lookup: may an item be, by the program and by the document. (gen_chk.py)
-/
import Derived.Test.YtkcefdiiibbflaaLuRef
namespace Go.Proofs.Ytkcefdiiibbflaa
open Go.RowKit Go.Lib
set_option maxRecDepth 100000 in
set_option maxHeartbeats 3200000 in
theorem check_any (x : IT) (w : World) : Calls Try.prog 5 #[.agg (it6 x).toArray] w fun e w' => e = .returned (.int .i64 (ckI x)) ∧ Below w.heap.size w w' := by
  have HB : Hid (∀ a b : Obj, Below w.heap.size w ((w.alloc a).alloc b)) := hide fun a b => below_two w a b
  obtain ⟨xi, xp, xk, xo, xl, xs⟩ := x
  obtain ⟨t, ht⟩ : ∃ t, t = ckI ⟨xi, xp, xk, xo, xl, xs⟩ := ⟨_, rfl⟩
  rw [← ht]
  simp only [it6]
  by_cases h1 : xi.size = 32
  rotate_left
  · have q1 : ((xi.size : Int) == 32) = false := by simp only [beq_eq_false_iff_ne]; omega
    have hc : t = 1 := by rw [ht, ckI, if_neg (fun h => by obtain ⟨a1, a2, a3, a4, a5, a6, a7⟩ := h; simp only at a1 a2 a3 a4 a5 a6 a7; omega)]
    have HT := hide hc
    clear ht hc
    go_enter Try.func5, Try.ntmps5
    go_wp2
    go_ret
    exact ⟨by rw [HT.out]; rfl, HB.out _ _⟩
  have q1 : ((xi.size : Int) == 32) = true := by rw [h1]; rfl
  by_cases h2 : xp.size = 32
  rotate_left
  · have q2 : ((xp.size : Int) == 32) = false := by simp only [beq_eq_false_iff_ne]; omega
    have hc : t = 1 := by rw [ht, ckI, if_neg (fun h => by obtain ⟨a1, a2, a3, a4, a5, a6, a7⟩ := h; simp only at a1 a2 a3 a4 a5 a6 a7; omega)]
    have HT := hide hc
    clear ht hc
    go_enter Try.func5, Try.ntmps5
    go_wp2
    go_ret
    exact ⟨by rw [HT.out]; rfl, HB.out _ _⟩
  have q2 : ((xp.size : Int) == 32) = true := by rw [h2]; rfl
  by_cases h3 : xk = 1 ∨ xk = 2
  rotate_left
  · have q3 : (xk == 1) = false := by simp only [beq_eq_false_iff_ne]; omega
    have q4 : (xk == 2) = false := by simp only [beq_eq_false_iff_ne]; omega
    have hc : t = 1 := by rw [ht, ckI, if_neg (fun h => by obtain ⟨a1, a2, a3, a4, a5, a6, a7⟩ := h; simp only at a1 a2 a3 a4 a5 a6 a7; omega)]
    have HT := hide hc
    clear ht hc
    go_enter Try.func5, Try.ntmps5
    go_wp2
    go_ret
    exact ⟨by rw [HT.out]; rfl, HB.out _ _⟩
  by_cases h4 : 0 ≤ xo
  rotate_left
  · rcases h3 with rfl | rfl
    all_goals
      have hc : t = 1 := by rw [ht, ckI, if_neg (fun h => by obtain ⟨a1, a2, a3, a4, a5, a6, a7⟩ := h; simp only at a1 a2 a3 a4 a5 a6 a7; omega)]
      have HT := hide hc
      clear ht hc
      go_enter Try.func5, Try.ntmps5
      go_wp2
      go_ret
      exact ⟨by rw [HT.out]; rfl, HB.out _ _⟩
  by_cases h5 : xo ≤ 65536
  rotate_left
  · rcases h3 with rfl | rfl
    all_goals
      have hc : t = 1 := by rw [ht, ckI, if_neg (fun h => by obtain ⟨a1, a2, a3, a4, a5, a6, a7⟩ := h; simp only at a1 a2 a3 a4 a5 a6 a7; omega)]
      have HT := hide hc
      clear ht hc
      go_enter Try.func5, Try.ntmps5
      go_wp2
      go_ret
      exact ⟨by rw [HT.out]; rfl, HB.out _ _⟩
  by_cases h6 : 1 ≤ xl
  rotate_left
  · rcases h3 with rfl | rfl
    all_goals
      have hc : t = 1 := by rw [ht, ckI, if_neg (fun h => by obtain ⟨a1, a2, a3, a4, a5, a6, a7⟩ := h; simp only at a1 a2 a3 a4 a5 a6 a7; omega)]
      have HT := hide hc
      clear ht hc
      go_enter Try.func5, Try.ntmps5
      go_wp2
      go_ret
      exact ⟨by rw [HT.out]; rfl, HB.out _ _⟩
  by_cases h7 : xl ≤ 65536
  rotate_left
  · rcases h3 with rfl | rfl
    all_goals
      have hc : t = 1 := by rw [ht, ckI, if_neg (fun h => by obtain ⟨a1, a2, a3, a4, a5, a6, a7⟩ := h; simp only at a1 a2 a3 a4 a5 a6 a7; omega)]
      have HT := hide hc
      clear ht hc
      go_enter Try.func5, Try.ntmps5
      go_wp2
      go_ret
      exact ⟨by rw [HT.out]; rfl, HB.out _ _⟩
  by_cases h8 : 0 ≤ xs
  rotate_left
  · rcases h3 with rfl | rfl
    all_goals
      have hc : t = 1 := by rw [ht, ckI, if_neg (fun h => by obtain ⟨a1, a2, a3, a4, a5, a6, a7⟩ := h; simp only at a1 a2 a3 a4 a5 a6 a7; omega)]
      have HT := hide hc
      clear ht hc
      go_enter Try.func5, Try.ntmps5
      go_wp2
      go_ret
      exact ⟨by rw [HT.out]; rfl, HB.out _ _⟩
  by_cases h9 : xs ≤ 65536
  rotate_left
  · rcases h3 with rfl | rfl
    all_goals
      have hc : t = 1 := by rw [ht, ckI, if_neg (fun h => by obtain ⟨a1, a2, a3, a4, a5, a6, a7⟩ := h; simp only at a1 a2 a3 a4 a5 a6 a7; omega)]
      have HT := hide hc
      clear ht hc
      go_enter Try.func5, Try.ntmps5
      go_wp2
      go_ret
      exact ⟨by rw [HT.out]; rfl, HB.out _ _⟩
  rcases h3 with rfl | rfl
  all_goals
    have hc : t = 0 := by rw [ht, ckI, if_pos ⟨h1, h2, by simp, ⟨h4, h5⟩, ⟨h6, h7⟩, h8, h9⟩]
    have HT := hide hc
    clear ht hc
    go_enter Try.func5, Try.ntmps5
    go_wp2
    go_ret
    exact ⟨by rw [HT.out]; rfl, HB.out _ _⟩
set_option maxRecDepth 100000 in
set_option maxHeartbeats 3200000 in
theorem rcheck_any (x : IT) (w : World) : Calls Try.prog 6 #[.agg (it6 x).toArray] w fun e w' => e = .returned (.int .i64 (ckI x)) ∧ Below w.heap.size w w' := by
  have HB : Hid (∀ a b : Obj, Below w.heap.size w ((w.alloc a).alloc b)) := hide fun a b => below_two w a b
  obtain ⟨xi, xp, xk, xo, xl, xs⟩ := x
  obtain ⟨t, ht⟩ : ∃ t, t = ckI ⟨xi, xp, xk, xo, xl, xs⟩ := ⟨_, rfl⟩
  rw [← ht]
  simp only [it6]
  by_cases h1 : xi.size = 32
  rotate_left
  · have q1 : ((xi.size : Int) == 32) = false := by simp only [beq_eq_false_iff_ne]; omega
    have hc : t = 1 := by rw [ht, ckI, if_neg (fun h => by obtain ⟨a1, a2, a3, a4, a5, a6, a7⟩ := h; simp only at a1 a2 a3 a4 a5 a6 a7; omega)]
    have HT := hide hc
    clear ht hc
    go_enter Try.func6, Try.ntmps6
    go_wp2
    go_ret
    exact ⟨by rw [HT.out]; rfl, HB.out _ _⟩
  have q1 : ((xi.size : Int) == 32) = true := by rw [h1]; rfl
  by_cases h2 : xp.size = 32
  rotate_left
  · have q2 : ((xp.size : Int) == 32) = false := by simp only [beq_eq_false_iff_ne]; omega
    have hc : t = 1 := by rw [ht, ckI, if_neg (fun h => by obtain ⟨a1, a2, a3, a4, a5, a6, a7⟩ := h; simp only at a1 a2 a3 a4 a5 a6 a7; omega)]
    have HT := hide hc
    clear ht hc
    go_enter Try.func6, Try.ntmps6
    go_wp2
    go_ret
    exact ⟨by rw [HT.out]; rfl, HB.out _ _⟩
  have q2 : ((xp.size : Int) == 32) = true := by rw [h2]; rfl
  by_cases h3 : xk = 1 ∨ xk = 2
  rotate_left
  · have q3 : (xk == 1) = false := by simp only [beq_eq_false_iff_ne]; omega
    have q4 : (xk == 2) = false := by simp only [beq_eq_false_iff_ne]; omega
    have hc : t = 1 := by rw [ht, ckI, if_neg (fun h => by obtain ⟨a1, a2, a3, a4, a5, a6, a7⟩ := h; simp only at a1 a2 a3 a4 a5 a6 a7; omega)]
    have HT := hide hc
    clear ht hc
    go_enter Try.func6, Try.ntmps6
    go_wp2
    go_ret
    exact ⟨by rw [HT.out]; rfl, HB.out _ _⟩
  by_cases h4 : 0 ≤ xo
  rotate_left
  · rcases h3 with rfl | rfl
    all_goals
      have hc : t = 1 := by rw [ht, ckI, if_neg (fun h => by obtain ⟨a1, a2, a3, a4, a5, a6, a7⟩ := h; simp only at a1 a2 a3 a4 a5 a6 a7; omega)]
      have HT := hide hc
      clear ht hc
      go_enter Try.func6, Try.ntmps6
      go_wp2
      go_ret
      exact ⟨by rw [HT.out]; rfl, HB.out _ _⟩
  by_cases h5 : xo ≤ 65536
  rotate_left
  · rcases h3 with rfl | rfl
    all_goals
      have hc : t = 1 := by rw [ht, ckI, if_neg (fun h => by obtain ⟨a1, a2, a3, a4, a5, a6, a7⟩ := h; simp only at a1 a2 a3 a4 a5 a6 a7; omega)]
      have HT := hide hc
      clear ht hc
      go_enter Try.func6, Try.ntmps6
      go_wp2
      go_ret
      exact ⟨by rw [HT.out]; rfl, HB.out _ _⟩
  by_cases h6 : 1 ≤ xl
  rotate_left
  · rcases h3 with rfl | rfl
    all_goals
      have hc : t = 1 := by rw [ht, ckI, if_neg (fun h => by obtain ⟨a1, a2, a3, a4, a5, a6, a7⟩ := h; simp only at a1 a2 a3 a4 a5 a6 a7; omega)]
      have HT := hide hc
      clear ht hc
      go_enter Try.func6, Try.ntmps6
      go_wp2
      go_ret
      exact ⟨by rw [HT.out]; rfl, HB.out _ _⟩
  by_cases h7 : xl ≤ 65536
  rotate_left
  · rcases h3 with rfl | rfl
    all_goals
      have hc : t = 1 := by rw [ht, ckI, if_neg (fun h => by obtain ⟨a1, a2, a3, a4, a5, a6, a7⟩ := h; simp only at a1 a2 a3 a4 a5 a6 a7; omega)]
      have HT := hide hc
      clear ht hc
      go_enter Try.func6, Try.ntmps6
      go_wp2
      go_ret
      exact ⟨by rw [HT.out]; rfl, HB.out _ _⟩
  by_cases h8 : 0 ≤ xs
  rotate_left
  · rcases h3 with rfl | rfl
    all_goals
      have hc : t = 1 := by rw [ht, ckI, if_neg (fun h => by obtain ⟨a1, a2, a3, a4, a5, a6, a7⟩ := h; simp only at a1 a2 a3 a4 a5 a6 a7; omega)]
      have HT := hide hc
      clear ht hc
      go_enter Try.func6, Try.ntmps6
      go_wp2
      go_ret
      exact ⟨by rw [HT.out]; rfl, HB.out _ _⟩
  by_cases h9 : xs ≤ 65536
  rotate_left
  · rcases h3 with rfl | rfl
    all_goals
      have hc : t = 1 := by rw [ht, ckI, if_neg (fun h => by obtain ⟨a1, a2, a3, a4, a5, a6, a7⟩ := h; simp only at a1 a2 a3 a4 a5 a6 a7; omega)]
      have HT := hide hc
      clear ht hc
      go_enter Try.func6, Try.ntmps6
      go_wp2
      go_ret
      exact ⟨by rw [HT.out]; rfl, HB.out _ _⟩
  rcases h3 with rfl | rfl
  all_goals
    have hc : t = 0 := by rw [ht, ckI, if_pos ⟨h1, h2, by simp, ⟨h4, h5⟩, ⟨h6, h7⟩, h8, h9⟩]
    have HT := hide hc
    clear ht hc
    go_enter Try.func6, Try.ntmps6
    go_wp2
    go_ret
    exact ⟨by rw [HT.out]; rfl, HB.out _ _⟩
end Go.Proofs.Ytkcefdiiibbflaa

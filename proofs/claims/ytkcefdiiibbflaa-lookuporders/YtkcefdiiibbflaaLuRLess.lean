/-
  Lookup: which of two items stands ahead, by the document.
-/
import Derived.Test.YtkcefdiiibbflaaLuGet2
import Derived.BigRegion
namespace Go.Proofs.Ytkcefdiiibbflaa
open Go.RowKit Go.Lib
theorem toList_inj {a b : ByteArray} (h : a.toList = b.toList) : a = b := by
  rw [bytes_list, bytes_list] at h
  cases a; cases b; simp at h; rw [h]
theorem ci_lt (a b : Int) : decide (compareInt a b < 0) = decide (a < b) := by
  unfold compareInt
  (repeat' split) <;> simp <;> omega
set_option maxRecDepth 100000 in
set_option maxHeartbeats 3200000 in
theorem rless_any (x y : IT) (w : World) : Calls Try.prog 8 #[.agg (it6 x).toArray, .agg (it6 y).toArray] w fun e w' => e = .returned (.bool (lI x y)) ∧ Below w.heap.size w w' := by
  obtain ⟨n, hn⟩ : ∃ n, n = w.heap.size := ⟨_, rfl⟩
  obtain ⟨U, hU⟩ : ∃ U, U = (w.alloc (.cells (it6 x).toArray 25)).alloc (.cells (it6 y).toArray 25) := ⟨_, rfl⟩
  have k0 : U.heap[n]? = some (.cells (it6 x).toArray 25 (0, 0)) := by
    rw [hU, hn, Below.heap_alloc _ _ _ (by simp)]; exact heap_alloc_new w _
  have k1 : U.heap[n + 1]? = some (.cells (it6 y).toArray 25 (0, 0)) := by
    have := heap_alloc_new (w.alloc (.cells (it6 x).toArray 25)) (.cells (it6 y).toArray 25)
    rw [hU, hn]
    simpa using this
  have hs1 : n + 1 < U.heap.size := lt_of_block k1
  have hs0 : n < U.heap.size := lt_of_block k0
  have HB : Hid (Below w.heap.size w U) := by rw [hU]; exact hide (below_two w _ _)
  obtain ⟨x0, x1, x2, x3, x4, x5⟩ := c6_of k0
  obtain ⟨y0, y1, y2, y3, y4, y5⟩ := c6_of k1
  obtain ⟨xi, xp, xk, xo, xl, xs⟩ := x
  obtain ⟨yi, yp, yk, yo, yl, ys⟩ := y
  simp only at x0 x1 x2 x3 x4 x5 y0 y1 y2 y3 y4 y5
  obtain ⟨t, ht⟩ : ∃ t, t = lI ⟨xi, xp, xk, xo, xl, xs⟩ ⟨yi, yp, yk, yo, yl, ys⟩ := ⟨_, rfl⟩
  have HT := hide ht
  rw [← ht]
  simp only [it6] at *
  have HU := hide hU
  have HN := hide hn
  clear ht hU hn k0 k1
  by_cases h1 : xi = yi
  rotate_left
  · have q1 : (xi.toList == yi.toList) = false := by rw [beq_eq_false_iff_ne]; exact fun e => h1 (toList_inj e)
    have l1 := cS_less xi yi
    have HF : Hid (t = decide (cS xi yi < 0)) := hide (by
      have hz := mt (cS_zero xi yi).1 h1
      rw [HT.out, lI]; simp only [cI, thenC, if_neg hz])
    rw [← HF.out] at l1
    go_enter Try.func8, Try.ntmps8
    go_upto_region 1 with fail
    rw [← HN.out, ← HU.out]
    go_wp2
    go_ret
    exact ⟨rfl, HB.out⟩
  subst h1
  have al : ∀ (o o' : Obj) (b j : Nat) (v : Value), b < U.heap.size → U.cell? ⟨b, j, none⟩ = some v → (U.alloc o).cell? ⟨b, j, none⟩ = some v ∧ ((U.alloc o).alloc o').cell? ⟨b, j, none⟩ = some v := fun o o' b j v hb hv => by
    constructor
    · simp only [World.cell?, Below.heap_alloc _ _ _ hb] at hv ⊢; exact hv
    · simp only [World.cell?, Below.heap_alloc _ _ b (show b < (U.alloc o).heap.size by simp; omega), Below.heap_alloc _ _ _ hb] at hv ⊢; exact hv
  have HA := hide al
  clear al
  have ax1 := fun o o' => HA.out o o' n 1 _ hs0 x1
  have ax2 := fun o o' => HA.out o o' n 2 _ hs0 x2
  have ax3 := fun o o' => HA.out o o' n 3 _ hs0 x3
  have ax4 := fun o o' => HA.out o o' n 4 _ hs0 x4
  have ax5 := fun o o' => HA.out o o' n 5 _ hs0 x5
  have ay1 := fun o o' => HA.out o o' (n + 1) 1 _ hs1 y1
  have ay2 := fun o o' => HA.out o o' (n + 1) 2 _ hs1 y2
  have ay3 := fun o o' => HA.out o o' (n + 1) 3 _ hs1 y3
  have ay4 := fun o o' => HA.out o o' (n + 1) 4 _ hs1 y4
  have ay5 := fun o o' => HA.out o o' (n + 1) 5 _ hs1 y5
  have ne1 : n ≠ U.heap.size := by omega
  have ne2 : n + 1 ≠ U.heap.size := by omega
  have ne3 : n ≠ U.heap.size + 1 := by omega
  have ne4 : n + 1 ≠ U.heap.size + 1 := by omega
  have HE : Hid (∀ a b : Obj, Below w.heap.size w (((U.alloc a).alloc b).drew)) := hide fun a b => ((HB.out.alloc HB.out.size a).alloc (Nat.le_trans HB.out.size (by simp)) b).drew
  by_cases h2 : xp = yp
  rotate_left
  · have q2 : (xp.toList == yp.toList) = false := by rw [beq_eq_false_iff_ne]; exact fun e => h2 (toList_inj e)
    have l2 := cS_less xp yp
    have hz := mt (cS_zero xp yp).1 h2
    have HF : Hid (t = decide (cS xp yp < 0)) := hide (by
      rw [HT.out, lI]; simp only [cI, thenC, cm_cS.refl, if_true, if_neg hz])
    rw [← HF.out] at l2
    clear hz
    go_enter Try.func8, Try.ntmps8
    go_upto_region 1 with fail
    rw [← HN.out, ← HU.out]
    go_wp2
    go_region
    all_goals go_wp2
    all_goals go_ret
    all_goals exact ⟨rfl, HE.out _ _⟩
  subst h2
  by_cases h3 : xo = yo
  rotate_left
  · have q3 : (xo == yo) = false := by rw [beq_eq_false_iff_ne]; exact h3
    have hz := mt (cmpI0 xo yo).1 h3
    have HF : Hid (t = decide (xo < yo)) := hide (by
      rw [HT.out, lI]; simp only [cI, thenC, cm_cS.refl, if_true, if_neg hz, ci_lt])
    rw [HF.out]
    clear hz
    go_enter Try.func8, Try.ntmps8
    go_upto_region 1 with fail
    rw [← HN.out, ← HU.out]
    go_wp2
    go_region
    all_goals go_wp2
    all_goals go_ret
    all_goals exact ⟨rfl, HE.out _ _⟩
  subst h3
  by_cases h4 : xl = yl
  rotate_left
  · have q3 : (xl == yl) = false := by rw [beq_eq_false_iff_ne]; exact h4
    have hz := mt (cmpI0 xl yl).1 h4
    have HF : Hid (t = decide (xl < yl)) := hide (by
      rw [HT.out, lI]; simp only [cI, thenC, cm_cS.refl, cm_int.refl, if_true, if_neg hz, ci_lt])
    rw [HF.out]
    clear hz
    go_enter Try.func8, Try.ntmps8
    go_upto_region 1 with fail
    rw [← HN.out, ← HU.out]
    go_wp2
    go_region
    all_goals go_wp2
    all_goals go_ret
    all_goals exact ⟨rfl, HE.out _ _⟩
  subst h4
  by_cases h5 : xs = ys
  rotate_left
  · have q3 : (xs == ys) = false := by rw [beq_eq_false_iff_ne]; exact h5
    have hz := mt (cmpI0 xs ys).1 h5
    have HF : Hid (t = decide (xs < ys)) := hide (by
      rw [HT.out, lI]; simp only [cI, thenC, cm_cS.refl, cm_int.refl, if_true, if_neg hz, ci_lt])
    rw [HF.out]
    clear hz
    go_enter Try.func8, Try.ntmps8
    go_upto_region 1 with fail
    rw [← HN.out, ← HU.out]
    go_wp2
    go_region
    all_goals go_wp2
    all_goals go_ret
    all_goals exact ⟨rfl, HE.out _ _⟩
  subst h5
  have HF : Hid (t = decide (xk < yk)) := hide (by
    rw [HT.out, lI]; simp only [cI, thenC, cm_cS.refl, cm_int.refl, if_true, ci_lt])
  rw [HF.out]
  go_enter Try.func8, Try.ntmps8
  go_upto_region 1 with fail
  rw [← HN.out, ← HU.out]
  go_wp2
  go_region
  all_goals go_wp2
  all_goals go_ret
  all_goals exact ⟨rfl, HE.out _ _⟩
end Go.Proofs.Ytkcefdiiibbflaa

/-
  Lookup: is an item in a list; the first of which something is true.
-/
import Derived.Test.YtkcefdiiibbflaaLuSrch
import Derived.Test.YtkcefdiiibbflaaLuEq
import Derived.Deep.QuietTactic
import Derived.BigQuiet
namespace Go.Proofs.Ytkcefdiiibbflaa
open Go.RowKit Go.Lib
theorem hide_dec {p q : Prop} [Decidable p] [Decidable q] (h : p ↔ q) : decide p = decide q := by
  by_cases hq : q
  · rw [decide_eq_true hq, decide_eq_true (h.2 hq)]
  · rw [decide_eq_false hq, decide_eq_false (fun hp => hq (h.1 hp))]
theorem below_dn {B : Nat} {w w' : World} (h : Below B w w') (q : Nat) : Below B w (w'.drewN q) := ⟨h.os, h.tape, h.output, h.size, h.block⟩
section
variable {r : Nat → Prop} {w W : World} {lv fv : Value} {L : List IT} {p : IT → Bool} {K : World → Prop} {y : IT}
theorem has_iff (hS : SS L) (y : IT) : y ∈ L ↔ L[pl L y]? = some y := by
  constructor
  · intro hy
    obtain ⟨i, hi⟩ := List.mem_iff_getElem?.1 hy
    have h1 := lo_at _ (ss_mono hS y) i y hi
    rw [lI_irrefl, Bool.not_false] at h1
    have h2 : pl L y ≤ i := by simpa [pl] using h1
    rcases Nat.lt_or_eq_of_le h2 with h3 | h3
    · have hil := (List.getElem?_eq_some_iff.1 hi).1
      obtain ⟨z, hz⟩ : ∃ z, L[pl L y]? = some z := ⟨_, List.getElem?_eq_getElem (by omega)⟩
      have h4 := lo_at _ (ss_mono hS y) _ z hz
      have h5 : lI z y = false := by simpa [pl] using h4
      have h6 := (List.pairwise_iff_getElem.1 hS) (pl L y) i (by omega) hil h3
      rw [(List.getElem?_eq_some_iff.1 hz).2, (List.getElem?_eq_some_iff.1 hi).2, h5] at h6
      cases h6
    · rw [h3]; exact hi
  · exact fun h => List.mem_of_getElem? h
set_option maxRecDepth 100000 in
set_option maxHeartbeats 1600000 in
theorem has_any (hL : LS it6 6 r w lv L) (hn : L.length ≤ 1099511627776) (hS : SS L) (y : IT) :
    Calls Try.prog 39 #[lv, .agg (it6 y).toArray] w fun e w' => e = .returned (.bool (decide (y ∈ L))) ∧ Below w.heap.size w w' := by
  obtain ⟨U, hU⟩ : ∃ U, U = w.alloc (.cells (it6 y).toArray 25) := ⟨_, rfl⟩
  obtain ⟨z, hz⟩ : ∃ z, z = w.heap.size := ⟨_, rfl⟩
  have hB : Below w.heap.size w U := by rw [hU]; exact (Below.refl _ _).alloc (Nat.le_refl _) _
  have k0 : SBI U z y := by rw [hU, hz]; exact heap_alloc_new w _
  have HP := hide (place_any (hL.bel hB) hn hS y)
  have HI := hide (has_iff hS y)
  have HLB := hide (hL.bel hB)
  have K0 := hide k0
  obtain ⟨y0, y1, y2, y3, y4, y5⟩ := c6_of k0
  obtain ⟨a, c, rfl⟩ := hL.shp
  have hmf : Try.prog.eqGuardType Try.prog.depth 25 = false := by kernel_rfl
  generalize pl L y = m at HP HI
  obtain ⟨t, ht⟩ : ∃ t, t = decide (y ∈ L) := ⟨_, rfl⟩
  rw [← ht]
  have HT := hide ht
  clear ht
  obtain ⟨n, hnn⟩ : ∃ n, n = L.length := ⟨_, rfl⟩
  have HN := hide hnn
  rw [← hnn] at hn ⊢
  have HU := hide hU
  have HZ := hide hz
  have HB := hide hB
  simp only [it6] at HU HP
  simp only [it6]
  clear hU hz hB k0 hL hS hnn
  go_enter Try.func39, Try.ntmps39
  go_upto_region 1 with fail
  rw [← HU.out, ← HZ.out]
  go_wp2_with fail
  rw [HN.out]
  refine HP.out.mono ?_
  rw [← HN.out]
  rintro e w1 ⟨rfl, hB1⟩
  have HE := hide (below_step HB.out hB1)
  obtain ⟨x0, x1, x2, x3, x4, x5⟩ := c6_of (SBI.bel K0.out hB1)
  have HL1 := hide (HLB.out.bel hB1)
  clear hB1 y0 y1 y2 y3 y4 y5
  by_cases hm : m < n
  · obtain ⟨x, hx⟩ : ∃ x, L[m]? = some x := ⟨_, List.getElem?_eq_getElem (by have := HN.out; omega)⟩
    have b1 : (m : Int) < (n : Int) := by omega
    have b0 : (0 : Int) ≤ (m : Int) := by omega
    obtain ⟨a', c', e', _, h2 | ⟨g, o, ea, _, hg, hG⟩⟩ := HL1.out
    · rw [h2] at hx; simp at hx
    · injection e' with e1 _ _
      subst e1
      subst ea
      have hc : ∀ (t : Nat) (v : Value), (it6 x)[t]? = some v → w1.cell? ⟨g, o + m * 6 + t, none⟩ = some v := fun t v hv => hG m x hx t v hv
      have u0 := hc 0 _ rfl
      have u1 := hc 1 _ rfl
      have u2 := hc 2 _ rfl
      have u3 := hc 3 _ rfl
      have u4 := hc 4 _ rfl
      have u5 := hc 5 _ rfl
      simp only [Nat.add_zero] at u0
      have HQ : Hid (t = decide (x = y)) := by
        apply hide
        rw [HT.out]
        exact hide_dec (HI.out.trans (by rw [hx, Option.some.injEq]))
      have q := fun w => eqIt x y w
      simp only [it6] at q
      rw [← HQ.out] at q
      clear hc hG hx
      go_wp2
      go_quiet (fail)
      go_wp2
      go_ret
      exact ⟨rfl, below_dn HE.out _⟩
  · have b1 : ¬ (m : Int) < (n : Int) := by omega
    have HQ : Hid (t = false) := by
      apply hide
      rw [HT.out, decide_eq_false_iff_not, HI.out, List.getElem?_eq_none (by have := HN.out; omega)]
      simp
    go_wp2
    go_quiet (fail)
    go_wp2
    go_ret
    exact ⟨by rw [HQ.out]; rfl, below_dn HE.out _⟩
end
end Go.Proofs.Ytkcefdiiibbflaa

/-
  The contract of the elimination.
-/
import Derived.Test.YtfjkdmiaagalhaaGreatSys
namespace Go.Proofs.YtfjkdmiaagalhaaGreat
open Go.RowKit Go.Lib

def sw (a n i : Nat) : Nat := if i = a then n else if i = n then a else i
theorem sw_sw (a n i : Nat) : sw a n (sw a n i) = i := by
  unfold sw
  by_cases h1 : i = a
  · rw [if_pos h1]
    by_cases h2 : n = a
    · rw [if_pos h2]; omega
    · rw [if_neg h2, if_pos rfl, h1]
  · rw [if_neg h1]
    by_cases h2 : i = n
    · rw [if_pos h2, if_pos rfl, h2]
    · rw [if_neg h2, if_neg h1, if_neg h2]
theorem sw_inj {a n i j : Nat} (h : sw a n i = sw a n j) : i = j := by
  have := congrArg (sw a n) h
  rwa [sw_sw, sw_sw] at this
theorem sw_lt {a n i m : Nat} (ha : a < m) (hn : n < m) (hi : i < m) : sw a n i < m := by
  unfold sw
  split
  · exact hn
  · split
    · exact ha
    · exact hi
theorem swp_sw (R : Mt) (a n i : Nat) : swp R a n i = R (sw a n i) := by
  unfold swp sw
  by_cases h1 : i = a
  · rw [if_pos h1, if_pos h1]
  · rw [if_neg h1, if_neg h1]
    by_cases h2 : i = n
    · rw [if_pos h2, if_pos h2]
    · rw [if_neg h2, if_neg h2]
theorem RS.swap {w : World} {B sb f rb m W : Nat} {q cp : Nat → Nat} {R : Mt} (h : RS w B sb f rb m W q cp R) {a n : Nat} (ha : a < m) (hn : n < m) :
    RS ((w.setCell ⟨rb, a, none⟩ (.slice (some ⟨q n, 0, none⟩) W (cp n))).setCell ⟨rb, n, none⟩ (.slice (some ⟨q a, 0, none⟩) W (cp a))) B sb f rb m W (fun i => q (sw a n i)) (fun i => cp (sw a n i)) (swp R a n) := by
  have gs := gb_trans (gb_set w rb a (.slice (some ⟨q n, 0, none⟩) W (cp n))) (gb_set _ rb n (.slice (some ⟨q a, 0, none⟩) W (cp a)))
  refine ⟨h.S.set h.rows (by decide) (by decide) (by decide) gs, h.ltS, h.ltF, Nat.le_trans h.ltB gs.size, h.rge, ?_, fun i hi => ?_, fun i hi => h.ge _ (sw_lt ha hn hi), fun i j hi hj e => sw_inj (h.inj _ _ (sw_lt ha hn hi) (sw_lt ha hn hj) e), fun i hi => h.cap _ (sw_lt ha hn hi)⟩
  · rw [heap_set_list _ (heap_set_list _ h.rows)]
    congr 3
    apply List.ext_getElem?
    intro i
    by_cases hi : i < m
    · rw [rowsL_get _ _ hi]
      simp only [List.getElem?_set, List.length_set, rowsL_length, rowsL_get q cp hi]
      unfold sw
      by_cases h1 : i = a
      · by_cases h2 : n = i
        · rw [if_pos h2, if_pos (by omega), if_pos h1, show n = a by omega]
        · rw [if_neg h2, if_pos h1.symm, if_pos (by omega), if_pos h1]
      · rw [if_neg h1]
        by_cases h2 : i = n
        · rw [if_pos h2.symm, if_pos (by omega), if_pos h2]
        · rw [if_neg (fun e => h2 e.symm), if_neg (fun e => h1 e.symm), if_neg h2]
    · rw [List.getElem?_eq_none (by simp [rowsL_length]; omega), List.getElem?_eq_none (by simp [rowsL_length]; omega)]
  · rw [swp_sw]
    have K := h.each _ (sw_lt ha hn hi)
    exact K.of_block (gs.block _ K.lt (by simp; exact h.ne _ (sw_lt ha hn hi)))
theorem RS.drewN {w : World} {B sb f rb m W : Nat} {q cp : Nat → Nat} {R : Mt} (h : RS w B sb f rb m W q cp R) (n : Nat) : RS (w.drewN n) B sb f rb m W q cp R :=
  ⟨⟨h.S.b, h.S.fl, h.S.ne⟩, h.ltS, h.ltF, h.ltB, h.rge, h.rows, h.each, h.ge, h.inj, h.cap⟩

set_option maxRecDepth 100000 in
set_option maxHeartbeats 1600000 in
theorem reduce_any {w : World} {B sb f rb m W cols : Nat} {q cp : Nat → Nat} {R : Mt} (h : RS w B sb f rb m W q cp R) (hcW : cols ≤ W) (hW : W ≤ 100000) (hm : m ≤ 100000) :
    Calls Tryz.prog 87 #[.pointer (some ⟨sb, 0, none⟩), .slice (some ⟨rb, 0, none⟩) m m, .int .i64 cols] w fun e w' => e = .returned (.int .i64 (((redu m R cols).2 : Nat) : Int)) ∧ (∃ q' cp', RS w' B sb f rb m W q' cp' (redu m R cols).1) ∧ Fr B f w w' := by
  have HH := hide h
  have hltB := h.ltB
  clear h
  go_enter Tryz.func87, Tryz.ntmps87
  go_wp2
  go_loopw [7, 11] (fun ah z wr => ∃ c : Nat, c ≤ cols ∧ z = .int .i64 c ∧ ah = .int .i64 (((redu m R c).2 : Nat) : Int) ∧ (∃ q' cp', RS wr B sb f rb m W q' cp' (redu m R c).1) ∧ Fr B f w wr) (fun _ z _ => cols - (intOf z).toNat)
  case atStart => exact ⟨0, Nat.zero_le _, rfl, rfl, ⟨q, cp, HH.out⟩, Fr.refl _ _ _⟩
  case round =>
    obtain ⟨c, hc, rfl, rfl, ⟨q', cp', hR⟩, hfr⟩ := hrel
    by_cases hlt : c < cols
    · have hle := (red_all m R c).le
      have hst : redu m R (c + 1) = step m (redu m R c) c := rfl
      obtain ⟨Rc, hRc⟩ : ∃ Rc, Rc = (redu m R c).1 := ⟨_, rfl⟩
      obtain ⟨a, ha⟩ : ∃ a, a = (redu m R c).2 := ⟨_, rfl⟩
      rw [show redu m R c = (Rc, a) from by rw [hRc, ha]] at hst hle hR ⊢
      simp only at hle hR ⊢
      clear hRc ha
      obtain ⟨k, hk⟩ : ∃ k, a + k = m := ⟨m - a, by omega⟩
      unfold step at hst
      simp only at hst
      rw [show m - a = k by omega] at hst
      have R1 := hR.below ((Below.refl wr.heap.size wr).alloc (Nat.le_refl _) (.cells #[.int .i64 c] 3))
      have F1 := hfr.trans (Fr.of_below (B := B) (f := f) ((Below.refl wr.heap.size wr).alloc (Nat.le_refl _) (.cells #[.int .i64 c] 3)) hR.ltB)
      have HX : Hid ((wr.alloc (.cells #[.int .i64 c] 3)).cell? ⟨wr.heap.size, 0, none⟩ = some (.int .i64 c)) := by show _ = _; simp
      have HR1 := hide R1
      have HF1 := hide F1
      have HST := hide hst
      clear R1 F1 hst hR hfr
      have e0 : (0 : Int) ≤ (a : Int) := by omega
      have e1 : (a : Int) ≤ (m : Int) := by omega
      have AI : Hid (∀ (sa : Option Addr) (kk cx : Nat), kk = k → (k = 0 ∨ sa = some ⟨rb, a, none⟩) → Calls Tryz.prog 95 #[.slice sa kk cx, .func (.func 96) #[] #[.pointer (some ⟨wr.heap.size, 0, none⟩)]] (wr.alloc (.cells #[.int .i64 c] 3)) fun e w' => e = .returned (.int .i64 (leadI Rc c k a)) ∧ w' = wr.alloc (.cells #[.int .i64 c] 3)) := by
        intro sa kk cx h1 h2
        subst h1
        exact idxR_any HR1.out (by omega) HX.out hk hm h2
      cases hl : lead Rc c k a with
      | none =>
        have HS2 : Hid (redu m R (c + 1) = (Rc, a)) := by show _ = _; rw [HST.out, hl]
        rw [show leadI Rc c k a = -1 by rw [leadI, hl]] at AI
        clear hl HST
        by_cases hma : m = a
        · have hma' : (m = a) = True := eq_true hma
          have hk0 : k = 0 := by omega
          have hmk : m - a = k := by omega
          clear hma
          go_wp2_with fail
          refine Calls.mono (AI.out _ _ _ (by first | exact hmk | exact hk0.symm) (.inl hk0)) ?_
          rintro e w2 ⟨rfl, hw2⟩
          subst w2
          go_wp2
          exact ⟨⟨c + 1, by omega, by go_num, by rw [HS2.out], ⟨q', cp', by rw [HS2.out]; exact HR1.out⟩, HF1.out⟩, by simp [intOf]; omega⟩
        · go_wp2_with fail
          refine Calls.mono (AI.out _ _ _ (by omega) (.inr rfl)) ?_
          rintro e w2 ⟨rfl, hw2⟩
          subst w2
          go_wp2
          exact ⟨⟨c + 1, by omega, by go_num, by rw [HS2.out], ⟨q', cp', by rw [HS2.out]; exact HR1.out⟩, HF1.out⟩, by simp [intOf]; omega⟩
      | some n =>
        obtain ⟨n1, n2, n3, n4⟩ := lead_some hl
        obtain ⟨d, hd⟩ : ∃ d, n = a + d := ⟨n - a, by omega⟩
        have hdi : (d : Int) + (a : Int) = (n : Int) := by omega
        rw [show leadI Rc c k a = (d : Int) by rw [leadI, hl]; show (n : Int) - (a : Int) = (d : Int); omega] at AI
        have HS2 : Hid (redu m R (c + 1) = (elim (swp Rc a n) a c, a + 1)) := by show _ = _; rw [HST.out, hl]
        have ham : a < m := by omega
        have hnm : n < m := by omega
        have n3' := hide n3
        clear hl HST n4 hd n3 n2 n1
        have e2 : ¬ (a = m) := by omega
        have e3 : ¬ (m = a) := by omega
        have e4 : (a : Int) < (m : Int) := by omega
        have e5 : (n : Int) < (m : Int) := by omega
        have e6 : (0 : Int) ≤ (n : Int) := by omega
        have z1 := HR1.out.cell a ham
        have z2 := HR1.out.cell n hnm
        have z3 := HR1.out.free a
        have z4 := HR1.out.free n
        go_wp2_with fail
        refine Calls.mono (AI.out _ _ _ (by omega) (.inr rfl)) ?_
        rintro e w2 ⟨rfl, hw2⟩
        clear AI
        have HW2 := hide hw2
        rw [← hw2] at z1 z2 z3 z4
        have hR2 : RS w2 B sb f rb m W q' cp' Rc := by rw [hw2]; exact HR1.out
        have hF2 : Fr B f w w2 := by rw [hw2]; exact HF1.out
        have hX2 : w2.cell? ⟨wr.heap.size, 0, none⟩ = some (.int .i64 c) := by rw [hw2]; exact HX.out
        have hrb : wr.heap.size ≠ rb := by
          intro e
          have h1 := hR2.rows
          rw [← e, hw2, heap_alloc_new] at h1
          simp at h1
        obtain ⟨o1, y1⟩ : ∃ o, (w2.setCell ⟨rb, a, none⟩ (.slice (some ⟨q' n, 0, none⟩) W (cp' n))).cell? ⟨rb, n, none⟩ = some o := by
          rw [cell_of_row _ rb n _ _ _ (heap_set_list _ hR2.rows), List.getElem?_toArray]
          exact ⟨_, List.getElem?_eq_getElem (by rw [List.length_set, rowsL_length]; exact hnm)⟩
        have HR2 := hide hR2
        have HF2 := hide hF2
        clear hw2 HW2 HR1 HF1 HX hR2 hF2
        go_wp2
        go_region
        have hSw := (HR2.out.swap ham hnm).drewN 1
        have gs := gb_trans (gb_set w2 rb a (.slice (some ⟨q' n, 0, none⟩) W (cp' n))) (gb_set _ rb n (.slice (some ⟨q' a, 0, none⟩) W (cp' a)))
        have hF3 := (HF2.out.trans (Fr.of_gb gs (.inr HR2.out.rge) HR2.out.ltB)).drewN 1
        have hX3 : (((w2.setCell ⟨rb, a, none⟩ (.slice (some ⟨q' n, 0, none⟩) W (cp' n))).setCell ⟨rb, n, none⟩ (.slice (some ⟨q' a, 0, none⟩) W (cp' a))).drewN 1).cell? ⟨wr.heap.size, 0, none⟩ = some (.int .i64 c) :=
          ((cell_off hrb).trans (cell_off hrb)).trans hX2
        have hD : ((w2.setCell ⟨rb, a, none⟩ (.slice (some ⟨q' n, 0, none⟩) W (cp' n))).setCell ⟨rb, n, none⟩ (.slice (some ⟨q' a, 0, none⟩) W (cp' a))).drew = ((w2.setCell ⟨rb, a, none⟩ (.slice (some ⟨q' n, 0, none⟩) W (cp' n))).setCell ⟨rb, n, none⟩ (.slice (some ⟨q' a, 0, none⟩) W (cp' a))).drewN 1 := rfl
        rw [hD]
        generalize ((w2.setCell ⟨rb, a, none⟩ (.slice (some ⟨q' n, 0, none⟩) W (cp' n))).setCell ⟨rb, n, none⟩ (.slice (some ⟨q' a, 0, none⟩) W (cp' a))).drewN 1 = w3 at *
        have HC : Hid _ := clear_any hSw ham (by omega : c < W) hW hm (by rw [swp, if_pos rfl]; exact n3'.out)
        have HF3 := hide hF3
        clear hSw gs hF3 hD y1 z1 z2 z3 z4 hX2 HR2 HF2
        go_wp2_with fail
        refine Calls.mono HC.out ?_
        rintro e w4 ⟨rfl, r4, f4⟩
        have HR4 := hide r4
        have HF4 := hide (HF3.out.trans f4)
        clear r4 f4 HC HF3 hX3
        go_wp2
        exact ⟨⟨c + 1, by omega, by go_num, by rw [HS2.out]; go_num, ⟨_, _, by rw [HS2.out]; exact HR4.out⟩, HF4.out⟩, by simp [intOf]; omega⟩
    · obtain rfl : c = cols := by omega
      have HR := hide (show ∃ q' cp', RS wr B sb f rb m W q' cp' (redu m R c).1 from ⟨q', cp', hR⟩)
      have HF := hide hfr
      clear hR hfr
      go_wp2
      try rw [Exit.noGoto_ret]
      go_ret
      exact ⟨rfl, HR.out, HF.out⟩
end Go.Proofs.YtfjkdmiaagalhaaGreat

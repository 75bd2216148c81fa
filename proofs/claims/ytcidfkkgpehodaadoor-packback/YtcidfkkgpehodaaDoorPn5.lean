/-
  Contracts of the program and of the statements (part 5 of 12).
-/
import Derived.Test.YtcidfkkgpehodaaDoorPn4
import Derived.Deep.RegionHeldLaw
import Derived.BigQuiet
import Derived.RangeFuncNested
import Derived.RangeFuncBound
import Derived.RangeFuncCalls
import Derived.RangeFuncLeaves
import Derived.Shelf.Abstract
import Derived.Shelf.RegionOpen
import Derived.WalkKit
import Derived.OwnWalkIn
import Derived.TacticsInMore
import Derived.LoopNIn
import Derived.LoopIn

namespace Go.Proofs.YtcidfkkgpehodaaDoor
open Go.RowKit Go.Lib
/-- A sequence in a block. -/
def QB (w : World) (g : Nat) (L : ByteArray) (dd ll : Nat) : Prop := w.heap[g]? = some (.cells #[.string L, .int .i64 (dd : Int), .int .i64 (ll : Int)] 124 (0, 0))
def qV (q : SQ) : Value := .agg #[.string q.lit, .int .i64 (q.dist : Int), .int .i64 (q.long : Int)]
/-- What a call of sequence comes to. -/
def SeqP (s : ByteArray) (i n b : Nat) (w : World) (e : Ending) (w' : World) : Prop :=
  ∃ q : SQ, e = .returned (qV q) ∧ Gs (Me b) w w' ∧ ((stp s i n = none ∧ ∃ d, RD w' b s s.size d true) ∨ ∃ k, stp s i n = some (q, k) ∧ RD w' b s k (n + q.lit.size + q.long) false)
section
variable {w w' : World} {b i n d g dd ll m : Nat} {s L : ByteArray} {x : Bool}
theorem shr4 (f : Nat) : IntKind.i64.wrap ((f : Int) >>> (4 : Nat)) = IntKind.i64.wrap ((f / 16 : Nat) : Int) := by
  have : (f : Int) >>> (4 : Nat) = ((f / 16 : Nat) : Int) := by rw [Int.shiftRight_eq_div_pow]; rfl
  rw [this]
/-- What number comes to, whatever the place. -/
def NumP (s : ByteArray) (i d b : Nat) (x : Bool) (w : World) (c : Nat) (w' : World) : Prop :=
  Gs (Me b) w w' ∧ c < 256 ∧ ((i < s.size ∧ c = bt s i ∧ RD w' b s (i + 1) d x) ∨ (i = s.size ∧ c = 0 ∧ RD w' b s s.size d true))
theorem number_any (h : RD w b s i d x) (hi : i ≤ s.size) : Calls Tryd.prog 105 #[.pointer (some ⟨b, 0, none⟩)] w fun e w' => ∃ c : Nat, e = .returned (.int .i64 (c : Int)) ∧ NumP s i d b x w c w' := by
  by_cases c : i < s.size
  · exact (number_ok h c).mono fun e w' ⟨h1, h2, h3⟩ => ⟨_, h1, h3, bt_lt s i, .inl ⟨c, rfl, h2⟩⟩
  · exact (number_bad h (by omega)).mono fun e w' ⟨h1, h2, h3⟩ => ⟨0, h1, h3, by decide, .inr ⟨by omega, rfl, h2⟩⟩
/-- What bytes comes to, whatever the number. -/
def BytP (s : ByteArray) (i d b : Nat) (x : Bool) (m : Nat) (w : World) (L : ByteArray) (w' : World) : Prop :=
  Gs (Me b) w w' ∧ ((i + m ≤ s.size ∧ L = s.extract i (i + m) ∧ RD w' b s (i + m) d x) ∨ (s.size < i + m ∧ L = ⟨#[]⟩ ∧ RD w' b s s.size d true))
theorem bytes_any (h : RD w b s i d x) (hi : i ≤ s.size) (m : Nat) : Calls Tryd.prog 106 #[.pointer (some ⟨b, 0, none⟩), .int .i64 (m : Int)] w fun e w' => ∃ L : ByteArray, e = .returned (.string L) ∧ BytP s i d b x m w L w' := by
  by_cases c : i + m ≤ s.size
  · exact (bytes_ok h c).mono fun e w' ⟨h1, h2, h3⟩ => ⟨_, h1, h3, .inl ⟨c, rfl, h2⟩⟩
  · exact (bytes_bad h hi (by omega)).mono fun e w' ⟨h1, h2, h3⟩ => ⟨_, h1, h3, .inr ⟨by omega, rfl, h2⟩⟩
/-- Behind the literals. -/
def LitP (s : ByteArray) (i n b B : Nat) (L : ByteArray) (p : Nat) (x : Bool) (w' : World) : Prop :=
  RD w' b s p n x ∧ p ≤ s.size ∧ L.size ≤ s.size ∧ ((x = true ∧ p = s.size ∧ stp s i n = none) ∨ (x = false ∧ i < s.size ∧ B = bt s i ∧ ∃ a j, mo s (i + 1) (bt s i / 16) = some (a, j) ∧ L = s.extract j (j + a) ∧ p = j + a))
theorem and15_fin : ∀ a : Fin 256, bits .and .i64 (a.val : Int) 15 = ((a.val % 16 : Nat) : Int) := by decide +kernel
theorem RD.inj {i' d' : Nat} {x' : Bool} (h : RD w b s i d x) (h' : RD w b s i' d' x') (hi : i ≤ s.size) (hi' : i' ≤ s.size) : i = i' ∧ d = d' ∧ x = x' := by
  have e := h.symm.trans h'
  simp only [Option.some.injEq, Obj.cells.injEq, Array.mk.injEq, List.cons.injEq, Value.string.injEq, Value.int.injEq, Value.bool.injEq, and_true, true_and] at e
  obtain ⟨e1, e2, e3⟩ := e
  have e4 := congrArg ByteArray.size e1
  rw [ByteArray.size_extract, ByteArray.size_extract] at e4
  exact ⟨by omega, by omega, e3⟩
theorem lit_of {w0 w1 w2 w3 : World} {c m : Nat} (hn : NumP s i n b false w0 c w1) (hm : ∃ i1 x1, i1 ≤ s.size ∧ RD w1 b s i1 n x1 ∧ SumP s i1 (c / 16) b n x1 w1 m w2) (hL : ∃ i2 x2, i2 ≤ s.size ∧ RD w2 b s i2 n x2 ∧ BytP s i2 n b x2 m w2 L w3) :
    ∃ p x, LitP s i n b c L p x w3 := by
  replace hm : ∀ x1 i1, i1 ≤ s.size → RD w1 b s i1 n x1 → SumP s i1 (c / 16) b n x1 w1 m w2 := fun x1 i1 h1 h2 => by
    obtain ⟨i2, x2, k1, k2, k3⟩ := hm
    obtain ⟨rfl, _, rfl⟩ := h2.inj k2 h1 k1
    exact k3
  replace hL : ∀ x2 i2, i2 ≤ s.size → RD w2 b s i2 n x2 → BytP s i2 n b x2 m w2 L w3 := fun x1 i1 h1 h2 => by
    obtain ⟨i2, x2, k1, k2, k3⟩ := hL
    obtain ⟨rfl, _, rfl⟩ := h2.inj k2 h1 k1
    exact k3
  rcases hn.2.2 with ⟨h1, h2, h3⟩ | ⟨h1, h2, h3⟩
  · obtain ⟨hs, hm2, _⟩ := hm false (i + 1) (by omega) h3
    rcases hs with ⟨j, h4, h5⟩ | ⟨h4, h5, h6⟩
    · have g := mo_spec (by omega) h4
      rcases (hL _ _ g.2.1 h5).2 with ⟨h7, h8, h9⟩ | ⟨h7, h8, h9⟩
      · refine ⟨_, _, h9, h7, by rw [h8, ByteArray.size_extract]; omega, .inr ⟨rfl, h1, h2, m, j, by rw [← h2]; exact h4, h8, rfl⟩⟩
      · refine ⟨_, _, h9, Nat.le_refl _, by rw [h8]; exact Nat.zero_le _, .inl ⟨rfl, rfl, ?_⟩⟩
        rw [h2] at h4
        exact st_cut h1 h4 (by omega)
    · rcases (hL _ _ (Nat.le_refl _) h6).2 with ⟨h7, h8, h9⟩ | ⟨h7, h8, h9⟩
      · omega
      · refine ⟨_, _, h9, Nat.le_refl _, by rw [h8]; exact Nat.zero_le _, .inl ⟨rfl, rfl, ?_⟩⟩
        rw [h2] at h4
        exact st_bad h1 h4
  · obtain ⟨hs, hm2, _⟩ := hm true s.size (Nat.le_refl _) h3
    subst h2
    rcases hs with ⟨j, h4, h5⟩ | ⟨h4, h5, h6⟩
    · rw [mo_few (by decide)] at h4
      simp only [Option.some.injEq, Prod.mk.injEq] at h4
      obtain ⟨rfl, rfl⟩ := h4
      rcases (hL _ _ (Nat.le_refl _) h5).2 with ⟨h7, h8, h9⟩ | ⟨h7, h8, h9⟩
      · refine ⟨_, _, h9, h7, by rw [h8, ByteArray.size_extract]; omega, .inl ⟨rfl, rfl, st_end (by omega)⟩⟩
      · omega
    · rw [mo_few (by decide)] at h4
      cases h4
set_option maxRecDepth 100000 in
set_option maxHeartbeats 1600000 in
theorem seq_any (hr : RD w b s i n false) (hi : i ≤ s.size) (hn : n ≤ 50000000) (hs : s.size ≤ 140000) : Calls Tryd.prog 103 #[.pointer (some ⟨b, 0, none⟩)] w fun e w' => SeqP s i n b w e w' := by
  obtain ⟨V, hV⟩ : ∃ V, w.alloc (.cells #[.string ⟨#[]⟩, .int .i64 0, .int .i64 0] 124) = V := ⟨_, rfl⟩
  have hBV : Below w.heap.size w V := by rw [← hV]; exact (Below.refl _ _).alloc (Nat.le_refl _) _
  have k0 : QB V w.heap.size ⟨#[]⟩ 0 0 := by rw [← hV]; exact heap_alloc_new w _
  have hRV := hr.bel hBV
  have HN := hide (number_any hRV hi)
  have H0 := hide (And.intro hBV (And.intro k0 hr))
  have hbl := hr.lt
  clear hBV k0 hr hRV
  go_enter Tryd.func103, Tryd.ntmps103
  go_wp2_with fail
  refine HN.out.mono ?_
  rintro _ w2 ⟨c, rfl, hP2⟩
  have hc := hP2.2.1
  have a1 := and15_fin ⟨c, hc⟩
  obtain ⟨i2, x2, hi2, hR2⟩ : ∃ i2 x2, i2 ≤ s.size ∧ RD w2 b s i2 n x2 := by
    rcases hP2.2.2 with ⟨h1, _, h3⟩ | ⟨_, _, h3⟩
    · exact ⟨_, _, by omega, h3⟩
    · exact ⟨_, _, Nat.le_refl _, h3⟩
  obtain ⟨b0, hb0⟩ : ∃ b0, c % 16 = b0 := ⟨_, rfl⟩
  obtain ⟨a0, ha0⟩ : ∃ a0, c / 16 = a0 := ⟨_, rfl⟩
  have hd0 : (c : Int) / 16 = (a0 : Int) := by omega
  rw [hb0] at a1
  have H2 := hide (And.intro hd0 a1)
  have HS := hide (sum_any hR2 hi2 (show a0 ≤ 15 by omega) hs)
  have HP2 := hide (And.intro hP2 (And.intro hi2 (And.intro hR2 (And.intro ha0 hb0))))
  clear hP2 a1 hR2 hd0 ha0 hb0
  go_wp2_with fail
  rw [H2.out.1, H2.out.2]
  refine HS.out.mono ?_
  rintro _ w3 ⟨m, rfl, hP3⟩
  obtain ⟨i3, x3, hi3, hR3⟩ : ∃ i3 x3, i3 ≤ s.size ∧ RD w3 b s i3 n x3 := by
    rcases hP3.1 with ⟨j, h1, h3⟩ | ⟨_, _, h3⟩
    · exact ⟨_, _, (mo_spec hi2 h1).2.1, h3⟩
    · exact ⟨_, _, Nat.le_refl _, h3⟩
  have HB := hide (bytes_any hR3 hi3 m)
  have HP3 := hide (And.intro hP3 (And.intro hi3 hR3))
  clear hP3 hR3
  go_wp2_with fail
  refine HB.out.mono ?_
  rintro _ w4 ⟨L, rfl, hP4⟩
  obtain ⟨p, x, hLP⟩ := lit_of HP2.out.1 ⟨_, _, HP2.out.2.1, HP2.out.2.2.1, by rw [HP2.out.2.2.2.1]; exact HP3.out.1⟩ ⟨_, _, HP3.out.2.1, HP3.out.2.2, hP4⟩
  have hG4 : Gs (Me b) w w4 := (((Gs.of_below _ H0.out.1).trans HP2.out.1.1).trans HP3.out.1.2.2).trans hP4.1
  have hz4 : w.heap.size < w4.heap.size := by
    have h1 := lt_of_block H0.out.2.1
    have h2 := HP2.out.1.1.size
    have h3 := HP3.out.1.2.2.size
    have h4 := hP4.1.size
    omega
  have k4 : QB w4 w.heap.size ⟨#[]⟩ 0 0 := by
    have hne : ¬ Me b w.heap.size := by show ¬ w.heap.size = b; omega
    have e1 := HP2.out.1.1.block w.heap.size (lt_of_block H0.out.2.1) hne
    have l1 := lt_of_block (e1.trans H0.out.2.1)
    have e2 := HP3.out.1.2.2.block w.heap.size l1 hne
    have l2 := lt_of_block (e2.trans (e1.trans H0.out.2.1))
    exact (hP4.1.block w.heap.size l2 hne).trans (e2.trans (e1.trans H0.out.2.1))
  have HCB : Hid (b0 = c % 16) := HP2.out.2.2.2.2.symm
  obtain ⟨g, hg⟩ : ∃ g, g = w4.heap.size := ⟨_, rfl⟩
  obtain ⟨V5, hV5⟩ : ∃ V5, w4.alloc (.cells #[.string L, .int .i64 0, .int .i64 0] 124) = V5 := ⟨_, rfl⟩
  have hB5 : Below w4.heap.size w4 V5 := by rw [← hV5]; exact (Below.refl _ _).alloc (Nat.le_refl _) _
  have q5 : QB V5 g L 0 0 := by rw [← hV5, hg]; exact heap_alloc_new w4 _
  have HV5 := hide hV5
  obtain ⟨N, hN⟩ : ∃ N, N = n + L.size := ⟨_, rfl⟩
  have hR5 := hLP.1.bel hB5
  have k5 : QB V5 w.heap.size ⟨#[]⟩ 0 0 := (hB5.block _ hz4).trans k4
  have hG5 : Gs (Me b) w V5 := hG4.bel hB5
  have hbg : b ≠ g := by omega
  have hwg : w.heap.size ≠ g := by omega
  obtain ⟨V6, hV6⟩ : ∃ V6, (V5.setCell ⟨b, 1, none⟩ (.int .i64 (N : Int))).drew = V6 := ⟨_, rfl⟩
  have hR6 : RD V6 b s p N x := by rw [← hV6]; exact hR5.done N
  have q6 : QB V6 g L 0 0 := by rw [← hV6]; exact (heap_setCell_other _ _ _ _ (by show g ≠ b; omega)).trans q5
  have k6 : QB V6 w.heap.size ⟨#[]⟩ 0 0 := by rw [← hV6]; exact (heap_setCell_other _ _ _ _ (by show w.heap.size ≠ b; omega)).trans k5
  have hG6 : Gs (Me b) w V6 := by
    have h := hG5.set (a := ⟨b, 1, none⟩) (.inl rfl) (.int .i64 (N : Int))
    rw [← hV6]
    exact ⟨h.os, h.tape, h.output, h.size, h.block⟩
  have HV6 := hide hV6
  have HN6 := hide hN
  have nb : (n : Int) + (L.size : Int) = (N : Int) := by omega
  have nw : IntKind.i64.wrap (N : Int) = (N : Int) := by have := hLP.2.2.1; rw [IntKind.wrap_i64]; omega
  have c51 := (cell3 hR5).2.1
  have c50 := (cell3 q5).1
  have f51 := free3 hR5 1
  have H6 := hide (And.intro hR6 (And.intro q6 (And.intro k6 (And.intro hG6 (And.intro hLP.2 hG4)))))
  have HG := hide hg
  clear hg hG4 hV5 hB5 hV6 hN hLP hP4 hR6 q6 k6 hG6 k4 k5 hG5 q5 hR5
  go_wp2_with fail
  rw [HV5.out, ← HG.out]
  go_region
  rw [HV6.out]
  by_cases hp : p = s.size
  · subst hp
    have c60 := (cell3 H6.out.1).1
    rw [ext_end s (Nat.le_refl _)] at c60
    have c62 := (cell3 H6.out.1).2.2
    have f62 := free3 H6.out.1 2
    cases x with
    | true =>
      have HST : Hid (stp s i n = none) := by
        rcases H6.out.2.2.2.2.1.2.2 with ⟨_, _, h3⟩ | ⟨h1, _⟩
        · exact h3
        · cases h1
      obtain ⟨V7, hV7⟩ : ∃ V7, V6.setCell ⟨b, 2, none⟩ (.bool true) = V7 := ⟨_, rfl⟩
      have hR7 : RD V7 b s s.size N true := by rw [← hV7]; exact H6.out.1.bad true
      have q7 : QB V7 g L 0 0 := by rw [← hV7]; exact (heap_setCell_other _ _ _ _ (by show g ≠ b; omega)).trans H6.out.2.1
      have k7 : QB V7 w.heap.size ⟨#[]⟩ 0 0 := by rw [← hV7]; exact (heap_setCell_other _ _ _ _ (by show w.heap.size ≠ b; omega)).trans H6.out.2.2.1
      have hG7 : Gs (Me b) w V7 := by rw [← hV7]; exact H6.out.2.2.2.1.set (a := ⟨b, 2, none⟩) (.inl rfl) _
      have H7 := hide (And.intro hR7 (And.intro q7 (And.intro k7 hG7)))
      clear hR7 q7 k7 hG7
      obtain ⟨⟨z0, z1, z2, z3, z4, z5⟩, ⟨z6, z7, z8, z9⟩, ⟨y6, y7⟩, kf, hG9⟩ := three_set H7.out.2.2.1 (.string L) (.int .i64 (0 : Int)) (.int .i64 (0 : Int))
      obtain ⟨u0, u1, u2⟩ := cell3 H7.out.2.1
      obtain ⟨f0, f1, f2⟩ := cell3 kf
      have hRz := H7.out.1.gs hG9 (show ¬ b = w.heap.size by omega)
      have hGz : Gs (Me b) w (((V7.setCell ⟨w.heap.size, 0, none⟩ (.string L)).setCell ⟨w.heap.size, 1, none⟩ (.int .i64 (0 : Int))).setCell ⟨w.heap.size, 2, none⟩ (.int .i64 (0 : Int))) := ((H7.out.2.2.2.set (a := ⟨w.heap.size, 0, none⟩) (.inr (Nat.le_refl _)) _).set (a := ⟨w.heap.size, 1, none⟩) (.inr (Nat.le_refl _)) _).set (a := ⟨w.heap.size, 2, none⟩) (.inr (Nat.le_refl _)) _
      have HE : Hid (SeqP s i n b w (.returned (.agg #[.string L, .int .i64 (0 : Int), .int .i64 (0 : Int)])) (((V7.setCell ⟨w.heap.size, 0, none⟩ (.string L)).setCell ⟨w.heap.size, 1, none⟩ (.int .i64 (0 : Int))).setCell ⟨w.heap.size, 2, none⟩ (.int .i64 (0 : Int)))) :=
        ⟨⟨L, 0, 0⟩, rfl, hGz, .inl ⟨HST.out, _, hRz⟩⟩
      clear kf hG9 hRz hGz
      go_wp2
      exact bodyPost_ret (v := .agg #[.string L, .int .i64 (0 : Int), .int .i64 (0 : Int)]) (by simp [results, Tryd.results103, go_sem, f0, f1, f2]) rfl HE.out
    | false =>
      have HL : Hid (i < s.size ∧ c = bt s i ∧ ∃ a j, mo s (i + 1) (bt s i / 16) = some (a, j) ∧ L = s.extract j (j + a) ∧ s.size = j + a) := by
        rcases H6.out.2.2.2.2.1.2.2 with ⟨h1, _⟩ | ⟨_, h3⟩
        · cases h1
        · exact h3
      by_cases hb0 : b0 = 0
      · have HST : Hid (stp s i n = some (⟨L, 0, 0⟩, s.size)) := by
          obtain ⟨l1, l2, a, j, l3, l4, l5⟩ := HL.out
          have h4 := mo_spec (by omega) l3
          show stp s i n = _
          rw [st_last l1 l3 (by omega) l5.symm, if_pos (by rw [← l2, ← HCB.out]; exact hb0), l4]
        have b1 : ((b0 : Int) != 0) = false := by subst hb0; rfl
        have b2 : ((b0 : Int) == 0) = true := by subst hb0; rfl
        have b3 : (b0 : Int) = 0 := by omega
        have HB0 := hide hb0
        clear hb0
        obtain ⟨V7, hV7⟩ : ∃ V7, V6.setCell ⟨b, 2, none⟩ (.bool false) = V7 := ⟨_, rfl⟩
        have hR7 : RD V7 b s s.size N false := by rw [← hV7]; exact H6.out.1.bad false
        have q7 : QB V7 g L 0 0 := by rw [← hV7]; exact (heap_setCell_other _ _ _ _ (by show g ≠ b; omega)).trans H6.out.2.1
        have k7 : QB V7 w.heap.size ⟨#[]⟩ 0 0 := by rw [← hV7]; exact (heap_setCell_other _ _ _ _ (by show w.heap.size ≠ b; omega)).trans H6.out.2.2.1
        have hG7 : Gs (Me b) w V7 := by rw [← hV7]; exact H6.out.2.2.2.1.set (a := ⟨b, 2, none⟩) (.inl rfl) _
        have H7 := hide (And.intro hR7 (And.intro q7 (And.intro k7 hG7)))
        clear hR7 q7 k7 hG7
        obtain ⟨⟨z0, z1, z2, z3, z4, z5⟩, ⟨z6, z7, z8, z9⟩, ⟨y6, y7⟩, kf, hG9⟩ := three_set H7.out.2.2.1 (.string L) (.int .i64 (0 : Int)) (.int .i64 (0 : Int))
        obtain ⟨u0, u1, u2⟩ := cell3 H7.out.2.1
        obtain ⟨f0, f1, f2⟩ := cell3 kf
        have hRz := H7.out.1.gs hG9 (show ¬ b = w.heap.size by omega)
        have hGz : Gs (Me b) w (((V7.setCell ⟨w.heap.size, 0, none⟩ (.string L)).setCell ⟨w.heap.size, 1, none⟩ (.int .i64 (0 : Int))).setCell ⟨w.heap.size, 2, none⟩ (.int .i64 (0 : Int))) := ((H7.out.2.2.2.set (a := ⟨w.heap.size, 0, none⟩) (.inr (Nat.le_refl _)) _).set (a := ⟨w.heap.size, 1, none⟩) (.inr (Nat.le_refl _)) _).set (a := ⟨w.heap.size, 2, none⟩) (.inr (Nat.le_refl _)) _
        have HE : Hid (SeqP s i n b w (.returned (.agg #[.string L, .int .i64 (0 : Int), .int .i64 (0 : Int)])) (((V7.setCell ⟨w.heap.size, 0, none⟩ (.string L)).setCell ⟨w.heap.size, 1, none⟩ (.int .i64 (0 : Int))).setCell ⟨w.heap.size, 2, none⟩ (.int .i64 (0 : Int)))) :=
          ⟨⟨L, 0, 0⟩, rfl, hGz, .inr ⟨_, HST.out, by show RD _ b s s.size (n + L.size) false; rw [← HN6.out]; exact hRz⟩⟩
        clear kf hG9 hRz hGz
        go_wp2
        exact bodyPost_ret (v := .agg #[.string L, .int .i64 (0 : Int), .int .i64 (0 : Int)]) (by simp [results, Tryd.results103, go_sem, f0, f1, f2]) rfl HE.out
      · have HST : Hid (stp s i n = none) := by
          obtain ⟨l1, l2, a, j, l3, l4, l5⟩ := HL.out
          have h4 := mo_spec (by omega) l3
          show stp s i n = _
          rw [st_last l1 l3 (by omega) l5.symm, if_neg (by rw [← l2, ← HCB.out]; exact hb0)]
        have b1 : ((b0 : Int) != 0) = true := by simp; omega
        have b2 : ((b0 : Int) == 0) = false := by simp; omega
        have b3 : ¬ (b0 : Int) = 0 := by omega
        obtain ⟨V7, hV7⟩ : ∃ V7, V6.setCell ⟨b, 2, none⟩ (.bool true) = V7 := ⟨_, rfl⟩
        have hR7 : RD V7 b s s.size N true := by rw [← hV7]; exact H6.out.1.bad true
        have q7 : QB V7 g L 0 0 := by rw [← hV7]; exact (heap_setCell_other _ _ _ _ (by show g ≠ b; omega)).trans H6.out.2.1
        have k7 : QB V7 w.heap.size ⟨#[]⟩ 0 0 := by rw [← hV7]; exact (heap_setCell_other _ _ _ _ (by show w.heap.size ≠ b; omega)).trans H6.out.2.2.1
        have hG7 : Gs (Me b) w V7 := by rw [← hV7]; exact H6.out.2.2.2.1.set (a := ⟨b, 2, none⟩) (.inl rfl) _
        have H7 := hide (And.intro hR7 (And.intro q7 (And.intro k7 hG7)))
        clear hR7 q7 k7 hG7
        obtain ⟨⟨z0, z1, z2, z3, z4, z5⟩, ⟨z6, z7, z8, z9⟩, ⟨y6, y7⟩, kf, hG9⟩ := three_set H7.out.2.2.1 (.string L) (.int .i64 (0 : Int)) (.int .i64 (0 : Int))
        obtain ⟨u0, u1, u2⟩ := cell3 H7.out.2.1
        obtain ⟨f0, f1, f2⟩ := cell3 kf
        have hRz := H7.out.1.gs hG9 (show ¬ b = w.heap.size by omega)
        have hGz : Gs (Me b) w (((V7.setCell ⟨w.heap.size, 0, none⟩ (.string L)).setCell ⟨w.heap.size, 1, none⟩ (.int .i64 (0 : Int))).setCell ⟨w.heap.size, 2, none⟩ (.int .i64 (0 : Int))) := ((H7.out.2.2.2.set (a := ⟨w.heap.size, 0, none⟩) (.inr (Nat.le_refl _)) _).set (a := ⟨w.heap.size, 1, none⟩) (.inr (Nat.le_refl _)) _).set (a := ⟨w.heap.size, 2, none⟩) (.inr (Nat.le_refl _)) _
        have HE : Hid (SeqP s i n b w (.returned (.agg #[.string L, .int .i64 (0 : Int), .int .i64 (0 : Int)])) (((V7.setCell ⟨w.heap.size, 0, none⟩ (.string L)).setCell ⟨w.heap.size, 1, none⟩ (.int .i64 (0 : Int))).setCell ⟨w.heap.size, 2, none⟩ (.int .i64 (0 : Int)))) :=
          ⟨⟨L, 0, 0⟩, rfl, hGz, .inl ⟨HST.out, _, hRz⟩⟩
        clear kf hG9 hRz hGz
        go_wp2
        exact bodyPost_ret (v := .agg #[.string L, .int .i64 (0 : Int), .int .i64 (0 : Int)]) (by simp [results, Tryd.results103, go_sem, f0, f1, f2]) rfl HE.out
  · have hx0 : x = false := by
      rcases H6.out.2.2.2.2.1.2.2 with ⟨_, h2, _⟩ | ⟨h1, _⟩
      · exact absurd h2 hp
      · exact h1
    subst hx0
    have hpl : p < s.size := by have := H6.out.2.2.2.2.1.1; omega
    have HL : Hid (i < s.size ∧ c = bt s i ∧ ∃ a j, mo s (i + 1) (bt s i / 16) = some (a, j) ∧ L = s.extract j (j + a) ∧ p = j + a) := by
      rcases H6.out.2.2.2.2.1.2.2 with ⟨_, h2, _⟩ | ⟨_, h3⟩
      · exact absurd h2 hp
      · exact h3
    have c60 := (cell3 H6.out.1).1
    obtain ⟨r, hr⟩ : ∃ r, r = s.extract p s.size := ⟨_, rfl⟩
    have hrz : r.size = s.size - p := by rw [hr, ByteArray.size_extract]; omega
    have hne2 : ¬ r.toList = [] := by
      rw [bytes_list]
      intro e
      have h3 := congrArg List.length e
      have h4 : r.size = 0 := by simpa using h3
      omega
    have hne : r.toList.isEmpty = false := List.isEmpty_eq_false_iff.2 hne2
    rw [← hr] at c60
    have HN7 := hide (number_ok H6.out.1 hpl)
    clear hr hp
    go_wp2_with fail
    refine HN7.out.mono ?_
    rintro _ w7 ⟨rfl, hR7, hG7⟩
    obtain ⟨c1, hc1⟩ : ∃ c1, bt s p = c1 := ⟨_, rfl⟩
    have hc1l := bt_lt s p
    rw [hc1] at hc1l ⊢
    have HC1 := hide hc1
    clear hc1
    have q7 : QB w7 g L 0 0 := (hG7.block g (lt_of_block H6.out.2.1) (by show ¬ g = b; omega)).trans H6.out.2.1
    have k7 : QB w7 w.heap.size ⟨#[]⟩ 0 0 := (hG7.block _ (lt_of_block H6.out.2.2.1) (by show ¬ w.heap.size = b; omega)).trans H6.out.2.2.1
    have hGG7 : Gs (Me b) w w7 := H6.out.2.2.2.1.trans hG7
    obtain ⟨V7, hV7⟩ : ∃ V7, w7.setCell ⟨g, 1, none⟩ (.int .i64 (c1 : Int)) = V7 := ⟨_, rfl⟩
    have hR7' : RD V7 b s (p + 1) N false := by rw [← hV7]; exact (heap_setCell_other _ _ _ _ (by show b ≠ g; omega)).trans hR7
    have q7' : QB V7 g L c1 0 := by rw [← hV7]; exact heap_set_self (u := .int .i64 (c1 : Int)) q7
    have k7' : QB V7 w.heap.size ⟨#[]⟩ 0 0 := by rw [← hV7]; exact (heap_setCell_other _ _ _ _ (by show w.heap.size ≠ g; omega)).trans k7
    have hG7' : Gs (Me b) w V7 := by rw [← hV7]; exact hGG7.set (a := ⟨g, 1, none⟩) (.inr (by show w.heap.size ≤ g; rw [HG.out]; omega)) _
    have e0 := (cell3 q7).2.1
    have e1 := free3 q7 1
    have HV7 := hide hV7
    have H7 := hide (And.intro hR7' (And.intro q7' (And.intro k7' hG7')))
    clear hV7 hR7' q7' k7' hG7' hR7 q7 k7 hGG7 hG7
    go_upto_region 9 with fail
    rw [HV7.out]
    go_cut [] (fun wx => ∃ (dd p2 : Nat) (x2 : Bool), p2 ≤ s.size ∧ dd ≤ 65535 ∧ RD wx b s p2 N x2 ∧ QB wx g L dd 0 ∧ QB wx w.heap.size ⟨#[]⟩ 0 0 ∧ Gs (Me b) w wx ∧ ((x2 = true ∧ p2 = s.size ∧ s.size < p + 2) ∨ (x2 = false ∧ p2 = p + 2 ∧ dd = ds s p)))
    case first =>
      have hRd : RD V7.drew b s (p + 1) N false := H7.out.1
      have HN9 := hide (number_any hRd (by omega))
      have d0 := (cell3 H7.out.2.1).2.1
      have d1 := free3 H7.out.2.1 1
      clear hRd
      go_region_with (go_at_call 105; refine Calls.mono HN9.out ?_; rintro _ w8 ⟨c2, rfl, hP8⟩
                      have hq8 : QB w8 g L c1 0 := (hP8.1.block g (lt_of_block H7.out.2.1) (by show ¬ g = b; omega)).trans H7.out.2.1
                      have d2 := (cell3 hq8).2.1
                      have d3 := free3 hq8 1
                      have d4 := hP8.2.1
                      have d5 : IntKind.i64.wrap ((c2 : Int) * 256) = (c2 : Int) * 256 := by rw [IntKind.wrap_i64]; omega
                      have d6 : IntKind.i64.wrap ((c1 : Int) + (c2 : Int) * 256) = (c1 : Int) + (c2 : Int) * 256 := by rw [IntKind.wrap_i64]; omega
                      have HP8 := hide hP8
                      have HQ8 := hide hq8
                      clear hP8 hq8)
      all_goals (go_wp2_with fail; go_meet)
      all_goals
        have e1 : (c1 : Int) + (c2 : Int) * 256 = ((c1 + c2 * 256 : Nat) : Int) := by omega
        rw [e1]
        have hq9 : QB (w8.setCell ⟨g, 1, none⟩ (.int .i64 ((c1 + c2 * 256 : Nat) : Int))) g L (c1 + c2 * 256) 0 := heap_set_self (u := .int .i64 ((c1 + c2 * 256 : Nat) : Int)) HQ8.out
        have hk9 : QB (w8.setCell ⟨g, 1, none⟩ (.int .i64 ((c1 + c2 * 256 : Nat) : Int))) w.heap.size ⟨#[]⟩ 0 0 := (heap_setCell_other _ _ _ _ (by show w.heap.size ≠ g; omega)).trans ((HP8.out.1.block _ (lt_of_block H7.out.2.2.1) (by show ¬ w.heap.size = b; omega)).trans H7.out.2.2.1)
        have hG8 : Gs (Me b) V7 w8 := ⟨HP8.out.1.os, HP8.out.1.tape, HP8.out.1.output, HP8.out.1.size, HP8.out.1.block⟩
        have hG9 : Gs (Me b) w (w8.setCell ⟨g, 1, none⟩ (.int .i64 ((c1 + c2 * 256 : Nat) : Int))) := (H7.out.2.2.2.trans hG8).set (a := ⟨g, 1, none⟩) (.inr (by show w.heap.size ≤ g; rw [HG.out]; omega)) _
        rcases HP8.out.2.2 with ⟨h1, h2, h3⟩ | ⟨h1, h2, h3⟩
        · exact ⟨_, p + 1 + 1, false, by omega, by omega, (heap_setCell_other _ _ _ _ (by show b ≠ g; omega)).trans h3, hq9, hk9, hG9, .inr ⟨rfl, rfl, by rw [ds, h2, HC1.out]⟩⟩
        · exact ⟨_, s.size, true, Nat.le_refl _, by omega, (heap_setCell_other _ _ _ _ (by show b ≠ g; omega)).trans h3, hq9, hk9, hG9, .inl ⟨rfl, rfl, by omega⟩⟩
    case rest =>
      obtain ⟨dd, p2, x2, hp2, hdd, hR8, q8, k8, hG8, hcl⟩ := hcut
      obtain ⟨l1, l2, a, j, l3, l4, l5⟩ := HL.out
      have g1 := mo_spec (by omega) l3
      have HM1 := hide (And.intro l3 (And.intro l4 (And.intro l5 (And.intro l2 hcl))))
      have e0 := (cell3 q8).2.1
      have e1 := (cell3 hR8).2.1
      have hLz : L.size = a := by rw [l4, ByteArray.size_extract]; omega
      have hNN := HN6.out
      have HSX : Hid (x2 = true ∨ dd = 0 ∨ N < dd → stp s i n = none) := by
        show x2 = true ∨ dd = 0 ∨ N < dd → stp s i n = none
        intro h
        rcases hcl with ⟨_, _, h3⟩ | ⟨h1, h2, h3⟩
        · exact st_two l1 l3 (by omega) (by omega) (by omega)
        · by_cases h4 : s.size < j + a + 2
          · exact st_two l1 l3 (by omega) (by omega) h4
          · refine st_far l1 l3 (by omega) (by omega) h4 ?_
            rw [l5] at h3
            rw [← h3]
            rcases h with h | h | h
            · rw [h1] at h; cases h
            · exact .inl h
            · exact .inr (by omega)
      clear l3 l4 l5 l2 hcl g1
      have HNN := hide hNN
      clear hNN hLz
      by_cases hbd : dd = 0 ∨ N < dd
      · have HST : Hid (stp s i n = none) := HSX.out (.inr hbd)
        have HBD := hide hbd
        have H9 := hide (And.intro hR8 (And.intro q8 (And.intro k8 hG8)))
        clear hR8 q8 k8 hG8 hbd
        go_upto_region 10 with fail
        go_cut [67] (fun t wx => t = .bool true ∧ RD wx b s p2 N x2 ∧ QB wx g L dd 0 ∧ QB wx w.heap.size ⟨#[]⟩ 0 0 ∧ Gs (Me b) w wx)
        case first =>
          by_cases hz : dd = 0
          · have z1 : ((dd : Int) == 0) = true := by simpa using hz
            have z2 : (dd : Int) = 0 := by omega
            have HZ := hide hz
            clear hz
            go_quiet (fail)
            go_wp2
            go_meet
            exact ⟨rfl, H9.out.1, H9.out.2.1, H9.out.2.2.1, ⟨H9.out.2.2.2.os, H9.out.2.2.2.tape, H9.out.2.2.2.output, H9.out.2.2.2.size, H9.out.2.2.2.block⟩⟩
          · have z1 : ((dd : Int) == 0) = false := by simp; omega
            have z2 : ¬ (dd : Int) = 0 := by omega
            have z3 : (N : Int) < (dd : Int) := by have := HBD.out; omega
            have z4 : decide ((N : Int) < (dd : Int)) = true := by simpa using z3
            go_quiet (fail)
            go_wp2
            go_meet
            exact ⟨rfl, H9.out.1, H9.out.2.1, H9.out.2.2.1, ⟨H9.out.2.2.2.os, H9.out.2.2.2.tape, H9.out.2.2.2.output, H9.out.2.2.2.size, H9.out.2.2.2.block⟩⟩
        case rest =>
          obtain ⟨rfl, hR9, q9, k9, hG9⟩ := hcut
          have HF := hide (fail_any hR9)
          clear H9
          have H9 := hide (And.intro q9 (And.intro k9 hG9))
          clear hR9 q9 k9 hG9
          go_wp2_with fail
          refine HF.out.mono ?_
          rintro _ w8 ⟨rfl, hR8, hg8⟩
          have q8 := (hg8.block g (lt_of_block H9.out.1) (by show ¬ g = b; omega)).trans H9.out.1
          have k8 := (hg8.block _ (lt_of_block H9.out.2.1) (by show ¬ w.heap.size = b; omega)).trans H9.out.2.1
          have H8 := hide (And.intro hR8 (And.intro q8 (And.intro k8 (H9.out.2.2.trans hg8))))
          clear hR8 q8 k8 hg8
          have HS := hide (sum_any H8.out.1 (Nat.le_refl _) (show b0 ≤ 15 by rw [HCB.out]; omega) hs)
          go_wp2_with fail
          refine HS.out.mono ?_
          rintro _ w9 ⟨m2, rfl, hP9⟩
          obtain ⟨i9, x9, hi9, hR9⟩ : ∃ i9 x9, i9 ≤ s.size ∧ RD w9 b s i9 N x9 := by
            rcases hP9.1 with ⟨j, h1, h3⟩ | ⟨_, _, h3⟩
            · exact ⟨_, _, (mo_spec (Nat.le_refl _) h1).2.1, h3⟩
            · exact ⟨_, _, Nat.le_refl _, h3⟩
          have hm2 := hP9.2.1
          have q9 : QB w9 g L dd 0 := (hP9.2.2.block g (lt_of_block H8.out.2.1) (by show ¬ g = b; omega)).trans H8.out.2.1
          have k9 : QB w9 w.heap.size ⟨#[]⟩ 0 0 := (hP9.2.2.block _ (lt_of_block H8.out.2.2.1) (by show ¬ w.heap.size = b; omega)).trans H8.out.2.2.1
          have hG9 : Gs (Me b) w w9 := H8.out.2.2.2.trans hP9.2.2
          obtain ⟨l2, hl2⟩ : ∃ l2, l2 = m2 + 4 := ⟨_, rfl⟩
          have n1 : (m2 : Int) + 4 = (l2 : Int) := by omega
          have n2 : IntKind.i64.wrap (l2 : Int) = (l2 : Int) := by rw [IntKind.wrap_i64]; omega
          obtain ⟨W1, hW1⟩ : ∃ W1, w9.setCell ⟨g, 2, none⟩ (.int .i64 (l2 : Int)) = W1 := ⟨_, rfl⟩
          have qa : QB W1 g L dd l2 := by rw [← hW1]; exact heap_set_self (u := .int .i64 (l2 : Int)) q9
          have ka : QB W1 w.heap.size ⟨#[]⟩ 0 0 := by rw [← hW1]; exact (heap_setCell_other _ _ _ _ (by show w.heap.size ≠ g; omega)).trans k9
          have hRa : RD W1 b s i9 N x9 := by rw [← hW1]; exact (heap_setCell_other _ _ _ _ (by show b ≠ g; omega)).trans hR9
          have hGa : Gs (Me b) w W1 := by rw [← hW1]; exact hG9.set (a := ⟨g, 2, none⟩) (.inr (by show w.heap.size ≤ g; rw [HG.out]; omega)) _
          have e0 := (cell3 q9).2.2
          have e1 := free3 q9 2
          have HPP := hide (And.intro hP9 hl2)
          obtain ⟨M, hM⟩ : ∃ M, M = N + l2 := ⟨_, rfl⟩
          have n3 : (N : Int) + (l2 : Int) = (M : Int) := by omega
          have n4 : IntKind.i64.wrap (M : Int) = (M : Int) := by have := H6.out.2.2.2.2.1.2.1; have := HN6.out; rw [IntKind.wrap_i64]; omega
          obtain ⟨W2, hW2⟩ : ∃ W2, (W1.setCell ⟨b, 1, none⟩ (.int .i64 (M : Int))).drew = W2 := ⟨_, rfl⟩
          have hRb : RD W2 b s i9 M x9 := by rw [← hW2]; exact hRa.done M
          have qb : QB W2 g L dd l2 := by rw [← hW2]; exact (heap_setCell_other _ _ _ _ (by show g ≠ b; omega)).trans qa
          have kb : QB W2 w.heap.size ⟨#[]⟩ 0 0 := by rw [← hW2]; exact (heap_setCell_other _ _ _ _ (by show w.heap.size ≠ b; omega)).trans ka
          have hGb : Gs (Me b) w W2 := by
            have h := hGa.set (a := ⟨b, 1, none⟩) (.inl rfl) (.int .i64 (M : Int))
            rw [← hW2]
            exact ⟨h.os, h.tape, h.output, h.size, h.block⟩
          have e2 := (cell3 hRa).2.1
          have e3 := (cell3 qa).2.2
          have e4 := free3 hRa 1
          have HR9 := hide hR9
          have H7 := hide (And.intro hRb (And.intro qb (And.intro kb hGb)))
          have HW1 := hide hW1
          have HW2 := hide hW2
          have HM := hide hM
          clear hRb qb kb hGb hRa qa ka hGa hR9 q9 k9 hG9 hP9 hl2 hW1 hW2 hM hm2
          go_wp2_with fail
          rw [HW1.out]
          go_region
          rw [HW2.out]
          obtain ⟨⟨z0, z1, z2, z3, z4, z5⟩, ⟨z6, z7, z8, z9⟩, ⟨y6, y7⟩, kf, hG9⟩ := three_set H7.out.2.2.1 (.string L) (.int .i64 (dd : Int)) (.int .i64 (l2 : Int))
          obtain ⟨u0, u1, u2⟩ := cell3 H7.out.2.1
          obtain ⟨f0, f1, f2⟩ := cell3 kf
          have hRz := H7.out.1.gs hG9 (show ¬ b = w.heap.size by omega)
          have hGz : Gs (Me b) w (((W2.setCell ⟨w.heap.size, 0, none⟩ (.string L)).setCell ⟨w.heap.size, 1, none⟩ (.int .i64 (dd : Int))).setCell ⟨w.heap.size, 2, none⟩ (.int .i64 (l2 : Int))) := ((H7.out.2.2.2.set (a := ⟨w.heap.size, 0, none⟩) (.inr (Nat.le_refl _)) _).set (a := ⟨w.heap.size, 1, none⟩) (.inr (Nat.le_refl _)) _).set (a := ⟨w.heap.size, 2, none⟩) (.inr (Nat.le_refl _)) _
          have HE : Hid (SeqP s i n b w (.returned (.agg #[.string L, .int .i64 (dd : Int), .int .i64 (l2 : Int)])) (((W2.setCell ⟨w.heap.size, 0, none⟩ (.string L)).setCell ⟨w.heap.size, 1, none⟩ (.int .i64 (dd : Int))).setCell ⟨w.heap.size, 2, none⟩ (.int .i64 (l2 : Int)))) :=
            by
              refine ⟨⟨L, dd, l2⟩, rfl, hGz, .inl ⟨HST.out, M, ?_⟩⟩
              have hx : i9 = s.size ∧ x9 = true := by
                rcases HPP.out.1.1 with ⟨j, h1, h3⟩ | ⟨_, _, h3⟩
                · have h4 := mo_spec (Nat.le_refl _) h1
                  obtain ⟨a1, _, a3⟩ := (HR9.out).inj h3 hi9 h4.2.1
                  exact ⟨by omega, a3⟩
                · obtain ⟨a1, _, a3⟩ := (HR9.out).inj h3 hi9 (Nat.le_refl _)
                  exact ⟨a1, a3⟩
              rw [hx.1, hx.2] at hRz
              exact hRz
          clear kf hG9 hRz hGz
          go_wp2
          exact bodyPost_ret (v := .agg #[.string L, .int .i64 (dd : Int), .int .i64 (l2 : Int)]) (by simp [results, Tryd.results103, go_sem, f0, f1, f2]) rfl HE.out
      · have hbz : dd ≠ 0 ∧ ¬ N < dd := by omega
        have HBD := hide hbz
        have H9 := hide (And.intro hR8 (And.intro q8 (And.intro k8 hG8)))
        clear hR8 q8 k8 hG8 hbd hbz
        go_upto_region 10 with fail
        go_cut [67] (fun t wx => t = .bool false ∧ RD wx b s p2 N x2 ∧ QB wx g L dd 0 ∧ QB wx w.heap.size ⟨#[]⟩ 0 0 ∧ Gs (Me b) w wx)
        case first =>
          have z1 : ((dd : Int) == 0) = false := by have := HBD.out; simp; omega
          have z2 : ¬ (dd : Int) = 0 := by have := HBD.out; omega
          have z3 : ¬ (N : Int) < (dd : Int) := by have := HBD.out; omega
          have z4 : decide ((N : Int) < (dd : Int)) = false := by simpa using z3
          go_quiet (fail)
          go_wp2
          go_meet
          exact ⟨rfl, H9.out.1, H9.out.2.1, H9.out.2.2.1, ⟨H9.out.2.2.2.os, H9.out.2.2.2.tape, H9.out.2.2.2.output, H9.out.2.2.2.size, H9.out.2.2.2.block⟩⟩
        case rest =>
          obtain ⟨rfl, hR9, q9, k9, hG9⟩ := hcut
          clear H9
          have H8 := hide (And.intro hR9 (And.intro q9 (And.intro k9 hG9)))
          clear hR9 q9 k9 hG9
          have HLE := hide hp2
          rcases HM1.out.2.2.2.2 with ⟨rfl, rfl, hx3⟩ | ⟨rfl, hx2, hx3⟩
          · have HST : Hid (stp s i n = none) := HSX.out (.inl rfl)
            clear hx3
            have HS := hide (sum_any H8.out.1 (Nat.le_refl _) (show b0 ≤ 15 by rw [HCB.out]; omega) hs)
            go_wp2_with fail
            refine HS.out.mono ?_
            rintro _ w9 ⟨m2, rfl, hP9⟩
            obtain ⟨i9, x9, hi9, hR9⟩ : ∃ i9 x9, i9 ≤ s.size ∧ RD w9 b s i9 N x9 := by
              rcases hP9.1 with ⟨j, h1, h3⟩ | ⟨_, _, h3⟩
              · exact ⟨_, _, (mo_spec (Nat.le_refl _) h1).2.1, h3⟩
              · exact ⟨_, _, Nat.le_refl _, h3⟩
            have hm2 := hP9.2.1
            have q9 : QB w9 g L dd 0 := (hP9.2.2.block g (lt_of_block H8.out.2.1) (by show ¬ g = b; omega)).trans H8.out.2.1
            have k9 : QB w9 w.heap.size ⟨#[]⟩ 0 0 := (hP9.2.2.block _ (lt_of_block H8.out.2.2.1) (by show ¬ w.heap.size = b; omega)).trans H8.out.2.2.1
            have hG9 : Gs (Me b) w w9 := H8.out.2.2.2.trans hP9.2.2
            obtain ⟨l2, hl2⟩ : ∃ l2, l2 = m2 + 4 := ⟨_, rfl⟩
            have n1 : (m2 : Int) + 4 = (l2 : Int) := by omega
            have n2 : IntKind.i64.wrap (l2 : Int) = (l2 : Int) := by rw [IntKind.wrap_i64]; omega
            obtain ⟨W1, hW1⟩ : ∃ W1, w9.setCell ⟨g, 2, none⟩ (.int .i64 (l2 : Int)) = W1 := ⟨_, rfl⟩
            have qa : QB W1 g L dd l2 := by rw [← hW1]; exact heap_set_self (u := .int .i64 (l2 : Int)) q9
            have ka : QB W1 w.heap.size ⟨#[]⟩ 0 0 := by rw [← hW1]; exact (heap_setCell_other _ _ _ _ (by show w.heap.size ≠ g; omega)).trans k9
            have hRa : RD W1 b s i9 N x9 := by rw [← hW1]; exact (heap_setCell_other _ _ _ _ (by show b ≠ g; omega)).trans hR9
            have hGa : Gs (Me b) w W1 := by rw [← hW1]; exact hG9.set (a := ⟨g, 2, none⟩) (.inr (by show w.heap.size ≤ g; rw [HG.out]; omega)) _
            have e0 := (cell3 q9).2.2
            have e1 := free3 q9 2
            have HPP := hide (And.intro hP9 hl2)
            obtain ⟨M, hM⟩ : ∃ M, M = N + l2 := ⟨_, rfl⟩
            have n3 : (N : Int) + (l2 : Int) = (M : Int) := by omega
            have n4 : IntKind.i64.wrap (M : Int) = (M : Int) := by have := H6.out.2.2.2.2.1.2.1; have := HN6.out; rw [IntKind.wrap_i64]; omega
            obtain ⟨W2, hW2⟩ : ∃ W2, (W1.setCell ⟨b, 1, none⟩ (.int .i64 (M : Int))).drew = W2 := ⟨_, rfl⟩
            have hRb : RD W2 b s i9 M x9 := by rw [← hW2]; exact hRa.done M
            have qb : QB W2 g L dd l2 := by rw [← hW2]; exact (heap_setCell_other _ _ _ _ (by show g ≠ b; omega)).trans qa
            have kb : QB W2 w.heap.size ⟨#[]⟩ 0 0 := by rw [← hW2]; exact (heap_setCell_other _ _ _ _ (by show w.heap.size ≠ b; omega)).trans ka
            have hGb : Gs (Me b) w W2 := by
              have h := hGa.set (a := ⟨b, 1, none⟩) (.inl rfl) (.int .i64 (M : Int))
              rw [← hW2]
              exact ⟨h.os, h.tape, h.output, h.size, h.block⟩
            have e2 := (cell3 hRa).2.1
            have e3 := (cell3 qa).2.2
            have e4 := free3 hRa 1
            have HR9 := hide hR9
            have H7 := hide (And.intro hRb (And.intro qb (And.intro kb hGb)))
            have HW1 := hide hW1
            have HW2 := hide hW2
            have HM := hide hM
            clear hRb qb kb hGb hRa qa ka hGa hR9 q9 k9 hG9 hP9 hl2 hW1 hW2 hM hm2
            go_wp2_with fail
            rw [HW1.out]
            go_region
            rw [HW2.out]
            obtain ⟨⟨z0, z1, z2, z3, z4, z5⟩, ⟨z6, z7, z8, z9⟩, ⟨y6, y7⟩, kf, hG9⟩ := three_set H7.out.2.2.1 (.string L) (.int .i64 (dd : Int)) (.int .i64 (l2 : Int))
            obtain ⟨u0, u1, u2⟩ := cell3 H7.out.2.1
            obtain ⟨f0, f1, f2⟩ := cell3 kf
            have hRz := H7.out.1.gs hG9 (show ¬ b = w.heap.size by omega)
            have hGz : Gs (Me b) w (((W2.setCell ⟨w.heap.size, 0, none⟩ (.string L)).setCell ⟨w.heap.size, 1, none⟩ (.int .i64 (dd : Int))).setCell ⟨w.heap.size, 2, none⟩ (.int .i64 (l2 : Int))) := ((H7.out.2.2.2.set (a := ⟨w.heap.size, 0, none⟩) (.inr (Nat.le_refl _)) _).set (a := ⟨w.heap.size, 1, none⟩) (.inr (Nat.le_refl _)) _).set (a := ⟨w.heap.size, 2, none⟩) (.inr (Nat.le_refl _)) _
            have HE : Hid (SeqP s i n b w (.returned (.agg #[.string L, .int .i64 (dd : Int), .int .i64 (l2 : Int)])) (((W2.setCell ⟨w.heap.size, 0, none⟩ (.string L)).setCell ⟨w.heap.size, 1, none⟩ (.int .i64 (dd : Int))).setCell ⟨w.heap.size, 2, none⟩ (.int .i64 (l2 : Int)))) :=
              by
                refine ⟨⟨L, dd, l2⟩, rfl, hGz, .inl ⟨HST.out, M, ?_⟩⟩
                have hx : i9 = s.size ∧ x9 = true := by
                  rcases HPP.out.1.1 with ⟨j, h1, h3⟩ | ⟨_, _, h3⟩
                  · have h4 := mo_spec (Nat.le_refl _) h1
                    obtain ⟨a1, _, a3⟩ := (HR9.out).inj h3 hi9 h4.2.1
                    exact ⟨by omega, a3⟩
                  · obtain ⟨a1, _, a3⟩ := (HR9.out).inj h3 hi9 (Nat.le_refl _)
                    exact ⟨a1, a3⟩
                rw [hx.1, hx.2] at hRz
                exact hRz
            clear kf hG9 hRz hGz
            go_wp2
            exact bodyPost_ret (v := .agg #[.string L, .int .i64 (dd : Int), .int .i64 (l2 : Int)]) (by simp [results, Tryd.results103, go_sem, f0, f1, f2]) rfl HE.out
          · have HST : Hid ((∀ m1 j1, mo s p2 b0 = some (m1, j1) → stp s i n = some (⟨L, dd, m1 + 4⟩, j1)) ∧ (mo s p2 b0 = none → stp s i n = none)) := by
              obtain ⟨l3, l4, l5, l2, _⟩ := HM1.out
              have g1 := mo_spec (by omega) l3
              have hb : b0 = bt s i % 16 := by rw [HCB.out, l2]
              have hN := HN6.out
              have hLz : L.size = a := by rw [l4, ByteArray.size_extract]; omega
              have hd := HBD.out
              have e2 : p2 = j + a + 2 := by omega
              rw [l5] at hx3
              rw [e2, hb]
              refine ⟨fun m1 j1 h1 => ?_, fun h1 => st_bad2 l1 l3 (by omega) (by omega) (by omega) h1⟩
              rw [st_go l1 l3 (by omega) (by omega) (by omega) h1 (by rw [← hx3]; omega), ← l4, ← hx3]
            clear hx2 hx3
            have HS := hide (sum_any H8.out.1 HLE.out (show b0 ≤ 15 by rw [HCB.out]; omega) hs)
            go_wp2_with fail
            refine HS.out.mono ?_
            rintro _ w9 ⟨m2, rfl, hP9⟩
            obtain ⟨i9, x9, hi9, hR9⟩ : ∃ i9 x9, i9 ≤ s.size ∧ RD w9 b s i9 N x9 := by
              rcases hP9.1 with ⟨j, h1, h3⟩ | ⟨_, _, h3⟩
              · exact ⟨_, _, (mo_spec HLE.out h1).2.1, h3⟩
              · exact ⟨_, _, Nat.le_refl _, h3⟩
            have hm2 := hP9.2.1
            have q9 : QB w9 g L dd 0 := (hP9.2.2.block g (lt_of_block H8.out.2.1) (by show ¬ g = b; omega)).trans H8.out.2.1
            have k9 : QB w9 w.heap.size ⟨#[]⟩ 0 0 := (hP9.2.2.block _ (lt_of_block H8.out.2.2.1) (by show ¬ w.heap.size = b; omega)).trans H8.out.2.2.1
            have hG9 : Gs (Me b) w w9 := H8.out.2.2.2.trans hP9.2.2
            obtain ⟨l2, hl2⟩ : ∃ l2, l2 = m2 + 4 := ⟨_, rfl⟩
            have n1 : (m2 : Int) + 4 = (l2 : Int) := by omega
            have n2 : IntKind.i64.wrap (l2 : Int) = (l2 : Int) := by rw [IntKind.wrap_i64]; omega
            obtain ⟨W1, hW1⟩ : ∃ W1, w9.setCell ⟨g, 2, none⟩ (.int .i64 (l2 : Int)) = W1 := ⟨_, rfl⟩
            have qa : QB W1 g L dd l2 := by rw [← hW1]; exact heap_set_self (u := .int .i64 (l2 : Int)) q9
            have ka : QB W1 w.heap.size ⟨#[]⟩ 0 0 := by rw [← hW1]; exact (heap_setCell_other _ _ _ _ (by show w.heap.size ≠ g; omega)).trans k9
            have hRa : RD W1 b s i9 N x9 := by rw [← hW1]; exact (heap_setCell_other _ _ _ _ (by show b ≠ g; omega)).trans hR9
            have hGa : Gs (Me b) w W1 := by rw [← hW1]; exact hG9.set (a := ⟨g, 2, none⟩) (.inr (by show w.heap.size ≤ g; rw [HG.out]; omega)) _
            have e0 := (cell3 q9).2.2
            have e1 := free3 q9 2
            have HPP := hide (And.intro hP9 hl2)
            obtain ⟨M, hM⟩ : ∃ M, M = N + l2 := ⟨_, rfl⟩
            have n3 : (N : Int) + (l2 : Int) = (M : Int) := by omega
            have n4 : IntKind.i64.wrap (M : Int) = (M : Int) := by have := H6.out.2.2.2.2.1.2.1; have := HN6.out; rw [IntKind.wrap_i64]; omega
            obtain ⟨W2, hW2⟩ : ∃ W2, (W1.setCell ⟨b, 1, none⟩ (.int .i64 (M : Int))).drew = W2 := ⟨_, rfl⟩
            have hRb : RD W2 b s i9 M x9 := by rw [← hW2]; exact hRa.done M
            have qb : QB W2 g L dd l2 := by rw [← hW2]; exact (heap_setCell_other _ _ _ _ (by show g ≠ b; omega)).trans qa
            have kb : QB W2 w.heap.size ⟨#[]⟩ 0 0 := by rw [← hW2]; exact (heap_setCell_other _ _ _ _ (by show w.heap.size ≠ b; omega)).trans ka
            have hGb : Gs (Me b) w W2 := by
              have h := hGa.set (a := ⟨b, 1, none⟩) (.inl rfl) (.int .i64 (M : Int))
              rw [← hW2]
              exact ⟨h.os, h.tape, h.output, h.size, h.block⟩
            have e2 := (cell3 hRa).2.1
            have e3 := (cell3 qa).2.2
            have e4 := free3 hRa 1
            have HR9 := hide hR9
            have H7 := hide (And.intro hRb (And.intro qb (And.intro kb hGb)))
            have HW1 := hide hW1
            have HW2 := hide hW2
            have HM := hide hM
            clear hRb qb kb hGb hRa qa ka hGa hR9 q9 k9 hG9 hP9 hl2 hW1 hW2 hM hm2
            go_wp2_with fail
            rw [HW1.out]
            go_region
            rw [HW2.out]
            obtain ⟨⟨z0, z1, z2, z3, z4, z5⟩, ⟨z6, z7, z8, z9⟩, ⟨y6, y7⟩, kf, hG9⟩ := three_set H7.out.2.2.1 (.string L) (.int .i64 (dd : Int)) (.int .i64 (l2 : Int))
            obtain ⟨u0, u1, u2⟩ := cell3 H7.out.2.1
            obtain ⟨f0, f1, f2⟩ := cell3 kf
            have hRz := H7.out.1.gs hG9 (show ¬ b = w.heap.size by omega)
            have hGz : Gs (Me b) w (((W2.setCell ⟨w.heap.size, 0, none⟩ (.string L)).setCell ⟨w.heap.size, 1, none⟩ (.int .i64 (dd : Int))).setCell ⟨w.heap.size, 2, none⟩ (.int .i64 (l2 : Int))) := ((H7.out.2.2.2.set (a := ⟨w.heap.size, 0, none⟩) (.inr (Nat.le_refl _)) _).set (a := ⟨w.heap.size, 1, none⟩) (.inr (Nat.le_refl _)) _).set (a := ⟨w.heap.size, 2, none⟩) (.inr (Nat.le_refl _)) _
            have HE : Hid (SeqP s i n b w (.returned (.agg #[.string L, .int .i64 (dd : Int), .int .i64 (l2 : Int)])) (((W2.setCell ⟨w.heap.size, 0, none⟩ (.string L)).setCell ⟨w.heap.size, 1, none⟩ (.int .i64 (dd : Int))).setCell ⟨w.heap.size, 2, none⟩ (.int .i64 (l2 : Int)))) :=
              by
                rcases HPP.out.1.1 with ⟨j, h1, h3⟩ | ⟨h1, _, h3⟩
                · have h4 := mo_spec HLE.out h1
                  obtain ⟨a1, _, a3⟩ := (HR9.out).inj h3 hi9 h4.2.1
                  refine ⟨⟨L, dd, l2⟩, rfl, hGz, .inr ⟨j, ?_, ?_⟩⟩
                  · rw [HPP.out.2]
                    exact HST.out.1 _ _ h1
                  · show RD _ b s j (n + L.size + l2) false
                    rw [← HN6.out, ← HM.out, ← a1, ← a3]
                    exact hRz
                · obtain ⟨a1, _, a3⟩ := (HR9.out).inj h3 hi9 (Nat.le_refl _)
                  rw [a1, a3] at hRz
                  exact ⟨⟨L, dd, l2⟩, rfl, hGz, .inl ⟨HST.out.2 h1, M, hRz⟩⟩
            clear kf hG9 hRz hGz
            go_wp2
            exact bodyPost_ret (v := .agg #[.string L, .int .i64 (dd : Int), .int .i64 (l2 : Int)]) (by simp [results, Tryd.results103, go_sem, f0, f1, f2]) rfl HE.out
end
end Go.Proofs.YtcidfkkgpehodaaDoor

namespace Go.Proofs.YtcidfkkgpehodaaDoor
open Go.RowKit Go.Lib
/-- Kept where the iterator turns its own blocks N and makes new ones, which may be its own then. -/
def StbN (J : Nat → (Nat → Prop) → World → Prop) : Prop := ∀ t N N' A A', J t N A → Gs N A A' → (∀ i, N' i → i < A'.heap.size ∧ (N i ∨ A.heap.size ≤ i)) → J t N' A'
/-- An iterator: round t hands vs, of which C tells; what it has of its own the body leaves as it is. -/
def SeqN (gf : Nat) (lb : Array Value) (C : Nat → Array Value → Prop) (S Sp : Nat → Prop) (w : World) : Prop :=
  ∀ (l : Nat) (J Jx : Nat → (Nat → Prop) → World → Prop) (W : World), Below w.heap.size w W → l < W.heap.size → StbN J → StbN Jx →
    (∀ t N vs W1, J t N W1 → C t vs → (∀ i, N i → i < W1.heap.size) → YieldAt Fence.wide 0 Tryd.prog l vs W1 fun e W' => Gs (fun i => ¬ N i) W1 W' ∧ ((e = .returned (.bool true) ∧ J (t + 1) N W') ∨ (e = .returned (.bool false) ∧ Jx t N W'))) →
    J 0 (fun _ => False) W → CallsIn Fence.wide 0 Tryd.prog gf (#[.func (.yield l) #[] #[]] ++ lb) W fun e W' => (∃ v, e = .returned v) ∧ ((∃ t N, S t ∧ J t N W') ∨ (∃ t N, Sp t ∧ Jx t N W'))
/-- How a round may be left. -/
def postN (D : Nat) (N : Nat → Prop) (I : Nat → (Nat → Prop) → World → Prop) (Ix : Code → Nat → (Nat → Prop) → World → Prop) (t : Nat) (W : World) : Exit → Act → World → Prop
  | .normal, _, W' => Gs (fun i => ¬ N i ∧ i ≠ D ∧ i ≠ D + 1) W W' ∧ I (t + 1) N W'
  | .ret, _, W' => Gs (fun i => ¬ N i ∧ i ≠ D ∧ i ≠ D + 1) W W' ∧ Ix .ret t N W'
  | .exit id, _, W' => Gs (fun i => ¬ N i ∧ i ≠ D ∧ i ≠ D + 1) W W' ∧ Ix (.exit id) t N W'
  | _, _, _ => False
/-- Kept, what the loop itself turns besides. -/
def StbL (D : Nat) (I : Nat → (Nat → Prop) → World → Prop) : Prop := ∀ t N N' A A', I t N A → Gs (fun i => N i ∨ i = D ∨ i = D + 1) A A' → (∀ i, N' i → i < A'.heap.size ∧ (N i ∨ A.heap.size ≤ i)) → I t N' A'
theorem gs_putObj {W : World} {l : Nat} {o : Obj} : Gs (fun i => i = l) W (W.putObj l o) := (Gs.refl _ W).gb (grownBy_putObj' W l o) (.inl rfl)
theorem range_n {g : Operand} {ps : Array Tmp} {assign body : Code} {Q : Exit → Act → World → Prop} {a : Act} {w : World} {gf : Nat} {lb : Array Value} (hg : a.eval g = .func (.func gf) #[] lb) (eg : ∀ args w, (callFunc gf args).run Tryd.prog w = .ok (.enter gf args) w)
    {C : Nat → Array Value → Prop} {S Sp : Nat → Prop} (hseq : SeqN gf lb C S Sp w) (hps : ∀ t vs, C t vs → vs.size = ps.size)
    (I : Nat → (Nat → Prop) → World → Prop) (Ix : Code → Nat → (Nat → Prop) → World → Prop) (hI : StbL w.heap.size I) (hIx : ∀ c, StbL w.heap.size (Ix c)) (h0 : I 0 (fun _ => False) w)
    (A : Nat → Array Value → Act → World → Prop) (hA : ∀ g vs a2 W W', A g vs a2 W → Gs (fun i => i < g) W W' → A g vs a2 W')
    (hassign : ∀ (l t : Nat) (vs : Array Value) (W : World) (K : Act → World → Prop), C t vs → (∀ a2 W2, Below W.heap.size W W2 → A W.heap.size vs a2 W2 → K a2 W2) → assign.wpIn (Fence.wide.inRound l) 0 Tryd.prog (Exit.then K (fun _ _ _ => False)) { tmps := (ps.zip vs).foldl (fun t (p, v) => t.setIfInBounds p v) a.tmps, defers := [] } W)
    (hbody : ∀ (l t : Nat) (N : Nat → Prop) (vs : Array Value) (V : World) (g : Nat) (a2 : Act), I t N V → C t vs → A g vs a2 V → w.heap.size + 2 ≤ g → g ≤ V.heap.size → (∀ i, N i → i < g ∧ i ≠ w.heap.size ∧ i ≠ w.heap.size + 1) → body.wpIn (Fence.wide.inRound l) 0 Tryd.prog (postN w.heap.size N I Ix t V) a2 V)
    (hdone : ∀ (D t : Nat) (N : Nat → Prop) (W : World), D = w.heap.size → S t → I t N W → W.heap[D]? = some (.deferred (some [])) → Q .normal { a with defers := { target := .collected D, args := #[] } :: a.defers } W)
    (hstop : ∀ (D : Nat) (c : Code) (t : Nat) (N : Nat → Prop) (W : World), D = w.heap.size → Sp t → Ix c t N W → W.heap[D]? = some (.deferred (some [])) → c.wpIn Fence.wide 0 Tryd.prog Q { a with defers := { target := .collected D, args := #[] } :: a.defers } W) :
    (Code.rangeFunc g ps assign body).wpIn Fence.wide 0 Tryd.prog Q a w := by
  refine wpIn_rangeFunc fun fn hfn => ?_
  obtain ⟨D, hD⟩ : ∃ D, D = w.heap.size := ⟨_, rfl⟩
  obtain ⟨mk, hmk⟩ : ∃ mk : LoopState → Option Code → Loop, mk = fun st pe => { state := st, pending := pe, fn, tmps := a.tmps, params := ps, assign, body, defers := w.heap.size } := ⟨_, rfl⟩
  obtain ⟨W0, hW0⟩ : ∃ W0, W0 = (w.alloc (.deferred (some []))).alloc (.loop (mk .ready none)) := ⟨_, rfl⟩
  have hs0 : W0.heap.size = D + 2 := by rw [hW0, hD]; simp
  have hl0 : W0.heap[D + 1]? = some (.loop (mk .ready none)) := by
    rw [hW0, hD]; have := World.alloc_heap_new (w.alloc (.deferred (some []))) (.loop (mk .ready none)); rwa [World.size_alloc] at this
  have hd0 : W0.heap[D]? = some (.deferred (some [])) := by
    rw [hW0, hD]; exact (Below.heap_alloc _ _ _ (by simp)).trans (World.alloc_heap_new w _)
  have hb0 : Below w.heap.size w W0 := by rw [hW0]; exact ((Below.refl _ w).alloc (Nat.le_refl _) _).alloc (by simp) _
  refine ⟨D + 1, [{ target := .collected D, args := #[] }], W0, { target := .fn (.func gf) lb, args := #[.func (.yield (D + 1)) #[] #[]] }, W0, gf, #[.func (.yield (D + 1)) #[] #[]] ++ lb, W0, ?_, ?_, fun _ _ => trivial, ?_, fun h => absurd h (by decide), ?_⟩
  · have := run_enterLoop_outer (P := Tryd.prog) (w := w) fn a.tmps ps assign body
    rw [hW0, hD, hmk]
    exact this
  · simp only [resolve, hg]
    simp [go_sem]
  · simp [invoke, go_sem, eg]
  rw [← hD] at hI hIx hbody
  have lt : ∀ {A : World} {i : Nat} {o : Obj}, A.heap[i]? = some o → i < A.heap.size := fun h => (Array.getElem?_eq_some_iff.1 h).1
  have own : ∀ {N N' : Nat → Prop} {A A' : World}, ¬ N D ∧ ¬ N (D + 1) → D + 1 < A.heap.size → (∀ i, N' i → i < A'.heap.size ∧ (N i ∨ A.heap.size ≤ i)) → ¬ N' D ∧ ¬ N' (D + 1) := fun h hs hN =>
    ⟨fun e => by rcases (hN _ e).2 with h1 | h1; exact h.1 h1; omega, fun e => by rcases (hN _ e).2 with h1 | h1; exact h.2 h1; omega⟩
  refine (hseq (D + 1) (fun t N W => (¬ N D ∧ ¬ N (D + 1)) ∧ I t N W ∧ W.heap[D + 1]? = some (.loop (mk .ready none)) ∧ W.heap[D]? = some (.deferred (some [])))
    (fun t N W => (¬ N D ∧ ¬ N (D + 1)) ∧ ∃ c, Ix c t N W ∧ W.heap[D + 1]? = some (.loop (mk .done (some c))) ∧ W.heap[D]? = some (.deferred (some []))) W0 hb0 (by omega)
    (fun t N N' A A' ⟨hn, h1, h2, h3⟩ hG hN => ⟨own hn (lt h2) hN, hI t N N' A A' h1 (hG.mono fun i _ e => .inl e) hN, (hG.block _ (lt h2) hn.2).trans h2, (hG.block _ (lt h3) hn.1).trans h3⟩)
    (fun t N N' A A' ⟨hn, c, h1, h2, h3⟩ hG hN => ⟨own hn (lt h2) hN, c, hIx c t N N' A A' h1 (hG.mono fun i _ e => .inl e) hN, (hG.block _ (lt h2) hn.2).trans h2, (hG.block _ (lt h3) hn.1).trans h3⟩) ?_
    ⟨⟨fun e => e, fun e => e⟩, hI 0 _ _ w W0 h0 (Gs.of_below _ hb0) (fun i e => e.elim), hl0, hd0⟩).mono ?_
  · rintro t N vs W ⟨hn, hi, hl, hd⟩ hc hNs
    have hlt : D + 1 < W.heap.size := lt hl
    have hy := run_yield (P := Tryd.prog) (args := vs) hl (by rw [hmk]; exact hps t vs hc)
    rw [hmk] at hy
    refine ⟨fn, _, assign, body, hy, roundIn_of_wpIn hfn (hassign _ t vs W _ hc fun a2 W2 hB2 hA2 => ?_)⟩
    have hl2 : W2.heap[D + 1]? = some (.loop (mk .ready none)) := (hB2.block _ hlt).trans hl
    have hd2 : W2.heap[D]? = some (.deferred (some [])) := (hB2.block _ (lt hd)).trans hd
    refine ⟨_, run_beginRound hl2 (by rw [hmk]), ?_⟩
    obtain ⟨V, hV⟩ : ∃ V, V = W2.putObj (D + 1) (.loop { mk .ready none with state := .busy }) := ⟨_, rfl⟩
    rw [← hV]
    have hgV : Gs (fun i => i = D + 1) W2 V := by rw [hV]; exact gs_putObj
    have hlV : V.heap[D + 1]? = some (.loop { mk .ready none with state := .busy }) := by rw [hV]; exact World.putObj_heap_same (lt hl2)
    have hdV : V.heap[D]? = some (.deferred (some [])) := by rw [hV]; exact (World.putObj_heap_other (by omega)).trans hd2
    have hB2s := hB2.size
    have hgVs := hgV.size
    have hGW : Gs (fun i => i = D + 1) W V := (Gs.of_below _ hB2).trans hgV
    have hiV : I t N V := hI t N N W V hi (hGW.mono fun i _ e => .inr (.inr e)) (fun i e => ⟨by have := hNs i e; omega, .inl e⟩)
    have hAV : A W.heap.size vs a2 V := hA _ _ _ _ _ hA2 (hgV.mono fun i _ e => by omega)
    refine wpIn_mono (hbody (D + 1) t N vs V W.heap.size a2 hiV hc hAV (by omega) (by omega) (fun i e => ⟨hNs i e, fun h => hn.1 (h ▸ e), fun h => hn.2 (h ▸ e)⟩)) ?_
    have key : ∀ (jump : Option Code) (W3 : World), Gs (fun i => ¬ N i ∧ i ≠ D ∧ i ≠ D + 1) V W3 →
        ∃ W4, (Instr.endRound (D + 1) jump).run Tryd.prog W3 = .ok (.bool jump.isNone) W4 ∧ W4.heap[D + 1]? = some (.loop (mk (if jump.isNone then .ready else .done) jump)) ∧ W4.heap[D]? = some (.deferred (some [])) ∧ Gs (fun i => i = D + 1) W3 W4 ∧ Gs (fun i => ¬ N i) W W4 := fun jump W3 hG => by
      have h3 := (hG.block (D + 1) (lt hlV) (fun e => e.2.2 rfl)).trans hlV
      have h4 := (hG.block D (lt hdV) (fun e => e.2.1 rfl)).trans hdV
      have hr := run_endRound (P := Tryd.prog) jump h3
      rw [hmk] at hr ⊢
      refine ⟨_, hr, World.putObj_heap_same (lt h3), (World.putObj_heap_other (by omega)).trans h4, gs_putObj, ?_⟩
      have e1 : ∀ i, i = D + 1 → ¬ N i := fun i e h => hn.2 (e ▸ h)
      exact ((hGW.mono fun i _ e => e1 i e).trans (hG.mono fun i _ e => e.1)).trans (gs_putObj.mono fun i _ e => e1 i e)
    have nn : ∀ {W3 W4 : World}, Gs (fun i => i = D + 1) W3 W4 → Gs (fun i => ¬ N i ∧ i ≠ D ∧ i ≠ D + 1) V W3 → ∀ i, N i → i < W4.heap.size ∧ (N i ∨ W3.heap.size ≤ i) := fun h3 hG i e => ⟨by have := hNs i e; have := hG.size; have := h3.size; omega, .inl e⟩
    rintro e a3 W3 hp
    cases e with
    | normal =>
      obtain ⟨hk, hi3⟩ := hp
      obtain ⟨W4, hr, h1, h2, h3, h4⟩ := key none W3 hk
      exact ⟨_, _, hr, h4, .inl ⟨rfl, hn, hI _ _ _ _ _ hi3 (h3.mono fun i _ e => .inr (.inr e)) (nn h3 hk), h1, h2⟩⟩
    | ret =>
      obtain ⟨hk, hi3⟩ := hp
      obtain ⟨W4, hr, h1, h2, h3, h4⟩ := key (some .ret) W3 hk
      exact ⟨_, _, hr, h4, .inr ⟨rfl, hn, .ret, hIx _ _ _ _ _ _ hi3 (h3.mono fun i _ e => .inr (.inr e)) (nn h3 hk), h1, h2⟩⟩
    | exit id =>
      obtain ⟨hk, hi3⟩ := hp
      obtain ⟨W4, hr, h1, h2, h3, h4⟩ := key (some (.exit id)) W3 hk
      exact ⟨_, _, hr, h4, .inr ⟨rfl, hn, .exit id, hIx _ _ _ _ _ _ hi3 (h3.mono fun i _ e => .inr (.inr e)) (nn h3 hk), h1, h2⟩⟩
    | goto t => exact hp.elim
    | panic ch => exact hp.elim
    | outgrown => exact hp.elim
  · have tail : ∀ {W2 : World} (st : LoopState) (pe : Option Code), st ≠ .busy → W2.heap[D + 1]? = some (.loop (mk st pe)) → W2.heap[D]? = some (.deferred (some [])) → ∃ W4, (Instr.endLoop (D + 1)).run Tryd.prog W2 = .ok pe W4 ∧ Gs (fun i => i = D + 1) W2 W4 ∧ W4.heap[D]? = some (.deferred (some [])) := fun st pe hst h1 h2 => by
      have hr := run_endLoop (P := Tryd.prog) h1 (by rw [hmk]; exact hst)
      rw [hmk] at hr
      exact ⟨_, hr, gs_putObj, (World.putObj_heap_other (by omega)).trans h2⟩
    rintro e W2 ⟨⟨v, rfl⟩, (⟨t, N, hS, hn, hi, hl, hd⟩ | ⟨t, N, hSp, hn, c, hi, hl, hd⟩)⟩
    · obtain ⟨W4, hr, hG, hd4⟩ := tail .ready none (by decide) hl hd
      exact ⟨none, W4, hr, hdone D t (fun _ => False) W4 hD hS (hI _ _ _ _ _ hi (hG.mono fun i _ e => .inr (.inr e)) (fun i e => e.elim)) hd4⟩
    · obtain ⟨W4, hr, hG, hd4⟩ := tail .done (some c) (by decide) hl hd
      exact ⟨some c, W4, hr, hstop D c t (fun _ => False) W4 hD hSp (hIx c _ _ _ _ _ hi (hG.mono fun i _ e => .inr (.inr e)) (fun i e => e.elim)) hd4⟩
end Go.Proofs.YtcidfkkgpehodaaDoor

namespace Go.Proofs.YtcidfkkgpehodaaDoor
open Go.RowKit Go.Lib Go.Shelf
attribute [local go_sem] Oper.semAt_some
/-- What is handed at a round. -/
def CQ (s : ByteArray) (t : Nat) (vs : Array Value) : Prop :=
  (∃ q, (wk s 0 0).1[t]? = some q ∧ vs = #[.agg #[.string q.lit, .int .i64 (q.dist : Int), .int .i64 (q.long : Int)], .bool true]) ∨
  ((wk s 0 0).2 = false ∧ t = (wk s 0 0).1.length ∧ ∃ q : SQ, vs = #[.agg #[.string q.lit, .int .i64 (q.dist : Int), .int .i64 (q.long : Int)], .bool false])
/-- How many rounds there are. -/
def SQt (s : ByteArray) (t : Nat) : Prop := t = (wk s 0 0).1.length + (if (wk s 0 0).2 = true then 0 else 1)
section
variable {w : World} {s : ByteArray} {bs : Nat}
set_option maxRecDepth 100000 in
theorem sequencesf_any : Calls Tryd.prog 94 #[.string s] w fun e w' => e = .returned (.func (.func 102) #[] #[.pointer (some ⟨w.heap.size, 0, none⟩)]) ∧ w' = w.alloc (.cells #[.string s] 9) := by
  have hmf : ∀ (fn : Fn) (first cap : Array Value) (w : World), (Instr.makeFunc fn first cap).run Tryd.prog w = .ok (.func fn first cap) w := fun _ _ _ _ => rfl
  go_enter Tryd.func94, Tryd.ntmps94
  go_wp2
  go_ret
  exact ⟨rfl, rfl⟩
set_option maxRecDepth 100000 in
set_option maxHeartbeats 1600000 in
theorem seqs1 (h1 : w.heap[bs]? = some (.cells #[.string s] 9 (0, 0))) (hs : s.size ≤ 140000) :
    SeqN 102 #[.pointer (some ⟨bs, 0, none⟩)] (CQ s) (SQt s) (fun _ => True) w := fun l J Jx W hB hl hJ hJx hY h0 => by
  have y1 := (cell1 ((hB.block bs (lt_of_block h1)).trans h1)).1
  obtain ⟨b, hb⟩ : ∃ b, b = W.heap.size := ⟨_, rfl⟩
  obtain ⟨W1, hW1⟩ : ∃ W1, W.alloc (.cells #[.string s, .int .i64 0, .bool false] 154) = W1 := ⟨_, rfl⟩
  have hB1 : Below W.heap.size W W1 := by rw [← hW1]; exact (Below.refl _ _).alloc (Nat.le_refl _) _
  have hR1 : RD W1 b s 0 0 false := by
    have := heap_alloc_new W (.cells #[.string s, .int .i64 0, .bool false] 154)
    rw [RD, show s.extract 0 s.size = s by simp, ← hW1, hb]
    exact this
  have hJ1 : J 0 (Me b) W1 := hJ 0 _ (Me b) W W1 h0 (Gs.of_below _ hB1) (fun i e => by
    have h2 := hR1.lt
    cases e
    exact ⟨h2, .inr (by omega)⟩)
  have H0 := hide (And.intro hR1 hJ1)
  have HJ := hide hJ
  have HJx := hide hJx
  have HY := hide hY
  have HWk : Hid ((wk s 0 0).1.drop 0 = (wk s 0 0).1) := rfl
  have Hb := hide hb
  have HW1 := hide hW1
  clear hB hl hJ hJx hY h0 h1 hB1 hR1 hJ1 hb hW1
  refine callsIn_of_wp Tryd.func102 rfl trivial ?_ rfl
  simp only [Tryd.ntmps102, List.size_toArray, List.length_cons, List.length_nil, Nat.reduceAdd, Nat.reduceSub, Array.replicate_succ, Array.replicate_zero, List.push_toArray, List.append_toArray, List.nil_append, List.cons_append]
  gi_wp2
  rw [HW1.out, ← Hb.out]
  gi_loopw [4] (fun m wr => (m = .bool true ∧ ∃ t i n : Nat, i ≤ s.size ∧ n ≤ 289 * i ∧ J t (Me b) wr ∧ RD wr b s i n false ∧ (wk s 0 0).1.drop t = (wk s i n).1 ∧ t ≤ (wk s 0 0).1.length ∧ (wk s 0 0).2 = (wk s i n).2) ∨ (m = .bool false ∧ ((∃ t N, SQt s t ∧ J t N wr) ∨ (∃ t N, True ∧ Jx t N wr)))) (fun m wr => moreV m (szW wr b))
  case atStart => exact .inl ⟨rfl, 0, 0, 0, Nat.zero_le _, Nat.zero_le _, H0.out.2, H0.out.1, rfl, Nat.zero_le _, rfl⟩
  case round =>
    rcases hrel with ⟨rfl, t, i, n, hi, hn, hj, hR, hd, ht, h2⟩ | ⟨rfl, hE⟩
    · have HS := hide (seq_any hR hi (by omega) hs)
      have hsz := hR.szW hi
      have H1 := hide (And.intro hj (And.intro hR (And.intro hd (And.intro ht h2))))
      clear hj hR hd ht h2
      gi_wp2
      refine ⟨trivial, rfl, (callsIn_wide.2 HS.out).mono ?_⟩
      rintro e w2 ⟨⟨L, dd, ll⟩, rfl, hG2, hP2⟩
      obtain ⟨g, hg⟩ : ∃ g, g = w2.heap.size := ⟨_, rfl⟩
      obtain ⟨w3, hw3⟩ : ∃ w3, w2.alloc (.cells #[.string L, .int .i64 (dd : Int), .int .i64 (ll : Int)] 124) = w3 := ⟨_, rfl⟩
      have hB3 : Below w2.heap.size w2 w3 := by rw [← hw3]; exact (Below.refl _ _).alloc (Nat.le_refl _) _
      have hq3 : QB w3 g L dd ll := by rw [← hw3, hg]; exact heap_alloc_new w2 _
      have hJ3 : J t (fun i => i = b ∨ i = g) w3 := HJ.out t (Me b) _ wr w3 H1.out.1 (hG2.bel hB3) (fun i e => by
        have h1 := lt_of_block hq3
        have h2 := hG2.size
        have h3 := H1.out.2.1.lt
        rcases e with rfl | rfl
        · exact ⟨by omega, .inl rfl⟩
        · exact ⟨h1, .inr (by omega)⟩)
      have hN3 : ∀ i, (i = b ∨ i = g) → i < w3.heap.size := fun i e => by
        have h1 := lt_of_block hq3
        have h2 := hG2.size
        have h3 := H1.out.2.1.lt
        rcases e with rfl | rfl
        · omega
        · exact h1
      obtain ⟨u0, u1, u2⟩ := cell3 hq3
      have HW3 := hide hw3
      have HG3 := hide hg
      obtain ⟨q, hq⟩ : ∃ q : SQ, q = ⟨L, dd, ll⟩ := ⟨_, rfl⟩
      rcases hP2 with ⟨hst, d, hR2⟩ | ⟨k, hst, hR2⟩
      · have hC : CQ s t #[.agg #[.string L, .int .i64 (dd : Int), .int .i64 (ll : Int)], .bool false] := by
          obtain ⟨_, _, hd, ht, h2⟩ := H1.out
          rw [wk_no hst] at hd h2
          have hl := List.drop_eq_nil_iff.1 hd
          exact .inr ⟨h2, by omega, ⟨L, dd, ll⟩, rfl⟩
        have HSt : Hid (SQt s (t + 1)) := by
          obtain ⟨_, _, hd, ht, h2⟩ := H1.out
          rw [wk_no hst] at hd h2
          have hl := List.drop_eq_nil_iff.1 hd
          show SQt s (t + 1)
          rw [SQt, h2, if_neg (by decide)]
          omega
        have hR3 := hR2.bel hB3
        have z2 := (cell3 hR3).2.2
        have H3 := hide (And.intro hR3 (And.intro hq3 (And.intro hJ3 (And.intro hN3 hC))))
        obtain ⟨fn, tmps, assign, body, hy, hRd⟩ := HY.out t _ _ w3 hJ3 hC hN3
        clear hR3 hq3 hJ3 hN3 hC hB3 hg hG2 hR2 hst
        simp only [qV]
        have hgw := HG3.out.symm
        gi_wp2
        refine ⟨rfl, hRd.mono ?_⟩
        rintro e W9 ⟨hG9, (⟨rfl, hJ9⟩ | ⟨rfl, hx9⟩)⟩
        · have hR9 := H3.out.1.gs hG9 (fun e => e (.inl rfl))
          have z9 := (cell3 hR9).2.2
          have HJ9 := hide hJ9
          clear hR9 hJ9 hRd hy hG9
          gi_wp2
          exact ⟨.inr ⟨rfl, .inl ⟨_, _, HSt.out, HJ9.out⟩⟩, by simp [moreV]⟩
        · have HX9 := hide hx9
          clear hx9 hRd hy hG9
          gi_wp2
          exact ⟨.inr ⟨rfl, .inr ⟨_, _, trivial, HX9.out⟩⟩, by simp [moreV]⟩
      · have hsp := stp_spec hst
        have hC : CQ s t #[.agg #[.string L, .int .i64 (dd : Int), .int .i64 (ll : Int)], .bool true] := by
          obtain ⟨_, _, hd, ht, h2⟩ := H1.out
          refine .inl ⟨⟨L, dd, ll⟩, ?_, rfl⟩
          by_cases h0 : ll = 0
          · rw [wk_last hst h0] at hd
            have := congrArg (·[0]?) hd
            simpa using this
          · rw [wk_go hst h0] at hd
            have := congrArg (·[0]?) hd
            simpa using this
        have hR3 := hR2.bel hB3
        by_cases h0 : ll = 0
        · have HSt : Hid (SQt s (t + 1)) := by
            obtain ⟨_, _, hd, ht, h2⟩ := H1.out
            rw [wk_last hst h0] at hd h2
            have hl := congrArg List.length hd
            simp at hl
            show SQt s (t + 1)
            rw [SQt, h2, if_pos rfl]
            omega
          have c0 : ¬ (0 : Int) < (ll : Int) := by omega
          have c1 : decide (0 < ll) = false := by simp [h0]
          have HH0 := hide h0
          clear h0 hsp
          have z2 := (cell3 hR3).2.2
          have H3 := hide (And.intro hR3 (And.intro hq3 (And.intro hJ3 (And.intro hN3 hC))))
          obtain ⟨fn, tmps, assign, body, hy, hRd⟩ := HY.out t _ _ w3 hJ3 hC hN3
          clear hR3 hq3 hJ3 hN3 hC hB3 hg hG2 hR2 hst
          simp only [qV]
          have hgw := HG3.out.symm
          gi_wp2
          refine ⟨rfl, hRd.mono ?_⟩
          rintro e W9 ⟨hG9, (⟨rfl, hJ9⟩ | ⟨rfl, hx9⟩)⟩
          · have hR9 := H3.out.1.gs hG9 (fun e => e (.inl rfl))
            have z9 := (cell3 hR9).2.2
            have hq9 := (hG9.block g (lt_of_block H3.out.2.1) (fun e => e (.inr rfl))).trans H3.out.2.1
            have x9 := (cell3 hq9).2.2
            have HJ9 := hide hJ9
            clear hR9 hJ9 hRd hy hG9 hq9
            gi_wp2
            exact ⟨.inr ⟨rfl, .inl ⟨_, _, HSt.out, HJ9.out⟩⟩, by simp [moreV]⟩
          · have HX9 := hide hx9
            clear hx9 hRd hy hG9
            gi_wp2
            exact ⟨.inr ⟨rfl, .inr ⟨_, _, trivial, HX9.out⟩⟩, by simp [moreV]⟩
        · have HGo : Hid ((wk s 0 0).1.drop (t + 1) = (wk s k (n + L.size + ll)).1 ∧ t + 1 ≤ (wk s 0 0).1.length ∧ (wk s 0 0).2 = (wk s k (n + L.size + ll)).2 ∧ i < k ∧ k ≤ s.size ∧ n + L.size + ll ≤ 289 * k) := by
            obtain ⟨_, _, hd, ht, h2⟩ := H1.out
            rw [wk_go hst h0] at hd h2
            have hl := congrArg List.length hd
            simp at hl
            have hdn := congrArg (List.drop 1) hd
            rw [List.drop_drop] at hdn
            have e1 := hsp.2.2.2.1
            simp only at e1
            exact ⟨hdn, by omega, h2, hsp.1, hsp.2.1, by omega⟩
          have c0 : (0 : Int) < (ll : Int) := by omega
          have c1 : decide (0 < ll) = true := by simp; omega
          clear h0 hsp
          have z2 := (cell3 hR3).2.2
          have H3 := hide (And.intro hR3 (And.intro hq3 (And.intro hJ3 (And.intro hN3 hC))))
          obtain ⟨fn, tmps, assign, body, hy, hRd⟩ := HY.out t _ _ w3 hJ3 hC hN3
          clear hR3 hq3 hJ3 hN3 hC hB3 hg hG2 hR2 hst
          simp only [qV]
          have hgw := HG3.out.symm
          gi_wp2
          refine ⟨rfl, hRd.mono ?_⟩
          rintro e W9 ⟨hG9, (⟨rfl, hJ9⟩ | ⟨rfl, hx9⟩)⟩
          · have hR9 := H3.out.1.gs hG9 (fun e => e (.inl rfl))
            have z9 := (cell3 hR9).2.2
            have hq9 := (hG9.block g (lt_of_block H3.out.2.1) (fun e => e (.inr rfl))).trans H3.out.2.1
            have x9 := (cell3 hq9).2.2
            have HJ9 : Hid (RD W9 b s k (n + L.size + ll) false ∧ J (t + 1) (Me b) W9) := ⟨hR9, HJ.out (t + 1) _ (Me b) W9 W9 hJ9 (Gs.refl _ _) (fun i e => by cases e; exact ⟨hR9.lt, .inl (.inl rfl)⟩)⟩
            clear hR9 hJ9 hRd hy hG9 hq9
            gi_wp2
            refine ⟨.inl ⟨rfl, t + 1, k, n + L.size + ll, HGo.out.2.2.2.2.1, HGo.out.2.2.2.2.2, HJ9.out.2, HJ9.out.1, HGo.out.1, HGo.out.2.1, HGo.out.2.2.1⟩, ?_⟩
            have e1 := HJ9.out.1.szW HGo.out.2.2.2.2.1
            have e2 := HGo.out.2.2.2.1
            have e3 := HGo.out.2.2.2.2.1
            simp only [moreV]
            omega
          · have HX9 := hide hx9
            clear hx9 hRd hy hG9
            gi_wp2
            exact ⟨.inr ⟨rfl, .inr ⟨_, _, trivial, HX9.out⟩⟩, by simp [moreV]⟩
    · have HE := hide hE
      clear hE
      gi_wp2
      go_end0
      exact ⟨⟨_, rfl⟩, HE.out⟩
end
end Go.Proofs.YtcidfkkgpehodaaDoor

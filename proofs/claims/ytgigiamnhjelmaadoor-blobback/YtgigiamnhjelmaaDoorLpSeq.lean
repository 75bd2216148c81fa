/-
  Lz: one sequence of a block, by the program's reader.
-/
import Derived.Test.YtgigiamnhjelmaaDoorLpSum
import Derived.Test.YtgigiamnhjelmaaDoorLpStep
import Derived.Deep.RegionHeldLaw
import Derived.BigQuiet
namespace Go.Proofs.YtgigiamnhjelmaaDoor
open Go.RowKit Go.Lib
/-- A sequence in a block. -/
def QB (w : World) (g : Nat) (L : ByteArray) (dd ll : Nat) : Prop := w.heap[g]? = some (.cells #[.string L, .int .i64 (dd : Int), .int .i64 (ll : Int)] 66 (0, 0))
def qV (q : SQ) : Value := .agg #[.string q.lit, .int .i64 (q.dist : Int), .int .i64 (q.long : Int)]
/-- What a call of sequence comes to. -/
def SeqP (s : ByteArray) (i n b : Nat) (w : World) (e : Ending) (w' : World) : Prop :=
  ∃ q : SQ, e = .returned (qV q) ∧ Gs (Me b) w w' ∧ ((stp s i n = none ∧ ∃ d, RD w' b s s.size d true) ∨ ∃ k, stp s i n = some (q, k) ∧ RD w' b s k (n + q.lit.size + q.long) false)
section
variable {w w' : World} {b i n d g dd ll m : Nat} {s L : ByteArray} {x : Bool}
theorem shr4 (f : Nat) : IntKind.i64.wrap ((f : Int) >>> (4 : Nat)) = IntKind.i64.wrap ((f / 16 : Nat) : Int) := by
  have : (f : Int) >>> (4 : Nat) = ((f / 16 : Nat) : Int) := by rw [Int.shiftRight_eq_div_pow]; rfl
  rw [this]
/-- What number comes to, whatever the place. -/
def NumP (s : ByteArray) (i d b : Nat) (x : Bool) (w : World) (c : Nat) (w' : World) : Prop :=
  Gs (Me b) w w' ∧ c < 256 ∧ ((i < s.size ∧ c = bt s i ∧ RD w' b s (i + 1) d x) ∨ (i = s.size ∧ c = 0 ∧ RD w' b s s.size d true))
theorem number_any (h : RD w b s i d x) (hi : i ≤ s.size) : Calls Tryd.prog 79 #[.pointer (some ⟨b, 0, none⟩)] w fun e w' => ∃ c : Nat, e = .returned (.int .i64 (c : Int)) ∧ NumP s i d b x w c w' := by
  by_cases c : i < s.size
  · exact (number_ok h c).mono fun e w' ⟨h1, h2, h3⟩ => ⟨_, h1, h3, bt_lt s i, .inl ⟨c, rfl, h2⟩⟩
  · exact (number_bad h (by omega)).mono fun e w' ⟨h1, h2, h3⟩ => ⟨0, h1, h3, by decide, .inr ⟨by omega, rfl, h2⟩⟩
/-- What bytes comes to, whatever the number. -/
def BytP (s : ByteArray) (i d b : Nat) (x : Bool) (m : Nat) (w : World) (L : ByteArray) (w' : World) : Prop :=
  Gs (Me b) w w' ∧ ((i + m ≤ s.size ∧ L = s.extract i (i + m) ∧ RD w' b s (i + m) d x) ∨ (s.size < i + m ∧ L = ⟨#[]⟩ ∧ RD w' b s s.size d true))
theorem bytes_any (h : RD w b s i d x) (hi : i ≤ s.size) (m : Nat) : Calls Tryd.prog 80 #[.pointer (some ⟨b, 0, none⟩), .int .i64 (m : Int)] w fun e w' => ∃ L : ByteArray, e = .returned (.string L) ∧ BytP s i d b x m w L w' := by
  by_cases c : i + m ≤ s.size
  · exact (bytes_ok h c).mono fun e w' ⟨h1, h2, h3⟩ => ⟨_, h1, h3, .inl ⟨c, rfl, h2⟩⟩
  · exact (bytes_bad h hi (by omega)).mono fun e w' ⟨h1, h2, h3⟩ => ⟨_, h1, h3, .inr ⟨by omega, rfl, h2⟩⟩
/-- Behind the literals. -/
def LitP (s : ByteArray) (i n b B : Nat) (L : ByteArray) (p : Nat) (x : Bool) (w' : World) : Prop :=
  RD w' b s p n x ∧ p ≤ s.size ∧ L.size ≤ s.size ∧ ((x = true ∧ p = s.size ∧ stp s i n = none) ∨ (x = false ∧ i < s.size ∧ B = bt s i ∧ ∃ a j, mo s (i + 1) (bt s i / 16) = some (a, j) ∧ L = s.extract j (j + a) ∧ p = j + a))
theorem and15_fin : ∀ a : Fin 256, bits .and .i64 (a.val : Int) 15 = ((a.val % 16 : Nat) : Int) := by decide +kernel
theorem RD.inj {i' d' : Nat} {x' : Bool} (h : RD w b s i d x) (h' : RD w b s i' d' x') (hi : i ≤ s.size) (hi' : i' ≤ s.size) : i = i' ∧ d = d' ∧ x = x' := by
  have e := h.symm.trans h'
  simp only [Option.some.injEq, Obj.cells.injEq, Array.mk.injEq, List.cons.injEq, Value.string.injEq, Value.int.injEq, Value.bool.injEq, and_true, true_and] at e
  obtain ⟨e1, e2, e3⟩ := e
  have e4 := congrArg ByteArray.size e1
  rw [ByteArray.size_extract, ByteArray.size_extract] at e4
  exact ⟨by omega, by omega, e3⟩
theorem lit_of {w0 w1 w2 w3 : World} {c m : Nat} (hn : NumP s i n b false w0 c w1) (hm : ∃ i1 x1, i1 ≤ s.size ∧ RD w1 b s i1 n x1 ∧ SumP s i1 (c / 16) b n x1 w1 m w2) (hL : ∃ i2 x2, i2 ≤ s.size ∧ RD w2 b s i2 n x2 ∧ BytP s i2 n b x2 m w2 L w3) :
    ∃ p x, LitP s i n b c L p x w3 := by
  replace hm : ∀ x1 i1, i1 ≤ s.size → RD w1 b s i1 n x1 → SumP s i1 (c / 16) b n x1 w1 m w2 := fun x1 i1 h1 h2 => by
    obtain ⟨i2, x2, k1, k2, k3⟩ := hm
    obtain ⟨rfl, _, rfl⟩ := h2.inj k2 h1 k1
    exact k3
  replace hL : ∀ x2 i2, i2 ≤ s.size → RD w2 b s i2 n x2 → BytP s i2 n b x2 m w2 L w3 := fun x1 i1 h1 h2 => by
    obtain ⟨i2, x2, k1, k2, k3⟩ := hL
    obtain ⟨rfl, _, rfl⟩ := h2.inj k2 h1 k1
    exact k3
  rcases hn.2.2 with ⟨h1, h2, h3⟩ | ⟨h1, h2, h3⟩
  · obtain ⟨hs, hm2, _⟩ := hm false (i + 1) (by omega) h3
    rcases hs with ⟨j, h4, h5⟩ | ⟨h4, h5, h6⟩
    · have g := mo_spec (by omega) h4
      rcases (hL _ _ g.2.1 h5).2 with ⟨h7, h8, h9⟩ | ⟨h7, h8, h9⟩
      · refine ⟨_, _, h9, h7, by rw [h8, ByteArray.size_extract]; omega, .inr ⟨rfl, h1, h2, m, j, by rw [← h2]; exact h4, h8, rfl⟩⟩
      · refine ⟨_, _, h9, Nat.le_refl _, by rw [h8]; exact Nat.zero_le _, .inl ⟨rfl, rfl, ?_⟩⟩
        rw [h2] at h4
        exact st_cut h1 h4 (by omega)
    · rcases (hL _ _ (Nat.le_refl _) h6).2 with ⟨h7, h8, h9⟩ | ⟨h7, h8, h9⟩
      · omega
      · refine ⟨_, _, h9, Nat.le_refl _, by rw [h8]; exact Nat.zero_le _, .inl ⟨rfl, rfl, ?_⟩⟩
        rw [h2] at h4
        exact st_bad h1 h4
  · obtain ⟨hs, hm2, _⟩ := hm true s.size (Nat.le_refl _) h3
    subst h2
    rcases hs with ⟨j, h4, h5⟩ | ⟨h4, h5, h6⟩
    · rw [mo_few (by decide)] at h4
      simp only [Option.some.injEq, Prod.mk.injEq] at h4
      obtain ⟨rfl, rfl⟩ := h4
      rcases (hL _ _ (Nat.le_refl _) h5).2 with ⟨h7, h8, h9⟩ | ⟨h7, h8, h9⟩
      · refine ⟨_, _, h9, h7, by rw [h8, ByteArray.size_extract]; omega, .inl ⟨rfl, rfl, st_end (by omega)⟩⟩
      · omega
    · rw [mo_few (by decide)] at h4
      cases h4
set_option maxRecDepth 100000 in
set_option maxHeartbeats 1600000 in
theorem seq_any (hr : RD w b s i n false) (hi : i ≤ s.size) (hn : n ≤ 2000000) (hs : s.size ≤ 4000) : Calls Tryd.prog 72 #[.pointer (some ⟨b, 0, none⟩)] w fun e w' => SeqP s i n b w e w' := by
  obtain ⟨V, hV⟩ : ∃ V, w.alloc (.cells #[.string ⟨#[]⟩, .int .i64 0, .int .i64 0] 66) = V := ⟨_, rfl⟩
  have hBV : Below w.heap.size w V := by rw [← hV]; exact (Below.refl _ _).alloc (Nat.le_refl _) _
  have k0 : QB V w.heap.size ⟨#[]⟩ 0 0 := by rw [← hV]; exact heap_alloc_new w _
  have hRV := hr.bel hBV
  have HN := hide (number_any hRV hi)
  have H0 := hide (And.intro hBV (And.intro k0 hr))
  have hbl := hr.lt
  clear hBV k0 hr hRV
  go_enter Tryd.func72, Tryd.ntmps72
  go_wp2_with fail
  refine HN.out.mono ?_
  rintro _ w2 ⟨c, rfl, hP2⟩
  have hc := hP2.2.1
  have a1 := and15_fin ⟨c, hc⟩
  obtain ⟨i2, x2, hi2, hR2⟩ : ∃ i2 x2, i2 ≤ s.size ∧ RD w2 b s i2 n x2 := by
    rcases hP2.2.2 with ⟨h1, _, h3⟩ | ⟨_, _, h3⟩
    · exact ⟨_, _, by omega, h3⟩
    · exact ⟨_, _, Nat.le_refl _, h3⟩
  obtain ⟨b0, hb0⟩ : ∃ b0, c % 16 = b0 := ⟨_, rfl⟩
  obtain ⟨a0, ha0⟩ : ∃ a0, c / 16 = a0 := ⟨_, rfl⟩
  have hd0 : (c : Int) / 16 = (a0 : Int) := by omega
  rw [hb0] at a1
  have H2 := hide (And.intro hd0 a1)
  have HS := hide (sum_any hR2 hi2 (show a0 ≤ 15 by omega) hs)
  have HP2 := hide (And.intro hP2 (And.intro hi2 (And.intro hR2 (And.intro ha0 hb0))))
  clear hP2 a1 hR2 hd0 ha0 hb0
  go_wp2_with fail
  rw [H2.out.1, H2.out.2]
  refine HS.out.mono ?_
  rintro _ w3 ⟨m, rfl, hP3⟩
  obtain ⟨i3, x3, hi3, hR3⟩ : ∃ i3 x3, i3 ≤ s.size ∧ RD w3 b s i3 n x3 := by
    rcases hP3.1 with ⟨j, h1, h3⟩ | ⟨_, _, h3⟩
    · exact ⟨_, _, (mo_spec hi2 h1).2.1, h3⟩
    · exact ⟨_, _, Nat.le_refl _, h3⟩
  have HB := hide (bytes_any hR3 hi3 m)
  have HP3 := hide (And.intro hP3 (And.intro hi3 hR3))
  clear hP3 hR3
  go_wp2_with fail
  refine HB.out.mono ?_
  rintro _ w4 ⟨L, rfl, hP4⟩
  obtain ⟨p, x, hLP⟩ := lit_of HP2.out.1 ⟨_, _, HP2.out.2.1, HP2.out.2.2.1, by rw [HP2.out.2.2.2.1]; exact HP3.out.1⟩ ⟨_, _, HP3.out.2.1, HP3.out.2.2, hP4⟩
  have hG4 : Gs (Me b) w w4 := (((Gs.of_below _ H0.out.1).trans HP2.out.1.1).trans HP3.out.1.2.2).trans hP4.1
  have hz4 : w.heap.size < w4.heap.size := by
    have h1 := lt_of_block H0.out.2.1
    have h2 := HP2.out.1.1.size
    have h3 := HP3.out.1.2.2.size
    have h4 := hP4.1.size
    omega
  have k4 : QB w4 w.heap.size ⟨#[]⟩ 0 0 := by
    have hne : ¬ Me b w.heap.size := by show ¬ w.heap.size = b; omega
    have e1 := HP2.out.1.1.block w.heap.size (lt_of_block H0.out.2.1) hne
    have l1 := lt_of_block (e1.trans H0.out.2.1)
    have e2 := HP3.out.1.2.2.block w.heap.size l1 hne
    have l2 := lt_of_block (e2.trans (e1.trans H0.out.2.1))
    exact (hP4.1.block w.heap.size l2 hne).trans (e2.trans (e1.trans H0.out.2.1))
  have HCB : Hid (b0 = c % 16) := HP2.out.2.2.2.2.symm
  obtain ⟨g, hg⟩ : ∃ g, g = w4.heap.size := ⟨_, rfl⟩
  obtain ⟨V5, hV5⟩ : ∃ V5, w4.alloc (.cells #[.string L, .int .i64 0, .int .i64 0] 66) = V5 := ⟨_, rfl⟩
  have hB5 : Below w4.heap.size w4 V5 := by rw [← hV5]; exact (Below.refl _ _).alloc (Nat.le_refl _) _
  have q5 : QB V5 g L 0 0 := by rw [← hV5, hg]; exact heap_alloc_new w4 _
  have HV5 := hide hV5
  obtain ⟨N, hN⟩ : ∃ N, N = n + L.size := ⟨_, rfl⟩
  have hR5 := hLP.1.bel hB5
  have k5 : QB V5 w.heap.size ⟨#[]⟩ 0 0 := (hB5.block _ hz4).trans k4
  have hG5 : Gs (Me b) w V5 := hG4.bel hB5
  have hbg : b ≠ g := by omega
  have hwg : w.heap.size ≠ g := by omega
  obtain ⟨V6, hV6⟩ : ∃ V6, (V5.setCell ⟨b, 1, none⟩ (.int .i64 (N : Int))).drew = V6 := ⟨_, rfl⟩
  have hR6 : RD V6 b s p N x := by rw [← hV6]; exact hR5.done N
  have q6 : QB V6 g L 0 0 := by rw [← hV6]; exact (heap_setCell_other _ _ _ _ (by show g ≠ b; omega)).trans q5
  have k6 : QB V6 w.heap.size ⟨#[]⟩ 0 0 := by rw [← hV6]; exact (heap_setCell_other _ _ _ _ (by show w.heap.size ≠ b; omega)).trans k5
  have hG6 : Gs (Me b) w V6 := by
    have h := hG5.set (a := ⟨b, 1, none⟩) (.inl rfl) (.int .i64 (N : Int))
    rw [← hV6]
    exact ⟨h.os, h.tape, h.output, h.size, h.block⟩
  have HV6 := hide hV6
  have HN6 := hide hN
  have nb : (n : Int) + (L.size : Int) = (N : Int) := by omega
  have nw : IntKind.i64.wrap (N : Int) = (N : Int) := by have := hLP.2.2.1; rw [IntKind.wrap_i64]; omega
  have c51 := (cell3 hR5).2.1
  have c50 := (cell3 q5).1
  have f51 := free3 hR5 1
  have H6 := hide (And.intro hR6 (And.intro q6 (And.intro k6 (And.intro hG6 (And.intro hLP.2 hG4)))))
  have HG := hide hg
  clear hg hG4 hV5 hB5 hV6 hN hLP hP4 hR6 q6 k6 hG6 k4 k5 hG5 q5 hR5
  go_wp2_with fail
  rw [HV5.out, ← HG.out]
  go_region
  rw [HV6.out]
  by_cases hp : p = s.size
  · subst hp
    have c60 := (cell3 H6.out.1).1
    rw [ext_end s (Nat.le_refl _)] at c60
    have c62 := (cell3 H6.out.1).2.2
    have f62 := free3 H6.out.1 2
    cases x with
    | true =>
      have HST : Hid (stp s i n = none) := by
        rcases H6.out.2.2.2.2.1.2.2 with ⟨_, _, h3⟩ | ⟨h1, _⟩
        · exact h3
        · cases h1
      obtain ⟨V7, hV7⟩ : ∃ V7, V6.setCell ⟨b, 2, none⟩ (.bool true) = V7 := ⟨_, rfl⟩
      have hR7 : RD V7 b s s.size N true := by rw [← hV7]; exact H6.out.1.bad true
      have q7 : QB V7 g L 0 0 := by rw [← hV7]; exact (heap_setCell_other _ _ _ _ (by show g ≠ b; omega)).trans H6.out.2.1
      have k7 : QB V7 w.heap.size ⟨#[]⟩ 0 0 := by rw [← hV7]; exact (heap_setCell_other _ _ _ _ (by show w.heap.size ≠ b; omega)).trans H6.out.2.2.1
      have hG7 : Gs (Me b) w V7 := by rw [← hV7]; exact H6.out.2.2.2.1.set (a := ⟨b, 2, none⟩) (.inl rfl) _
      have H7 := hide (And.intro hR7 (And.intro q7 (And.intro k7 hG7)))
      clear hR7 q7 k7 hG7
      obtain ⟨⟨z0, z1, z2, z3, z4, z5⟩, ⟨z6, z7, z8, z9⟩, ⟨y6, y7⟩, kf, hG9⟩ := three_set H7.out.2.2.1 (.string L) (.int .i64 (0 : Int)) (.int .i64 (0 : Int))
      obtain ⟨u0, u1, u2⟩ := cell3 H7.out.2.1
      obtain ⟨f0, f1, f2⟩ := cell3 kf
      have hRz := H7.out.1.gs hG9 (show ¬ b = w.heap.size by omega)
      have hGz : Gs (Me b) w (((V7.setCell ⟨w.heap.size, 0, none⟩ (.string L)).setCell ⟨w.heap.size, 1, none⟩ (.int .i64 (0 : Int))).setCell ⟨w.heap.size, 2, none⟩ (.int .i64 (0 : Int))) := ((H7.out.2.2.2.set (a := ⟨w.heap.size, 0, none⟩) (.inr (Nat.le_refl _)) _).set (a := ⟨w.heap.size, 1, none⟩) (.inr (Nat.le_refl _)) _).set (a := ⟨w.heap.size, 2, none⟩) (.inr (Nat.le_refl _)) _
      have HE : Hid (SeqP s i n b w (.returned (.agg #[.string L, .int .i64 (0 : Int), .int .i64 (0 : Int)])) (((V7.setCell ⟨w.heap.size, 0, none⟩ (.string L)).setCell ⟨w.heap.size, 1, none⟩ (.int .i64 (0 : Int))).setCell ⟨w.heap.size, 2, none⟩ (.int .i64 (0 : Int)))) :=
        ⟨⟨L, 0, 0⟩, rfl, hGz, .inl ⟨HST.out, _, hRz⟩⟩
      clear kf hG9 hRz hGz
      go_wp2
      exact bodyPost_ret (v := .agg #[.string L, .int .i64 (0 : Int), .int .i64 (0 : Int)]) (by simp [results, Tryd.results72, go_sem, f0, f1, f2]) rfl HE.out
    | false =>
      have HL : Hid (i < s.size ∧ c = bt s i ∧ ∃ a j, mo s (i + 1) (bt s i / 16) = some (a, j) ∧ L = s.extract j (j + a) ∧ s.size = j + a) := by
        rcases H6.out.2.2.2.2.1.2.2 with ⟨h1, _⟩ | ⟨_, h3⟩
        · cases h1
        · exact h3
      by_cases hb0 : b0 = 0
      · have HST : Hid (stp s i n = some (⟨L, 0, 0⟩, s.size)) := by
          obtain ⟨l1, l2, a, j, l3, l4, l5⟩ := HL.out
          have h4 := mo_spec (by omega) l3
          show stp s i n = _
          rw [st_last l1 l3 (by omega) l5.symm, if_pos (by rw [← l2, ← HCB.out]; exact hb0), l4]
        have b1 : ((b0 : Int) != 0) = false := by subst hb0; rfl
        have b2 : ((b0 : Int) == 0) = true := by subst hb0; rfl
        have b3 : (b0 : Int) = 0 := by omega
        have HB0 := hide hb0
        clear hb0
        obtain ⟨V7, hV7⟩ : ∃ V7, V6.setCell ⟨b, 2, none⟩ (.bool false) = V7 := ⟨_, rfl⟩
        have hR7 : RD V7 b s s.size N false := by rw [← hV7]; exact H6.out.1.bad false
        have q7 : QB V7 g L 0 0 := by rw [← hV7]; exact (heap_setCell_other _ _ _ _ (by show g ≠ b; omega)).trans H6.out.2.1
        have k7 : QB V7 w.heap.size ⟨#[]⟩ 0 0 := by rw [← hV7]; exact (heap_setCell_other _ _ _ _ (by show w.heap.size ≠ b; omega)).trans H6.out.2.2.1
        have hG7 : Gs (Me b) w V7 := by rw [← hV7]; exact H6.out.2.2.2.1.set (a := ⟨b, 2, none⟩) (.inl rfl) _
        have H7 := hide (And.intro hR7 (And.intro q7 (And.intro k7 hG7)))
        clear hR7 q7 k7 hG7
        obtain ⟨⟨z0, z1, z2, z3, z4, z5⟩, ⟨z6, z7, z8, z9⟩, ⟨y6, y7⟩, kf, hG9⟩ := three_set H7.out.2.2.1 (.string L) (.int .i64 (0 : Int)) (.int .i64 (0 : Int))
        obtain ⟨u0, u1, u2⟩ := cell3 H7.out.2.1
        obtain ⟨f0, f1, f2⟩ := cell3 kf
        have hRz := H7.out.1.gs hG9 (show ¬ b = w.heap.size by omega)
        have hGz : Gs (Me b) w (((V7.setCell ⟨w.heap.size, 0, none⟩ (.string L)).setCell ⟨w.heap.size, 1, none⟩ (.int .i64 (0 : Int))).setCell ⟨w.heap.size, 2, none⟩ (.int .i64 (0 : Int))) := ((H7.out.2.2.2.set (a := ⟨w.heap.size, 0, none⟩) (.inr (Nat.le_refl _)) _).set (a := ⟨w.heap.size, 1, none⟩) (.inr (Nat.le_refl _)) _).set (a := ⟨w.heap.size, 2, none⟩) (.inr (Nat.le_refl _)) _
        have HE : Hid (SeqP s i n b w (.returned (.agg #[.string L, .int .i64 (0 : Int), .int .i64 (0 : Int)])) (((V7.setCell ⟨w.heap.size, 0, none⟩ (.string L)).setCell ⟨w.heap.size, 1, none⟩ (.int .i64 (0 : Int))).setCell ⟨w.heap.size, 2, none⟩ (.int .i64 (0 : Int)))) :=
          ⟨⟨L, 0, 0⟩, rfl, hGz, .inr ⟨_, HST.out, by show RD _ b s s.size (n + L.size) false; rw [← HN6.out]; exact hRz⟩⟩
        clear kf hG9 hRz hGz
        go_wp2
        exact bodyPost_ret (v := .agg #[.string L, .int .i64 (0 : Int), .int .i64 (0 : Int)]) (by simp [results, Tryd.results72, go_sem, f0, f1, f2]) rfl HE.out
      · have HST : Hid (stp s i n = none) := by
          obtain ⟨l1, l2, a, j, l3, l4, l5⟩ := HL.out
          have h4 := mo_spec (by omega) l3
          show stp s i n = _
          rw [st_last l1 l3 (by omega) l5.symm, if_neg (by rw [← l2, ← HCB.out]; exact hb0)]
        have b1 : ((b0 : Int) != 0) = true := by simp; omega
        have b2 : ((b0 : Int) == 0) = false := by simp; omega
        have b3 : ¬ (b0 : Int) = 0 := by omega
        obtain ⟨V7, hV7⟩ : ∃ V7, V6.setCell ⟨b, 2, none⟩ (.bool true) = V7 := ⟨_, rfl⟩
        have hR7 : RD V7 b s s.size N true := by rw [← hV7]; exact H6.out.1.bad true
        have q7 : QB V7 g L 0 0 := by rw [← hV7]; exact (heap_setCell_other _ _ _ _ (by show g ≠ b; omega)).trans H6.out.2.1
        have k7 : QB V7 w.heap.size ⟨#[]⟩ 0 0 := by rw [← hV7]; exact (heap_setCell_other _ _ _ _ (by show w.heap.size ≠ b; omega)).trans H6.out.2.2.1
        have hG7 : Gs (Me b) w V7 := by rw [← hV7]; exact H6.out.2.2.2.1.set (a := ⟨b, 2, none⟩) (.inl rfl) _
        have H7 := hide (And.intro hR7 (And.intro q7 (And.intro k7 hG7)))
        clear hR7 q7 k7 hG7
        obtain ⟨⟨z0, z1, z2, z3, z4, z5⟩, ⟨z6, z7, z8, z9⟩, ⟨y6, y7⟩, kf, hG9⟩ := three_set H7.out.2.2.1 (.string L) (.int .i64 (0 : Int)) (.int .i64 (0 : Int))
        obtain ⟨u0, u1, u2⟩ := cell3 H7.out.2.1
        obtain ⟨f0, f1, f2⟩ := cell3 kf
        have hRz := H7.out.1.gs hG9 (show ¬ b = w.heap.size by omega)
        have hGz : Gs (Me b) w (((V7.setCell ⟨w.heap.size, 0, none⟩ (.string L)).setCell ⟨w.heap.size, 1, none⟩ (.int .i64 (0 : Int))).setCell ⟨w.heap.size, 2, none⟩ (.int .i64 (0 : Int))) := ((H7.out.2.2.2.set (a := ⟨w.heap.size, 0, none⟩) (.inr (Nat.le_refl _)) _).set (a := ⟨w.heap.size, 1, none⟩) (.inr (Nat.le_refl _)) _).set (a := ⟨w.heap.size, 2, none⟩) (.inr (Nat.le_refl _)) _
        have HE : Hid (SeqP s i n b w (.returned (.agg #[.string L, .int .i64 (0 : Int), .int .i64 (0 : Int)])) (((V7.setCell ⟨w.heap.size, 0, none⟩ (.string L)).setCell ⟨w.heap.size, 1, none⟩ (.int .i64 (0 : Int))).setCell ⟨w.heap.size, 2, none⟩ (.int .i64 (0 : Int)))) :=
          ⟨⟨L, 0, 0⟩, rfl, hGz, .inl ⟨HST.out, _, hRz⟩⟩
        clear kf hG9 hRz hGz
        go_wp2
        exact bodyPost_ret (v := .agg #[.string L, .int .i64 (0 : Int), .int .i64 (0 : Int)]) (by simp [results, Tryd.results72, go_sem, f0, f1, f2]) rfl HE.out
  · have hx0 : x = false := by
      rcases H6.out.2.2.2.2.1.2.2 with ⟨_, h2, _⟩ | ⟨h1, _⟩
      · exact absurd h2 hp
      · exact h1
    subst hx0
    have hpl : p < s.size := by have := H6.out.2.2.2.2.1.1; omega
    have HL : Hid (i < s.size ∧ c = bt s i ∧ ∃ a j, mo s (i + 1) (bt s i / 16) = some (a, j) ∧ L = s.extract j (j + a) ∧ p = j + a) := by
      rcases H6.out.2.2.2.2.1.2.2 with ⟨_, h2, _⟩ | ⟨_, h3⟩
      · exact absurd h2 hp
      · exact h3
    have c60 := (cell3 H6.out.1).1
    obtain ⟨r, hr⟩ : ∃ r, r = s.extract p s.size := ⟨_, rfl⟩
    have hrz : r.size = s.size - p := by rw [hr, ByteArray.size_extract]; omega
    have hne2 : ¬ r.toList = [] := by
      rw [bytes_list]
      intro e
      have h3 := congrArg List.length e
      have h4 : r.size = 0 := by simpa using h3
      omega
    have hne : r.toList.isEmpty = false := List.isEmpty_eq_false_iff.2 hne2
    rw [← hr] at c60
    have HN7 := hide (number_ok H6.out.1 hpl)
    clear hr hp
    go_wp2_with fail
    refine HN7.out.mono ?_
    rintro _ w7 ⟨rfl, hR7, hG7⟩
    obtain ⟨c1, hc1⟩ : ∃ c1, bt s p = c1 := ⟨_, rfl⟩
    have hc1l := bt_lt s p
    rw [hc1] at hc1l ⊢
    have HC1 := hide hc1
    clear hc1
    have q7 : QB w7 g L 0 0 := (hG7.block g (lt_of_block H6.out.2.1) (by show ¬ g = b; omega)).trans H6.out.2.1
    have k7 : QB w7 w.heap.size ⟨#[]⟩ 0 0 := (hG7.block _ (lt_of_block H6.out.2.2.1) (by show ¬ w.heap.size = b; omega)).trans H6.out.2.2.1
    have hGG7 : Gs (Me b) w w7 := H6.out.2.2.2.1.trans hG7
    obtain ⟨V7, hV7⟩ : ∃ V7, w7.setCell ⟨g, 1, none⟩ (.int .i64 (c1 : Int)) = V7 := ⟨_, rfl⟩
    have hR7' : RD V7 b s (p + 1) N false := by rw [← hV7]; exact (heap_setCell_other _ _ _ _ (by show b ≠ g; omega)).trans hR7
    have q7' : QB V7 g L c1 0 := by rw [← hV7]; exact heap_set_self (u := .int .i64 (c1 : Int)) q7
    have k7' : QB V7 w.heap.size ⟨#[]⟩ 0 0 := by rw [← hV7]; exact (heap_setCell_other _ _ _ _ (by show w.heap.size ≠ g; omega)).trans k7
    have hG7' : Gs (Me b) w V7 := by rw [← hV7]; exact hGG7.set (a := ⟨g, 1, none⟩) (.inr (by show w.heap.size ≤ g; rw [HG.out]; omega)) _
    have e0 := (cell3 q7).2.1
    have e1 := free3 q7 1
    have HV7 := hide hV7
    have H7 := hide (And.intro hR7' (And.intro q7' (And.intro k7' hG7')))
    clear hV7 hR7' q7' k7' hG7' hR7 q7 k7 hGG7 hG7
    go_upto_region 9 with fail
    rw [HV7.out]
    go_cut [] (fun wx => ∃ (dd p2 : Nat) (x2 : Bool), p2 ≤ s.size ∧ dd ≤ 65535 ∧ RD wx b s p2 N x2 ∧ QB wx g L dd 0 ∧ QB wx w.heap.size ⟨#[]⟩ 0 0 ∧ Gs (Me b) w wx ∧ ((x2 = true ∧ p2 = s.size ∧ s.size < p + 2) ∨ (x2 = false ∧ p2 = p + 2 ∧ dd = ds s p)))
    case first =>
      have hRd : RD V7.drew b s (p + 1) N false := H7.out.1
      have HN9 := hide (number_any hRd (by omega))
      have d0 := (cell3 H7.out.2.1).2.1
      have d1 := free3 H7.out.2.1 1
      clear hRd
      go_region_with (go_at_call 79; refine Calls.mono HN9.out ?_; rintro _ w8 ⟨c2, rfl, hP8⟩
                      have hq8 : QB w8 g L c1 0 := (hP8.1.block g (lt_of_block H7.out.2.1) (by show ¬ g = b; omega)).trans H7.out.2.1
                      have d2 := (cell3 hq8).2.1
                      have d3 := free3 hq8 1
                      have d4 := hP8.2.1
                      have d5 : IntKind.i64.wrap ((c2 : Int) * 256) = (c2 : Int) * 256 := by rw [IntKind.wrap_i64]; omega
                      have d6 : IntKind.i64.wrap ((c1 : Int) + (c2 : Int) * 256) = (c1 : Int) + (c2 : Int) * 256 := by rw [IntKind.wrap_i64]; omega
                      have HP8 := hide hP8
                      have HQ8 := hide hq8
                      clear hP8 hq8)
      all_goals (go_wp2_with fail; go_meet)
      all_goals
        have e1 : (c1 : Int) + (c2 : Int) * 256 = ((c1 + c2 * 256 : Nat) : Int) := by omega
        rw [e1]
        have hq9 : QB (w8.setCell ⟨g, 1, none⟩ (.int .i64 ((c1 + c2 * 256 : Nat) : Int))) g L (c1 + c2 * 256) 0 := heap_set_self (u := .int .i64 ((c1 + c2 * 256 : Nat) : Int)) HQ8.out
        have hk9 : QB (w8.setCell ⟨g, 1, none⟩ (.int .i64 ((c1 + c2 * 256 : Nat) : Int))) w.heap.size ⟨#[]⟩ 0 0 := (heap_setCell_other _ _ _ _ (by show w.heap.size ≠ g; omega)).trans ((HP8.out.1.block _ (lt_of_block H7.out.2.2.1) (by show ¬ w.heap.size = b; omega)).trans H7.out.2.2.1)
        have hG8 : Gs (Me b) V7 w8 := ⟨HP8.out.1.os, HP8.out.1.tape, HP8.out.1.output, HP8.out.1.size, HP8.out.1.block⟩
        have hG9 : Gs (Me b) w (w8.setCell ⟨g, 1, none⟩ (.int .i64 ((c1 + c2 * 256 : Nat) : Int))) := (H7.out.2.2.2.trans hG8).set (a := ⟨g, 1, none⟩) (.inr (by show w.heap.size ≤ g; rw [HG.out]; omega)) _
        rcases HP8.out.2.2 with ⟨h1, h2, h3⟩ | ⟨h1, h2, h3⟩
        · exact ⟨_, p + 1 + 1, false, by omega, by omega, (heap_setCell_other _ _ _ _ (by show b ≠ g; omega)).trans h3, hq9, hk9, hG9, .inr ⟨rfl, rfl, by rw [ds, h2, HC1.out]⟩⟩
        · exact ⟨_, s.size, true, Nat.le_refl _, by omega, (heap_setCell_other _ _ _ _ (by show b ≠ g; omega)).trans h3, hq9, hk9, hG9, .inl ⟨rfl, rfl, by omega⟩⟩
    case rest =>
      obtain ⟨dd, p2, x2, hp2, hdd, hR8, q8, k8, hG8, hcl⟩ := hcut
      obtain ⟨l1, l2, a, j, l3, l4, l5⟩ := HL.out
      have g1 := mo_spec (by omega) l3
      have HM1 := hide (And.intro l3 (And.intro l4 (And.intro l5 (And.intro l2 hcl))))
      have e0 := (cell3 q8).2.1
      have e1 := (cell3 hR8).2.1
      have hLz : L.size = a := by rw [l4, ByteArray.size_extract]; omega
      have hNN := HN6.out
      have HSX : Hid (x2 = true ∨ dd = 0 ∨ N < dd → stp s i n = none) := by
        show x2 = true ∨ dd = 0 ∨ N < dd → stp s i n = none
        intro h
        rcases hcl with ⟨_, _, h3⟩ | ⟨h1, h2, h3⟩
        · exact st_two l1 l3 (by omega) (by omega) (by omega)
        · by_cases h4 : s.size < j + a + 2
          · exact st_two l1 l3 (by omega) (by omega) h4
          · refine st_far l1 l3 (by omega) (by omega) h4 ?_
            rw [l5] at h3
            rw [← h3]
            rcases h with h | h | h
            · rw [h1] at h; cases h
            · exact .inl h
            · exact .inr (by omega)
      clear l3 l4 l5 l2 hcl g1
      have HNN := hide hNN
      clear hNN hLz
      by_cases hbd : dd = 0 ∨ N < dd
      · have HST : Hid (stp s i n = none) := HSX.out (.inr hbd)
        have HBD := hide hbd
        have H9 := hide (And.intro hR8 (And.intro q8 (And.intro k8 hG8)))
        clear hR8 q8 k8 hG8 hbd
        go_upto_region 10 with fail
        go_cut [67] (fun t wx => t = .bool true ∧ RD wx b s p2 N x2 ∧ QB wx g L dd 0 ∧ QB wx w.heap.size ⟨#[]⟩ 0 0 ∧ Gs (Me b) w wx)
        case first =>
          by_cases hz : dd = 0
          · have z1 : ((dd : Int) == 0) = true := by simpa using hz
            have z2 : (dd : Int) = 0 := by omega
            have HZ := hide hz
            clear hz
            go_quiet (fail)
            go_wp2
            go_meet
            exact ⟨rfl, H9.out.1, H9.out.2.1, H9.out.2.2.1, ⟨H9.out.2.2.2.os, H9.out.2.2.2.tape, H9.out.2.2.2.output, H9.out.2.2.2.size, H9.out.2.2.2.block⟩⟩
          · have z1 : ((dd : Int) == 0) = false := by simp; omega
            have z2 : ¬ (dd : Int) = 0 := by omega
            have z3 : (N : Int) < (dd : Int) := by have := HBD.out; omega
            have z4 : decide ((N : Int) < (dd : Int)) = true := by simpa using z3
            go_quiet (fail)
            go_wp2
            go_meet
            exact ⟨rfl, H9.out.1, H9.out.2.1, H9.out.2.2.1, ⟨H9.out.2.2.2.os, H9.out.2.2.2.tape, H9.out.2.2.2.output, H9.out.2.2.2.size, H9.out.2.2.2.block⟩⟩
        case rest =>
          obtain ⟨rfl, hR9, q9, k9, hG9⟩ := hcut
          have HF := hide (fail_any hR9)
          clear H9
          have H9 := hide (And.intro q9 (And.intro k9 hG9))
          clear hR9 q9 k9 hG9
          go_wp2_with fail
          refine HF.out.mono ?_
          rintro _ w8 ⟨rfl, hR8, hg8⟩
          have q8 := (hg8.block g (lt_of_block H9.out.1) (by show ¬ g = b; omega)).trans H9.out.1
          have k8 := (hg8.block _ (lt_of_block H9.out.2.1) (by show ¬ w.heap.size = b; omega)).trans H9.out.2.1
          have H8 := hide (And.intro hR8 (And.intro q8 (And.intro k8 (H9.out.2.2.trans hg8))))
          clear hR8 q8 k8 hg8
          have HS := hide (sum_any H8.out.1 (Nat.le_refl _) (show b0 ≤ 15 by rw [HCB.out]; omega) hs)
          go_wp2_with fail
          refine HS.out.mono ?_
          rintro _ w9 ⟨m2, rfl, hP9⟩
          obtain ⟨i9, x9, hi9, hR9⟩ : ∃ i9 x9, i9 ≤ s.size ∧ RD w9 b s i9 N x9 := by
            rcases hP9.1 with ⟨j, h1, h3⟩ | ⟨_, _, h3⟩
            · exact ⟨_, _, (mo_spec (Nat.le_refl _) h1).2.1, h3⟩
            · exact ⟨_, _, Nat.le_refl _, h3⟩
          have hm2 := hP9.2.1
          have q9 : QB w9 g L dd 0 := (hP9.2.2.block g (lt_of_block H8.out.2.1) (by show ¬ g = b; omega)).trans H8.out.2.1
          have k9 : QB w9 w.heap.size ⟨#[]⟩ 0 0 := (hP9.2.2.block _ (lt_of_block H8.out.2.2.1) (by show ¬ w.heap.size = b; omega)).trans H8.out.2.2.1
          have hG9 : Gs (Me b) w w9 := H8.out.2.2.2.trans hP9.2.2
          obtain ⟨l2, hl2⟩ : ∃ l2, l2 = m2 + 4 := ⟨_, rfl⟩
          have n1 : (m2 : Int) + 4 = (l2 : Int) := by omega
          have n2 : IntKind.i64.wrap (l2 : Int) = (l2 : Int) := by rw [IntKind.wrap_i64]; omega
          obtain ⟨W1, hW1⟩ : ∃ W1, w9.setCell ⟨g, 2, none⟩ (.int .i64 (l2 : Int)) = W1 := ⟨_, rfl⟩
          have qa : QB W1 g L dd l2 := by rw [← hW1]; exact heap_set_self (u := .int .i64 (l2 : Int)) q9
          have ka : QB W1 w.heap.size ⟨#[]⟩ 0 0 := by rw [← hW1]; exact (heap_setCell_other _ _ _ _ (by show w.heap.size ≠ g; omega)).trans k9
          have hRa : RD W1 b s i9 N x9 := by rw [← hW1]; exact (heap_setCell_other _ _ _ _ (by show b ≠ g; omega)).trans hR9
          have hGa : Gs (Me b) w W1 := by rw [← hW1]; exact hG9.set (a := ⟨g, 2, none⟩) (.inr (by show w.heap.size ≤ g; rw [HG.out]; omega)) _
          have e0 := (cell3 q9).2.2
          have e1 := free3 q9 2
          have HPP := hide (And.intro hP9 hl2)
          obtain ⟨M, hM⟩ : ∃ M, M = N + l2 := ⟨_, rfl⟩
          have n3 : (N : Int) + (l2 : Int) = (M : Int) := by omega
          have n4 : IntKind.i64.wrap (M : Int) = (M : Int) := by have := H6.out.2.2.2.2.1.2.1; have := HN6.out; rw [IntKind.wrap_i64]; omega
          obtain ⟨W2, hW2⟩ : ∃ W2, (W1.setCell ⟨b, 1, none⟩ (.int .i64 (M : Int))).drew = W2 := ⟨_, rfl⟩
          have hRb : RD W2 b s i9 M x9 := by rw [← hW2]; exact hRa.done M
          have qb : QB W2 g L dd l2 := by rw [← hW2]; exact (heap_setCell_other _ _ _ _ (by show g ≠ b; omega)).trans qa
          have kb : QB W2 w.heap.size ⟨#[]⟩ 0 0 := by rw [← hW2]; exact (heap_setCell_other _ _ _ _ (by show w.heap.size ≠ b; omega)).trans ka
          have hGb : Gs (Me b) w W2 := by
            have h := hGa.set (a := ⟨b, 1, none⟩) (.inl rfl) (.int .i64 (M : Int))
            rw [← hW2]
            exact ⟨h.os, h.tape, h.output, h.size, h.block⟩
          have e2 := (cell3 hRa).2.1
          have e3 := (cell3 qa).2.2
          have e4 := free3 hRa 1
          have HR9 := hide hR9
          have H7 := hide (And.intro hRb (And.intro qb (And.intro kb hGb)))
          have HW1 := hide hW1
          have HW2 := hide hW2
          have HM := hide hM
          clear hRb qb kb hGb hRa qa ka hGa hR9 q9 k9 hG9 hP9 hl2 hW1 hW2 hM hm2
          go_wp2_with fail
          rw [HW1.out]
          go_region
          rw [HW2.out]
          obtain ⟨⟨z0, z1, z2, z3, z4, z5⟩, ⟨z6, z7, z8, z9⟩, ⟨y6, y7⟩, kf, hG9⟩ := three_set H7.out.2.2.1 (.string L) (.int .i64 (dd : Int)) (.int .i64 (l2 : Int))
          obtain ⟨u0, u1, u2⟩ := cell3 H7.out.2.1
          obtain ⟨f0, f1, f2⟩ := cell3 kf
          have hRz := H7.out.1.gs hG9 (show ¬ b = w.heap.size by omega)
          have hGz : Gs (Me b) w (((W2.setCell ⟨w.heap.size, 0, none⟩ (.string L)).setCell ⟨w.heap.size, 1, none⟩ (.int .i64 (dd : Int))).setCell ⟨w.heap.size, 2, none⟩ (.int .i64 (l2 : Int))) := ((H7.out.2.2.2.set (a := ⟨w.heap.size, 0, none⟩) (.inr (Nat.le_refl _)) _).set (a := ⟨w.heap.size, 1, none⟩) (.inr (Nat.le_refl _)) _).set (a := ⟨w.heap.size, 2, none⟩) (.inr (Nat.le_refl _)) _
          have HE : Hid (SeqP s i n b w (.returned (.agg #[.string L, .int .i64 (dd : Int), .int .i64 (l2 : Int)])) (((W2.setCell ⟨w.heap.size, 0, none⟩ (.string L)).setCell ⟨w.heap.size, 1, none⟩ (.int .i64 (dd : Int))).setCell ⟨w.heap.size, 2, none⟩ (.int .i64 (l2 : Int)))) :=
            by
              refine ⟨⟨L, dd, l2⟩, rfl, hGz, .inl ⟨HST.out, M, ?_⟩⟩
              have hx : i9 = s.size ∧ x9 = true := by
                rcases HPP.out.1.1 with ⟨j, h1, h3⟩ | ⟨_, _, h3⟩
                · have h4 := mo_spec (Nat.le_refl _) h1
                  obtain ⟨a1, _, a3⟩ := (HR9.out).inj h3 hi9 h4.2.1
                  exact ⟨by omega, a3⟩
                · obtain ⟨a1, _, a3⟩ := (HR9.out).inj h3 hi9 (Nat.le_refl _)
                  exact ⟨a1, a3⟩
              rw [hx.1, hx.2] at hRz
              exact hRz
          clear kf hG9 hRz hGz
          go_wp2
          exact bodyPost_ret (v := .agg #[.string L, .int .i64 (dd : Int), .int .i64 (l2 : Int)]) (by simp [results, Tryd.results72, go_sem, f0, f1, f2]) rfl HE.out
      · have hbz : dd ≠ 0 ∧ ¬ N < dd := by omega
        have HBD := hide hbz
        have H9 := hide (And.intro hR8 (And.intro q8 (And.intro k8 hG8)))
        clear hR8 q8 k8 hG8 hbd hbz
        go_upto_region 10 with fail
        go_cut [67] (fun t wx => t = .bool false ∧ RD wx b s p2 N x2 ∧ QB wx g L dd 0 ∧ QB wx w.heap.size ⟨#[]⟩ 0 0 ∧ Gs (Me b) w wx)
        case first =>
          have z1 : ((dd : Int) == 0) = false := by have := HBD.out; simp; omega
          have z2 : ¬ (dd : Int) = 0 := by have := HBD.out; omega
          have z3 : ¬ (N : Int) < (dd : Int) := by have := HBD.out; omega
          have z4 : decide ((N : Int) < (dd : Int)) = false := by simpa using z3
          go_quiet (fail)
          go_wp2
          go_meet
          exact ⟨rfl, H9.out.1, H9.out.2.1, H9.out.2.2.1, ⟨H9.out.2.2.2.os, H9.out.2.2.2.tape, H9.out.2.2.2.output, H9.out.2.2.2.size, H9.out.2.2.2.block⟩⟩
        case rest =>
          obtain ⟨rfl, hR9, q9, k9, hG9⟩ := hcut
          clear H9
          have H8 := hide (And.intro hR9 (And.intro q9 (And.intro k9 hG9)))
          clear hR9 q9 k9 hG9
          have HLE := hide hp2
          rcases HM1.out.2.2.2.2 with ⟨rfl, rfl, hx3⟩ | ⟨rfl, hx2, hx3⟩
          · have HST : Hid (stp s i n = none) := HSX.out (.inl rfl)
            clear hx3
            have HS := hide (sum_any H8.out.1 (Nat.le_refl _) (show b0 ≤ 15 by rw [HCB.out]; omega) hs)
            go_wp2_with fail
            refine HS.out.mono ?_
            rintro _ w9 ⟨m2, rfl, hP9⟩
            obtain ⟨i9, x9, hi9, hR9⟩ : ∃ i9 x9, i9 ≤ s.size ∧ RD w9 b s i9 N x9 := by
              rcases hP9.1 with ⟨j, h1, h3⟩ | ⟨_, _, h3⟩
              · exact ⟨_, _, (mo_spec (Nat.le_refl _) h1).2.1, h3⟩
              · exact ⟨_, _, Nat.le_refl _, h3⟩
            have hm2 := hP9.2.1
            have q9 : QB w9 g L dd 0 := (hP9.2.2.block g (lt_of_block H8.out.2.1) (by show ¬ g = b; omega)).trans H8.out.2.1
            have k9 : QB w9 w.heap.size ⟨#[]⟩ 0 0 := (hP9.2.2.block _ (lt_of_block H8.out.2.2.1) (by show ¬ w.heap.size = b; omega)).trans H8.out.2.2.1
            have hG9 : Gs (Me b) w w9 := H8.out.2.2.2.trans hP9.2.2
            obtain ⟨l2, hl2⟩ : ∃ l2, l2 = m2 + 4 := ⟨_, rfl⟩
            have n1 : (m2 : Int) + 4 = (l2 : Int) := by omega
            have n2 : IntKind.i64.wrap (l2 : Int) = (l2 : Int) := by rw [IntKind.wrap_i64]; omega
            obtain ⟨W1, hW1⟩ : ∃ W1, w9.setCell ⟨g, 2, none⟩ (.int .i64 (l2 : Int)) = W1 := ⟨_, rfl⟩
            have qa : QB W1 g L dd l2 := by rw [← hW1]; exact heap_set_self (u := .int .i64 (l2 : Int)) q9
            have ka : QB W1 w.heap.size ⟨#[]⟩ 0 0 := by rw [← hW1]; exact (heap_setCell_other _ _ _ _ (by show w.heap.size ≠ g; omega)).trans k9
            have hRa : RD W1 b s i9 N x9 := by rw [← hW1]; exact (heap_setCell_other _ _ _ _ (by show b ≠ g; omega)).trans hR9
            have hGa : Gs (Me b) w W1 := by rw [← hW1]; exact hG9.set (a := ⟨g, 2, none⟩) (.inr (by show w.heap.size ≤ g; rw [HG.out]; omega)) _
            have e0 := (cell3 q9).2.2
            have e1 := free3 q9 2
            have HPP := hide (And.intro hP9 hl2)
            obtain ⟨M, hM⟩ : ∃ M, M = N + l2 := ⟨_, rfl⟩
            have n3 : (N : Int) + (l2 : Int) = (M : Int) := by omega
            have n4 : IntKind.i64.wrap (M : Int) = (M : Int) := by have := H6.out.2.2.2.2.1.2.1; have := HN6.out; rw [IntKind.wrap_i64]; omega
            obtain ⟨W2, hW2⟩ : ∃ W2, (W1.setCell ⟨b, 1, none⟩ (.int .i64 (M : Int))).drew = W2 := ⟨_, rfl⟩
            have hRb : RD W2 b s i9 M x9 := by rw [← hW2]; exact hRa.done M
            have qb : QB W2 g L dd l2 := by rw [← hW2]; exact (heap_setCell_other _ _ _ _ (by show g ≠ b; omega)).trans qa
            have kb : QB W2 w.heap.size ⟨#[]⟩ 0 0 := by rw [← hW2]; exact (heap_setCell_other _ _ _ _ (by show w.heap.size ≠ b; omega)).trans ka
            have hGb : Gs (Me b) w W2 := by
              have h := hGa.set (a := ⟨b, 1, none⟩) (.inl rfl) (.int .i64 (M : Int))
              rw [← hW2]
              exact ⟨h.os, h.tape, h.output, h.size, h.block⟩
            have e2 := (cell3 hRa).2.1
            have e3 := (cell3 qa).2.2
            have e4 := free3 hRa 1
            have HR9 := hide hR9
            have H7 := hide (And.intro hRb (And.intro qb (And.intro kb hGb)))
            have HW1 := hide hW1
            have HW2 := hide hW2
            have HM := hide hM
            clear hRb qb kb hGb hRa qa ka hGa hR9 q9 k9 hG9 hP9 hl2 hW1 hW2 hM hm2
            go_wp2_with fail
            rw [HW1.out]
            go_region
            rw [HW2.out]
            obtain ⟨⟨z0, z1, z2, z3, z4, z5⟩, ⟨z6, z7, z8, z9⟩, ⟨y6, y7⟩, kf, hG9⟩ := three_set H7.out.2.2.1 (.string L) (.int .i64 (dd : Int)) (.int .i64 (l2 : Int))
            obtain ⟨u0, u1, u2⟩ := cell3 H7.out.2.1
            obtain ⟨f0, f1, f2⟩ := cell3 kf
            have hRz := H7.out.1.gs hG9 (show ¬ b = w.heap.size by omega)
            have hGz : Gs (Me b) w (((W2.setCell ⟨w.heap.size, 0, none⟩ (.string L)).setCell ⟨w.heap.size, 1, none⟩ (.int .i64 (dd : Int))).setCell ⟨w.heap.size, 2, none⟩ (.int .i64 (l2 : Int))) := ((H7.out.2.2.2.set (a := ⟨w.heap.size, 0, none⟩) (.inr (Nat.le_refl _)) _).set (a := ⟨w.heap.size, 1, none⟩) (.inr (Nat.le_refl _)) _).set (a := ⟨w.heap.size, 2, none⟩) (.inr (Nat.le_refl _)) _
            have HE : Hid (SeqP s i n b w (.returned (.agg #[.string L, .int .i64 (dd : Int), .int .i64 (l2 : Int)])) (((W2.setCell ⟨w.heap.size, 0, none⟩ (.string L)).setCell ⟨w.heap.size, 1, none⟩ (.int .i64 (dd : Int))).setCell ⟨w.heap.size, 2, none⟩ (.int .i64 (l2 : Int)))) :=
              by
                refine ⟨⟨L, dd, l2⟩, rfl, hGz, .inl ⟨HST.out, M, ?_⟩⟩
                have hx : i9 = s.size ∧ x9 = true := by
                  rcases HPP.out.1.1 with ⟨j, h1, h3⟩ | ⟨_, _, h3⟩
                  · have h4 := mo_spec (Nat.le_refl _) h1
                    obtain ⟨a1, _, a3⟩ := (HR9.out).inj h3 hi9 h4.2.1
                    exact ⟨by omega, a3⟩
                  · obtain ⟨a1, _, a3⟩ := (HR9.out).inj h3 hi9 (Nat.le_refl _)
                    exact ⟨a1, a3⟩
                rw [hx.1, hx.2] at hRz
                exact hRz
            clear kf hG9 hRz hGz
            go_wp2
            exact bodyPost_ret (v := .agg #[.string L, .int .i64 (dd : Int), .int .i64 (l2 : Int)]) (by simp [results, Tryd.results72, go_sem, f0, f1, f2]) rfl HE.out
          · have HST : Hid ((∀ m1 j1, mo s p2 b0 = some (m1, j1) → stp s i n = some (⟨L, dd, m1 + 4⟩, j1)) ∧ (mo s p2 b0 = none → stp s i n = none)) := by
              obtain ⟨l3, l4, l5, l2, _⟩ := HM1.out
              have g1 := mo_spec (by omega) l3
              have hb : b0 = bt s i % 16 := by rw [HCB.out, l2]
              have hN := HN6.out
              have hLz : L.size = a := by rw [l4, ByteArray.size_extract]; omega
              have hd := HBD.out
              have e2 : p2 = j + a + 2 := by omega
              rw [l5] at hx3
              rw [e2, hb]
              refine ⟨fun m1 j1 h1 => ?_, fun h1 => st_bad2 l1 l3 (by omega) (by omega) (by omega) h1⟩
              rw [st_go l1 l3 (by omega) (by omega) (by omega) h1 (by rw [← hx3]; omega), ← l4, ← hx3]
            clear hx2 hx3
            have HS := hide (sum_any H8.out.1 HLE.out (show b0 ≤ 15 by rw [HCB.out]; omega) hs)
            go_wp2_with fail
            refine HS.out.mono ?_
            rintro _ w9 ⟨m2, rfl, hP9⟩
            obtain ⟨i9, x9, hi9, hR9⟩ : ∃ i9 x9, i9 ≤ s.size ∧ RD w9 b s i9 N x9 := by
              rcases hP9.1 with ⟨j, h1, h3⟩ | ⟨_, _, h3⟩
              · exact ⟨_, _, (mo_spec HLE.out h1).2.1, h3⟩
              · exact ⟨_, _, Nat.le_refl _, h3⟩
            have hm2 := hP9.2.1
            have q9 : QB w9 g L dd 0 := (hP9.2.2.block g (lt_of_block H8.out.2.1) (by show ¬ g = b; omega)).trans H8.out.2.1
            have k9 : QB w9 w.heap.size ⟨#[]⟩ 0 0 := (hP9.2.2.block _ (lt_of_block H8.out.2.2.1) (by show ¬ w.heap.size = b; omega)).trans H8.out.2.2.1
            have hG9 : Gs (Me b) w w9 := H8.out.2.2.2.trans hP9.2.2
            obtain ⟨l2, hl2⟩ : ∃ l2, l2 = m2 + 4 := ⟨_, rfl⟩
            have n1 : (m2 : Int) + 4 = (l2 : Int) := by omega
            have n2 : IntKind.i64.wrap (l2 : Int) = (l2 : Int) := by rw [IntKind.wrap_i64]; omega
            obtain ⟨W1, hW1⟩ : ∃ W1, w9.setCell ⟨g, 2, none⟩ (.int .i64 (l2 : Int)) = W1 := ⟨_, rfl⟩
            have qa : QB W1 g L dd l2 := by rw [← hW1]; exact heap_set_self (u := .int .i64 (l2 : Int)) q9
            have ka : QB W1 w.heap.size ⟨#[]⟩ 0 0 := by rw [← hW1]; exact (heap_setCell_other _ _ _ _ (by show w.heap.size ≠ g; omega)).trans k9
            have hRa : RD W1 b s i9 N x9 := by rw [← hW1]; exact (heap_setCell_other _ _ _ _ (by show b ≠ g; omega)).trans hR9
            have hGa : Gs (Me b) w W1 := by rw [← hW1]; exact hG9.set (a := ⟨g, 2, none⟩) (.inr (by show w.heap.size ≤ g; rw [HG.out]; omega)) _
            have e0 := (cell3 q9).2.2
            have e1 := free3 q9 2
            have HPP := hide (And.intro hP9 hl2)
            obtain ⟨M, hM⟩ : ∃ M, M = N + l2 := ⟨_, rfl⟩
            have n3 : (N : Int) + (l2 : Int) = (M : Int) := by omega
            have n4 : IntKind.i64.wrap (M : Int) = (M : Int) := by have := H6.out.2.2.2.2.1.2.1; have := HN6.out; rw [IntKind.wrap_i64]; omega
            obtain ⟨W2, hW2⟩ : ∃ W2, (W1.setCell ⟨b, 1, none⟩ (.int .i64 (M : Int))).drew = W2 := ⟨_, rfl⟩
            have hRb : RD W2 b s i9 M x9 := by rw [← hW2]; exact hRa.done M
            have qb : QB W2 g L dd l2 := by rw [← hW2]; exact (heap_setCell_other _ _ _ _ (by show g ≠ b; omega)).trans qa
            have kb : QB W2 w.heap.size ⟨#[]⟩ 0 0 := by rw [← hW2]; exact (heap_setCell_other _ _ _ _ (by show w.heap.size ≠ b; omega)).trans ka
            have hGb : Gs (Me b) w W2 := by
              have h := hGa.set (a := ⟨b, 1, none⟩) (.inl rfl) (.int .i64 (M : Int))
              rw [← hW2]
              exact ⟨h.os, h.tape, h.output, h.size, h.block⟩
            have e2 := (cell3 hRa).2.1
            have e3 := (cell3 qa).2.2
            have e4 := free3 hRa 1
            have HR9 := hide hR9
            have H7 := hide (And.intro hRb (And.intro qb (And.intro kb hGb)))
            have HW1 := hide hW1
            have HW2 := hide hW2
            have HM := hide hM
            clear hRb qb kb hGb hRa qa ka hGa hR9 q9 k9 hG9 hP9 hl2 hW1 hW2 hM hm2
            go_wp2_with fail
            rw [HW1.out]
            go_region
            rw [HW2.out]
            obtain ⟨⟨z0, z1, z2, z3, z4, z5⟩, ⟨z6, z7, z8, z9⟩, ⟨y6, y7⟩, kf, hG9⟩ := three_set H7.out.2.2.1 (.string L) (.int .i64 (dd : Int)) (.int .i64 (l2 : Int))
            obtain ⟨u0, u1, u2⟩ := cell3 H7.out.2.1
            obtain ⟨f0, f1, f2⟩ := cell3 kf
            have hRz := H7.out.1.gs hG9 (show ¬ b = w.heap.size by omega)
            have hGz : Gs (Me b) w (((W2.setCell ⟨w.heap.size, 0, none⟩ (.string L)).setCell ⟨w.heap.size, 1, none⟩ (.int .i64 (dd : Int))).setCell ⟨w.heap.size, 2, none⟩ (.int .i64 (l2 : Int))) := ((H7.out.2.2.2.set (a := ⟨w.heap.size, 0, none⟩) (.inr (Nat.le_refl _)) _).set (a := ⟨w.heap.size, 1, none⟩) (.inr (Nat.le_refl _)) _).set (a := ⟨w.heap.size, 2, none⟩) (.inr (Nat.le_refl _)) _
            have HE : Hid (SeqP s i n b w (.returned (.agg #[.string L, .int .i64 (dd : Int), .int .i64 (l2 : Int)])) (((W2.setCell ⟨w.heap.size, 0, none⟩ (.string L)).setCell ⟨w.heap.size, 1, none⟩ (.int .i64 (dd : Int))).setCell ⟨w.heap.size, 2, none⟩ (.int .i64 (l2 : Int)))) :=
              by
                rcases HPP.out.1.1 with ⟨j, h1, h3⟩ | ⟨h1, _, h3⟩
                · have h4 := mo_spec HLE.out h1
                  obtain ⟨a1, _, a3⟩ := (HR9.out).inj h3 hi9 h4.2.1
                  refine ⟨⟨L, dd, l2⟩, rfl, hGz, .inr ⟨j, ?_, ?_⟩⟩
                  · rw [HPP.out.2]
                    exact HST.out.1 _ _ h1
                  · show RD _ b s j (n + L.size + l2) false
                    rw [← HN6.out, ← HM.out, ← a1, ← a3]
                    exact hRz
                · obtain ⟨a1, _, a3⟩ := (HR9.out).inj h3 hi9 (Nat.le_refl _)
                  rw [a1, a3] at hRz
                  exact ⟨⟨L, dd, l2⟩, rfl, hGz, .inl ⟨HST.out.2 h1, M, hRz⟩⟩
            clear kf hG9 hRz hGz
            go_wp2
            exact bodyPost_ret (v := .agg #[.string L, .int .i64 (dd : Int), .int .i64 (l2 : Int)]) (by simp [results, Tryd.results72, go_sem, f0, f1, f2]) rfl HE.out
end
end Go.Proofs.YtgigiamnhjelmaaDoor

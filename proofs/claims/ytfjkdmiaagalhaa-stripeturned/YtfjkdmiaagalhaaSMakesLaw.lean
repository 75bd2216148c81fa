/-
  The walk of StripeMakes.
-/
import Derived.Test.YtfjkdmiaagalhaaRef6
import Derived.Deep.DeepCutAuto
namespace Go.Proofs.Ytfjkdmiaagalhaa
open Go.RowKit Go.Lib

/-- An array of two numbers in a block of its own. -/
def A2 (w : World) (b : Nat) (x y : Int) : Prop := w.heap[b]? = some (.cells #[.int .i64 x, .int .i64 y] 22 (0, 0))
section
variable {w w' : World} {b : Nat} {x y : Int}
theorem A2.lt (h : A2 w b x y) : b < w.heap.size := lt_of_block h
theorem A2.cell0 (h : A2 w b x y) : w.cell? ⟨b, 0, none⟩ = some (.int .i64 x) := by rw [cell_of_row w b 0 _ _ _ h]; rfl
theorem A2.cell1 (h : A2 w b x y) : w.cell? ⟨b, 1, none⟩ = some (.int .i64 y) := by rw [cell_of_row w b 1 _ _ _ h]; rfl
theorem A2.of_block (h : A2 w b x y) (hb : w'.heap[b]? = w.heap[b]?) : A2 w' b x y := hb.trans h
theorem A2.below (h : A2 w b x y) (ht : Below w.heap.size w w') : A2 w' b x y := h.of_block (ht.block b h.lt)
theorem A2.new (w : World) (x y : Int) : A2 (w.alloc (.cells #[.int .i64 x, .int .i64 y] 22)) w.heap.size x y := heap_alloc_new w _
theorem A2.gof (h : A2 w b x y) {f : Nat} (hF : F w f) (hg : w.grownBy w' (some f)) : A2 w' b x y := by
  refine h.of_block (hg.block b h.lt (by
    intro e
    simp only [Option.some.injEq] at e
    subst e
    unfold A2 at h
    rcases hF with x | ⟨_, _, x, _⟩ <;> (unfold FB at x; rw [h] at x; simp at x)))
theorem RQ.gof {b g k m : Nat} (h : RQ w b g k m) {f : Nat} (hF : F w f) (hg : w.grownBy w' (some f)) : RQ w' b g k m := by
  refine ⟨h.pl.of_block (hg.block b h.pl.lt (by
    intro e
    simp only [Option.some.injEq] at e
    subst e
    have y := h.pl
    unfold RP at y
    rcases hF with x | ⟨_, _, x, _⟩ <;> (unfold FB at x; rw [y] at x; simp at x))), h.kb.of_block (hg.block g h.kb.lt (by
    intro e
    simp only [Option.some.injEq] at e
    subst e
    obtain ⟨Z, y⟩ := h.kb
    rcases hF with x | ⟨_, _, x, _⟩ <;> (unfold FB at x; rw [y] at x; simp at x)))⟩
end
set_option maxRecDepth 100000 in
theorem spoil_nil (w : World) : Calls Try.prog 16 #[.slice none 0 0] w fun e w' => e = .returned (.tuple #[]) ∧ w' = w := by
  go_enter Try.func16, Try.ntmps16
  go_wp2
  go_loopw [2] (fun z wr => z = .int .i64 0 ∧ wr = w) (fun _ _ => 0)
  case atStart => exact ⟨rfl, rfl⟩
  case round =>
    obtain ⟨rfl, rfl⟩ := hrel
    go_wp2
    go_end0
    exact ⟨rfl, rfl⟩

set_option maxRecDepth 100000 in
set_option maxHeartbeats 3200000 in
theorem smakes_walk (k m long : Int) (s : ByteArray) (hm : m ≤ 9223372036854775807) (w : World) :
    Calls Try.prog 3 #[.agg #[.int .i64 k, .int .i64 m], .string s, .int .i64 long] w fun e w' => e = .returned (.bool true) ∧ Below w.heap.size w w' := by
  obtain ⟨W, hW⟩ : ∃ W, W = w.alloc (.cells #[.int .i64 k, .int .i64 m] 22) := ⟨_, rfl⟩
  have HA : Hid (A2 W w.heap.size k m) := by rw [hW]; exact A2.new w k m
  have HB : Hid (Below w.heap.size w W) := by rw [hW]; exact below_alloc (Below.refl _ _) _
  have HM := hide hm
  have HW := hide hW
  clear hW hm
  go_enter Try.func3, Try.ntmps3
  go_upto_region 1 with fail
  rw [← HW.out]
  go_cut [47] (fun u wx => wx = W ∧ (u = .bool true ∨ (u = .bool false ∧ ¬ (12 < k ∧ k ≤ 255) ∧ ¬ (8 < m ∧ m ≤ 255) ∧ ¬ (500 < s.size ∧ s.size ≤ 65536))))
  case first =>
    have c0 := HA.out.cell0
    have c1 := HA.out.cell1
    have T : ∀ P Q : Prop, [Decidable P] → [Decidable Q] → ¬ (P ∧ Q) → ¬ P ∨ (P ∧ ¬ Q) := fun P Q _ _ h => by
      by_cases p : P
      · exact .inr ⟨p, fun q => h ⟨p, q⟩⟩
      · exact .inl p
    by_cases hk : 12 < k ∧ k ≤ 255
    · obtain ⟨h1, h2⟩ := hk
      clear T
      go_wp2
      go_meet
      case rel => exact ⟨rfl, .inl rfl⟩
    have hk' := T _ _ hk
    have HKk := hide hk
    clear hk
    by_cases hm : 8 < m ∧ m ≤ 255
    · obtain ⟨h3, h4⟩ := hm
      clear T
      rcases hk' with h1 | ⟨h1, h2⟩
      all_goals
        go_wp2
        go_meet
        case rel => exact ⟨rfl, .inl rfl⟩
    have hm' := T _ _ hm
    have HMm := hide hm
    clear hm
    by_cases hs : (500 : Int) < (s.size : Int) ∧ (s.size : Int) ≤ 65536
    · obtain ⟨h5, h6⟩ := hs
      clear T
      rcases hk' with h1 | ⟨h1, h2⟩ <;> rcases hm' with h3 | ⟨h3, h4⟩
      all_goals
        go_wp2
        go_meet
        case rel => exact ⟨rfl, .inl rfl⟩
    have hs' := T _ _ hs
    have HSs : Hid (¬ (500 < s.size ∧ s.size ≤ 65536)) := fun h => hs (by omega)
    clear hs T
    rcases hk' with h1 | ⟨h1, h2⟩ <;> rcases hm' with h3 | ⟨h3, h4⟩ <;> rcases hs' with h5 | ⟨h5, h6⟩
    all_goals
      go_wp2
      go_meet
      case rel => exact ⟨rfl, .inr ⟨by first | rfl | simp [*], HKk.out, HMm.out, HSs.out⟩⟩
  case rest =>
  obtain ⟨hw, hu⟩ := hcut
  subst hw
  rcases hu with rfl | ⟨rfl, hk, hm, hs⟩
  · go_wp2_with fail
    refine (works_any _).mono ?_
    rintro e w1 ⟨rfl, hb1⟩
    go_wp2
    go_ret
    exact ⟨rfl, below_step HB.out hb1⟩
  have a0 := HA.out.cell0
  have a1 := HA.out.cell1
  by_cases hv : 1 ≤ k ∧ 0 ≤ m ∧ k ≤ 255 - m
  case neg =>
    have hbad : k < 1 ∨ m < 0 ∨ 255 - m < k := by omega
    have HBad := hide hbad
    clear hbad hv hk hm hs
    go_wp2_with fail
    refine (snew_bad k m HM.out HBad.out).mono ?_
    rintro e w1 ⟨rfl, hb1⟩
    have HA1 := hide (HA.out.below hb1)
    have HB1 := hide (below_step HB.out hb1)
    clear a0 a1 hb1
    have a0 := HA1.out.cell0
    have a1 := HA1.out.cell1
    go_wp2_with fail
    refine (rnew_bad k m HBad.out).mono ?_
    rintro e w2 ⟨rfl, hb2⟩
    have HB2 := hide (below_step HB1.out hb2)
    clear a0 a1 hb2
    go_wp2_with fail
    refine (works_any _).mono ?_
    rintro e w3 ⟨rfl, hb3⟩
    have HB3 := hide (below_step HB2.out hb3)
    clear hb3
    go_wp2
    go_ret
    exact ⟨rfl, HB3.out⟩
  case pos =>
  obtain ⟨k', rfl⟩ : ∃ n : Nat, k = n := ⟨k.toNat, by omega⟩
  obtain ⟨m', rfl⟩ : ∃ n : Nat, m = n := ⟨m.toNat, by omega⟩
  have k1 : 1 ≤ k' := by omega
  have km : k' + m' ≤ 255 := by omega
  have HKM := hide (And.intro k1 km)
  have HSS := hide hs
  clear hv hk hm hs k1 km
  go_wp2_with fail
  refine (snew_ok HKM.out.1 HKM.out.2).mono ?_
  rintro e w1 ⟨b, sb, f1, f2, g, rfl, hP, hf2, hb1⟩
  have HA1 := hide (HA.out.below hb1)
  have HB1 := hide (below_step HB.out hb1)
  have HP1 := hide hP
  have HF2 := hide (Nat.le_trans HB.out.size hf2)
  clear a0 a1 hb1 hP hf2
  have a0 := HA1.out.cell0
  have a1 := HA1.out.cell1
  go_wp2_with fail
  refine (rnew_ok HKM.out.1 HKM.out.2).mono ?_
  rintro e w2 ⟨rb, rg, rfl, hR, hb2⟩
  have HA2 := hide (HA1.out.below hb2)
  have HB2 := hide (below_step HB1.out hb2)
  have HP2 := hide (HP1.out.below hb2)
  have HR2 := hide hR
  clear a0 a1 hb2 hR HA1 HB1 HP1
  go_wp2_with fail
  refine (works_any _).mono ?_
  rintro e w3 ⟨rfl, hb3⟩
  have HA3 := hide (HA2.out.below hb3)
  have HB3 := hide (below_step HB2.out hb3)
  have HP3 := hide (HP2.out.below hb3)
  have HR3 := hide (HR2.out.below hb3)
  clear hb3 HA2 HB2 HP2 HR2
  go_wp2_with fail
  refine (shape_any HP3.out).mono ?_
  rintro e w4 ⟨rfl, hb4⟩
  have HA4 := hide (HA3.out.below hb4)
  have HB4 := hide (below_step HB3.out hb4)
  have HP4 := hide (HP3.out.below hb4)
  have HR4 := hide (HR3.out.below hb4)
  clear hb4 HA3 HB3 HP3 HR3
  go_wp2_with fail
  refine (each_any HP4.out HKM.out.1 (by have := HKM.out; omega) long).mono ?_
  rintro e w5 ⟨rfl, hb5⟩
  have HA5 := hide (HA4.out.below hb5)
  have HB5 := hide (below_step HB4.out hb5)
  have HP5 := hide (HP4.out.below hb5)
  have HR5 := hide (HR4.out.below hb5)
  clear hb5 HA4 HB4 HP4 HR4
  go_wp2_with fail
  refine (reach_any HR5.out HKM.out.1 (by have := HKM.out; omega) long).mono ?_
  rintro e w6 ⟨rfl, hb6⟩
  have HA6 := hide (HA5.out.below hb6)
  have HB6 := hide (below_step HB5.out hb6)
  have HP6 := hide (HP5.out.below hb6)
  have HR6 := hide (HR5.out.below hb6)
  clear hb6 HA5 HB5 HP5 HR5
  generalize (eachR k' long).1 = r1
  generalize (eachR k' long).2 = r2
  by_cases hs : s.size ≤ 65536
  · go_wp2_with fail
    refine (split_ok HP6.out HKM.out.1 HKM.out.2 hs).mono ?_
    rintro e w7 ⟨q, rfl, hS, hq, hP7, hg7⟩
    have HA7 := hide (HA6.out.gof HP6.out.fl hg7)
    have HB7 := hide (below_gb HB6.out hg7 HF2.out HB6.out.size)
    have HR7 := hide (HR6.out.gof HP6.out.fl hg7)
    have HS7 := hide hS
    have HQ := hide (Nat.le_trans HB6.out.size hq)
    clear hS hq hP7 hg7 HA6 HB6 HP6 HR6
    go_wp2_with fail
    refine (rsplit_ok HR7.out HKM.out.1 HKM.out.2 s hs).mono ?_
    rintro e w8 ⟨a, c, rfl, hT, hb8⟩
    have HA8 := hide (HA7.out.below hb8)
    have HB8 := hide (below_step HB7.out hb8)
    have HS8 := hide (HS7.out.below hb8 (Nat.le_refl _))
    have HT8 := hide hT
    clear hT hb8 HA7 HB7 HR7 HS7
    have a0 := HA8.out.cell0
    have a1 := HA8.out.cell1
    go_wp2_with fail
    refine (Fd.same_any (HS8.out.tx _) HT8.out (by have := HKM.out; omega)).mono ?_
    rintro e w9 ⟨rfl, mm, rfl⟩
    have HB9 := hide (below_drew HB8.out mm)
    have HS9 : Hid (SB (w8.drewN mm) q (k' + m') (shd k' s)) := HS8.out
    clear a0 a1 HA8 HB8 HS8 HT8
    go_wp2_with fail
    refine (spoil_any HS9.out (by have := HKM.out; omega)).mono ?_
    rintro e w10 ⟨rfl, hg10⟩
    have HB10 := hide (below_gb HB9.out hg10 HQ.out HB9.out.size)
    clear hg10 HB9 HS9
    go_wp2
    go_ret
    exact ⟨rfl, HB10.out⟩
  · go_wp2_with fail
    refine (split_long (by omega)).mono ?_
    rintro e w7 ⟨rfl, hw7⟩
    subst w7
    go_wp2_with fail
    refine (rsplit_long (by omega)).mono ?_
    rintro e w8 ⟨rfl, hw8⟩
    subst w8
    have a0 := HA6.out.cell0
    have a1 := HA6.out.cell1
    go_wp2_with fail
    refine (Fd.same_any (n := 0) (X := fun _ => ⟨#[]⟩) ⟨_, _, rfl, .inl rfl⟩ ⟨_, _, rfl, .inl rfl⟩ (by decide)).mono ?_
    rintro e w9 ⟨rfl, mm, rfl⟩
    have HB9 := hide (below_drew HB6.out mm)
    clear a0 a1 HA6 HB6 HP6 HR6
    go_wp2_with fail
    refine (spoil_nil _).mono ?_
    rintro e w10 ⟨rfl, hw10⟩
    subst w10
    go_wp2
    go_ret
    exact ⟨rfl, HB9.out⟩
end Go.Proofs.Ytfjkdmiaagalhaa

/-
  The walk of StripeJoins.
-/
import Derived.Test.YtfjkdmiaagalhaaGreatJKit
import Derived.Deep.DeepCutAuto
import Derived.Deep.CutBlock
namespace Go.Proofs.YtfjkdmiaagalhaaGreat
open Go.RowKit Go.Lib

set_option maxRecDepth 100000 in
set_option maxHeartbeats 3200000 in
theorem joins_walk (x y u z : Int) {v : Value} {n : Nat} {I : Nat → Int} {X : Nat → ByteArray} (w : World) (hy : y ≤ 9223372036854775807) (hn : n ≤ maxLen) (hP : PX w v n I X) (hXs : ∀ i, i < n → (X i).size ≤ 9223372036854775807) :
    Calls Tryz.prog 3 #[.agg #[.int .i64 x, .int .i64 y], v, .agg #[.int .i64 u, .int .i64 z]] w fun e w' => e = .returned (.bool true) ∧ Below w.heap.size w w' := by
  obtain ⟨W, hW⟩ : ∃ W, W = (w.alloc (.cells #[.int .i64 x, .int .i64 y] 22)).alloc (.cells #[.int .i64 u, .int .i64 z] 22) := ⟨_, rfl⟩
  have hbl : Below (w.heap.size + 1) (w.alloc (.cells #[.int .i64 x, .int .i64 y] 22)) W := by
    rw [hW]
    have := below_alloc (Below.refl (w.alloc (.cells #[.int .i64 x, .int .i64 y] 22)).heap.size (w.alloc (.cells #[.int .i64 x, .int .i64 y] 22))) (.cells #[.int .i64 u, .int .i64 z] 22)
    simpa using this
  have HA : Hid (W.cell? ⟨w.heap.size, 0, none⟩ = some (.int .i64 x) ∧ W.cell? ⟨w.heap.size, 1, none⟩ = some (.int .i64 y)) := ⟨(hbl.cell (p := ⟨w.heap.size, 0, none⟩) (by show w.heap.size < w.heap.size + 1; omega)).trans (A2.new w x y).cell0, (hbl.cell (p := ⟨w.heap.size, 1, none⟩) (by show w.heap.size < w.heap.size + 1; omega)).trans (A2.new w x y).cell1⟩
  have hA2 : A2 W (w.heap.size + 1) u z := by
    have := A2.new (w.alloc (.cells #[.int .i64 x, .int .i64 y] 22)) u z
    rw [hW]
    simpa using this
  have HB : Hid (Below w.heap.size w W) := by rw [hW]; exact below_alloc (below_alloc (Below.refl _ _) _) _
  have HZ : Hid (w.heap.size + 1 < W.heap.size) := by rw [hW]; show w.heap.size + 1 < ((w.heap.push _).push _).size; simp
  have HA2 := hide (And.intro hA2.cell0 hA2.cell1)
  have HAx : Hid (∀ wx, Below W.heap.size W wx → wx.cell? ⟨w.heap.size, 0, none⟩ = some (.int .i64 x) ∧ wx.cell? ⟨w.heap.size, 1, none⟩ = some (.int .i64 y)) := fun wx h => ⟨(h.cell (p := ⟨w.heap.size, 0, none⟩) (by have := HZ.out; show w.heap.size < _; omega)).trans HA.out.1, (h.cell (p := ⟨w.heap.size, 1, none⟩) (by have := HZ.out; show w.heap.size < _; omega)).trans HA.out.2⟩
  have HAu : Hid (∀ wx, Below W.heap.size W wx → wx.cell? ⟨w.heap.size + 1, 0, none⟩ = some (.int .i64 u) ∧ wx.cell? ⟨w.heap.size + 1, 1, none⟩ = some (.int .i64 z)) := fun wx h => ⟨(h.cell (p := ⟨w.heap.size + 1, 0, none⟩) HZ.out).trans HA2.out.1, (h.cell (p := ⟨w.heap.size + 1, 1, none⟩) HZ.out).trans HA2.out.2⟩
  have HPX := hide hP
  have HXS := hide hXs
  have HNN := hide hn
  have HY := hide hy
  have HFEW : Hid (Calls Tryz.prog 4 #[v] W fun e w' => e = .returned (.bool (fewB n X)) ∧ Below W.heap.size W w') := few_any hn (hP.below HB.out (Nat.le_refl _)) hXs
  have HW := hide hW
  clear hW hA2 hbl hP hXs hn hy
  go_enter Tryz.func3, Tryz.ntmps3
  go_upto_region 1 with fail
  rw [← HW.out]
  go_cut [45] (fun q wx => Below W.heap.size W wx ∧ (q = .bool true ∨ (q = .bool false ∧ ¬ (12 < x ∧ x ≤ 255) ∧ fewB n X = true)))
  case first =>
    have c0 := HA.out.1
    have c1 := HA.out.2
    have T : ∀ P Q : Prop, [Decidable P] → [Decidable Q] → ¬ (P ∧ Q) → ¬ P ∨ (P ∧ ¬ Q) := fun P Q _ _ h => by
      by_cases p : P
      · exact .inr ⟨p, fun q => h ⟨p, q⟩⟩
      · exact .inl p
    by_cases hk : 12 < x ∧ x ≤ 255
    · obtain ⟨h1, h2⟩ := hk
      clear T
      go_wp2
      go_meet
      case rel => exact ⟨Below.refl _ _, .inl rfl⟩
    have hk' := T _ _ hk
    have HKk := hide hk
    clear hk
    by_cases hm : 8 < y ∧ y ≤ 255
    · obtain ⟨h3, h4⟩ := hm
      clear T
      rcases hk' with h1 | ⟨h1, h2⟩
      all_goals
        go_wp2
        go_meet
        case rel => exact ⟨Below.refl _ _, .inl rfl⟩
    have hm' := T _ _ hm
    clear hm T
    rcases hk' with h1 | ⟨h1, h2⟩ <;> rcases hm' with h3 | ⟨h3, h4⟩
    all_goals
      go_wp2_with fail
      refine HFEW.out.mono ?_
      rintro e w1 ⟨rfl, hb1⟩
      have HB1 := hide hb1
      clear hb1
      cases hfb : fewB n X with
      | true =>
        go_wp2
        go_meet
        case rel => exact ⟨HB1.out, .inr ⟨by first | rfl | simp [*], HKk.out, hfb⟩⟩
      | false =>
        go_wp2
        go_meet
        case rel => exact ⟨HB1.out, .inl (by first | rfl | simp [*])⟩
  case rest =>
  obtain ⟨hw, hu⟩ := hcut
  have HB0 := hide hw
  clear hw
  rcases hu with rfl | ⟨rfl, hk, hf⟩
  · go_wp2_with fail
    refine (works_any _).mono ?_
    rintro e w1 ⟨rfl, hb1⟩
    have HE := hide (below_step (below_step HB.out HB0.out) hb1)
    clear hb1
    go_wp2
    go_ret
    exact ⟨rfl, HE.out⟩
  obtain ⟨hn20, hX3⟩ := fewB_true hf
  have HX3 := hide hX3
  clear hf hX3 HFEW HW HA HA2 HXS
  obtain ⟨a0, a1⟩ := HAx.out _ HB0.out
  by_cases hv : 1 ≤ x ∧ 0 ≤ y ∧ x ≤ 255 - y
  case neg =>
    have HBad : Hid (x < 1 ∨ y < 0 ∨ 255 - y < x) := by
      show _ ∨ _
      omega
    clear hv hk
    go_wp2_with fail
    refine (snew_bad x y HY.out HBad.out).mono ?_
    rintro e w1 ⟨rfl, hb1⟩
    have HB1 := hide (below_step HB0.out hb1)
    clear a0 a1 hb1
    obtain ⟨a0, a1⟩ := HAx.out _ HB1.out
    go_wp2_with fail
    refine (rnew_bad x y HBad.out).mono ?_
    rintro e w2 ⟨rfl, hb2⟩
    have HB2 := hide (below_step HB1.out hb2)
    clear a0 a1 hb2
    go_wp2_with fail
    refine (works_any _).mono ?_
    rintro e w3 ⟨rfl, hb3⟩
    have HB3 := hide (below_step HB.out (below_step HB2.out hb3))
    clear hb3
    go_wp2
    go_ret
    exact ⟨rfl, HB3.out⟩
  case pos =>
  obtain ⟨k, rfl⟩ : ∃ n : Nat, x = n := ⟨x.toNat, by omega⟩
  obtain ⟨m, rfl⟩ : ∃ n : Nat, y = n := ⟨y.toNat, by omega⟩
  have HKM : Hid (1 ≤ k ∧ k + m ≤ 255 ∧ k ≤ 12) := ⟨by omega, by omega, by omega⟩
  clear hv hk HY
  go_wp2_with fail
  refine (snew_ok2 HKM.out.1 HKM.out.2.1).mono ?_
  rintro e w1 ⟨b, sb, f1, f2, g, rfl, hP, hf1, hf2, hb1⟩
  have HB1 := hide (below_step HB0.out hb1)
  have HP1 := hide hP
  have HF := hide (And.intro (Nat.le_trans HB0.out.size hf1) (Nat.le_trans HB0.out.size hf2))
  clear a0 a1 hb1 hP hf2 hf1 HB0
  obtain ⟨a0, a1⟩ := HAx.out _ HB1.out
  go_wp2_with fail
  refine (rnew_ok HKM.out.1 HKM.out.2.1).mono ?_
  rintro e w2 ⟨rb, rg, rfl, hR, hb2⟩
  have HB2 := hide (below_step HB1.out hb2)
  have HP2 := hide (HP1.out.below hb2)
  have HR2 := hide hR
  clear a0 a1 hb2 hR HB1 HP1 HAx
  go_wp2_with fail
  refine (works_any _).mono ?_
  rintro e w3 ⟨rfl, hb3⟩
  have HB3 := hide (below_step HB2.out hb3)
  have HP3 := hide (HP2.out.below hb3)
  have HR3 := hide (HR2.out.below hb3)
  clear hb3 HB2 HP2 HR2
  obtain ⟨al, cl, rfl, hPX⟩ := HPX.out
  have HL := hide hPX
  clear hPX
  go_wp2
  go_loopw [13, 11, 12] (fun q vo vk wr => ∃ i : Nat, i ≤ n ∧ q = .int .i64 i ∧ JK w3 wr vo vk i I X) (fun q _ _ _ => n - (RowKit.intOf q).toNat)
  case atStart => exact ⟨0, Nat.zero_le _, rfl, ⟨IP.nil _ _ _ _, Rr.IP.nil _ _ _ _, Below.refl _ _⟩⟩
  case round =>
    obtain ⟨i, hi, rfl, hJ⟩ := hrel
    by_cases hlt : i < n
    · obtain ⟨bl, off, rfl, hbl, hcell⟩ := HL.out.resolve_left (by omega)
      obtain ⟨v', w', h1, hB1, v2, w2, h2, hJ'⟩ := hJ.step (by omega)
      have HJ' := hide hJ'
      have HCE : Hid (∀ wx, Below w3.heap.size w3 wx → wx.cell? ⟨bl, off + i * 2, none⟩ = some (.int .i64 (I i)) ∧ wx.cell? ⟨bl, off + i * 2 + 1, none⟩ = some (.string (X i))) := fun wx h => by
        have h9 := below_step HB.out (below_step HB3.out h)
        exact ⟨(h9.cell (p := ⟨bl, off + i * 2, none⟩) hbl).trans (hcell i hlt).1, (h9.cell (p := ⟨bl, off + i * 2 + 1, none⟩) hbl).trans (hcell i hlt).2⟩
      obtain ⟨p1, p2⟩ := HCE.out _ hJ.be
      have SD := hide (HCE.out _ hB1.drew)
      have SA : Hid (∀ o, (w'.alloc o).drew.cell? ⟨bl, off + i * 2, none⟩ = some (.int .i64 (I i)) ∧ (w'.alloc o).drew.cell? ⟨bl, off + i * 2 + 1, none⟩ = some (.string (X i))) := fun o => HCE.out _ (below_alloc hB1 o).drew
      have SE := hide (HCE.out _ hJ'.be)
      have b1 : (i : Int) < (n : Int) := by omega
      have b0 : (0 : Int) ≤ (i : Int) := by omega
      clear HCE hJ hJ' hB1 hcell
      generalize I i = ii at *
      generalize X i = xx at *
      go_upto_region 15 with (at_builtin; refine Lib.wpList_append_run _ rfl _ _ _ _ rfl _ _ rfl rfl _ _ h1 ?_)
      clear p1 p2 h1
      go_region_held_law (fun wx => wx.cell? ⟨bl, off + i * 2, none⟩ = some (.int .i64 ii) ∧ wx.cell? ⟨bl, off + i * 2 + 1, none⟩ = some (.string xx)) (first | with_reducible exact SD.out | with_reducible exact SA.out _ | with_reducible exact SE.out)
        (first
          | (refine step_append_run rfl _ _ 33 33 rfl _ _ rfl rfl _ _ h2 ?_))
      all_goals
        go_wp2
        exact ⟨⟨i + 1, by omega, by go_num, HJ'.out⟩, by simp [RowKit.intOf]; omega⟩
    · obtain rfl : i = n := by omega
      have b1 : ¬ ((i : Int) < (i : Int)) := by omega
      have HJ : Hid (JS W wr b sb f1 f2 g rb rg k m w3.heap.size u11 u12 i I X) := ⟨HP3.out.below hJ.be, HR3.out.below hJ.be, hJ.io, hJ.ik, below_step HB3.out hJ.be⟩
      have hm9 : i ≤ maxLen := by unfold maxLen; omega
      have HM9 := hide hm9
      have HX9 : Hid (∀ q, q < i → (X q).size ≤ 9223372036854775807) := fun q hq => by have := HX3.out q hq; omega
      have HX8 : Hid (∀ q, q < i → (X q).size ≤ 100000) := fun q hq => by have := HX3.out q hq; omega
      obtain ⟨ao, co, rfl⟩ := hJ.io.shp
      obtain ⟨ak, ck, rfl⟩ := hJ.ik.shp
      obtain ⟨c0, c1⟩ := HAu.out _ HJ.out.be
      clear hJ hm9 HP3 HR3 HB3
      go_wp2_with fail
      refine (pjoin_all HJ.out.pp HKM.out.1 HKM.out.2.1 HM9.out HJ.out.io.px HX9.out u).mono ?_
      rintro e w4 ⟨rfl, hP4, hg4⟩
      have HJ4 := hide (HJ.out.gs HF.out.1 HF.out.2 hP4 hg4)
      clear hP4 hg4 HJ c0 c1
      obtain ⟨c0, c1⟩ := HAu.out _ HJ4.out.be
      go_wp2_with fail
      refine (rjoin_all HJ4.out.rq HKM.out.1 HKM.out.2.2 HKM.out.2.1 (by omega) HJ4.out.ik.px HX8.out u).mono ?_
      rintro e w5 ⟨rfl, hb5⟩
      have HJ5 := hide (HJ4.out.bel hb5)
      clear hb5 HJ4 c0 c1
      obtain ⟨c0, c1⟩ := HAu.out _ HJ5.out.be
      go_wp2_with fail
      refine (pshard_all HJ5.out.pp HKM.out.1 HKM.out.2.1 HM9.out HJ5.out.io.px HX9.out u z).mono ?_
      rintro e w6 ⟨rfl, hP6, hg6⟩
      have HJ6 := hide (HJ5.out.gs HF.out.1 HF.out.2 hP6 hg6)
      clear hP6 hg6 HJ5 c0 c1
      obtain ⟨c0, c1⟩ := HAu.out _ HJ6.out.be
      go_wp2_with fail
      refine (rshard_all HJ6.out.rq HKM.out.1 HKM.out.2.2 HKM.out.2.1 (by omega) HJ6.out.ik.px HX8.out u z).mono ?_
      rintro e w7 ⟨rfl, hb7⟩
      have HJ7 := hide (HJ6.out.bel hb7)
      clear hb7 HJ6 c0 c1
      generalize jnS k m u I X i = S1 at *
      generalize jnC k m u I X i = C1 at *
      generalize shS k m u z I X i = S2 at *
      generalize shC k m u z I X i = C2 at *
      go_wp2
      go_loopw [22] (fun q wx => ∃ t : Nat, t ≤ i ∧ q = .int .i64 t ∧ Below w7.heap.size w7 wx) (fun q _ => i - (RowKit.intOf q).toNat)
      case atStart => exact ⟨0, Nat.zero_le _, rfl, Below.refl _ _⟩
      case round =>
        obtain ⟨t, ht, rfl, hB9⟩ := hrel
        have HJ9 := hide (HJ7.out.bel hB9)
        have HB9 := hide hB9
        clear hB9
        by_cases hlt : t < i
        · obtain ⟨bl, off, rfl, hbl, hcell⟩ := HL.out.resolve_left (by omega)
          obtain ⟨_, _, e9, h0 | ⟨g2, o2, ea2, hg2, hc2⟩⟩ := HJ9.out.io.px
          · omega
          simp only [Value.slice.injEq] at e9
          obtain ⟨e91, _, e93⟩ := e9
          subst e91 e93
          subst ea2
          have hbw := below_step HB.out HJ9.out.be
          have p1 := (hbw.cell (p := ⟨bl, off + t * 2, none⟩) hbl).trans (hcell t hlt).1
          have p2 := (hbw.cell (p := ⟨bl, off + t * 2 + 1, none⟩) hbl).trans (hcell t hlt).2
          obtain ⟨p3, p4⟩ := hc2 t hlt
          have b2 : (t : Int) < (i : Int) := by omega
          have b0 : (0 : Int) ≤ (t : Int) := by omega
          have HNX : Hid (∀ wy, Below wr.heap.size wr wy → Below w7.heap.size w7 wy) := fun wy h => below_step HB9.out h
          clear hbw hcell hc2 HJ9 HB9
          generalize I t = ii at *
          generalize X t = xx at *
          go_wp2
          go_quiet (fail)
          go_wp2
          exact ⟨⟨t + 1, by omega, by go_num, HNX.out _ (below_drew (Below.refl _ _) _)⟩, by simp [RowKit.intOf]; omega⟩
        · obtain rfl : t = i := by omega
          have HE := hide (below_step HB.out HJ9.out.be)
          clear HJ9 HB9
          go_wp2
          go_ret
          exact ⟨rfl, HE.out⟩
end Go.Proofs.YtfjkdmiaagalhaaGreat

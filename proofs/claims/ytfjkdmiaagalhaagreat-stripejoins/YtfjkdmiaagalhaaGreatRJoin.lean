/-
  The document's Join of whatever parts.
-/
import Derived.Test.YtfjkdmiaagalhaaGreatRJKit
import Derived.Test.YtfjkdmiaagalhaaGreatRefL
import Derived.BigQuiet
namespace Go.Proofs.YtfjkdmiaagalhaaGreat
open Go.RowKit Go.Lib

set_option maxRecDepth 100000 in
set_option maxHeartbeats 3200000 in
theorem rjoin_all {w : World} {b g k m : Nat} (h : RQ w b g k m) (k1 : 1 ≤ k) (k12 : k ≤ 12) (km : k + m ≤ 255) {vp : Value} {n : Nat} {I : Nat → Int} {X : Nat → ByteArray} (hn : n ≤ 1000) (hP : PX w vp n I X)
    (hXs : ∀ i, i < n → (X i).size ≤ 100000) (long : Int) :
    Calls Tryz.prog 9 #[.pointer (some ⟨b, 0, none⟩), vp, .int .i64 long] w fun e w' => e = .returned (.tuple #[.string (jnS k m long I X n), .int .i64 (jnC k m long I X n)]) ∧ Below w.heap.size w w' := by
  obtain ⟨a, c, rfl, hP⟩ := hP
  have HP := hide h
  have HX := hide hP
  have HS := hide hXs
  have HK := hide (And.intro k1 (And.intro k12 km))
  obtain ⟨C, hC⟩ : ∃ C, C = jnC k m long I X n := ⟨_, rfl⟩
  obtain ⟨S, hS⟩ : ∃ S, S = jnS k m long I X n := ⟨_, rfl⟩
  rw [← hC, ← hS]
  have HCS := hide (And.intro hC hS)
  have hE : Hid (Calls Tryz.prog 19 #[.pointer (some ⟨b, 0, none⟩), .int .i64 long] w fun e w' => e = .returned (.tuple #[.int .i64 (eachR k long).1, .int .i64 (eachR k long).2]) ∧ Below w.heap.size w w') := reach_any h k1 (by omega) long
  clear h hP hXs hC hS
  go_enter Tryz.func9, Tryz.ntmps9
  go_wp2_with fail
  refine hE.out.mono ?_
  rintro e w1 ⟨rfl, hb1⟩
  have HB1 := hide hb1
  clear hb1 hE
  by_cases hlong : long < 0 ∨ 65536 < long
  · have hf : faultV k m long I X n = 1 := by rw [faultV, if_pos hlong]
    obtain ⟨e1, e2⟩ := jn_fault hf (by decide)
    have hC := HCS.out.1.trans e1
    have hS := HCS.out.2.trans e2
    subst hC hS
    rw [eachR, if_pos hlong]
    clear hf e1 e2 HCS hlong
    go_wp2
    exact bodyPost_ret (v := .tuple #[.string ⟨#[]⟩, .int .i64 1]) (by simp [results, Tryz.results9, go_sem]) rfl ⟨rfl, HB1.out⟩
  rw [eachR, if_neg hlong]
  obtain ⟨ea, hea⟩ : ∃ ea, ea = eachN k long.toNat := ⟨_, rfl⟩
  have hle : ea ≤ 65536 := by rw [hea]; have := eachN_le (k := k) (n := long.toNat) k1; omega
  have HFV : Hid (faultV k m long I X n = flt (k + m) ea I X n) := by
    show faultV k m long I X n = _
    rw [faultV, if_neg hlong, hea]
  rw [← hea]
  have HEA := hide hea
  have HLG := hide hlong
  clear hea hlong
  have hwr : IntKind.i64.wrap ((k : Int) + (m : Int)) = (k : Int) + (m : Int) := wraps_i64 _ (by omega) (by omega)
  go_wp2
  go_loopw [10] (fun z wr => ∃ j : Nat, j ≤ n ∧ z = .int .i64 j ∧ flt (k + m) ea I X j = 0 ∧ Below w.heap.size w wr) (fun z _ => n - (RowKit.intOf z).toNat)
  case atStart => exact ⟨0, Nat.zero_le _, rfl, rfl, HB1.out⟩
  case round =>
    obtain ⟨j, hj, rfl, hf, hB⟩ := hrel
    clear HB1
    have HB := hide hB
    have HF := hide hf
    clear hf
    by_cases hlt : j < n
    · obtain ⟨bl, off, rfl, hbl, hcell⟩ := HX.out.resolve_left (by omega)
      have p1 := (hB.cell (p := ⟨bl, off + j * 2, none⟩) hbl).trans (hcell j hlt).1
      have p2 := (hB.cell (p := ⟨bl, off + j * 2 + 1, none⟩) hbl).trans (hcell j hlt).2
      have c0 := (HP.out.below hB).pl.cell0
      have c1 := (HP.out.below hB).pl.cell1
      have b1 : (j : Int) < (n : Int) := by omega
      have b0 : (0 : Int) ≤ (j : Int) := by omega
      have hxs := HS.out j hlt
      obtain ⟨x, hx⟩ : ∃ x, x = I j := ⟨_, rfl⟩
      obtain ⟨Y, hY⟩ : ∃ Y, Y = X j := ⟨_, rfl⟩
      have HXY := hide (And.intro hx hY)
      rw [← hx] at p1
      rw [← hY] at p2 hxs
      have HR : Hid (∀ v : Int, bad1 (k + m) ea (I j) (X j) = v → v ≠ 0 → C = v ∧ S = ⟨#[]⟩) := fun v hv h0 => by
        have := jn_fault (HFV.out.trans ((flt_at hlt HF.out (by rw [hv]; exact h0)).trans hv)) h0
        exact ⟨HCS.out.1.trans this.1, HCS.out.2.trans this.2⟩
      clear hB hcell hx hY HCS
      by_cases hneg : x < 0
      · have hd : decide (x < 0) = true := decide_eq_true hneg
        obtain ⟨hC, hS⟩ := HR.out 1 (by rw [bad1, ← HXY.out.1, if_neg (by omega)]) (by decide)
        subst hC hS
        clear HR
        go_wp2
        go_quiet (fail)
        go_wp2
        exact bodyPost_ret (v := .tuple #[.string ⟨#[]⟩, .int .i64 1]) (by simp [results, Tryz.results9, go_sem]) rfl ⟨rfl, below_drew HB.out _⟩
      · have hd : decide (x < 0) = false := decide_eq_false hneg
        by_cases hge : (k : Int) + (m : Int) ≤ x
        · have hd2 : decide ((k : Int) + (m : Int) ≤ x) = true := decide_eq_true hge
          obtain ⟨hC, hS⟩ := HR.out 1 (by rw [bad1, ← HXY.out.1, if_neg (by omega)]) (by decide)
          subst hC hS
          clear HR
          go_wp2
          go_quiet (fail)
          go_wp2
          exact bodyPost_ret (v := .tuple #[.string ⟨#[]⟩, .int .i64 1]) (by simp [results, Tryz.results9, go_sem]) rfl ⟨rfl, below_drew HB.out _⟩
        · have hd2 : decide ((k : Int) + (m : Int) ≤ x) = false := decide_eq_false hge
          have hin : 0 ≤ I j ∧ I j < ((k + m : Nat) : Int) := by have := HXY.out.1; omega
          by_cases hs : Y.size = ea
          · have b3 : ((Y.size : Nat) : Int) = (ea : Int) := by rw [hs]
            have HZ : Hid (bad1 (k + m) ea (I j) (X j) = 0) := by
              show bad1 _ _ _ _ = 0
              rw [bad1, if_pos hin, ← HXY.out.2, if_pos hs]
            clear hin HR
            go_wp2
            go_quiet (fail)
            go_wp2
            exact ⟨⟨j + 1, by omega, by go_num, flt_next HF.out HZ.out, below_drew HB.out _⟩, by simp [RowKit.intOf]; omega⟩
          · have b3 : ¬ ((Y.size : Nat) : Int) = (ea : Int) := by omega
            obtain ⟨hC, hS⟩ := HR.out 4 (by rw [bad1, if_pos hin, ← HXY.out.2, if_neg hs]) (by decide)
            subst hC hS
            clear hin HR
            go_wp2
            go_quiet (fail)
            go_wp2
            exact bodyPost_ret (v := .tuple #[.string ⟨#[]⟩, .int .i64 4]) (by simp [results, Tryz.results9, go_sem]) rfl ⟨rfl, below_drew HB.out _⟩
    · obtain rfl : j = n := by omega
      have hfz : faultV k m long I X j = 0 := HFV.out.trans HF.out
      obtain ⟨hl0, hl1, hI, hX⟩ := faultV_zero hfz
      have HIX := hide (And.intro hI hX)
      have HFZ := hide hfz
      have HL0 := hide (And.intro hl0 hl1)
      have HPr := hide (HP.out.below hB)
      have HPX : Hid (PX wr (.slice a j c) j I X) := (show PX w (.slice a j c) j I X from ⟨a, c, rfl, HX.out⟩).below hB (Nat.le_refl _)
      clear hI hX hB hfz hl0 hl1 HX HP HFV HF HLG
      go_wp2_with fail
      refine (unlike_any HPr.out.pl.cell0 HPr.out.pl.lt (by omega) hn HPX.out).mono ?_
      rintro e w2 ⟨v2, rfl, hI2, hb2⟩
      have HB2 := hide (below_step HB.out hb2)
      have HP2 := hide (HPr.out.below hb2)
      obtain ⟨a2, c2, rfl⟩ := hI2.shp
      have HI2 := hide hI2.px
      have c0 := HP2.out.pl.cell0
      have hle := fu_le k I j
      clear hI2 hb2 HPr HPX HB
      by_cases hfew : (fu k I j).length < k
      · obtain ⟨e1, e2⟩ := jn_few HFZ.out hfew
        have hC := HCS.out.1.trans e1
        have hS := HCS.out.2.trans e2
        subst hC hS
        clear HCS e1 e2 HI2
        generalize (fu k I j).length = l at *
        have b1 : (l : Int) < (k : Int) := by omega
        go_wp2
        exact bodyPost_ret (v := .tuple #[.string ⟨#[]⟩, .int .i64 50]) (by simp [results, Tryz.results9, go_sem]) rfl ⟨rfl, HB2.out⟩
      · have hlk : (fu k I j).length = k := by omega
        obtain ⟨e1, e2⟩ := jn_ok HFZ.out hfew
        have hC := HCS.out.1.trans e1
        have HSS := hide (HCS.out.2.trans e2)
        subst hC
        have hmem : ∀ t, t < k → (fu k I j).getD t 0 < j := fun t ht => fu_lt (getD_mem (by rw [hlk]; exact ht))
        have HRr : Hid ((∀ t, t < k → rhoL I (fu k I j) t < k + m) ∧ (∀ s t, s < k → t < k → rhoL I (fu k I j) s = rhoL I (fu k I j) t → s = t) ∧ (∀ t, t < k → (txL X (fu k I j) t).size = eachN k long.toNat) ∧ (∀ t, t < k → ((rhoL I (fu k I j) t : Nat) : Int) = I ((fu k I j).getD t 0))) := by
          have hr : ∀ t, t < k → ((rhoL I (fu k I j) t : Nat) : Int) = I ((fu k I j).getD t 0) := fun t ht => by
            rw [rhoL]
            have := (HIX.out.1 _ (hmem t ht)).1
            omega
          obtain ⟨f, hT⟩ := fu_tells k I j
          refine ⟨fun t ht => ?_, fun s t hs ht e => ?_, fun t ht => HIX.out.2 _ (hmem t ht), hr⟩
          · have := (HIX.out.1 _ (hmem t ht)).2
            have := hr t ht
            omega
          · refine hT.inj (by rw [hlk]; exact hs) (by rw [hlk]; exact ht) ?_
            rw [← hr s hs, ← hr t ht, e]
        have HPX : Hid (PX w2 (.slice a2 k c2) k (fun t => ((rhoL I (fu k I j) t : Nat) : Int)) (txL X (fu k I j))) := by
          have := HI2.out
          rw [hlk] at this
          exact this.congr (fun t ht => ⟨(HRr.out.2.2.2 t ht).symm, rfl⟩)
        have HJB : Hid (S = (⟨(cat k (bkd k (rhoL I (fu k I j)) (txL X (fu k I j)))).toArray⟩ : ByteArray).extract 0 long.toNat) := HSS.out
        rw [hlk]
        clear e1 e2 HCS HI2 hmem HSS HIX hfew hle
        generalize rhoL I (fu k I j) = ρ at *
        generalize txL X (fu k I j) = Y at *
        have HR1 := hide HRr.out.1
        have HR2 := hide HRr.out.2.1
        have HR3 := hide HRr.out.2.2.1
        clear HRr hlk HFZ
        obtain ⟨lo, hlo⟩ : ∃ lo : Nat, long = (lo : Int) := ⟨long.toNat, by have := HL0.out; omega⟩
        subst hlo
        rw [Int.toNat_natCast] at HR3 HJB
        go_wp2
        go_loopw [13, 11, 12] (fun z vr vd wr => ∃ t : Nat, t ≤ k ∧ z = .int .i64 t ∧ R2 w2 wr vr vd t ρ Y) (fun z _ _ _ => k - (RowKit.intOf z).toNat)
        case atStart => exact ⟨0, Nat.zero_le _, rfl, ⟨IL.nil _ _, IS.nil _ _ _, Below.refl _ _⟩⟩
        case round =>
          obtain ⟨t, ht, rfl, hR⟩ := hrel
          clear c0
          by_cases hlt : t < k
          · obtain ⟨_, _, e9, h0 | ⟨bl, off, ea9, hbl, hcell⟩⟩ := HPX.out
            · omega
            simp only [Value.slice.injEq] at e9
            obtain ⟨e91, e92, e93⟩ := e9
            subst e91 e93
            subst ea9
            obtain ⟨v', w', h1, hB1, a', c', w3, h2, hR'⟩ := hR.step (by omega)
            have HR' := hide hR'
            have p1 : wr.cell? ⟨bl, off + t * 2, none⟩ = some (.int .i64 ((ρ t : Nat) : Int)) := (hR.be.cell (p := ⟨bl, off + t * 2, none⟩) hbl).trans (hcell t hlt).1
            have p2 := (hB1.cell (p := ⟨bl, off + t * 2 + 1, none⟩) hbl).trans (hcell t hlt).2
            have b1 : (t : Int) < (k : Int) := by omega
            have b0 : (0 : Int) ≤ (t : Int) := by omega
            generalize Y t = y at *
            generalize ρ t = r at *
            clear hR hR' hB1 hcell
            go_wp2_with (at_builtin; first | refine Lib.wpList_append_run _ rfl _ _ _ _ rfl _ _ rfl rfl _ _ h1 ?_ | refine Lib.wpList_append_run _ rfl _ _ _ _ rfl _ _ rfl rfl _ _ h2 ?_)
            exact ⟨⟨t + 1, by omega, by go_num, HR'.out⟩, by simp [RowKit.intOf]; omega⟩
          · obtain rfl : t = k := by omega
            have b1 : ¬ ((t : Int) < (t : Int)) := by omega
            have hB3 := below_step HB2.out hR.be
            have HB3 := hide hB3
            have hP3 := HP2.out.below hR.be
            have HP3 := hide hP3
            have c0 := hP3.pl.cell0
            have c2' := hP3.pl.cell2
            have c3 := hP3.pl.cell3
            have c4 := hP3.pl.cell4
            have HD := hide hR.is
            have hnx := hR.il.nx (f := 0) (by have := HP2.out.pl.lt; omega)
            rw [List.length_map, List.length_range] at hnx
            have hZ : ∀ i, i < t → ((((List.range t).map ρ).getD i 0 : Nat) : Int) = ((ρ i : Nat) : Int) := fun i hi => by
              rw [List.getD_eq_getElem?_getD, List.getElem?_map, List.getElem?_range hi]; rfl
            have HNX := hide (NX.congr hnx hZ)
            have HKB := hide (hP3.kb.nx (f := g + 1) (c := (t + m) * t) (Nat.le_refl _) (by omega))
            have HUP : Hid (upB (((t + m : Nat) : Int) - 1) (fun i => ((ρ i : Nat) : Int)) t = true) := allB_of _ _ (fun i hi => by have := HR1.out i hi; simp; omega)
            obtain ⟨ar, cr, rfl⟩ := hR.il.shape
            obtain ⟨ad, cd, rfl⟩ := hR.is.shp
            rw [List.length_map, List.length_range] at HNX ⊢
            clear hR hB3 hP3 hnx hZ HPX HP2 HB2
            go_wp2_with fail
            refine (refPick_in (r := t + m) (c := t) (k := t) (by omega) km k1 (by omega) k1 (by omega) HKB.out HNX.out).mono ?_
            rintro e w4 ⟨⟨_, g4, rfl, hK4, hg4⟩ | ⟨hu, _⟩, hb4⟩
            rotate_left
            · exact absurd (hu.symm.trans HUP.out) (by simp)
            have hnn : t * t ≤ 144 := Nat.mul_le_mul k12 k12
            have hK4' : KB w4 g4 (t * t) (pkd t ρ) := hK4
            have hpf := pkd_full (ρ := ρ) km HR1.out HR2.out
            have HB4 := hide (below_step HB3.out hb4)
            have HP4 := hide (HP3.out.below hb4)
            have HD4 := hide (HD.out.keep hb4)
            obtain ⟨V, hV⟩ : ∃ V, V = w4.alloc (.cells #[.int .i64 (t : Int), .int .i64 (t : Int), .slice (some ⟨g4, 0, none⟩) (t * t) (t * t)] 57) := ⟨_, rfl⟩
            have hbV : Below w4.heap.size w4 V := by rw [hV]; exact below_alloc (Below.refl _ _) _
            have hbk : V.heap[w4.heap.size]? = some (.cells #[.int .i64 (t : Int), .int .i64 (t : Int), .slice (some ⟨g4, 0, none⟩) (t * t) (t * t)] 57) := by rw [hV]; exact heap_alloc_new w4 _
            have q0 : V.cell? ⟨w4.heap.size, 0, none⟩ = some (.int .i64 (t : Int)) := by rw [cell_of_row V _ 0 _ _ _ hbk]; rfl
            have q1 : V.cell? ⟨w4.heap.size, 1, none⟩ = some (.int .i64 (t : Int)) := by rw [cell_of_row V _ 1 _ _ _ hbk]; rfl
            have q2 : V.cell? ⟨w4.heap.size, 2, none⟩ = some (.slice (some ⟨g4, 0, none⟩) (t * t) (t * t)) := by rw [cell_of_row V _ 2 _ _ _ hbk]; rfl
            have HIN := hide (refInverse_ok (w := V) (f := g4 + 1) (n := t) k1 (by omega) (by omega) ((hK4'.below hbV (Nat.le_refl _)).nx (c := t * t) (Nat.le_refl _) (by omega)))
            have HPF := hide hpf
            have HBV := hide hbV
            have HBK := hide hbk
            have HV := hide hV
            generalize hN : t * t = N at *
            clear hK4 hK4' hpf hbV hbk hV HB3 HP3 HD HKB HNX HUP hb4 hg4 c0 c2' c3 c4
            go_upto_region 22 with fail
            rw [← HV.out]
            go_wp2_with fail
            refine HIN.out.mono ?_
            rintro e w5 ⟨⟨_, g5, cp5, rfl, hcp, hK5, hg5⟩ | ⟨hlt5, _⟩, hb5⟩
            rotate_left
            · exact absurd HPF.out (by omega)
            obtain ⟨⟨r0, s0⟩, ⟨r1, s1⟩, ⟨r2, s2⟩, hk8, hoth⟩ := set3 ((hb5.block _ (lt_of_block HBK.out)).trans HBK.out) (.int .i64 (t : Int)) (.int .i64 (t : Int)) (.slice (some ⟨g5, 0, none⟩) N cp5)
            have hb45 := below_step HBV.out hb5
            have hb43 : Below w4.heap.size w4 (((w5.setCell ⟨w4.heap.size, 0, none⟩ (.int .i64 (t : Int))).setCell ⟨w4.heap.size, 1, none⟩ (.int .i64 (t : Int))).setCell ⟨w4.heap.size, 2, none⟩ (.slice (some ⟨g5, 0, none⟩) N cp5)) := ((hb45.setCell (Nat.le_refl _) _).setCell (Nat.le_refl _) _).setCell (Nat.le_refl _) _
            have hVs := lt_of_block HBK.out
            have HKB3 := hide (hK5.of_block (hoth g5 (by omega)))
            have HBr3 : Hid (Br _ w4.heap.size t t (.slice (some ⟨g5, 0, none⟩) N cp5)) := hk8
            obtain ⟨W3, hW3⟩ : ∃ W3, W3 = (((w5.setCell ⟨w4.heap.size, 0, none⟩ (.int .i64 (t : Int))).setCell ⟨w4.heap.size, 1, none⟩ (.int .i64 (t : Int))).setCell ⟨w4.heap.size, 2, none⟩ (.slice (some ⟨g5, 0, none⟩) N cp5)) := ⟨_, rfl⟩
            rw [← hW3] at hb43 HKB3 HBr3
            have HW3 := hide hW3
            have HP6 := hide (HP4.out.below hb43)
            have HD6 := hide (HD4.out.keep hb43)
            have HB6 := hide (below_step HB4.out hb43)
            clear HIN HPF q0 q1 q2 hk8 hoth hb45 hb43 hW3 HBV HBK hK5 HV HP4 HB4 HD4 hb5
            go_upto_region 23 with fail
            rw [← HW3.out]
            clear r0 r1 r2 s0 s1 s2 HW3
            have hcp0 := hcp
            go_wp2
            go_loopw [17, 16] (fun z sv wr => ∃ i : Nat, i ≤ t ∧ z = .int .i64 i ∧ sv = .string ⟨(cat i (bkd t ρ Y)).toArray⟩ ∧ Below W3.heap.size W3 wr) (fun z _ _ => t - (RowKit.intOf z).toNat)
            case atStart => exact ⟨0, Nat.zero_le _, rfl, rfl, Below.refl _ _⟩
            case round =>
              obtain ⟨i, hi, rfl, rfl, hx⟩ := hrel
              have HX := hide hx
              have c0 := (HP6.out.below hx).pl.cell0
              have c2' := (HBr3.out.below hx (Nat.le_refl _)).cell2
              by_cases hlt : i < t
              · have b2 : (i : Int) < (t : Int) := by omega
                obtain ⟨M, hM⟩ : ∃ M, M = bkd t ρ Y i := ⟨_, rfl⟩
                obtain ⟨x, hx1⟩ : ∃ x, x = i * t := ⟨_, rfl⟩
                have hx2 : (i + 1) * t = x + t := by rw [Nat.add_mul, Nat.one_mul, hx1]
                have hxN : x + t ≤ N := by rw [← hx2, ← hN]; exact Nat.mul_le_mul_right t hlt
                have hm : (i : Int) * (t : Int) = (x : Int) := by rw [← Int.natCast_mul, hx1]
                have hm2 : ((i : Int) + 1) * (t : Int) = (x : Int) + (t : Int) := by rw [Int.add_mul, Int.one_mul, hm]
                obtain ⟨fc, hfc⟩ : ∃ fc, fc = Fd.faultC t t Y (fun q => (((flat t (invQ t (pkd t ρ)) (x + q)).v : Nat) : Int)) := ⟨_, rfl⟩
                have HMX : Hid (∀ wz, Below wr.heap.size wr wz → Calls Tryz.prog 23 #[.slice ad t cd, .slice (some ⟨g5, x, none⟩) t (cp5 - x)] wz fun e w' => e = .returned (.tuple #[.string M, .int .i64 fc]) ∧ Below wz.heap.size wz w') := fun wz hz => by
                  have hz3 := below_step HX.out hz
                  have := Fd.refMix_any ((HD6.out.keep hz3).tx) ((HKB3.out.below hz3 (Nat.le_refl _)).part x t (cp5 - x) hxN) (by omega) (by omega) (fun q hq => by rw [HR3.out q hq]; have := eachN_le (k := t) (n := lo) k1; have := HL0.out; omega)
                  rw [hfc, hM, bkd, ← hx1]
                  exact this
                obtain ⟨y, hy⟩ : ∃ y, y = x + t := ⟨_, rfl⟩
                have d0 : (0 : Int) ≤ (x : Int) := by omega
                have d1 : (x : Int) ≤ (y : Int) := by omega
                have d2 : (y : Int) ≤ (cp5 : Int) := by omega
                have d3 : ¬ (cp5 = x) := by omega
                have d4 : y - x = t := by omega
                have hsl : ∀ w : World, (Instr.slice 48 (.slice (some ⟨g5, 0, none⟩) N cp5) (some (.int .i64 (x : Int))) (some (.int .i64 (y : Int))) none).run Tryz.prog w = .ok (.slice (some ⟨g5, x, none⟩) t (cp5 - x)) w := fun w => by
                  rw [run_slice_lh (P := Tryz.prog) (w := w) 48 _ _ _ Tryz.underlying48 .i64 .i64 (x : Int) (y : Int) d0 d1 d2]
                  simp [go_sem, sliced, d3, d4]
                have e0 : IntKind.i64.wrap ((i : Int) + 1) = (i : Int) + 1 := wraps_i64 _ (by omega) (by omega)
                have e1 : IntKind.i64.wrap ((i : Int) * (t : Int)) = (x : Int) := by rw [hm]; exact wraps_i64 _ (by omega) (by omega)
                have e2 : IntKind.i64.wrap (((i : Int) + 1) * (t : Int)) = (y : Int) := by rw [hm2, hy, Int.natCast_add]; exact wraps_i64 _ (by omega) (by omega)
                have KS : Hid (∀ w', Below wr.heap.size wr w' → w'.cell? ⟨b, 0, none⟩ = some (.int .i64 t) ∧ w'.cell? ⟨w4.heap.size, 2, none⟩ = some (.slice (some ⟨g5, 0, none⟩) N cp5)) := fun w' hg => ⟨(HP6.out.below (below_step HX.out hg)).pl.cell0, (HBr3.out.below (below_step HX.out hg) (Nat.le_refl _)).cell2⟩
                have HCM : Hid ((⟨(cat i (bkd t ρ Y)).toArray⟩ : ByteArray) ++ M = ⟨(cat (i + 1) (bkd t ρ Y)).toArray⟩) := by
                  show _ ++ _ = _
                  rw [hM]; exact cat_more
                have HNX : Hid (∀ w', Below wr.heap.size wr w' → Below W3.heap.size W3 w') := fun w' hg => below_step HX.out hg
                have hcc : ¬ 9223372036854775807 < (⟨(cat i (bkd t ρ Y)).toArray⟩ : ByteArray).size + M.size := by
                  have h1 := cat_length (k := i) (Y := bkd t ρ Y) (N := eachN t lo) (fun q _ => bkd_size k1 HR3.out q)
                  have h2 : (⟨(cat i (bkd t ρ Y)).toArray⟩ : ByteArray).size = i * eachN t lo := by rw [← listSize, ← h1]
                  have h3 : M.size = eachN t lo := by rw [hM]; exact bkd_size k1 HR3.out i
                  have h4 := eachN_le (k := t) (n := lo) k1
                  have h5 := HL0.out
                  have h6 : i * eachN t lo ≤ 12 * 65536 := Nat.mul_le_mul (by omega) (by omega)
                  omega
                generalize (⟨(cat i (bkd t ρ Y)).toArray⟩ : ByteArray) = s0 at *
                clear hx hM hx1 hx2 hm hm2 hfc hy
                go_upto_region 27 with fail
                go_region_held_law (fun wx => wx.cell? ⟨b, 0, none⟩ = some (.int .i64 t) ∧ wx.cell? ⟨w4.heap.size, 2, none⟩ = some (.slice (some ⟨g5, 0, none⟩) N cp5))
                  (first | with_reducible exact KS.out _ (Below.refl _ _).drew | with_reducible exact KS.out _ (by assumption))
                  (first | (go_at_call 23; refine (HMX.out _ (Below.refl _ _).drew).mono ?_; rintro e wa ⟨rfl, hba⟩; have hbb := below_step (Below.refl wr.heap.size wr).drew hba))
                all_goals
                  go_wp2
                  exact ⟨⟨i + 1, by omega, by go_num, by rw [← HCM.out], HNX.out _ (by assumption)⟩, by simp [RowKit.intOf]; omega⟩
              · obtain rfl : i = t := by omega
                have hlen := cat_length (k := i) (Y := bkd i ρ Y) (N := eachN i lo) (fun q _ => bkd_size k1 HR3.out q)
                have hge : lo ≤ i * eachN i lo := eachN_ge k1
                obtain ⟨Z, hZ⟩ : ∃ Z : ByteArray, Z = ⟨(cat i (bkd i ρ Y)).toArray⟩ := ⟨_, rfl⟩
                have hZs : lo ≤ Z.size := by
                  rw [hZ, ← listSize]
                  show lo ≤ (cat i (bkd i ρ Y)).toArray.toList.length
                  rw [List.toList_toArray, hlen]
                  exact hge
                have HEZ : Hid (S = Z.extract 0 lo) := by
                  show S = _
                  rw [hZ]; exact HJB.out
                have HE := hide (below_step HB6.out hx)
                rw [← hZ]
                have b3 : ¬ ((i : Int) < (i : Int)) := by omega
                have b4 : ¬ ((Z.size : Int) < (lo : Int)) := by omega
                have b5 : (lo : Int) ≤ (Z.size : Int) := by omega
                have b6 : (0 : Int) ≤ (lo : Int) := by omega
                clear hlen hge hZ hx HJB HX HB6 HP6 HD6 HKB3 HBr3
                go_wp2
                exact bodyPost_ret (v := .tuple #[.string (Z.extract 0 lo), .int .i64 0]) (by simp [results, Tryz.results9, go_sem]) rfl ⟨by rw [HEZ.out], HE.out⟩
end Go.Proofs.YtfjkdmiaagalhaaGreat

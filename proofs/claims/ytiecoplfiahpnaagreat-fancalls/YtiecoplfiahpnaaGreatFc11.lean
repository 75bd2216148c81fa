/-
  Contracts of the program and of the statements (part 11 of 13).
-/
import Derived.Test.YtiecoplfiahpnaaGreatFc10

namespace Go.Proofs.YtiecoplfiahpnaaGreat
open Go.RowKit Go.Lib Go.Maps
section
variable {w w' : World} {rv dv : Value} {S : List SS} {rs : List Nat} {P r : Nat → Prop} {ds : List ByteArray} {t : Nat} {nm : ByteArray} {nn : Int}
set_option maxRecDepth 100000 in
set_option maxHeartbeats 3200000 in
theorem rlistjob_yes (hY : YD P w rv S rs) (hP : ∀ i, P i → i < w.heap.size) (hG : GD t S) (h1 : 1 ≤ nn) (h2 : nn ≤ 255) (ht : t + nst nn ≤ 1000) (hn : nm.size ≤ maxLen) (ht2 : t ≤ 100) :
    Calls Tryz.prog 41 #[rv, .int .i64 nn, .string nm] w fun e w' => ∃ ids tx, e = .returned (.agg #[.int .i64 (frs [] ((yRs S (aq 3 nm ⟨#[]⟩ (nst nn))).map (·.c))), .string ⟨#[]⟩, .int .i64 ((gds ((yRs S (aq 3 nm ⟨#[]⟩ (nst nn))).map (·.c)) : Nat) : Int), ids, tx, .slice none 0 0, .slice none 0 0]) ∧ DJ P w w' rv (ySs S (aq 3 nm ⟨#[]⟩ (nst nn))) rs ids tx (lI (yRs S (aq 3 nm ⟨#[]⟩ (nst nn)))) [] := by
  obtain ⟨U, hU⟩ : ∃ U, U = w.alloc (.cells #[.int .i64 0, .string ⟨#[]⟩, .int .i64 0, .slice none 0 0, .slice none 0 0, .slice none 0 0, .slice none 0 0] 56) := ⟨_, rfl⟩
  obtain ⟨X0, hX⟩ : ∃ X0, X0 = w.heap.size := ⟨_, rfl⟩
  have hBU : Below w.heap.size w U := by rw [hU]; exact (Below.refl _ _).alloc (Nat.le_refl _) _
  have hZ : R7 U X0 0 0 (.slice none 0 0) (.slice none 0 0) := by rw [hU, hX]; exact heap_alloc_new w _
  have hYU := hY.bel hBU
  have hUs := hBU.size
  have hX0P : ¬ P X0 := fun e => by have := hP _ e; omega
  have hX0r : ¬ X0 ∈ rs := fun e => hX0P (hY.inP _ e)
  obtain ⟨N, rfl⟩ : ∃ N : Nat, nn = (N : Int) := ⟨nn.toNat, by omega⟩
  have hnst : nst (N : Int) = N := nst_nat N (by omega) (by omega)
  rw [hnst] at ht ⊢
  obtain ⟨R, hR⟩ : ∃ R, R = yRs S (aq 3 nm ⟨#[]⟩ N) := ⟨_, rfl⟩
  obtain ⟨S2, hS2⟩ : ∃ S2, S2 = ySs S (aq 3 nm ⟨#[]⟩ N) := ⟨_, rfl⟩
  have hRl : R.length ≤ 255 := by rw [hR, yRs_len, aq_len]; omega
  have HBD := hide (rbad_no (w := U) (nn := (N : Int)) (by omega) (by omega))
  have HAL := hide (rall_any hYU (fun i hi => by have := hP i hi; omega) hG N ht 0 3 nm ⟨#[]⟩ hn (Nat.zero_le _))
  rw [← hR, ← hS2] at HAL
  rw [← hR, ← hS2]
  obtain ⟨cs, hcs⟩ : ∃ cs, cs = R.map (·.c) := ⟨_, rfl⟩
  have hcl : cs.length ≤ 255 := by rw [hcs, List.length_map]; exact hRl
  obtain ⟨rc, hrc⟩ : ∃ rc, rc = frs [] cs := ⟨_, rfl⟩
  obtain ⟨rn, hrn⟩ : ∃ rn, rn = ((gds cs : Nat) : Int) := ⟨_, rfl⟩
  rw [← hcs, ← hrc, ← hrn]
  have hres : (resI R).length ≤ 100000 := by
    have h3 := yRs_names (aq 3 nm ⟨#[]⟩ N) hG
    rw [← hR, aq_len] at h3
    have h4 : N * (t + N) ≤ 255 * 355 := Nat.mul_le_mul (by omega) (by omega)
    omega
  have HRES := hide hres
  have HU := hide hU
  have HX := hide hX
  have HZ := hide (And.intro hBU (And.intro hZ (And.intro hX0P hX0r)))
  have HPP := hide hP
  have HCL := hide (And.intro hcl (And.intro hrc (And.intro hrn (And.intro hcs hRl))))
  clear hU hX hBU hZ hYU hUs hX0P hX0r hY hP h1 h2 ht hn hG hcs hcl hrc hrn hR hS2 hnst hRl ht2 hres
  go_enter Tryz.func41, Tryz.ntmps41
  go_upto_region 1 with fail
  rw [← HU.out, ← HX.out]
  go_wp2_with (go_at_call 57; refine HBD.out.mono ?_; rintro e w1 ⟨rfl, rfl⟩)
  refine HAL.out.mono ?_
  rintro e w2 ⟨xv, X, rfl, hO2, hXR, hN2, hY2, hG2⟩
  have hXl : X.length ≤ 255 := by have := HCL.out.2.2.2.2; rw [← hXR, List.length_map] at this; exact this
  have hXc : X.map (·.1.c) = cs := by rw [HCL.out.2.2.2.1, ← hXR, List.map_map]; rfl
  have hL2 := hO2.ls (r := fun _ => True) x3_len fun _ _ => trivial
  have HCO : Hid (∀ wx, Below w2.heap.size w2 wx → Calls Tryz.prog 25 #[xv] wx fun e w' => ∃ v, e = .returned v ∧ OW c1 1 26 wx.heap.size v cs w' ∧ Below wx.heap.size wx w') := fun wx hb => by
    have := rcodes_any (hL2.bel hb) (by omega)
    rw [hXc] at this
    exact this
  have HF2 := hide (And.intro hY2 (And.intro hG2 (And.intro hL2 (And.intro hN2 (And.intro hXl hXR)))))
  obtain ⟨oa, oc, hov⟩ := hO2.shp
  subst hov
  clear hO2 hY2 hG2 hXR hN2 hXl hXc hL2
  obtain ⟨xl, hxl⟩ : ∃ xl, xl = X.length := ⟨_, rfl⟩
  rw [← hxl] at HCO HF2 ⊢
  have HXL := hide hxl
  clear hxl
  have HC1 := hide (HCO.out w2 (Below.refl _ _))
  go_wp2_with fail
  refine HC1.out.mono ?_
  rintro e w3 ⟨cv, rfl, hO3, hB3⟩
  have hcl := HCL.out.1
  have HFS := hide (rfirst_any (hO3.ls (r := fun _ => True) c1_len fun _ _ => trivial) (LS.nl (f := c1) (fun _ => True) w3) (by omega) (by simp))
  rw [← HCL.out.2.1] at HFS
  obtain ⟨pa, pc, hpv⟩ := hO3.shp
  subst hpv
  have HB3 := hide hB3
  clear hO3 hB3 hcl
  go_wp2_with fail
  refine HFS.out.mono ?_
  rintro e w4 ⟨rfl, hB4⟩
  have HB4 := hide (HB3.out.trans (hB4.mono HB3.out.size))
  clear hB4
  have HC2 := hide (HCO.out w4 HB4.out)
  go_wp2_with fail
  refine HC2.out.mono ?_
  rintro e w5 ⟨cv2, rfl, hO5, hB5⟩
  have hcl := HCL.out.1
  have HGD := hide (rgood_any (hO5.ls (r := fun _ => True) c1_len fun _ _ => trivial) (by omega))
  rw [← HCL.out.2.2.1] at HGD
  obtain ⟨pa2, pc2, hpv2⟩ := hO5.shp
  subst hpv2
  have HB5 := hide (HB4.out.trans (hB5.mono HB4.out.size))
  clear hO5 hB5 hcl
  go_wp2_with fail
  refine HGD.out.mono ?_
  rintro e w6 ⟨rfl, hB6⟩
  have HB6 := hide (HB5.out.trans (hB6.mono HB5.out.size))
  clear hB6
  have hUN := runion_any (HF2.out.2.2.1.bel HB6.out) (fun x hx => ((HF2.out.2.2.2.1 x hx).ls (r := fun _ => True) fun _ _ => trivial).bel HB6.out) (by have := HF2.out.2.2.2.2.1; have := HXL.out; omega) (by
    have e1 : (X.map (·.1.l)).flatMap id = resI R := by rw [← HF2.out.2.2.2.2.2, resI, List.flatMap_map, List.flatMap_map]; rfl
    rw [e1]; exact HRES.out)
  have eU : uniT (X.map (·.1.l)) = lI R := by rw [lI, ← HF2.out.2.2.2.2.2, List.map_map]; rfl
  rw [eU] at hUN
  have HUN := hide hUN
  clear hUN eU
  go_wp2_with fail
  refine HUN.out.mono ?_
  rintro e w7 ⟨uv, rfl, hT7, hB7⟩
  obtain ⟨hY2, hG2, _⟩ := HF2.out
  obtain ⟨hBU, hZ, hX0P, hX0r⟩ := HZ.out
  have hB27 := HB6.out.trans (hB7.mono HB6.out.size)
  have hZn := (hZ.gs hG2 hX0r).bel hB27
  have hYn := hY2.bel hB27
  have hGn : Gs (fun i => i ∈ rs) w w7 := ((Gs.of_below _ hBU).trans hG2).bel hB27
  have hIn : TS (X0 + 1) uv (lI R) w7 := hT7.low (by have a1 := hZ.lt; have a2 := hG2.size; have a3 := HB6.out.size; omega)
  have hTn := TS.nil (X0 + 1) w7
  obtain ⟨ua, ul, uc, huv⟩ : ∃ a n c, uv = .slice a n c := by obtain ⟨a, c, e⟩ := hT7.shp; exact ⟨a, _, c, e⟩
  subst huv
  clear hY2 hG2 hBU hZ hX0r hT7 hB7 hB27
  obtain ⟨V, hrun, hRV, hGV⟩ := hZn.fill rc rn ⟨_, _, _, rfl⟩ slN
  have HE : Hid (DJ P w V rv S2 rs (.slice ua ul uc) (.slice none 0 0) (lI R) []) := by
    have hx := HX.out
    refine ⟨hYn.res hGV hX0P hZn, hGn.tr2 hGV fun i hi e => by omega, ?_, ?_⟩
    · exact (hIn.kb fun i hi => hGV.block i (hIn.lt i hi).2 (by have := (hIn.lt i hi).1; omega)).low (by omega)
    · exact (hTn.kb fun i hi => hGV.block i (hTn.lt i hi).2 (by have := (hTn.lt i hi).1; omega)).low (by omega)
  have r0 : V.cell? ⟨X0, 0, none⟩ = some (.int .i64 rc) := hRV.cell 0
  have r1 : V.cell? ⟨X0, 1, none⟩ = some (.string ⟨#[]⟩) := hRV.cell 1
  have r2 : V.cell? ⟨X0, 2, none⟩ = some (.int .i64 rn) := hRV.cell 2
  have r3 : V.cell? ⟨X0, 3, none⟩ = some (.slice ua ul uc) := hRV.cell 3
  have r4 : V.cell? ⟨X0, 4, none⟩ = some (.slice none 0 0) := hRV.cell 4
  have r5 : V.cell? ⟨X0, 5, none⟩ = some (.slice none 0 0) := hRV.cell 5
  have r6 : V.cell? ⟨X0, 6, none⟩ = some (.slice none 0 0) := hRV.cell 6
  clear hRV hGV hZn hYn hGn hIn hTn hX0P
  go_wp2_with (refine wpList_store_run rfl 56 _ _ rfl _ _ rfl rfl hrun ?_)
  exact bodyPost_ret (v := .agg #[.int .i64 rc, .string ⟨#[]⟩, .int .i64 rn, (.slice ua ul uc), (.slice none 0 0), .slice none 0 0, .slice none 0 0]) (by simp [results, Tryz.results41, go_sem, r0, r1, r2, r3, r4, r5, r6]) rfl ⟨_, _, rfl, HE.out⟩
set_option maxRecDepth 100000 in
set_option maxHeartbeats 3200000 in
theorem rgetjob_yes (hY : YD P w rv S rs) (hP : ∀ i, P i → i < w.heap.size) (hG : GD t S) (h1 : 1 ≤ nn) (h2 : nn ≤ 255) (ht : t + nst nn ≤ 1000) (hn : nm.size ≤ maxLen) :
    Calls Tryz.prog 37 #[rv, .int .i64 nn, .string nm] w fun e w' => ∃ ids tx, e = .returned (.agg #[.int .i64 (frs [] ((yRs S (aq 2 nm ⟨#[]⟩ (nst nn))).map (·.c))), .string ⟨#[]⟩, .int .i64 ((gds ((yRs S (aq 2 nm ⟨#[]⟩ (nst nn))).map (·.c)) : Nat) : Int), ids, tx, .slice none 0 0, .slice none 0 0]) ∧ DJ P w w' rv (ySs S (aq 2 nm ⟨#[]⟩ (nst nn))) rs ids tx [] (gT (yRs S (aq 2 nm ⟨#[]⟩ (nst nn)))) := by
  obtain ⟨U, hU⟩ : ∃ U, U = w.alloc (.cells #[.int .i64 0, .string ⟨#[]⟩, .int .i64 0, .slice none 0 0, .slice none 0 0, .slice none 0 0, .slice none 0 0] 56) := ⟨_, rfl⟩
  obtain ⟨X0, hX⟩ : ∃ X0, X0 = w.heap.size := ⟨_, rfl⟩
  have hBU : Below w.heap.size w U := by rw [hU]; exact (Below.refl _ _).alloc (Nat.le_refl _) _
  have hZ : R7 U X0 0 0 (.slice none 0 0) (.slice none 0 0) := by rw [hU, hX]; exact heap_alloc_new w _
  have hYU := hY.bel hBU
  have hUs := hBU.size
  have hX0P : ¬ P X0 := fun e => by have := hP _ e; omega
  have hX0r : ¬ X0 ∈ rs := fun e => hX0P (hY.inP _ e)
  obtain ⟨N, rfl⟩ : ∃ N : Nat, nn = (N : Int) := ⟨nn.toNat, by omega⟩
  have hnst : nst (N : Int) = N := nst_nat N (by omega) (by omega)
  rw [hnst] at ht ⊢
  obtain ⟨R, hR⟩ : ∃ R, R = yRs S (aq 2 nm ⟨#[]⟩ N) := ⟨_, rfl⟩
  obtain ⟨S2, hS2⟩ : ∃ S2, S2 = ySs S (aq 2 nm ⟨#[]⟩ N) := ⟨_, rfl⟩
  have hRl : R.length ≤ 255 := by rw [hR, yRs_len, aq_len]; omega
  have HBD := hide (rbad_no (w := U) (nn := (N : Int)) (by omega) (by omega))
  have HAL := hide (rall_any hYU (fun i hi => by have := hP i hi; omega) hG N ht 0 2 nm ⟨#[]⟩ hn (Nat.zero_le _))
  rw [← hR, ← hS2] at HAL
  rw [← hR, ← hS2]
  obtain ⟨cs, hcs⟩ : ∃ cs, cs = R.map (·.c) := ⟨_, rfl⟩
  have hcl : cs.length ≤ 255 := by rw [hcs, List.length_map]; exact hRl
  obtain ⟨rc, hrc⟩ : ∃ rc, rc = frs [] cs := ⟨_, rfl⟩
  obtain ⟨rn, hrn⟩ : ∃ rn, rn = ((gds cs : Nat) : Int) := ⟨_, rfl⟩
  rw [← hcs, ← hrc, ← hrn]
  have HU := hide hU
  have HX := hide hX
  have HZ := hide (And.intro hBU (And.intro hZ (And.intro hX0P hX0r)))
  have HPP := hide hP
  have HCL := hide (And.intro hcl (And.intro hrc (And.intro hrn (And.intro hcs hRl))))
  clear hU hX hBU hZ hYU hUs hX0P hX0r hY hP h1 h2 ht hn hG hcs hcl hrc hrn hR hS2 hnst hRl 
  go_enter Tryz.func37, Tryz.ntmps37
  go_upto_region 1 with fail
  rw [← HU.out, ← HX.out]
  go_wp2_with (go_at_call 57; refine HBD.out.mono ?_; rintro e w1 ⟨rfl, rfl⟩)
  refine HAL.out.mono ?_
  rintro e w2 ⟨xv, X, rfl, hO2, hXR, hN2, hY2, hG2⟩
  have hXl : X.length ≤ 255 := by have := HCL.out.2.2.2.2; rw [← hXR, List.length_map] at this; exact this
  have hXc : X.map (·.1.c) = cs := by rw [HCL.out.2.2.2.1, ← hXR, List.map_map]; rfl
  have hL2 := hO2.ls (r := fun _ => True) x3_len fun _ _ => trivial
  have HCO : Hid (∀ wx, Below w2.heap.size w2 wx → Calls Tryz.prog 25 #[xv] wx fun e w' => ∃ v, e = .returned v ∧ OW c1 1 26 wx.heap.size v cs w' ∧ Below wx.heap.size wx w') := fun wx hb => by
    have := rcodes_any (hL2.bel hb) (by omega)
    rw [hXc] at this
    exact this
  have HF2 := hide (And.intro hY2 (And.intro hG2 (And.intro hL2 (And.intro hN2 (And.intro hXl hXR)))))
  obtain ⟨oa, oc, hov⟩ := hO2.shp
  subst hov
  clear hO2 hY2 hG2 hXR hN2 hXl hXc hL2
  obtain ⟨xl, hxl⟩ : ∃ xl, xl = X.length := ⟨_, rfl⟩
  rw [← hxl] at HCO HF2 ⊢
  have HXL := hide hxl
  clear hxl
  have HC1 := hide (HCO.out w2 (Below.refl _ _))
  go_wp2_with fail
  refine HC1.out.mono ?_
  rintro e w3 ⟨cv, rfl, hO3, hB3⟩
  have hcl := HCL.out.1
  have HFS := hide (rfirst_any (hO3.ls (r := fun _ => True) c1_len fun _ _ => trivial) (LS.nl (f := c1) (fun _ => True) w3) (by omega) (by simp))
  rw [← HCL.out.2.1] at HFS
  obtain ⟨pa, pc, hpv⟩ := hO3.shp
  subst hpv
  have HB3 := hide hB3
  clear hO3 hB3 hcl
  go_wp2_with fail
  refine HFS.out.mono ?_
  rintro e w4 ⟨rfl, hB4⟩
  have HB4 := hide (HB3.out.trans (hB4.mono HB3.out.size))
  clear hB4
  have HC2 := hide (HCO.out w4 HB4.out)
  go_wp2_with fail
  refine HC2.out.mono ?_
  rintro e w5 ⟨cv2, rfl, hO5, hB5⟩
  have hcl := HCL.out.1
  have HGD := hide (rgood_any (hO5.ls (r := fun _ => True) c1_len fun _ _ => trivial) (by omega))
  rw [← HCL.out.2.2.1] at HGD
  obtain ⟨pa2, pc2, hpv2⟩ := hO5.shp
  subst hpv2
  have HB5 := hide (HB4.out.trans (hB5.mono HB4.out.size))
  clear hO5 hB5 hcl
  go_wp2_with fail
  refine HGD.out.mono ?_
  rintro e w6 ⟨rfl, hB6⟩
  have HB6 := hide (HB5.out.trans (hB6.mono HB5.out.size))
  clear hB6
  obtain ⟨Y, hYe⟩ : ∃ Y, Y = w6.heap.size := ⟨_, rfl⟩
  obtain ⟨W, hW⟩ : ∃ W, W = w6.alloc (.cells #[.int .i64 rc, .string ⟨#[]⟩, .int .i64 rn, .slice none 0 0, .slice none 0 0, .slice none 0 0, .slice none 0 0] 56) := ⟨_, rfl⟩
  have HGE : Hid (GE w6 W Y rc rn (.slice none 0 0) (([] : List (RR × Value)).map (·.1.d)) ∧ Below w6.heap.size w6 W) := by
    have hb : Below w6.heap.size w6 W := by rw [hW]; exact (Below.refl _ _).alloc (Nat.le_refl _) _
    refine ⟨⟨by rw [hW, hYe]; exact heap_alloc_new w6 _, TS.nil _ _, hb, by omega, by simp [Value.ownBlock]⟩, hb⟩
  have HC : Hid (∀ j x, X[j]? = some x → ∀ wr, Below w6.heap.size w6 wr → ∃ g o, oa = some ⟨g, o, none⟩ ∧ wr.cell? ⟨g, o + j * 3 + 1, none⟩ = some (.string x.1.d)) := fun j x hx wr hb => by
    have hB := HB6.out.trans (hb.mono HB6.out.size)
    obtain ⟨a', c', e, _, h3 | ⟨g, o, ea, _, hg, hGS⟩⟩ := HF2.out.2.2.1.bel hB
    · rw [h3] at hx; simp at hx
    · simp only [Value.slice.injEq] at e
      obtain ⟨rfl, _, _⟩ := e
      exact ⟨g, o, ea, hGS j x hx 1 _ rfl⟩
  have HW := hide hW
  have HYe := hide hYe
  clear hW hYe
  go_upto_region 5 with fail
  rw [← HW.out, ← HYe.out]
  go_wp2
  go_loopw [9] (fun i wr => ∃ (j : Nat) (tx : Value), j ≤ xl ∧ i = .int .i64 j ∧ GE w6 wr Y rc rn tx ((X.take j).map (·.1.d))) (fun i _ => xl - (intOf i).toNat)
  case atStart => exact ⟨0, _, Nat.zero_le _, rfl, by rw [List.take_zero]; exact HGE.out.1⟩
  case round =>
    obtain ⟨j, tx, hj, rfl, hO⟩ := hrel
    have hxb : xl ≤ 255 := HF2.out.2.2.2.2.1
    by_cases hlt : j < xl
    · have b1 : (j : Int) < (xl : Int) := by omega
      have b0 : (0 : Int) ≤ (j : Int) := by omega
      obtain ⟨x, hx⟩ : ∃ x, X[j]? = some x := ⟨_, List.getElem?_eq_getElem (by rw [← HXL.out]; exact hlt)⟩
      obtain ⟨g, o, rfl, z1⟩ := HC.out j x hx _ hO.be
      obtain ⟨dd, hdd⟩ : ∃ dd, dd = x.1.d := ⟨_, rfl⟩
      rw [← hdd] at z1
      have hOd : GE w6 wr.drew Y rc rn tx ((X.take j).map (·.1.d)) := ⟨hO.r, ⟨hO.t.own⟩, ⟨hO.be.os, hO.be.tape, hO.be.output, hO.be.size, hO.be.block⟩, hO.le, hO.ne⟩
      have y4 : wr.cell? ⟨Y, 4, none⟩ = some tx := hO.r.cell 4
      have f4 := hO.r.free 4
      have y4a : (wr.alloc (.cells #[.string dd] 9)).cell? ⟨Y, 4, none⟩ = some tx := (hO.bel ((Below.refl _ _).alloc (Nat.le_refl _) _)).r.cell 4
      obtain ⟨v2, w9, hr1, hsl, hR2, hG2⟩ := hOd.push dd (by rw [List.length_map, List.length_take]; have := HF2.out.2.2.2.2.1; omega)
      have HR : Hid ((Builtin.append_ #[33, 33] 33 #[tx, .slice (some ⟨wr.heap.size, 0, none⟩) 1 1]).run Tryz.prog (wr.alloc (.cells #[.string dd] 9)).drew = .ok v2 w9) := hr1
      have y4' : w9.cell? ⟨Y, 4, none⟩ = some tx := hR2.cell 4
      have f4' := hR2.free 4
      obtain ⟨va, vl, vc, hv2⟩ := hsl
      have HE : Hid (GE w6 (w9.setCell ⟨Y, 4, none⟩ v2) Y rc rn v2 ((X.take (j + 1)).map (·.1.d))) := by
        show GE _ _ _ _ _ _ _
        rw [take_snoc_at hx, List.map_append]
        show GE w6 (w9.setCell ⟨Y, 4, none⟩ v2) Y rc rn v2 ((X.take j).map (·.1.d) ++ [x.1.d])
        rw [← hdd]
        exact hG2
      subst hv2
      obtain ⟨ta, tl, tc9, htx⟩ : ∃ a n c, tx = .slice a n c := by obtain ⟨a, c, e⟩ := hO.t.shp; exact ⟨a, _, c, e⟩
      subst htx
      clear hO hOd hx hdd hr1 hR2 hG2
      go_upto_region 8 with fail
      go_region_law (first | (refine step_world (V := (wr.alloc (.cells #[.string dd] 9)).drew) (by with_reducible rfl) ?_; refine step_append_run rfl _ _ 33 33 rfl _ _ rfl rfl _ _ HR.out ?_))
      all_goals (
        go_wp2
        exact ⟨⟨j + 1, _, by omega, by go_num, HE.out⟩, by simp [intOf]; omega⟩)
    · obtain rfl : j = xl := by omega
      have e : X.take j = X := List.take_of_length_le (by have := HXL.out; omega)
      rw [e] at hO
      obtain ⟨hY2, hG2, _, _, _, hXR⟩ := HF2.out
      obtain ⟨hBU, hZ, hX0P, hX0r⟩ := HZ.out
      have hB27 := HB6.out.trans (hO.be.mono HB6.out.size)
      have hZn := (hZ.gs hG2 hX0r).bel hB27
      have hYn := hY2.bel hB27
      have hGn : Gs (fun i => i ∈ rs) w wr := ((Gs.of_below _ hBU).trans hG2).bel hB27
      have eT : X.map (·.1.d) = gT R := by rw [gT, ← hXR, List.map_map]; rfl
      have hTn : TS (X0 + 1) tx (gT R) wr := by
        rw [← eT]
        exact hO.t.low (by have a1 := hZ.lt; have a2 := hG2.size; have a3 := HB6.out.size; omega)
      have hIn := TS.nil (X0 + 1) wr
      have c0 : wr.cell? ⟨Y, 0, none⟩ = some (.int .i64 rc) := hO.r.cell 0
      have c1 : wr.cell? ⟨Y, 1, none⟩ = some (.string ⟨#[]⟩) := hO.r.cell 1
      have c2 : wr.cell? ⟨Y, 2, none⟩ = some (.int .i64 rn) := hO.r.cell 2
      have c3 : wr.cell? ⟨Y, 3, none⟩ = some (.slice none 0 0) := hO.r.cell 3
      have c4 : wr.cell? ⟨Y, 4, none⟩ = some tx := hO.r.cell 4
      have c5 : wr.cell? ⟨Y, 5, none⟩ = some (.slice none 0 0) := hO.r.cell 5
      have c6 : wr.cell? ⟨Y, 6, none⟩ = some (.slice none 0 0) := hO.r.cell 6
      obtain ⟨ta, tl, tc9, htx⟩ : ∃ a n c, tx = .slice a n c := by obtain ⟨a, c, e⟩ := hO.t.shp; exact ⟨a, _, c, e⟩
      subst htx
      clear hY2 hG2 hBU hZ hX0r hB27 hO e eT hXR
      obtain ⟨V, hrun, hRV, hGV⟩ := hZn.fill rc rn slN ⟨_, _, _, rfl⟩
      have HE : Hid (DJ P w V rv S2 rs (.slice none 0 0) (.slice ta tl tc9) [] (gT R)) := by
        have hx := HX.out
        refine ⟨hYn.res hGV hX0P hZn, hGn.tr2 hGV fun i hi e => by omega, ?_, ?_⟩
        · exact (hIn.kb fun i hi => hGV.block i (hIn.lt i hi).2 (by have := (hIn.lt i hi).1; omega)).low (by omega)
        · exact (hTn.kb fun i hi => hGV.block i (hTn.lt i hi).2 (by have := (hTn.lt i hi).1; omega)).low (by omega)
      have r0 : V.cell? ⟨X0, 0, none⟩ = some (.int .i64 rc) := hRV.cell 0
      have r1 : V.cell? ⟨X0, 1, none⟩ = some (.string ⟨#[]⟩) := hRV.cell 1
      have r2 : V.cell? ⟨X0, 2, none⟩ = some (.int .i64 rn) := hRV.cell 2
      have r3 : V.cell? ⟨X0, 3, none⟩ = some (.slice none 0 0) := hRV.cell 3
      have r4 : V.cell? ⟨X0, 4, none⟩ = some (.slice ta tl tc9) := hRV.cell 4
      have r5 : V.cell? ⟨X0, 5, none⟩ = some (.slice none 0 0) := hRV.cell 5
      have r6 : V.cell? ⟨X0, 6, none⟩ = some (.slice none 0 0) := hRV.cell 6
      clear hRV hGV hZn hYn hGn hIn hTn hX0P
      go_wp2_with (refine wpList_store_run rfl 56 _ _ rfl _ _ rfl rfl hrun ?_)
      exact bodyPost_ret (v := .agg #[.int .i64 rc, .string ⟨#[]⟩, .int .i64 rn, (.slice none 0 0), (.slice ta tl tc9), .slice none 0 0, .slice none 0 0]) (by simp [results, Tryz.results37, go_sem, r0, r1, r2, r3, r4, r5, r6]) rfl ⟨_, _, rfl, HE.out⟩
end
end Go.Proofs.YtiecoplfiahpnaaGreat

namespace Go.Proofs.YtiecoplfiahpnaaGreat
open Go.RowKit Go.Lib Go.Maps
section
variable {b : Nat} {C N : List RR → Int} {I T : List RR → List ByteArray} {L : List QT} {P Py : Nat → Prop} {w w' : World} {v : Value} {S : List SS} {bs : List (Nat × Nat)} {g : Nat}
/-- What a job that was run leaves. -/
structure RN9 (b : Nat) (C N : List RR → Int) (I T : List RR → List ByteArray) (L : List QT) (P Py : Nat → Prop) (w w' : World) (v : Value) (S : List SS) (bs : List (Nat × Nat)) : Prop where
  y : YP Py w' v (ySs S L) bs
  g : Gs (fun i => P i ∨ Qs bs i) w w'
  f : ∃ P', FinR b C N I T (yRs S L) P' w' ∧ ∀ i, P' i → P i ∨ w.heap.size ≤ i
set_option maxRecDepth 100000 in
set_option maxHeartbeats 3200000 in
theorem run_job (hJ : JJ b (FinR b C N I T) L [] P w) (hY : YP Py w v S bs) (hap : ∀ i, P i → ¬ Py i) (hPy : ∀ i, Py i → i < w.heap.size) (hG : GD g S) (hg : g + L.length ≤ 1000) (hL : L.length ≤ 300) (hq : ∀ q ∈ L, q.n.size ≤ maxLen ∧ q.d.size ≤ maxLen) (hIl : (I (yRs S L)).length ≤ 1000000000000) (hTl : (T (yRs S L)).length ≤ 1000000000000) :
    Calls Tryz.prog 17 #[.pointer (some ⟨b, 0, none⟩), v] w fun e w' => ∃ ids tx, e = .returned (.tuple #[.agg #[.int .i64 (C (yRs S L)), .string ⟨#[]⟩, .int .i64 (N (yRs S L)), ids, tx, .slice none 0 0, .slice none 0 0], .bool true]) ∧ TS w.heap.size ids (I (yRs S L)) w' ∧ TS w.heap.size tx (T (yRs S L)) w' ∧ RN9 b C N I T L P Py w w' v S bs := by
  obtain ⟨U, hU⟩ : ∃ U, U = w.alloc (.cells #[.int .i64 0, .string ⟨#[]⟩, .int .i64 0, .slice none 0 0, .slice none 0 0, .slice none 0 0, .slice none 0 0] 56) := ⟨_, rfl⟩
  obtain ⟨X0, hX⟩ : ∃ X0, X0 = w.heap.size := ⟨_, rfl⟩
  have hBU : Below w.heap.size w U := by rw [hU]; exact (Below.refl _ _).alloc (Nat.le_refl _) _
  have hZ : R7 U X0 0 0 (.slice none 0 0) (.slice none 0 0) := by rw [hU, hX]; exact heap_alloc_new w _
  have hPl := hJ.lt
  have hJU : JJ b (FinR b C N I T) L [] P U := hJ.gs (p := fun i => w.heap.size ≤ i) (fkR b C N I T) (Gs.of_below _ hBU) (fun i hi hn => by have := hPl i hi; omega)
  have hUs := hBU.size
  have HR := hide (run_any (jobJ (L := L) (fkR b C N I T) (by omega)) (A := []) ⟨Nat.zero_le _, hJU⟩ (hY.bel hBU) hap (fun i hi => by have := hPy i hi; omega) hG hg (by simp [resI]) hq 300 (by decide))
  have HU := hide hU
  have HX := hide hX
  have HZ := hide (And.intro hBU hZ)
  have HP := hide (And.intro hPl (And.intro hPy (And.intro hIl (And.intro hTl hL))))
  clear hJ hY hap hPy hG hg hq hU hX hBU hZ hPl hJU hUs hIl hTl hL
  go_enter Tryz.func17, Tryz.ntmps17
  go_upto_region 1 with fail
  rw [← HU.out, ← HX.out]
  go_wp2_with fail
  refine HR.out.mono ?_
  rintro e w1 ⟨t, ht, rfl, Pj', hRU⟩
  obtain ⟨hPl, hPy, hIl, hTl, hL⟩ := HP.out
  have ht2 : t = L.length := by simp at ht; omega
  subst ht2
  have hc : (if ([] : List RR).length + L.length < L.length then (2 : Int) else 0) = 0 := by rw [if_neg (by simp)]
  rw [hc]
  have eL : (L.drop ([] : List RR).length).take L.length = L := by simp
  have hj := hRU.j
  have hy := hRU.y
  rw [eL, List.nil_append] at hj
  rw [eL] at hy
  have hj2 := hj.2
  rw [List.drop_eq_nil_of_le (by rw [yRs_len]; omega)] at hj2
  obtain ⟨hPb, hPl', ids0, tx0, hJB, hI0, hT0⟩ := hj2
  have HS := hide (result_any hJB hI0 hT0 hIl hTl)
  have HF1 := hide (And.intro hy (And.intro hRU.g (And.intro hRU.p (And.intro hPb (And.intro hJB (And.intro hI0 hT0))))))
  clear hj hy hJB hI0 hT0 hRU hPb hPl' hPl hPy hIl hTl hL eL hc ht
  go_wp2_with fail
  refine HS.out.mono ?_
  rintro e w2 ⟨ids, tx, rfl, h1, h2, hB2⟩
  obtain ⟨hy, hg, hp, hPb, hJB, hI0, hT0⟩ := HF1.out
  obtain ⟨hPl, hPy, _⟩ := HP.out
  obtain ⟨hBU, hZ⟩ := HZ.out
  have hX := HX.out
  have hUs := hBU.size
  have hXl := hZ.lt
  have hgs := hg.size
  have hB2s := hB2.size
  have hXP : ¬ (P X0 ∨ Py X0) := by
    rintro (h | h)
    · have := hPl _ h; omega
    · have := hPy _ h; omega
  have hXQ : ¬ (P X0 ∨ Qs bs X0) := by
    rintro (h | h)
    · exact hXP (.inl h)
    · exact hXP (.inr (hy.qs h))
  have hZ2 : R7 w2 X0 0 0 (.slice none 0 0) (.slice none 0 0) := (hZ.gs hg hXQ).bel hB2
  obtain ⟨ai, ci, hei⟩ := h1.shp
  obtain ⟨at_, ct, het⟩ := h2.shp
  have hrun := store_run (t := 56) (o := 0) hZ2 #[.int .i64 (C (yRs S L)), .string ⟨#[]⟩, .int .i64 (N (yRs S L)), ids, tx, .slice none 0 0, .slice none 0 0] (Nat.le_of_ble_eq_true rfl) Tryz.sizeR (by rw [hei, het]; simp [Value.oneCell'])
  obtain ⟨V, hV⟩ : ∃ V, V = w2.setCells X0 0 [.int .i64 (C (yRs S L)), .string ⟨#[]⟩, .int .i64 (N (yRs S L)), ids, tx, .slice none 0 0, .slice none 0 0] := ⟨_, rfl⟩
  have hRV : R7 V X0 (C (yRs S L)) (N (yRs S L)) ids tx := by
    have h1 := setCells_self [.int .i64 (C (yRs S L)), .string ⟨#[]⟩, .int .i64 (N (yRs S L)), ids, tx, .slice none 0 0, .slice none 0 0] 0 w2 _ hZ2
    rw [← hV] at h1
    simpa [putAll, R7] using h1
  simp only [] at hrun
  rw [← hV] at hrun
  have hGV : Gs (fun i => i = X0) w2 V := by rw [hV]; exact Gs.cells _ _ _ (Gs.refl _ _) (.inl rfl)
  have hVs := hGV.size
  have r0 : V.cell? ⟨X0, 0, none⟩ = some (.int .i64 (C (yRs S L))) := hRV.cell 0
  have r1 : V.cell? ⟨X0, 1, none⟩ = some (.string ⟨#[]⟩) := hRV.cell 1
  have r2 : V.cell? ⟨X0, 2, none⟩ = some (.int .i64 (N (yRs S L))) := hRV.cell 2
  have r3 : V.cell? ⟨X0, 3, none⟩ = some ids := hRV.cell 3
  have r4 : V.cell? ⟨X0, 4, none⟩ = some tx := hRV.cell 4
  have r5 : V.cell? ⟨X0, 5, none⟩ = some (.slice none 0 0) := hRV.cell 5
  have r6 : V.cell? ⟨X0, 6, none⟩ = some (.slice none 0 0) := hRV.cell 6
  have HE : Hid (TS w.heap.size ids (I (yRs S L)) V ∧ TS w.heap.size tx (T (yRs S L)) V ∧ RN9 b C N I T L P Py w V v S bs) := by
    have k1 := h1.lt
    have k2 := h2.lt
    have hXl1 : X0 < w1.heap.size := by omega
    have hXPj : ¬ Pj' X0 := fun h => by
      rcases hp X0 h with h | h
      · exact hXP (.inl h)
      · omega
    refine ⟨(h1.kb fun i hi => hGV.block i (k1 i hi).2 (by have := (k1 i hi).1; omega)).low (by omega), (h2.kb fun i hi => hGV.block i (k2 i hi).2 (by have := (k2 i hi).1; omega)).low (by omega), ?_, ?_, ?_⟩
    · exact (hy.bel hB2).gs hGV fun i hi e => hXP (.inr (e ▸ hi))
    · refine ((((Gs.of_below _ hBU).trans hg).bel hB2).tr2 (hGV.mono (q := fun i => w.heap.size ≤ i) fun i _ e => by omega) fun i hi e => by omega)
    · have hfin : FinR b C N I T (yRs S L) Pj' w1 := ⟨ids0, tx0, hJB, hI0, hT0⟩
      have h3 := (fkR b C N I T).gs (p := fun i => ¬ Pj' i) hfin (w' := V) (((Gs.refl _ _).bel hB2).trans (hGV.mono fun i _ e h => hXPj (e ▸ h))) hPb (fun i hi hn => hn hi)
      exact ⟨Pj', h3, fun i hi => by
        rcases hp i hi with h | h
        · exact .inl h
        · exact .inr (by omega)⟩
  clear hV hRV hGV hVs hy hg hp hPb hJB hI0 hT0 hPl hPy hBU hZ hX hUs hXl hgs hB2s hXP hXQ hZ2 h1 h2 hB2 HF1
  subst hei
  subst het
  generalize (I (yRs S L)).length = li at *
  generalize (T (yRs S L)).length = lt at *
  go_wp2_with (refine wpList_store_run rfl 56 _ _ rfl _ _ rfl rfl hrun ?_)
  exact bodyPost_ret (v := .tuple #[.agg #[.int .i64 (C (yRs S L)), .string ⟨#[]⟩, .int .i64 (N (yRs S L)), .slice ai li ci, .slice at_ lt ct, .slice none 0 0, .slice none 0 0], .bool true]) (by simp [results, Tryz.results17, go_sem, r0, r1, r2, r3, r4, r5, r6]) rfl ⟨_, _, rfl, HE.out⟩
end
/-- Pointers as cells. -/
def pz (b : Nat) : List Value := [.pointer (some ⟨b, 0, none⟩)]
theorem pz_len (b : Nat) : (pz b).length = 1 := rfl
theorem pz_one (b : Nat) : ∀ u ∈ pz b, u.oneCell' = true := by intro u hu; simp [pz] at hu; subst hu; rfl
theorem Tryz.infoPz : (Tryz.prog.info? 25).map (fun i => (i.zero, i.size, i.bytes)) = some (some (.pointer none), 1, 8) := by kernel_rfl
def sq (q : Int) : SS := ⟨q, 0, 0, false, []⟩
theorem sq_go (q : Int) (t : Nat) : GO t (sq q) := ⟨List.Pairwise.nil, fun p hp => by simp [sq] at hp, Nat.zero_le _, Int.le_refl _, by show (0 : Int) ≤ (t : Int); omega, by show (0 : Int) ≤ 1048576; omega⟩
/-- Stores that were made. -/
structure YB (q : Int) (w wr : World) (sv : Value) (bs : List (Nat × Nat)) : Prop where
  s : OW pz 1 25 w.heap.size sv (bs.map (·.1)) wr
  px : ∀ e ∈ bs, PX wr e.1 e.2 (sq q) ∧ w.heap.size ≤ e.1 ∧ w.heap.size ≤ e.2
  ap : ∀ (i j : Nat) (e f : Nat × Nat), bs[i]? = some e → bs[j]? = some f → i ≠ j → e.1 ≠ f.1 ∧ e.2 ≠ f.2
  be : Below w.heap.size w wr
theorem snocGet {α : Type} {l : List α} {x y : α} {i : Nat} (h : (l ++ [x])[i]? = some y) : (i < l.length ∧ l[i]? = some y) ∨ (i = l.length ∧ y = x) := by
  by_cases hi : i < l.length
  · rw [List.getElem?_append_left hi] at h; exact .inl ⟨hi, h⟩
  · rw [List.getElem?_append_right (by omega)] at h
    have : i - l.length = 0 := by
      have := (List.getElem?_eq_some_iff.1 h).1
      simp at this; omega
    rw [this] at h
    simp at h
    exact .inr ⟨by omega, h.symm⟩
section
variable {q : Int} {w wr w' : World} {sv : Value} {bs : List (Nat × Nat)}
theorem YB.bel (h : YB q w wr sv bs) (hb : Below wr.heap.size wr w') : YB q w w' sv bs :=
  ⟨h.s.keep hb, fun e he => ⟨PS.bel (h.px e he).1 hb, (h.px e he).2⟩, h.ap, h.be.trans (hb.mono h.be.size)⟩
theorem YB.yp (h : YB q w wr sv bs) : YP (fun i => w.heap.size ≤ i ∧ i < wr.heap.size) wr sv (List.replicate bs.length (sq q)) bs := by
  refine ⟨?_, by simp, ?_, ?_, h.ap⟩
  · obtain ⟨a, c, e, hc, hl | ⟨g, o, ea, hr, hg, hG⟩⟩ := h.s.ls (r := fun i => w.heap.size ≤ i ∧ i < wr.heap.size) pz_len (fun i hi => ⟨(h.s.lt i hi).1, (h.s.lt i hi).2⟩)
    · exact ⟨a, c, e, .inl hl⟩
    · refine ⟨a, c, e, .inr ⟨g, o, ea, hr, hg, fun i b hb => ?_⟩⟩
      have := hG i b hb 0 _ rfl
      rw [Nat.mul_one, Nat.add_zero] at this
      exact this
  · intro i e s he hs
    rw [List.getElem?_replicate] at hs
    split at hs
    · cases hs; exact (h.px e (List.mem_of_getElem? he)).1
    · cases hs
  · intro e he
    exact ⟨⟨(h.px e he).2.1, PS.lt (h.px e he).1⟩, ⟨(h.px e he).2.2, PS.mlt (h.px e he).1⟩⟩
/-- A store more. -/
theorem YB.more (h : YB q w wr sv bs) {b mb : Nat} (hX : PX wr b mb (sq q)) (hb : w.heap.size ≤ b) (hm : w.heap.size ≤ mb) (hd : ∀ e ∈ bs, e.1 ≠ b ∧ e.2 ≠ mb) (hl : bs.length ≤ 1000) :
    ∃ a c w', (Builtin.append_ #[23, 23] 23 #[sv, .slice (some ⟨wr.heap.size, 0, none⟩) 1 1]).run Tryz.prog (wr.alloc (.cells #[.pointer (some ⟨b, 0, none⟩)] 25)) = .ok (.slice a (bs.length + 1) c) w' ∧ YB q w w' (.slice a (bs.length + 1) c) (bs ++ [(b, mb)]) := by
  have hal : Below wr.heap.size wr (wr.alloc (.cells #[.pointer (some ⟨b, 0, none⟩)] 25)) := (Below.refl _ _).alloc (Nat.le_refl _) _
  have h' := h.bel hal
  have hws := h.be.size
  obtain ⟨v', w1, h1, h2, h3, h4⟩ := OW.app (ST := 23) pz_len (by decide) (fun x _ => pz_one x) Tryz.underlying23 Tryz.infoPz rfl h'.s (LS.one b 25 wr pz 1 (fun _ => True) trivial) (by simp; omega) (by simp; omega) (by simp; omega)
  obtain ⟨a, c, e⟩ := h2.shp
  have hle : ((bs.map (·.1)) ++ [b]).length = bs.length + 1 := by simp
  rw [hle] at e
  subst e
  have hsl := h'.s.lt
  have hst := h'.s.typ
  have hBw : Below w.heap.size w w1 := h'.be.grown h3 (by simp; omega) (fun k hk => (hsl k hk).1)
  refine ⟨a, c, w1, h1, ?_, ?_, ?_, hBw⟩
  · rw [List.map_append]; exact h2
  · have hpk : ∀ e : Nat × Nat, PX (wr.alloc (.cells #[.pointer (some ⟨b, 0, none⟩)] 25)) e.1 e.2 (sq q) → PX w1 e.1 e.2 (sq q) := fun e hX => by
      have hX' : PS _ e.1 e.2 (sq q).q (sq q).f (sq q).off (sq q).m (sq q).L := hX
      have g1 : Gs (fun i => sv.ownBlock = some i) (wr.alloc (.cells #[.pointer (some ⟨b, 0, none⟩)] 25)) w1 := ⟨h3.os, h3.tape, h3.output, h3.size, fun i hi hn => h3.block i hi (fun e => hn e.symm)⟩
      refine PS.gs hX' g1 (fun e' => ?_) (fun e' => ?_)
      · obtain ⟨c1, q1⟩ := hst _ e'
        rw [hX'.blk] at q1
        simp at q1
      · obtain ⟨c1, q1⟩ := hst _ e'
        exact hX'.map.notCells q1
    intro e he
    rcases List.mem_append.1 he with he | he
    · exact ⟨hpk e (h'.px e he).1, (h.px e he).2⟩
    · simp at he
      subst he
      exact ⟨hpk _ (PS.bel hX hal), hb, hm⟩
  · intro i j e f he hf hij
    rcases snocGet he with ⟨hi, he⟩ | ⟨hi, he⟩ <;> rcases snocGet hf with ⟨hj, hf⟩ | ⟨hj, hf⟩
    · exact h.ap i j e f he hf hij
    · subst hf; exact hd e (List.mem_of_getElem? he)
    · subst he; have := hd f (List.mem_of_getElem? hf); exact ⟨fun q => this.1 q.symm, fun q => this.2 q.symm⟩
    · omega
set_option maxRecDepth 100000 in
set_option maxHeartbeats 3200000 in
theorem yard_any (n : Nat) (hn : n ≤ 1000) (w : World) : Calls Tryz.prog 26 #[.int .i64 (n : Int)] w fun e w' => ∃ a c bs, e = .returned (.slice a n c) ∧ YB 1048576 w w' (.slice a n c) bs ∧ bs.length = n := by
  go_enter Tryz.func26, Tryz.ntmps26
  go_wp2
  go_loopw [3, 7] (fun sv i wr => ∃ (j : Nat) (bs : List (Nat × Nat)), j ≤ n ∧ i = .int .i64 j ∧ bs.length = j ∧ YB 1048576 w wr sv bs) (fun _ i _ => n - (intOf i).toNat)
  case atStart => exact ⟨0, [], by omega, rfl, rfl, ⟨OW.nil _ _ _ _ _, fun e he => by simp at he, fun i j e f he => by simp at he, Below.refl _ _⟩⟩
  case round =>
    obtain ⟨j, bs, hj, rfl, hbl, hB⟩ := hrel
    obtain ⟨asv, csv, hsv⟩ := hB.s.shp
    rw [List.length_map, hbl] at hsv
    subst hsv
    have HB := hide hB
    have HL := hide hbl
    clear hB hbl
    by_cases hlt : j < n
    · have b1 : (j : Int) < (n : Int) := by omega
      have HN := hide (new_ok 1048576 wr (by decide) (by decide))
      go_wp2_with fail
      refine HN.out.mono ?_
      rintro e w1 ⟨rfl, hP1, hB1⟩
      have hX1 : PX w1 (wr.heap.size + 1) wr.heap.size (sq 1048576) := hP1
      have hws := HB.out.be.size
      have hlt1 : ∀ e ∈ bs, e.1 < wr.heap.size ∧ e.2 < wr.heap.size := fun e he => ⟨PS.lt (HB.out.px e he).1, PS.mlt (HB.out.px e he).1⟩
      obtain ⟨a3, c3, w3, hr3, hY3⟩ := (HB.out.bel hB1).more hX1 (by omega) hws (fun e he => by have := hlt1 e he; omega) (by have := HL.out; omega)
      rw [HL.out] at hr3 hY3
      have HE := hide hY3
      clear hP1 hB1 hX1 hws hlt1 hY3
      go_wp2_with (at_builtin; refine Lib.wpList_append_run _ rfl _ _ _ _ rfl _ _ rfl rfl _ _ hr3 ?_)
      exact ⟨⟨j + 1, bs ++ [(wr.heap.size + 1, wr.heap.size)], by omega, by go_num, by simp [HL.out], HE.out⟩, by simp [intOf]; omega⟩
    · obtain rfl : j = n := by omega
      go_wp2
      go_ret
      exact ⟨_, _, bs, rfl, HB.out, HL.out⟩
end
end Go.Proofs.YtiecoplfiahpnaaGreat

namespace Go.Proofs.YtiecoplfiahpnaaGreat
open Go.RowKit Go.Lib Go.Maps
def wS : List SS := List.replicate 2 (sq 1048576)
def wL : List QT := pqn ⟨#[97]⟩ [⟨#[120]⟩, ⟨#[121]⟩]
theorem wR : yRs wS wL = [⟨0, ⟨#[]⟩, []⟩, ⟨0, ⟨#[]⟩, []⟩] := by kernel_rfl
theorem wLl : wL.length = 2 := by kernel_rfl
theorem wC : gC (okn (([⟨#[120]⟩, ⟨#[121]⟩] : List ByteArray).length : Int)) [] [⟨0, ⟨#[]⟩, []⟩, ⟨0, ⟨#[]⟩, []⟩] = 0 := by kernel_rfl
theorem wN : gN [⟨0, ⟨#[]⟩, []⟩, ⟨0, ⟨#[]⟩, []⟩] = 2 := by kernel_rfl
set_option maxRecDepth 100000 in
set_option maxHeartbeats 3200000 in
theorem works9 (w : World) : Calls Tryz.prog 7 #[] w fun e w' => e = .returned (.bool true) ∧ Below w.heap.size w w' := by
  have HY := hide (yard_any 2 (by decide) w)
  go_enter Tryz.func7, Tryz.ntmps7
  go_wp2_with fail
  refine HY.out.mono ?_
  rintro e w1 ⟨a, c, bs, rfl, hY, hbl⟩
  have hyp := hY.yp
  rw [hbl] at hyp
  obtain ⟨a', c', e0, h0 | ⟨g0, o0, ea, _⟩⟩ := hyp.rp
  · have := congrArg List.length h0
    simp [hbl] at this
  obtain ⟨rfl, -, rfl⟩ : a = a' ∧ _ ∧ c = c' := by simpa using e0
  subst ea
  have k1 := sl_eq Tryz.underlying23
  obtain ⟨W2, hW2⟩ : ∃ W2, W2 = w1.alloc (.cells #[.string ⟨#[120]⟩, .string ⟨#[121]⟩] 9) := ⟨_, rfl⟩
  have hB2 : Below w1.heap.size w1 W2 := by rw [hW2]; exact (Below.refl _ _).alloc (Nat.le_refl _) _
  have hd : LS t1 1 (fun _ => True) W2 (.slice (some ⟨w1.heap.size, 0, none⟩) 2 2) [⟨#[120]⟩, ⟨#[121]⟩] := by
    have hblk : W2.heap[w1.heap.size]? = some (.cells #[.string ⟨#[120]⟩, .string ⟨#[121]⟩] 9 (0, 0)) := by rw [hW2]; exact heap_alloc_new w1 _
    refine ⟨_, _, rfl, (fun e => by cases e), .inr ⟨w1.heap.size, 0, rfl, trivial, lt_of_block hblk, ?_⟩⟩
    intro i x hx j u hu
    rw [cell_of_row _ _ _ _ _ _ hblk]
    have hj : j = 0 := by
      have := (List.getElem?_eq_some_iff.1 hu).1
      rw [t1_len] at this; omega
    subst hj
    have hi : i = 0 ∨ i = 1 := by
      have := (List.getElem?_eq_some_iff.1 hx).1
      simp at this; omega
    rcases hi with rfl | rfl <;> simp at hx <;> subst hx <;> simpa [t1] using hu
  have HP := hide (putjob_any (nm := ⟨#[97]⟩) hd (by simp))
  have HW := hide hW2
  have HF1 := hide (And.intro hyp (And.intro hY.be hB2))
  clear hY hyp hbl e0 hW2 hB2 hd
  go_upto_region 4 with fail
  go_wp2_with fail
  rw [← HW.out]
  refine HP.out.mono ?_
  rintro e w3 ⟨b, P, rfl, hJ, hB3, hP, _⟩
  obtain ⟨hyp, hbe, hB2⟩ := HF1.out
  have hs2 := hB2.size
  have hs1 := hbe.size
  have hR := run_job hJ ((hyp.bel hB2).bel hB3) (fun i hi h => by have := hP i hi; omega) (fun i hi => by have := hB3.size; omega) (g := 0) (fun s hs => by
    have : s = sq 1048576 := (List.mem_replicate.1 hs).2
    rw [this]; exact sq_go _ _) (by have := wLl; unfold wL at this; omega) (by have := wLl; unfold wL at this; omega) (by
      intro q hq
      have : q = ⟨0, 1, ⟨#[97]⟩, ⟨#[120]⟩⟩ ∨ q = ⟨1, 1, ⟨#[97]⟩, ⟨#[121]⟩⟩ := by simpa [pqn, pq] using hq
      rcases this with rfl | rfl <;> exact ⟨by decide, by decide⟩) (by simp [noT]) (by simp [noT])
  have eR : yRs (List.replicate 2 (sq 1048576)) (pqn ⟨#[97]⟩ [⟨#[120]⟩, ⟨#[121]⟩]) = [⟨0, ⟨#[]⟩, []⟩, ⟨0, ⟨#[]⟩, []⟩] := wR
  have hR2 := hR
  rw [eR, wC, wN] at hR2
  have HR := hide hR2
  have HF2 := hide (And.intro hbe (And.intro hB2 (And.intro hB3 (And.intro hP (fun i hi => hyp.qs (i := i) hi)))))
  clear hyp hbe hB2 hs2 hs1 hJ hB3 hP hR hR2 eR
  go_wp2_with fail
  refine HR.out.mono ?_
  rintro e w4 ⟨ids, tx, rfl, hI, hT, hRN⟩
  obtain ⟨P', ⟨ids0, tx0, hJB, _, _⟩, _⟩ := hRN.f
  have e2 : ((yRs (List.replicate 2 (sq 1048576)) (pqn ⟨#[97]⟩ [⟨#[120]⟩, ⟨#[121]⟩])).length : Int) = 2 := by rw [show yRs (List.replicate 2 (sq 1048576)) (pqn ⟨#[97]⟩ [⟨#[120]⟩, ⟨#[121]⟩]) = _ from wR]; rfl
  rw [e2] at hJB
  obtain ⟨ai, ci, hei⟩ := hI.shp
  obtain ⟨at_, ct, het⟩ := hT.shp
  subst hei
  subst het
  obtain ⟨W5, hW5⟩ : ∃ W5, W5 = w4.alloc (.cells #[.int .i64 0, .string ⟨#[]⟩, .int .i64 2, .slice ai 0 ci, .slice at_ 0 ct, .slice none 0 0, .slice none 0 0] 56) := ⟨_, rfl⟩
  have hB5 : Below w4.heap.size w4 W5 := by rw [hW5]; exact (Below.refl _ _).alloc (Nat.le_refl _) _
  have h5 : R7 W5 w4.heap.size 0 2 (.slice ai 0 ci) (.slice at_ 0 ct) := by rw [hW5]; exact heap_alloc_new w4 _
  have y0 : W5.cell? ⟨w4.heap.size, 0, none⟩ = some (.int .i64 0) := h5.cell 0
  have y2 : W5.cell? ⟨w4.heap.size, 2, none⟩ = some (.int .i64 2) := h5.cell 2
  have HS := hide (steps_any (hJB.bel hB5))
  have HE : Hid (Below w.heap.size w W5) := by
    obtain ⟨hbe, hB2, hB3, hP, hqs⟩ := HF2.out
    have s1 := hbe.size
    have s2 := hB2.size
    have s3 := hB3.size
    have hb3 : Below w.heap.size w w3 := hbe.trans ((hB2.trans (hB3.mono s2)).mono s1)
    have hb4 : Below w.heap.size w w4 := hRN.g.below hb3 hb3.size fun i hi => by
      rcases hi with h | h
      · have := hP i h; omega
      · have := hqs i h; omega
    exact hb4.trans (hB5.mono hb4.size)
  have HW5 := hide hW5
  clear hI hT hRN hJB e2 hW5 hB5 h5
  go_upto_region 6 with fail
  have hli : (noT [⟨0, ⟨#[]⟩, []⟩, ⟨0, ⟨#[]⟩, []⟩]).length = 0 := rfl
  rw [hli, ← HW5.out]
  go_wp2_with (go_at_call 28; refine HS.out.mono ?_; rintro e w6 ⟨rfl, rfl⟩)
  go_ret
  exact ⟨rfl, HE.out⟩
end Go.Proofs.YtiecoplfiahpnaaGreat

namespace Go.Proofs.YtiecoplfiahpnaaGreat
open Go.RowKit Go.Lib Go.Maps
section
variable {w w' : World} {a1 a2 b1 b2 : Option Addr} {l1 l2 m1 m2 d1 d2 e1 e2 : Nat} {I T : List ByteArray}
set_option maxRecDepth 100000 in
set_option maxHeartbeats 3200000 in
theorem same9 (c n : Int) (h1 : TR w (.slice a1 l1 d1) I) (h2 : TR w (.slice a2 l2 d2) I) (k1 : TR w (.slice b1 m1 e1) T) (k2 : TR w (.slice b2 m2 e2) T) (hI : I.length ≤ 1000000000) (hT : T.length ≤ 1000000000) :
    Calls Tryz.prog 42 #[.agg #[.int .i64 c, .string ⟨#[]⟩, .int .i64 n, .slice a1 l1 d1, .slice b1 m1 e1, .slice none 0 0, .slice none 0 0], .agg #[.int .i64 c, .string ⟨#[]⟩, .int .i64 n, .slice a2 l2 d2, .slice b2 m2 e2, .slice none 0 0, .slice none 0 0]] w fun e w' => e = .returned (.bool true) ∧ Below w.heap.size w w' := by
  obtain ⟨U, hU⟩ : ∃ U, U = (w.alloc (.cells #[.int .i64 c, .string ⟨#[]⟩, .int .i64 n, .slice a1 l1 d1, .slice b1 m1 e1, .slice none 0 0, .slice none 0 0] 56)).alloc (.cells #[.int .i64 c, .string ⟨#[]⟩, .int .i64 n, .slice a2 l2 d2, .slice b2 m2 e2, .slice none 0 0, .slice none 0 0] 56) := ⟨_, rfl⟩
  obtain ⟨X, hX⟩ : ∃ X, X = w.heap.size := ⟨_, rfl⟩
  have hBU : Below w.heap.size w U := by rw [hU]; exact ((Below.refl _ _).alloc (Nat.le_refl _) _).alloc (by simp) _
  have hx : R7 U X c n (.slice a1 l1 d1) (.slice b1 m1 e1) := by rw [hU, hX]; unfold R7; rw [Below.heap_alloc _ _ _ (by simp)]; exact heap_alloc_new w _
  have hy : R7 U (X + 1) c n (.slice a2 l2 d2) (.slice b2 m2 e2) := by
    rw [hU, hX]
    have := heap_alloc_new (w.alloc (.cells #[.int .i64 c, .string ⟨#[]⟩, .int .i64 n, .slice a1 l1 d1, .slice b1 m1 e1, .slice none 0 0, .slice none 0 0] 56)) (.cells #[.int .i64 c, .string ⟨#[]⟩, .int .i64 n, .slice a2 l2 d2, .slice b2 m2 e2, .slice none 0 0, .slice none 0 0] 56 (0, 0))
    simpa [R7] using this
  have x0 : U.cell? ⟨X, 0, none⟩ = some (.int .i64 c) := hx.cell 0
  have x1 : U.cell? ⟨X, 1, none⟩ = some (.string ⟨#[]⟩) := hx.cell 1
  have x2 : U.cell? ⟨X, 2, none⟩ = some (.int .i64 n) := hx.cell 2
  have x3 : U.cell? ⟨X, 3, none⟩ = some (.slice a1 l1 d1) := hx.cell 3
  have x4 : U.cell? ⟨X, 4, none⟩ = some (.slice b1 m1 e1) := hx.cell 4
  have x5 : U.cell? ⟨X, 5, none⟩ = some (.slice none 0 0) := hx.cell 5
  have x6 : U.cell? ⟨X, 6, none⟩ = some (.slice none 0 0) := hx.cell 6
  have y0 : U.cell? ⟨X + 1, 0, none⟩ = some (.int .i64 c) := hy.cell 0
  have y1 : U.cell? ⟨X + 1, 1, none⟩ = some (.string ⟨#[]⟩) := hy.cell 1
  have y2 : U.cell? ⟨X + 1, 2, none⟩ = some (.int .i64 n) := hy.cell 2
  have y3 : U.cell? ⟨X + 1, 3, none⟩ = some (.slice a2 l2 d2) := hy.cell 3
  have y4 : U.cell? ⟨X + 1, 4, none⟩ = some (.slice b2 m2 e2) := hy.cell 4
  have y5 : U.cell? ⟨X + 1, 5, none⟩ = some (.slice none 0 0) := hy.cell 5
  have y6 : U.cell? ⟨X + 1, 6, none⟩ = some (.slice none 0 0) := hy.cell 6
  have HS1 := hide (sameTexts_eq (h1.bel hBU) (h2.bel hBU) hI)
  have HK := hide (And.intro (k1.bel hBU) (And.intro (k2.bel hBU) hT))
  have HR := hide (And.intro hx (And.intro hy hBU))
  have HU := hide hU
  have HX := hide hX
  clear hU hX hBU hx hy h1 h2 k1 k2 hI hT
  go_enter Tryz.func42, Tryz.ntmps42
  go_upto_region 1 with fail
  rw [← HU.out, ← HX.out]
  go_wp2_with fail
  refine HS1.out.mono ?_
  rintro e w1 ⟨rfl, hB1⟩
  obtain ⟨hx, hy, hBU⟩ := HR.out
  obtain ⟨k1, k2, hT⟩ := HK.out
  have hx1 := hx.bel hB1
  have hy1 := hy.bel hB1
  clear x0 x1 x2 x3 x4 x5 x6 y0 y1 y2 y3 y4 y5 y6
  have x4 : w1.cell? ⟨X, 4, none⟩ = some (.slice b1 m1 e1) := hx1.cell 4
  have y4 : w1.cell? ⟨X + 1, 4, none⟩ = some (.slice b2 m2 e2) := hy1.cell 4
  have HS2 := hide (sameTexts_eq (k1.bel hB1) (k2.bel hB1) hT)
  have HR1 := hide (And.intro hx1 (And.intro hy1 (hBU.trans (hB1.mono hBU.size))))
  clear hx hy hBU k1 k2 hT hx1 hy1 hB1
  go_wp2_with fail
  refine HS2.out.mono ?_
  rintro e w2 ⟨rfl, hB2⟩
  obtain ⟨hx1, hy1, hB⟩ := HR1.out
  have hx2 := hx1.bel hB2
  have hy2 := hy1.bel hB2
  clear x4 y4
  have x5 : w2.cell? ⟨X, 5, none⟩ = some (.slice none 0 0) := hx2.cell 5
  have x6 : w2.cell? ⟨X, 6, none⟩ = some (.slice none 0 0) := hx2.cell 6
  have y5 : w2.cell? ⟨X + 1, 5, none⟩ = some (.slice none 0 0) := hy2.cell 5
  have y6 : w2.cell? ⟨X + 1, 6, none⟩ = some (.slice none 0 0) := hy2.cell 6
  have HE := hide (hB.trans (hB2.mono hB.size))
  clear hx1 hy1 hB hx2 hy2 hB2
  go_wp2
  go_ret
  exact ⟨rfl, HE.out⟩
end
/-- What befalls a store. -/
def fltS (s : SS) (k : Nat) : SS := if k = 1 then { s with off := true } else if k = 2 then { s with off := false } else if k = 3 then { s with f := 1 } else s
section
variable {w w' : World} {b mb rb : Nat} {s : SS}
set_option maxRecDepth 100000 in
set_option maxHeartbeats 3200000 in
theorem fault9 (hX : PX w b mb s) (hR : RD w rb s) (kind : Int) :
    Calls Tryz.prog 9 #[.pointer (some ⟨b, 0, none⟩), .pointer (some ⟨rb, 0, none⟩), .int .i64 kind] w fun e w' => e = .returned (.tuple #[]) ∧ PX w' b mb (fltS s (amg kind 5)) ∧ RD w' rb (fltS s (amg kind 5)) ∧ Gs (fun i => i = b ∨ i = mb ∨ i = rb) w w' := by
  have HA := hide (among_any w kind 5 (by decide) (by decide))
  obtain ⟨k, hk⟩ : ∃ k, k = amg kind 5 := ⟨_, rfl⟩
  rw [← hk] at HA ⊢
  have HX := hide hX
  have HR := hide hR
  clear hk hX hR
  have hk5 : ∀ j : Nat, ((k : Nat) : Int) = j ↔ k = j := fun j => by omega
  by_cases h1 : k = 1
  · subst h1
    clear hk5
    have HD := hide (down_any HX.out true)
    go_enter Tryz.func9, Tryz.ntmps9
    go_wp2_with (go_at_call 8; refine HA.out.mono ?_; rintro e w1 ⟨rfl, rfl⟩)
    refine HD.out.mono ?_
    rintro e w2 ⟨rfl, hX2, hG2⟩
    have hR2 := HR.out.prog HX.out hG2
    obtain ⟨v, hS, hO⟩ := hR2
    have y3 := hS.c3
    have f3 := hS.free 3
    have hG3 : Gs (fun j => j = rb) w2 (w2.setCell ⟨rb, 3, none⟩ (.bool true)) := (Gs.refl (fun j => j = rb) w2).set (a := ⟨rb, 3, none⟩) (.inl rfl) (.bool true)
    have hX2' : PX w2 b mb { s with off := true } := hX2
    have HE : Hid (PX (w2.setCell ⟨rb, 3, none⟩ (.bool true)) b mb { s with off := true } ∧ RD (w2.setCell ⟨rb, 3, none⟩ (.bool true)) rb { s with off := true } ∧ Gs (fun i => i = b ∨ i = mb ∨ i = rb) w1 (w2.setCell ⟨rb, 3, none⟩ (.bool true))) := by
      refine ⟨hX2'.doc ⟨v, hS, hO⟩ hG3, ⟨v, hS.s3 true, hO.sb ⟨_, _, _, _, _, hS⟩ _ _⟩, ?_⟩
      exact (hG2.mono fun i _ h => by
        rcases h with h | h
        · exact .inl h
        · exact .inr (.inl h)).trans (hG3.mono fun i _ h => .inr (.inr h))
    clear hX2 hG2 hS hO hG3 hX2'
    go_wp2
    go_end0
    exact ⟨rfl, HE.out⟩
  · by_cases h2 : k = 2
    · subst h2
      clear hk5 h1
      have HD := hide (down_any HX.out false)
      go_enter Tryz.func9, Tryz.ntmps9
      go_wp2_with (go_at_call 8; refine HA.out.mono ?_; rintro e w1 ⟨rfl, rfl⟩)
      refine HD.out.mono ?_
      rintro e w2 ⟨rfl, hX2, hG2⟩
      have hR2 := HR.out.prog HX.out hG2
      obtain ⟨v, hS, hO⟩ := hR2
      have y3 := hS.c3
      have f3 := hS.free 3
      have hG3 : Gs (fun j => j = rb) w2 (w2.setCell ⟨rb, 3, none⟩ (.bool false)) := (Gs.refl (fun j => j = rb) w2).set (a := ⟨rb, 3, none⟩) (.inl rfl) (.bool false)
      have hX2' : PX w2 b mb { s with off := false } := hX2
      have HE : Hid (PX (w2.setCell ⟨rb, 3, none⟩ (.bool false)) b mb { s with off := false } ∧ RD (w2.setCell ⟨rb, 3, none⟩ (.bool false)) rb { s with off := false } ∧ Gs (fun i => i = b ∨ i = mb ∨ i = rb) w1 (w2.setCell ⟨rb, 3, none⟩ (.bool false))) := by
        refine ⟨hX2'.doc ⟨v, hS, hO⟩ hG3, ⟨v, hS.s3 false, hO.sb ⟨_, _, _, _, _, hS⟩ _ _⟩, ?_⟩
        exact (hG2.mono fun i _ h => by
          rcases h with h | h
          · exact .inl h
          · exact .inr (.inl h)).trans (hG3.mono fun i _ h => .inr (.inr h))
      clear hX2 hG2 hS hO hG3 hX2'
      go_wp2
      go_end0
      exact ⟨rfl, HE.out⟩
    · by_cases h3 : k = 3
      · subst h3
        clear hk5 h1 h2
        have HD := hide (fail_any HX.out 1)
        go_enter Tryz.func9, Tryz.ntmps9
        go_wp2_with (go_at_call 8; refine HA.out.mono ?_; rintro e w1 ⟨rfl, rfl⟩)
        refine HD.out.mono ?_
        rintro e w2 ⟨rfl, hX2, hG2⟩
        have hR2 := HR.out.prog HX.out hG2
        obtain ⟨v, hS, hO⟩ := hR2
        have HF := hide (rfail_any hS hO 1)
        have HX2 := hide (And.intro hX2 hG2)
        have HSO := hide (And.intro hS hO)
        clear hX2 hG2 hS hO
        go_wp2_with fail
        refine HF.out.mono ?_
        rintro e w3 ⟨rfl, ⟨hS3, hO3⟩, hG3⟩
        have HE : Hid (PX w3 b mb { s with f := 1 } ∧ RD w3 rb { s with f := 1 } ∧ Gs (fun i => i = b ∨ i = mb ∨ i = rb) w1 w3) := by
          obtain ⟨hX2, hG2⟩ := HX2.out
          have hX2' : PX w2 b mb { s with f := 1 } := hX2
          refine ⟨hX2'.doc (s' := s) ⟨v, HSO.out.1, HSO.out.2⟩ hG3, ⟨v, hS3, hO3⟩, ?_⟩
          exact (hG2.mono fun i _ h => by
            rcases h with h | h
            · exact .inl h
            · exact .inr (.inl h)).trans (hG3.mono fun i _ h => .inr (.inr h))
        clear hS3 hO3 hG3
        go_wp2
        go_end0
        exact ⟨rfl, HE.out⟩
      · have g1 : ¬ ((k : Nat) : Int) = 1 := by omega
        have g2 : ¬ ((k : Nat) : Int) = 2 := by omega
        have g3 : ¬ ((k : Nat) : Int) = 3 := by omega
        have HE : Hid (PX w b mb (fltS s k) ∧ RD w rb (fltS s k) ∧ Gs (fun i => i = b ∨ i = mb ∨ i = rb) w w) := by
          show PX w b mb (fltS s k) ∧ RD w rb (fltS s k) ∧ _
          rw [fltS, if_neg h1, if_neg h2, if_neg h3]
          exact ⟨HX.out, HR.out, Gs.refl _ _⟩
        clear hk5 h1 h2 h3
        go_enter Tryz.func9, Tryz.ntmps9
        go_wp2_with (go_at_call 8; refine HA.out.mono ?_; rintro e w1 ⟨rfl, rfl⟩)
        go_end0
        exact ⟨rfl, HE.out⟩
end
section
variable {w w' : World} {a : Option Addr} {c : Nat} {l : List ByteArray} {r : Nat → Prop}
def markB : ByteArray := ⟨#[109, 97, 114, 107]⟩
/-- A list lent, with a mark behind it. -/
structure LD (w w' : World) (g n c' : Nat) (l : List ByteArray) : Prop where
  own : TS w.heap.size (.slice (some ⟨g, 0, none⟩) (n + 1) c') (l ++ [markB]) w'
  len : n = l.length
  cap : n + 1 ≤ c'
  be : Below w.heap.size w w'
set_option maxRecDepth 100000 in
set_option maxHeartbeats 3200000 in
theorem lend9 (hl : LS t1 1 r w (.slice a l.length c) l) (hn : l.length * 16 + 16 ≤ 140737488355328) :
    Calls Tryz.prog 32 #[.slice a l.length c] w fun e w' => ∃ g c', e = .returned (.slice (some ⟨g, 0, none⟩) l.length c') ∧ LD w w' g l.length c' l := by
  have hal : Below w.heap.size w (w.alloc (.cells #[] 9)) := (Below.refl _ _).alloc (Nat.le_refl _) _
  obtain ⟨v1, w1, hr1, hO1, hg1, _⟩ := OW.app (ST := 33) t1_len (by decide) (fun x _ => t1_one x) Tryz.underlying33 Tryz.infoTx rfl (OW.empty t1 1 9 (Nat.le_refl w.heap.size)) (hl.bel hal) (by simp; omega) (by simp; omega) (by simp)
  rw [List.nil_append] at hO1
  have hB1 : Below w.heap.size w w1 := hal.grown hg1 (by simp) (fun k hk => by simp [Value.ownBlock] at hk; omega)
  have hal1 : Below w1.heap.size w1 (w1.alloc (.cells #[.string markB] 9)) := (Below.refl _ _).alloc (Nat.le_refl _) _
  obtain ⟨v2, w2, hr2, hO2', hg2, _⟩ := OW.app (ST := 33) (m := [markB]) t1_len (by decide) (fun x _ => t1_one x) Tryz.underlying33 Tryz.infoTx rfl (hO1.keep hal1) (LS.one markB 9 w1 t1 1 (fun _ => True) trivial) (by simp; omega) (by simp; omega) (Nat.le_trans hB1.size hal1.size)
  have hO2 := hO2'.ts
  have hb1 := hB1.trans (hal1.mono hB1.size)
  have hO1l := (hO1.keep hal1).lt
  have hb2 : Below w.heap.size w w2 := hb1.grown hg2 hb1.size (fun k hk => (hO1l k hk).1)
  obtain ⟨g2, c2, e2, hc2⟩ : ∃ g c', v2 = .slice (some ⟨g, 0, none⟩) (l.length + 1) c' ∧ l.length + 1 ≤ c' := by
    obtain ⟨h1, ⟨_, h2⟩ | ⟨g, cap, cur, e, hB, hg, hn, _, hs, ht⟩⟩ := hO2.own
    · simp at h2
    · exact ⟨g, cap, by rw [e]; simp, by simpa using hn⟩
  subst e2
  obtain ⟨a1, n1, c1, hv1⟩ : ∃ a n c, v1 = .slice a n c := by obtain ⟨a, c, e⟩ := hO1.shp; exact ⟨a, _, c, e⟩
  subst hv1
  have HE : Hid (LD w w2 g2 l.length c2 l) := ⟨hO2, rfl, hc2, hb2⟩
  have b1 : ((l.length : Nat) : Int) ≤ (c2 : Int) := by omega
  have hnl : l.length ≤ 9000000000000 := by omega
  obtain ⟨m, hm⟩ : ∃ m, m = l.length := ⟨_, rfl⟩
  rw [← hm] at hr1 hr2 HE b1 hnl ⊢
  clear hl hn hal hO1 hg1 hB1 hO2 hO2' hal1 hg2 hb1 hO1l hb2 hc2 hm
  have b0 : (0 : Int) ≤ (m : Int) := by omega
  go_enter Tryz.func32, Tryz.ntmps32
  go_wp2_with (first | (at_builtin; refine Lib.wpList_append_run _ rfl _ _ _ _ rfl _ _ rfl rfl _ _ hr1 ?_) | (at_builtin; refine Lib.wpList_append_run _ rfl _ _ _ _ rfl _ _ rfl rfl _ _ hr2 ?_))
  go_ret
  exact ⟨g2, c2, rfl, HE.out⟩
end
end Go.Proofs.YtiecoplfiahpnaaGreat

namespace Go.Proofs.YtiecoplfiahpnaaGreat
open Go.RowKit Go.Lib Go.Maps
set_option maxRecDepth 100000 in
set_option maxHeartbeats 800000 in
theorem sameTexts_big {w : World} {u v : Value} {l : List ByteArray} (hu : TR w u l) (hv : TR w v l) (hl : l.length ≤ 4611686018427387904) :
    Calls Tryz.prog 11 #[u, v] w fun e w' => e = .returned (.bool true) ∧ Below w.heap.size w w' := by
  obtain ⟨a, c, rfl, hA⟩ := hu
  obtain ⟨a', c', rfl, hA'⟩ := hv
  obtain ⟨N, hN⟩ : ∃ N, N = l.length := ⟨_, rfl⟩
  have HN := hide hN
  have hNl : N ≤ 4611686018427387904 := by omega
  rw [← hN]
  have HA := hide hA
  have HA' := hide hA'
  clear hN hA hA' hl
  go_enter Tryz.func11, Tryz.ntmps11
  go_wp2
  go_loopw [5] (fun i wr => ∃ j : Nat, j ≤ N ∧ i = .int .i64 j ∧ Below w.heap.size w wr) (fun i _ => N - (intOf i).toNat)
  case atStart => exact ⟨0, Nat.zero_le _, rfl, Below.refl _ _⟩
  case round =>
    obtain ⟨j, hj, rfl, hb⟩ := hrel
    have HB := hide hb
    by_cases hlt : j < N
    · have hjl : j < l.length := by rw [← HN.out]; omega
      obtain ⟨x, hx⟩ : ∃ x, l[j]? = some x := ⟨_, List.getElem?_eq_getElem hjl⟩
      obtain ⟨g, o, rfl, hg, hC⟩ := HA.out.resolve_left (by intro e; rw [e] at hx; simp at hx)
      obtain ⟨g', o', rfl, hg', hC'⟩ := HA'.out.resolve_left (by intro e; rw [e] at hx; simp at hx)
      have z1 := (hb.cell (p := ⟨g, o + j, none⟩) hg).trans (hC j x hx)
      have z2 := (hb.cell (p := ⟨g', o' + j, none⟩) hg').trans (hC' j x hx)
      have b1 : (j : Int) < (N : Int) := by omega
      have b0 : (0 : Int) ≤ (j : Int) := by omega
      have HB2 := hide HB.out.drew
      clear hC hC' hx hb
      go_upto_region 6 with fail
      go_region
      go_wp2
      exact ⟨⟨j + 1, by omega, by go_num, HB2.out⟩, by simp [intOf]; omega⟩
    · obtain rfl : j = N := by omega
      clear hb
      go_wp2
      go_ret
      exact ⟨rfl, HB.out⟩

set_option maxRecDepth 100000 in
set_option maxHeartbeats 800000 in
theorem spoil_big {w : World} {B : Nat} {v : Value} {l : List ByteArray} (h : TS B v l w) (hl : l.length ≤ 4611686018427387904) :
    Calls Tryz.prog 34 #[v] w fun e w' => e = .returned (.tuple #[]) ∧ Gs (fun i => v.ownBlock = some i) w w' := by
  obtain ⟨h1, ⟨rfl, h2⟩ | ⟨g, cap, cur, rfl, hB, hg, hn, hcc, hs, ht⟩⟩ := h.own
  · go_enter Tryz.func34, Tryz.ntmps34
    go_wp2
    go_loopw [2] (fun i wr => i = .int .i64 0 ∧ wr = w) (fun _ _ => 0)
    case atStart => exact ⟨rfl, rfl⟩
    case round =>
      obtain ⟨rfl, rfl⟩ := hrel
      go_wp2
      go_end0
      exact ⟨rfl, Gs.refl _ _⟩
  · obtain ⟨N, hN⟩ : ∃ N, N = l.length := ⟨_, rfl⟩
    rw [← hN] at hn hl ⊢
    have hcs : N ≤ cur.size := by
      have := congrArg List.length ht
      simp [tc] at this
      omega
    have HG := hide hg
    clear h h1 hg ht hs hcc hn hN
    go_enter Tryz.func34, Tryz.ntmps34
    go_wp2
    go_loopw [2] (fun i wr => ∃ (j : Nat) (cu : Array Value), j ≤ N ∧ i = .int .i64 j ∧ wr.heap[g]? = some (.cells cu 9 (0, 0)) ∧ N ≤ cu.size ∧ Gs (fun i => (Value.slice (some ⟨g, 0, none⟩) N cap).ownBlock = some i) w wr) (fun i _ => N - (intOf i).toNat)
    case atStart => exact ⟨0, cur, Nat.zero_le _, rfl, HG.out, hcs, Gs.refl _ _⟩
    case round =>
      obtain ⟨j, cu, hj, rfl, hgr, hcu, hG⟩ := hrel
      by_cases hlt : j < N
      · have b1 : (j : Int) < (N : Int) := by omega
        have b0 : (0 : Int) ≤ (j : Int) := by omega
        have y1 : wr.cell? ⟨g, j, none⟩ = some (cu[j]'(by omega)) := by simp [World.cell?, hgr]
        have z1 : wr.frozen? ⟨g, j, none⟩ = false := by simp [World.frozen?, hgr]
        have HE : Hid ((wr.setCell ⟨g, j, none⟩ (.string ⟨#[115, 112, 111, 105, 108, 116]⟩)).heap[g]? = some (.cells (cu.setIfInBounds j (.string ⟨#[115, 112, 111, 105, 108, 116]⟩)) 9 (0, 0)) ∧ Gs (fun i => (Value.slice (some ⟨g, 0, none⟩) N cap).ownBlock = some i) w (wr.setCell ⟨g, j, none⟩ (.string ⟨#[115, 112, 111, 105, 108, 116]⟩))) :=
          ⟨heap_set_self hgr, hG.set (a := ⟨g, j, none⟩) (.inl rfl) _⟩
        clear hgr hG
        generalize cu[j]'(by omega) = uu at *
        go_wp2
        exact ⟨⟨j + 1, _, by omega, by go_num, HE.out.1, by simpa using hcu, HE.out.2⟩, by simp [intOf]; omega⟩
      · obtain rfl : j = N := by omega
        have HE := hide hG
        clear hG hgr
        go_wp2
        go_end0
        exact ⟨rfl, HE.out⟩

/-! ### both stores, side by side -/
section
variable {w w0 w' : World} {a : Option Addr} {c g n c' : Nat} {l : List ByteArray} {r : Nat → Prop}
theorem LD.tr (h : LD w0 w g n c' l) (hb : Below w.heap.size w w') : TR w' (.slice (some ⟨g, 0, none⟩) n c') l ∧ w'.cell? ⟨g, n, none⟩ = some (.string markB) := by
  have hT := h.own.keep hb
  obtain ⟨a9, c9, e9, _, h3 | ⟨g9, o9, ea, _, hg, hG⟩⟩ := hT.ls (r := fun _ => True) (fun _ _ => trivial)
  · have := congrArg List.length h3; simp at this
  · rw [ea] at e9
    simp only [Value.slice.injEq, Option.some.injEq, Addr.mk.injEq] at e9
    obtain ⟨⟨rfl, rfl, _⟩, _⟩ := e9
    have hln := h.len
    refine ⟨⟨some ⟨g, 0, none⟩, c', by rw [hln], .inr ⟨g, 0, rfl, hg, fun i x hx => ?_⟩⟩, ?_⟩
    · have hi : i < l.length := (List.getElem?_eq_some_iff.1 hx).1
      have := hG i x (by rw [List.getElem?_append_left hi]; exact hx) 0 _ rfl
      rw [Nat.mul_one, Nat.add_zero] at this
      exact this
    · have := hG n markB (by rw [hln, List.getElem?_append_right (Nat.le_refl _), Nat.sub_self]; rfl) 0 _ rfl
      rw [Nat.mul_one, Nat.add_zero, Nat.zero_add] at this
      exact this
set_option maxRecDepth 100000 in
set_option maxHeartbeats 3200000 in
theorem kept9 (h : LD w0 w g l.length c' l) (hl : LS t1 1 r w (.slice a l.length c) l) (hn : l.length ≤ 4611686018427387904) :
    Calls Tryz.prog 33 #[.slice (some ⟨g, 0, none⟩) l.length c', .slice a l.length c] w fun e w' => e = .returned (.bool true) ∧ Below w.heap.size w w' := by
  have HS := hide (sameTexts_big (h.tr (Below.refl _ _)).1 hl.tr hn)
  have HC : Hid (∀ w1, Below w.heap.size w w1 → w1.cell? ⟨g, l.length, none⟩ = some (.string markB)) := fun w1 hb => (h.tr hb).2
  have b1 : (l.length : Int) + 1 ≤ (c' : Int) := by have := h.cap; omega
  obtain ⟨m, hm⟩ : ∃ m, m = l.length := ⟨_, rfl⟩
  rw [← hm] at HS HC b1 hn ⊢
  clear h hl hm
  have b0 : (0 : Int) ≤ (m : Int) + 1 := by omega
  have b2 : (m : Int) < (m : Int) + 1 := by omega
  go_enter Tryz.func33, Tryz.ntmps33
  go_wp2_with fail
  refine HS.out.mono ?_
  rintro e w1 ⟨rfl, hB⟩
  have y := HC.out w1 hB
  have HB := hide hB
  clear hB
  have ht : (markB.toList == [109, 97, 114, 107]) = true := by kernel_rfl
  go_wp2
  go_ret
  exact ⟨rfl, HB.out⟩
end
end Go.Proofs.YtiecoplfiahpnaaGreat

namespace Go.Proofs.YtiecoplfiahpnaaGreat
open Go.RowKit Go.Lib Go.Maps
section
variable {w w' : World} {rv dv : Value} {S : List SS} {rs : List Nat} {P r : Nat → Prop} {ds : List ByteArray} {t : Nat} {nm : ByteArray} {nn : Int}
theorem rputjob9 (hY : YD P w rv S rs) (hP : ∀ i, P i → i < w.heap.size) (hG : GD t S) (ht : t ≤ 100) (hd : LS t1 1 r w dv ds) (hr : ∀ i, r i → i ∉ rs) (hn : nm.size ≤ maxLen) (hsz : ∀ d ∈ ds, d.size ≤ maxLen) :
    Calls Tryz.prog 35 #[rv, .string nm, dv] w fun e w' => ∃ ids tx, e = .returned (.agg #[.int .i64 (gC (okn (ds.length : Int)) [] (yRs S (pqn nm ds))), .string ⟨#[]⟩, .int .i64 (gN (yRs S (pqn nm ds))), ids, tx, .slice none 0 0, .slice none 0 0]) ∧ DJ P w w' rv (ySs S (pqn nm ds)) rs ids tx [] [] := by
  by_cases h : 1 ≤ ds.length ∧ ds.length ≤ 255
  · rw [pqn, if_pos h, show okn (ds.length : Int) = true from decide_eq_true (by omega), gC, if_pos rfl, gN]
    exact rputjob_yes hY hP hG hd h.1 h.2 (by omega) hr hn hsz
  · rw [pqn, if_neg h, show okn (ds.length : Int) = false from decide_eq_false (by omega)]
    exact rputjob_no hY hP hd h
theorem rgetjob9 (hY : YD P w rv S rs) (hP : ∀ i, P i → i < w.heap.size) (hG : GD t S) (ht : t ≤ 100) (hn : nm.size ≤ maxLen) (nn : Int) :
    Calls Tryz.prog 37 #[rv, .int .i64 nn, .string nm] w fun e w' => ∃ ids tx, e = .returned (.agg #[.int .i64 (gC (okn nn) [] (yRs S (aq 2 nm ⟨#[]⟩ (nst nn)))), .string ⟨#[]⟩, .int .i64 (gN (yRs S (aq 2 nm ⟨#[]⟩ (nst nn)))), ids, tx, .slice none 0 0, .slice none 0 0]) ∧ DJ P w w' rv (ySs S (aq 2 nm ⟨#[]⟩ (nst nn))) rs ids tx [] (gT (yRs S (aq 2 nm ⟨#[]⟩ (nst nn)))) := by
  by_cases h : 1 ≤ nn ∧ nn ≤ 255
  · rw [show okn nn = true from decide_eq_true h, gC, if_pos rfl, gN]
    exact rgetjob_yes hY hP hG h.1 h.2 (by have := nst_le nn; omega) hn
  · rw [nst_no nn (by omega), show okn nn = false from decide_eq_false h]
    exact rgetjob_no hY hP (by omega)
theorem rdeljob9 (hY : YD P w rv S rs) (hP : ∀ i, P i → i < w.heap.size) (hG : GD t S) (ht : t ≤ 100) (hn : nm.size ≤ maxLen) (nn : Int) :
    Calls Tryz.prog 39 #[rv, .int .i64 nn, .string nm] w fun e w' => ∃ ids tx, e = .returned (.agg #[.int .i64 (dC (okn nn) (yRs S (aq 4 nm ⟨#[]⟩ (nst nn)))), .string ⟨#[]⟩, .int .i64 (gN (yRs S (aq 4 nm ⟨#[]⟩ (nst nn)))), ids, tx, .slice none 0 0, .slice none 0 0]) ∧ DJ P w w' rv (ySs S (aq 4 nm ⟨#[]⟩ (nst nn))) rs ids tx [] [] := by
  by_cases h : 1 ≤ nn ∧ nn ≤ 255
  · rw [show okn nn = true from decide_eq_true h, dC, if_pos rfl, gN]
    exact rdeljob_yes hY hP hG h.1 h.2 (by have := nst_le nn; omega) hn
  · rw [nst_no nn (by omega), show okn nn = false from decide_eq_false h]
    exact rdeljob_no hY hP (by omega)
theorem rlistjob9 (hY : YD P w rv S rs) (hP : ∀ i, P i → i < w.heap.size) (hG : GD t S) (ht : t ≤ 100) (hn : nm.size ≤ maxLen) (nn : Int) :
    Calls Tryz.prog 41 #[rv, .int .i64 nn, .string nm] w fun e w' => ∃ ids tx, e = .returned (.agg #[.int .i64 (gC (okn nn) [] (yRs S (aq 3 nm ⟨#[]⟩ (nst nn)))), .string ⟨#[]⟩, .int .i64 (gN (yRs S (aq 3 nm ⟨#[]⟩ (nst nn)))), ids, tx, .slice none 0 0, .slice none 0 0]) ∧ DJ P w w' rv (ySs S (aq 3 nm ⟨#[]⟩ (nst nn))) rs ids tx (lI (yRs S (aq 3 nm ⟨#[]⟩ (nst nn)))) [] := by
  by_cases h : 1 ≤ nn ∧ nn ≤ 255
  · rw [show okn nn = true from decide_eq_true h, gC, if_pos rfl, gN]
    exact rlistjob_yes hY hP hG h.1 h.2 (by have := nst_le nn; omega) hn ht
  · rw [nst_no nn (by omega), show okn nn = false from decide_eq_false h]
    exact rlistjob_no hY hP (by omega)
end
/-- Each store is asked once. -/
theorem yS_at {S : List SS} {q : QT} {i : Nat} (h : q.st = (i : Int)) (j : Nat) : (yS S q)[j]? = if j = i then S[j]?.map (fun s => doS s q.k q.n q.d) else S[j]? := by
  rw [yS, if_pos (by omega), h]
  simp only [Int.toNat_natCast]
  split
  · rename_i s hs
    rw [List.getElem?_set]
    by_cases e : i = j
    · subst e
      rw [if_pos rfl, if_pos rfl, hs, if_pos (List.getElem?_eq_some_iff.1 hs).1]; rfl
    · rw [if_neg e, if_neg (fun h => e h.symm)]
  · rename_i hs
    by_cases e : j = i
    · subst e
      rw [if_pos rfl, hs]; rfl
    · rw [if_neg e]
theorem once_ySs {f : Nat → QT} (hf : ∀ i, (f i).st = (i : Int)) (S : List SS) : ∀ (m j : Nat), (ySs S ((List.range m).map f))[j]? = if j < m then S[j]?.map (fun s => doS s (f j).k (f j).n (f j).d) else S[j]?
  | 0, j => by simp [ySs]
  | m + 1, j => by
    rw [List.range_succ, List.map_append, List.map_cons, List.map_nil, ySs_snoc, yS_at (hf m), once_ySs hf S m j]
    by_cases e : j = m
    · subst e
      rw [if_pos rfl, if_neg (Nat.lt_irrefl _), if_pos (Nat.lt_succ_self _)]
    · rw [if_neg e]
      by_cases h : j < m
      · rw [if_pos h, if_pos (by omega)]
      · rw [if_neg h, if_neg (by omega)]
theorem GD.once {f : Nat → QT} (hf : ∀ i, (f i).st = (i : Int)) {S : List SS} {t : Nat} (h : GD t S) (m : Nat) : GD (t + 1) (ySs S ((List.range m).map f)) := by
  intro s hs
  obtain ⟨j, hj⟩ := List.getElem?_of_mem hs
  rw [once_ySs hf] at hj
  split at hj
  · cases hS : S[j]? with
    | none => rw [hS] at hj; cases hj
    | some s' =>
      rw [hS] at hj
      have e : doS s' (f j).k (f j).n (f j).d = s := by simpa using hj
      rw [← e]
      exact (h s' (List.mem_of_getElem? hS)).step _ _ _
  · exact (h s (List.mem_of_getElem? hj)).mono (by omega)
theorem GD.aq {S : List SS} {t : Nat} (h : GD t S) (k : Int) (n : ByteArray) (m : Nat) : GD (t + 1) (ySs S (aq k n ⟨#[]⟩ m)) := GD.once (f := fun i => ⟨(i : Int), k, n, ⟨#[]⟩⟩) (fun _ => rfl) h m
theorem pq_ranged (nm : ByteArray) (ds : List ByteArray) : pq nm ds = (List.range ds.length).map fun i => ⟨(i : Int), 1, nm, ds.getD i ⟨#[]⟩⟩ := by
  apply List.ext_getElem?
  intro i
  rw [pq, List.getElem?_mapIdx, List.getElem?_map]
  by_cases h : i < ds.length
  · rw [List.getElem?_range h, List.getElem?_eq_getElem h]
    simp [List.getD_eq_getElem?_getD, List.getElem?_eq_getElem h]
  · rw [List.getElem?_eq_none (by omega), List.getElem?_eq_none (by simp; omega)]
    rfl
theorem GD.pqn {S : List SS} {t : Nat} (h : GD t S) (nm : ByteArray) (ds : List ByteArray) : GD (t + 1) (ySs S (pqn nm ds)) := by
  rw [Go.Proofs.YtiecoplfiahpnaaGreat.pqn]
  split
  · rw [pq_ranged]
    exact GD.once (f := fun i => ⟨(i : Int), 1, nm, ds.getD i ⟨#[]⟩⟩) (fun _ => rfl) h _
  · exact fun s hs => (h s hs).mono (by omega)
end Go.Proofs.YtiecoplfiahpnaaGreat

namespace Go.Proofs.YtiecoplfiahpnaaGreat
open Go.RowKit Go.Lib Go.Maps
/-- Both yards: the program's stores are S1, the document's S2; nothing of them lies below B. -/
structure BY (B : Nat) (w : World) (sv rv : Value) (S1 S2 : List SS) (bs : List (Nat × Nat)) (rs : List Nat) : Prop where
  y : YP (Ps bs sv) w sv S1 bs
  d : YD (Pd rs rv) w rv S2 rs
  pl : ∀ i, Ps bs sv i → B ≤ i ∧ i < w.heap.size
  dl : ∀ i, Pd rs rv i → B ≤ i ∧ i < w.heap.size
  ap : ∀ i, Ps bs sv i → ¬ Pd rs rv i
section
variable {B : Nat} {w w1 w2 w' : World} {sv rv : Value} {S S1 S2 S3' : List SS} {bs : List (Nat × Nat)} {rs : List Nat} {p P : Nat → Prop}
theorem Qs.ps {i : Nat} (h : Qs bs i) : Ps bs sv i := .inl h
theorem BY.bel (h : BY B w sv rv S1 S2 bs rs) (hb : Below w.heap.size w w') : BY B w' sv rv S1 S2 bs rs :=
  ⟨h.y.bel hb, h.d.bel hb, fun i hi => ⟨(h.pl i hi).1, Nat.lt_of_lt_of_le (h.pl i hi).2 hb.size⟩, fun i hi => ⟨(h.dl i hi).1, Nat.lt_of_lt_of_le (h.dl i hi).2 hb.size⟩, h.ap⟩
theorem BY.noObj (h : BY B w sv rv S1 S2 bs rs) {i : Nat} {cs : Array Value} {fr : Nat × Nat} (hi : w.heap[i]? = some (.cells cs 93 fr)) : ¬ Qs bs i := by
  intro e
  obtain ⟨f, hf, h1 | h1⟩ := e
  · obtain ⟨k, hk⟩ := List.getElem?_of_mem hf
    obtain ⟨s, hs⟩ : ∃ s, S1[k]? = some s := ⟨_, List.getElem?_eq_getElem (by rw [← h.y.len]; exact (List.getElem?_eq_some_iff.1 hk).1)⟩
    have hP : PS w f.1 f.2 s.q s.f s.off s.m s.L := h.y.px k f s hk hs
    rw [h1, hP.blk] at hi
    simp at hi
  · obtain ⟨k, hk⟩ := List.getElem?_of_mem hf
    obtain ⟨s, hs⟩ : ∃ s, S1[k]? = some s := ⟨_, List.getElem?_eq_getElem (by rw [← h.y.len]; exact (List.getElem?_eq_some_iff.1 hk).1)⟩
    have hP : PS w f.1 f.2 s.q s.f s.off s.m s.L := h.y.px k f s hk hs
    rw [h1] at hi
    exact hP.map.notCells hi
/-- What is turned elsewhere. -/
theorem BY.gs (h : BY B w sv rv S1 S2 bs rs) (hg : Gs p w w') (h1 : ∀ i, p i → ¬ Ps bs sv i ∧ ¬ Pd rs rv i) (hT : ∀ i, p i → i < w.heap.size → ∃ cs T fr, w.heap[i]? = some (.cells cs T fr) ∧ T ≠ 93) : BY B w' sv rv S1 S2 bs rs := by
  refine ⟨h.y.gs hg fun i hi e => (h1 i e).1 hi, h.d.gs hg (fun i hi e => (h1 i e).2 hi) fun i cs fr hi e => ?_, fun i hi => ⟨(h.pl i hi).1, Nat.lt_of_lt_of_le (h.pl i hi).2 hg.size⟩, fun i hi => ⟨(h.dl i hi).1, Nat.lt_of_lt_of_le (h.dl i hi).2 hg.size⟩, h.ap⟩
  obtain ⟨cs', T, fr', h2, h3⟩ := hT i e (lt_of_block hi)
  rw [h2] at hi
  simp at hi
  exact h3 hi.2.1
theorem BY.box {X : Nat} {c n : Int} {i t : Value} (h : BY B w sv rv S1 S2 bs rs) (hR : R7 w X c n i t) (hX : ∀ i, Ps bs sv i ∨ Pd rs rv i → i ≠ X) (hg : Gs (fun i => i = X) w w') : BY B w' sv rv S1 S2 bs rs :=
  h.gs hg (fun i e => ⟨fun hp => hX i (.inl hp) e, fun hp => hX i (.inr hp) e⟩) fun i e _ => by
    subst e
    exact ⟨_, _, _, hR, by decide⟩
theorem BY.txt {x : Value} {l : List ByteArray} {C : Nat} (h : BY B w sv rv S1 S2 bs rs) (hT : TS C x l w) (hX : ∀ i, Ps bs sv i ∨ Pd rs rv i → i < C) (hg : Gs (fun i => x.ownBlock = some i) w w') : BY B w' sv rv S1 S2 bs rs :=
  h.gs hg (fun i e => by have := (hT.lt i e).1; exact ⟨fun hp => by have := hX i (.inl hp); omega, fun hp => by have := hX i (.inr hp); omega⟩) fun i e _ => by
    obtain ⟨cs, hc⟩ := hT.typ i e
    exact ⟨_, _, _, hc, by decide⟩
/-- A store of each. -/
theorem BY.at (h : BY B w sv rv S S bs rs) {k : Nat} (hk : k < S.length) : ∃ e rb s, bs[k]? = some e ∧ rs[k]? = some rb ∧ S[k]? = some s ∧ PX w e.1 e.2 s ∧ RD w rb s := by
  obtain ⟨s, hs⟩ : ∃ s, S[k]? = some s := ⟨_, List.getElem?_eq_getElem hk⟩
  obtain ⟨e, he⟩ : ∃ e, bs[k]? = some e := ⟨_, List.getElem?_eq_getElem (by rw [h.y.len]; exact hk)⟩
  obtain ⟨rb, hr⟩ : ∃ rb, rs[k]? = some rb := ⟨_, List.getElem?_eq_getElem (by rw [h.d.len]; exact hk)⟩
  exact ⟨e, rb, s, he, hr, hs, h.y.px k e s he hs, h.d.rd k rb s hr hs⟩
/-- A job of the program is run beside the document's yard. -/
theorem BY.run {b g : Nat} {C N : List RR → Int} {I T : List RR → List ByteArray} {L : List QT} (h : BY B w sv rv S1 S2 bs rs) (hJ : JJ b (FinR b C N I T) L [] P w) (hP : ∀ i, P i → ¬ Ps bs sv i ∧ ¬ Pd rs rv i) (hPo : ∀ i cs fr, w.heap[i]? = some (.cells cs 93 fr) → ¬ P i) (hG : GD g S1) (hg : g + L.length ≤ 1000) (hL : L.length ≤ 300) (hq : ∀ q ∈ L, q.n.size ≤ maxLen ∧ q.d.size ≤ maxLen) (hIl : (I (yRs S1 L)).length ≤ 1000000000000) (hTl : (T (yRs S1 L)).length ≤ 1000000000000) :
    Calls Tryz.prog 17 #[.pointer (some ⟨b, 0, none⟩), sv] w fun e w' => ∃ ids tx, e = .returned (.tuple #[.agg #[.int .i64 (C (yRs S1 L)), .string ⟨#[]⟩, .int .i64 (N (yRs S1 L)), ids, tx, .slice none 0 0, .slice none 0 0], .bool true]) ∧ TS w.heap.size ids (I (yRs S1 L)) w' ∧ TS w.heap.size tx (T (yRs S1 L)) w' ∧ BY B w' sv rv (ySs S1 L) S2 bs rs ∧ Gs (fun i => P i ∨ Qs bs i) w w' := by
  refine (run_job hJ h.y (fun i hi hp => (hP i hi).1 hp) (fun i hi => (h.pl i hi).2) hG hg hL hq hIl hTl).mono ?_
  rintro e w' ⟨ids, tx, rfl, h1, h2, hR⟩
  refine ⟨ids, tx, rfl, h1, h2, ⟨hR.y, h.d.gs hR.g (fun i hi e => ?_) (fun i cs fr hi e => ?_), fun i hi => ⟨(h.pl i hi).1, Nat.lt_of_lt_of_le (h.pl i hi).2 hR.g.size⟩, fun i hi => ⟨(h.dl i hi).1, Nat.lt_of_lt_of_le (h.dl i hi).2 hR.g.size⟩, h.ap⟩, hR.g⟩
  · rcases e with e | e
    · exact (hP i e).2 hi
    · exact h.ap i (Qs.ps e) hi
  · rcases e with e | e
    · exact hPo i cs fr hi e
    · exact h.noObj hi e
/-- The program's stores were asked. -/
theorem BY.prog (h : BY B w sv rv S1 S2 bs rs) (hy : YP (Ps bs sv) w' sv S3' bs) (hg : Gs (Qs bs) w w') : BY B w' sv rv S3' S2 bs rs :=
  ⟨hy, h.d.gs hg (fun i hi e => h.ap i (Qs.ps e) hi) (fun _ _ _ hi => h.noObj hi), fun i hi => ⟨(h.pl i hi).1, Nat.lt_of_lt_of_le (h.pl i hi).2 hg.size⟩, fun i hi => ⟨(h.dl i hi).1, Nat.lt_of_lt_of_le (h.dl i hi).2 hg.size⟩, h.ap⟩
/-- The document's stores were asked. -/
theorem BY.doc (h : BY B w sv rv S1 S2 bs rs) (hd : YD (Pd rs rv) w' rv S3' rs) (hg : Gs (fun i => i ∈ rs) w w') : BY B w' sv rv S1 S3' bs rs :=
  ⟨h.y.gs hg fun i hi e => h.ap i hi (.inl e), hd, fun i hi => ⟨(h.pl i hi).1, Nat.lt_of_lt_of_le (h.pl i hi).2 hg.size⟩, fun i hi => ⟨(h.dl i hi).1, Nat.lt_of_lt_of_le (h.dl i hi).2 hg.size⟩, h.ap⟩
theorem BO.by (h : BO w w' sv rv bs rs) (hl : bs.length = 4) (hl2 : rs.length = 4) : BY w.heap.size w' sv rv S3 S3 bs rs :=
  ⟨h.yp hl, (h.yf hl2).yd, fun _ hi => h.ps hi, fun _ hi => h.pd hi, fun _ hi => h.apart hi⟩
end
end Go.Proofs.YtiecoplfiahpnaaGreat

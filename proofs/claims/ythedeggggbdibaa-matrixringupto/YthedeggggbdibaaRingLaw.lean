/-
  The walk of MatrixRing.
-/
import Derived.Test.YthedeggggbdibaaRingKit
import Derived.Test.YthedeggggbdibaaRingMath
import Derived.Deep.DeepCutAuto
namespace Go.Proofs.Ythedeggggbdibaa
open Go.RowKit Go.Lib

set_option maxRecDepth 100000 in
set_option maxHeartbeats 6400000 in
theorem ring_walk (x y z : Int) {w : World} {vl vk : Value} {nl nk : Nat} {Zl Zk : Nat → Int} (hl : NX w w.heap.size vl nl Zl) (hk : NX w w.heap.size vk nk Zk) (nil1 : ∀ c, vl = .slice none nl c → c = 0) (nil2 : ∀ c, vk = .slice none nk c → c = 0) (hn : (nk + nl) * 8 ≤ 140737488355328) :
    Calls Try.prog 6 #[.agg #[.int .i64 x, .int .i64 y, .int .i64 z], vl, vk] w fun e w' => e = .returned (.bool true) ∧ Below w.heap.size w w' := by
  obtain ⟨al, cl, rfl⟩ := hl.shp
  obtain ⟨ak, ck, rfl⟩ := hk.shp
  obtain ⟨r0, hr0⟩ : ∃ r, r = 1 + amg x 5 := ⟨_, rfl⟩
  obtain ⟨r1, hr1⟩ : ∃ r, r = 1 + amg y 5 := ⟨_, rfl⟩
  obtain ⟨r2, hr2⟩ : ∃ r, r = 1 + amg z 5 := ⟨_, rfl⟩
  have q0 : 1 ≤ r0 ∧ r0 ≤ 255 := by have := (amg_spec x 5 (by decide)).2.1; omega
  have q1 : 1 ≤ r1 ∧ r1 ≤ 255 := by have := (amg_spec y 5 (by decide)).2.1; omega
  have q2 : 1 ≤ r2 ∧ r2 ≤ 255 := by have := (amg_spec z 5 (by decide)).2.1; omega
  have HQ0 := hide q0
  have HQ1 := hide q1
  have HQ2 := hide q2
  have HE0 := hide hr0
  have HE1 := hide hr1
  have HE2 := hide hr2
  have HLL := hide hl
  have HLK := hide hk
  have HN := hide hn
  have HNIL := hide (And.intro nil1 nil2)
  have HL0 := hide (below_alloc (Below.refl w.heap.size w) (.cells #[.int .i64 x, .int .i64 y, .int .i64 z] 56))
  have HY0 := hide (Ay.new w x y z)
  have hn1 : nl ≤ 140737488355328 := by omega
  have hn2 : nk ≤ 140737488355328 := by omega
  have HN1 := hide hn1
  have HN2 := hide hn2
  clear hl hk hn nil1 nil2 q0 q1 q2 hr0 hr1 hr2 hn1 hn2
  go_enter Try.func6, Try.ntmps6
  go_wp2_with fail
  refine (mnew_any _).mono ?_
  rintro e w1 ⟨sb, f, rfl, hS, hf, hsb, hb1⟩
  have hfw : w.heap.size ≤ f := Nat.le_trans HL0.out.size hf
  have HS1 := hide hS
  have HB1 := hide hb1
  clear hS hf hsb hb1
  go_wp2_with fail
  refine (mworks_any _).mono ?_
  rintro e w2 ⟨rfl, hb2⟩
  have L2 := below_step (below_step HL0.out HB1.out) hb2
  have R := hide (show RG w sb f w.heap.size x y z (.slice al nl cl) (.slice ak nk ck) nl nk Zl Zk [] w2 from
    { sp := HS1.out.below hb2 (Nat.le_refl _)
      ay := (HY0.out.below HB1.out (Nat.le_refl _)).below hb2 (Nat.le_refl _)
      xl := (HLL.out.new hfw).below L2
      xk := (HLK.out.new hfw).below L2
      all := fun e h => by cases h
      bel := L2
      lf := hfw })
  clear HS1 HB1 HL0 HY0 HLL HLK hb2 L2 hfw
  have HK : Hid (∀ w', Below w2.heap.size w2 w' → w'.cell? ⟨w.heap.size, 0, none⟩ = some (.int .i64 x) ∧ w'.cell? ⟨w.heap.size, 1, none⟩ = some (.int .i64 y) ∧ w'.cell? ⟨w.heap.size, 2, none⟩ = some (.int .i64 z)) := fun w' hb => ⟨(R.out.below hb).ay.cell0, (R.out.below hb).ay.cell1, (R.out.below hb).ay.cell2⟩
  have HB0 : Hid (Below w2.heap.size w2 w2.drew) := (Below.refl _ _).drew
  have OFA : Hid (∀ w', Below w2.heap.size w2 w' → Calls Try.prog 32 #[.int .i64 x, .int .i64 y, (.slice al nl cl)] w' fun e w'' => ∃ v, e = .returned v ∧ GX f (r0 : Int) (r1 : Int) (r0 * r1) (fun t => (((mk nl Zl t).v : Nat) : Int)) v w'' ∧ Below w'.heap.size w' w'') := by
    intro w' hb
    rw [HE0.out, HE1.out]
    refine (made_il x y ((R.out.below hb).xl.up (Below.refl _ _)) HN1.out).mono ?_
    rintro e w'' ⟨v, rfl, hI, hb'⟩
    exact ⟨_, rfl, il_gx hI (R.out.below hb).sp.ltf, hb'⟩
  have OFB : Hid (∀ w', Below w2.heap.size w2 w' → Calls Try.prog 32 #[.int .i64 y, .int .i64 z, (.slice ak nk ck)] w' fun e w'' => ∃ v, e = .returned v ∧ GX f (r1 : Int) (r2 : Int) (r1 * r2) (fun t => (((mk nk Zk t).v : Nat) : Int)) v w'' ∧ Below w'.heap.size w' w'') := by
    intro w' hb
    rw [HE1.out, HE2.out]
    refine (made_il y z ((R.out.below hb).xk.up (Below.refl _ _)) HN2.out).mono ?_
    rintro e w'' ⟨v, rfl, hI, hb'⟩
    exact ⟨_, rfl, il_gx hI (R.out.below hb).sp.ltf, hb'⟩
  go_upto_region 4 with fail
  refine wp_region_held_drew (S := fun wx => wx.cell? ⟨w.heap.size, 0, none⟩ = some (.int .i64 x) ∧ wx.cell? ⟨w.heap.size, 1, none⟩ = some (.int .i64 y) ∧ wx.cell? ⟨w.heap.size, 2, none⟩ = some (.int .i64 z)) (by kernel_rfl) (HK.out _ HB0.out) (fun hHeld => ?_)
  refine take_at (i := 0) (d := 44) (v := .pointer (some ⟨w.heap.size, 0, none⟩)) rfl rfl (by kernel_rfl) (by kernel_rfl) (by kernel_rfl) (fun _ _ _ h => h) (Or.inl ⟨by rfl, fun w' hSw => ?_⟩) hHeld ?_
  · obtain ⟨s0, s1, s2⟩ := hSw
    go_simp
  simp only [List.setIfInBounds_toArray, List.set_cons_zero, List.set_cons_succ]
  refine take_at (i := 1) (d := 45) (v := .int .i64 x) rfl rfl (by kernel_rfl) (by kernel_rfl) (by kernel_rfl) (fun _ _ _ h => h) (Or.inl ⟨by rfl, fun w' hSw => ?_⟩) hHeld ?_
  · obtain ⟨s0, s1, s2⟩ := hSw
    go_simp
  simp only [List.setIfInBounds_toArray, List.set_cons_zero, List.set_cons_succ]
  refine take_at (i := 2) (d := 46) (v := .pointer (some ⟨w.heap.size, 1, none⟩)) rfl rfl (by kernel_rfl) (by kernel_rfl) (by kernel_rfl) (fun _ _ _ h => h) (Or.inl ⟨by rfl, fun w' hSw => ?_⟩) hHeld ?_
  · obtain ⟨s0, s1, s2⟩ := hSw
    go_simp
  simp only [List.setIfInBounds_toArray, List.set_cons_zero, List.set_cons_succ]
  refine take_at (i := 3) (d := 47) (v := .int .i64 y) rfl rfl (by kernel_rfl) (by kernel_rfl) (by kernel_rfl) (fun _ _ _ h => h) (Or.inl ⟨by rfl, fun w' hSw => ?_⟩) hHeld ?_
  · obtain ⟨s0, s1, s2⟩ := hSw
    go_simp
  simp only [List.setIfInBounds_toArray, List.set_cons_zero, List.set_cons_succ]
  refine take_at (i := 4) (d := 48) (v := .slice al nl cl) rfl rfl (by kernel_rfl) (by kernel_rfl) (by kernel_rfl) (fun _ _ _ h => h) (Or.inl ⟨by rfl, fun w' hSw => ?_⟩) hHeld ?_
  · obtain ⟨s0, s1, s2⟩ := hSw
    go_simp
  simp only [List.setIfInBounds_toArray, List.set_cons_zero, List.set_cons_succ]
  refine take_at (i := 6) (d := 50) (v := .pointer (some ⟨w.heap.size, 1, none⟩)) rfl rfl (by kernel_rfl) (by kernel_rfl) (by kernel_rfl) (fun _ _ _ h => h) (Or.inl ⟨by rfl, fun w' hSw => ?_⟩) hHeld ?_
  · obtain ⟨s0, s1, s2⟩ := hSw
    go_simp
  simp only [List.setIfInBounds_toArray, List.set_cons_zero, List.set_cons_succ]
  refine take_at (i := 7) (d := 51) (v := .int .i64 y) rfl rfl (by kernel_rfl) (by kernel_rfl) (by kernel_rfl) (fun _ _ _ h => h) (Or.inl ⟨by rfl, fun w' hSw => ?_⟩) hHeld ?_
  · obtain ⟨s0, s1, s2⟩ := hSw
    go_simp
  simp only [List.setIfInBounds_toArray, List.set_cons_zero, List.set_cons_succ]
  refine take_at (i := 8) (d := 52) (v := .pointer (some ⟨w.heap.size, 2, none⟩)) rfl rfl (by kernel_rfl) (by kernel_rfl) (by kernel_rfl) (fun _ _ _ h => h) (Or.inl ⟨by rfl, fun w' hSw => ?_⟩) hHeld ?_
  · obtain ⟨s0, s1, s2⟩ := hSw
    go_simp
  simp only [List.setIfInBounds_toArray, List.set_cons_zero, List.set_cons_succ]
  refine take_at (i := 9) (d := 53) (v := .int .i64 z) rfl rfl (by kernel_rfl) (by kernel_rfl) (by kernel_rfl) (fun _ _ _ h => h) (Or.inl ⟨by rfl, fun w' hSw => ?_⟩) hHeld ?_
  · obtain ⟨s0, s1, s2⟩ := hSw
    go_simp
  simp only [List.setIfInBounds_toArray, List.set_cons_zero, List.set_cons_succ]
  refine take_at (i := 10) (d := 54) (v := .slice ak nk ck) rfl rfl (by kernel_rfl) (by kernel_rfl) (by kernel_rfl) (fun _ _ _ h => h) (Or.inl ⟨by rfl, fun w' hSw => ?_⟩) hHeld ?_
  · obtain ⟨s0, s1, s2⟩ := hSw
    go_simp
  simp only [List.setIfInBounds_toArray, List.set_cons_zero, List.set_cons_succ]
  refine pair_start (lst := fun c x y => #[true, true, true, true, true, Nat.ble 1 c, true, true, true, true, true, Nat.ble 2 c, x, y, false, false]) (lP := #[true, true, true, true, true, true, true, true, true, true, true, true, true, true, true, false]) (lQ := #[true, true, true, true, true, true, true, true, true, true, true, true, true, true, true, true]) (iA := 5) (iB := 11) (iX := 12) (iY := 13) (iP := 14) (iQ := 15) (dA := 49) (dB := 55) (dX := 8) (dY := 9) (fA := 32) (fB := 32) (vA := #[.int .i64 x, .int .i64 y, .slice al nl cl]) (vB := #[.int .i64 y, .int .i64 z, .slice ak nk ck]) (W := w2) (RA := GX f (r0 : Int) (r1 : Int) (r0 * r1) (fun t => (((mk nl Zl t).v : Nat) : Int))) (RB := GX f (r1 : Int) (r2 : Int) (r1 * r2) (fun t => (((mk nk Zk t).v : Nat) : Int))) (ra := r0) (ca := r1) (rb := r1) (cb := r2) ?H (by kernel_rfl) rfl HB0.out (GX.stays _ _ _ _ _) (GX.stays _ _ _ _ _) HK.out OFA.out OFB.out ?hend
  case H =>
    exact
      { d := ⟨Nat.lt_of_lt_of_eq (show 49 < 206 by decide) rfl, Nat.lt_of_lt_of_eq (show 55 < 206 by decide) rfl, Nat.lt_of_lt_of_eq (show 8 < 206 by decide) rfl, Nat.lt_of_lt_of_eq (show 9 < 206 by decide) rfl, by decide, by decide, by decide, by decide, by decide, by decide⟩
        oA := ⟨_, _, _, rfl, rfl, rfl, rfl, fun xA xB xX xY => by simp [st4, Act.eval]⟩
        oB := ⟨_, _, _, rfl, rfl, rfl, rfl, fun xA xB xX xY => by simp [st4, Act.eval]⟩
        fA := fun w => by kernel_rfl
        fB := fun w => by kernel_rfl
        oX := ⟨_, rfl, rfl, rfl, rfl⟩
        oY := ⟨_, rfl, rfl, rfl, rfl⟩
        oP := ⟨_, rfl, rfl, rfl, rfl⟩
        oQ := ⟨_, rfl, rfl, rfl, rfl⟩
        r0 := fun x y => by cases x <;> cases y <;> kernel_rfl
        r1 := fun x y => by cases x <;> cases y <;> kernel_rfl
        r2 := fun x y => by cases x <;> cases y <;> first | (intro h; cases h; done) | (intro _; kernel_rfl)
        rP := by kernel_rfl
        rQ := by kernel_rfl
        rE := by kernel_rfl
        sA := fun x y => by cases x <;> cases y <;> kernel_rfl
        sB := fun x y => by cases x <;> cases y <;> kernel_rfl
        sX := fun c y => by kernel_rfl
        sY := fun c x => by kernel_rfl
        sP := by kernel_rfl
        sQ := by kernel_rfl }
  case hend =>
  intro pA pB aA nA kA aB nB kB W4 GA GB XA XB hne hlA hlB LP
  obtain ⟨_, _, ea, NA, _⟩ := GA
  obtain ⟨_, _, eb, NB, _⟩ := GB
  simp only [Value.agg.injEq, List.cons.injEq, Array.mk.injEq, Value.slice.injEq, and_true, true_and] at ea eb
  obtain ⟨e1, e2, e3⟩ := ea
  subst e1 e2 e3
  obtain ⟨e1, e2, e3⟩ := eb
  subst e1 e2 e3
  simp only [st4, List.setIfInBounds_toArray, List.set_cons_zero, List.set_cons_succ]
  have R' := R
  clear R
  have R := hide (((R'.out.below LP).add ⟨pA, r0, r1, .slice aA (r0 * r1) kA, r0 * r1, _⟩ ⟨XA, NA⟩).add ⟨pB, r1, r2, .slice aB (r1 * r2) kB, r1 * r2, _⟩ ⟨XB, NB⟩)
  clear R' LP XA XB NA NB hne hlA hlB OFA OFB HK HB0 hHeld
  have HK : Hid (∀ w', Below W4.heap.size W4 w' → w'.cell? ⟨w.heap.size, 0, none⟩ = some (.int .i64 x) ∧ w'.cell? ⟨w.heap.size, 1, none⟩ = some (.int .i64 y) ∧ w'.cell? ⟨w.heap.size, 2, none⟩ = some (.int .i64 z)) := fun w' hb => ⟨(R.out.below hb).ay.cell0, (R.out.below hb).ay.cell1, (R.out.below hb).ay.cell2⟩
  have HB0 : Hid (Below W4.heap.size W4 W4.drew) := (Below.refl _ _).drew
  go_upto_region 5 with fail
  refine wp_region_held_drew (S := fun wx => wx.cell? ⟨w.heap.size, 0, none⟩ = some (.int .i64 x) ∧ wx.cell? ⟨w.heap.size, 1, none⟩ = some (.int .i64 y) ∧ wx.cell? ⟨w.heap.size, 2, none⟩ = some (.int .i64 z)) (by kernel_rfl) (HK.out _ HB0.out) (fun hHeld => ?_)
  refine take_at (i := 0) (d := 56) (v := .pointer (some ⟨w.heap.size, 2, none⟩)) rfl rfl (by kernel_rfl) (by kernel_rfl) (by kernel_rfl) (fun _ _ _ h => h) (Or.inl ⟨by rfl, fun w' hSw => ?_⟩) hHeld ?_
  · obtain ⟨s0, s1, s2⟩ := hSw
    go_simp
  simp only [List.setIfInBounds_toArray, List.set_cons_zero, List.set_cons_succ]
  refine take_at (i := 1) (d := 57) (v := .int .i64 z) rfl rfl (by kernel_rfl) (by kernel_rfl) (by kernel_rfl) (fun _ _ _ h => h) (Or.inl ⟨by rfl, fun w' hSw => ?_⟩) hHeld ?_
  · obtain ⟨s0, s1, s2⟩ := hSw
    go_simp
  simp only [List.setIfInBounds_toArray, List.set_cons_zero, List.set_cons_succ]
  refine take_at (i := 2) (d := 58) (v := .pointer (some ⟨w.heap.size, 0, none⟩)) rfl rfl (by kernel_rfl) (by kernel_rfl) (by kernel_rfl) (fun _ _ _ h => h) (Or.inl ⟨by rfl, fun w' hSw => ?_⟩) hHeld ?_
  · obtain ⟨s0, s1, s2⟩ := hSw
    go_simp
  simp only [List.setIfInBounds_toArray, List.set_cons_zero, List.set_cons_succ]
  refine take_at (i := 3) (d := 59) (v := .int .i64 x) rfl rfl (by kernel_rfl) (by kernel_rfl) (by kernel_rfl) (fun _ _ _ h => h) (Or.inl ⟨by rfl, fun w' hSw => ?_⟩) hHeld ?_
  · obtain ⟨s0, s1, s2⟩ := hSw
    go_simp
  simp only [List.setIfInBounds_toArray, List.set_cons_zero, List.set_cons_succ]
  refine take_at (i := 5) (d := 61) (v := .slice ak nk ck) rfl rfl (by kernel_rfl) (by kernel_rfl) (by kernel_rfl) (fun _ _ _ h => h) (Or.inl ⟨by rfl, fun w' hSw => ?_⟩) hHeld ?_
  · obtain ⟨s0, s1, s2⟩ := hSw
    go_simp
  simp only [List.setIfInBounds_toArray, List.set_cons_zero, List.set_cons_succ]
  refine take_at (i := 7) (d := 63) (v := .slice al nl cl) rfl rfl (by kernel_rfl) (by kernel_rfl) (by kernel_rfl) (fun _ _ _ h => h) (Or.inl ⟨by rfl, fun w' hSw => ?_⟩) hHeld ?_
  · obtain ⟨s0, s1, s2⟩ := hSw
    go_simp
  simp only [List.setIfInBounds_toArray, List.set_cons_zero, List.set_cons_succ]
  refine ring_c (lst := fun c x => #[true, true, true, true, Nat.ble 1 c, true, Nat.ble 2 c, true, Nat.ble 3 c, Nat.ble 4 c, x, false]) (lP := #[true, true, true, true, true, true, true, true, true, true, true, true]) (iC := fun c => if c = 0 then 4 else if c = 1 then 6 else if c = 2 then 8 else 9) (W := W4) (f := f) (nl := nl) (nk := nk) (x := x) (z := z) (vl := .slice al nl cl) (vk := .slice ak nk ck) (Zl := Zl) (Zk := Zk) ?H ?C rfl rfl rfl rfl (by kernel_rfl) rfl HB0.out HK.out R.out.sp.ltf (R.out.xl.up (Below.refl _ _)) (R.out.xk.up (Below.refl _ _)) HNIL.out.1 HNIL.out.2 HN.out ?hend
  case H =>
    exact
      { oX := ⟨_, rfl, rfl, rfl, rfl⟩
        oP := ⟨_, rfl, rfl, rfl, rfl⟩
        r0 := fun c x hc => by
          obtain rfl | rfl | rfl | rfl : c = 0 ∨ c = 1 ∨ c = 2 ∨ c = 3 := by omega
          all_goals (cases x <;> kernel_rfl)
        r1 := by kernel_rfl
        rP := by kernel_rfl
        rE := by kernel_rfl
        sC := fun c x hc => by
          obtain rfl | rfl | rfl | rfl : c = 0 ∨ c = 1 ∨ c = 2 ∨ c = 3 := by omega
          all_goals (cases x <;> kernel_rfl)
        sX := fun c _ => by kernel_rfl
        sP := by kernel_rfl }
  case C =>
    exact
      { o4 := ⟨_, rfl, rfl, rfl, rfl⟩
        o6 := ⟨_, rfl, rfl, rfl, rfl, rfl⟩
        o8 := ⟨_, rfl, rfl, rfl, rfl, rfl⟩
        o9 := ⟨_, rfl, rfl, rfl, rfl⟩
        e57 := rfl
        e59 := rfl
        e61 := rfl
        e63 := rfl
        sz := rfl
        fn := fun w v => by kernel_rfl }
  case hend =>
  rw [← HE0.out, ← HE2.out]
  intro W5 pC aC kC v60 v62 v64 G5 X5 L5
  obtain ⟨_, _, ec, NC, _⟩ := G5
  simp only [Value.agg.injEq, List.cons.injEq, Array.mk.injEq, Value.slice.injEq, and_true, true_and] at ec
  obtain ⟨e1, e3⟩ := ec
  subst e1 e3
  simp only [List.setIfInBounds_toArray, List.set_cons_zero, List.set_cons_succ]
  have R' := R
  clear R
  have R := hide ((R'.out.below L5).add ⟨pC, r2, r0, .slice aC (r2 * r0) kC, r2 * r0, _⟩ ⟨X5, NC⟩)
  clear R' X5 NC L5 HK HB0 hHeld HNIL HN
  obtain ⟨xa, na⟩ := R.out.all _ (List.mem_cons_of_mem _ (List.mem_cons_of_mem _ List.mem_cons_self))
  dsimp only at xa na
  obtain ⟨xb, nb⟩ := R.out.all _ (List.mem_cons_of_mem _ List.mem_cons_self)
  dsimp only at xb nb
  have c0 := xa.cell0
  have c1 := xa.cell1
  have c2 := xa.cell2
  have d0 := xb.cell0
  have d1 := xb.cell1
  have d2 := xb.cell2
  have HNA := hide na
  have HNB := hide nb
  clear xa xb na nb
  go_wp2_with fail
  refine (mul_mat R.out.sp HQ0.out.1 HQ0.out.2 HQ1.out.1 HQ1.out.2 HQ2.out.1 HQ2.out.2 HNA.out HNB.out).mono ?_
  rintro e w6 ⟨gAB, rfl, hG, _, S9, g9⟩
  have R' := R
  clear R
  have R := hide ((R'.out.go S9 g9).box r0 r2 (hG.nx (Nat.le_refl _) (S9.kne hG)))
  clear R' hG S9 g9 HNA HNB c0 c1 c2 d0 d1 d2
  obtain ⟨xa, na⟩ := R.out.all _ (List.mem_cons_of_mem _ (List.mem_cons_of_mem _ List.mem_cons_self))
  dsimp only at xa na
  obtain ⟨xb, nb⟩ := R.out.all _ (List.mem_cons_of_mem _ List.mem_cons_self)
  dsimp only at xb nb
  have c0 := xa.cell0
  have c1 := xa.cell1
  have c2 := xa.cell2
  have d0 := xb.cell0
  have d1 := xb.cell1
  have d2 := xb.cell2
  have HNA := hide na
  have HNB := hide nb
  clear xa xb na nb
  go_wp2_with fail
  refine (mul_mat R.out.sp HQ1.out.1 HQ1.out.2 HQ2.out.1 HQ2.out.2 HQ0.out.1 HQ0.out.2 HNA.out HNB.out).mono ?_
  rintro e w7 ⟨gBC, rfl, hG, _, S9, g9⟩
  have R' := R
  clear R
  have R := hide ((R'.out.go S9 g9).box r1 r0 (hG.nx (Nat.le_refl _) (S9.kne hG)))
  clear R' hG S9 g9 HNA HNB c0 c1 c2 d0 d1 d2
  obtain ⟨xa, na⟩ := R.out.all _ (List.mem_cons_of_mem _ List.mem_cons_self)
  dsimp only at xa na
  obtain ⟨xb, nb⟩ := R.out.all _ (List.mem_cons_of_mem _ (List.mem_cons_of_mem _ List.mem_cons_self))
  dsimp only at xb nb
  have c0 := xa.cell0
  have c1 := xa.cell1
  have c2 := xa.cell2
  have d0 := xb.cell0
  have d1 := xb.cell1
  have d2 := xb.cell2
  have HNA := hide na
  have HNB := hide nb
  clear xa xb na nb
  go_wp2_with fail
  refine (mul_mat R.out.sp HQ0.out.1 HQ0.out.2 HQ2.out.1 HQ2.out.2 HQ0.out.1 HQ0.out.2 HNA.out HNB.out).mono ?_
  rintro e w8 ⟨gX, rfl, hG, _, S9, g9⟩
  have R' := R
  clear R
  have R := hide ((R'.out.go S9 g9).box r0 r0 (hG.nx (Nat.le_refl _) (S9.kne hG)))
  clear R' hG S9 g9 HNA HNB c0 c1 c2 d0 d1 d2
  obtain ⟨xa, na⟩ := R.out.all _ (List.mem_cons_of_mem _ (List.mem_cons_of_mem _ (List.mem_cons_of_mem _ (List.mem_cons_of_mem _ (List.mem_cons_of_mem _ List.mem_cons_self)))))
  dsimp only at xa na
  obtain ⟨xb, nb⟩ := R.out.all _ (List.mem_cons_of_mem _ List.mem_cons_self)
  dsimp only at xb nb
  have c0 := xa.cell0
  have c1 := xa.cell1
  have c2 := xa.cell2
  have d0 := xb.cell0
  have d1 := xb.cell1
  have d2 := xb.cell2
  have HNA := hide na
  have HNB := hide nb
  clear xa xb na nb
  go_wp2_with fail
  refine (mul_mat R.out.sp HQ0.out.1 HQ0.out.2 HQ1.out.1 HQ1.out.2 HQ0.out.1 HQ0.out.2 HNA.out HNB.out).mono ?_
  rintro e w9 ⟨gY, rfl, hG, _, S9, g9⟩
  have R' := R
  clear R
  have R := hide ((R'.out.go S9 g9).box r0 r0 (hG.nx (Nat.le_refl _) (S9.kne hG)))
  clear R' hG S9 g9 HNA HNB c0 c1 c2 d0 d1 d2
  obtain ⟨xa, na⟩ := R.out.all _ (List.mem_cons_of_mem _ (List.mem_cons_of_mem _ (List.mem_cons_of_mem _ (List.mem_cons_of_mem _ (List.mem_cons_of_mem _ (List.mem_cons_of_mem _ List.mem_cons_self))))))
  dsimp only at xa na
  have c0 := xa.cell0
  have c1 := xa.cell1
  have c2 := xa.cell2
  have HNA := hide na
  clear xa na
  go_wp2_with fail
  refine (turn_ok HQ0.out.1 HQ0.out.2 HQ1.out.1 HQ1.out.2 HNA.out).mono ?_
  rintro e w10 ⟨gAt, rfl, hG, hg, hb⟩
  have R' := R
  clear R
  have R := hide ((R'.out.below hb).box r1 r0 (hG.nx (f := f) (Nat.le_refl _) (by have := R'.out.sp.ltf; omega)))
  clear R' hG hg hb HNA c0 c1 c2
  obtain ⟨xa, na⟩ := R.out.all _ (List.mem_cons_of_mem _ (List.mem_cons_of_mem _ (List.mem_cons_of_mem _ (List.mem_cons_of_mem _ (List.mem_cons_of_mem _ (List.mem_cons_of_mem _ List.mem_cons_self))))))
  dsimp only at xa na
  have c0 := xa.cell0
  have c1 := xa.cell1
  have c2 := xa.cell2
  have HNA := hide na
  clear xa na
  go_wp2_with fail
  refine (turn_ok HQ1.out.1 HQ1.out.2 HQ2.out.1 HQ2.out.2 HNA.out).mono ?_
  rintro e w11 ⟨gBt, rfl, hG, hg, hb⟩
  have R' := R
  clear R
  have R := hide ((R'.out.below hb).box r2 r1 (hG.nx (f := f) (Nat.le_refl _) (by have := R'.out.sp.ltf; omega)))
  clear R' hG hg hb HNA c0 c1 c2
  obtain ⟨xa, na⟩ := R.out.all _ (List.mem_cons_of_mem _ (List.mem_cons_of_mem _ (List.mem_cons_of_mem _ (List.mem_cons_of_mem _ (List.mem_cons_of_mem _ List.mem_cons_self)))))
  dsimp only at xa na
  have c0 := xa.cell0
  have c1 := xa.cell1
  have c2 := xa.cell2
  have HNA := hide na
  clear xa na
  go_wp2_with fail
  refine (turn_ok HQ0.out.1 HQ0.out.2 HQ2.out.1 HQ2.out.2 HNA.out).mono ?_
  rintro e w12 ⟨gT, rfl, hG, hg, hb⟩
  have R' := R
  clear R
  have R := hide ((R'.out.below hb).box r2 r0 (hG.nx (f := f) (Nat.le_refl _) (by have := R'.out.sp.ltf; omega)))
  clear R' hG hg hb HNA c0 c1 c2
  obtain ⟨xa, na⟩ := R.out.all _ (List.mem_cons_of_mem _ List.mem_cons_self)
  dsimp only at xa na
  obtain ⟨xb, nb⟩ := R.out.all _ (List.mem_cons_of_mem _ (List.mem_cons_of_mem _ List.mem_cons_self))
  dsimp only at xb nb
  have c0 := xa.cell0
  have c1 := xa.cell1
  have c2 := xa.cell2
  have d0 := xb.cell0
  have d1 := xb.cell1
  have d2 := xb.cell2
  have HNA := hide na
  have HNB := hide nb
  clear xa xb na nb
  go_wp2_with fail
  refine (mul_mat R.out.sp HQ2.out.1 HQ2.out.2 HQ1.out.1 HQ1.out.2 HQ0.out.1 HQ0.out.2 HNA.out HNB.out).mono ?_
  rintro e w13 ⟨gU, rfl, hG, _, S9, g9⟩
  have R' := R
  clear R
  have R := hide ((R'.out.go S9 g9).box r2 r0 (hG.nx (Nat.le_refl _) (S9.kne hG)))
  clear R' hG S9 g9 HNA HNB c0 c1 c2 d0 d1 d2
  obtain ⟨W14, hW14⟩ : ∃ W14, W14 = (w13.alloc (.cells #[.int .i64 r2, .int .i64 r0, .slice (some ⟨gU, 0, none⟩) (r2 * r0) (r2 * r0)] 24)) := ⟨_, rfl⟩
  rw [← hW14] at R
  have HW14 := hide hW14
  clear hW14
  obtain ⟨W15, hW15⟩ : ∃ W15, W15 = W14.alloc (.cells #[.int .i64 0, .int .i64 0, .int .i64 0, .int .i64 0, .int .i64 0, .int .i64 0, .int .i64 0, .int .i64 0] 31) := ⟨_, rfl⟩
  have R15 := R.out.alloc (.cells #[.int .i64 0, .int .i64 0, .int .i64 0, .int .i64 0, .int .i64 0, .int .i64 0, .int .i64 0, .int .i64 0] 31)
  rw [← hW15] at R15
  have hc : Hid (∀ i : Nat, i < 8 → W15.cell? ⟨W14.heap.size, i, none⟩ = some (.int .i64 0)) := by
    intro i hlt
    rw [hW15, cell_of_row _ _ _ _ _ _ (heap_alloc_new W14 _)]
    match i, hlt with
    | 0, _ => rfl
    | 1, _ => rfl
    | 2, _ => rfl
    | 3, _ => rfl
    | 4, _ => rfl
    | 5, _ => rfl
    | 6, _ => rfl
    | 7, _ => rfl
  have HW15 := hide hW15
  have HR15 := hide R15
  clear hW15 R15 R
  go_wp2
  rw [← HW14.out, ← HW15.out]
  go_loopw [126] (fun u wr => ∃ i : Nat, i ≤ 8 ∧ u = .int .i64 i ∧ wr = W15) (fun u _ => 8 - (intOf u).toNat)
  case atStart => exact ⟨0, Nat.zero_le _, rfl, rfl⟩
  case round =>
  obtain ⟨i, hi, rfl, hwr⟩ := hrel
  subst hwr
  by_cases hlt : i < 8
  · have hci := hc.out i hlt
    rw [HW14.out, show (w13.alloc (.cells #[.int .i64 r2, .int .i64 r0, .slice (some ⟨gU, 0, none⟩) (r2 * r0) (r2 * r0)] 24)).heap.size = w13.heap.size + 1 by simp] at hci
    have b1 : (i : Int) < 8 := by omega
    have b0 : (0 : Int) ≤ (i : Int) := by omega
    go_wp2
    exact ⟨⟨i + 1, by omega, by go_num, trivial⟩, by simp [intOf]; omega⟩
  obtain rfl : i = 8 := by omega
  have R := HR15
  clear hi hlt HR15 hc HW15 HW14
  obtain ⟨xa, na⟩ := R.out.all _ (List.mem_cons_of_mem _ (List.mem_cons_of_mem _ (List.mem_cons_of_mem _ (List.mem_cons_of_mem _ (List.mem_cons_of_mem _ List.mem_cons_self)))))
  dsimp only at xa na
  obtain ⟨xb, nb⟩ := R.out.all _ (List.mem_cons_of_mem _ (List.mem_cons_of_mem _ (List.mem_cons_of_mem _ (List.mem_cons_of_mem _ List.mem_cons_self))))
  dsimp only at xb nb
  have c0 := xa.cell0
  have c1 := xa.cell1
  have c2 := xa.cell2
  have d0 := xb.cell0
  have d1 := xb.cell1
  have d2 := xb.cell2
  have HNA := hide na
  have HNB := hide nb
  clear xa xb na nb
  go_wp2_with fail
  refine (alike_any HNA.out (nx_congr HNB.out (fun t ht => by rw [ring_assoc r0 r1 r2 _ _ _ t ht])) (Nat.le_trans (Nat.mul_le_mul HQ0.out.2 HQ0.out.2) (by decide))).mono ?_
  rintro e w20 ⟨rfl, hb⟩
  have R' := R
  clear R
  have R := hide (R'.out.below hb)
  clear R' hb HNA HNB c0 c1 c2 d0 d1 d2
  obtain ⟨xa, na⟩ := R.out.all _ (List.mem_cons_of_mem _ List.mem_cons_self)
  dsimp only at xa na
  obtain ⟨xb, nb⟩ := R.out.all _ List.mem_cons_self
  dsimp only at xb nb
  have c0 := xa.cell0
  have c1 := xa.cell1
  have c2 := xa.cell2
  have d0 := xb.cell0
  have d1 := xb.cell1
  have d2 := xb.cell2
  have HNA := hide na
  have HNB := hide nb
  clear xa xb na nb
  go_wp2_with fail
  refine (alike_any HNA.out (nx_congr HNB.out (fun t ht => by rw [ring_turn r0 r1 r2 _ _ t ht])) (Nat.le_trans (Nat.mul_le_mul HQ2.out.2 HQ0.out.2) (by decide))).mono ?_
  rintro e w21 ⟨rfl, hb⟩
  have R' := R
  clear R
  have R := hide (R'.out.below hb)
  clear R' hb HNA HNB c0 c1 c2 d0 d1 d2
  have HK : Hid (∀ w', Below w21.heap.size w21 w' → w'.cell? ⟨w.heap.size, 0, none⟩ = some (.int .i64 x) ∧ w'.cell? ⟨w.heap.size, 1, none⟩ = some (.int .i64 y) ∧ w'.cell? ⟨w.heap.size, 2, none⟩ = some (.int .i64 z)) := fun w' hb => ⟨(R.out.below hb).ay.cell0, (R.out.below hb).ay.cell1, (R.out.below hb).ay.cell2⟩
  have HB0 : Hid (Below w21.heap.size w21 w21.drew) := (Below.refl _ _).drew
  have OFA : Hid (∀ w', Below w21.heap.size w21 w' → Calls Try.prog 32 #[.int .i64 x, .int .i64 x, (.slice al nl cl)] w' fun e w'' => ∃ v, e = .returned v ∧ GX f (r0 : Int) (r0 : Int) (r0 * r0) (fun t => (((mk nl Zl t).v : Nat) : Int)) v w'' ∧ Below w'.heap.size w' w'') := by
    intro w' hb
    rw [HE0.out]
    refine (made_il x x ((R.out.below hb).xl.up (Below.refl _ _)) HN1.out).mono ?_
    rintro e w'' ⟨v, rfl, hI, hb'⟩
    exact ⟨_, rfl, il_gx hI (R.out.below hb).sp.ltf, hb'⟩
  have OFB : Hid (∀ w', Below w21.heap.size w21 w' → Calls Try.prog 32 #[.int .i64 x, .int .i64 x, (.slice ak nk ck)] w' fun e w'' => ∃ v, e = .returned v ∧ GX f (r0 : Int) (r0 : Int) (r0 * r0) (fun t => (((mk nk Zk t).v : Nat) : Int)) v w'' ∧ Below w'.heap.size w' w'') := by
    intro w' hb
    rw [HE0.out]
    refine (made_il x x ((R.out.below hb).xk.up (Below.refl _ _)) HN2.out).mono ?_
    rintro e w'' ⟨v, rfl, hI, hb'⟩
    exact ⟨_, rfl, il_gx hI (R.out.below hb).sp.ltf, hb'⟩
  go_upto_region 22 with fail
  refine wp_region_held_drew (S := fun wx => wx.cell? ⟨w.heap.size, 0, none⟩ = some (.int .i64 x) ∧ wx.cell? ⟨w.heap.size, 1, none⟩ = some (.int .i64 y) ∧ wx.cell? ⟨w.heap.size, 2, none⟩ = some (.int .i64 z)) (by kernel_rfl) (HK.out _ HB0.out) (fun hHeld => ?_)
  refine take_at (i := 0) (d := 143) (v := .pointer (some ⟨w.heap.size, 0, none⟩)) rfl rfl (by kernel_rfl) (by kernel_rfl) (by kernel_rfl) (fun _ _ _ h => h) (Or.inl ⟨by rfl, fun w' hSw => ?_⟩) hHeld ?_
  · obtain ⟨s0, s1, s2⟩ := hSw
    go_simp
  simp only [List.setIfInBounds_toArray, List.set_cons_zero, List.set_cons_succ]
  refine take_at (i := 1) (d := 144) (v := .int .i64 x) rfl rfl (by kernel_rfl) (by kernel_rfl) (by kernel_rfl) (fun _ _ _ h => h) (Or.inl ⟨by rfl, fun w' hSw => ?_⟩) hHeld ?_
  · obtain ⟨s0, s1, s2⟩ := hSw
    go_simp
  simp only [List.setIfInBounds_toArray, List.set_cons_zero, List.set_cons_succ]
  refine take_at (i := 2) (d := 145) (v := .pointer (some ⟨w.heap.size, 0, none⟩)) rfl rfl (by kernel_rfl) (by kernel_rfl) (by kernel_rfl) (fun _ _ _ h => h) (Or.inl ⟨by rfl, fun w' hSw => ?_⟩) hHeld ?_
  · obtain ⟨s0, s1, s2⟩ := hSw
    go_simp
  simp only [List.setIfInBounds_toArray, List.set_cons_zero, List.set_cons_succ]
  refine take_at (i := 3) (d := 146) (v := .int .i64 x) rfl rfl (by kernel_rfl) (by kernel_rfl) (by kernel_rfl) (fun _ _ _ h => h) (Or.inl ⟨by rfl, fun w' hSw => ?_⟩) hHeld ?_
  · obtain ⟨s0, s1, s2⟩ := hSw
    go_simp
  simp only [List.setIfInBounds_toArray, List.set_cons_zero, List.set_cons_succ]
  refine take_at (i := 4) (d := 147) (v := .slice al nl cl) rfl rfl (by kernel_rfl) (by kernel_rfl) (by kernel_rfl) (fun _ _ _ h => h) (Or.inl ⟨by rfl, fun w' hSw => ?_⟩) hHeld ?_
  · obtain ⟨s0, s1, s2⟩ := hSw
    go_simp
  simp only [List.setIfInBounds_toArray, List.set_cons_zero, List.set_cons_succ]
  refine take_at (i := 6) (d := 149) (v := .pointer (some ⟨w.heap.size, 0, none⟩)) rfl rfl (by kernel_rfl) (by kernel_rfl) (by kernel_rfl) (fun _ _ _ h => h) (Or.inl ⟨by rfl, fun w' hSw => ?_⟩) hHeld ?_
  · obtain ⟨s0, s1, s2⟩ := hSw
    go_simp
  simp only [List.setIfInBounds_toArray, List.set_cons_zero, List.set_cons_succ]
  refine take_at (i := 7) (d := 150) (v := .int .i64 x) rfl rfl (by kernel_rfl) (by kernel_rfl) (by kernel_rfl) (fun _ _ _ h => h) (Or.inl ⟨by rfl, fun w' hSw => ?_⟩) hHeld ?_
  · obtain ⟨s0, s1, s2⟩ := hSw
    go_simp
  simp only [List.setIfInBounds_toArray, List.set_cons_zero, List.set_cons_succ]
  refine take_at (i := 8) (d := 151) (v := .pointer (some ⟨w.heap.size, 0, none⟩)) rfl rfl (by kernel_rfl) (by kernel_rfl) (by kernel_rfl) (fun _ _ _ h => h) (Or.inl ⟨by rfl, fun w' hSw => ?_⟩) hHeld ?_
  · obtain ⟨s0, s1, s2⟩ := hSw
    go_simp
  simp only [List.setIfInBounds_toArray, List.set_cons_zero, List.set_cons_succ]
  refine take_at (i := 9) (d := 152) (v := .int .i64 x) rfl rfl (by kernel_rfl) (by kernel_rfl) (by kernel_rfl) (fun _ _ _ h => h) (Or.inl ⟨by rfl, fun w' hSw => ?_⟩) hHeld ?_
  · obtain ⟨s0, s1, s2⟩ := hSw
    go_simp
  simp only [List.setIfInBounds_toArray, List.set_cons_zero, List.set_cons_succ]
  refine take_at (i := 10) (d := 153) (v := .slice ak nk ck) rfl rfl (by kernel_rfl) (by kernel_rfl) (by kernel_rfl) (fun _ _ _ h => h) (Or.inl ⟨by rfl, fun w' hSw => ?_⟩) hHeld ?_
  · obtain ⟨s0, s1, s2⟩ := hSw
    go_simp
  simp only [List.setIfInBounds_toArray, List.set_cons_zero, List.set_cons_succ]
  refine pair_start (lst := fun c x y => #[true, true, true, true, true, Nat.ble 1 c, true, true, true, true, true, Nat.ble 2 c, x, y, false, false]) (lP := #[true, true, true, true, true, true, true, true, true, true, true, true, true, true, true, false]) (lQ := #[true, true, true, true, true, true, true, true, true, true, true, true, true, true, true, true]) (iA := 5) (iB := 11) (iX := 12) (iY := 13) (iP := 14) (iQ := 15) (dA := 148) (dB := 154) (dX := 29) (dY := 30) (fA := 32) (fB := 32) (vA := #[.int .i64 x, .int .i64 x, .slice al nl cl]) (vB := #[.int .i64 x, .int .i64 x, .slice ak nk ck]) (W := w21) (RA := GX f (r0 : Int) (r0 : Int) (r0 * r0) (fun t => (((mk nl Zl t).v : Nat) : Int))) (RB := GX f (r0 : Int) (r0 : Int) (r0 * r0) (fun t => (((mk nk Zk t).v : Nat) : Int))) (ra := r0) (ca := r0) (rb := r0) (cb := r0) ?H (by kernel_rfl) rfl HB0.out (GX.stays _ _ _ _ _) (GX.stays _ _ _ _ _) HK.out OFA.out OFB.out ?hend
  case H =>
    exact
      { d := ⟨Nat.lt_of_lt_of_eq (show 148 < 206 by decide) rfl, Nat.lt_of_lt_of_eq (show 154 < 206 by decide) rfl, Nat.lt_of_lt_of_eq (show 29 < 206 by decide) rfl, Nat.lt_of_lt_of_eq (show 30 < 206 by decide) rfl, by decide, by decide, by decide, by decide, by decide, by decide⟩
        oA := ⟨_, _, _, rfl, rfl, rfl, rfl, fun xA xB xX xY => by simp [st4, Act.eval]⟩
        oB := ⟨_, _, _, rfl, rfl, rfl, rfl, fun xA xB xX xY => by simp [st4, Act.eval]⟩
        fA := fun w => by kernel_rfl
        fB := fun w => by kernel_rfl
        oX := ⟨_, rfl, rfl, rfl, rfl⟩
        oY := ⟨_, rfl, rfl, rfl, rfl⟩
        oP := ⟨_, rfl, rfl, rfl, rfl⟩
        oQ := ⟨_, rfl, rfl, rfl, rfl⟩
        r0 := fun x y => by cases x <;> cases y <;> kernel_rfl
        r1 := fun x y => by cases x <;> cases y <;> kernel_rfl
        r2 := fun x y => by cases x <;> cases y <;> first | (intro h; cases h; done) | (intro _; kernel_rfl)
        rP := by kernel_rfl
        rQ := by kernel_rfl
        rE := by kernel_rfl
        sA := fun x y => by cases x <;> cases y <;> kernel_rfl
        sB := fun x y => by cases x <;> cases y <;> kernel_rfl
        sX := fun c y => by kernel_rfl
        sY := fun c x => by kernel_rfl
        sP := by kernel_rfl
        sQ := by kernel_rfl }
  case hend =>
  intro pD pO aD nD kD aO nO kO W22 GA GB XA XB hne hlA hlB LP
  obtain ⟨_, _, ea, NA, _⟩ := GA
  obtain ⟨_, _, eb, NB, _⟩ := GB
  simp only [Value.agg.injEq, List.cons.injEq, Array.mk.injEq, Value.slice.injEq, and_true, true_and] at ea eb
  obtain ⟨e1, e2, e3⟩ := ea
  subst e1 e2 e3
  obtain ⟨e1, e2, e3⟩ := eb
  subst e1 e2 e3
  simp only [st4, List.setIfInBounds_toArray, List.set_cons_zero, List.set_cons_succ]
  have R' := R
  clear R
  have R := hide (((R'.out.below LP).add ⟨pD, r0, r0, .slice aD (r0 * r0) kD, r0 * r0, _⟩ ⟨XA, NA⟩).add ⟨pO, r0, r0, .slice aO (r0 * r0) kO, r0 * r0, _⟩ ⟨XB, NB⟩)
  clear R' LP XA XB NA NB hne hlA hlB OFA OFB HK HB0 hHeld
  by_cases hD : Full r0 (mk nl Zl)
  case neg =>
    obtain ⟨xa, na⟩ := R.out.all _ (List.mem_cons_of_mem _ List.mem_cons_self)
    dsimp only at xa na
    have c0 := xa.cell0
    have c1 := xa.cell1
    have c2 := xa.cell2
    have HNA := hide na
    clear xa na
    go_wp2_with fail
    refine (inverse_any R.out.sp HQ0.out.1 HQ0.out.2 HNA.out).mono ?_
    rintro e w23 ⟨h, S9, g9⟩
    rcases h with ⟨h, _⟩ | ⟨h, rfl⟩
    · exact absurd h hD
    have R' := R
    clear R
    have R := hide ((R'.out.go S9 g9).box 0 0 (NX.nil _ f (fun _ => 0)))
    clear R' S9 g9 HNA c0 c1 c2 h
    have hbad : ¬ (Full r0 (mk nl Zl) ∧ Full r0 (mk nk Zk)) := fun h => hD h.1
    obtain ⟨xa, na⟩ := R.out.all _ (List.mem_cons_of_mem _ List.mem_cons_self)
    dsimp only at xa na
    have c0 := xa.cell0
    have c1 := xa.cell1
    have c2 := xa.cell2
    have HNA := hide na
    clear xa na
    go_wp2_with fail
    refine (inverse_any R.out.sp HQ0.out.1 HQ0.out.2 HNA.out).mono ?_
    rintro e w24 ⟨h, S9, g9⟩
    rcases h with ⟨h, gQq, rfl, hG, _⟩ | ⟨h, rfl⟩
    case inl =>
      have R' := R
      clear R
      have R := hide ((R'.out.go S9 g9).box r0 r0 (hG.nx (Nat.le_refl _) (S9.kne hG)))
      clear R' hG S9 g9 HNA c0 c1 c2 h
      obtain ⟨xa, na⟩ := R.out.all _ (List.mem_cons_of_mem _ (List.mem_cons_of_mem _ (List.mem_cons_of_mem _ List.mem_cons_self)))
      dsimp only at xa na
      obtain ⟨xb, nb⟩ := R.out.all _ (List.mem_cons_of_mem _ (List.mem_cons_of_mem _ List.mem_cons_self))
      dsimp only at xb nb
      have c0 := xa.cell0
      have c1 := xa.cell1
      have c2 := xa.cell2
      have d0 := xb.cell0
      have d1 := xb.cell1
      have d2 := xb.cell2
      have HNA := hide na
      have HNB := hide nb
      clear xa xb na nb
      go_wp2_with fail
      refine (mul_mat R.out.sp HQ0.out.1 HQ0.out.2 HQ0.out.1 HQ0.out.2 HQ0.out.1 HQ0.out.2 HNA.out HNB.out).mono ?_
      rintro e w25 ⟨gDO, rfl, hG, _, S9, g9⟩
      have R' := R
      clear R
      have R := hide ((R'.out.go S9 g9).box r0 r0 (hG.nx (Nat.le_refl _) (S9.kne hG)))
      clear R' hG S9 g9 HNA HNB c0 c1 c2 d0 d1 d2
      obtain ⟨xa, na⟩ := R.out.all _ List.mem_cons_self
      dsimp only at xa na
      have c0 := xa.cell0
      have c1 := xa.cell1
      have c2 := xa.cell2
      have HNA := hide na
      clear xa na
      go_wp2_with fail
      refine (inverse_any R.out.sp HQ0.out.1 HQ0.out.2 HNA.out).mono ?_
      rintro e w26 ⟨h, S9, g9⟩
      rcases h with ⟨h, _⟩ | ⟨_, rfl⟩
      · exact absurd (ring_bad h) hbad
      have L9 := hide (below_alloc (R.out.go S9 g9).bel (.cells #[.int .i64 0, .int .i64 0, .slice none 0 0] 24))
      clear HNA S9 g9 c0 c1 c2 R
      go_wp2
      go_ret
      exact ⟨rfl, L9.out⟩
    case inr =>
      have R' := R
      clear R
      have R := hide ((R'.out.go S9 g9).box 0 0 (NX.nil _ f (fun _ => 0)))
      clear R' S9 g9 HNA c0 c1 c2 h
      obtain ⟨xa, na⟩ := R.out.all _ (List.mem_cons_of_mem _ (List.mem_cons_of_mem _ (List.mem_cons_of_mem _ List.mem_cons_self)))
      dsimp only at xa na
      obtain ⟨xb, nb⟩ := R.out.all _ (List.mem_cons_of_mem _ (List.mem_cons_of_mem _ List.mem_cons_self))
      dsimp only at xb nb
      have c0 := xa.cell0
      have c1 := xa.cell1
      have c2 := xa.cell2
      have d0 := xb.cell0
      have d1 := xb.cell1
      have d2 := xb.cell2
      have HNA := hide na
      have HNB := hide nb
      clear xa xb na nb
      go_wp2_with fail
      refine (mul_mat R.out.sp HQ0.out.1 HQ0.out.2 HQ0.out.1 HQ0.out.2 HQ0.out.1 HQ0.out.2 HNA.out HNB.out).mono ?_
      rintro e w25 ⟨gDO, rfl, hG, _, S9, g9⟩
      have R' := R
      clear R
      have R := hide ((R'.out.go S9 g9).box r0 r0 (hG.nx (Nat.le_refl _) (S9.kne hG)))
      clear R' hG S9 g9 HNA HNB c0 c1 c2 d0 d1 d2
      obtain ⟨xa, na⟩ := R.out.all _ List.mem_cons_self
      dsimp only at xa na
      have c0 := xa.cell0
      have c1 := xa.cell1
      have c2 := xa.cell2
      have HNA := hide na
      clear xa na
      go_wp2_with fail
      refine (inverse_any R.out.sp HQ0.out.1 HQ0.out.2 HNA.out).mono ?_
      rintro e w26 ⟨h, S9, g9⟩
      rcases h with ⟨h, _⟩ | ⟨_, rfl⟩
      · exact absurd (ring_bad h) hbad
      have L9 := hide (below_alloc (R.out.go S9 g9).bel (.cells #[.int .i64 0, .int .i64 0, .slice none 0 0] 24))
      clear HNA S9 g9 c0 c1 c2 R
      go_wp2
      go_ret
      exact ⟨rfl, L9.out⟩
  by_cases hO : Full r0 (mk nk Zk)
  case neg =>
    obtain ⟨xa, na⟩ := R.out.all _ (List.mem_cons_of_mem _ List.mem_cons_self)
    dsimp only at xa na
    have c0 := xa.cell0
    have c1 := xa.cell1
    have c2 := xa.cell2
    have HNA := hide na
    clear xa na
    go_wp2_with fail
    refine (inverse_any R.out.sp HQ0.out.1 HQ0.out.2 HNA.out).mono ?_
    rintro e w23 ⟨h, S9, g9⟩
    rcases h with ⟨_, gP, rfl, hG, _⟩ | ⟨h, _⟩
    rotate_left
    · exact absurd h (Nat.not_lt.2 (Nat.le_of_eq hD.symm))
    have R' := R
    clear R
    have R := hide ((R'.out.go S9 g9).box r0 r0 (hG.nx (Nat.le_refl _) (S9.kne hG)))
    clear R' hG S9 g9 HNA c0 c1 c2
    have hbad : ¬ (Full r0 (mk nl Zl) ∧ Full r0 (mk nk Zk)) := fun h => hO h.2
    obtain ⟨xa, na⟩ := R.out.all _ (List.mem_cons_of_mem _ List.mem_cons_self)
    dsimp only at xa na
    have c0 := xa.cell0
    have c1 := xa.cell1
    have c2 := xa.cell2
    have HNA := hide na
    clear xa na
    go_wp2_with fail
    refine (inverse_any R.out.sp HQ0.out.1 HQ0.out.2 HNA.out).mono ?_
    rintro e w24 ⟨h, S9, g9⟩
    rcases h with ⟨h, _⟩ | ⟨h, rfl⟩
    · exact absurd h hO
    have R' := R
    clear R
    have R := hide ((R'.out.go S9 g9).box 0 0 (NX.nil _ f (fun _ => 0)))
    clear R' S9 g9 HNA c0 c1 c2 h
    obtain ⟨xa, na⟩ := R.out.all _ (List.mem_cons_of_mem _ (List.mem_cons_of_mem _ (List.mem_cons_of_mem _ List.mem_cons_self)))
    dsimp only at xa na
    obtain ⟨xb, nb⟩ := R.out.all _ (List.mem_cons_of_mem _ (List.mem_cons_of_mem _ List.mem_cons_self))
    dsimp only at xb nb
    have c0 := xa.cell0
    have c1 := xa.cell1
    have c2 := xa.cell2
    have d0 := xb.cell0
    have d1 := xb.cell1
    have d2 := xb.cell2
    have HNA := hide na
    have HNB := hide nb
    clear xa xb na nb
    go_wp2_with fail
    refine (mul_mat R.out.sp HQ0.out.1 HQ0.out.2 HQ0.out.1 HQ0.out.2 HQ0.out.1 HQ0.out.2 HNA.out HNB.out).mono ?_
    rintro e w25 ⟨gDO, rfl, hG, _, S9, g9⟩
    have R' := R
    clear R
    have R := hide ((R'.out.go S9 g9).box r0 r0 (hG.nx (Nat.le_refl _) (S9.kne hG)))
    clear R' hG S9 g9 HNA HNB c0 c1 c2 d0 d1 d2
    obtain ⟨xa, na⟩ := R.out.all _ List.mem_cons_self
    dsimp only at xa na
    have c0 := xa.cell0
    have c1 := xa.cell1
    have c2 := xa.cell2
    have HNA := hide na
    clear xa na
    go_wp2_with fail
    refine (inverse_any R.out.sp HQ0.out.1 HQ0.out.2 HNA.out).mono ?_
    rintro e w26 ⟨h, S9, g9⟩
    rcases h with ⟨h, _⟩ | ⟨_, rfl⟩
    · exact absurd (ring_bad h) hbad
    have L9 := hide (below_alloc (R.out.go S9 g9).bel (.cells #[.int .i64 0, .int .i64 0, .slice none 0 0] 24))
    clear HNA S9 g9 c0 c1 c2 R
    go_wp2
    go_ret
    exact ⟨rfl, L9.out⟩
  case pos =>
    obtain ⟨xa, na⟩ := R.out.all _ (List.mem_cons_of_mem _ List.mem_cons_self)
    dsimp only at xa na
    have c0 := xa.cell0
    have c1 := xa.cell1
    have c2 := xa.cell2
    have HNA := hide na
    clear xa na
    go_wp2_with fail
    refine (inverse_any R.out.sp HQ0.out.1 HQ0.out.2 HNA.out).mono ?_
    rintro e w23 ⟨h, S9, g9⟩
    rcases h with ⟨_, gP, rfl, hG, _⟩ | ⟨h, _⟩
    rotate_left
    · exact absurd h (Nat.not_lt.2 (Nat.le_of_eq hD.symm))
    have R' := R
    clear R
    have R := hide ((R'.out.go S9 g9).box r0 r0 (hG.nx (Nat.le_refl _) (S9.kne hG)))
    clear R' hG S9 g9 HNA c0 c1 c2
    obtain ⟨xa, na⟩ := R.out.all _ (List.mem_cons_of_mem _ List.mem_cons_self)
    dsimp only at xa na
    have c0 := xa.cell0
    have c1 := xa.cell1
    have c2 := xa.cell2
    have HNA := hide na
    clear xa na
    go_wp2_with fail
    refine (inverse_any R.out.sp HQ0.out.1 HQ0.out.2 HNA.out).mono ?_
    rintro e w24 ⟨h, S9, g9⟩
    rcases h with ⟨_, gQq, rfl, hG, _⟩ | ⟨h, _⟩
    rotate_left
    · exact absurd h (Nat.not_lt.2 (Nat.le_of_eq hO.symm))
    have R' := R
    clear R
    have R := hide ((R'.out.go S9 g9).box r0 r0 (hG.nx (Nat.le_refl _) (S9.kne hG)))
    clear R' hG S9 g9 HNA c0 c1 c2
    obtain ⟨xa, na⟩ := R.out.all _ (List.mem_cons_of_mem _ (List.mem_cons_of_mem _ (List.mem_cons_of_mem _ List.mem_cons_self)))
    dsimp only at xa na
    obtain ⟨xb, nb⟩ := R.out.all _ (List.mem_cons_of_mem _ (List.mem_cons_of_mem _ List.mem_cons_self))
    dsimp only at xb nb
    have c0 := xa.cell0
    have c1 := xa.cell1
    have c2 := xa.cell2
    have d0 := xb.cell0
    have d1 := xb.cell1
    have d2 := xb.cell2
    have HNA := hide na
    have HNB := hide nb
    clear xa xb na nb
    go_wp2_with fail
    refine (mul_mat R.out.sp HQ0.out.1 HQ0.out.2 HQ0.out.1 HQ0.out.2 HQ0.out.1 HQ0.out.2 HNA.out HNB.out).mono ?_
    rintro e w25 ⟨gDO, rfl, hG, _, S9, g9⟩
    have R' := R
    clear R
    have R := hide ((R'.out.go S9 g9).box r0 r0 (hG.nx (Nat.le_refl _) (S9.kne hG)))
    clear R' hG S9 g9 HNA HNB c0 c1 c2 d0 d1 d2
    obtain ⟨hP, hPQ⟩ := ring_good hD hO
    obtain ⟨xa, na⟩ := R.out.all _ List.mem_cons_self
    dsimp only at xa na
    have c0 := xa.cell0
    have c1 := xa.cell1
    have c2 := xa.cell2
    have HNA := hide na
    clear xa na
    go_wp2_with fail
    refine (inverse_any R.out.sp HQ0.out.1 HQ0.out.2 HNA.out).mono ?_
    rintro e w26 ⟨h, S9, g9⟩
    rcases h with ⟨_, gR, rfl, hG, _⟩ | ⟨h, _⟩
    rotate_left
    · exact absurd h (Nat.not_lt.2 (Nat.le_of_eq hP.symm))
    have R' := R
    clear R
    have R := hide ((R'.out.go S9 g9).box r0 r0 (hG.nx (Nat.le_refl _) (S9.kne hG)))
    clear R' hG S9 g9 HNA c0 c1 c2
    have HPQ := hide hPQ
    clear hPQ hP
    obtain ⟨xa, na⟩ := R.out.all _ (List.mem_cons_of_mem _ (List.mem_cons_of_mem _ List.mem_cons_self))
    dsimp only at xa na
    obtain ⟨xb, nb⟩ := R.out.all _ (List.mem_cons_of_mem _ (List.mem_cons_of_mem _ (List.mem_cons_of_mem _ List.mem_cons_self)))
    dsimp only at xb nb
    have c0 := xa.cell0
    have c1 := xa.cell1
    have c2 := xa.cell2
    have d0 := xb.cell0
    have d1 := xb.cell1
    have d2 := xb.cell2
    have HNA := hide na
    have HNB := hide nb
    clear xa xb na nb
    go_wp2_with fail
    refine (mul_mat R.out.sp HQ0.out.1 HQ0.out.2 HQ0.out.1 HQ0.out.2 HQ0.out.1 HQ0.out.2 HNA.out HNB.out).mono ?_
    rintro e w27 ⟨gV, rfl, hG, _, S9, g9⟩
    have R' := R
    clear R
    have R := hide ((R'.out.go S9 g9).box r0 r0 (hG.nx (Nat.le_refl _) (S9.kne hG)))
    clear R' hG S9 g9 HNA HNB c0 c1 c2 d0 d1 d2
    obtain ⟨xa, na⟩ := R.out.all _ (List.mem_cons_of_mem _ List.mem_cons_self)
    dsimp only at xa na
    obtain ⟨xb, nb⟩ := R.out.all _ List.mem_cons_self
    dsimp only at xb nb
    have c0 := xa.cell0
    have c1 := xa.cell1
    have c2 := xa.cell2
    have d0 := xb.cell0
    have d1 := xb.cell1
    have d2 := xb.cell2
    have HNA := hide na
    have HNB := hide nb
    clear xa xb na nb
    go_wp2_with fail
    refine (alike_any HNA.out (nx_congr HNB.out (fun t ht => (congrArg (fun a : K => ((a.v : Nat) : Int)) (HPQ.out t ht)).symm)) (Nat.le_trans (Nat.mul_le_mul HQ0.out.2 HQ0.out.2) (by decide))).mono ?_
    rintro e w28 ⟨rfl, hb⟩
    have R' := R
    clear R
    have R := hide (R'.out.below hb)
    clear R' hb HNA HNB c0 c1 c2 d0 d1 d2
    go_wp2
    go_ret
    exact ⟨rfl, R.out.bel⟩
end Go.Proofs.Ythedeggggbdibaa

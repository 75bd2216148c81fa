/-
  Contracts of the program and of the statements (part 27 of 27).
-/
import Derived.Test.YtagijldedngcoaaGreatDoorOg26
import Derived.Test.YtagijldedngcoaaGreatDoorOg10
import Derived.ProofKit
import Derived.LaidMore
import Derived.OpenShut
import Derived.SizedLaws
import Derived.Stop.Joined
set_option maxRecDepth 100000
set_option maxHeartbeats 12800000

namespace Go.Proofs.YtagijldedngcoaaGreatDoor
open Go.RowKit Go.Lib Go.Maps
theorem works10 {w : World} (hLw : Zq.Sh.Laid w) : Calls Tryz.prog 12 #[] w fun e w' => e = .returned (.bool true) ∧ Below w.heap.size w w' := by
  obtain ⟨U, hU⟩ : ∃ U, U = w.alloc (.cells #[.int .i64 2, .int .i64 1] 27) := ⟨_, rfl⟩
  obtain ⟨X, hX⟩ : ∃ X, X = w.heap.size := ⟨_, rfl⟩
  have hB : Below w.heap.size w U := by rw [hU]; exact (Below.refl _ _).alloc (Nat.le_refl _) _
  have hk : U.heap[X]? = some (.cells #[.int .i64 2, .int .i64 1] 27 (0, 0)) := by rw [hU, hX]; exact heap_alloc_new w _
  have hUs : U.heap.size = X + 1 := by rw [hU, hX]; simp
  have y0 : U.cell? ⟨X, 0, none⟩ = some (.int .i64 2) := by simp [World.cell?, hk]
  have y1 : U.cell? ⟨X, 1, none⟩ = some (.int .i64 1) := by simp [World.cell?, hk]
  have HY : Hid (Calls Tryz.prog 32 #[.agg #[.int .i64 2, .int .i64 1], .int .i64 1000] U fun e w1 => ∃ a c g o, e = .returned (.slice (some ⟨g, o, none⟩) 3 c) ∧ a = some g ∧ Hid (∃ bs, W1 w w1 X (.slice (some ⟨g, o, none⟩) 3 c) bs)) := by
    have hy : Calls Tryz.prog 32 #[.agg #[.int .i64 2, .int .i64 1], .int .i64 1000] U fun e w' => ∃ a c bs, e = .returned (.slice a 3 c) ∧ YB 1000 U w' (.slice a 3 c) bs ∧ bs.length = 3 := yard_any 2 1 1000 (by decide) (by decide) (by decide) U
    refine hy.mono ?_
    rintro e w1 ⟨a, c, bs, rfl, hY, hbl⟩
    have hyp := hY.yp
    rw [hbl] at hyp
    obtain ⟨a', c', e0, h0 | ⟨g0, o0, ea, _⟩⟩ := hyp.rp
    · have := congrArg List.length h0
      simp [hbl] at this
    obtain ⟨rfl, -, rfl⟩ : a = a' ∧ _ ∧ c = c' := by simpa using e0
    subst ea
    have hs := hY.be.size
    have hbe : Below w.heap.size w w1 := hB.trans (hY.be.mono hB.size)
    refine ⟨some g0, c, g0, o0, rfl, rfl, bs, ?_, (hY.be.block X (by omega)).trans hk, hbe, hLw.below hbe hLw.size, by omega, hLw.size⟩
    rw [← sts_new]
    exact hyp.mono fun i hi => ⟨by omega, hi.2⟩
  have HU := hide hU
  have HX := hide hX
  clear hB hk hUs hU hX hLw
  go_enter Tryz.func12, Tryz.ntmps12
  go_upto_region 2 with fail
  rw [← HU.out, ← HX.out]
  go_wp2_with fail
  refine HY.out.mono ?_
  rintro e w1 ⟨_, c, g, o, rfl, _, hW1⟩
  have k1 := sl_eq Tryz.underlying28
  obtain ⟨bs, h1⟩ := hW1.out
  have z0 : w1.cell? ⟨X, 0, none⟩ = some (.int .i64 2) := by simp [World.cell?, h1.kt]
  have z1 : w1.cell? ⟨X, 1, none⟩ = some (.int .i64 1) := by simp [World.cell?, h1.kt]
  have HP := hide (work_put h1)
  have H1 := hide h1
  clear h1 hW1
  go_upto_region 5 with fail
  go_wp2_with fail
  refine HP.out.mono ?_
  rintro e w3 ⟨b, rfl, hM⟩
  have HR := hide (work_run1 H1.out hM)
  clear hM
  go_wp2_with fail
  refine HR.out.mono ?_
  rintro e w4 ⟨ai, ci, at_, ct, rfl, h4⟩
  obtain ⟨W5, hW5⟩ : ∃ W5, W5 = w4.alloc (.cells #[.int .i64 0, .string ⟨#[]⟩, .int .i64 0, .slice ai 0 ci, .slice at_ 0 ct, .slice none 0 0, .slice none 0 0] 63) := ⟨_, rfl⟩
  have hB5 : Below w4.heap.size w4 W5 := by rw [hW5]; exact (Below.refl _ _).alloc (Nat.le_refl _) _
  obtain ⟨g', o', c', e1, hsv, hcl, hwi⟩ := work_wipe (h4.out.bel hB5)
  injection hsv with q1 _ q3
  injection q1 with q1
  injection q1 with q1 q2 _
  subst q1 q2 q3
  have HW := hide hwi
  have HW5 := hide hW5
  clear hB5 hW5 hwi h4
  go_upto_region 7 with fail
  rw [← HW5.out]
  go_wp2_with fail
  refine HW.out.mono ?_
  rintro e w6 ⟨rfl, h6⟩
  have z0' : w6.cell? ⟨X, 0, none⟩ = some (.int .i64 2) := by simp [World.cell?, h6.out.kt]
  have z1' : w6.cell? ⟨X, 1, none⟩ = some (.int .i64 1) := by simp [World.cell?, h6.out.kt]
  have HG1 : Hid (∀ (W7 : World) (z : Option Nat), Hid (BW w6 W7 z) → Calls Tryz.prog 25 #[.agg #[.int .i64 2, .int .i64 1], .string ⟨#[97]⟩, .string wD] W7 fun e w' => ∃ b2, e = .returned (.pointer (some ⟨b2, 0, none⟩)) ∧ Hid (JW w6 w' b2 (getP 2 1 wA wD kGet) z) ∧ KC2 X w') := fun W7 z hz => w_job h6.out hz.out
  have HG2 : Hid (∀ (W8 : World) (b2 : Nat) (z : Option Nat), Hid (JW w6 W8 b2 (getP 2 1 wA wD kGet) z) → Calls Tryz.prog 33 #[.pointer (some ⟨b2, 0, none⟩), .slice (some ⟨g, o, none⟩) 3 c] W8 fun e w9 => ∃ ai ci at_ ct, e = .returned (.tuple #[.agg #[.int .i64 0, .string ⟨#[]⟩, .int .i64 0, .slice ai 0 ci, .slice at_ 1 ct, .slice none 0 0, .slice none 0 0], .bool true]) ∧ Hid (RW w6 w9 b2 ⟨0, 0, [], [wT]⟩ 3 (fun i => X < i ∧ i < b) (.slice (some ⟨g, o, none⟩) 3 c) (sts 1000 3 wA wO) bs (.slice ai 0 ci) (.slice at_ 1 ct) z) ∧ KC2 X w9) := fun W8 b2 z hz => w_run h6.out hz.out
  have HS0 : Hid (∀ (B : Nat) (W7 : World) (z : Option Nat), BW w6 W7 z → B < W7.heap.size → W7.cell? ⟨B, 0, none⟩ = some (.string ⟨#[97, 98, 99]⟩) → Calls Tryz.prog 37 #[.slice (some ⟨B, 0, none⟩) 1 1] W7 fun e w7 => e = .returned (.string wD) ∧ Hid (BW w6 w7 z) ∧ KC2 X w7) := fun B W7 z hz hB hc => w_sum h6.out hz hB hc
  have HG3 : Hid (∀ (W : World) (b2 : Nat) (ai at_ : Option Addr) (ci ct q : Nat), Hid (RW w6 W b2 ⟨0, 0, [], [wT]⟩ 3 (fun i => X < i ∧ i < b) (.slice (some ⟨g, o, none⟩) 3 c) (sts 1000 3 wA wO) bs (.slice ai 0 ci) (.slice at_ 1 ct) (some q)) → ∃ V, (Instr.storeAt 63 (.pointer (some ⟨q, 0, none⟩)) (.agg #[.int .i64 0, .string ⟨#[]⟩, .int .i64 0, .slice ai 0 ci, .slice at_ 1 ct, .slice none 0 0, .slice none 0 0])).run Tryz.prog W = .ok () V ∧ Hid (RV w6 V b2 ⟨0, 0, [], [wT]⟩ 3 (fun i => X < i ∧ i < b) (.slice (some ⟨g, o, none⟩) 3 c) (sts 1000 3 wA wO) bs (.slice ai 0 ci) (.slice at_ 1 ct) q) ∧ KC2 X V) := fun W b2 ai at_ ci ct q hR => w_store h6.out hR.out
  have HE6 : Hid (W6 w w6 X b (.slice (some ⟨g, o, none⟩) 3 c) bs) := h6
  have hXl : X < w6.heap.size := lt_of_block h6.out.kt
  have hX2 : KC2 X w6 := h6.out.kc (Below.refl _ _)
  have bt : BW w6 (w6.alloc (.cells #[.string ⟨#[97, 98, 99]⟩] 9)) none := (BW.start w6).bel ((Below.refl _ _).alloc (Nat.le_refl _) _)
  have bz : BW w6 (w6.alloc zR7) (some w6.heap.size) := (BW.start w6).al
  have HT1 : Hid (Calls Tryz.prog 37 #[.slice (some ⟨w6.heap.size, 0, none⟩) 1 1] (w6.alloc (.cells #[.string ⟨#[97, 98, 99]⟩] 9)).drew fun e w7 => e = .returned (.string wD) ∧ Hid (BW w6 w7 none) ∧ KC2 X w7) := by
    have h9 : (w6.alloc (.cells #[.string ⟨#[97, 98, 99]⟩] 9)).drew.heap[w6.heap.size]? = some (.cells #[.string ⟨#[97, 98, 99]⟩] 9 (0, 0)) := heap_alloc_new w6 _
    exact HS0.out _ _ _ bt.drew (lt_of_block h9) (cell1 h9).1
  have HT3 : Hid (Calls Tryz.prog 37 #[.slice (some ⟨w6.heap.size, 0, none⟩) 1 1] ((w6.alloc (.cells #[.string ⟨#[97, 98, 99]⟩] 9)).alloc zR7).drew fun e w7 => e = .returned (.string wD) ∧ Hid (BW w6 w7 (some (w6.heap.size + 1))) ∧ KC2 X w7) := by
    have h8 : (w6.alloc (.cells #[.string ⟨#[97, 98, 99]⟩] 9)).heap[w6.heap.size]? = some (.cells #[.string ⟨#[97, 98, 99]⟩] 9 (0, 0)) := heap_alloc_new w6 _
    have hb9 : Below (w6.alloc (.cells #[.string ⟨#[97, 98, 99]⟩] 9)).heap.size (w6.alloc (.cells #[.string ⟨#[97, 98, 99]⟩] 9)) ((w6.alloc (.cells #[.string ⟨#[97, 98, 99]⟩] 9)).alloc zR7) := (Below.refl _ _).alloc (Nat.le_refl _) _
    have h9 : ((w6.alloc (.cells #[.string ⟨#[97, 98, 99]⟩] 9)).alloc zR7).drew.heap[w6.heap.size]? = some (.cells #[.string ⟨#[97, 98, 99]⟩] 9 (0, 0)) := (hb9.block _ (lt_of_block h8)).trans h8
    have hz := bt.al
    have e : (w6.alloc (.cells #[.string ⟨#[97, 98, 99]⟩] 9)).heap.size = w6.heap.size + 1 := by simp
    rw [e] at hz
    exact HS0.out _ _ _ hz.drew (lt_of_block h9) (cell1 h9).1
  have HT2 : Hid (Calls Tryz.prog 37 #[.slice (some ⟨w6.heap.size + 1, 0, none⟩) 1 1] ((w6.alloc zR7).alloc (.cells #[.string ⟨#[97, 98, 99]⟩] 9)).drew fun e w7 => e = .returned (.string wD) ∧ Hid (BW w6 w7 (some w6.heap.size)) ∧ KC2 X w7) := by
    have e : (w6.alloc zR7).heap.size = w6.heap.size + 1 := by simp
    have h9 : ((w6.alloc zR7).alloc (.cells #[.string ⟨#[97, 98, 99]⟩] 9)).drew.heap[w6.heap.size + 1]? = some (.cells #[.string ⟨#[97, 98, 99]⟩] 9 (0, 0)) := by
      rw [← e]
      exact heap_alloc_new (w6.alloc zR7) _
    exact HS0.out _ _ _ (bz.bel ((Below.refl _ _).alloc (Nat.le_refl _) _)).drew (lt_of_block h9) (cell1 h9).1
  clear z0 z1 y0 y1 HP H1 HR HW HW5 hcl HY HU HX h6 HS0 bt bz
  obtain ⟨hx0, hx1⟩ := hX2
  have HAL : Hid (∀ W, Below w6.heap.size w6 W → KC2 X (W.alloc zR7)) := fun W hb => HE6.out.kc (hb.alloc hb.size _)
  have HAM : Hid (∀ W, Gs (Qs bs) w6 W → KC2 X (W.alloc zR7)) := fun W hg => by
    have hbz : Below W.heap.size W (W.alloc zR7) := (Below.refl _ _).alloc (Nat.le_refl _) _
    have h0 := HE6.out
    exact KC2.of (((hg.bel hbz).block X (lt_of_block h0.kt) (fun hi => by have := h0.yp.qs hi; omega)).trans h0.kt)
  have bb0 := Below.refl w6.heap.size w6
  have HA_t : Hid (KC2 X (w6.alloc (.cells #[.string ⟨#[97, 98, 99]⟩] 9)).drew) := (HE6.out.kc (bb0.alloc (Nat.le_refl _) _) : KC2 X (w6.alloc (.cells #[.string ⟨#[97, 98, 99]⟩] 9)))
  have HA_z : Hid (KC2 X (w6.alloc zR7).drew) := (HE6.out.kc (bb0.alloc (Nat.le_refl _) _) : KC2 X (w6.alloc zR7))
  have HA_tz : Hid (KC2 X ((w6.alloc (.cells #[.string ⟨#[97, 98, 99]⟩] 9)).alloc zR7).drew) := (HE6.out.kc ((bb0.alloc (Nat.le_refl _) _).alloc (by simp) _) : KC2 X ((w6.alloc (.cells #[.string ⟨#[97, 98, 99]⟩] 9)).alloc zR7))
  have HA_zt : Hid (KC2 X ((w6.alloc zR7).alloc (.cells #[.string ⟨#[97, 98, 99]⟩] 9)).drew) := (HE6.out.kc ((bb0.alloc (Nat.le_refl _) _).alloc (by simp) _) : KC2 X ((w6.alloc zR7).alloc (.cells #[.string ⟨#[97, 98, 99]⟩] 9)))
  clear bb0
  have hHeld0 : KC2 X w6.drew := ⟨hx0, hx1⟩
  go_upto_region 8 with fail
  refine AnyZ.start (S := fun w' => w'.cell? ⟨X, 0, none⟩ = some (.int .i64 2) ∧ w'.cell? ⟨X, 1, none⟩ = some (.int .i64 1)) (z := 99) (by kernel_rfl) ?_
  refine AnyZ.take (i := 0) (d := 26) (v := .agg #[.int .i64 2, .int .i64 1]) rfl rfl (by kernel_rfl) (fun _ _ _ h => h) (Or.inl ⟨by rfl, fun w' hSw => ?_⟩) hHeld0 ?_
  · obtain ⟨_, _⟩ := hSw
    go_simp
  try simp only [List.setIfInBounds_toArray, List.set_cons_zero, List.set_cons_succ]
  refine AnyZ.take (i := 4) (d := 30) (v := .slice (some ⟨g, o, none⟩) 3 c) rfl rfl (by kernel_rfl) (fun _ _ _ h => h) (Or.inl ⟨by rfl, fun w' hSw => ?_⟩) hHeld0 ?_
  · obtain ⟨_, _⟩ := hSw
    go_simp
  try simp only [List.setIfInBounds_toArray, List.set_cons_zero, List.set_cons_succ]
  refine AnyZ.two (i := 1) (j := 9) (by kernel_rfl) rfl rfl (fun K hK => ?_) (fun K hK => ?_)
  · go_simp
    refine hK.out _ _ (fun _ => HA_t.out) (fun _ => ?_)
    clear hK K
    try simp only [Act.put, List.setIfInBounds_toArray, List.set_cons_zero, List.set_cons_succ]
    refine AnyZ.two (i := 2) (j := 9) (by kernel_rfl) rfl rfl (fun K hK => ?_) (fun K hK => ?_)
    · go_simp
      refine HT1.out.mono ?_
      rintro e w7 ⟨rfl, h7, hk7⟩
      refine hK.out _ _ (fun _ => hk7) (fun _ => ?_)
      clear hK K
      try simp only [Act.put, List.setIfInBounds_toArray, List.set_cons_zero, List.set_cons_succ]
      refine AnyZ.two (i := 3) (j := 9) (by kernel_rfl) rfl rfl (fun K hK => ?_) (fun K hK => ?_)
      · go_simp
        refine (HG1.out _ _ h7).mono ?_
        rintro e w8 ⟨b2, rfl, h8, hk8⟩
        refine hK.out _ _ (fun _ => hk8) (fun _ => ?_)
        clear hK K
        try simp only [Act.put, List.setIfInBounds_toArray, List.set_cons_zero, List.set_cons_succ]
        refine AnyZ.two (i := 5) (j := 9) (by kernel_rfl) rfl rfl (fun K hK => ?_) (fun K hK => ?_)
        · go_simp
          refine (HG2.out _ _ _ h8).mono ?_
          rintro e w9 ⟨ai, ci, at_, ct, rfl, h9, hk9⟩
          refine hK.out _ _ (fun _ => hk9) (fun _ => ?_)
          clear hK K
          try simp only [Act.put, List.setIfInBounds_toArray, List.set_cons_zero, List.set_cons_succ]
          have hHeld9 : KC2 X _ := hk9
          refine AnyZ.take (i := 6) (d := 25) (v := .tuple #[.agg #[.int .i64 0, .string ⟨#[]⟩, .int .i64 0, .slice ai 0 ci, .slice at_ 1 ct, .slice none 0 0, .slice none 0 0], .bool true]) rfl rfl (by kernel_rfl) (fun _ _ _ h => h) (Or.inl ⟨by rfl, fun w' hSw => ?_⟩) hHeld9 ?_
          · obtain ⟨_, _⟩ := hSw
            go_simp
          try simp only [List.setIfInBounds_toArray, List.set_cons_zero, List.set_cons_succ]
          refine AnyZ.take (i := 7) (d := 32) (v := .agg #[.int .i64 0, .string ⟨#[]⟩, .int .i64 0, .slice ai 0 ci, .slice at_ 1 ct, .slice none 0 0, .slice none 0 0]) rfl rfl (by kernel_rfl) (fun _ _ _ h => h) (Or.inl ⟨by rfl, fun w' hSw => ?_⟩) hHeld9 ?_
          · obtain ⟨_, _⟩ := hSw
            go_simp
          try simp only [List.setIfInBounds_toArray, List.set_cons_zero, List.set_cons_succ]
          refine AnyZ.take (i := 8) (d := 33) (v := .bool true) rfl rfl (by kernel_rfl) (fun _ _ _ h => h) (Or.inl ⟨by rfl, fun w' hSw => ?_⟩) hHeld9 ?_
          · obtain ⟨_, _⟩ := hSw
            go_simp
          try simp only [List.setIfInBounds_toArray, List.set_cons_zero, List.set_cons_succ]
          refine AnyZ.one (i := 9) (by kernel_rfl) rfl fun K hK => ?_
          go_simp
          refine hK.out _ _ (fun _ => (HAM.out _ h9.out.gs)) (fun _ => ?_)
          clear hK K
          try simp only [Act.put, List.setIfInBounds_toArray, List.set_cons_zero, List.set_cons_succ]
          have hHeld := hk9
          obtain ⟨V, hV, HV, hkV⟩ := HG3.out _ _ _ _ _ _ _ (hide h9.out.al)
          refine AnyZ.one (i := 10) (by kernel_rfl) rfl fun K hK => ?_
          refine step_store_run rfl 63 _ _ rfl _ _ rfl rfl V hV ?_
          refine hK.out _ _ (fun _ => hkV) (fun _ => ?_)
          clear hK K
          try simp only [Act.put]
          refine AnyZ.take (i := 11) (d := 7) (v := .bool true) rfl rfl (by kernel_rfl) (fun _ _ _ h => h) (Or.inl ⟨by rfl, fun w' hSw => ?_⟩) hkV ?_
          · obtain ⟨_, _⟩ := hSw
            go_simp
          try simp only [List.setIfInBounds_toArray]
          refine AnyZ.done (by kernel_rfl) ?_ _
          obtain ⟨gt, ot, rfl, r0, r4, r5, HSt, HB⟩ := w_end HE6.out HV.out
          clear HG1 HG2 HG3 HT1 HT2 HT3 HA_t HA_z HA_tz HA_zt HAL HAM hV HV h9 h8 h7 hHeld
          go_wp2_with fail
          refine HSt.out.mono ?_
          rintro e w' ⟨rfl, rfl⟩
          go_wp2
          go_ret
          exact ⟨rfl, HB.out⟩
        · go_simp
          refine hK.out _ _ (fun _ => (HAL.out _ h8.out.be)) (fun _ => ?_)
          clear hK K
          try simp only [Act.put, List.setIfInBounds_toArray, List.set_cons_zero, List.set_cons_succ]
          refine AnyZ.one (i := 5) (by kernel_rfl) rfl fun K hK => ?_
          go_simp
          refine (HG2.out _ _ _ (hide h8.out.al)).mono ?_
          rintro e w9 ⟨ai, ci, at_, ct, rfl, h9, hk9⟩
          refine hK.out _ _ (fun _ => hk9) (fun _ => ?_)
          clear hK K
          try simp only [Act.put, List.setIfInBounds_toArray, List.set_cons_zero, List.set_cons_succ]
          have hHeld : KC2 X _ := hk9
          refine AnyZ.take (i := 6) (d := 25) (v := .tuple #[.agg #[.int .i64 0, .string ⟨#[]⟩, .int .i64 0, .slice ai 0 ci, .slice at_ 1 ct, .slice none 0 0, .slice none 0 0], .bool true]) rfl rfl (by kernel_rfl) (fun _ _ _ h => h) (Or.inl ⟨by rfl, fun w' hSw => ?_⟩) hHeld ?_
          · obtain ⟨_, _⟩ := hSw
            go_simp
          try simp only [List.setIfInBounds_toArray, List.set_cons_zero, List.set_cons_succ]
          refine AnyZ.take (i := 7) (d := 32) (v := .agg #[.int .i64 0, .string ⟨#[]⟩, .int .i64 0, .slice ai 0 ci, .slice at_ 1 ct, .slice none 0 0, .slice none 0 0]) rfl rfl (by kernel_rfl) (fun _ _ _ h => h) (Or.inl ⟨by rfl, fun w' hSw => ?_⟩) hHeld ?_
          · obtain ⟨_, _⟩ := hSw
            go_simp
          try simp only [List.setIfInBounds_toArray, List.set_cons_zero, List.set_cons_succ]
          refine AnyZ.take (i := 8) (d := 33) (v := .bool true) rfl rfl (by kernel_rfl) (fun _ _ _ h => h) (Or.inl ⟨by rfl, fun w' hSw => ?_⟩) hHeld ?_
          · obtain ⟨_, _⟩ := hSw
            go_simp
          try simp only [List.setIfInBounds_toArray, List.set_cons_zero, List.set_cons_succ]
          obtain ⟨V, hV, HV, hkV⟩ := HG3.out _ _ _ _ _ _ _ h9
          refine AnyZ.one (i := 10) (by kernel_rfl) rfl fun K hK => ?_
          refine step_store_run rfl 63 _ _ rfl _ _ rfl rfl V hV ?_
          refine hK.out _ _ (fun _ => hkV) (fun _ => ?_)
          clear hK K
          try simp only [Act.put]
          refine AnyZ.take (i := 11) (d := 7) (v := .bool true) rfl rfl (by kernel_rfl) (fun _ _ _ h => h) (Or.inl ⟨by rfl, fun w' hSw => ?_⟩) hkV ?_
          · obtain ⟨_, _⟩ := hSw
            go_simp
          try simp only [List.setIfInBounds_toArray]
          refine AnyZ.done (by kernel_rfl) ?_ _
          obtain ⟨gt, ot, rfl, r0, r4, r5, HSt, HB⟩ := w_end HE6.out HV.out
          clear HG1 HG2 HG3 HT1 HT2 HT3 HA_t HA_z HA_tz HA_zt HAL HAM hV HV h9 h8 h7 hHeld
          go_wp2_with fail
          refine HSt.out.mono ?_
          rintro e w' ⟨rfl, rfl⟩
          go_wp2
          go_ret
          exact ⟨rfl, HB.out⟩
      · go_simp
        refine hK.out _ _ (fun _ => (HAL.out _ h7.out.be)) (fun _ => ?_)
        clear hK K
        try simp only [Act.put, List.setIfInBounds_toArray, List.set_cons_zero, List.set_cons_succ]
        refine AnyZ.one (i := 3) (by kernel_rfl) rfl fun K hK => ?_
        go_simp
        refine (HG1.out _ _ (hide h7.out.al)).mono ?_
        rintro e w8 ⟨b2, rfl, h8, hk8⟩
        refine hK.out _ _ (fun _ => hk8) (fun _ => ?_)
        clear hK K
        try simp only [Act.put, List.setIfInBounds_toArray, List.set_cons_zero, List.set_cons_succ]
        refine AnyZ.one (i := 5) (by kernel_rfl) rfl fun K hK => ?_
        go_simp
        refine (HG2.out _ _ _ h8).mono ?_
        rintro e w9 ⟨ai, ci, at_, ct, rfl, h9, hk9⟩
        refine hK.out _ _ (fun _ => hk9) (fun _ => ?_)
        clear hK K
        try simp only [Act.put, List.setIfInBounds_toArray, List.set_cons_zero, List.set_cons_succ]
        have hHeld : KC2 X _ := hk9
        refine AnyZ.take (i := 6) (d := 25) (v := .tuple #[.agg #[.int .i64 0, .string ⟨#[]⟩, .int .i64 0, .slice ai 0 ci, .slice at_ 1 ct, .slice none 0 0, .slice none 0 0], .bool true]) rfl rfl (by kernel_rfl) (fun _ _ _ h => h) (Or.inl ⟨by rfl, fun w' hSw => ?_⟩) hHeld ?_
        · obtain ⟨_, _⟩ := hSw
          go_simp
        try simp only [List.setIfInBounds_toArray, List.set_cons_zero, List.set_cons_succ]
        refine AnyZ.take (i := 7) (d := 32) (v := .agg #[.int .i64 0, .string ⟨#[]⟩, .int .i64 0, .slice ai 0 ci, .slice at_ 1 ct, .slice none 0 0, .slice none 0 0]) rfl rfl (by kernel_rfl) (fun _ _ _ h => h) (Or.inl ⟨by rfl, fun w' hSw => ?_⟩) hHeld ?_
        · obtain ⟨_, _⟩ := hSw
          go_simp
        try simp only [List.setIfInBounds_toArray, List.set_cons_zero, List.set_cons_succ]
        refine AnyZ.take (i := 8) (d := 33) (v := .bool true) rfl rfl (by kernel_rfl) (fun _ _ _ h => h) (Or.inl ⟨by rfl, fun w' hSw => ?_⟩) hHeld ?_
        · obtain ⟨_, _⟩ := hSw
          go_simp
        try simp only [List.setIfInBounds_toArray, List.set_cons_zero, List.set_cons_succ]
        obtain ⟨V, hV, HV, hkV⟩ := HG3.out _ _ _ _ _ _ _ h9
        refine AnyZ.one (i := 10) (by kernel_rfl) rfl fun K hK => ?_
        refine step_store_run rfl 63 _ _ rfl _ _ rfl rfl V hV ?_
        refine hK.out _ _ (fun _ => hkV) (fun _ => ?_)
        clear hK K
        try simp only [Act.put]
        refine AnyZ.take (i := 11) (d := 7) (v := .bool true) rfl rfl (by kernel_rfl) (fun _ _ _ h => h) (Or.inl ⟨by rfl, fun w' hSw => ?_⟩) hkV ?_
        · obtain ⟨_, _⟩ := hSw
          go_simp
        try simp only [List.setIfInBounds_toArray]
        refine AnyZ.done (by kernel_rfl) ?_ _
        obtain ⟨gt, ot, rfl, r0, r4, r5, HSt, HB⟩ := w_end HE6.out HV.out
        clear HG1 HG2 HG3 HT1 HT2 HT3 HA_t HA_z HA_tz HA_zt HAL HAM hV HV h9 h8 h7 hHeld
        go_wp2_with fail
        refine HSt.out.mono ?_
        rintro e w' ⟨rfl, rfl⟩
        go_wp2
        go_ret
        exact ⟨rfl, HB.out⟩
    · go_simp
      refine hK.out _ _ (fun _ => HA_tz.out) (fun _ => ?_)
      clear hK K
      try simp only [Act.put, List.setIfInBounds_toArray, List.set_cons_zero, List.set_cons_succ]
      refine AnyZ.one (i := 2) (by kernel_rfl) rfl fun K hK => ?_
      go_simp
      refine HT3.out.mono ?_
      rintro e w7 ⟨rfl, h7, hk7⟩
      refine hK.out _ _ (fun _ => hk7) (fun _ => ?_)
      clear hK K
      try simp only [Act.put, List.setIfInBounds_toArray, List.set_cons_zero, List.set_cons_succ]
      refine AnyZ.one (i := 3) (by kernel_rfl) rfl fun K hK => ?_
      go_simp
      refine (HG1.out _ _ h7).mono ?_
      rintro e w8 ⟨b2, rfl, h8, hk8⟩
      refine hK.out _ _ (fun _ => hk8) (fun _ => ?_)
      clear hK K
      try simp only [Act.put, List.setIfInBounds_toArray, List.set_cons_zero, List.set_cons_succ]
      refine AnyZ.one (i := 5) (by kernel_rfl) rfl fun K hK => ?_
      go_simp
      refine (HG2.out _ _ _ h8).mono ?_
      rintro e w9 ⟨ai, ci, at_, ct, rfl, h9, hk9⟩
      refine hK.out _ _ (fun _ => hk9) (fun _ => ?_)
      clear hK K
      try simp only [Act.put, List.setIfInBounds_toArray, List.set_cons_zero, List.set_cons_succ]
      have hHeld : KC2 X _ := hk9
      refine AnyZ.take (i := 6) (d := 25) (v := .tuple #[.agg #[.int .i64 0, .string ⟨#[]⟩, .int .i64 0, .slice ai 0 ci, .slice at_ 1 ct, .slice none 0 0, .slice none 0 0], .bool true]) rfl rfl (by kernel_rfl) (fun _ _ _ h => h) (Or.inl ⟨by rfl, fun w' hSw => ?_⟩) hHeld ?_
      · obtain ⟨_, _⟩ := hSw
        go_simp
      try simp only [List.setIfInBounds_toArray, List.set_cons_zero, List.set_cons_succ]
      refine AnyZ.take (i := 7) (d := 32) (v := .agg #[.int .i64 0, .string ⟨#[]⟩, .int .i64 0, .slice ai 0 ci, .slice at_ 1 ct, .slice none 0 0, .slice none 0 0]) rfl rfl (by kernel_rfl) (fun _ _ _ h => h) (Or.inl ⟨by rfl, fun w' hSw => ?_⟩) hHeld ?_
      · obtain ⟨_, _⟩ := hSw
        go_simp
      try simp only [List.setIfInBounds_toArray, List.set_cons_zero, List.set_cons_succ]
      refine AnyZ.take (i := 8) (d := 33) (v := .bool true) rfl rfl (by kernel_rfl) (fun _ _ _ h => h) (Or.inl ⟨by rfl, fun w' hSw => ?_⟩) hHeld ?_
      · obtain ⟨_, _⟩ := hSw
        go_simp
      try simp only [List.setIfInBounds_toArray, List.set_cons_zero, List.set_cons_succ]
      obtain ⟨V, hV, HV, hkV⟩ := HG3.out _ _ _ _ _ _ _ h9
      refine AnyZ.one (i := 10) (by kernel_rfl) rfl fun K hK => ?_
      refine step_store_run rfl 63 _ _ rfl _ _ rfl rfl V hV ?_
      refine hK.out _ _ (fun _ => hkV) (fun _ => ?_)
      clear hK K
      try simp only [Act.put]
      refine AnyZ.take (i := 11) (d := 7) (v := .bool true) rfl rfl (by kernel_rfl) (fun _ _ _ h => h) (Or.inl ⟨by rfl, fun w' hSw => ?_⟩) hkV ?_
      · obtain ⟨_, _⟩ := hSw
        go_simp
      try simp only [List.setIfInBounds_toArray]
      refine AnyZ.done (by kernel_rfl) ?_ _
      obtain ⟨gt, ot, rfl, r0, r4, r5, HSt, HB⟩ := w_end HE6.out HV.out
      clear HG1 HG2 HG3 HT1 HT2 HT3 HA_t HA_z HA_tz HA_zt HAL HAM hV HV h9 h8 h7 hHeld
      go_wp2_with fail
      refine HSt.out.mono ?_
      rintro e w' ⟨rfl, rfl⟩
      go_wp2
      go_ret
      exact ⟨rfl, HB.out⟩
  · go_simp
    refine hK.out _ _ (fun _ => HA_z.out) (fun _ => ?_)
    clear hK K
    try simp only [Act.put, List.setIfInBounds_toArray, List.set_cons_zero, List.set_cons_succ]
    refine AnyZ.one (i := 1) (by kernel_rfl) rfl fun K hK => ?_
    go_simp
    refine hK.out _ _ (fun _ => HA_zt.out) (fun _ => ?_)
    clear hK K
    try simp only [Act.put, List.setIfInBounds_toArray, List.set_cons_zero, List.set_cons_succ]
    refine AnyZ.one (i := 2) (by kernel_rfl) rfl fun K hK => ?_
    go_simp
    refine HT2.out.mono ?_
    rintro e w7 ⟨rfl, h7, hk7⟩
    refine hK.out _ _ (fun _ => hk7) (fun _ => ?_)
    clear hK K
    try simp only [Act.put, List.setIfInBounds_toArray, List.set_cons_zero, List.set_cons_succ]
    refine AnyZ.one (i := 3) (by kernel_rfl) rfl fun K hK => ?_
    go_simp
    refine (HG1.out _ _ h7).mono ?_
    rintro e w8 ⟨b2, rfl, h8, hk8⟩
    refine hK.out _ _ (fun _ => hk8) (fun _ => ?_)
    clear hK K
    try simp only [Act.put, List.setIfInBounds_toArray, List.set_cons_zero, List.set_cons_succ]
    refine AnyZ.one (i := 5) (by kernel_rfl) rfl fun K hK => ?_
    go_simp
    refine (HG2.out _ _ _ h8).mono ?_
    rintro e w9 ⟨ai, ci, at_, ct, rfl, h9, hk9⟩
    refine hK.out _ _ (fun _ => hk9) (fun _ => ?_)
    clear hK K
    try simp only [Act.put, List.setIfInBounds_toArray, List.set_cons_zero, List.set_cons_succ]
    have hHeld : KC2 X _ := hk9
    refine AnyZ.take (i := 6) (d := 25) (v := .tuple #[.agg #[.int .i64 0, .string ⟨#[]⟩, .int .i64 0, .slice ai 0 ci, .slice at_ 1 ct, .slice none 0 0, .slice none 0 0], .bool true]) rfl rfl (by kernel_rfl) (fun _ _ _ h => h) (Or.inl ⟨by rfl, fun w' hSw => ?_⟩) hHeld ?_
    · obtain ⟨_, _⟩ := hSw
      go_simp
    try simp only [List.setIfInBounds_toArray, List.set_cons_zero, List.set_cons_succ]
    refine AnyZ.take (i := 7) (d := 32) (v := .agg #[.int .i64 0, .string ⟨#[]⟩, .int .i64 0, .slice ai 0 ci, .slice at_ 1 ct, .slice none 0 0, .slice none 0 0]) rfl rfl (by kernel_rfl) (fun _ _ _ h => h) (Or.inl ⟨by rfl, fun w' hSw => ?_⟩) hHeld ?_
    · obtain ⟨_, _⟩ := hSw
      go_simp
    try simp only [List.setIfInBounds_toArray, List.set_cons_zero, List.set_cons_succ]
    refine AnyZ.take (i := 8) (d := 33) (v := .bool true) rfl rfl (by kernel_rfl) (fun _ _ _ h => h) (Or.inl ⟨by rfl, fun w' hSw => ?_⟩) hHeld ?_
    · obtain ⟨_, _⟩ := hSw
      go_simp
    try simp only [List.setIfInBounds_toArray, List.set_cons_zero, List.set_cons_succ]
    obtain ⟨V, hV, HV, hkV⟩ := HG3.out _ _ _ _ _ _ _ h9
    refine AnyZ.one (i := 10) (by kernel_rfl) rfl fun K hK => ?_
    refine step_store_run rfl 63 _ _ rfl _ _ rfl rfl V hV ?_
    refine hK.out _ _ (fun _ => hkV) (fun _ => ?_)
    clear hK K
    try simp only [Act.put]
    refine AnyZ.take (i := 11) (d := 7) (v := .bool true) rfl rfl (by kernel_rfl) (fun _ _ _ h => h) (Or.inl ⟨by rfl, fun w' hSw => ?_⟩) hkV ?_
    · obtain ⟨_, _⟩ := hSw
      go_simp
    try simp only [List.setIfInBounds_toArray]
    refine AnyZ.done (by kernel_rfl) ?_ _
    obtain ⟨gt, ot, rfl, r0, r4, r5, HSt, HB⟩ := w_end HE6.out HV.out
    clear HG1 HG2 HG3 HT1 HT2 HT3 HA_t HA_z HA_tz HA_zt HAL HAM hV HV h9 h8 h7 hHeld
    go_wp2_with fail
    refine HSt.out.mono ?_
    rintro e w' ⟨rfl, rfl⟩
    go_wp2
    go_ret
    exact ⟨rfl, HB.out⟩
end Go.Proofs.YtagijldedngcoaaGreatDoor

namespace Go.Proofs.YtagijldedngcoaaGreatDoor
open Go.RowKit Go.Lib Go.Maps
def moreB : ByteArray := ⟨#[109, 111, 114, 101]⟩
theorem gone10 {w : World} (a b keep : Int) (s : ByteArray) (hLw : Zq.Sh.Laid w) :
    Calls Tryz.prog 6 #[.agg #[.int .i64 a, .int .i64 b], .string s, .int .i64 keep] w fun e w' => e = .returned (.bool true) ∧ Below w.heap.size w w' := by
  obtain ⟨U, hU⟩ : ∃ U, U = w.alloc (.cells #[.int .i64 a, .int .i64 b] 22) := ⟨_, rfl⟩
  obtain ⟨X0, hX0⟩ : ∃ X0, X0 = w.heap.size := ⟨_, rfl⟩
  have hBU : Below w.heap.size w U := by rw [hU]; exact (Below.refl _ _).alloc (Nat.le_refl _) _
  have hkU : U.heap[X0]? = some (.cells #[.int .i64 a, .int .i64 b] 22 (0, 0)) := by rw [hU, hX0]; exact heap_alloc_new w _
  have y0 : U.cell? ⟨X0, 0, none⟩ = some (.int .i64 a) := by simp [World.cell?, hkU]
  have y1 : U.cell? ⟨X0, 1, none⟩ = some (.int .i64 b) := by simp [World.cell?, hkU]
  obtain ⟨K0, hK0⟩ : ∃ K0, K0 = amg a 4 := ⟨_, rfl⟩
  obtain ⟨M, hM0⟩ : ∃ M, M = amg b 5 := ⟨_, rfl⟩
  have hK4 : K0 < 4 := by rw [hK0]; exact (amg_spec a 4 (by decide)).2.1
  have hM5 : M < 5 := by rw [hM0]; exact (amg_spec b 5 (by decide)).2.1
  have HA1 : Hid (∀ W, Calls Tryz.prog 9 #[.int .i64 a, .int .i64 4] W fun e w' => e = .returned (.int .i64 (K0 : Int)) ∧ w' = W) := fun W => by rw [hK0]; exact among_any W a 4 (by decide) (by decide)
  have HA2 : Hid (∀ W, Calls Tryz.prog 9 #[.int .i64 b, .int .i64 5] W fun e w' => e = .returned (.int .i64 (M : Int)) ∧ w' = W) := fun W => by rw [hM0]; exact among_any W b 5 (by decide) (by decide)
  have HE0 : Hid (∃ q, Value.pointer (some ⟨U.heap.size, 0, none⟩) = .pointer (some ⟨q, 0, none⟩) ∧ w.heap.size ≤ q ∧ (U.alloc (.cells #[.int .i64 (IntKind.i64.wrap (1 + (K0 : Int))), .int .i64 (M : Int)] 27)).drew.heap[q]? = some (.cells #[.int .i64 ((K0 + 1 : Nat) : Int), .int .i64 (M : Int)] 27 (0, 0)) ∧ Below w.heap.size w (U.alloc (.cells #[.int .i64 (IntKind.i64.wrap (1 + (K0 : Int))), .int .i64 (M : Int)] 27)).drew) := by
    have hb : Below w.heap.size w (U.alloc (.cells #[.int .i64 (IntKind.i64.wrap (1 + (K0 : Int))), .int .i64 (M : Int)] 27)) := hBU.alloc hBU.size _
    refine ⟨_, rfl, hBU.size, ?_, ⟨hb.os, hb.tape, hb.output, hb.size, hb.block⟩⟩
    have e : ((K0 + 1 : Nat) : Int) = IntKind.i64.wrap (1 + (K0 : Int)) := by rw [IntKind.wrap_i64]; omega
    rw [e]
    exact heap_alloc_new U _
  have b4 : (K0 : Int) < 4 := by omega
  have b0 : (0 : Int) ≤ (K0 : Int) := by omega
  have HU := hide hU
  have HX := hide hX0
  have HL := hide hLw
  have hS0 : U.drew.cell? ⟨X0, 0, none⟩ = some (.int .i64 a) ∧ U.drew.cell? ⟨X0, 1, none⟩ = some (.int .i64 b) := ⟨y0, y1⟩
  clear hU hX0 hBU hkU hK0 hM0 hLw
  go_enter Tryz.func6, Tryz.ntmps6
  go_upto_region 1 with fail
  rw [← HU.out, ← HX.out]
  go_cut [7] (fun v wx => ∃ q, v = .pointer (some ⟨q, 0, none⟩) ∧ w.heap.size ≤ q ∧ wx.heap[q]? = some (.cells #[.int .i64 ((K0 + 1 : Nat) : Int), .int .i64 (M : Int)] 27 (0, 0)) ∧ Below w.heap.size w wx)
  case first =>
    go_region_held3 (fun w' => w'.cell? ⟨X0, 0, none⟩ = some (.int .i64 a) ∧ w'.cell? ⟨X0, 1, none⟩ = some (.int .i64 b)) (first | with_reducible assumption | go_keep) (first
      | (go_at_call 9; (first | with_reducible refine (HA1.out _).mono ?_ | with_reducible refine (HA2.out _).mono ?_); rintro e w5 ⟨rfl, rfl⟩))
    all_goals (go_wp2; go_meet; case rel => exact HE0.out)
  case rest =>
    obtain ⟨X, rfl, hX, hkt, hBc⟩ := hcut
    generalize wc = W1 at *
    obtain ⟨K, hKd⟩ : ∃ K, K = K0 + 1 := ⟨_, rfl⟩
    rw [← hKd] at hkt
    have hK1 : 1 ≤ K := by omega
    have hKM : K + M ≤ 9 := by omega
    obtain ⟨n, hn⟩ : ∃ n, n = K + M := ⟨_, rfl⟩
    have hn1 : 1 ≤ n := by omega
    obtain ⟨z0, z1⟩ := KK.of hkt
    have HY := hide (yard_any K M 10000 (by omega) (by decide) (by decide) W1)
    rw [← hn] at HY
    have HKT := hide (And.intro hkt (And.intro hX hBc))
    have HKM := hide (And.intro hK1 (And.intro hKM hn))
    clear hkt hX hBc hKd b4 b0 HA1 HA2 HE0 HU HX hS0 y0 y1 hK4 hM5 hK1 hKM hn
    go_wp2_with fail
    refine HY.out.mono ?_
    rintro e w1 ⟨sa, sc, bs, rfl, hYB, hbl⟩
    obtain ⟨hK1, hKM, hn⟩ := HKM.out
    have hG1 := gq_yard HKT.out.1 HKT.out.2.1 HKT.out.2.2 HL.out hYB (by rw [hbl, hn]) nmN
    obtain ⟨g0, o0, rfl⟩ : ∃ g0 o0, sa = some ⟨g0, o0, none⟩ := by
      obtain ⟨a', c', e0, h0 | ⟨g0, o0, ea, _⟩⟩ := hG1.yp.rp
      · have : bs.length = 0 := by simpa using congrArg List.length h0
        omega
      · injection e0 with e1 _ _
        exact ⟨g0, o0, by rw [e1, ea]⟩
    have k1 := sl_eq Tryz.underlying28
    have HW := hide (works10 hG1.la)
    obtain ⟨Bd, hBd⟩ : ∃ Bd, Bd = w1.heap.size := ⟨_, rfl⟩
    rw [← hBd] at hG1
    have HG1 := hide hG1
    clear hYB hbl hG1 hBd hK1 hKM hn HKT z0 z1
    go_wp2_with fail
    refine HW.out.mono ?_
    rintro e w2 ⟨rfl, hb2⟩
    have HG2 := hide (HG1.out.bel hb2)
    clear hb2 HG1 HW
    by_cases hlen : (200 : Int) < (s.size : Int)
    · have b9 : (s.size : Int) > 200 := by omega
      go_wp2
      go_ret
      exact ⟨rfl, HG2.out.be⟩
    · have b9 : ¬ (s.size : Int) > 200 := by omega
      obtain ⟨z0, z1⟩ := HG2.out.kc
      have hKp : 0 < K := HKM.out.1
      have hK9 : K < 100000 := by have := HKM.out.2.1; omega
      have HA3 := hide (among_any w2 keep K hKp hK9)
      have hal := (amg_spec keep K hKp).2.1
      generalize amg keep K = t at *
      go_wp2_with fail
      refine HA3.out.mono ?_
      rintro e w3 ⟨rfl, rfl⟩
      obtain ⟨hK1, hKM, hn⟩ := HKM.out
      have HP := hide (gn_put (s := s) HG2.out (by simp) (.inl (no_fnd hK1 (by omega))) hK1 hKM (by omega) nmN_may (by decide) (by decide) no_sm (by decide) (by decide))
      clear hK1 hKM hn hKp hK9
      go_wp2_with fail
      refine HP.out.mono ?_
      rintro e v4 ⟨b2, rfl, zz, HR⟩
      go_wp2_with fail
      refine HR.out.mono ?_
      rintro e v5 ⟨ai6, ci6, at6, ct6, rfl, H5⟩
      obtain ⟨V6, hV⟩ : ∃ V, V = v5.alloc (.cells #[.int .i64 0, .string ⟨#[]⟩, .int .i64 0, .slice ai6 0 ci6, .slice at6 0 ct6, .slice none 0 0, .slice none 0 0] 63) := ⟨_, rfl⟩
      obtain ⟨q6, hq⟩ : ∃ q, q = v5.heap.size := ⟨_, rfl⟩
      have H6 := hide (H5.out V6 hV)
      rw [← hq] at H6
      have HVq := hide (And.intro hV hq)
      clear hV hq H5 HR zz
      have HG6 := hide H6.out.1
      have r60 : V6.cell? ⟨q6, 0, none⟩ = some (.int .i64 0) := H6.out.2.r7.cell 0
      go_upto_region 9 with fail
      rw [← HVq.out.1, ← HVq.out.2]
      clear HP HVq H6 z0 z1 HG2 HA3
      go_wp2
      go_loopw [11] (fun u wr => ∃ j : Nat, t ≤ j ∧ j ≤ n ∧ u = .int .i64 (j : Int) ∧ GQ w wr X Bd K M (.slice (some ⟨g0, o0, none⟩) n sc) (sts 10000 2 nmN (gO K M s t j)) bs) (fun u _ => n - (intOf u).toNat)
      case atStart => exact ⟨t, Nat.le_refl _, by have := HKM.out; omega, rfl, by rw [gO_start]; exact HG6.out⟩
      case round =>
        obtain ⟨j, hj0, hj, rfl, hG⟩ := hrel
        have hn9 : n ≤ 9 := by have := HKM.out; omega
        by_cases hlt : j < n
        · have b1 : (j : Int) < (n : Int) := by omega
          have b0 : (0 : Int) ≤ (j : Int) := by omega
          obtain ⟨g1, o1, c1, e1, hsv, hcl, hwi⟩ := gq_wipe hG (j := j) (by rw [gO_len]; have := HKM.out; omega)
          injection hsv with q1 qn q3
          injection q1 with q1
          injection q1 with q1 q2 _
          subst q1 q2 q3
          clear qn
          rw [gO_set hj0] at hwi
          have HWI := hide hwi
          clear hwi hG
          go_wp2_with fail
          refine HWI.out.mono ?_
          rintro e w7 ⟨rfl, h7⟩
          go_wp2
          exact ⟨⟨j + 1, by omega, by omega, by go_num, h7.out⟩, by simp [intOf]; omega⟩
        · obtain rfl : j = n := by omega
          have b1 : ¬ (j : Int) < (j : Int) := by omega
          have hG7 := hG
          rw [HKM.out.2.2] at hG7
          have HG7 : Hid (GQ w wr X Bd K M (.slice (some ⟨g0, o0, none⟩) j sc) (sts 10000 2 nmN (gO K M s t (K + M))) bs) := by
            have := hG
            rw [show gO K M s t j = gO K M s t (K + M) by rw [← HKM.out.2.2]] at this
            exact this
          obtain ⟨cc, hcc⟩ : ∃ cc : Int, cc = if t = 0 then 5 else 100 := ⟨_, rfl⟩
          have hc0 : cc ≠ 0 := by rw [hcc]; split <;> decide
          have HCC := hide hcc
          clear hG hG7 hcc HG6 r60 hj0 hj hlt
          go_upto_if 72 with fail
          go_cut [12] (fun v wx => v = .int .i64 cc ∧ wx = wr)
          case first =>
            by_cases ht0 : t = 0
            · have e5 : cc = 5 := by rw [HCC.out, if_pos ht0]
              subst e5
              subst ht0
              go_wp2
              go_meet
              case rel => exact ⟨rfl, rfl⟩
            · have e5 : cc = 100 := by rw [HCC.out, if_neg ht0]
              subst e5
              have d0 : ((t : Int) == 0) = false := by simpa using ht0
              go_wp2
              go_meet
              case rel => exact ⟨rfl, rfl⟩
          case rest =>
            obtain ⟨rfl, rfl⟩ := hcut
            have HF : Hid (fnd K M ⟨#[]⟩ ((gO K M s t (K + M)).map gans) = ⟨⟨#[]⟩, [], cc⟩) := by
              have h1 := HKM.out
              rw [HCC.out]
              exact gO_gone h1.1 (by omega) (by omega) hal
            have HSM : Hid (∀ d, some d ∈ gO K M s t (K + M) → d.size ≤ 131072) := gO_sm HKM.out.1 HKM.out.2.1 (by omega)
            obtain ⟨z0, z1⟩ := HG7.out.kc
            have HGT := hide (gn_get0 HG7.out gO_len HF.out hc0 HKM.out.1 HKM.out.2.1 (by decide) HSM.out (by decide) (by decide))
            go_wp2_with fail
            refine HGT.out.mono ?_
            rintro e v4 ⟨b2, rfl, zz, HR⟩
            go_wp2_with fail
            refine HR.out.mono ?_
            rintro e v5 ⟨ai8, ci8, at8, ct8, rfl, H5⟩
            obtain ⟨V8, hV⟩ : ∃ V, V = v5.alloc (.cells #[.int .i64 cc, .string ⟨#[]⟩, .int .i64 0, .slice ai8 0 ci8, .slice at8 0 ct8, .slice none 0 0, .slice none 0 0] 63) := ⟨_, rfl⟩
            obtain ⟨q8, hq⟩ : ∃ q, q = v5.heap.size := ⟨_, rfl⟩
            have H8 := hide (H5.out V8 hV)
            rw [← hq] at H8
            have HVq := hide (And.intro hV hq)
            clear hV hq H5 HR zz HGT
            go_upto_region 19 with fail
            rw [← HVq.out.1, ← HVq.out.2]
            clear HVq
            obtain ⟨z2, z3⟩ := H8.out.1.kc
            have HGS := hide (gn_scrub H8.out.1 gO_len HF.out hc0 HKM.out.1 HKM.out.2.1 (by decide) HSM.out (by decide) (by decide))
            clear z0 z1
            go_wp2_with fail
            refine HGS.out.mono ?_
            rintro e v4 ⟨b2, rfl, zz, HR⟩
            go_wp2_with fail
            refine HR.out.mono ?_
            rintro e v5 ⟨ai10, ci10, at10, ct10, rfl, H5⟩
            obtain ⟨V10, hV⟩ : ∃ V, V = v5.alloc (.cells #[.int .i64 cc, .string ⟨#[]⟩, .int .i64 0, .slice ai10 0 ci10, .slice at10 0 ct10, .slice none 0 0, .slice none 0 0] 63) := ⟨_, rfl⟩
            obtain ⟨q10, hq⟩ : ∃ q, q = v5.heap.size := ⟨_, rfl⟩
            have H10 := hide (H5.out V10 hV)
            rw [← hq] at H10
            have HVq := hide (And.intro hV hq)
            clear hV hq H5 HR zz HGS
            go_upto_region 20 with fail
            rw [← HVq.out.1, ← HVq.out.2]
            clear HVq
            obtain ⟨z0, z1⟩ := H10.out.1.kc
            have hs2 : (s ++ moreB).size ≤ 204 := by rw [ByteArray.size_append]; show s.size + 4 ≤ 204; omega
            have HGP := hide (gn_put (s := s ++ moreB) H10.out.1 gO_len (by rw [HF.out, HCC.out]; split; exact .inl rfl; exact .inr rfl) HKM.out.1 HKM.out.2.1 hs2 nmN_may (by decide) (by decide) HSM.out (by decide) (by decide))
            clear z2 z3
            go_wp2_with fail
            refine HGP.out.mono ?_
            rintro e v4 ⟨b2, rfl, zz, HR⟩
            go_wp2_with fail
            refine HR.out.mono ?_
            rintro e v5 ⟨ai12, ci12, at12, ct12, rfl, H5⟩
            obtain ⟨V12, hV⟩ : ∃ V, V = v5.alloc (.cells #[.int .i64 0, .string ⟨#[]⟩, .int .i64 0, .slice ai12 0 ci12, .slice at12 0 ct12, .slice none 0 0, .slice none 0 0] 63) := ⟨_, rfl⟩
            obtain ⟨q12, hq⟩ : ∃ q, q = v5.heap.size := ⟨_, rfl⟩
            have H12 := hide (H5.out V12 hV)
            rw [← hq] at H12
            have HVq := hide (And.intro hV hq)
            clear hV hq H5 HR zz HGP
            go_upto_region 21 with fail
            rw [← HVq.out.1, ← HVq.out.2]
            clear HVq
            obtain ⟨z2, z3⟩ := H12.out.1.kc
            obtain ⟨hd, hf2⟩ := gO_there (K := K) (M := M) (s := s ++ moreB) (want := ⟨#[]⟩) HKM.out.1 (by have := HKM.out.2.1; omega) (by omega) (.inl rfl)
            have HGU := hide (gn_get1 H12.out.1 (by rw [List.length_map, shL_len]) hf2 HKM.out.1 HKM.out.2.1 (by decide) (sh_sm HKM.out.1 HKM.out.2.1 hs2) (by decide) (by decide))
            clear z0 z1 hf2 hs2
            go_wp2_with fail
            refine HGU.out.mono ?_
            rintro e v4 ⟨b2, rfl, zz, HR⟩
            go_wp2_with fail
            refine HR.out.mono ?_
            rintro e v5 ⟨ai14, ci14, gt, ot, ct14, rfl, H5⟩
            obtain ⟨V14, hV⟩ : ∃ V, V = v5.alloc (.cells #[.int .i64 0, .string ⟨#[]⟩, .int .i64 0, .slice ai14 0 ci14, .slice (some ⟨gt, ot, none⟩) 1 ct14, .slice none 0 0, .slice none 0 0] 63) := ⟨_, rfl⟩
            obtain ⟨q14, hq⟩ : ∃ q, q = v5.heap.size := ⟨_, rfl⟩
            have H14 := hide (H5.out V14 hV)
            rw [← hq] at H14
            have HVq := hide (And.intro hV hq)
            clear hV hq H5 HR zz HGU
            go_upto_region 22 with fail
            rw [← HVq.out.1, ← HVq.out.2]
            clear HVq
            have HEND : Hid (R7 V14 q8 cc 0 (.slice ai8 0 ci8) (.slice at8 0 ct8) ∧ R7 V14 q10 cc 0 (.slice ai10 0 ci10) (.slice at10 0 ct10) ∧ R7 V14 q12 0 0 (.slice ai12 0 ci12) (.slice at12 0 ct12) ∧ R7 V14 q14 0 0 (.slice ai14 0 ci14) (.slice (some ⟨gt, ot, none⟩) 1 ct14) ∧ V14.cell? ⟨gt, ot, none⟩ = some (.string (s ++ moreB)) ∧ Below w.heap.size w V14) := by
              have b8 : Bd ≤ q8 := Nat.le_trans HG7.out.bd H8.out.2.q0
              have b10 : Bd ≤ q10 := Nat.le_trans H8.out.1.bd H10.out.2.q0
              have b12 : Bd ≤ q12 := Nat.le_trans H10.out.1.bd H12.out.2.q0
              exact ⟨RQ9.keep (RQ9.keep (RQ9.keep H8.out.2.r7 H10.out.2 H8.out.1 b8) H12.out.2 H10.out.1 b8) H14.out.2.1 H12.out.1 b8, RQ9.keep (RQ9.keep H10.out.2.r7 H12.out.2 H10.out.1 b10) H14.out.2.1 H12.out.1 b10, RQ9.keep H12.out.2.r7 H14.out.2.1 H12.out.1 b12, H14.out.2.1.r7, H14.out.2.2, H14.out.1.be⟩
            have m0 : V14.cell? ⟨q8, 0, none⟩ = some (.int .i64 cc) := HEND.out.1.cell 0
            have m1 : V14.cell? ⟨q8, 4, none⟩ = some (.slice at8 0 ct8) := HEND.out.1.cell 4
            have m2 : V14.cell? ⟨q10, 0, none⟩ = some (.int .i64 cc) := HEND.out.2.1.cell 0
            have m3 : V14.cell? ⟨q12, 0, none⟩ = some (.int .i64 0) := HEND.out.2.2.1.cell 0
            have m4 : V14.cell? ⟨q14, 0, none⟩ = some (.int .i64 0) := HEND.out.2.2.2.1.cell 0
            have m5 : V14.cell? ⟨q14, 4, none⟩ = some (.slice (some ⟨gt, ot, none⟩) 1 ct14) := HEND.out.2.2.2.1.cell 4
            have m6 : V14.cell? ⟨gt, ot, none⟩ = some (.string (s ++ ⟨#[109, 111, 114, 101]⟩)) := HEND.out.2.2.2.2.1
            have HB := hide HEND.out.2.2.2.2.2
            clear HEND H8 H10 H12 H14 HG7 z2 z3 HF HSM
            go_wp2
            go_ret
            exact ⟨rfl, HB.out⟩
end Go.Proofs.YtagijldedngcoaaGreatDoor

namespace Go.Proofs.YtagijldedngcoaaGreatDoor.Zq.Sh
open Go.ChangeShapes Go.WideShapes Go.ChangeAt Go.RowKit Go.Lib

theorem Tryz.own : ownKnob Tryz.prog.godebug = none := by kernel_rfl
theorem Tryz.gFirst : Tryz.prog.globalNamed "garret/sha.firstWords" = some 0 := by kernel_rfl
theorem Tryz.gConst : Tryz.prog.globalNamed "garret/sha.constants" = some 1 := by kernel_rfl
theorem Tryz.tFirst : (Tryz.prog.globals[0]?).map (·.type) = some 209 := by kernel_rfl
theorem Tryz.tConst : (Tryz.prog.globals[1]?).map (·.type) = some 246 := by kernel_rfl
theorem Tryz.cells152 : Tryz.prog.cellsOf 152 = 1 := by kernel_rfl
theorem Tryz.cells246 : Tryz.prog.cellsOf 246 = 64 := by kernel_rfl
theorem Tryz.cells209 : Tryz.prog.cellsOf 209 = 8 := by kernel_rfl

abbrev laid2 : List (String × DataW Unit) := [("garret/sha.firstWords", Rows.laid_garret_sha_firstWords), ("garret/sha.constants", Rows.laid_garret_sha_constants)]

theorem door_met (os : Os) (args : Array Value) : laidMetH Tryz.prog laid2 ((World.doorLaid Tryz.prog 400 os).forCall (fun _ _ => 0) ⟨#[], args, []⟩).memory :=
  laidMetH_of_parts3 (fuel := 8) (laidMet_of_run' 8 (by kernel_rfl) (by kernel_rfl)) (by kernel_rfl) (by kernel_rfl)

theorem laid_of {W : World} (h : laidMetH Tryz.prog laid2 W) : Laid W := by
  rw [MakeChecks.laidMetH_plain _ _ _ (by kernel_rfl)] at h
  obtain ⟨ps, ⟨g0, t0, cs0, f0, p0, q0, hg0, ht0, hv0, hd0, ⟨g1, t1, cs1, f1, p1, q1, hg1, ht1, hv1, hd1, _, _⟩, _⟩, _, _⟩ := h
  obtain rfl := Option.some.inj (Tryz.gFirst.symm.trans hg0)
  obtain rfl := Option.some.inj (Tryz.gConst.symm.trans hg1)
  obtain rfl := Option.some.inj (Tryz.tFirst.symm.trans ht0)
  obtain rfl := Option.some.inj (Tryz.tConst.symm.trans ht1)
  have e0 := cells_of_tab (k := .u32) (zs := first.list) Tryz.underlying209 Tryz.underlying152 Tryz.cells152 Tryz.cells209 hd0
  have e1 := cells_of_tab (k := .u32) (zs := Ks) Tryz.underlying246 Tryz.underlying152 Tryz.cells152 Tryz.cells246 hd1
  refine ⟨?_, ?_⟩
  · simp only [World.var?, Tryz.gConst, Option.bind_some] at hv1
    split at hv1
    · rename_i cs t fr hq
      have hcs := Option.some.inj hv1
      refine ⟨t, fr, ?_⟩
      rw [hq, hcs]
      congr 2
      apply Array.ext'
      rw [e1]
      simp [word]
    · cases hv1
  · simp only [World.var?, Tryz.gFirst, Option.bind_some] at hv0
    split at hv0
    · rename_i cs t fr hq
      have hcs := Option.some.inj hv0
      refine ⟨t, fr, ?_⟩
      rw [hq, hcs]
      congr 2
      apply Array.ext'
      rw [e0]
      simp [word]
    · cases hv0

end Go.Proofs.YtagijldedngcoaaGreatDoor.Zq.Sh


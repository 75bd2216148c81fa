/-
  StorePlays: the walk.
-/
import Derived.Test.YtillnffhhmkgdaaStStep
import Derived.Test.YtillnffhhmkgdaaLsKit
namespace Go.Proofs.Ytillnffhhmkgdaa
open Go.RowKit Go.Lib Go.Maps

/-- An act. -/
structure AA where
  k : Int
  N : Int
  st : Int
  rk : Int
  n : ByteArray
  d : ByteArray
/-- A list of acts lies in memory. -/
def LA (w : World) (v : Value) (l : List AA) : Prop :=
  ∃ a c, v = .slice a l.length c ∧ (l = [] ∨ ∃ g o, a = some ⟨g, o, none⟩ ∧ g < w.heap.size ∧ ∀ i x, l[i]? = some x → w.cell? ⟨g, o + i * 6, none⟩ = some (.int .i64 x.k) ∧ w.cell? ⟨g, o + i * 6 + 1, none⟩ = some (.int .i64 x.N) ∧ w.cell? ⟨g, o + i * 6 + 2, none⟩ = some (.int .i64 x.st) ∧ w.cell? ⟨g, o + i * 6 + 3, none⟩ = some (.int .i64 x.rk) ∧ w.cell? ⟨g, o + i * 6 + 4, none⟩ = some (.string x.n) ∧ w.cell? ⟨g, o + i * 6 + 5, none⟩ = some (.string x.d))
/-- What holds along the acts. -/
structure PI (W wr : World) (b mb rb j : Nat) (s : SS) : Prop where
  sp : SP W wr b mb rb s
  len : s.L.length ≤ j
  m0 : 0 ≤ s.m
  mj : s.m ≤ j
  f : s.f ≤ 1048576
theorem doS_ok (s : SS) (k : Int) (n d : ByteArray) : (doS s k n d).L.length ≤ s.L.length + 1 ∧ s.m ≤ (doS s k n d).m ∧ (doS s k n d).m ≤ s.m + 1 ∧ (doS s k n d).f ≤ s.f := by
  rw [doS]
  have h1 := len_lay s.L n d
  have h2 := len_del s.L n
  split
  · exact ⟨by show s.L.length ≤ _; omega, by show s.m ≤ s.m + 1; omega, by show s.m + 1 ≤ s.m + 1; omega, Int.le_refl _⟩
  · split
    · exact ⟨by show s.L.length ≤ _; omega, by show s.m ≤ s.m + 1; omega, by show s.m + 1 ≤ s.m + 1; omega, by show s.f - 1 ≤ s.f; omega⟩
    · refine ⟨?_, by show s.m ≤ s.m + 1; omega, by show s.m + 1 ≤ s.m + 1; omega, Int.le_refl _⟩
      dsimp only
      rw [putL]
      (repeat' split) <;> omega
theorem stp_ok (s : SS) (kd : Nat) (N k : Int) (n d : ByteArray) : (stp s kd N k n d).L.length ≤ s.L.length + 1 ∧ s.m ≤ (stp s kd N k n d).m ∧ (stp s kd N k n d).m ≤ s.m + 1 ∧ (s.f ≤ 1048576 → (stp s kd N k n d).f ≤ 1048576) := by
  match kd with
  | 0 =>
    obtain ⟨h1, h2, h3, h4⟩ := doS_ok s k n d
    exact ⟨h1, h2, h3, fun h => Int.le_trans h4 h⟩
  | 1 =>
    refine ⟨by show s.L.length ≤ _; omega, by show s.m ≤ s.m; omega, by show s.m ≤ s.m + 1; omega, fun h => ?_⟩
    show (if 0 ≤ N ∧ N ≤ 1048576 then N else s.f) ≤ 1048576
    split <;> omega
  | 2 => exact ⟨by show s.L.length ≤ _; omega, by show s.m ≤ s.m; omega, by show s.m ≤ s.m + 1; omega, id⟩
  | 3 => exact ⟨by show 0 ≤ _; omega, by show s.m ≤ s.m; omega, by show s.m ≤ s.m + 1; omega, id⟩
  | 4 =>
    refine ⟨?_, by show s.m ≤ s.m; omega, by show s.m ≤ s.m + 1; omega, id⟩
    show (setL n d s.L).length ≤ _
    have := len_lay s.L n d
    rw [setL]; split <;> omega
  | 5 =>
    refine ⟨?_, by show s.m ≤ s.m; omega, by show s.m ≤ s.m + 1; omega, id⟩
    show (tornL k n d N s.L).length ≤ _
    have := len_lay s.L n (d.extract 0 (min N d.size).toNat)
    rw [tornL]; split <;> omega
  | _ + 6 => exact ⟨by show s.L.length ≤ _; omega, by show s.m ≤ s.m; omega, by show s.m ≤ s.m + 1; omega, id⟩
section
variable {W wr w' : World} {b mb rb j : Nat} {s : SS}
theorem PI.bel (h : PI W wr b mb rb j s) (k : Below wr.heap.size wr w') : PI W w' b mb rb j s := ⟨h.sp.bel k, h.len, h.m0, h.mj, h.f⟩
theorem PI.next (h : PI W wr b mb rb j s) : PI W wr b mb rb (j + 1) s := ⟨h.sp, by have := h.len; omega, h.m0, by have := h.mj; omega, h.f⟩
theorem PI.step (h : PI W wr b mb rb j s) {kd : Nat} {N k : Int} {n d : ByteArray} (hs : SP W w' b mb rb (stp s kd N k n d)) : PI W w' b mb rb (j + 1) (stp s kd N k n d) := by
  obtain ⟨h1, h2, h3, h4⟩ := stp_ok s kd N k n d
  have := h.len; have := h.m0; have := h.mj
  exact ⟨hs, by omega, by omega, by omega, h4 h.f⟩
theorem PI.c2 (h : PI W wr b mb rb j s) : wr.cell? ⟨rb, 2, none⟩ = some (.int .i64 s.m) := by
  obtain ⟨v, h, _⟩ := h.sp.rd
  exact h.c2
theorem PI.drew (h : PI W wr b mb rb j s) : PI W wr.drew b mb rb j s := h.bel ((Below.refl _ _).drew)
end

set_option maxRecDepth 100000 in
set_option maxHeartbeats 6400000 in
theorem plays_walk {w : World} {v : Value} {l : List AA} (qq : Int) (hT : LA w v l) (hls : ∀ x ∈ l, x.n.size ≤ 9223372036854775807 ∧ x.d.size ≤ 9223372036854775807) (hl : l.length ≤ 9223372036854775807) :
    Calls Try.prog 3 #[.int .i64 qq, v] w fun e w' => e = .returned (.bool true) ∧ Below w.heap.size w w' := by
  obtain ⟨va, vc, rfl, hT⟩ := hT
  obtain ⟨N, hN⟩ : ∃ N, N = l.length := ⟨_, rfl⟩
  rw [← hN]
  have HN := hide hN
  have HT := hide hT
  have HLS := hide hls
  have hNl : N ≤ 9223372036854775807 := by omega
  clear hT hN hls hl
  by_cases hq : 0 ≤ qq ∧ qq ≤ 1073741824
  · obtain ⟨hq0, hq1⟩ := hq
    have HN0 : Hid _ := hide (new_ok qq w hq0 hq1)
    go_enter Try.func3, Try.ntmps3
    go_wp2_with fail
    refine HN0.out.mono ?_
    rintro e w1 ⟨rfl, hP1, hb1⟩
    have HP1 := hide hP1
    have HB1 := hide hb1
    clear hP1 hb1 HN0
    have HR0 : Hid _ := hide (rnew_ok qq w1 hq0 hq1)
    go_wp2_with fail
    refine HR0.out.mono ?_
    rintro e w2 ⟨rfl, hR2, hb2⟩
    have HS2 : Hid (SP w w2 (w.heap.size + 1) w.heap.size w1.heap.size ⟨qq, 0, 0, false, []⟩) := ⟨PX.bel (s := ⟨qq, 0, 0, false, []⟩) HP1.out hb2, ⟨_, hR2, OS.nil 0 w2⟩, HB1.out.trans (hb2.mono HB1.out.size), by omega, by omega, HB1.out.size⟩
    clear hR2 hb2 HR0 HP1 HB1
    obtain ⟨rb, hrb⟩ : ∃ rb, rb = w1.heap.size := ⟨_, rfl⟩
    rw [← hrb] at HS2 ⊢
    clear hrb
    have HW : Hid _ := hide (works_any w2)
    go_wp2_with fail
    refine HW.out.mono ?_
    rintro e w3 ⟨rfl, hb3⟩
    have HS3 : Hid (PI w w3 (w.heap.size + 1) w.heap.size rb 0 ⟨qq, 0, 0, false, []⟩) := ⟨HS2.out.bel hb3, by simp, by show (0 : Int) ≤ 0; decide, by show (0 : Int) ≤ 0; decide, by show (0 : Int) ≤ 1048576; decide⟩
    clear hb3 HS2 HW
    go_upto_block 0 with fail
    go_cut [10] (fun _ wx => Below w.heap.size w wx)
    case first =>
      go_wp2
      go_loopw [10] (fun i wr => ∃ (j : Nat) (s : SS), j ≤ N ∧ j ≤ 80 ∧ i = .int .i64 j ∧ PI w wr (w.heap.size + 1) w.heap.size rb j s) (fun i _ => 81 - (intOf i).toNat)
      case atStart => exact ⟨0, _, Nat.zero_le _, by omega, rfl, HS3.out⟩
      case round =>
        obtain ⟨j, s, hj, hj8, rfl, hI⟩ := hrel
        have HI := hide hI
        clear hI HS3
        by_cases hlt : j < N ∧ j < 80
        · obtain ⟨hlt, hlt8⟩ := hlt
          have b1 : (j : Int) < (N : Int) := by omega
          have b0 : (0 : Int) ≤ (j : Int) := by omega
          have b2 : (j : Int) < 80 := by omega
          have hjl : j < l.length := by rw [← HN.out]; omega
          obtain ⟨x, hx⟩ : ∃ x, l[j]? = some x := ⟨_, List.getElem?_eq_getElem hjl⟩
          obtain ⟨hxn, hxd⟩ := HLS.out x (List.mem_of_getElem? hx)
          obtain ⟨g, o, rfl, hg, hC⟩ := HT.out.resolve_left (by intro e; rw [e] at hx; simp at hx)
          obtain ⟨c0, c1, c2, c3, c4, c5⟩ := hC j x hx
          obtain ⟨xk, xN, xst, xrk, xn, xd⟩ := x
          dsimp only at hxn hxd c0 c1 c2 c3 c4 c5
          have HC4 : Hid (∀ w', Below w.heap.size w w' → w'.cell? ⟨g, o + j * 6 + 4, none⟩ = some (.string xn)) := fun w' h => (h.cell (p := ⟨g, o + j * 6 + 4, none⟩) hg).trans c4
          have hbe := HI.out.sp.be
          have y0 := (hbe.cell (p := ⟨g, o + j * 6, none⟩) hg).trans c0
          have y1 := (hbe.cell (p := ⟨g, o + j * 6 + 1, none⟩) hg).trans c1
          have y2 := (hbe.cell (p := ⟨g, o + j * 6 + 2, none⟩) hg).trans c2
          have y3 := (hbe.cell (p := ⟨g, o + j * 6 + 3, none⟩) hg).trans c3
          have y4 := (hbe.cell (p := ⟨g, o + j * 6 + 4, none⟩) hg).trans c4
          have y5 := (hbe.cell (p := ⟨g, o + j * 6 + 5, none⟩) hg).trans c5
          clear c0 c1 c2 c3 c4 c5 hC hx hbe hjl
          by_cases hbig : (1000 : Int) < (xd.size : Int) ∧ (xd.size : Int) ≤ 131072
          · obtain ⟨hb1, hb2⟩ := hbig
            have HF := hide HI.out.next
            go_wp2
            exact ⟨⟨j + 1, s, by omega, by omega, by go_num, HF.out⟩, by simp [intOf]; omega⟩
          · have HST : Hid _ := hide (step_any HI.out.sp xk xN xst xrk xn xd hxn hxd (by have := HI.out.len; omega) HI.out.m0 (by have := HI.out.mj; omega) HI.out.f)
            have hsm : ¬ (1000 : Int) < (xd.size : Int) ∨ ((1000 : Int) < (xd.size : Int) ∧ ¬ (xd.size : Int) ≤ 131072) := by omega
            rcases hsm with hsm | ⟨hsm, hsm2⟩ <;> (
              go_wp2_with fail
              refine HST.out.mono ?_
              rintro e w4 ⟨rfl, hS4⟩
              have hI4 := HI.out.step hS4
              generalize stp s (amg xk 7) xN xrk xn xd = s4 at hS4 hI4 ⊢
              have HI4 := hide hI4
              have z4 := HC4.out w4 hS4.be
              have HG : Hid _ := hide (pget_any hS4.px xn hxn)
              clear hS4 hI4 HST y0 y1 y2 y3 y4 y5 HI
              go_wp2_with fail
              refine HG.out.mono ?_
              rintro e w5 ⟨rfl, hb5⟩
              have HI5 := hide (HI4.out.bel hb5)
              have z5 := HC4.out w5 HI5.out.sp.be
              clear hb5 HG HI4 z4
              obtain ⟨v, hR, hO⟩ := HI5.out.sp.rd
              have hln := HI5.out.len
              have HG2 : Hid _ := hide (rget_any xn hR hO.ol (by omega) (PS.ris HI5.out.sp.px))
              clear hR hO
              go_wp2_with fail
              refine HG2.out.mono ?_
              rintro e w6 ⟨rfl, hb6⟩
              have HI6 := hide (HI5.out.bel hb6)
              clear hb6 HG2 HI5 z5
              generalize (thr s4.L xn).getD ⟨#[]⟩ = dd at *
              generalize (thr s4.L xn).isSome = tt at *
              obtain ⟨u, hu⟩ : ∃ u, u = usedL s4.L := ⟨_, rfl⟩
              obtain ⟨m, hm⟩ : ∃ m, m = s4.m := ⟨_, rfl⟩
              obtain ⟨nl, hnl⟩ : ∃ nl, nl = namesL s4.L ⟨#[]⟩ := ⟨_, rfl⟩
              have hnll : nl.length ≤ 1000000000 := by rw [hnl]; have := names_len s4.L ⟨#[]⟩; omega
              have hub : usedL s4.L ≤ 1000000000000 := by
                have := used_bound (PS.small HI6.out.sp.px)
                have h2 : s4.L.length * 131168 ≤ 81 * 131168 := Nat.mul_le_mul_right _ (by omega)
                omega
              have KU : Hid (∀ w1, Hid (PI w w1 (w.heap.size + 1) w.heap.size rb (j + 1) s4) → Calls Try.prog 11 #[.pointer (some ⟨w.heap.size + 1, 0, none⟩)] w1 fun e w' => e = .returned (.int .i64 (u : Int)) ∧ Hid (PI w w' (w.heap.size + 1) w.heap.size rb (j + 1) s4) ∧ w'.cell? ⟨rb, 2, none⟩ = some (.int .i64 m)) := fun w1 h => by
                rw [hu, hm]
                refine (used_any h.out.sp.px).mono ?_
                rintro e w' ⟨rfl, rfl⟩
                exact ⟨rfl, h, h.out.c2⟩
              have KV : Hid (∀ w1, Hid (PI w w1 (w.heap.size + 1) w.heap.size rb (j + 1) s4) → Calls Try.prog 12 #[.pointer (some ⟨rb, 0, none⟩)] w1 fun e w' => e = .returned (.int .i64 (u : Int)) ∧ Hid (PI w w' (w.heap.size + 1) w.heap.size rb (j + 1) s4) ∧ w'.cell? ⟨rb, 2, none⟩ = some (.int .i64 m)) := fun w1 h => by
                rw [hu, hm]
                obtain ⟨v, hR, hO⟩ := h.out.sp.rd
                refine (rused_any hR hO.ol (by omega) hub).mono ?_
                rintro e w' ⟨rfl, hb⟩
                exact ⟨rfl, h.out.bel hb, (h.out.bel hb).c2⟩
              have KC : Hid (∀ w1, Hid (PI w w1 (w.heap.size + 1) w.heap.size rb (j + 1) s4) → Calls Try.prog 13 #[.pointer (some ⟨w.heap.size + 1, 0, none⟩)] w1 fun e w' => e = .returned (.int .i64 m) ∧ Hid (PI w w' (w.heap.size + 1) w.heap.size rb (j + 1) s4) ∧ w'.cell? ⟨rb, 2, none⟩ = some (.int .i64 m)) := fun w1 h => by
                rw [hm]
                refine (calls_any h.out.sp.px).mono ?_
                rintro e w' ⟨rfl, rfl⟩
                exact ⟨rfl, h, h.out.c2⟩
              have KN : Hid (∀ w1, Hid (PI w w1 (w.heap.size + 1) w.heap.size rb (j + 1) s4) → Calls Try.prog 15 #[.pointer (some ⟨w.heap.size + 1, 0, none⟩)] w1 fun e w' => ∃ v, e = .returned v ∧ Hid (TR w' v nl) ∧ Hid (PI w w' (w.heap.size + 1) w.heap.size rb (j + 1) s4) ∧ w'.cell? ⟨rb, 2, none⟩ = some (.int .i64 m)) := fun w1 h => by
                rw [hnl, hm]
                refine (names_any h.out.sp.px (by omega)).mono ?_
                rintro e w' ⟨v, rfl, hT, hb⟩
                exact ⟨v, rfl, hT.tr, h.out.bel hb, (h.out.bel hb).c2⟩
              have KR : Hid (∀ w1 v, Hid (TR w1 v nl) → Hid (PI w w1 (w.heap.size + 1) w.heap.size rb (j + 1) s4) → Calls Try.prog 16 #[.pointer (some ⟨rb, 0, none⟩), .string ⟨#[]⟩] w1 fun e w' => ∃ v', e = .returned v' ∧ Hid (TR w' v' nl) ∧ Hid (TR w' v nl) ∧ Hid (PI w w' (w.heap.size + 1) w.heap.size rb (j + 1) s4) ∧ w'.cell? ⟨rb, 2, none⟩ = some (.int .i64 m)) := fun w1 v hv h => by
                rw [hnl] at hv
                rw [hnl, hm]
                obtain ⟨v', hR, hO⟩ := h.out.sp.rd
                refine (rnames_any ⟨#[]⟩ hR hO.ol (by omega)).mono ?_
                rintro e w' ⟨v, rfl, hT, hb⟩
                exact ⟨v, rfl, hT.tr, hv.out.bel hb, h.out.bel hb, (h.out.bel hb).c2⟩
              have KS : Hid (∀ w1 v u, Hid (TR w1 v nl) → Hid (TR w1 u nl) → Hid (PI w w1 (w.heap.size + 1) w.heap.size rb (j + 1) s4) → Calls Try.prog 14 #[v, u] w1 fun e w' => e = .returned (.bool true) ∧ Hid (PI w w' (w.heap.size + 1) w.heap.size rb (j + 1) s4) ∧ w'.cell? ⟨rb, 2, none⟩ = some (.int .i64 m)) := fun w1 v u hv hu h => by
                rw [hm]
                refine (sameTexts_eq hv.out hu.out hnll).mono ?_
                rintro e w' ⟨rfl, hb⟩
                exact ⟨rfl, h.out.bel hb, (h.out.bel hb).c2⟩
              have K1 : Hid (PI w w6.drew (w.heap.size + 1) w.heap.size rb (j + 1) s4) := HI6.out.drew
              have q1 : w6.drew.cell? ⟨rb, 2, none⟩ = some (.int .i64 m) := by rw [hm]; exact K1.out.c2
              clear hu hm hnl hnll hub hln HI6
              go_upto_region 14 with fail
              go_region_held3 (fun w' => Hid (PI w w' (w.heap.size + 1) w.heap.size rb (j + 1) s4) ∧ w'.cell? ⟨rb, 2, none⟩ = some (.int .i64 m)) (first | assumption | exact ⟨by assumption, by assumption⟩ | exact ⟨K1, q1⟩)
                (first
                  | (go_at_call 11; refine (KU.out _ (by first | assumption | exact K1)).mono ?_; rintro e wa ⟨rfl, ha1, ha2⟩)
                  | (go_at_call 12; refine (KV.out _ (by first | assumption | exact K1)).mono ?_; rintro e wb ⟨rfl, hb1, hb2⟩)
                  | (go_at_call 13; refine (KC.out _ (by first | assumption | exact K1)).mono ?_; rintro e wc ⟨rfl, hc1, hc2⟩)
                  | (go_at_call 15; refine (KN.out _ (by first | assumption | exact K1)).mono ?_; rintro e wd ⟨vd, rfl, hd1, hd2, hd3⟩)
                  | (go_at_call 16; refine (KR.out _ _ (by assumption) (by first | assumption | exact K1)).mono ?_; rintro e we ⟨ve, rfl, he1, he2, he3, he4⟩)
                  | (go_at_call 14; refine (KS.out _ _ _ (by assumption) (by assumption) (by assumption)).mono ?_; rintro e wf ⟨rfl, hf1, hf2⟩))
              have HF := hide hf1
              clear ha1 ha2 hb1 hb2 hc1 hc2 hd1 hd2 hd3 he1 he2 he3 he4 hf1 hf2 K1 q1 KU KV KC KN KR KS
              go_wp2
              exact ⟨⟨j + 1, s4, by omega, by omega, by go_num, HF.out.out⟩, by simp [intOf]; omega⟩)
        · have HB := hide HI.out.sp.be
          by_cases hlt2 : j < N
          · obtain rfl : j = 80 := by omega
            have b1 : ((80 : Nat) : Int) < (N : Int) := by omega
            go_wp2
            go_meet
            case rel => exact HB.out
          · have b1 : ¬ (j : Int) < (N : Int) := by omega
            go_wp2
            go_meet
            case rel => exact HB.out
    case rest =>
      have HB := hide hcut
      clear hcut
      go_wp2
      go_ret
      exact ⟨rfl, HB.out⟩
  · have HN0 : Hid _ := hide (new_bad qq w (by omega))
    have HR0 : Hid _ := hide (rnew_bad qq w (by omega))
    have HW : Hid _ := hide (works_any w)
    go_enter Try.func3, Try.ntmps3
    go_wp2_with fail
    refine HN0.out.mono ?_
    rintro e w1 ⟨rfl, rfl⟩
    go_wp2_with fail
    refine HR0.out.mono ?_
    rintro e w2 ⟨rfl, rfl⟩
    go_wp2_with fail
    refine HW.out.mono ?_
    rintro e w3 ⟨rfl, hb3⟩
    have HB3 := hide hb3
    clear hb3
    go_wp2
    go_loopw [10] (fun i wr => i = .int .i64 0 ∧ Below w2.heap.size w2 wr) (fun _ _ => 0)
    case atStart => exact ⟨rfl, HB3.out⟩
    case round =>
      obtain ⟨rfl, hB⟩ := hrel
      have HB := hide hB
      clear hB HB3
      go_wp2
      go_ret
      exact ⟨rfl, HB.out⟩
end Go.Proofs.Ytillnffhhmkgdaa

/-
  Lookup: items are added.
-/
import Derived.Test.YtkcefdiiibbflaaLuStep
import Derived.Test.YtkcefdiiibbflaaLuRound
namespace Go.Proofs.Ytkcefdiiibbflaa
open Go.RowKit Go.Lib
/-- What adding leaves. -/
def AX (R : Nat → Prop) (w : World) (tb : Nat) (L X : List IT) (w' : World) : Prop :=
  ∃ R' L', TB R' w' tb L' ∧ (∀ x, x ∈ L' ↔ x ∈ L ∨ x ∈ X) ∧ Gs R w w' ∧ (∀ i, R' i → R i ∨ w.heap.size ≤ i) ∧ L'.length ≤ L.length + X.length
def slN : Value → Nat
  | .slice _ n _ => n
  | _ => 0
theorem TB.tv {R : Nat → Prop} {w : World} {tb : Nat} {L : List IT} (h : TB R w tb L) : ∃ vs, TV R w tb vs L := h.ex
section
variable {R r : Nat → Prop} {w : World} {tb : Nat} {L X : List IT} {v : Value}
set_option maxRecDepth 100000 in
set_option maxHeartbeats 3200000 in
theorem add_any (h : TB R w tb L) (hI : LS it6 6 r w v X) (hok : ∀ x ∈ X, okI x) (hn : L.length ≤ 50000) (hl : X.length ≤ 1000) :
    Calls Try.prog 15 #[.pointer (some ⟨tb, 0, none⟩), v] w fun e w' => e = .returned (.int .i64 0) ∧ AX R w tb L X w' := by
  obtain ⟨va, vc, hv⟩ := hI.shp
  have HCK : Hid (∀ x ∈ X, ∀ W, Calls Try.prog 5 #[.agg #[.string x.id, .string x.pk, .int .i64 x.kind, .int .i64 x.off, .int .i64 x.long, .int .i64 x.size]] W fun e w' => e = .returned (.int .i64 0) ∧ Below W.heap.size W w') := hide fun x hx W => by
    have := check_any x W
    rw [ckI, if_pos (hok x hx)] at this
    exact this
  have HI0 := hide hI
  have HH := hide (And.intro h (And.intro hok (And.intro hn hl)))
  subst hv
  obtain ⟨n, hnn⟩ : ∃ n, n = X.length := ⟨_, rfl⟩
  have HN := hide hnn
  have hl2 : n ≤ 1000 := by omega
  have HI : Hid (LS it6 6 r w (.slice va n vc) X) := by rw [hnn]; exact HI0
  have HX : Hid (∀ (j : Nat) (x : IT) (wr : World), X[j]? = some x → Below w.heap.size w wr → ∃ g o, va = some ⟨g, o, none⟩ ∧ wr.rangeAt g (o + j * 6) (it6 x)) := hide fun j x wr hx hb => by
    obtain ⟨a', c', e, _, h2 | ⟨g, o, ea, _, hg, hG⟩⟩ := hI
    · rw [h2] at hx; simp at hx
    · injection e with e1 _ _
      subst e1
      exact ⟨g, o, ea, fun t u hu => (hb.cell (p := ⟨g, o + j * 6 + t, none⟩) hg).trans (hG j x hx t u hu)⟩
  rw [← hnn]
  clear h hI hok hn hl hnn HI0
  go_enter Try.func15, Try.ntmps15
  go_wp2
  go_loopw [13] (fun a wr => ∃ (j : Nat), j ≤ n ∧ a = .int .i64 (j : Int) ∧ Below w.heap.size w wr) (fun a _ => n - (RowKit.intOf a).toNat)
  case atStart => exact ⟨0, Nat.zero_le _, rfl, Below.refl _ _⟩
  case round =>
    obtain ⟨j, hj, rfl, hB⟩ := hrel
    by_cases hlt : j < n
    · have b1 : (j : Int) < (n : Int) := by omega
      have b0 : (0 : Int) ≤ (j : Int) := by omega
      obtain ⟨x, hx⟩ : ∃ x, X[j]? = some x := ⟨_, List.getElem?_eq_getElem (by have := HN.out; omega)⟩
      obtain ⟨g', o, rfl, hr⟩ := HX.out j x wr hx hB
      obtain ⟨xb, hxb⟩ : ∃ xb, xb = wr.heap.size := ⟨_, rfl⟩
      obtain ⟨V, hV⟩ : ∃ V, V = wr.alloc (.cells (it6 x).toArray 25) := ⟨_, rfl⟩
      have k0 : SBI V xb x := by rw [hV, hxb]; exact heap_alloc_new wr _
      obtain ⟨x0, x1, x2, x3, x4, x5⟩ := c6_of k0
      have HBV : Hid (Below w.heap.size w V) := by rw [hV]; exact hide (hB.alloc hB.size _)
      have HC := hide (HCK.out x (List.mem_of_getElem? hx) V)
      have hc : ∀ (t : Nat) (v : Value), (it6 x)[t]? = some v → wr.cell? ⟨g', o + j * 6 + t, none⟩ = some v := fun t v hv => hr t v hv
      have u0 := hc 0 _ rfl
      have u1 := hc 1 _ rfl
      have u2 := hc 2 _ rfl
      have u3 := hc 3 _ rfl
      have u4 := hc 4 _ rfl
      have u5 := hc 5 _ rfl
      simp only [Nat.add_zero] at u0
      simp only [it6] at hV
      have HV := hide hV
      have HXB := hide hxb
      clear hc hr hV hxb k0 hB hx
      go_upto_region 4 with fail
      rw [← HV.out, ← HXB.out]
      go_wp2_with fail
      refine HC.out.mono ?_
      rintro e w1 ⟨rfl, hB1⟩
      have HB1 := hide (below_step HBV.out hB1)
      clear hB1
      go_wp2
      exact ⟨⟨j + 1, by omega, by go_num, HB1.out⟩, by simp [RowKit.intOf]; omega⟩
    · obtain rfl : j = n := by omega
      have HS := hide (sorted_any (HI.out.bel hB) (by have := HN.out; omega))
      have HBw := hide hB
      clear hB
      go_wp2_with fail
      refine HS.out.mono ?_
      rintro e w2 ⟨u, rfl, M, hSS, hmem, hMl, hB2, hcase⟩
      have hBw : Below w.heap.size w w2 := below_step HBw.out hB2
      rcases hcase with ⟨hM0, a, c, rfl⟩ | ⟨g, N, c, rfl, hg, hSG, hMc, hcc⟩
      · have HE : Hid (AX R w tb L X w2) := hide ⟨R, L, HH.out.1.bel hBw, fun x => by rw [← hmem, hM0]; simp, Gs.of_below R hBw, fun i hi => .inl hi, Nat.le_add_right _ _⟩
        clear hSS hmem hMl hB2 hBw hM0
        go_wp2
        go_loopw [8] (fun s wr => s = .slice a 0 c ∧ wr = w2) (fun _ _ => 0)
        case atStart => exact ⟨rfl, rfl⟩
        case round =>
          obtain ⟨rfl, hw⟩ := hrel
          subst hw
          go_wp2
          go_ret
          exact ⟨rfl, HE.out⟩
      · obtain ⟨hTB, hok, hLn, hXn⟩ := HH.out
        have hgw : w.heap.size ≤ g := Nat.le_trans HBw.out.size hg
        obtain ⟨k, hk⟩ : ∃ k, k = M.length := ⟨_, rfl⟩
        rw [← hk]
        have hkX : k ≤ X.length := by omega
        have HM : Hid (SS M ∧ (∀ x, x ∈ M ↔ x ∈ X) ∧ k = M.length ∧ k ≤ X.length ∧ ∀ x ∈ M, x.id.size = 32) := hide ⟨hSS, hmem, hk, hkX, fun x hx => (hok x ((hmem x).1 hx)).1⟩
        have HA : Hid (Gs R w w2 ∧ TB R w2 tb L ∧ ¬ R g ∧ w.heap.size ≤ g ∧ SG w2 g 0 N M ∧ k ≤ c ∧ c ≤ 9223372036854775807) := hide ⟨Gs.of_below R hBw, hTB.bel hBw, fun h => by have := hTB.lt g h; omega, hgw, hSG, by omega, hcc⟩
        have hk1 : k ≤ 1000 := by omega
        clear hSS hmem hMl hB2 hBw hTB hok hLn hXn hgw hkX hg hSG hMc hcc hk
        go_wp2
        go_loopw [8] (fun s wr => ∃ (q y c' : Nat) (R1 : Nat → Prop) (L1 : List IT), s = .slice (some ⟨g, y, none⟩) (k - q) c' ∧ q ≤ k ∧ (q < k → y = q * 6) ∧ k - q ≤ c' ∧ c' ≤ 9223372036854775807 ∧ TB R1 wr tb L1 ∧ (∀ x, x ∈ L1 ↔ x ∈ L ∨ x ∈ M.take q) ∧ L1.length ≤ L.length + q ∧ SG wr g (q * 6) N (M.drop q) ∧ Gs R w wr ∧ (∀ i, R1 i → R i ∨ w.heap.size ≤ i) ∧ ¬ R1 g) (fun s _ => slN s)
        case atStart =>
          obtain ⟨a1, a2, a3, a4, a5, a6, a7⟩ := HA.out
          exact ⟨0, 0, c, R, L, rfl, Nat.zero_le _, fun _ => rfl, a6, a7, a2, fun x => by simp, Nat.le_refl _, a5, a1, fun i hi => .inl hi, a3⟩
        case round =>
          obtain ⟨q, y, c', R1, L1, rfl, hq, hy, hqc, hcc, hT1, hmm, hL1, hS1, hG1, hR1, hg1⟩ := hrel
          by_cases hlt2 : q < k
          · obtain ⟨hSS, hmem, hkM, hkX, hid⟩ := HM.out
            obtain rfl := hy hlt2
            have hDl : (M.drop q).length = k - q := by rw [List.length_drop, ← hkM]
            obtain ⟨x0, hx0⟩ : ∃ x0, (M.drop q)[0]? = some x0 := ⟨_, List.getElem?_eq_getElem (by omega)⟩
            have hDM : ∀ x ∈ M.drop q, x.id.size = 32 := fun x hx => hid x (List.mem_of_mem_drop hx)
            have hD0 : ∀ x ∈ M.drop q, 0 < x.id.size := fun x hx => by rw [hDM x hx]; decide
            have hDS : SS (M.drop q) := List.Pairwise.sublist (List.drop_sublist _ _) hSS
            have hx0D : x0 ∈ M.drop q := List.mem_of_getElem? hx0
            obtain ⟨i0, hi0⟩ : ∃ i0, i0 = fb x0 := ⟨_, rfl⟩
            have hix : ∀ w, (Instr.index 9 (.string x0.id) (.int .i64 0)).run Try.prog w = .ok (.int .u8 (i0 : Int)) w := fun w => by rw [hi0]; exact qb_run (hD0 x0 hx0D) w
            have hi256 : i0 < 256 := by rw [hi0]; exact fb_lt x0
            have u0 : wr.cell? ⟨g, q * 6, none⟩ = some (.string x0.id) := by have := hS1.at hx0 0 _ rfl; simpa using this
            obtain ⟨bf, hbf⟩ : ∃ bf, bf = wr.heap.size := ⟨_, rfl⟩
            obtain ⟨W1, hW1⟩ : ∃ W1, W1 = wr.alloc (.cells #[.int .u8 (i0 : Int)] 5) := ⟨_, rfl⟩
            have hB1 : Below wr.heap.size wr W1 := by rw [hW1]; exact (Below.refl _ _).alloc (Nat.le_refl _) _
            have kbf : SBB W1 bf i0 := by rw [hW1, hbf]; exact heap_alloc_new wr _
            have hmono : (M.drop q).Pairwise fun x y => decide (i0 < fb x) = true → decide (i0 < fb y) = true := List.Pairwise.imp_of_mem (fun {x y} hx hy hxy h => by
              have := fb_le hxy (hD0 x hx) (hD0 y hy)
              simp only [decide_eq_true_eq] at h ⊢
              omega) hDS
            have hls := (hS1.bel hB1).ls (c := c')
            have HF := hide (from_in (add1_pi (b := bf) (n := i0) hD0) hls (by omega) hmono kbf)
            rw [hDl] at HF
            have hlo := lo_at _ hmono
            have hlol := lo_le (fun x => decide (i0 < fb x)) (M.drop q)
            generalize lo (fun x => decide (i0 < fb x)) (M.drop q) = m at HF hlo hlol
            rw [hDl] at hlol
            have hm1 : 1 ≤ m := by
              have := hlo 0 x0 hx0
              rw [decide_eq_false (by omega : ¬ i0 < fb x0)] at this
              have h2 : ¬ m ≤ 0 := by simpa using this.symm
              omega
            obtain ⟨X1, hX1⟩ : ∃ X1, X1 = (M.drop q).take m := ⟨_, rfl⟩
            have hX1l : X1.length = m := by rw [hX1, List.length_take, hDl]; omega
            have hX1D : ∀ x ∈ X1, x ∈ M.drop q := fun x hx => by rw [hX1] at hx; exact List.mem_of_mem_take hx
            have hX1fb : ∀ x ∈ X1, fb x = i0 := fun x hx => by
              obtain ⟨t, ht⟩ := List.mem_iff_getElem?.1 hx
              rw [hX1, List.getElem?_take] at ht
              split at ht
              · rename_i htm
                have h1 := hlo t x ht
                rw [decide_eq_false (by omega : ¬ m ≤ t)] at h1
                have h2 : ¬ i0 < fb x := by simpa using h1
                have h3 : fb x0 ≤ fb x := by
                  cases t with
                  | zero => rw [hx0] at ht; cases ht; exact Nat.le_refl _
                  | succ t =>
                    have hl1 := (List.getElem?_eq_some_iff.1 ht)
                    have hl0 := (List.getElem?_eq_some_iff.1 hx0)
                    have h5 := (List.pairwise_iff_getElem.1 hDS) 0 (t + 1) hl0.1 hl1.1 (by omega)
                    rw [hl0.2, hl1.2] at h5
                    exact fb_le h5 (hD0 x0 hx0D) (hD0 x (List.mem_of_getElem? ht))
                omega
              · cases ht
            obtain ⟨vs, hTV⟩ := hT1.tv
            obtain ⟨v, hv⟩ : ∃ v, vs[i0]? = some v := ⟨_, List.getElem?_eq_getElem (by rw [hTV.2.1]; exact hi256)⟩
            have hvR := (hTV.2.2.1 i0 v hv).2.2
            have hvg : v.ownBlock ≠ some g := fun e => hg1 (hvR g e)
            have hdd : (M.drop q).drop m = M.drop (q + m) := List.drop_drop
            have hgl := hS1.blk.lt
            have HW : Hid (∀ W, Below wr.heap.size wr W → Calls Try.prog 25 #[v, .slice (some ⟨g, q * 6, none⟩) m c'] W fun e w' => ∃ v', e = .returned v' ∧ WX W v g (q * 6) N (bkL L1 i0) X1 v' w') := hide fun W hW => by
              have hSX : SG W g (q * 6) N X1 := by rw [hX1]; exact (hS1.bel hW).take m
              have := with_any (cm := c') ((hTV.bel hW).2.2.1 i0 v hv).1 (hT1.ss.filter _) hSX (by rw [hX1]; exact List.Pairwise.sublist (List.take_sublist _ _) hDS) hvg (by have := List.length_filter_le (fun x => fb x == i0) L1; have := HH.out.2.2.1; rw [bkL]; omega) (by omega) (by omega) hcc
              rw [hX1l] at this
              exact this
            have HST : Hid (∀ W, Below wr.heap.size wr W → ∀ v9 w9, WX W v g (q * 6) N (bkL L1 i0) X1 v9 w9 → ∃ a9 n9 c9, v9 = .slice a9 n9 c9 ∧ w9.cell? ⟨tb, i0, none⟩ = some v ∧ w9.frozen? ⟨tb, i0, none⟩ = false ∧ (∀ b u, ¬ R1 b → b ≠ g → W.cell? ⟨b, 0, none⟩ = some u → w9.cell? ⟨b, 0, none⟩ = some u ∧ (w9.setCell ⟨tb, i0, none⟩ v9).cell? ⟨b, 0, none⟩ = some u) ∧ Hid (∃ R2, TB R2 (w9.setCell ⟨tb, i0, none⟩ v9) tb (un L1 X1) ∧ SG (w9.setCell ⟨tb, i0, none⟩ v9) g ((q + m) * 6) N (M.drop (q + m)) ∧ Gs R w (w9.setCell ⟨tb, i0, none⟩ v9) ∧ (∀ i, R2 i → R i ∨ w.heap.size ≤ i) ∧ ¬ R2 g)) := hide fun W hW v9 w9 hx9 => by
              have hY : SG W g (q * 6 + X1.length * 6) N (M.drop (q + m)) := by rw [hX1l, ← hdd]; exact (hS1.bel hW).drop (by omega)
              obtain ⟨a9, n9, c9, r1, r2, r3, r4, R2, r5, r6, r7⟩ := add_step (hTV.bel hW) (hT1.bel hW) hv hx9 hX1fb (fun x hx => hDM x (hX1D x hx)) hg1 (Nat.lt_of_lt_of_le hgl hW.size) hY (hG1.bel hW) hR1 HA.out.2.2.2.1 HH.out.1.rt
              rw [hX1l, show q * 6 + m * 6 = (q + m) * 6 by omega] at r6
              exact ⟨a9, n9, c9, r1, r2, r3, r4, hide ⟨R2, r5, r6, r7⟩⟩
            have HCV : Hid (∀ W, Below wr.heap.size wr W → W.cell? ⟨tb, i0, none⟩ = some v) := hide fun W hW => by
              rw [cell_of_row W _ _ _ _ _ (hTV.bel hW).1]; simpa using hv
            have hbR : ¬ R1 bf := fun h => by have := hT1.lt bf h; omega
            have hbg : bf ≠ g := by omega
            have HQ := hide (And.intro hm1 (And.intro hlol (And.intro hX1l (And.intro hbR (And.intro hbg (And.intro hkM (And.intro hX1 (And.intro hdd hL1))))))))
            have HM1 := hide (And.intro hB1 kbf)
            have hvs := ((hTV.2.2.1 i0 v hv).1).len
            obtain ⟨av, cv, rfl, _⟩ := hvs
            have hsl1 : ∀ w : World, (Instr.slice 46 (.slice (some ⟨g, q * 6, none⟩) (k - q) c') none (some (.int .i64 (m : Int))) none).run Try.prog w = .ok (.slice (some ⟨g, q * 6, none⟩) m c') w := sl_h (by omega)
            obtain ⟨y2, hsl2, hy2⟩ := sl_l (g := g) (o := q * 6) (n := k - q) (c := c') (k := m) hlol
            have HY2 : Hid (q + m < k → y2 = (q + m) * 6) := hide fun h => by rw [hy2 (by omega)]; omega
            have HMM := hide hmm
            have hmf : ∀ (fn : Fn) (first cap : Array Value) (w : World), (Instr.makeFunc fn first cap).run Try.prog w = .ok (.func fn first cap) w := fun _ _ _ _ => rfl
            have b1 : (0 : Int) < ((k - q : Nat) : Int) := by omega
            have b2 : (i0 : Int) < 256 := by omega
            have b3 : (0 : Int) ≤ (i0 : Int) := by omega
            have HW1 := hide hW1
            have HBF := hide hbf
            have HQ2 := hide (And.intro hq (And.intro hqc hcc))
            generalize (bkL L1 i0).length = nb at *
            clear hSS hmem hkM hkX hid hDl hx0 hDM hD0 hDS hx0D hi0 hW1 hbf hB1 kbf hmono hls hlo hX1l hX1D hX1fb hTV hv hvR hvg hdd hgl hbR hbg hy2 hmm hT1 hL1 hS1 hG1 hR1 hg1 hX1 hy
            go_upto_region 11 with fail
            rw [← HW1.out, ← HBF.out]
            go_wp2_with fail
            refine HF.out.mono ?_
            rintro e W2 ⟨rfl, hB2⟩
            have HB2 := hide (And.intro (below_step HM1.out.1 hB2) (SBB.bel HM1.out.2 hB2))
            clear hB2
            go_wp2
            have hBd : Below wr.heap.size wr W2.drew := HB2.out.1.drew
            have cvd := HCV.out W2.drew hBd
            have S0 : Hid (W2.drew.cell? ⟨bf, 0, none⟩ = some (.int .u8 (i0 : Int))) := hide (cell1 (SBB.bel HB2.out.2 (Below.refl _ W2).drew)).1
            have HWd := hide (HW.out W2.drew hBd)
            have HSd := hide (HST.out W2.drew hBd)
            clear hBd
            have hHeld : (fun wx : World => wx.cell? ⟨bf, 0, none⟩ = some (.int .u8 (i0 : Int))) W2.drew := S0.out
            refine AnyZ.start (z := 99) (S := fun wx => wx.cell? ⟨bf, 0, none⟩ = some (.int .u8 (i0 : Int))) (by kernel_rfl) ?_
            refine AnyZ.take (i := 0) (d := 36) (v := .pointer (some ⟨tb, 0, none⟩)) rfl rfl (by kernel_rfl) (by kernel_rfl) (by kernel_rfl) (by kernel_rfl) (fun _ _ _ h => h) (Or.inl ⟨by rfl, fun w' hSw => ?_⟩) hHeld ?_
            · go_simp
            try simp only [List.setIfInBounds_toArray, List.set_cons_zero, List.set_cons_succ]
            refine AnyZ.take (i := 1) (d := 37) (v := .int .u8 (i0 : Int)) rfl rfl (by kernel_rfl) (by kernel_rfl) (by kernel_rfl) (by kernel_rfl) (fun _ _ _ h => h) (Or.inl ⟨by rfl, fun w' hSw => ?_⟩) hHeld ?_
            · go_simp
            try simp only [List.setIfInBounds_toArray, List.set_cons_zero, List.set_cons_succ]
            refine AnyZ.take (i := 2) (d := 38) (v := .pointer (some ⟨tb, 0, none⟩)) rfl rfl (by kernel_rfl) (by kernel_rfl) (by kernel_rfl) (by kernel_rfl) (fun _ _ _ h => h) (Or.inl ⟨by rfl, fun w' hSw => ?_⟩) hHeld ?_
            · go_simp
            try simp only [List.setIfInBounds_toArray, List.set_cons_zero, List.set_cons_succ]
            refine AnyZ.take (i := 3) (d := 39) (v := .int .u8 (i0 : Int)) rfl rfl (by kernel_rfl) (by kernel_rfl) (by kernel_rfl) (by kernel_rfl) (fun _ _ _ h => h) (Or.inl ⟨by rfl, fun w' hSw => ?_⟩) hHeld ?_
            · go_simp
            try simp only [List.setIfInBounds_toArray, List.set_cons_zero, List.set_cons_succ]
            refine AnyZ.take (i := 4) (d := 40) (v := .pointer (some ⟨tb, 0, none⟩)) rfl rfl (by kernel_rfl) (by kernel_rfl) (by kernel_rfl) (by kernel_rfl) (fun _ _ _ h => h) (Or.inl ⟨by rfl, fun w' hSw => ?_⟩) hHeld ?_
            · go_simp
            try simp only [List.setIfInBounds_toArray, List.set_cons_zero, List.set_cons_succ]
            refine AnyZ.take (i := 5) (d := 41) (v := .pointer (some ⟨tb, 0, none⟩)) rfl rfl (by kernel_rfl) (by kernel_rfl) (by kernel_rfl) (by kernel_rfl) (fun _ _ _ h => h) (Or.inl ⟨by rfl, fun w' hSw => ?_⟩) hHeld ?_
            · go_simp
            try simp only [List.setIfInBounds_toArray, List.set_cons_zero, List.set_cons_succ]
            refine AnyZ.take (i := 6) (d := 42) (v := .pointer (some ⟨tb, i0, none⟩)) rfl rfl (by kernel_rfl) (by kernel_rfl) (by kernel_rfl) (by kernel_rfl) (fun _ _ _ h => h) (Or.inl ⟨by rfl, fun w' hSw => ?_⟩) hHeld ?_
            · go_simp
            try simp only [List.setIfInBounds_toArray, List.set_cons_zero, List.set_cons_succ]
            refine AnyZ.take (i := 8) (d := 44) (v := .slice (some ⟨g, q * 6, none⟩) (k - q) c') rfl rfl (by kernel_rfl) (by kernel_rfl) (by kernel_rfl) (by kernel_rfl) (fun _ _ _ h => h) (Or.inl ⟨by rfl, fun w' hSw => ?_⟩) hHeld ?_
            · go_simp
            try simp only [List.setIfInBounds_toArray, List.set_cons_zero, List.set_cons_succ]
            refine AnyZ.take (i := 9) (d := 45) (v := .int .i64 (m : Int)) rfl rfl (by kernel_rfl) (by kernel_rfl) (by kernel_rfl) (by kernel_rfl) (fun _ _ _ h => h) (Or.inl ⟨by rfl, fun w' hSw => ?_⟩) hHeld ?_
            · go_simp
            try simp only [List.setIfInBounds_toArray, List.set_cons_zero, List.set_cons_succ]
            refine AnyZ.take (i := 10) (d := 46) (v := .slice (some ⟨g, q * 6, none⟩) m c') rfl rfl (by kernel_rfl) (by kernel_rfl) (by kernel_rfl) (by kernel_rfl) (fun _ _ _ h => h) (Or.inl ⟨by rfl, fun w' hSw => ?_⟩) hHeld ?_
            · go_simp
            try simp only [List.setIfInBounds_toArray, List.set_cons_zero, List.set_cons_succ]
            refine AnyZ.take (i := 12) (d := 48) (v := .pointer (some ⟨tb, 0, none⟩)) rfl rfl (by kernel_rfl) (by kernel_rfl) (by kernel_rfl) (by kernel_rfl) (fun _ _ _ h => h) (Or.inl ⟨by rfl, fun w' hSw => ?_⟩) hHeld ?_
            · go_simp
            try simp only [List.setIfInBounds_toArray, List.set_cons_zero, List.set_cons_succ]
            refine AnyZ.take (i := 13) (d := 49) (v := .pointer (some ⟨tb, 0, none⟩)) rfl rfl (by kernel_rfl) (by kernel_rfl) (by kernel_rfl) (by kernel_rfl) (fun _ _ _ h => h) (Or.inl ⟨by rfl, fun w' hSw => ?_⟩) hHeld ?_
            · go_simp
            try simp only [List.setIfInBounds_toArray, List.set_cons_zero, List.set_cons_succ]
            refine AnyZ.one (i := 7) (by kernel_rfl) rfl fun K hK => ?_
            go_simp
            refine hK.out _ _ (fun _ => S0.out) (fun hHeld2 => ?_)
            clear hK K hHeld2
            try simp only [Act.put, List.setIfInBounds_toArray, List.set_cons_zero, List.set_cons_succ]
            refine AnyZ.one (i := 11) (by kernel_rfl) rfl fun K hK => ?_
            go_simp
            refine Calls.mono HWd.out ?_
            rintro e w9 ⟨v9, rfl, hWX⟩
            obtain ⟨a9, n9, c9, rfl, y9, z9, hcl, HE9⟩ := HSd.out v9 w9 hWX
            have S9 := hide (hcl bf _ HQ.out.2.2.2.1 HQ.out.2.2.2.2.1 S0.out)
            clear hWX hcl hHeld
            refine hK.out _ _ (fun _ => S9.out.1) (fun hHeld2 => ?_)
            clear hK K hHeld2
            have hHeld := S9.out.1
            try simp only [Act.put, List.setIfInBounds_toArray, List.set_cons_zero, List.set_cons_succ]
            refine AnyZ.take (i := 14) (d := 50) (v := .pointer (some ⟨tb, i0, none⟩)) rfl rfl (by kernel_rfl) (by kernel_rfl) (by kernel_rfl) (by kernel_rfl) (fun _ _ _ h => h) (Or.inl ⟨by rfl, fun w' hSw => ?_⟩) hHeld ?_
            · go_simp
            try simp only [List.setIfInBounds_toArray, List.set_cons_zero, List.set_cons_succ]
            refine AnyZ.one (i := 15) (by kernel_rfl) rfl fun K hK => ?_
            go_simp
            refine hK.out _ _ (fun _ => S9.out.2) (fun hHeld2 => ?_)
            clear hK K hHeld2
            try simp only [Act.put]
            refine AnyZ.done (by kernel_rfl) ?_ _
            clear hHeld cvd
            have b4 : (m : Int) ≤ ((k - q : Nat) : Int) := by have := HQ.out.2.1; omega
            have b5 : (0 : Int) ≤ (m : Int) := by omega
            generalize hW10 : w9.setCell ⟨tb, i0, none⟩ (.slice a9 n9 c9) = W10 at HE9 ⊢
            clear hW10 y9 z9 hsl1
            go_wp2
            obtain ⟨R2, r5, r6, r7, r8, r9⟩ := HE9.out
            obtain ⟨g1, g2, g3, g4, g5, g6, g7, g8, g9⟩ := HQ.out
            obtain ⟨o1, o2, o3⟩ := HQ2.out
            refine ⟨⟨q + m, y2, c' - m, R2, un L1 X1, by rw [Nat.sub_sub], by omega, HY2.out, by omega, by omega, r5, fun x => ?_, by have := un_len X1 L1; omega, r6, r7, r8, r9⟩, ?_⟩
            · rw [un_mem, HMM.out, g7, List.take_add, List.mem_append, or_assoc]
            · simp only [slN]; omega
          · obtain rfl : q = k := by omega
            have HE : Hid (AX R w tb L X wr) := by
              obtain ⟨a1, a2, a3, a4, _⟩ := HM.out
              refine hide ⟨R1, L1, hT1, fun x => ?_, hG1, hR1, by omega⟩
              rw [hmm, a3, List.take_length, a2]
            clear hy hqc hcc hT1 hmm hL1 hS1 hG1 hR1 hg1
            rw [Nat.sub_self]
            go_wp2
            go_ret
            exact ⟨rfl, HE.out⟩
end
end Go.Proofs.Ytkcefdiiibbflaa

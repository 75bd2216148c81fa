/-
  Contracts of the program and of the statements (part 8 of 8).
-/
import Derived.Test.YtiecoplfiahpnaaFb7
import Derived.Deep.SlicePairs
import Derived.ProofKit
import Derived.OpenShut
import Derived.SizedLaws

namespace Go.Proofs.Ytiecoplfiahpnaa
open Go.RowKit Go.Lib Go.Maps
/-- What is kept along the jobs. -/
structure KB9 (w wy wk : World) (Py : Nat → Prop) (v dv : Value) (ds : List ByteArray) (S : List SS) (bs : List (Nat × Nat)) (g : Nat) (Lf : Nat → List OB) : Prop where
  y : YA wy wk Py v S bs g
  q : QS 1048576 20 S Lf
  be : Below w.heap.size w wk
  dl : LS t1 1 (fun i => i < w.heap.size) wk dv ds
section
variable {w wy wk w1 w' : World} {Py : Nat → Prop} {v dv : Value} {ds : List ByteArray} {S S' : List SS} {bs : List (Nat × Nat)} {g g' : Nat} {Lf Lf' : Nat → List OB}
theorem KB9.next (h : KB9 w wy wk Py v dv ds S bs g Lf) (hPy : ∀ i, Py i → w.heap.size ≤ i) (hy : YA wy w1 Py v S' bs g') (hq : QS 1048576 20 S' Lf') (hG : Gs Py wk w1) (o : Obj) : KB9 w wy (w1.alloc o) Py v dv ds S' bs g' Lf' := by
  have hB : Below w1.heap.size w1 (w1.alloc o) := (Below.refl _ _).alloc (Nat.le_refl _) _
  have hb1 : Below w.heap.size w w1 := hG.below h.be h.be.size hPy
  exact ⟨hy.bel hB, hq, hb1.trans (hB.mono hb1.size), (h.dl.gs hG (fun i hi hp => by have := hPy i hp; omega)).bel hB⟩
theorem Gs.al {p : Nat → Prop} (h : Gs p w w1) (o : Obj) : Gs p w (w1.alloc o) := h.bel ((Below.refl _ _).alloc (Nat.le_refl _) _)
theorem aq_small (k : Int) (n : ByteArray) (m : Nat) (hn : n.size ≤ maxLen) : ∀ q ∈ aq k n ⟨#[]⟩ m, q.n.size ≤ maxLen ∧ q.d.size ≤ maxLen := by
  intro q hq
  rw [aq] at hq
  obtain ⟨i, _, rfl⟩ := List.mem_map.1 hq
  exact ⟨hn, Nat.zero_le _⟩
theorem pqn_small (n : ByteArray) (hn : n.size ≤ maxLen) (hd : ∀ d ∈ ds, d.size ≤ maxLen) : ∀ q ∈ pqn n ds, q.n.size ≤ maxLen ∧ q.d.size ≤ maxLen := by
  intro q hq
  rw [pqn] at hq
  split at hq
  · rw [pq, List.mem_mapIdx] at hq
    obtain ⟨i, hi, rfl⟩ := hq
    exact ⟨hn, hd _ (List.getElem_mem hi)⟩
  · simp at hq
end
section
variable {w : World} {a : Option Addr} {c : Nat} {ds : List ByteArray} {r : Nat → Prop}
set_option maxRecDepth 100000 in
set_option maxHeartbeats 12800000 in
theorem fback_walk (hd : LS t1 1 r w (.slice a ds.length c) ds) (hcap : ds.length ≤ c) (hn : ds.length ≤ 9223372036854775807) (hds : ∀ d ∈ ds, d.size ≤ maxLen) (ag : Bool) :
    Calls Try.prog 4 #[.slice a ds.length c, .bool ag] w fun e w' => e = .returned (.bool true) ∧ Below w.heap.size w w' := by
  have hd0 : LS t1 1 (fun i => i < w.heap.size) w (.slice a ds.length c) ds := hd.old.mono fun i hi => hi.2
  have HW := hide (works9 w)
  obtain ⟨m, hm⟩ : ∃ m, m = ds.length := ⟨_, rfl⟩
  have HD := hide hd0
  have HM := hide hm
  have HDS := hide hds
  rw [← hm] at hn hcap HD ⊢
  clear hd hd0 hm hds
  go_enter Try.func4, Try.ntmps4
  go_wp2_with fail
  refine HW.out.mono ?_
  rintro e w1 ⟨rfl, hB1⟩
  have HB1 := hide hB1
  clear hB1
  go_upto_if 27 with fail
  go_cut [0, 28, 29] (fun v _ _ wx => (∃ a c, v = .slice a (min m 20) c ∧ LS t1 1 (fun i => i < w.heap.size) wx v (ds.take 20)) ∧ Below w.heap.size w wx)
  case first =>
    by_cases h20 : 20 < m
    · have b1 : (m : Int) > 20 := by omega
      have b2 : (20 : Int) ≤ (c : Int) := by omega
      have HE : Hid ((∃ a' c', Value.slice a 20 c = .slice a' (min m 20) c' ∧ LS t1 1 (fun i => i < w.heap.size) w1 (.slice a 20 c) (ds.take 20)) ∧ Below w.heap.size w w1) := by
        refine ⟨⟨a, c, by rw [Nat.min_eq_right (by omega)], ?_⟩, HB1.out⟩
        obtain ⟨a9, c9, e9, h9, h8⟩ := HD.out.bel HB1.out
        simp only [Value.slice.injEq] at e9
        obtain ⟨rfl, _, rfl⟩ := e9
        refine ⟨a, c, by rw [List.length_take, ← HM.out, Nat.min_eq_left (by omega)], h9, ?_⟩
        rcases h8 with h8 | ⟨g, o, ea, hr, hg, hG⟩
        · exact .inl (by rw [h8]; rfl)
        · refine .inr ⟨g, o, ea, hr, hg, fun i x hx => hG i x ?_⟩
          rw [List.getElem?_take] at hx
          split at hx
          · exact hx
          · cases hx
      go_wp2
      go_meet
      case rel => exact HE.out
    · have b1 : ¬ (m : Int) > 20 := by omega
      have HE : Hid ((∃ a' c', Value.slice a m c = .slice a' (min m 20) c' ∧ LS t1 1 (fun i => i < w.heap.size) w1 (.slice a m c) (ds.take 20)) ∧ Below w.heap.size w w1) := by
        refine ⟨⟨a, c, by rw [Nat.min_eq_left (by omega)], ?_⟩, HB1.out⟩
        rw [List.take_of_length_le (by rw [← HM.out]; omega)]
        exact HD.out.bel HB1.out
      go_wp2
      go_meet
      case rel => exact HE.out
  case rest =>
    obtain ⟨⟨a2, c2, rfl, hE⟩, hBc⟩ := hcut
    obtain ⟨E, hEd⟩ : ∃ E, E = ds.take 20 := ⟨_, rfl⟩
    rw [← hEd] at hE
    obtain ⟨n, hn1⟩ : ∃ n, n = min m 20 := ⟨_, rfl⟩
    rw [← hn1] at hE ⊢
    have hnE : n = E.length := by rw [hn1, hEd, List.length_take, ← HM.out]; omega
    have hn20 : n ≤ 20 := by omega
    have HEl := hide (And.intro hE hBc)
    have HNE := hide hnE
    have HES : Hid (∀ d ∈ E, d.size ≤ maxLen) := fun d hd => HDS.out d (List.mem_of_mem_take (hEd ▸ hd))
    clear hE hBc hEd hn1 hnE HW HD HB1
    generalize wc = wa at *
    go_wp2
    go_loopw [32] (fun i wr => ∃ j : Nat, j ≤ n ∧ i = .int .i64 j ∧ (∀ d ∈ E.take j, d.size ≤ 200) ∧ wr = wa) (fun i _ => n - (intOf i).toNat)
    case atStart => exact ⟨0, Nat.zero_le _, rfl, fun d hd => by simp at hd, rfl⟩
    case round =>
      obtain ⟨j, hj, rfl, hsm, rfl⟩ := hrel
      by_cases hlt : j < n
      · have b1 : (j : Int) < (n : Int) := by omega
        have b0 : (0 : Int) ≤ (j : Int) := by omega
        obtain ⟨x, hx⟩ : ∃ x, E[j]? = some x := ⟨_, List.getElem?_eq_getElem (by rw [← HNE.out]; exact hlt)⟩
        have hE := HEl.out.1
        rw [HNE.out] at hE
        obtain ⟨gd, od, rfl, _, z0⟩ := hE.at1 hx rfl
        clear hE
        by_cases h2 : (200 : Int) < (x.size : Int)
        · have b2 : (x.size : Int) > 200 := h2
          clear hsm hx
          go_wp2
          go_ret
          exact ⟨rfl, HEl.out.2⟩
        · have b2 : ¬ (x.size : Int) > 200 := h2
          have HE : Hid (∀ d ∈ E.take (j + 1), d.size ≤ 200) := by
            intro d hd
            rw [take_snoc_at hx] at hd
            rcases List.mem_append.1 hd with h | h
            · exact hsm d h
            · simp at h; subst h; omega
          clear hsm hx
          go_wp2
          exact ⟨⟨j + 1, by omega, by go_num, HE.out, trivial⟩, by simp [intOf]; omega⟩
      · obtain rfl : j = n := by omega
        have e : E.take j = E := List.take_of_length_le (by have := HNE.out; omega)
        rw [e] at hsm
        have HSM := hide hsm
        clear hsm e
        have HYD := hide (yard_any 20 (by decide) wr)
        go_wp2_with fail
        refine HYD.out.mono ?_
        rintro er wy ⟨sa, sc, bs, rfl, hY, hbl⟩
        obtain ⟨Py, hPyd⟩ : ∃ Py : Nat → Prop, Py = fun i => wr.heap.size ≤ i ∧ i < wy.heap.size := ⟨_, rfl⟩
        have hyp := hY.yp
        rw [hbl, ← hPyd] at hyp
        have hwr := HEl.out.2.size
        have hPl : ∀ i, Py i → w.heap.size ≤ i := fun i hi => by rw [hPyd] at hi; have := hi.1; omega
        have hPu : ∀ i, Py i → i < wy.heap.size := fun i hi => by rw [hPyd] at hi; exact hi.2
        obtain ⟨S0, hS0⟩ : ∃ S0, S0 = List.replicate 20 (sq 1048576) := ⟨_, rfl⟩
        rw [← hS0] at hyp
        have HK0 : Hid (KB9 w wy wy Py (.slice sa 20 sc) (.slice a2 j c2) E S0 bs 0 (fun _ => [])) := by
          refine ⟨⟨hyp, hPu, Nat.le_refl _, fun s hs => by rw [hS0] at hs; rw [(List.mem_replicate.1 hs).2]; exact sq_go _ _⟩, ⟨by rw [hS0]; simp, fun i s hs => ?_⟩, HEl.out.2.trans (hY.be.mono hwr), ?_⟩
          · rw [hS0] at hs; rw [(List.mem_replicate.1 (List.mem_of_getElem? hs)).2]; exact ⟨rfl, rfl, rfl, rfl⟩
          · exact HEl.out.1.bel hY.be
        have HPl := hide hPl
        have HPu := hide hPu
        clear hY hbl hPyd hyp hwr hPl hPu hS0
        by_cases hz : j = 0
        · subst hz
          have hjob := putjob_any (nm := nameB) HK0.out.dl (by rw [← HNE.out]; decide)
          rw [show pqn nameB E = [] from by rw [List.length_eq_zero_iff.1 HNE.out.symm]; rfl, show okn (E.length : Int) = false from by rw [← HNE.out]; rfl] at hjob
          have HPp := hide hjob
          clear hjob
          go_wp2_with fail
          refine HPp.out.mono ?_
          rintro er wj ⟨bp, Pp, rfl, hJ, hBj, hP⟩

          have hR := HK0.out.y.run hBj hJ hP (by simp) (by simp) (fun q hq => by simp at hq) (by simp [noT]) (by simp [noT])
          rw [show gC false [] (yRs S0 []) = 1 from rfl, show gN (yRs S0 []) = 0 from rfl, show noT (yRs S0 []) = [] from rfl] at hR
          have HRp := hide hR
          clear hJ hBj hP hR
          go_wp2_with fail
          refine HRp.out.mono ?_
          rintro er wp ⟨idsp, txp, rfl, hI, hT, hYA, hG⟩
          obtain ⟨aip, lip, cip, hei⟩ : ∃ a n c, idsp = .slice a n c := by obtain ⟨a, c, e⟩ := hI.shp; exact ⟨a, _, c, e⟩
          obtain ⟨atp, ltp, ctp, het⟩ : ∃ a n c, txp = .slice a n c := by obtain ⟨a, c, e⟩ := hT.shp; exact ⟨a, _, c, e⟩
          subst hei
          subst het
          obtain ⟨Wp, hW⟩ : ∃ W, W = wp.alloc (.cells #[.int .i64 1, .string ⟨#[]⟩, .int .i64 0, .slice aip lip cip, .slice atp ltp ctp, .slice none 0 0, .slice none 0 0] 35) := ⟨_, rfl⟩
          obtain ⟨Xp, hX⟩ : ∃ X, X = wp.heap.size := ⟨_, rfl⟩
          have HKp : Hid (KB9 w wy Wp Py (.slice sa 20 sc) (.slice a2 0 c2) E (ySs S0 []) bs (0 + ([] : List QT).length) (fun _ => [])) := by show KB9 _ _ _ _ _ _ _ _ _ _ _; rw [hW]; exact HK0.out.next HPl.out hYA (HK0.out.q) hG _
          have hGW : Gs Py wy Wp := by rw [hW]; exact hG.al _
          have HXp : Hid (RX wy Wp Xp 1 0 (.slice aip lip cip) (.slice atp ltp ctp) [] []) := by show RX _ _ _ _ _ _ _ _ _; rw [hW, hX]; exact RX.new HK0.out.y.s hYA.s hI hT
          have HWp := hide hW
          have HXep := hide hX
          clear hI hT hYA hG hW hX hGW
          go_upto_region 14 with fail
          rw [← HWp.out, ← HXep.out]
          have y0 : Wp.cell? ⟨Xp, 0, none⟩ = some (.int .i64 1) := HXp.out.r.cell 0
          go_wp2
          go_ret
          exact ⟨rfl, HKp.out.be⟩
        · have hj1 : 1 ≤ j := by omega
          have hEl := HNE.out
          have hok : 1 ≤ E.length ∧ E.length ≤ 255 := by omega
          have hpqn : pqn nameB E = pq nameB E := by rw [pqn, if_pos hok]
          have hokn : okn (E.length : Int) = true := decide_eq_true (by omega)
          have hokj : okn (j : Int) = true := decide_eq_true (by omega)
          have hsmE : ∀ q ∈ pq nameB E, q.n.size ≤ maxLen ∧ q.d.size ≤ maxLen := by rw [← hpqn]; exact pqn_small nameB (by decide) HES.out
          have hlE : (pq nameB E).length = j := by rw [pq_len, ← hEl]
          have HHH := hide (And.intro hj1 (And.intro hEl (And.intro hpqn (And.intro hokn (And.intro hokj (And.intro hsmE hlE))))))
          clear hj1 hEl hok hpqn hokn hokj hsmE hlE
          obtain ⟨hj1, hEl, hpqn, hokn, hokj, hsmE, hlE⟩ := HHH.out
          have hjob := putjob_any (nm := nameB) HK0.out.dl (by rw [← hEl]; omega)
          rw [hpqn, hokn] at hjob
          have HPp := hide hjob
          clear hjob
          clear hj1 hEl hpqn hokn hokj hsmE hlE
          go_wp2_with fail
          refine HPp.out.mono ?_
          rintro er wj ⟨bp, Pp, rfl, hJ, hBj, hP⟩
          obtain ⟨hj1, hEl, hpqn, hokn, hokj, hsmE, hlE⟩ := HHH.out
          have hbp := back_put HK0.out.q (fun i => .inl rfl) (by omega) HSM.out (fun i _ => rfl)
          have hzr := zero_res hbp.1 []
          have hR := HK0.out.y.run hBj hJ hP (by omega) (by omega) (hsmE) (by simp [noT]) (by simp [noT])
          have eC : gC true [] (yRs S0 (pq nameB E)) = 0 := by rw [gC, if_pos rfl]; exact hzr.1
          have eN : gN (yRs S0 (pq nameB E)) = (j : Int) := by rw [gN, hzr.2, yRs_len, hlE]
          rw [eC, eN, show noT (yRs S0 (pq nameB E)) = [] from rfl] at hR
          have HBQ := hide hbp.2
          clear hbp hzr eC eN
          have HRp := hide hR
          clear hJ hBj hP hR
          clear hj1 hEl hpqn hokn hokj hsmE hlE
          go_wp2_with fail
          refine HRp.out.mono ?_
          rintro er wp ⟨idsp, txp, rfl, hI, hT, hYA, hG⟩
          obtain ⟨aip, lip, cip, hei⟩ : ∃ a n c, idsp = .slice a n c := by obtain ⟨a, c, e⟩ := hI.shp; exact ⟨a, _, c, e⟩
          obtain ⟨atp, ltp, ctp, het⟩ : ∃ a n c, txp = .slice a n c := by obtain ⟨a, c, e⟩ := hT.shp; exact ⟨a, _, c, e⟩
          subst hei
          subst het
          obtain ⟨Wp, hW⟩ : ∃ W, W = wp.alloc (.cells #[.int .i64 0, .string ⟨#[]⟩, .int .i64 (j : Int), .slice aip lip cip, .slice atp ltp ctp, .slice none 0 0, .slice none 0 0] 35) := ⟨_, rfl⟩
          obtain ⟨Xp, hX⟩ : ∃ X, X = wp.heap.size := ⟨_, rfl⟩
          have HKp : Hid (KB9 w wy Wp Py (.slice sa 20 sc) (.slice a2 j c2) E (ySs S0 (pq nameB E)) bs (0 + (pq nameB E).length) (LB E)) := by show KB9 _ _ _ _ _ _ _ _ _ _ _; rw [hW]; exact HK0.out.next HPl.out hYA (HBQ.out) hG _
          have hGW : Gs Py wy Wp := by rw [hW]; exact hG.al _
          have HXp : Hid (RX wy Wp Xp 0 (j : Int) (.slice aip lip cip) (.slice atp ltp ctp) [] []) := by show RX _ _ _ _ _ _ _ _ _; rw [hW, hX]; exact RX.new HK0.out.y.s hYA.s hI hT
          clear HBQ
          have HWp := hide hW
          have HXep := hide hX
          clear hI hT hYA hG hW hX hGW
          go_upto_region 14 with fail
          rw [← HWp.out, ← HXep.out]
          have hjz : ¬ (j : Int) = 0 := by omega
          go_upto_if 58 with fail
          go_cut [11, 12, 59, 60, 61, 62, 63, 64, 65, 66, 67, 68, 69, 70, 71, 72, 73] (fun _ _ _ _ _ _ _ _ _ _ _ _ _ _ _ _ _ wx => ∃ S1 g1, g1 ≤ 40 ∧ KB9 w wy wx Py (.slice sa 20 sc) (.slice a2 j c2) E S1 bs g1 (LB E) ∧ RX wy wx Xp 0 (j : Int) (.slice aip lip cip) (.slice atp ltp ctp) [] [])
          case first =>
            cases ag with
            | false =>
              have HE : Hid (∃ S1 g1, g1 ≤ 40 ∧ KB9 w wy Wp Py (.slice sa 20 sc) (.slice a2 j c2) E S1 bs g1 (LB E) ∧ RX wy Wp Xp 0 (j : Int) (.slice aip lip cip) (.slice atp ltp ctp) [] []) := ⟨_, _, by have := HHH.out.2.2.2.2.2.2; omega, HKp.out, HXp.out⟩
              go_wp2
              go_meet
              case rel => exact HE.out
            | true =>
              obtain ⟨hj1, hEl, hpqn, hokn, hokj, hsmE, hlE⟩ := HHH.out
              have hjob := putjob_any (nm := nameB) HKp.out.dl (by rw [← hEl]; omega)
              rw [hpqn, hokn] at hjob
              have HPv := hide hjob
              clear hjob
              clear hj1 hEl hpqn hokn hokj hsmE hlE
              go_wp2_with fail
              refine HPv.out.mono ?_
              rintro er wj ⟨bv, Pv, rfl, hJ, hBj, hP⟩
              obtain ⟨hj1, hEl, hpqn, hokn, hokj, hsmE, hlE⟩ := HHH.out
              have hbp := back_put HKp.out.q (LB_is E) (by omega) HSM.out (fun i hi => LB_out hi)
              have hzr := zero_res hbp.1 []
              have hR := HKp.out.y.run hBj hJ hP (by omega) (by omega) (hsmE) (by simp [noT]) (by simp [noT])
              have eC : gC true [] (yRs (ySs S0 (pq nameB E)) (pq nameB E)) = 0 := by rw [gC, if_pos rfl]; exact hzr.1
              have eN : gN (yRs (ySs S0 (pq nameB E)) (pq nameB E)) = (j : Int) := by rw [gN, hzr.2, yRs_len, hlE]
              rw [eC, eN, show noT (yRs (ySs S0 (pq nameB E)) (pq nameB E)) = [] from rfl] at hR
              have HBQ := hide hbp.2
              clear hbp hzr eC eN
              have HRv := hide hR
              clear hJ hBj hP hR
              clear hj1 hEl hpqn hokn hokj hsmE hlE
              go_wp2_with fail
              refine HRv.out.mono ?_
              rintro er wv ⟨idsv, txv, rfl, hI, hT, hYA, hG⟩
              obtain ⟨aiv, liv, civ, hei⟩ : ∃ a n c, idsv = .slice a n c := by obtain ⟨a, c, e⟩ := hI.shp; exact ⟨a, _, c, e⟩
              obtain ⟨atv, ltv, ctv, het⟩ : ∃ a n c, txv = .slice a n c := by obtain ⟨a, c, e⟩ := hT.shp; exact ⟨a, _, c, e⟩
              subst hei
              subst het
              obtain ⟨Wv, hW⟩ : ∃ W, W = wv.alloc (.cells #[.int .i64 0, .string ⟨#[]⟩, .int .i64 (j : Int), .slice aiv liv civ, .slice atv ltv ctv, .slice none 0 0, .slice none 0 0] 35) := ⟨_, rfl⟩
              obtain ⟨Xv, hX⟩ : ∃ X, X = wv.heap.size := ⟨_, rfl⟩
              have HKv : Hid (KB9 w wy Wv Py (.slice sa 20 sc) (.slice a2 j c2) E (ySs (ySs S0 (pq nameB E)) (pq nameB E)) bs ((0 + (pq nameB E).length) + (pq nameB E).length) (LB E)) := by show KB9 _ _ _ _ _ _ _ _ _ _ _; rw [hW]; exact HKp.out.next HPl.out hYA (HBQ.out) hG _
              have hGW : Gs Py Wp Wv := by rw [hW]; exact hG.al _
              have HXv : Hid (RX wy Wv Xv 0 (j : Int) (.slice aiv liv civ) (.slice atv ltv ctv) [] []) := by show RX _ _ _ _ _ _ _ _ _; rw [hW, hX]; exact RX.new HKp.out.y.s hYA.s hI hT
              have HXp := hide (HXp.out.next hGW HPu.out)
              clear HBQ
              have HWv := hide hW
              have HXev := hide hX
              clear hI hT hYA hG hW hX hGW
              go_upto_region 18 with fail
              rw [← HWv.out, ← HXev.out]
              have y2 : Wv.cell? ⟨Xv, 2, none⟩ = some (.int .i64 (j : Int)) := HXv.out.r.cell 2
              have HE : Hid (∃ S1 g1, g1 ≤ 40 ∧ KB9 w wy Wv Py (.slice sa 20 sc) (.slice a2 j c2) E S1 bs g1 (LB E) ∧ RX wy Wv Xp 0 (j : Int) (.slice aip lip cip) (.slice atp ltp ctp) [] []) := ⟨_, _, by have := HHH.out.2.2.2.2.2.2; omega, HKv.out, HXp.out⟩
              go_wp2
              go_meet
              case rel => exact HE.out
          case rest =>
            obtain ⟨S1, g1, hg1, hK1, hX1⟩ := hcut
            have HKc := hide hK1
            have HXp := hide hX1
            have Hg1 := hide hg1
            clear hK1 hX1 hg1 HKp HWp
            generalize wc = Wc at *
            obtain ⟨hj1, hEl, hpqn, hokn, hokj, hsmE, hlE⟩ := HHH.out
            have hjob := getjob_any (j : Int) nameB Wc
            rw [hokj, nst_nat j hj1 (by omega)] at hjob
            have HPg := hide hjob
            clear hjob
            clear hj1 hEl hpqn hokn hokj hsmE hlE
            go_wp2_with fail
            refine HPg.out.mono ?_
            rintro er wj ⟨bg, Pg, rfl, hJ, hBj, hP⟩
            obtain ⟨hj1, hEl, hpqn, hokn, hokj, hsmE, hlE⟩ := HHH.out
            have hbg := back_get HKc.out.q (by omega)
            rw [← hEl] at hbg
            have hzr := zero_res hbg.1 []
            have hR := HKc.out.y.run hBj hJ hP (by have := Hg1.out; rw [aq_len]; omega) (by have := Hg1.out; rw [aq_len]; omega) (aq_small 2 nameB j (by decide)) (by simp [noT]) (by rw [gT, List.length_map, yRs_len, aq_len]; omega)
            have eC : gC true [] (yRs S1 (aq 2 nameB ⟨#[]⟩ j)) = 0 := by rw [gC, if_pos rfl]; exact hzr.1
            have eN : gN (yRs S1 (aq 2 nameB ⟨#[]⟩ j)) = (j : Int) := by rw [gN, hzr.2, yRs_len, aq_len]
            rw [eC, eN, show noT (yRs S1 (aq 2 nameB ⟨#[]⟩ j)) = [] from rfl, hbg.2] at hR
            clear hbg hzr eC eN
            have HRg := hide hR
            clear hJ hBj hP hR
            clear hj1 hEl hpqn hokn hokj hsmE hlE
            go_wp2_with fail
            refine HRg.out.mono ?_
            rintro er wg ⟨idsg, txg, rfl, hI, hT, hYA, hG⟩
            obtain ⟨aig, lig, cig, hei⟩ : ∃ a n c, idsg = .slice a n c := by obtain ⟨a, c, e⟩ := hI.shp; exact ⟨a, _, c, e⟩
            obtain ⟨atg, ltg, ctg, het⟩ : ∃ a n c, txg = .slice a n c := by obtain ⟨a, c, e⟩ := hT.shp; exact ⟨a, _, c, e⟩
            subst hei
            subst het
            obtain ⟨Wg, hW⟩ : ∃ W, W = wg.alloc (.cells #[.int .i64 0, .string ⟨#[]⟩, .int .i64 (j : Int), .slice aig lig cig, .slice atg ltg ctg, .slice none 0 0, .slice none 0 0] 35) := ⟨_, rfl⟩
            obtain ⟨Xg, hX⟩ : ∃ X, X = wg.heap.size := ⟨_, rfl⟩
            have HKg : Hid (KB9 w wy Wg Py (.slice sa 20 sc) (.slice a2 j c2) E (ySs S1 (aq 2 nameB ⟨#[]⟩ j)) bs (g1 + (aq 2 nameB ⟨#[]⟩ j).length) (LB E)) := by show KB9 _ _ _ _ _ _ _ _ _ _ _; rw [hW]; exact HKc.out.next HPl.out hYA (back_still HKc.out.q (by decide) (by decide) j) hG _
            have hGW : Gs Py Wc Wg := by rw [hW]; exact hG.al _
            have HXg : Hid (RX wy Wg Xg 0 (j : Int) (.slice aig lig cig) (.slice atg ltg ctg) [] E) := by show RX _ _ _ _ _ _ _ _ _; rw [hW, hX]; exact RX.new HKc.out.y.s hYA.s hI hT
            have HXp := hide (HXp.out.next hGW HPu.out)
            have HWg := hide hW
            have HXeg := hide hX
            clear hI hT hYA hG hW hX hGW
            go_upto_region 21 with fail
            rw [← HWg.out, ← HXeg.out]
            obtain ⟨S2, hS2⟩ : ∃ S2, S2 = ySs S1 (aq 2 nameB ⟨#[]⟩ j) := ⟨_, rfl⟩
            obtain ⟨g2, hg2⟩ : ∃ g2, g2 = g1 + (aq 2 nameB ⟨#[]⟩ j).length := ⟨_, rfl⟩
            have Hg2 : Hid (g2 ≤ 60) := by show g2 ≤ 60; have := Hg1.out; rw [hg2, aq_len]; omega
            rw [← hS2, ← hg2] at HKg
            clear hS2 hg2
            obtain ⟨hj1, hEl, hpqn, hokn, hokj, hsmE, hlE⟩ := HHH.out
            have hjob := listsjob_any 20 naB Wg
            rw [show okn 20 = true from rfl, show nst 20 = 20 from rfl] at hjob
            have HPk := hide hjob
            clear hjob
            clear hj1 hEl hpqn hokn hokj hsmE hlE
            go_wp2_with fail
            refine HPk.out.mono ?_
            rintro er wj ⟨bk, Pk, rfl, hJ, hBj, hP⟩
            obtain ⟨hj1, hEl, hpqn, hokn, hokj, hsmE, hlE⟩ := HHH.out
            have hbl := back_list HKg.out.q (by omega) (by omega)
            have hzr := zero_res hbl.1 []
            have hR := HKg.out.y.run hBj hJ hP (by have := Hg2.out; rw [aq_len]; omega) (by have := Hg2.out; rw [aq_len]; omega) (aq_small 3 naB 20 (by decide)) (by rw [hbl.2]; decide) (by simp [noT])
            have eC : gC true [] (yRs S2 (aq 3 naB ⟨#[]⟩ 20)) = 0 := by rw [gC, if_pos rfl]; exact hzr.1
            have eN : gN (yRs S2 (aq 3 naB ⟨#[]⟩ 20)) = 20 := by rw [gN, hzr.2, yRs_len, aq_len]; rfl
            rw [eC, eN, show noT (yRs S2 (aq 3 naB ⟨#[]⟩ 20)) = [] from rfl, hbl.2] at hR
            clear hbl hzr eC eN
            have HRk := hide hR
            clear hJ hBj hP hR
            clear hj1 hEl hpqn hokn hokj hsmE hlE
            go_wp2_with fail
            refine HRk.out.mono ?_
            rintro er wk ⟨idsk, txk, rfl, hI, hT, hYA, hG⟩
            obtain ⟨aik, lik, cik, hei⟩ : ∃ a n c, idsk = .slice a n c := by obtain ⟨a, c, e⟩ := hI.shp; exact ⟨a, _, c, e⟩
            obtain ⟨atk, ltk, ctk, het⟩ : ∃ a n c, txk = .slice a n c := by obtain ⟨a, c, e⟩ := hT.shp; exact ⟨a, _, c, e⟩
            subst hei
            subst het
            obtain ⟨Wk, hW⟩ : ∃ W, W = wk.alloc (.cells #[.int .i64 0, .string ⟨#[]⟩, .int .i64 20, .slice aik lik cik, .slice atk ltk ctk, .slice none 0 0, .slice none 0 0] 35) := ⟨_, rfl⟩
            obtain ⟨Xk, hX⟩ : ∃ X, X = wk.heap.size := ⟨_, rfl⟩
            have HKk : Hid (KB9 w wy Wk Py (.slice sa 20 sc) (.slice a2 j c2) E (ySs S2 (aq 3 naB ⟨#[]⟩ 20)) bs (g2 + (aq 3 naB ⟨#[]⟩ 20).length) (LB E)) := by show KB9 _ _ _ _ _ _ _ _ _ _ _; rw [hW]; exact HKg.out.next HPl.out hYA (back_still HKg.out.q (by decide) (by decide) 20) hG _
            have hGW : Gs Py Wg Wk := by rw [hW]; exact hG.al _
            have HXk : Hid (RX wy Wk Xk 0 20 (.slice aik lik cik) (.slice atk ltk ctk) [nameB] []) := by show RX _ _ _ _ _ _ _ _ _; rw [hW, hX]; exact RX.new HKg.out.y.s hYA.s hI hT
            have HXp := hide (HXp.out.next hGW HPu.out)
            have HXg := hide (HXg.out.next hGW HPu.out)
            have HWk := hide hW
            have HXek := hide hX
            clear hI hT hYA hG hW hX hGW
            go_upto_region 22 with fail
            rw [← HWk.out, ← HXek.out]
            obtain ⟨S3, hS2⟩ : ∃ S9, S9 = ySs S2 (aq 3 naB ⟨#[]⟩ 20) := ⟨_, rfl⟩
            obtain ⟨g3, hg2⟩ : ∃ g9, g9 = g2 + (aq 3 naB ⟨#[]⟩ 20).length := ⟨_, rfl⟩
            have Hg3 : Hid (g3 ≤ 80) := by show g3 ≤ 80; have := Hg2.out; rw [hg2, aq_len]; omega
            rw [← hS2, ← hg2] at HKk
            clear hS2 hg2
            obtain ⟨hj1, hEl, hpqn, hokn, hokj, hsmE, hlE⟩ := HHH.out
            have hjob := deljob_any 20 nameB Wk
            rw [show okn 20 = true from rfl, show nst 20 = 20 from rfl] at hjob
            have HPd := hide hjob
            clear hjob
            clear hj1 hEl hpqn hokn hokj hsmE hlE
            go_wp2_with fail
            refine HPd.out.mono ?_
            rintro er wj ⟨bd, Pd, rfl, hJ, hBj, hP⟩
            obtain ⟨hj1, hEl, hpqn, hokn, hokj, hsmE, hlE⟩ := HHH.out
            have hbd := back_gone HKk.out.q (by omega) (by omega)
            have hR := HKk.out.y.run hBj hJ hP (by have := Hg3.out; rw [aq_len]; omega) (by have := Hg3.out; rw [aq_len]; omega) (aq_small 4 nameB 20 (by decide)) (by simp [noT]) (by simp [noT])
            have eC : dC true (yRs S3 (aq 4 nameB ⟨#[]⟩ 20)) = 0 := by rw [dC, if_pos rfl]; exact hbd.1
            have eN : gN (yRs S3 (aq 4 nameB ⟨#[]⟩ 20)) = (j : Int) := by rw [gN, hbd.2, ← hEl]
            rw [eC, eN, show noT (yRs S3 (aq 4 nameB ⟨#[]⟩ 20)) = [] from rfl] at hR
            clear hbd eC eN
            have HRd := hide hR
            clear hJ hBj hP hR
            clear hj1 hEl hpqn hokn hokj hsmE hlE
            go_wp2_with fail
            refine HRd.out.mono ?_
            rintro er wd ⟨idsd, txd, rfl, hI, hT, hYA, hG⟩
            obtain ⟨aid, lid, cid, hei⟩ : ∃ a n c, idsd = .slice a n c := by obtain ⟨a, c, e⟩ := hI.shp; exact ⟨a, _, c, e⟩
            obtain ⟨atd, ltd, ctd, het⟩ : ∃ a n c, txd = .slice a n c := by obtain ⟨a, c, e⟩ := hT.shp; exact ⟨a, _, c, e⟩
            subst hei
            subst het
            obtain ⟨Wd, hW⟩ : ∃ W, W = wd.alloc (.cells #[.int .i64 0, .string ⟨#[]⟩, .int .i64 (j : Int), .slice aid lid cid, .slice atd ltd ctd, .slice none 0 0, .slice none 0 0] 35) := ⟨_, rfl⟩
            obtain ⟨Xd, hX⟩ : ∃ X, X = wd.heap.size := ⟨_, rfl⟩
            have HKd : Hid (KB9 w wy Wd Py (.slice sa 20 sc) (.slice a2 j c2) E (ySs S3 (aq 4 nameB ⟨#[]⟩ 20)) bs (g3 + (aq 4 nameB ⟨#[]⟩ 20).length) (fun _ => [])) := by show KB9 _ _ _ _ _ _ _ _ _ _ _; rw [hW]; exact HKk.out.next HPl.out hYA (back_del HKk.out.q (LB_is E)) hG _
            have hGW : Gs Py Wk Wd := by rw [hW]; exact hG.al _
            have HXd : Hid (RX wy Wd Xd 0 (j : Int) (.slice aid lid cid) (.slice atd ltd ctd) [] []) := by show RX _ _ _ _ _ _ _ _ _; rw [hW, hX]; exact RX.new HKk.out.y.s hYA.s hI hT
            have HXp := hide (HXp.out.next hGW HPu.out)
            have HXg := hide (HXg.out.next hGW HPu.out)
            have HXk := hide (HXk.out.next hGW HPu.out)
            have HWd := hide hW
            have HXed := hide hX
            clear hI hT hYA hG hW hX hGW
            go_upto_region 23 with fail
            rw [← HWd.out, ← HXed.out]
            obtain ⟨S4, hS2⟩ : ∃ S9, S9 = ySs S3 (aq 4 nameB ⟨#[]⟩ 20) := ⟨_, rfl⟩
            obtain ⟨g4, hg2⟩ : ∃ g9, g9 = g3 + (aq 4 nameB ⟨#[]⟩ 20).length := ⟨_, rfl⟩
            have Hg4 : Hid (g4 ≤ 100) := by show g4 ≤ 100; have := Hg3.out; rw [hg2, aq_len]; omega
            rw [← hS2, ← hg2] at HKd
            clear hS2 hg2
            obtain ⟨hj1, hEl, hpqn, hokn, hokj, hsmE, hlE⟩ := HHH.out
            have hjob := deljob_any 20 nameB Wd
            rw [show okn 20 = true from rfl, show nst 20 = 20 from rfl] at hjob
            have HPe := hide hjob
            clear hjob
            clear hj1 hEl hpqn hokn hokj hsmE hlE
            go_wp2_with fail
            refine HPe.out.mono ?_
            rintro er wj ⟨be, Pe, rfl, hJ, hBj, hP⟩
            obtain ⟨hj1, hEl, hpqn, hokn, hokj, hsmE, hlE⟩ := HHH.out
            obtain ⟨ne, hne⟩ : ∃ ne, ne = gN (yRs S4 (aq 4 nameB ⟨#[]⟩ 20)) := ⟨_, rfl⟩
            have hR := HKd.out.y.run hBj hJ hP (by have := Hg4.out; rw [aq_len]; omega) (by have := Hg4.out; rw [aq_len]; omega) (aq_small 4 nameB 20 (by decide)) (by simp [noT]) (by simp [noT])
            have eC : dC true (yRs S4 (aq 4 nameB ⟨#[]⟩ 20)) = 5 := by rw [dC, if_pos rfl]; exact back_none HKd.out.q
            rw [eC, ← hne, show noT (yRs S4 (aq 4 nameB ⟨#[]⟩ 20)) = [] from rfl] at hR
            clear hne eC
            have HRe := hide hR
            clear hJ hBj hP hR
            clear hj1 hEl hpqn hokn hokj hsmE hlE
            go_wp2_with fail
            refine HRe.out.mono ?_
            rintro er we ⟨idse, txe, rfl, hI, hT, hYA, hG⟩
            obtain ⟨aie, lie, cie, hei⟩ : ∃ a n c, idse = .slice a n c := by obtain ⟨a, c, e⟩ := hI.shp; exact ⟨a, _, c, e⟩
            obtain ⟨ate, lte, cte, het⟩ : ∃ a n c, txe = .slice a n c := by obtain ⟨a, c, e⟩ := hT.shp; exact ⟨a, _, c, e⟩
            subst hei
            subst het
            obtain ⟨We, hW⟩ : ∃ W, W = we.alloc (.cells #[.int .i64 5, .string ⟨#[]⟩, .int .i64 ne, .slice aie lie cie, .slice ate lte cte, .slice none 0 0, .slice none 0 0] 35) := ⟨_, rfl⟩
            obtain ⟨Xe, hX⟩ : ∃ X, X = we.heap.size := ⟨_, rfl⟩
            have HKe : Hid (KB9 w wy We Py (.slice sa 20 sc) (.slice a2 j c2) E (ySs S4 (aq 4 nameB ⟨#[]⟩ 20)) bs (g4 + (aq 4 nameB ⟨#[]⟩ 20).length) (fun _ => [])) := by show KB9 _ _ _ _ _ _ _ _ _ _ _; rw [hW]; exact HKd.out.next HPl.out hYA (back_del HKd.out.q (fun i => .inl rfl)) hG _
            have hGW : Gs Py Wd We := by rw [hW]; exact hG.al _
            have HXe : Hid (RX wy We Xe 5 ne (.slice aie lie cie) (.slice ate lte cte) [] []) := by show RX _ _ _ _ _ _ _ _ _; rw [hW, hX]; exact RX.new HKd.out.y.s hYA.s hI hT
            have HXp := hide (HXp.out.next hGW HPu.out)
            have HXg := hide (HXg.out.next hGW HPu.out)
            have HXk := hide (HXk.out.next hGW HPu.out)
            have HXd := hide (HXd.out.next hGW HPu.out)
            have HWe := hide hW
            have HXee := hide hX
            clear hI hT hYA hG hW hX hGW
            go_upto_region 24 with fail
            rw [← HWe.out, ← HXee.out]
            obtain ⟨S5, hS2⟩ : ∃ S9, S9 = ySs S4 (aq 4 nameB ⟨#[]⟩ 20) := ⟨_, rfl⟩
            obtain ⟨g5, hg2⟩ : ∃ g9, g9 = g4 + (aq 4 nameB ⟨#[]⟩ 20).length := ⟨_, rfl⟩
            have Hg5 : Hid (g5 ≤ 120) := by show g5 ≤ 120; have := Hg4.out; rw [hg2, aq_len]; omega
            rw [← hS2, ← hg2] at HKe
            clear hS2 hg2
            obtain ⟨hj1, hEl, hpqn, hokn, hokj, hsmE, hlE⟩ := HHH.out
            have hjob := listsjob_any 20 ⟨#[]⟩ We
            rw [show okn 20 = true from rfl, show nst 20 = 20 from rfl] at hjob
            have HPm := hide hjob
            clear hjob
            clear hj1 hEl hpqn hokn hokj hsmE hlE
            go_wp2_with fail
            refine HPm.out.mono ?_
            rintro er wj ⟨bm, Pm, rfl, hJ, hBj, hP⟩
            obtain ⟨hj1, hEl, hpqn, hokn, hokj, hsmE, hlE⟩ := HHH.out
            have hbe := back_empty HKe.out.q ⟨#[]⟩
            obtain ⟨nm9, hnm9⟩ : ∃ ne, ne = gN (yRs S5 (aq 3 ⟨#[]⟩ ⟨#[]⟩ 20)) := ⟨_, rfl⟩
            obtain ⟨cm9, hcm9⟩ : ∃ ne, ne = gC true [] (yRs S5 (aq 3 ⟨#[]⟩ ⟨#[]⟩ 20)) := ⟨_, rfl⟩
            have hR := HKe.out.y.run hBj hJ hP (by have := Hg5.out; rw [aq_len]; omega) (by have := Hg5.out; rw [aq_len]; omega) (aq_small 3 ⟨#[]⟩ 20 (by decide)) (by rw [hbe]; decide) (by simp [noT])
            rw [← hcm9, ← hnm9, show noT (yRs S5 (aq 3 ⟨#[]⟩ ⟨#[]⟩ 20)) = [] from rfl, hbe] at hR
            clear hbe hnm9 hcm9
            have HRm := hide hR
            clear hJ hBj hP hR
            clear hj1 hEl hpqn hokn hokj hsmE hlE
            go_wp2_with fail
            refine HRm.out.mono ?_
            rintro er wm ⟨idsm, txm, rfl, hI, hT, hYA, hG⟩
            obtain ⟨aim, lim, cim, hei⟩ : ∃ a n c, idsm = .slice a n c := by obtain ⟨a, c, e⟩ := hI.shp; exact ⟨a, _, c, e⟩
            obtain ⟨atm, ltm, ctm, het⟩ : ∃ a n c, txm = .slice a n c := by obtain ⟨a, c, e⟩ := hT.shp; exact ⟨a, _, c, e⟩
            subst hei
            subst het
            obtain ⟨Wm, hW⟩ : ∃ W, W = wm.alloc (.cells #[.int .i64 cm9, .string ⟨#[]⟩, .int .i64 nm9, .slice aim lim cim, .slice atm ltm ctm, .slice none 0 0, .slice none 0 0] 35) := ⟨_, rfl⟩
            obtain ⟨Xm, hX⟩ : ∃ X, X = wm.heap.size := ⟨_, rfl⟩
            have HKm : Hid (KB9 w wy Wm Py (.slice sa 20 sc) (.slice a2 j c2) E (ySs S5 (aq 3 ⟨#[]⟩ ⟨#[]⟩ 20)) bs (g5 + (aq 3 ⟨#[]⟩ ⟨#[]⟩ 20).length) (fun _ => [])) := by show KB9 _ _ _ _ _ _ _ _ _ _ _; rw [hW]; exact HKe.out.next HPl.out hYA (back_still HKe.out.q (by decide) (by decide) 20) hG _
            have hGW : Gs Py We Wm := by rw [hW]; exact hG.al _
            have HXm : Hid (RX wy Wm Xm cm9 nm9 (.slice aim lim cim) (.slice atm ltm ctm) [] []) := by show RX _ _ _ _ _ _ _ _ _; rw [hW, hX]; exact RX.new HKe.out.y.s hYA.s hI hT
            have HXp := hide (HXp.out.next hGW HPu.out)
            have HXg := hide (HXg.out.next hGW HPu.out)
            have HXk := hide (HXk.out.next hGW HPu.out)
            have HXd := hide (HXd.out.next hGW HPu.out)
            have HXe := hide (HXe.out.next hGW HPu.out)
            have HWm := hide hW
            have HXem := hide hX
            clear hI hT hYA hG hW hX hGW
            have hW := HWm.out
            have hX := HXem.out
            subst hW
            subst hX
            clear HWm HXem
            have hlm : lim = 0 := by obtain ⟨a, c, e⟩ := HXm.out.i.shp; simpa using congrArg (fun v => match v with | Value.slice _ n _ => n | _ => 0) e
            subst hlm
            have y0 := (HXp.out.r.cell 0).trans (show _ = some (Value.int .i64 0) from rfl)
            have y2 := (HXp.out.r.cell 2).trans (show _ = some (Value.int .i64 (j : Int)) from rfl)
            have g0 := (HXg.out.r.cell 0).trans (show _ = some (Value.int .i64 0) from rfl)
            have g4 := (HXg.out.r.cell 4).trans (show _ = some (Value.slice atg ltg ctg) from rfl)
            have HS1 := hide (sameTexts_eq (HXg.out.t.ls (r := fun _ => True) fun _ _ => trivial).tr HKm.out.dl.tr (by have := HNE.out; omega))
            go_wp2_with fail
            refine HS1.out.mono ?_
            rintro er w8 ⟨rfl, hB8⟩
            have HXk8 := hide (HXk.out.bel hB8)
            have HXd8 := hide (HXd.out.bel hB8)
            have HXe8 := hide (HXe.out.bel hB8)
            have HXm8 := hide (HXm.out.bel hB8)
            have HBE8 := hide (HKm.out.be.trans (hB8.mono HKm.out.be.size))
            clear hB8 y0 y2 g0 g4 HS1
            have k3 := (HXk8.out.r.cell 3).trans (show _ = some (Value.slice aik lik cik) from rfl)
            obtain ⟨W9, hW9⟩ : ∃ W9, W9 = w8.alloc (.cells #[.string nameB] 9) := ⟨_, rfl⟩
            have hB9 : Below w8.heap.size w8 W9 := by rw [hW9]; exact (Below.refl _ _).alloc (Nat.le_refl _) _
            have hL9 : LS t1 1 (fun _ => True) W9 (.slice (some ⟨w8.heap.size, 0, none⟩) 1 1) [nameB] := by rw [hW9]; exact LS.one nameB 9 w8 t1 1 (fun _ => True) trivial
            have HS2 := hide (sameTexts_eq ((HXk8.out.bel hB9).i.ls (r := fun _ => True) fun _ _ => trivial).tr hL9.tr (by decide))
            have HXk9 := hide (HXk8.out.bel hB9)
            have HXd9 := hide (HXd8.out.bel hB9)
            have HXe9 := hide (HXe8.out.bel hB9)
            have HXm9 := hide (HXm8.out.bel hB9)
            have HBE9 := hide (HBE8.out.trans (hB9.mono HBE8.out.size))
            have HW9 := hide hW9
            clear hB9 hL9 hW9
            go_wp2_with fail
            have hW9 := HW9.out
            subst hW9
            refine HS2.out.mono ?_
            rintro er w10 ⟨rfl, hB10⟩
            have HXk10 := HXk9.out.bel hB10
            have HXd10 := HXd9.out.bel hB10
            have HXe10 := HXe9.out.bel hB10
            have HXm10 := HXm9.out.bel hB10
            have HBE10 := hide (HBE9.out.trans (hB10.mono HBE9.out.size))
            have k2 := (HXk10.r.cell 2).trans (show _ = some (Value.int .i64 20) from rfl)
            have d0 := (HXd10.r.cell 0).trans (show _ = some (Value.int .i64 0) from rfl)
            have d2 := (HXd10.r.cell 2).trans (show _ = some (Value.int .i64 (j : Int)) from rfl)
            have e0 := (HXe10.r.cell 0).trans (show _ = some (Value.int .i64 5) from rfl)
            have m3 := (HXm10.r.cell 3).trans (show _ = some (Value.slice aim 0 cim) from rfl)
            clear HXk10 HXd10 HXe10 HXm10 hB10 k3
            go_wp2
            go_ret
            exact ⟨rfl, HBE10.out⟩
end
end Go.Proofs.Ytiecoplfiahpnaa

namespace Go.Proofs.Ytiecoplfiahpnaa
open Go.ChangeShapes Go.WideShapes Go.ChangeAt Go.RowKit Go.Lib
theorem Try.own : ownKnob Try.prog.godebug = none := by kernel_rfl
theorem Try.laidOut : laidOutB Try.prog = true := by kernel_rfl
theorem Try.cI : Try.prog.cellsOf 3 = 1 := by kernel_rfl
theorem Try.bI : Try.prog.bytesOf 3 = 8 := by kernel_rfl
theorem ints_of {H : Type} {enc : TypeId × Value → H} {w : World} {a : Option Addr} {len cap : Nat} {d : DataW H} {ps : List MemPlace}
    (h : DataW.Trod enc Try.prog w 0 (fun _ => true) true 22 (.slice a len cap) d ps) : ∃ l : List Int, LS c1 1 (fun _ => True) w (.slice a len cap) l ∧ (l = [] ∨ ∃ elems spare, d = .slice elems spare ∧ l.length ≤ elems.length + spare.length) := by
  obtain ⟨fuel, hf⟩ := h
  rcases open_ints Try.underlying22 Try.underlying3 Try.cI hf with ⟨hcs, hy⟩ | ⟨x, l, c, zs, hcs, _, hlc, hcm, hz, hy, hcell, hwz⟩
  · simp [Value.cells] at hcs
    obtain ⟨rfl, rfl, rfl⟩ := hcs
    exact ⟨[], ⟨_, _, rfl, fun _ => rfl, .inl rfl⟩, .inl rfl⟩
  · simp [Value.cells] at hcs
    obtain ⟨rfl, rfl, rfl⟩ := hcs
    simp only [if_true] at hz
    by_cases h0 : len = 0
    · subst h0
      exact ⟨[], ⟨_, _, rfl, (fun e => by cases e), .inl rfl⟩, .inl rfl⟩
    have hlen : (zs.take len).length = len := by rw [List.length_take]; omega
    refine ⟨zs.take len, ⟨some x, cap, by rw [hlen], (fun e => by cases e), .inr ?_⟩, .inr ⟨_, _, by simpa using congrArg Prod.fst hy, ?_⟩⟩
    · obtain ⟨b, off, spot⟩ := x
      have hc := hcell 0 (by omega)
      have hspot : spot = none := by simpa [Addr.add] using World.cell?_spot hc
      subst hspot
      refine ⟨b, off, rfl, trivial, World.block_lt_of_cell? _ _ hc, fun i y hy j u hu => ?_⟩
      have hj : j = 0 := by
        have := (List.getElem?_eq_some_iff.1 hu).1
        rw [c1_len] at this; omega
      subst hj
      have hi : i < len := by have := (List.getElem?_eq_some_iff.1 hy).1; omega
      have hci := hcell i (by omega)
      rw [Addr.add_mid] at hci
      rw [List.getElem?_take, if_pos hi] at hy
      rw [Nat.mul_one, Nat.add_zero]
      have hu' : u = .int .i64 y := by simpa [c1] using hu.symm
      rw [hu']
      rw [hci, List.getD_eq_getElem?_getD, hy]
      rfl
    · simp [lits]
theorem Try.cS : Try.prog.cellsOf 9 = 1 := by kernel_rfl
set_option maxRecDepth 100000 in
theorem texts_of {H : Type} {enc : TypeId × Value → H} {w : World} {fuel : Nat} {v : Value} {y : DataW H × List MemPlace}
    (h : DataW.trod enc Try.prog w 0 (fun _ => true) true fuel 29 [v] = some y) : ∃ (a : Option Addr) (c : Nat) (ll : List ByteArray), v = .slice a ll.length c ∧ LS t1 1 (fun _ => True) w v ll ∧ ll.length ≤ c ∧ ll.length ≤ 9223372036854775807 ∧ (∀ x ∈ ll, x.size ≤ maxLen) ∧ (ll = [] ∨ ∃ elems spare, y.1 = .slice elems spare ∧ ll.length ≤ elems.length + spare.length) := by
  rcases Go.Deep.open_slice Try.underlying29 h with ⟨hcs, hy⟩ | ⟨x, len, c, m, n, D, Pl, hcs, _, hlc, hcm, hm, hy, hx⟩
  · simp at hcs
    subst hcs
    exact ⟨none, 0, [], rfl, ⟨_, _, rfl, fun _ => rfl, .inl rfl⟩, Nat.le_refl _, Nat.zero_le _, fun x hx => (by simp at hx), .inl rfl⟩
  · simp at hcs
    subst hcs
    simp only [if_true] at hm
    subst hm
    by_cases h0 : len = 0
    · subst h0
      exact ⟨some x, m, [], rfl, ⟨_, _, rfl, (fun e => by cases e), .inl rfl⟩, Nat.zero_le _, Nat.zero_le _, fun x hx => (by simp at hx), .inl rfl⟩
    have hall : ∀ i, i < len → ∃ s : ByteArray, w.cell? (x.add i) = some (.string s) ∧ s.size ≤ maxLen := by
      intro i hi
      obtain ⟨cs', h1, h2⟩ := hx i (by omega)
      rw [Try.cS] at h1
      obtain ⟨_, hlen, hcell⟩ := World.cells?_some h1
      match cs', hlen with
      | [v0], _ =>
        have e0 := hcell 0 (by omega)
        rw [Go.Deep.add_add] at e0
        obtain ⟨s, u, _, hs⟩ := DataW.trod_string Try.underlying9 h2
        simp only [List.cons.injEq, and_true] at u
        subst u
        exact ⟨s, by simpa using e0, hs⟩
    have : Inhabited ByteArray := ⟨⟨#[]⟩⟩
    obtain ⟨X, hX⟩ := Go.Deep.choose_lt hall
    obtain ⟨b, off, spot⟩ := x
    have hc := (hX 0 (by omega)).1
    have hspot : spot = none := by simpa [Addr.add] using World.cell?_spot hc
    subst hspot
    refine ⟨some ⟨b, off, none⟩, m, (List.range len).map X, by simp, ⟨some ⟨b, off, none⟩, m, by simp, (fun e => by cases e), .inr ⟨b, off, rfl, trivial, World.block_lt_of_cell? _ _ hc, fun i y hy' j u hu => ?_⟩⟩, by simpa using hlc, by simp [maxLen] at hcm; simp; omega, ?_, .inr ?_⟩
    · rw [List.getElem?_map] at hy'
      obtain ⟨k, hk, rfl⟩ := Option.map_eq_some_iff.1 hy'
      have hi : i < len := by
        have := (List.getElem?_eq_some_iff.1 hk).1
        simpa using this
      rw [List.getElem?_range hi] at hk
      cases hk
      have c0 := (hX i hi).1
      have hj : j = 0 := by
        have := (List.getElem?_eq_some_iff.1 hu).1
        rw [t1_len] at this; omega
      subst hj
      rw [Addr.add_mid] at c0
      rw [Nat.mul_one, Nat.add_zero, c0]
      simpa [t1] using hu
    · intro x hx
      obtain ⟨i, hi, rfl⟩ := List.mem_map.1 hx
      exact (hX i (List.mem_range.1 hi)).2
    · exact ⟨_, _, by rw [hy], by simp⟩
end Go.Proofs.Ytiecoplfiahpnaa

/-
  Lz: the statement LzSums, walked: over what the program's Pack, Sequences and Unpack answer.
-/
import Derived.Test.YtndjefjkfhcedaaLzLaw3
namespace Go.Proofs.Ytndjefjkfhcedaa
open Go.RowKit Go.Lib
section
variable {K : World → Prop} {pk : ByteArray → ByteArray}
set_option maxRecDepth 100000 in
set_option maxHeartbeats 6400000 in
theorem sums12 (hK : Kept K) (hF : PackF pk) (hU : UnpackC K) (hS : SeqsC K) (hP : PackC K pk) {w : World} (hk : K w) (s raw : ByteArray) (hs : s.size ≤ 4611686018427387904) (hr : raw.size ≤ 4611686018427387904) : Calls Try.prog 7 #[.string s, .string raw] w fun e w' => e = .returned (.bool true) ∧ Below w.heap.size w w' := by
  have HW := hide (works12 hU hk)
  by_cases h1 : 1000 < s.size
  · have c1 : (1000 : Int) < (s.size : Int) := by omega
    have c2 : decide ((1000 : Int) < (s.size : Int)) = true := by simpa using c1
    clear hU hP hK hS
    go_enter Try.func7, Try.ntmps7
    go_wp2_with fail
    refine HW.out.mono ?_
    rintro _ w2 ⟨rfl, hb⟩
    have HB2 := hide hb
    clear hb
    go_wp2
    go_ret
    exact ⟨rfl, HB2.out⟩
  have c1 : ¬ (1000 : Int) < (s.size : Int) := by omega
  have c2 : decide ((1000 : Int) < (s.size : Int)) = false := by simpa using c1
  by_cases h2 : 1000 < raw.size
  · have d1 : (1000 : Int) < (raw.size : Int) := by omega
    have d2 : decide ((1000 : Int) < (raw.size : Int)) = true := by simpa using d1
    clear hU hP hK hS
    go_enter Try.func7, Try.ntmps7
    go_wp2_with fail
    refine HW.out.mono ?_
    rintro _ w2 ⟨rfl, hb⟩
    have HB2 := hide hb
    clear hb
    go_wp2
    go_ret
    exact ⟨rfl, HB2.out⟩
  have d1 : ¬ (1000 : Int) < (raw.size : Int) := by omega
  have d2 : decide ((1000 : Int) < (raw.size : Int)) = false := by simpa using d1
  have HPK : Hid (∀ wx, Below w.heap.size w wx → Calls Try.prog 17 #[.string s] wx fun e w' => e = .returned (.tuple #[.string (pk s), .int .i64 0]) ∧ Below wx.heap.size wx w') := fun wx h => by
    have := hP wx s (hK _ _ hk h) (by omega) hs
    rw [pkV, if_pos (by omega)] at this
    exact this
  obtain ⟨lp, hlp, _⟩ := hF.back s (by omega)
  have hsz := hF.size s (by omega)
  obtain ⟨P, hPP⟩ : ∃ P, pk s = P := ⟨_, rfl⟩
  rw [hPP] at HPK hlp hsz
  have HU : Hid (∀ wx b m, b.size ≤ 4000 → Below w.heap.size w wx → Calls Try.prog 10 #[.string b, .int .i64 m] wx fun e w' => e = .returned (.tuple #[.string (upS b m), .int .i64 (upC b m)]) ∧ Below wx.heap.size wx w') := fun wx b m hb h => hU wx b m (hK _ _ hk h) hb
  have HS : Hid (∀ wx b, b.size ≤ 4000 → Below w.heap.size w wx → Calls Try.prog 12 #[.string b] wx fun e w' => ∃ v, e = .returned (.tuple #[v, .int .i64 (sqC b)]) ∧ OW sqc 3 35 wx.heap.size v (sqL b) w' ∧ Below wx.heap.size wx w') := fun wx b hb h => hS wx b (hK _ _ hk h) hb
  have HLP := hide (And.intro hlp (And.intro hsz h2))
  clear hU hP hK hS hF hPP hlp hsz h1 h2
  go_enter Try.func7, Try.ntmps7
  go_wp2_with fail
  refine HW.out.mono ?_
  rintro _ w2 ⟨rfl, hb2⟩
  have HB2 := hide hb2
  clear hb2
  go_wp2_with fail
  refine (HPK.out w2 HB2.out).mono ?_
  rintro _ w3 ⟨rfl, hb3⟩
  have HB3 := hide (below_step HB2.out hb3)
  clear hb3
  obtain ⟨w4, hw4⟩ : ∃ w4, w3.alloc (.cells #[.string P, .string raw] 9) = w4 := ⟨_, rfl⟩
  have hb4 : Below w3.heap.size w3 w4 := by rw [← hw4]; exact (Below.refl _ _).alloc (Nat.le_refl _) _
  have k4 : w4.heap[w3.heap.size]? = some (.cells #[.string P, .string raw] 9 (0, 0)) := by rw [← hw4]; exact heap_alloc_new w3 _
  have HB4 := hide (And.intro (below_step HB3.out hb4) k4)
  clear hb4 k4
  go_wp2
  go_loopw [37] (fun i wr => ∃ a : Nat, a ≤ 2 ∧ i = .int .i64 (a : Int) ∧ Below w4.heap.size w4 wr) (fun i _ => 2 - (Go.RowKit.intOf i).toNat)
  case atStart => exact ⟨0, by omega, rfl, Below.refl _ _⟩
  case round =>
    obtain ⟨a, ha, rfl, hb⟩ := hrel
    have HB5 := hide (And.intro hb (below_step HB4.out.1 hb))
    by_cases ha2 : a < 2
    · have hkr := (hb.block _ (lt_of_block HB4.out.2)).trans HB4.out.2
      obtain ⟨X, hX, hXz, hXe⟩ : ∃ X : ByteArray, wr.cell? ⟨w3.heap.size, a, none⟩ = some (.string X) ∧ X.size ≤ 1019 ∧ (X = P ∨ X = raw) := by
        have hp := HLP.out.2
        match a, ha2 with
        | 0, _ => exact ⟨P, by simp [World.cell?, hkr], by omega, .inl rfl⟩
        | 1, _ => exact ⟨raw, by simp [World.cell?, hkr], by omega, .inr rfl⟩
      have b0 : (0 : Int) ≤ (a : Int) := by omega
      have b1 : (a : Int) < 2 := by omega
      clear hb hkr
      have HSX := hide (HS.out wr X (by omega) HB5.out.2)
      rcases hp : ps X with _ | ⟨l, t⟩
      · have e2 : sqC X = 120 := by rw [sqC, hp]
        have hne : ¬ X = P := fun e => by rw [e, HLP.out.1] at hp; cases hp
        have t1 : (X.toList == P.toList) = false := by rw [test_eq]; exact decide_eq_false hne
        have t2 : ¬ X.toList = P.toList := fun e => by rw [e] at t1; simp at t1
        rw [e2] at HSX
        clear hp e2 hXe hne
        go_wp2_with fail
        refine HSX.out.mono ?_
        rintro _ w5 ⟨v5, rfl, hO5, hb5⟩
        obtain ⟨a5, c5, hv5⟩ := hO5.shp
        have HB6 := hide (below_step HB5.out.1 hb5)
        clear hO5 hb5
        subst hv5
        go_wp2
        exact ⟨⟨a + 1, by omega, by go_num, HB6.out⟩, by simp [Go.RowKit.intOf]; omega⟩
      · obtain ⟨v1, v2, v3, v4⟩ := ps_vs hp
        have ht : t ≤ 294491 := by omega
        have e1 : sqL X = l := by rw [sqL, hp]; exact if_pos (by omega)
        have e2 : sqC X = 0 := by rw [sqC, hp]; exact if_pos (by omega)
        obtain ⟨o1, o2⟩ := up_ok (s := X) (n := (t : Int)) (by omega) hp rfl
        obtain ⟨R, hR⟩ : ∃ R, opn l [] = R := ⟨_, rfl⟩
        rw [hR] at o1
        have HUX : Hid (∀ wx, Below w.heap.size w wx → Calls Try.prog 10 #[.string X, .int .i64 (t : Int)] wx fun e w' => e = .returned (.tuple #[.string ⟨R.toArray⟩, .int .i64 0]) ∧ Below wx.heap.size wx w') := fun wx h => by
          have := HU.out wx X (t : Int) (by omega) h
          rw [o1, o2] at this
          exact this
        rw [e1, e2] at HSX
        obtain ⟨N, hN⟩ : ∃ N, l.length = N := ⟨_, rfl⟩
        have hNl : N ≤ 1019 := by omega
        have HV := hide (And.intro v1 (And.intro hR hN))
        clear hp e1 e2 o1 o2 v1 v2 v3 v4 hR hN hXe
        go_wp2_with fail
        refine HSX.out.mono ?_
        rintro _ w5 ⟨v5, rfl, hO5, hb5⟩
        obtain ⟨a5, c5, hv5⟩ := hO5.shp
        rw [HV.out.2.2] at hv5
        have HB6 := hide (And.intro (below_step HB5.out.1 hb5) (And.intro (below_step HB5.out.2 hb5) hO5))
        clear hO5 hb5
        subst hv5
        go_wp2
        go_loopw [11, 53] (fun vo i wr => ∃ (O : List UInt8) (j : Nat), i = .int .i64 (j : Int) ∧ j ≤ N ∧ BO w5.heap.size vo O wr ∧ opn (l.drop j) O = R ∧ VS O.length (l.drop j) t ∧ Below w5.heap.size w5 wr) (fun _ i _ => N - (Go.RowKit.intOf i).toNat)
        case atStart => exact ⟨[], 0, rfl, Nat.zero_le _, OW.nil _ _ _ _ _, HV.out.2.1, HV.out.1, Below.refl _ _⟩
        case round =>
          obtain ⟨O, j, rfl, hj, hO, ho, hv, hb⟩ := hrel
          by_cases hlt : j < N
          · obtain ⟨q, hq⟩ : ∃ q, l[j]? = some q := ⟨_, List.getElem?_eq_getElem (by rw [HV.out.2.2]; exact hlt)⟩
            have hdr : l.drop j = q :: l.drop (j + 1) := by
              have hli := (List.getElem?_eq_some_iff.1 hq).1
              rw [List.drop_eq_getElem_cons hli]
              congr 1
              exact Option.some.inj ((List.getElem?_eq_getElem hli).symm.trans hq)
            rw [hdr] at ho hv
            rw [opn_cons] at ho
            obtain ⟨v1, v2, v3, v4⟩ := hv
            have hle := VS.le v4
            have hlast : l.drop (j + 1) = [] ↔ j + 1 = N := by
              rw [List.drop_eq_nil_iff, HV.out.2.2]
              omega
            rw [hlast] at v2 v3
            obtain ⟨g, d0, q1, r1, x0, x1, x2⟩ := (HB6.out.2.2.keep hb).sq hq
            simp only [Value.slice.injEq] at q1
            obtain ⟨rfl, -, rfl⟩ := q1
            obtain ⟨ao, co, hvo⟩ := hO.shp
            obtain ⟨T1, hT⟩ : ∃ T1, q.lit = T1 := ⟨_, rfl⟩
            obtain ⟨d, hd⟩ : ∃ d, q.dist = d := ⟨_, rfl⟩
            obtain ⟨m, hm⟩ : ∃ m, q.long = m := ⟨_, rfl⟩
            rw [hT] at x0 ho v1 v4 hle
            rw [hd] at x1 ho v1 v2
            rw [hm] at x2 ho v3 v4 hle
            obtain ⟨W1, hW1⟩ : ∃ W1, wr.alloc (.cells #[.string T1, .int .i64 (d : Int), .int .i64 (m : Int)] 35) = W1 := ⟨_, rfl⟩
            have hbW : Below wr.heap.size wr W1 := by rw [← hW1]; exact (Below.refl _ _).alloc (Nat.le_refl _) _
            have kW : W1.heap[wr.heap.size]? = some (.cells #[.string T1, .int .i64 (d : Int), .int .i64 (m : Int)] 35 (0, 0)) := by rw [← hW1]; exact heap_alloc_new wr _
            have hO1 := hO.keep hbW
            have hbw1 := below_step hb hbW
            obtain ⟨v', W2, hap, hO2, hg2⟩ := BO.text hO1 T1 (by omega) hbw1.size
            have hbw2 : Below w5.heap.size w5 W2 := hbw1.grown hg2 hbw1.size (fun i hi => (hO1.lt i hi).1)
            have kW2 : W2.heap[wr.heap.size]? = some (.cells #[.string T1, .int .i64 (d : Int), .int .i64 (m : Int)] 35 (0, 0)) := (hg2.block _ (lt_of_block kW) (fun e => absurd (hO.lt _ e.symm).2 (Nat.lt_irrefl _))).trans kW
            obtain ⟨Z, hZ⟩ : ∃ Z, O.length + T1.size = Z := ⟨_, rfl⟩
            have hlo : (O ++ T1.data.toList).length = Z := by rw [List.length_append, ← hZ]; simp
            obtain ⟨ao2, co2, hvo2⟩ := hO2.shp
            rw [hlo] at hvo2
            rw [hZ] at v1 v4 hle
            have y0 : W1.cell? ⟨wr.heap.size, 0, none⟩ = some (.string T1) := by simp [World.cell?, kW]
            have z1 : W2.cell? ⟨wr.heap.size, 1, none⟩ = some (.int .i64 (d : Int)) := by simp [World.cell?, kW2]
            have z2 : W2.cell? ⟨wr.heap.size, 2, none⟩ = some (.int .i64 (m : Int)) := by simp [World.cell?, kW2]
            have HE := hide (And.intro ho (And.intro v4 (And.intro hO2 (And.intro hbw2 (And.intro kW2 (And.intro hlo (And.intro hle hb)))))))
            have hZt : Z + m ≤ 294491 := by omega
            have b2 : (0 : Int) ≤ (j : Int) := by omega
            have b3 : (j : Int) < (N : Int) := by omega
            have b4 : IntKind.i64.wrap ((N : Int) - 1) = (N : Int) - 1 := by rw [IntKind.wrap_i64]; omega
            have HW1 := hide hW1
            clear hW1 hq hdr ho v4 hO hO1 hO2 hb hbW hbw1 hbw2 hg2 kW kW2 hlo hlast hle hT hd hm hZ r1
            subst hvo hvo2
            go_upto_region 19 with fail
            rw [HW1.out]
            clear HW1
            have e4 : ¬ (d : Int) < 0 := by omega
            have e4' : decide ((d : Int) < 0) = false := by simp
            have e5 : ¬ (Z : Int) < (d : Int) := by omega
            have e5' : decide ((Z : Int) < (d : Int)) = false := by simpa using e5
            obtain ⟨tt, q1, q2, q3⟩ : ∃ tt : Bool, ((d : Int) == 0) = tt ∧ ((j : Int) == (N : Int) - 1) = tt ∧ ((m : Int) == 0) = tt := by
              by_cases hjl : j + 1 = N
              · refine ⟨true, ?_, ?_, ?_⟩
                · rw [v2.2 hjl]; rfl
                · rw [beq_iff_eq]; omega
                · rw [v3.2 hjl]; rfl
              · refine ⟨false, ?_, ?_, ?_⟩
                · rw [beq_eq_false_iff_ne]; intro e; exact hjl (v2.1 (by omega))
                · rw [beq_eq_false_iff_ne]; omega
                · rw [beq_eq_false_iff_ne]; intro e; exact hjl (v3.1 (by omega))
            have hdm : m = 0 ∨ 0 < d := by
              by_cases h0 : m = 0
              · exact .inl h0
              · right
                apply Nat.pos_of_ne_zero
                intro e
                exact h0 (v3.2 (v2.1 e))
            clear v2 v3
            by_cases hbig : 131072 < m
            · have e6 : (131072 : Int) < (m : Int) := by omega
              have e6' : decide ((131072 : Int) < (m : Int)) = true := by simpa using e6
              have HX := hide (below_step HB6.out.2.1 HE.out.2.2.2.1)
              go_wp2_with (at_builtin; refine Lib.wpList_append_run _ rfl _ _ _ _ rfl _ _ rfl rfl _ _ hap ?_)
              go_ret
              exact ⟨rfl, HX.out⟩
            · have e6 : ¬ (131072 : Int) < (m : Int) := by omega
              have e6' : decide ((131072 : Int) < (m : Int)) = false := by simpa using e6
              go_wp2_with (at_builtin; refine Lib.wpList_append_run _ rfl _ _ _ _ rfl _ _ rfl rfl _ _ hap ?_)
              obtain ⟨qb, hqb⟩ : ∃ qb, wr.heap.size = qb := ⟨_, rfl⟩
              obtain ⟨Pp, hPp⟩ : ∃ Pp, rp d m (O ++ T1.data.toList) = Pp := ⟨_, rfl⟩
              have hkb := HE.out.2.2.2.2.1
              rw [hqb] at hkb
              rw [hqb]
              have HQ := hide (And.intro hkb hPp)
              clear hkb hPp hap x0 x1 x2 y0 z1 z2
              go_loopw [11, 102] (fun vo i wr => ∃ (O2 : List UInt8) (k : Nat), i = .int .i64 (k : Int) ∧ k ≤ m ∧ BO w5.heap.size vo O2 wr ∧ O2.length = Z + k ∧ rp d (m - k) O2 = Pp ∧ wr.heap[qb]? = some (.cells #[.string T1, .int .i64 (d : Int), .int .i64 (m : Int)] 35 (0, 0)) ∧ Below w5.heap.size w5 wr) (fun _ i _ => m - (Go.RowKit.intOf i).toNat)
              case atStart => exact ⟨_, 0, rfl, Nat.zero_le _, HE.out.2.2.1, HE.out.2.2.2.2.2.1, HQ.out.2, HQ.out.1, HE.out.2.2.2.1⟩
              case round =>
                obtain ⟨O2, k, rfl, hk2, hOb, hl2, hrp, hkb, hb2⟩ := hrel
                have y1 : wr.cell? ⟨qb, 1, none⟩ = some (.int .i64 (d : Int)) := by simp [World.cell?, hkb]
                by_cases hkm : k < m
                · obtain ⟨ix, hix⟩ : ∃ ix, O2.length - d = ix := ⟨_, rfl⟩
                  obtain ⟨g2, c2', hv2, hcj⟩ := BO.cell hOb (j := ix) (by omega)
                  obtain ⟨bb, hbb⟩ : ∃ bb, O2.getD ix 0 = bb := ⟨_, rfl⟩
                  rw [hbb] at hcj
                  obtain ⟨v2', w8, hap2, hO3, hg3⟩ := BO.one hOb bb (by omega) hb2.size
                  have hal : Below wr.heap.size wr (wr.alloc (.cells #[.int .u8 (bb.toNat : Int)] 5)) := (Below.refl _ _).alloc (Nat.le_refl _) _
                  have hb3 : Below w5.heap.size w5 w8 := (below_step hb2 hal).grown hg3 (by simp; have := hb2.size; omega) (fun i hi => (hOb.lt i hi).1)
                  have hkb3 : w8.heap[qb]? = some (.cells #[.string T1, .int .i64 (d : Int), .int .i64 (m : Int)] 35 (0, 0)) := (hg3.block _ (Nat.lt_of_lt_of_le (lt_of_block hkb) hal.size) (fun e => by
                    obtain ⟨cs, hcs⟩ := hOb.typ _ e.symm
                    rw [hkb] at hcs
                    simp at hcs)).trans ((hal.block _ (lt_of_block hkb)).trans hkb)
                  obtain ⟨mk, hmk⟩ : ∃ mk, m - k = mk + 1 := ⟨m - k - 1, by omega⟩
                  have hrp3 : rp d (m - (k + 1)) (O2 ++ [bb]) = Pp := by
                    rw [hmk, rp, hix, hbb] at hrp
                    rw [show m - (k + 1) = mk by omega]
                    exact hrp
                  obtain ⟨l2, hl2'⟩ : ∃ l2, O2.length = l2 := ⟨_, rfl⟩
                  have HF := hide (And.intro hO3 (And.intro hrp3 (And.intro hb3 (And.intro hkb3 (show (O2 ++ [bb]).length = Z + (k + 1) by rw [List.length_append, hl2]; rfl)))))
                  rw [hl2'] at hv2
                  subst hv2
                  have f1 : (l2 : Int) - (d : Int) = (ix : Int) := by omega
                  have f2 : IntKind.i64.wrap (ix : Int) = (ix : Int) := by rw [IntKind.wrap_i64]; omega
                  have f3 : (0 : Int) ≤ (ix : Int) := by omega
                  have f4 : (ix : Int) < (l2 : Int) := by omega
                  have f5 : (k : Int) < (m : Int) := by omega
                  clear hOb hO3 hg3 hb3 hrp hrp3 hmk hbb hb2 hix hl2 hl2' hkb hkb3 hal
                  go_wp2_with (at_builtin; refine Lib.wpList_append_run _ rfl _ _ _ _ rfl _ _ rfl rfl _ _ hap2 ?_)
                  exact ⟨⟨_, k + 1, by go_num, by omega, HF.out.1, HF.out.2.2.2.2, HF.out.2.1, HF.out.2.2.2.1, HF.out.2.2.1⟩, by simp [Go.RowKit.intOf]; omega⟩
                · obtain rfl : k = m := by omega
                  rw [Nat.sub_self] at hrp
                  have hrp' : O2 = Pp := hrp
                  obtain ⟨ao3, co3, hvo3⟩ := hOb.shp
                  obtain ⟨l2, hl2'⟩ : ∃ l2, O2.length = l2 := ⟨_, rfl⟩
                  rw [hl2'] at hvo3
                  have HF := hide (And.intro hOb (And.intro hl2 (And.intro hrp' (And.intro hl2' hb2))))
                  clear hOb hl2 hrp hrp' hb2 hkb hl2'
                  subst hvo3
                  by_cases hlong : 131072 < l2
                  · have f1 : (131072 : Int) < (l2 : Int) := by omega
                    have HX := hide (below_step HB6.out.2.1 HF.out.2.2.2.2)
                    go_wp2
                    go_ret
                    exact ⟨rfl, HX.out⟩
                  · have f1 : ¬ (131072 : Int) < (l2 : Int) := by omega
                    go_wp2
                    exact ⟨⟨O2, j + 1, by go_num, by omega, HF.out.1, by rw [HF.out.2.2.1, ← HQ.out.2]; exact HE.out.1, by rw [HF.out.2.1]; exact HE.out.2.1, HF.out.2.2.2.2⟩, by simp [Go.RowKit.intOf]; omega⟩
          · obtain rfl : j = N := by omega
            rw [List.drop_eq_nil_of_le (by rw [HV.out.2.2]; exact Nat.le_refl _)] at ho hv
            have ho' : O = R := ho
            have hv' : t = O.length := hv
            subst ho'
            have hcv := hO.str
            obtain ⟨ao, co, hvo⟩ := hO.shp
            rw [← hv'] at hvo
            have HB7 := hide (And.intro hb (below_step HB6.out.2.1 hb))
            have hO2 := hO
            clear ho hv hv' hb hO
            subst hvo
            have HOB := hide hO2
            clear hO2
            go_wp2_with fail
            refine (HUX.out wr HB7.out.2).mono ?_
            rintro _ w7 ⟨rfl, hb7⟩
            have hcv7 := BO.str (HOB.out.keep hb7)
            have HB8 := hide (below_step HB6.out.1 (below_step HB7.out.1 hb7))
            clear hb7 hcv
            go_wp2
            exact ⟨⟨a + 1, by omega, by go_num, HB8.out⟩, by simp [Go.RowKit.intOf]; omega⟩
    · obtain rfl : a = 2 := by omega
      clear hb
      go_wp2
      go_ret
      exact ⟨rfl, HB5.out.2⟩
end
end Go.Proofs.Ytndjefjkfhcedaa

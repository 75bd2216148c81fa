/-
  PortTurns: the walk.
-/
import Derived.Test.YtepmhgkegfpmjaaPrPair
namespace Go.Proofs.Ytepmhgkegfpmjaa
open Go.RowKit Go.Lib Go.Maps
def b1c (x : Bool) : List Value := [.bool x]
section
variable {w : World} {va vb vt : Value} {la lb : List QT} {ts : List Bool} {r : Nat → Prop}
set_option maxRecDepth 100000 in
set_option maxHeartbeats 6400000 in
theorem turns_walk (ha : LS q4 4 r w va la) (hb : LS q4 4 r w vb lb) (ht : LS b1c 1 r w vt ts) (hna : la.length ≤ 9223372036854775807) (hnb : lb.length ≤ 9223372036854775807) (hsa : ∀ q ∈ la, q.n.size ≤ maxLen ∧ q.d.size ≤ maxLen) (hsb : ∀ q ∈ lb, q.n.size ≤ maxLen ∧ q.d.size ≤ maxLen) :
    Calls Try.prog 5 #[va, vb, vt] w fun e w' => e = .returned (.bool true) ∧ Below w.heap.size w w' := by
  have HW := hide (works_port w)
  have HA := hide ha
  have HB := hide hb
  have HT := hide ht
  have HSA := hide hsa
  have HSB := hide hsb
  obtain ⟨aa, ca, hva⟩ := ha.shp
  obtain ⟨ab, cb, hvb⟩ := hb.shp
  obtain ⟨at_, ct, hvt⟩ := ht.shp
  subst hva
  subst hvb
  subst hvt
  clear ha hb ht hsa hsb
  go_enter Try.func5, Try.ntmps5
  go_wp2_with fail
  refine HW.out.mono ?_
  rintro e w1 ⟨rfl, hB1⟩
  have HB1 := hide hB1
  clear hB1
  by_cases hla : (40 : Int) < ((la.length : Nat) : Int)
  · go_wp2
    go_ret
    exact ⟨rfl, HB1.out⟩
  by_cases hlb : (40 : Int) < ((lb.length : Nat) : Int)
  · go_wp2
    go_ret
    exact ⟨rfl, HB1.out⟩
  obtain ⟨n1, hn1⟩ : ∃ n1, n1 = w1.heap.size := ⟨_, rfl⟩
  obtain ⟨W2, hW2⟩ : ∃ W2, W2 = w1.alloc (.cells #[.slice aa la.length ca, .slice ab lb.length cb] 22) := ⟨_, rfl⟩
  have hB2 : Below w1.heap.size w1 W2 := by rw [hW2]; exact (Below.refl _ _).alloc (Nat.le_refl _) _
  have hblk : W2.heap[n1]? = some (.cells #[.slice aa la.length ca, .slice ab lb.length cb] 22 (0, 0)) := by rw [hW2, hn1]; exact heap_alloc_new w1 _
  have hBw2 : Below w.heap.size w W2 := HB1.out.trans (hB2.mono HB1.out.size)
  have HC : Hid (∀ wr n, n < 2 → Below W2.heap.size W2 wr → ∃ a c l, wr.cell? ⟨n1, n, none⟩ = some (.slice a l.length c) ∧ LS q4 4 r wr (.slice a l.length c) l ∧ l.length ≤ 40) := fun wr n hn hb => by
    have hk := (hb.block n1 (lt_of_block hblk)).trans hblk
    have hbw : Below w.heap.size w wr := hBw2.trans (hb.mono hBw2.size)
    match n, hn with
    | 0, _ => exact ⟨aa, ca, la, by simp [World.cell?, hk], HA.out.bel hbw, by omega⟩
    | 1, _ => exact ⟨ab, cb, lb, by simp [World.cell?, hk], HB.out.bel hbw, by omega⟩
  have HW2 := hide hW2
  have Hn1 := hide hn1
  have HBW2 := hide hBw2
  clear hB2 hblk hW2 hn1 hBw2
  go_upto_block 0 with fail
  rw [← HW2.out, ← Hn1.out]
  go_cut [43] (fun _ wx => Below W2.heap.size W2 wx)
  case first =>
    go_wp2
    go_loopw [43] (fun i wr => ∃ n : Nat, n ≤ 2 ∧ i = .int .i64 n ∧ Below W2.heap.size W2 wr) (fun i _ => 2 - (intOf i).toNat)
    case atStart => exact ⟨0, by omega, rfl, Below.refl _ _⟩
    case round =>
      obtain ⟨n, hn2, rfl, hbe⟩ := hrel
      by_cases hlt : n < 2
      · have b1 : (n : Int) < 2 := by omega
        have b0 : (0 : Int) ≤ (n : Int) := by omega
        obtain ⟨xa, xc, l, hc, hL, hl40⟩ := HC.out wr n hlt hbe
        have HL := hide hL
        have HBE := hide hbe
        clear hL hbe
        obtain ⟨ln, hln⟩ : ∃ ln, ln = l.length := ⟨_, rfl⟩
        have HLN := hide hln
        rw [← hln] at hc HL hl40
        clear hln
        obtain ⟨wo, hwo⟩ : ∃ wo, wo = wr := ⟨_, rfl⟩
        rw [← hwo] at hc HL HBE ⊢
        clear hwo
        go_wp2
        go_loopw [49] (fun i wr2 => ∃ m : Nat, m ≤ ln ∧ i = .int .i64 m ∧ Below wo.heap.size wo wr2) (fun i _ => ln - (intOf i).toNat)
        case atStart => exact ⟨0, Nat.zero_le _, rfl, Below.refl _ _⟩
        case round =>
          obtain ⟨m, hm2, rfl, hbe⟩ := hrel
          by_cases hlm : m < ln
          · have c1 : (m : Int) < (ln : Int) := by omega
            have c0 : (0 : Int) ≤ (m : Int) := by omega
            obtain ⟨q, hq⟩ : ∃ q, l[m]? = some q := ⟨_, List.getElem?_eq_getElem (by rw [← HLN.out]; exact hlm)⟩
            obtain ⟨ga, gc, ea, _, hG⟩ := HL.out.bel hbe
            simp only [Value.slice.injEq] at ea
            obtain ⟨rfl, hxx, rfl⟩ := ea
            clear hxx
            obtain ⟨g, o, rfl, _, hg, hG⟩ := hG.resolve_left (by intro e; rw [e] at hq; simp at hq)
            have z0 := hG m q hq 0 _ rfl
            have z1 := hG m q hq 1 _ rfl
            have z2 := hG m q hq 2 _ rfl
            have z3 := hG m q hq 3 _ rfl
            rw [Nat.add_zero] at z0
            obtain ⟨qs, qk, qn, qd⟩ := q
            dsimp only at z0 z1 z2 z3
            have HBE2 := hide hbe
            clear hG hq hg hbe
            by_cases h5 : (500 : Int) < (qd.size : Int)
            · have HE : Hid (Below w.heap.size w (wr.alloc (.cells #[.int .i64 qs, .int .i64 qk, .string qn, .string qd] 38))) := by
                have h1 := HBW2.out
                have h2 := HBE.out
                have h3 := HBE2.out
                have h4 : Below w.heap.size w wr := (h1.trans (h2.mono h1.size)).trans (h3.mono (by have := h1.size; have := h2.size; omega))
                exact h4.alloc h4.size _
              go_wp2
              go_ret
              exact ⟨rfl, HE.out⟩
            · have HE : Hid (Below wo.heap.size wo (wr.alloc (.cells #[.int .i64 qs, .int .i64 qk, .string qn, .string qd] 38))) := HBE2.out.alloc HBE2.out.size _
              go_wp2
              exact ⟨⟨m + 1, by omega, by go_num, HE.out⟩, by simp [intOf]; omega⟩
          · obtain rfl : m = ln := by omega
            have HE : Hid (Below W2.heap.size W2 wr) := HBE.out.trans (hbe.mono HBE.out.size)
            clear hbe
            go_wp2
            exact ⟨⟨n + 1, by omega, by go_num, HE.out⟩, by simp [intOf]; omega⟩
      · obtain rfl : n = 2 := by omega
        have HE := hide hbe
        clear hbe
        go_wp2
        go_meet
        case rel => exact HE.out
  case rest =>
    obtain ⟨W3, hW3⟩ : ∃ W3, W3 = wc := ⟨_, rfl⟩
    rw [← hW3] at hcut ⊢
    have HB3 : Hid (Below w.heap.size w W3) := HBW2.out.trans (hcut.mono HBW2.out.size)
    clear hcut hW3 HC HW2 Hn1 HBW2
    have HO1 := hide (both_bo W3)
    go_wp2_with fail
    refine HO1.out.mono ?_
    rintro e w4 ⟨v1, r1, bs1, rs1, rfl, hO1, hl1, _⟩
    have HO2 := hide (both_bo w4)
    have HF1 := hide (And.intro hO1 hl1)
    clear hO1 hl1
    go_wp2_with fail
    refine HO2.out.mono ?_
    rintro e w5 ⟨v2, r2, bs2, rs2, rfl, hO2, hl2, _⟩
    have HO3 := hide (both_bo w5)
    have HF2 := hide (And.intro hO2 hl2)
    clear hO2 hl2
    go_wp2_with fail
    refine HO3.out.mono ?_
    rintro e w6 ⟨v3, r3, bs3, rs3, rfl, hO3, hl3, _⟩
    have hB6 : Below w.heap.size w w6 := by
      have h1 := HB3.out
      have h2 := HF1.out.1.be
      have h3 := HF2.out.1.be
      have h4 := hO3.be
      have s1 := h1.size
      have s2 := h2.size
      have s3 := h3.size
      exact ((h1.trans (h2.mono s1)).trans (h3.mono (by omega))).trans (h4.mono (by omega))
    have HL1 := hide (list_any (HA.out.bel hB6) (by omega))
    have HF3 := hide (And.intro hO3 (And.intro hl3 hB6))
    clear hO3 hl3 hB6
    go_wp2_with fail
    refine HL1.out.mono ?_
    rintro e w7 ⟨xb, Px, rfl, hJ7, hB7, hP7⟩
    have HL2 := hide (list_any (HB.out.bel (HF3.out.2.2.trans (hB7.mono HF3.out.2.2.size))) (by omega))
    have HF7 := hide (And.intro hJ7 (And.intro hB7 hP7))
    clear hJ7 hB7 hP7
    go_wp2_with fail
    refine HL2.out.mono ?_
    rintro e w8 ⟨yb, Py, rfl, hJ8, hB8, hP8⟩
    have hB68 : Below w.heap.size w w8 := (HF3.out.2.2.trans (HF7.out.2.1.mono HF3.out.2.2.size)).trans (hB8.mono (by have := HF3.out.2.2.size; have := HF7.out.2.1.size; omega))
    have HL3 := hide (list_any (HA.out.bel hB68) (by omega))
    have HF8 := hide (And.intro hJ8 (And.intro hB8 (And.intro hP8 hB68)))
    clear hJ8 hB8 hP8 hB68
    go_wp2_with fail
    refine HL3.out.mono ?_
    rintro e w9 ⟨zb, Pz, rfl, hJ9, hB9, hP9⟩
    have HTU : Hid (TU w w9 la lb 0 0 0 xb yb zb Px Py Pz (Ps bs1 v1) (Ps bs2 v2) (Ps bs3 v3) v1 v2 v3 bs1 bs2 bs3) := by
      obtain ⟨hO1, hl1⟩ := HF1.out
      obtain ⟨hO2, hl2⟩ := HF2.out
      obtain ⟨hO3, hl3, hB6⟩ := HF3.out
      obtain ⟨hJ7, hB7, hP7⟩ := HF7.out
      obtain ⟨hJ8, hB8, hP8, hB68⟩ := HF8.out
      have s3 := HB3.out.size
      have s4 := hO1.be.size
      have s5 := hO2.be.size
      have s6 := hO3.be.size
      have s7 := hB7.size
      have s8 := hB8.size
      have s9 := hB9.size
      have q1 : ∀ i, Ps bs1 v1 i → W3.heap.size ≤ i ∧ i < w4.heap.size := fun i hi => hO1.ps hi
      have q2 : ∀ i, Ps bs2 v2 i → w4.heap.size ≤ i ∧ i < w5.heap.size := fun i hi => hO2.ps hi
      have q3 : ∀ i, Ps bs3 v3 i → w5.heap.size ≤ i ∧ i < w6.heap.size := fun i hi => hO3.ps hi
      have p7 := hJ7.2.1
      have p8 := hJ8.2.1
      have p9 := hJ9.2.1
      have hYP1 : YP (Ps bs1 v1) w9 v1 S3 bs1 := (((((hO1.yp hl1).bel hO2.be).bel hO3.be).bel hB7).bel hB8).bel hB9
      have hYP2 : YP (Ps bs2 v2) w9 v2 S3 bs2 := ((((hO2.yp hl2).bel hO3.be).bel hB7).bel hB8).bel hB9
      have hYP3 : YP (Ps bs3 v3) w9 v3 S3 bs3 := (((hO3.yp hl3).bel hB7).bel hB8).bel hB9
      refine ⟨⟨(hJ7.bel hB8).bel hB9, hYP1, fun i h1 h2 => ?_, fun i h => ?_, fun i h => ?_, Nat.zero_le _, by omega⟩, ⟨hJ8.bel hB9, hYP2, fun i h1 h2 => ?_, fun i h => ?_, fun i h => ?_, Nat.zero_le _, by omega⟩, ⟨hJ9, hYP3, fun i h1 h2 => ?_, fun i h => ?_, fun i h => ?_, Nat.zero_le _, by omega⟩, fun i h1 h2 => ?_, fun i h1 h2 => ?_, fun i h1 h2 => ?_, hB68.trans (hB9.mono (by omega))⟩
      · have := hP7 i h1; have := q1 i h2; omega
      · have := q1 i h; omega
      · rcases h with h | h
        · have := hP7 i h; omega
        · have := q1 i h; omega
      · have := hP8 i h1; have := q2 i h2; omega
      · have := q2 i h; omega
      · rcases h with h | h
        · have := hP8 i h; omega
        · have := q2 i h; omega
      · have := hP9 i h1; have := q3 i h2; omega
      · have := q3 i h; omega
      · rcases h with h | h
        · have := hP9 i h; omega
        · have := q3 i h; omega
      · rcases h1 with h1 | h1 <;> rcases h2 with h2 | h2
        · have := p7 i h1; have := hP8 i h2; omega
        · have := hP7 i h1; have := q2 i h2; omega
        · have := q1 i h1; have := hP8 i h2; omega
        · have := q1 i h1; have := q2 i h2; omega
      · rcases h1 with h1 | h1 <;> rcases h2 with h2 | h2
        · have := p7 i h1; have := hP9 i h2; omega
        · have := hP7 i h1; have := q3 i h2; omega
        · have := q1 i h1; have := hP9 i h2; omega
        · have := q1 i h1; have := q3 i h2; omega
      · rcases h1 with h1 | h1 <;> rcases h2 with h2 | h2
        · have := p8 i h1; have := hP9 i h2; omega
        · have := hP8 i h1; have := q3 i h2; omega
        · have := q2 i h1; have := hP9 i h2; omega
        · have := q2 i h1; have := q3 i h2; omega
    have HLA : Hid (la.length ≤ 100 ∧ lb.length ≤ 100) := by show la.length ≤ 100 ∧ lb.length ≤ 100; omega
    have HRZ := hide (HTU.out.z.run HLA.out.1 HSA.out 1000 (by decide))
    clear hJ9 hB9 hP9
    go_wp2_with fail
    refine HRZ.out.mono ?_
    rintro e w10 ⟨t, Pz', ht, rfl, hZ, hGZ, hPZ⟩
    have hta : t = la.length := by have := HLA.out; simp at ht; omega
    subst hta
    have hcd : (if 0 + la.length < la.length then (2 : Int) else 0) = 0 := if_neg (by omega)
    rw [hcd]
    rw [Nat.zero_add] at hZ
    have HTU2 := hide (HTU.out.goZ hZ hGZ hPZ)
    clear hcd ht hZ hGZ hPZ HTU HF1 HF2 HF3 HF7 HF8 HO1 HO2 HO3 HL1 HL2 HL3 HRZ
    go_wp2
    go_loopw [22] (fun i wr => ∃ (nx ny : Nat) (Px2 Py2 : Nat → Prop), i = .int .i64 ((nx + ny : Nat) : Int) ∧ TU w wr la lb nx ny la.length xb yb zb Px2 Py2 Pz' (Ps bs1 v1) (Ps bs2 v2) (Ps bs3 v3) v1 v2 v3 bs1 bs2 bs3) (fun i _ => 200 - (intOf i).toNat)
    case atStart => exact ⟨0, 0, Px, Py, rfl, HTU2.out⟩
    case round =>
      clear HTU2
      obtain ⟨nx, ny, Px2, Py2, rfl, hI⟩ := hrel
      have hOX := over_list hI.x.jl
      have hOY := over_list hI.y.jl
      rw [hI.x.len] at hOX
      rw [hI.y.len] at hOY
      have hnx := hI.x.nl
      have hny := hI.y.nl
      have HNL : Hid (nx ≤ la.length ∧ ny ≤ lb.length ∧ la.length ≤ 40 ∧ lb.length ≤ 40) := by show nx ≤ la.length ∧ ny ≤ lb.length ∧ la.length ≤ 40 ∧ lb.length ≤ 40; omega
      have HI := hide hI
      clear hI
      obtain ⟨wo, hwo⟩ : ∃ wo, wo = wr := ⟨_, rfl⟩
      rw [← hwo] at hOX hOY HI ⊢
      clear hwo
      obtain ⟨ni, hni⟩ : ∃ ni, ni = nx + ny := ⟨_, rfl⟩
      rw [← hni]
      have hni80 : ni ≤ 80 := by omega
      have HNI := hide hni
      clear hni
      by_cases hov : nx = la.length ∧ ny = lb.length
      · obtain ⟨hx1, hy1⟩ := hov
        rw [decide_eq_false (by omega)] at hOX hOY
        have HOX := hide hOX
        have HOY := hide hOY
        have HX1 := hide (And.intro hx1 hy1)
        clear hOX hOY hnx hny hx1 hy1
        go_wp2_with fail
        refine HOX.out.mono ?_
        rintro e w11 ⟨rfl, rfl⟩
        go_wp2_with fail
        refine HOY.out.mono ?_
        rintro e w12 ⟨rfl, rfl⟩
        have hI : TU w w12 la lb la.length lb.length la.length xb yb zb Px2 Py2 Pz' (Ps bs1 v1) (Ps bs2 v2) (Ps bs3 v3) v1 v2 v3 bs1 bs2 bs3 := by
          have h1 := HI.out
          rw [HX1.out.1, HX1.out.2] at h1
          exact h1
        have HJ := hide hI
        clear HI HX1 HOX HOY
        obtain ⟨A, hA⟩ : ∃ A, A = yRs S3 (la.take la.length) := ⟨_, rfl⟩
        have hAl := hI.x.len
        have hnm := hI.x.names HLA.out.1
        rw [← hA] at hAl hnm
        have hRX := result_list hI.x.jl (by omega) (by rw [← hA]; omega)
        rw [← hA] at hRX
        have HRX := hide hRX
        have HAA := hide hA
        have HAL : Hid (A.length = la.length ∧ (resI A).length ≤ 10000) := ⟨hAl, hnm⟩
        clear hI hA hAl hnm hRX
        go_wp2_with fail
        refine HRX.out.mono ?_
        rintro e w13 ⟨i13, t13, rfl, hI13, hT13, hB13⟩
        have hJ13 := HJ.out.bel hB13
        have hRZ := result_list hJ13.z.jl (by omega) (by rw [← HAA.out]; have := HAL.out; omega)
        rw [← HAA.out] at hRZ
        have HRZ2 := hide hRZ
        have HF13 := hide (And.intro hI13 (And.intro hT13 hJ13))
        clear hI13 hT13 hB13 hJ13 hRZ
        go_wp2_with fail
        refine HRZ2.out.mono ?_
        rintro e w14 ⟨i14, t14, rfl, hI14, hT14, hB14⟩
        obtain ⟨hI13, hT13, hJ13⟩ := HF13.out
        have HSM := hide (same_res (c := RC la A) (N := ((RN la A : Nat) : Int)) (hI13.tr.bel hB14) (hT13.tr.bel hB14) hI14.tr hT14.tr (by have := RI_le la A; have := HAL.out; omega) (by have := RT_le la A; have := HAL.out; omega))
        have HJ14 := hide (hJ13.bel hB14)
        clear hI13 hT13 hJ13 hI14 hT14 hB14
        go_wp2_with fail
        refine HSM.out.mono ?_
        rintro e w15 ⟨rfl, hB15⟩
        have hJ15 := HJ14.out.bel hB15
        have hSX := steps_list hJ15.x.jl
        have hSY := steps_list hJ15.y.jl
        rw [hJ15.x.len] at hSX
        rw [hJ15.y.len] at hSY
        have HSX := hide hSX
        have HSY := hide hSY
        have HJ15 := hide hJ15
        clear hJ15 hSX hSY hB15
        go_wp2_with fail
        refine HSX.out.mono ?_
        rintro e w16 ⟨rfl, rfl⟩
        go_wp2_with fail
        refine HSY.out.mono ?_
        rintro e w17 ⟨rfl, rfl⟩
        have hSl : (ySs S3 (la.take la.length)).length = 3 := ySs_len _ _
        obtain ⟨a1, c1, hv1⟩ : ∃ a c, v1 = .slice a 3 c := by
          obtain ⟨a, c, e, _⟩ := HJ15.out.x.yp.rp
          rw [List.length_map, HJ15.out.x.yp.len, hSl] at e
          exact ⟨a, c, e⟩
        obtain ⟨a3, c3, hv3⟩ : ∃ a c, v3 = .slice a 3 c := by
          obtain ⟨a, c, e, _⟩ := HJ15.out.z.yp.rp
          rw [List.length_map, HJ15.out.z.yp.len, hSl] at e
          exact ⟨a, c, e⟩
        have HSL := hide hSl
        clear hSl
        subst hv1
        subst hv3
        clear HRX HRZ2 HF13 HSM HJ14 HSX HSY HJ HAA HAL
        obtain ⟨W18, hW18⟩ : ∃ W18, W18 = w17 := ⟨_, rfl⟩
        rw [← hW18] at HJ15 ⊢
        clear hW18
        go_wp2
        go_loopw [167] (fun i wr => ∃ n : Nat, n ≤ 3 ∧ i = .int .i64 n ∧ Below W18.heap.size W18 wr) (fun i _ => 3 - (intOf i).toNat)
        case atStart => exact ⟨0, by omega, rfl, Below.refl _ _⟩
        case round =>
          obtain ⟨n, hn3, rfl, hbe⟩ := hrel
          by_cases hlt : n < 3
          · have b1 : (n : Int) < 3 := by omega
            have b0 : (0 : Int) ≤ (n : Int) := by omega
            obtain ⟨e1, he1⟩ : ∃ e, bs1[n]? = some e := ⟨_, List.getElem?_eq_getElem (by rw [HJ15.out.x.yp.len, HSL.out]; exact hlt)⟩
            obtain ⟨e3, he3⟩ : ∃ e, bs3[n]? = some e := ⟨_, List.getElem?_eq_getElem (by rw [HJ15.out.z.yp.len, HSL.out]; exact hlt)⟩
            obtain ⟨s, hs⟩ : ∃ s, (ySs S3 (la.take la.length))[n]? = some s := ⟨_, List.getElem?_eq_getElem (by rw [HSL.out]; exact hlt)⟩
            have hgo := (GD.steps (la.take la.length) S3_gd) s (List.mem_of_getElem? hs)
            have hsl : s.L.length ≤ 60 := by have := hgo.len; rw [List.length_take] at this; omega
            obtain ⟨g1, o1, rfl, _⟩ := HJ15.out.x.yp.at he1
            obtain ⟨g3, o3, rfl, _⟩ := HJ15.out.z.yp.at he3
            have HCC : Hid (∀ Wx, Below W18.heap.size W18 Wx → Wx.cell? ⟨g1, o1 + n, none⟩ = some (.pointer (some ⟨e1.1, 0, none⟩)) ∧ Wx.cell? ⟨g3, o3 + n, none⟩ = some (.pointer (some ⟨e3.1, 0, none⟩))) := fun Wx hb => by
              have hJ := HJ15.out.bel hb
              obtain ⟨g, o, e, z⟩ := hJ.x.yp.at he1
              cases e
              obtain ⟨g', o', e', z'⟩ := hJ.z.yp.at he3
              cases e'
              exact ⟨z, z'⟩
            have HN1 : Hid (∀ Wx, Below W18.heap.size W18 Wx → Calls Try.prog 23 #[.pointer (some ⟨e1.1, 0, none⟩)] Wx fun e w' => ∃ a c, e = .returned (.slice a (namesL s.L ⟨#[]⟩).length c) ∧ TR w' (.slice a (namesL s.L ⟨#[]⟩).length c) (namesL s.L ⟨#[]⟩) ∧ Below Wx.heap.size Wx w' ∧ Below W18.heap.size W18 w' ∧ w'.cell? ⟨g1, o1 + n, none⟩ = some (.pointer (some ⟨e1.1, 0, none⟩)) ∧ w'.cell? ⟨g3, o3 + n, none⟩ = some (.pointer (some ⟨e3.1, 0, none⟩))) := fun Wx hb => by
              refine (names_any ((HJ15.out.bel hb).x.yp.px n e1 s he1 hs) (by omega)).mono ?_
              rintro e w' ⟨v, rfl, hT, hB⟩
              obtain ⟨a, c, rfl⟩ := hT.shp
              have hb' : Below W18.heap.size W18 w' := hb.trans (hB.mono hb.size)
              exact ⟨a, c, rfl, hT.tr, hB, hb', HCC.out w' hb'⟩
            have HN3 : Hid (∀ Wx, Below W18.heap.size W18 Wx → Calls Try.prog 23 #[.pointer (some ⟨e3.1, 0, none⟩)] Wx fun e w' => ∃ a c, e = .returned (.slice a (namesL s.L ⟨#[]⟩).length c) ∧ TR w' (.slice a (namesL s.L ⟨#[]⟩).length c) (namesL s.L ⟨#[]⟩) ∧ Below Wx.heap.size Wx w' ∧ Below W18.heap.size W18 w' ∧ w'.cell? ⟨g1, o1 + n, none⟩ = some (.pointer (some ⟨e1.1, 0, none⟩)) ∧ w'.cell? ⟨g3, o3 + n, none⟩ = some (.pointer (some ⟨e3.1, 0, none⟩))) := fun Wx hb => by
              refine (names_any ((HJ15.out.bel hb).z.yp.px n e3 s he3 hs) (by omega)).mono ?_
              rintro e w' ⟨v, rfl, hT, hB⟩
              obtain ⟨a, c, rfl⟩ := hT.shp
              have hb' : Below W18.heap.size W18 w' := hb.trans (hB.mono hb.size)
              exact ⟨a, c, rfl, hT.tr, hB, hb', HCC.out w' hb'⟩
            have hnl := names_len s.L ⟨#[]⟩
            have HST : Hid (∀ Wx u1 u2, TR Wx u1 (namesL s.L ⟨#[]⟩) → TR Wx u2 (namesL s.L ⟨#[]⟩) → Below W18.heap.size W18 Wx → Calls Try.prog 22 #[u1, u2] Wx fun e w' => e = .returned (.bool true) ∧ Below W18.heap.size W18 w' ∧ w'.cell? ⟨g1, o1 + n, none⟩ = some (.pointer (some ⟨e1.1, 0, none⟩)) ∧ w'.cell? ⟨g3, o3 + n, none⟩ = some (.pointer (some ⟨e3.1, 0, none⟩))) := fun Wx u1 u2 h1 h2 hb => by
              refine (sameTexts_eq h1 h2 (by omega)).mono ?_
              rintro e w' ⟨rfl, hB⟩
              have hb' : Below W18.heap.size W18 w' := hb.trans (hB.mono hb.size)
              exact ⟨rfl, hb', HCC.out w' hb'⟩
            have hbd : Below W18.heap.size W18 wr.drew := hbe.drew
            obtain ⟨k1, k3⟩ := HCC.out wr.drew hbd
            obtain ⟨x1, hx1⟩ : ∃ x1, x1 = e1.1 := ⟨_, rfl⟩
            obtain ⟨x3, hx3⟩ : ∃ x3, x3 = e3.1 := ⟨_, rfl⟩
            rw [← hx1, ← hx3] at HN1 HN3 HST
            rw [← hx1] at k1
            rw [← hx3] at k3
            obtain ⟨nm, hnm⟩ : ∃ nm, nm = namesL s.L ⟨#[]⟩ := ⟨_, rfl⟩
            rw [← hnm] at HN1 HN3 HST
            clear hs hgo hsl he1 he3 hnl hbe hx1 hx3 hnm HCC
            go_upto_region 39 with fail
            go_region_held3 (fun w' => w'.cell? ⟨g1, o1 + n, none⟩ = some (.pointer (some ⟨x1, 0, none⟩)) ∧ w'.cell? ⟨g3, o3 + n, none⟩ = some (.pointer (some ⟨x3, 0, none⟩))) (first | assumption | exact ⟨by assumption, by assumption⟩)
              (first | (go_at_call 23; refine (HN1.out _ (by assumption)).mono ?_; rintro e wj ⟨aj, cj, rfl, hTj, hXj, hBj, p0, p1⟩) | (go_at_call 23; refine (HN3.out _ (by assumption)).mono ?_; rintro e wk ⟨ak, ck, rfl, hTk, hXk, hBk, p0, p1⟩) | (go_at_call 22; refine (HST.out _ _ _ (by first | exact hTj | exact hTj.bel hXk) (by first | exact hTk | exact hTk.bel hXj) (by assumption)).mono ?_; rintro e ws ⟨rfl, hBs, p0, p1⟩))
            all_goals (
              have HE := hide hBs
              clear hBs p0 p1 hTj hXj hBj hTk hXk hBk
              go_wp2
              exact ⟨⟨n + 1, by omega, by go_num, HE.out⟩, by simp [intOf]; omega⟩)
          · obtain rfl : n = 3 := by omega
            have HE : Hid (Below w.heap.size w wr) := HJ15.out.be.trans (hbe.mono HJ15.out.be.size)
            clear hbe
            go_wp2
            go_ret
            exact ⟨rfl, HE.out⟩
      · obtain ⟨ox, hox⟩ : ∃ ox, ox = decide (nx < la.length) := ⟨_, rfl⟩
        obtain ⟨oy, hoy⟩ : ∃ oy, oy = decide (ny < lb.length) := ⟨_, rfl⟩
        rw [← hox] at hOX
        rw [← hoy] at hOY
        have hor : ox = true ∨ oy = true := by
          rw [hox, hoy]
          simp only [decide_eq_true_eq]
          omega
        have HOX := hide hOX
        have HOY := hide hOY
        have Hox := hide hox
        have Hoy := hide hoy
        clear hOX hOY hnx hny hov hox hoy
        go_upto_region 25 with fail
        go_cut [102] (fun cx wx => cx = .bool true ∧ wx = wo)
        case first =>
          cases ox with
          | true =>
            go_wp2_with fail
            refine HOX.out.mono ?_
            rintro e w11 ⟨rfl, rfl⟩
            go_wp2
            go_meet
            case rel => exact ⟨rfl, rfl⟩
          | false =>
            obtain rfl : oy = true := by simpa using hor
            go_wp2_with fail
            refine HOX.out.mono ?_
            rintro e w11 ⟨rfl, rfl⟩
            go_wp2_with fail
            refine HOY.out.mono ?_
            rintro e w12 ⟨rfl, rfl⟩
            go_wp2
            go_meet
            case rel => exact ⟨rfl, rfl⟩
        case rest =>
          obtain ⟨rfl, rfl⟩ := hcut
          go_upto_region 27 with fail
          go_cut [23] (fun cx wx => wx = wc ∧ ∃ f : Bool, cx = .bool f ∧ ((f = true ∧ nx < la.length) ∨ (f = false ∧ ny < lb.length)))
          case first =>
            cases oy with
            | false =>
              have HE : Hid (nx < la.length) := by
                show nx < la.length
                have h1 := Hox.out
                rcases hor with h | h
                · rw [h] at h1; exact of_decide_eq_true h1.symm
                · cases h
              go_wp2_with fail
              refine HOY.out.mono ?_
              rintro e w11 ⟨rfl, rfl⟩
              go_wp2
              go_meet
              case rel => exact ⟨rfl, true, rfl, .inl ⟨rfl, HE.out⟩⟩
            | true =>
              have HEY : Hid (ny < lb.length) := by show ny < lb.length; exact of_decide_eq_true Hoy.out.symm
              cases ox with
              | false =>
                go_wp2_with fail
                refine HOY.out.mono ?_
                rintro e w11 ⟨rfl, rfl⟩
                go_wp2_with fail
                refine HOX.out.mono ?_
                rintro e w12 ⟨rfl, rfl⟩
                go_wp2
                go_meet
                case rel => exact ⟨rfl, false, rfl, .inr ⟨rfl, HEY.out⟩⟩
              | true =>
                have HEX : Hid (nx < la.length) := by show nx < la.length; exact of_decide_eq_true Hox.out.symm
                by_cases htl : (ni : Int) < ((ts.length : Nat) : Int)
                · obtain ⟨x, hx⟩ : ∃ x, ts[ni]? = some x := ⟨_, List.getElem?_eq_getElem (by omega)⟩
                  obtain ⟨ga, gc, ea, _, hG⟩ := HT.out.bel HI.out.be
                  cases ea
                  obtain ⟨g, o, rfl, _, hg, hG⟩ := hG.resolve_left (by intro e; rw [e] at hx; simp at hx)
                  have z0 := hG ni x hx 0 _ rfl
                  rw [Nat.mul_one, Nat.add_zero] at z0
                  have b0 : (0 : Int) ≤ (ni : Int) := by omega
                  clear hG hx hg
                  go_wp2_with fail
                  refine HOY.out.mono ?_
                  rintro e w11 ⟨rfl, rfl⟩
                  go_wp2_with fail
                  refine HOX.out.mono ?_
                  rintro e w12 ⟨rfl, rfl⟩
                  go_wp2
                  go_meet
                  case rel =>
                    cases x with
                    | true => exact ⟨rfl, true, rfl, .inl ⟨rfl, HEX.out⟩⟩
                    | false => exact ⟨rfl, false, rfl, .inr ⟨rfl, HEY.out⟩⟩
                · go_wp2_with fail
                  refine HOY.out.mono ?_
                  rintro e w11 ⟨rfl, rfl⟩
                  go_wp2_with fail
                  refine HOX.out.mono ?_
                  rintro e w12 ⟨rfl, rfl⟩
                  go_wp2
                  go_meet
                  case rel => exact ⟨rfl, false, rfl, .inr ⟨rfl, HEY.out⟩⟩
          case rest =>
            obtain ⟨rfl, f, rfl, hf⟩ := hcut
            clear HOX HOY Hox Hoy hor
            rcases hf with ⟨rfl, hf⟩ | ⟨rfl, hf⟩
            · have HRJ := hide (HI.out.x.run HLA.out.1 HSA.out 1 (by decide))
              go_wp2_with fail
              refine HRJ.out.mono ?_
              rintro e w11 ⟨t, P', ht, rfl, hR, hG, hP⟩
              have ht1 : t = 1 := by simp at ht; omega
              subst ht1
              have HE := hide (HI.out.goX hR hG hP)
              have HNJ := hide hf
              clear hR hG hP ht hf
              by_cases hlast : nx + 1 < la.length
              · rw [if_pos hlast]
                go_wp2
                exact ⟨⟨nx + 1, ny, P', Py2, by have := HNI.out; first | omega | (congr 1; omega) | (simp; omega), HE.out⟩, by have := HNI.out; simp [intOf]; omega⟩
              · rw [if_neg hlast]
                go_wp2
                exact ⟨⟨nx + 1, ny, P', Py2, by have := HNI.out; first | omega | (congr 1; omega) | (simp; omega), HE.out⟩, by have := HNI.out; simp [intOf]; omega⟩
            · have HRJ := hide (HI.out.y.run HLA.out.2 HSB.out 1 (by decide))
              go_wp2_with fail
              refine HRJ.out.mono ?_
              rintro e w11 ⟨t, P', ht, rfl, hR, hG, hP⟩
              have ht1 : t = 1 := by simp at ht; omega
              subst ht1
              have HE := hide (HI.out.goY hR hG hP)
              have HNJ := hide hf
              clear hR hG hP ht hf
              by_cases hlast : ny + 1 < lb.length
              · rw [if_pos hlast]
                go_wp2
                exact ⟨⟨nx, ny + 1, Px2, P', by have := HNI.out; first | omega | (congr 1; omega) | (simp; omega), HE.out⟩, by have := HNI.out; simp [intOf]; omega⟩
              · rw [if_neg hlast]
                go_wp2
                exact ⟨⟨nx, ny + 1, Px2, P', by have := HNI.out; first | omega | (congr 1; omega) | (simp; omega), HE.out⟩, by have := HNI.out; simp [intOf]; omega⟩
end
end Go.Proofs.Ytepmhgkegfpmjaa

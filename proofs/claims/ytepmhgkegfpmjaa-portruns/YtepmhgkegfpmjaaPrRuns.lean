/-
  PortRuns: the walk.
-/
import Derived.Test.YtepmhgkegfpmjaaPrKit
namespace Go.Proofs.Ytepmhgkegfpmjaa
open Go.RowKit Go.Lib Go.Maps
/-- What is behind the program's run, as the document plays. -/
structure RV (w0 w6 wr : World) (l : List QT) (T : Nat) (jb kb : Nat) (v sv rv : Value) (bs : List (Nat × Nat)) (rs : List Nat) (Pj Pk : Nat → Prop) (j : Nat) : Prop where
  jl : JL Pj wr jb l (yRs S3 (l.take T))
  yp : YP (Ps bs sv) wr sv (ySs S3 (l.take T)) bs
  kl : KL Pk wr kb v (yRs S3 (l.take j))
  yd : YD (Pd rs rv) wr rv (ySs S3 (l.take j)) rs
  pj : ∀ i, Pj i → ¬ Pd rs rv i ∧ i ≠ kb
  ps : ∀ i, Ps bs sv i → ¬ Pd rs rv i ∧ i ≠ kb
  pk : ∀ i, Pk i → ¬ Pd rs rv i
  kd : ¬ Pd rs rv kb
  be : Below w0.heap.size w0 wr
  sz : w6.heap.size ≤ wr.heap.size
  lw : ∀ i, Pd rs rv i → w0.heap.size ≤ i ∧ i < w6.heap.size
  kw : w0.heap.size ≤ kb
section
variable {w0 w6 wr w' : World} {l : List QT} {T jb kb j : Nat} {v sv rv : Value} {bs : List (Nat × Nat)} {rs : List Nat} {Pj Pk : Nat → Prop}
theorem RV.bel (h : RV w0 w6 wr l T jb kb v sv rv bs rs Pj Pk j) (hb : Below wr.heap.size wr w') : RV w0 w6 w' l T jb kb v sv rv bs rs Pj Pk j :=
  ⟨h.jl.bel hb, h.yp.bel hb, h.kl.bel hb, h.yd.bel hb, h.pj, h.ps, h.pk, h.kd, h.be.trans (hb.mono h.be.size), Nat.le_trans h.sz hb.size, h.lw, h.kw⟩
/-- A round of the document's play. -/
theorem RV.step (h : RV w0 w6 wr l T jb kb v sv rv bs rs Pj Pk j) {q : QT} (hq : l[j]? = some q) {w1 w2 : World} (hG1 : Gs (fun i => i ∈ rs) wr w1) (hY : YD (Pd rs rv) w1 rv (yS (ySs S3 (l.take j)) q) rs) (hG2 : Gs (fun i => i = kb) w1 w2) (hK : KL (fun i => w1.heap.size ≤ i ∧ i < w2.heap.size) w2 kb v (yRs S3 (l.take j) ++ [yR (ySs S3 (l.take j)) q])) :
    RV w0 w6 w2 l T jb kb v sv rv bs rs Pj (fun i => w1.heap.size ≤ i ∧ i < w2.heap.size) (j + 1) := by
  have e := take_snoc_at hq
  have hs1 := hG1.size
  have hs2 := hG2.size
  have hsz := h.sz
  have hkl := h.kl.lt
  refine ⟨(h.jl.gs hG1 fun i hi e => (h.pj i hi).1 (.inl e)).gs hG2 fun i hi e => (h.pj i hi).2 e, (h.yp.gs hG1 fun i hi e => (h.ps i hi).1 (.inl e)).gs hG2 fun i hi e => (h.ps i hi).2 e, ?_, ?_, h.pj, h.ps, ?_, h.kd, ?_, by omega, h.lw, h.kw⟩
  · rw [e, yRs_snoc]; exact hK
  · rw [e, ySs_snoc]
    refine hY.gs hG2 (fun i hi e => h.kd (e ▸ hi)) fun i cs fr hi e => ?_
    obtain ⟨_, _, hkb, _⟩ := hK
    obtain ⟨_, _, hk0, _⟩ := h.kl
    have hk1 := hk0.gs hG1 (fun e' => h.kd (.inl e'))
    rw [e, show w1.heap[kb]? = _ from hk1] at hi
    simp at hi
  · intro i hi hd
    have := (h.lw i hd).2
    omega
  · refine hG2.below (hG1.below h.be h.be.size fun i hi => (h.lw i (.inl hi)).1) ?_ fun i e => by rw [e]; exact h.kw
    have := h.be.size
    omega
end
section
variable {w : World} {v : Value} {l : List QT} {r : Nat → Prop}
set_option maxRecDepth 100000 in
set_option maxHeartbeats 6400000 in
theorem runs_walk (hl : LS q4 4 r w v l) (hn : l.length ≤ 9223372036854775807) (hsz : ∀ q ∈ l, q.n.size ≤ maxLen ∧ q.d.size ≤ maxLen) (most : Int) :
    Calls Try.prog 4 #[v, .int .i64 most] w fun e w' => e = .returned (.bool true) ∧ Below w.heap.size w w' := by
  have HSM := hide (small_any hl hn)
  have HL := hide hl
  have HSZ := hide hsz
  obtain ⟨va, vc, hv⟩ := hl.shp
  subst hv
  clear hl hsz
  go_enter Try.func4, Try.ntmps4
  go_wp2_with fail
  refine HSM.out.mono ?_
  rintro e w0 ⟨t, rfl, ht, rfl⟩
  cases t with
  | false =>
    have HW := hide (works_port w0)
    go_wp2_with fail
    refine HW.out.mono ?_
    rintro e w1 ⟨rfl, hB⟩
    have HB := hide hB
    clear hB
    go_wp2
    go_ret
    exact ⟨rfl, HB.out⟩
  | true =>
    have h60 := ht rfl
    have HW := hide (works_port w0)
    go_wp2_with fail
    refine HW.out.mono ?_
    rintro e w1 ⟨rfl, hB1⟩
    have HB1 := hide hB1
    have HBO := hide (both_bo w1)
    clear hB1 ht
    go_wp2_with fail
    refine HBO.out.mono ?_
    rintro e w2 ⟨sv, rv, bs, rs, rfl, hBO, hbl, hrl⟩
    obtain ⟨asv, csv, hsv⟩ := hBO.s.shp
    obtain ⟨arv, crv, hrv⟩ := hBO.r.shp
    rw [List.length_map, hbl] at hsv
    rw [hrl] at hrv
    obtain ⟨ac, cc, w3, hr3, hO3, hB3⟩ := copyQ ((HL.out.bel HB1.out).bel hBO.be) (by omega)
    have HLI := hide (list_any (hO3.ls (r := fun _ => True) q4_len fun _ _ => trivial) (by omega))
    have HF2 := hide (And.intro hBO (And.intro hbl (And.intro hrl hB3)))
    clear hBO hbl hrl hO3 hB3
    subst hsv
    subst hrv
    go_wp2_with (at_builtin; refine Lib.wpList_append_run _ rfl _ _ _ _ rfl _ _ rfl rfl _ _ hr3 ?_)
    refine HLI.out.mono ?_
    rintro e w4 ⟨jb, Pj, rfl, hJ4, hB4, hP4⟩
    obtain ⟨hBO, hbl, hrl, hB3⟩ := HF2.out
    have hB1 := HB1.out
    have hs1 := hB1.size
    have hs2 := hBO.be.size
    have hs3 := hB3.size
    have hs4 := hB4.size
    obtain ⟨kb, hkb⟩ : ∃ kb, kb = w4.heap.size := ⟨_, rfl⟩
    obtain ⟨W5, hW5⟩ : ∃ W5, W5 = w4.alloc (.cells #[.slice va l.length vc, .int .i64 0, .int .i64 0, .string ⟨#[]⟩, .int .i64 0, .slice none 0 0, .slice none 0 0, .slice none 0 0, .slice none 0 0] 36) := ⟨_, rfl⟩
    have hB5 : Below w4.heap.size w4 W5 := by rw [hW5]; exact (Below.refl _ _).alloc (Nat.le_refl _) _
    have hK5 : KB W5 kb (.slice va l.length vc) 0 0 0 (.slice none 0 0) (.slice none 0 0) := by rw [hW5, hkb]; exact heap_alloc_new w4 _
    have hJ5 := hJ4.bel hB5
    have hJl := hJ4.2.1
    have hY5 : YP (Ps bs (.slice asv 3 csv)) W5 (.slice asv 3 csv) S3 bs := (((hBO.yp hbl).bel hB3).bel hB4).bel hB5
    have hF5 : YF (Pd rs (.slice arv 3 crv)) W5 (.slice arv 3 crv) rs := (((hBO.yf hrl).bel hB3).bel hB4).bel hB5
    have hBw : Below w0.heap.size w0 W5 := (((hB1.trans (hBO.be.mono hs1)).trans (hB3.mono (by omega))).trans (hB4.mono (by omega))).trans (hB5.mono (by omega))
    have hPs : ∀ i, Ps bs (.slice asv 3 csv) i → w1.heap.size ≤ i ∧ i < w2.heap.size := fun i hi => hBO.ps hi
    have hPd : ∀ i, Pd rs (.slice arv 3 crv) i → w1.heap.size ≤ i ∧ i < w2.heap.size := fun i hi => hBO.pd hi
    have hs5 : W5.heap.size = w4.heap.size + 1 := by rw [hW5]; simp
    by_cases hm : most < 0
    · have HR := hide (run_neg W5 jb (.slice asv 3 csv) most hm)
      have HW5 := hide hW5
      have HE := hide hBw
      clear hBO hbl hrl hB3 hB1 hs1 hs2 hs3 hs4 hkb hW5 hB5 hK5 hJ5 hJl hY5 hF5 hBw hPs hPd hJ4 hB4 hP4 hs5
      go_wp2_with fail
      rw [← HW5.out]
      refine HR.out.mono ?_
      rintro e w6 ⟨rfl, rfl⟩
      go_wp2
      go_ret
      exact ⟨by simp, HE.out⟩
    · have HR := hide (run_any (jobL jb (by omega)) (A := []) hJ5 hY5 (fun i hi hp => by have := hP4 i hi; have := hPs i hp; omega) (fun i hi => by have := hPs i hi; omega) S3_gd (by simp; omega) (by simp [resI]) HSZ.out most (by omega))
      have HF5 : Hid (∀ (w6 : World) (t : Nat) (Pj' : Nat → Prop), t ≤ l.length → RU (fun A P w => JL P w jb l A) W5 w6 [] (l.drop ([] : List RR).length) S3 bs (.slice asv 3 csv) Pj (Ps bs (.slice asv 3 csv)) Pj' t → RV w0 w6 w6 l t jb kb (.slice va l.length vc) (.slice asv 3 csv) (.slice arv 3 crv) bs rs Pj' (fun _ => False) 0) := by
        intro w6 t Pj' htl hU
        have hg := hU.g
        have h6 := hg.size
        have hkP : ¬ (Pj kb ∨ Ps bs (.slice asv 3 csv) kb) := by
          rintro (e | e)
          · have := hJl kb e; omega
          · have := hPs kb e; omega
        refine ⟨hU.j, hU.y, ⟨_, _, hK5.gs hg hkP, ⟨_, _, rfl, fun _ => rfl, .inl rfl⟩, ⟨_, _, rfl, fun _ => rfl, .inl rfl⟩, fun h => h⟩, (hF5.gs hg fun i hi e => ?_).yd, fun i hi => ?_, fun i hi => ⟨hBO.apart hi, by have := hPs i hi; omega⟩, fun i hi => hi.elim, fun e => by have := hPd kb e; omega, ?_, Nat.le_refl _, fun i hi => by have := hPd i hi; omega, by omega⟩
        · rcases e with e | e
          · have := hP4 i e; have := hPd i hi; omega
          · exact hBO.apart e hi
        · have := hU.p i hi
          refine ⟨fun hd => ?_, fun e => ?_⟩
          · have := hPd i hd
            rcases hU.p i hi with e | e
            · have := hP4 i e; omega
            · omega
          · rcases hU.p i hi with e' | e'
            · have := hJl i e'; omega
            · omega
        · exact hg.below hBw (by omega) fun i e => by
            rcases e with e | e
            · have := hP4 i e; omega
            · have := hPs i e; omega
      have HW5 := hide hW5
      have Hkb := hide hkb
      clear hBO hbl hrl hB3 hB1 hs1 hs2 hs3 hs4 hkb hW5 hB5 hK5 hJ5 hJl hY5 hF5 hBw hPs hPd hJ4 hB4 hP4 hs5
      go_wp2_with fail
      rw [← HW5.out, ← Hkb.out]
      refine HR.out.mono ?_
      rintro e w6 ⟨t, ht, rfl, Pj', hU⟩
      have htl : t ≤ l.length := by rw [ht]; simp; omega
      have HV := hide (HF5.out w6 t Pj' htl hU)
      have HT : Hid (t = min (l.length - ([] : List RR).length) most.toNat) := ht
      clear ht hU htl
      obtain ⟨cd, hcd⟩ : ∃ cd : Int, cd = if ([] : List RR).length + t < l.length then 2 else 0 := ⟨_, rfl⟩
      rw [← hcd]
      have HCD := hide hcd
      clear hcd
      go_upto_block 0 with fail
      go_cut [11] (fun i wx => i = .int .i64 (t : Int) ∧ ∃ Pk, RV w0 w6 wx l t jb kb (.slice va l.length vc) (.slice asv 3 csv) (.slice arv 3 crv) bs rs Pj' Pk t)
      case first =>
        go_wp2
        go_loopw [11] (fun i wr => ∃ (j : Nat) (Pk : Nat → Prop), j ≤ t ∧ i = .int .i64 j ∧ RV w0 w6 wr l t jb kb (.slice va l.length vc) (.slice asv 3 csv) (.slice arv 3 crv) bs rs Pj' Pk j) (fun i _ => t - (intOf i).toNat)
        case atStart => exact ⟨0, _, Nat.zero_le _, rfl, HV.out⟩
        case round =>
          obtain ⟨j, Pk, hj, rfl, hI⟩ := hrel
          have HI := hide hI
          have htt : t ≤ l.length ∧ (t : Int) ≤ most ∧ (t = l.length ∨ (t : Int) = most) := by
            have := HT.out
            simp at this
            omega
          by_cases hlt : j < t
          · have b1 : (j : Int) < ((l.length : Nat) : Int) := by omega
            have b2 : (j : Int) < most := by omega
            have b0 : (0 : Int) ≤ (j : Int) := by omega
            obtain ⟨q, hq⟩ : ∃ q, l[j]? = some q := ⟨_, List.getElem?_eq_getElem (by omega)⟩
            have hqs := HSZ.out q (List.mem_of_getElem? hq)
            obtain ⟨ga, ca, ea, _, hG⟩ := HL.out.bel hI.be
            cases ea
            obtain ⟨g, o, rfl, _, hg, hG⟩ := hG.resolve_left (by intro e; rw [e] at hq; simp at hq)
            have z0 := hG j q hq 0 _ rfl
            have z1 := hG j q hq 1 _ rfl
            have z2 := hG j q hq 2 _ rfl
            have z3 := hG j q hq 3 _ rfl
            rw [Nat.add_zero] at z0
            have hGD : GD (0 + (l.take j).length) (ySs S3 (l.take j)) := GD.steps _ S3_gd
            have hjl : (l.take j).length = j := by rw [List.length_take]; omega
            have HA := hide (ranswer_any hI.yd hGD (by omega) q hqs.1 hqs.2)
            have hnm := yR_names hGD q
            have hnm2 := yRs_names (l.take j) S3_gd
            have HN : Hid ((yR (ySs S3 (l.take j)) q).l.length ≤ 60 ∧ (resI (yRs S3 (l.take j))).length ≤ 10000 ∧ (yRs S3 (l.take j)).length ≤ 1000000) := by
              rw [hjl] at hnm hnm2
              have : j * (0 + j) ≤ 60 * 60 := Nat.mul_le_mul (by omega) (by omega)
              refine ⟨by omega, by omega, by rw [yRs_len, hjl]; omega⟩
            have HQ := hide hq
            clear hG hq hqs hGD hjl hnm hnm2 htt hI
            go_wp2_with fail
            refine HA.out.mono ?_
            rintro e w7 ⟨u, rfl, hAR, hY7, hG7⟩
            obtain ⟨ua, uc, rfl, hTS⟩ := hAR.shp
            have hkl := HI.out.kl.lt
            have hK7 := HI.out.kl.gs hG7 (fun e => HI.out.kd (.inl e)) (fun i hi e => HI.out.pk i hi (.inl e))
            have HGv := hide (kl_give (r0 := fun i => wr.heap.size ≤ i) hK7 HN.out.2.2 (hTS.ls fun i hi => (hTS.lt i hi).1) (by omega) (yR (ySs S3 (l.take j)) q).c (yR (ySs S3 (l.take j)) q).d (by have := HN.out; omega))
            have HF7 := hide (And.intro hY7 hG7)
            obtain ⟨un, hun⟩ : ∃ un, un = (yR (ySs S3 (l.take j)) q).l.length := ⟨_, rfl⟩
            rw [← hun] at HGv ⊢
            clear hY7 hG7 hK7 hTS hAR hkl hun
            go_wp2_with fail
            refine HGv.out.mono ?_
            rintro e w8 ⟨rfl, hK8, hG8⟩
            have HE := hide (HI.out.step HQ.out HF7.out.2 HF7.out.1 hG8 hK8)
            clear hK8 hG8
            go_wp2
            exact ⟨⟨j + 1, _, by omega, by go_num, HE.out⟩, by simp [intOf]; omega⟩
          · obtain rfl : j = t := by omega
            have HI2 := hide (Exists.intro Pk hI : ∃ Pk, RV w0 w6 wr l j jb kb (.slice va l.length vc) (.slice asv 3 csv) (.slice arv 3 crv) bs rs Pj' Pk j)
            clear hI
            by_cases h1 : (j : Int) < ((l.length : Nat) : Int)
            · have h2 : ¬ (j : Int) < most := by omega
              go_wp2
              go_meet
              case rel => exact ⟨rfl, HI2.out⟩
            · go_wp2
              go_meet
              case rel => exact ⟨rfl, HI2.out⟩
      case rest =>
        obtain ⟨rfl, Pk, hRV⟩ := hcut
        have HRV := hide hRV
        clear hRV
        obtain ⟨W9, hW9⟩ : ∃ W9, W9 = wc := ⟨_, rfl⟩
        rw [← hW9] at HRV ⊢
        clear hW9 HV
        go_upto_if 76 with fail
        go_cut [12] (fun cx wx => cx = .int .i64 cd ∧ wx = W9)
        case first =>
          by_cases h1 : (t : Int) < ((l.length : Nat) : Int)
          · have HE : Hid ((2 : Int) = cd) := by show (2 : Int) = cd; rw [HCD.out, if_pos (by simp; omega)]
            go_wp2
            go_meet
            case rel => exact ⟨congrArg (Value.int .i64) HE.out, rfl⟩
          · have HE : Hid ((0 : Int) = cd) := by show (0 : Int) = cd; rw [HCD.out, if_neg (by simp; omega)]
            go_wp2
            go_meet
            case rel => exact ⟨congrArg (Value.int .i64) HE.out, rfl⟩
        case rest =>
          obtain ⟨rfl, rfl⟩ := hcut
          have htl : t ≤ l.length := by have := HT.out; simp at this; omega
          have hAl : (yRs S3 (l.take t)).length = t := by rw [yRs_len, List.length_take]; omega
          have hIl : (resI (yRs S3 (l.take t))).length ≤ 10000 := by
            have h1 := yRs_names (l.take t) S3_gd
            have h2 : (l.take t).length = t := by rw [List.length_take]; omega
            rw [h2] at h1
            have : t * (0 + t) ≤ 60 * 60 := Nat.mul_le_mul (by omega) (by omega)
            omega
          have HR1 := hide (result_list HRV.out.jl (by omega) (by omega))
          have HLn : Hid (t ≤ l.length ∧ (yRs S3 (l.take t)).length = t ∧ (resI (yRs S3 (l.take t))).length ≤ 10000) := ⟨htl, hAl, hIl⟩
          clear htl hAl hIl
          go_wp2_with fail
          refine HR1.out.mono ?_
          rintro e w10 ⟨i10, t10, rfl, hI10, hT10, hB10⟩
          have HR2 := hide (kl_res (HRV.out.bel hB10).kl (by have := HLn.out; omega))
          have HF10 := hide (And.intro hI10 (And.intro hT10 hB10))
          clear hI10 hT10 hB10
          go_wp2_with fail
          refine HR2.out.mono ?_
          rintro e w11 ⟨i11, t11, rfl, hI11, hT11, hB11⟩
          obtain ⟨hI10, hT10, hB10⟩ := HF10.out
          have HS := hide (same_res (c := RC l (yRs S3 (l.take t))) (N := ((RN l (yRs S3 (l.take t)) : Nat) : Int)) (hI10.tr.bel hB11) (hT10.tr.bel hB11) hI11 hT11 (by have := RI_le l (yRs S3 (l.take t)); have := HLn.out; omega) (by have := RT_le l (yRs S3 (l.take t)); have := HLn.out; omega))
          have HR11 := hide ((HRV.out.bel hB10).bel hB11)
          clear hI10 hT10 hB10 hI11 hT11 hB11
          go_wp2_with fail
          refine HS.out.mono ?_
          rintro e w12 ⟨rfl, hB12⟩
          have HR12 := hide (HR11.out.bel hB12)
          clear hB12
          go_wp2
          go_loopw [13] (fun i wr => ∃ n : Nat, n ≤ 3 ∧ i = .int .i64 n ∧ RV w0 w6 wr l t jb kb (.slice va l.length vc) (.slice asv 3 csv) (.slice arv 3 crv) bs rs Pj' Pk t) (fun i _ => 3 - (intOf i).toNat)
          case atStart => exact ⟨0, by omega, rfl, HR12.out⟩
          case round =>
            obtain ⟨n, hn3, rfl, hI⟩ := hrel
            by_cases hlt : n < 3
            · have b1 : (n : Int) < 3 := by omega
              have b0 : (0 : Int) ≤ (n : Int) := by omega
              have hSl : (ySs S3 (l.take t)).length = 3 := ySs_len _ _
              obtain ⟨e0, he0⟩ : ∃ e, bs[n]? = some e := ⟨_, List.getElem?_eq_getElem (by rw [hI.yp.len, hSl]; exact hlt)⟩
              obtain ⟨b, hb⟩ : ∃ b, rs[n]? = some b := ⟨_, List.getElem?_eq_getElem (by rw [hI.yd.len, hSl]; exact hlt)⟩
              obtain ⟨s, hs⟩ : ∃ s, (ySs S3 (l.take t))[n]? = some s := ⟨_, List.getElem?_eq_getElem (by rw [hSl]; exact hlt)⟩
              have hGD : GD (0 + (l.take t).length) (ySs S3 (l.take t)) := GD.steps _ S3_gd
              have hgo := hGD s (List.mem_of_getElem? hs)
              have hsl : s.L.length ≤ 60 := by have := hgo.len; rw [List.length_take] at this; omega
              obtain ⟨g1, o1, rfl, z1⟩ := hI.yd.at hb
              obtain ⟨g2, o2, rfl, z2⟩ := hI.yp.at he0
              have HNM := hide (rd_names (hI.yd.rd n b s hb hs) ⟨#[]⟩ (by omega))
              have HI := hide hI
              have HS1 : Hid (bs[n]? = some e0 ∧ rs[n]? = some b ∧ (ySs S3 (l.take t))[n]? = some s ∧ GO (0 + (l.take t).length) s ∧ s.L.length ≤ 60) := ⟨he0, hb, hs, hgo, hsl⟩
              clear hI hSl he0 hb hs hGD hgo hsl
              go_wp2_with fail
              refine HNM.out.mono ?_
              rintro e w13 ⟨vn, rfl, hT13, hB13⟩
              have hI13 := HI.out.bel hB13
              obtain ⟨g2', o2', e2', y2⟩ := hI13.yp.at HS1.out.1
              cases e2'
              have HNP := hide (names_any (hI13.yp.px n e0 s HS1.out.1 HS1.out.2.2.1) (by have := HS1.out.2.2.2.2; omega))
              obtain ⟨an, cn, hvn⟩ := hT13.shp
              have HI13 := hide hI13
              have HT13 := hide hT13
              clear hI13 hT13 hB13
              subst hvn
              go_wp2_with fail
              refine HNP.out.mono ?_
              rintro e w14 ⟨v2, rfl, hT14, hB14⟩
              have hnl := names_len s.L ⟨#[]⟩
              have HST := hide (sameTexts_eq hT14.tr (HT13.out.tr.bel hB14) (by have := HS1.out.2.2.2.2; omega))
              have HI14 := hide (HI13.out.bel hB14)
              have HT14 := hide (HT13.out.keep hB14)
              clear hT14 hB14 hnl
              go_wp2_with fail
              refine HST.out.mono ?_
              rintro e w15 ⟨rfl, hB15⟩
              have HI15 := hide (HI14.out.bel hB15)
              have HT15 := hide (HT14.out.keep hB15)
              clear hB15
              obtain ⟨nm, hnm⟩ : ∃ nm, nm = namesL s.L ⟨#[]⟩ := ⟨_, rfl⟩
              rw [← hnm] at HT15 ⊢
              obtain ⟨B, hB⟩ : ∃ B, B = wr.heap.size := ⟨_, rfl⟩
              rw [← hB] at HT15
              have HNMx : Hid (nm = namesL s.L ⟨#[]⟩) := hnm
              clear hnm hB
              clear HT14 HT13 HNM HNP HST
              obtain ⟨ml, hml⟩ : ∃ ml, ml = nm.length := ⟨_, rfl⟩
              have HML := hide hml
              rw [← hml] at HT15 ⊢
              clear hml
              have hm60 : ml ≤ 60 := by
                have h1 := names_len s.L ⟨#[]⟩
                have h2 := HS1.out.2.2.2.2
                rw [HML.out, HNMx.out]; omega
              clear HI HI13 HI14 z1 z2 y2
              go_wp2
              go_loopw [15] (fun k wr2 => ∃ m : Nat, m ≤ ml ∧ k = .int .i64 m ∧ RV w0 w6 wr2 l t jb kb (.slice va l.length vc) (.slice (some ⟨g2, o2, none⟩) 3 csv) (.slice (some ⟨g1, o1, none⟩) 3 crv) bs rs Pj' Pk t ∧ TS B (.slice an ml cn) nm wr2) (fun k _ => ml - (intOf k).toNat)
              case atStart => exact ⟨0, Nat.zero_le _, rfl, HI15.out, HT15.out⟩
              case round =>
                clear HI15 HT15
                obtain ⟨m, hm3, rfl, hI, hTm⟩ := hrel
                obtain ⟨wr2, hwr2⟩ : ∃ wr2, wr2 = wr := ⟨_, rfl⟩
                rw [← hwr2] at hI hTm ⊢
                clear hwr2
                by_cases hlm : m < ml
                · have c1 : (m : Int) < (ml : Int) := by omega
                  have c0 : (0 : Int) ≤ (m : Int) := by omega
                  obtain ⟨x, hx⟩ : ∃ x, nm[m]? = some x := ⟨_, List.getElem?_eq_getElem (by rw [← HML.out]; exact hlm)⟩
                  have hxs : x.size ≤ 96 := names_small HS1.out.2.2.2.1.sm (by rw [← HNMx.out]; exact List.mem_of_getElem? hx)
                  have hTR := hTm.tr
                  obtain ⟨a', c', e', hC⟩ := hTR
                  simp only [Value.slice.injEq] at e'
                  obtain ⟨rfl, hml', rfl⟩ := e'
                  clear hml'
                  obtain ⟨g3, o3, rfl, hg3, hC⟩ := hC.resolve_left (by intro e; rw [e] at hx; simp at hx)
                  have z3 := hC m x hx
                  obtain ⟨g2', o2', e2', z2⟩ := hI.yp.at HS1.out.1
                  cases e2'
                  have HK1 : Hid (∀ w', Below wr2.drew.heap.size wr2.drew w' → w'.cell? ⟨g2, o2 + n, none⟩ = some (.pointer (some ⟨e0.1, 0, none⟩)) ∧ w'.cell? ⟨g3, o3 + m, none⟩ = some (.string x)) := fun w' hb => by
                    have hb' : Below wr2.heap.size wr2 w' := below_und hb
                    obtain ⟨g4, o4, e4, z4⟩ := (hI.yp.bel hb').at HS1.out.1
                    cases e4
                    exact ⟨z4, (hb'.cell (p := ⟨g3, o3 + m, none⟩) hg3).trans z3⟩
                  have HG1 := hide (pget_any (w := wr2.drew) (PS.drew (hI.yp.px n e0 s HS1.out.1 HS1.out.2.2.1)) x (by unfold maxLen; omega))
                  obtain ⟨dx, hdx⟩ : ∃ dx, dx = (thr s.L x).getD ⟨#[]⟩ := ⟨_, rfl⟩
                  obtain ⟨tx, htx⟩ : ∃ tx, tx = (thr s.L x).isSome := ⟨_, rfl⟩
                  rw [← hdx, ← htx] at HG1
                  have HD := hide (And.intro hdx htx)
                  have HI := hide hI
                  have HTm := hide hTm
                  have HC3 := hide (And.intro hC (And.intro hx hg3))
                  clear hdx htx hI hTm hC hx hg3 hxs
                  go_upto_region 27 with fail
                  go_region_held3 (fun w' => w'.cell? ⟨g2, o2 + n, none⟩ = some (.pointer (some ⟨e0.1, 0, none⟩)) ∧ w'.cell? ⟨g3, o3 + m, none⟩ = some (.string x)) (first | assumption | exact ⟨by assumption, by assumption⟩)
                    (first | (go_at_call 24; refine HG1.out.mono ?_; rintro e w16 ⟨rfl, hB16⟩; obtain ⟨k2, k3⟩ := HK1.out w16 hB16; have HB16 := hide hB16; clear hB16))
                  have hI16 := HI.out.bel (below_und HB16.out)
                  obtain ⟨g1', o1', e1', y1⟩ := hI16.yd.at HS1.out.2.1
                  cases e1'
                  have y3 : w16.cell? ⟨g3, o3 + m, none⟩ = some (.string x) := k3
                  have hg16 : g3 < w16.heap.size := Nat.lt_of_lt_of_le HC3.out.2.2 (below_und HB16.out).size
                  have HK2 : Hid (∀ w', Below w16.drew.heap.size w16.drew w' → w'.cell? ⟨g1, o1 + n, none⟩ = some (.pointer (some ⟨b, 0, none⟩)) ∧ w'.cell? ⟨g3, o3 + m, none⟩ = some (.string x)) := fun w' hb => by
                    have hb' : Below w16.heap.size w16 w' := below_und hb
                    obtain ⟨g4, o4, e4, z4⟩ := (hI16.yd.bel hb').at HS1.out.2.1
                    cases e4
                    exact ⟨z4, (hb'.cell (p := ⟨g3, o3 + m, none⟩) hg16).trans y3⟩
                  have HG2 := hide (rd_get (w := w16.drew) ((hI16.yd.rd n b s HS1.out.2.1 HS1.out.2.2.1).bel ((Below.refl _ _).drew)) x (by have := HS1.out.2.2.2.2; omega) HS1.out.2.2.2.1.ris)
                  rw [← HD.out.1, ← HD.out.2] at HG2
                  have HI16 := hide hI16
                  clear hI16 hg16
                  go_upto_region 28 with fail
                  go_region_held3 (fun w' => w'.cell? ⟨g1, o1 + n, none⟩ = some (.pointer (some ⟨b, 0, none⟩)) ∧ w'.cell? ⟨g3, o3 + m, none⟩ = some (.string x)) (first | assumption | exact ⟨by assumption, by assumption⟩)
                    (first | (go_at_call 25; refine HG2.out.mono ?_; rintro e w17 ⟨rfl, hB17⟩; obtain ⟨q2, q3⟩ := HK2.out w17 hB17; have HB17 := hide hB17; clear hB17))
                  have HE := hide (And.intro (HI16.out.bel (below_und HB17.out)) ((HTm.out.keep (below_und HB16.out)).keep (below_und HB17.out)))
                  go_wp2
                  exact ⟨⟨m + 1, by omega, by go_num, HE.out⟩, by simp [intOf]; omega⟩
                · obtain rfl : m = ml := by omega
                  have HE := hide hI
                  clear hI hTm
                  go_wp2
                  exact ⟨⟨n + 1, by omega, by go_num, HE.out⟩, by simp [intOf]; omega⟩
            · obtain rfl : n = 3 := by omega
              have HE := hide hI.be
              have HRN := hide (run_nil wr (.slice asv 3 csv) 1)
              clear hI
              go_wp2_with fail
              refine HRN.out.mono ?_
              rintro e w16 ⟨rfl, rfl⟩
              go_wp2
              go_ret
              exact ⟨by simp, HE.out⟩
end
end Go.Proofs.Ytepmhgkegfpmjaa

/-
  Fan: FanCalls: the walk.
-/
import Derived.Test.YtiecoplfiahpnaaGreatFeFxKi2
import Derived.Test.YtiecoplfiahpnaaGreatFc12
namespace Go.Proofs.YtiecoplfiahpnaaGreat
open Go.RowKit Go.Lib Go.Maps
theorem restQ_len (nm : ByteArray) (nn : Int) : (restQ nm nn).length = nst nn + (nst nn + nst nn) := by simp [restQ, aq_len]
theorem ls_at3 {w : World} {r : Nat → Prop} {a : Option Addr} {n c q : Nat} {l : List (RR × Value)} {x : RR × Value} (h : LS x3 3 r w (.slice a n c) l) (hq : l[q]? = some x) : ∃ g o, a = some ⟨g, o, none⟩ ∧ w.cell? ⟨g, o + q * 3, none⟩ = some (.int .i64 x.1.c) ∧ w.cell? ⟨g, o + q * 3 + 1, none⟩ = some (.string x.1.d) := by
  obtain ⟨a8, c8, e8, _, h8⟩ := h
  simp only [Value.slice.injEq] at e8
  obtain ⟨e1, _, _⟩ := e8
  subst e1
  obtain ⟨g, o, rfl, _, hg, hC⟩ := h8.resolve_left (by intro e; rw [e] at hq; simp at hq)
  exact ⟨g, o, rfl, hC q x hq 0 _ rfl, hC q x hq 1 _ rfl⟩
theorem YP.atx {P : Nat → Prop} {w : World} {S : List SS} {bs : List (Nat × Nat)} {a : Option Addr} {n c i : Nat} {e : Nat × Nat} (h : YP P w (.slice a n c) S bs) (he : bs[i]? = some e) : ∃ g o, a = some ⟨g, o, none⟩ ∧ w.cell? ⟨g, o + i, none⟩ = some (.pointer (some ⟨e.1, 0, none⟩)) := by
  obtain ⟨a', c', e', h | ⟨g, o, ea, _, _, hC⟩⟩ := h.rp
  · have : bs = [] := by simpa using h
    rw [this] at he; simp at he
  · cases e'
    exact ⟨g, o, ea, hC i e.1 (by rw [List.getElem?_map, he]; rfl)⟩
theorem YD.atx {P : Nat → Prop} {w : World} {S : List SS} {rs : List Nat} {a : Option Addr} {n c i b : Nat} (h : YD P w (.slice a n c) S rs) (he : rs[i]? = some b) : ∃ g o, a = some ⟨g, o, none⟩ ∧ w.cell? ⟨g, o + i, none⟩ = some (.pointer (some ⟨b, 0, none⟩)) := by
  obtain ⟨a', c', e', h | ⟨g, o, ea, _, _, hC⟩⟩ := h.rp
  · rw [h] at he; simp at he
  · cases e'
    exact ⟨g, o, ea, hC i b he⟩
/-- What the last test keeps. -/
def KL9 (C : World → Prop) (gs os gr or b0 b3 r0 r3 : Nat) (w : World) : Prop :=
  Hid (C w) ∧ w.cell? ⟨gs, os, none⟩ = some (.pointer (some ⟨b0, 0, none⟩)) ∧ w.cell? ⟨gs, os + 3, none⟩ = some (.pointer (some ⟨b3, 0, none⟩)) ∧ w.cell? ⟨gr, or, none⟩ = some (.pointer (some ⟨r0, 0, none⟩)) ∧ w.cell? ⟨gr, or + 3, none⟩ = some (.pointer (some ⟨r3, 0, none⟩))
set_option maxRecDepth 100000 in
set_option maxHeartbeats 12800000 in
theorem calls_walk9 {w : World} {nm : ByteArray} {da : Option Addr} {dc : Nat} {ds : List ByteArray} (nn : Int) (hd : LS t1 1 (fun _ => True) w (.slice da ds.length dc) ds) (hnm : nm.size ≤ maxLen) (hds : ∀ d ∈ ds, d.size ≤ maxLen) :
    Calls Tryz.prog 4 #[.string nm, .slice da ds.length dc, .int .i64 nn] w fun e w' => e = .returned (.bool true) ∧ Below w.heap.size w w' := by
  have hd0 : LS t1 1 (fun i => i < w.heap.size) w (.slice da ds.length dc) ds := hd.old.mono fun i hi => hi.2
  obtain ⟨m, hm⟩ : ∃ m, m = ds.length := ⟨_, rfl⟩
  have HW := hide (fun w => works9 w)
  rw [← hm] at hd0 ⊢
  have HM := hide hm
  have HD := hide (And.intro hd0 (And.intro hnm hds))
  clear hd hd0 hm hnm hds
  go_enter Tryz.func4, Tryz.ntmps4
  go_upto_region 1 with fail
  go_cut [37] (fun t wx => ∃ bb : Bool, t = .bool bb ∧ (bb = false → m ≤ 12 ∧ nst nn ≤ 60) ∧ Below w.heap.size w wx)
  case first =>
    by_cases hbig : (12 : Int) < (m : Int)
    · go_wp2_with fail
      refine (HW.out w).mono ?_
      rintro e w1 ⟨rfl, hb1⟩
      have HB1 := hide hb1
      clear hb1
      go_wp2
      go_meet
      case rel => exact ⟨true, rfl, (fun h => by cases h), HB1.out⟩
    · by_cases hn1 : (60 : Int) < nn
      · by_cases hn2 : nn ≤ 255
        · go_wp2_with fail
          refine (HW.out w).mono ?_
          rintro e w1 ⟨rfl, hb1⟩
          have HB1 := hide hb1
          clear hb1
          go_wp2
          go_meet
          case rel => exact ⟨true, rfl, (fun h => by cases h), HB1.out⟩
        · have HN : Hid (nst nn ≤ 60) := by
            show nst nn ≤ 60
            rw [nst_no nn (by omega)]; omega
          go_wp2_with fail
          refine (HW.out w).mono ?_
          rintro e w1 ⟨rfl, hb1⟩
          have HB1 := hide hb1
          clear hb1
          go_wp2
          go_meet
          case rel => exact ⟨false, by simp; omega, (fun _ => ⟨by omega, HN.out⟩), HB1.out⟩
      · have HN : Hid (nst nn ≤ 60) := by
          show nst nn ≤ 60
          rw [nst]; split <;> omega
        go_wp2_with fail
        refine (HW.out w).mono ?_
        rintro e w1 ⟨rfl, hb1⟩
        have HB1 := hide hb1
        clear hb1
        go_wp2
        go_meet
        case rel => exact ⟨false, by simp; omega, (fun _ => ⟨by omega, HN.out⟩), HB1.out⟩
  case rest =>
    obtain ⟨bb, rfl, hbb, hb1⟩ := hcut
    have HB1 := hide hb1
    clear hb1
    generalize wc = w1 at *
    cases bb
    · have hm12 := (hbb rfl).1
      have HNST := hide (hbb rfl).2
      clear hbb
      go_wp2
      go_loopw [7] (fun i wr => ∃ j : Nat, j ≤ m ∧ i = .int .i64 j ∧ w1 = wr) (fun i _ => m - (intOf i).toNat)
      case atStart => exact ⟨0, Nat.zero_le _, rfl, rfl⟩
      case round =>
        obtain ⟨j, hj, rfl, hwr⟩ := hrel
        subst hwr
        by_cases hlt : j < m
        · have e1 : (j : Int) < (m : Int) := by omega
          have e0 : (0 : Int) ≤ (j : Int) := by omega
          obtain ⟨d, hdx⟩ : ∃ d, ds[j]? = some d := ⟨_, List.getElem?_eq_getElem (by rw [← HM.out]; exact hlt)⟩
          have hd1 := HD.out.1.kb HB1.out.size fun i hi _ => HB1.out.block i hi
          rw [HM.out] at hd1
          obtain ⟨gd, od, rfl, _, ycd⟩ := hd1.at1 hdx rfl
          clear hd1 hdx
          by_cases hd2 : (200 : Int) < (d.size : Int)
          · go_wp2_with fail
            refine (HW.out w1).mono ?_
            rintro e w2 ⟨rfl, hb2⟩
            have HE := hide (HB1.out.trans (hb2.mono HB1.out.size))
            clear hb2
            go_wp2
            go_ret
            exact ⟨rfl, HE.out⟩
          · go_wp2
            exact ⟨⟨j + 1, by omega, by go_num, trivial⟩, by simp [intOf]; omega⟩
        · obtain rfl : m = j := by omega
          go_wp2
          go_loopw [8, 9, 10] (fun sv rv i wr => ∃ (j : Nat) (bs : List (Nat × Nat)) (rs : List Nat), j ≤ 4 ∧ i = .int .i64 j ∧ bs.length = j ∧ rs.length = j ∧ BO w1 wr sv rv bs rs) (fun _ _ i _ => 4 - (intOf i).toNat)
          case atStart => exact ⟨0, [], [], by omega, rfl, rfl, rfl, ⟨OW.nil _ _ _ _ _, OW.nil _ _ _ _ _, fun e he => by simp at he, fun e he => by simp at he, fun i j e f he => by simp at he, fun i j e f he => by simp at he, Below.refl _ _⟩⟩
          case round =>
            obtain ⟨j, bs, rs, hj, rfl, hbl, hrl, hB⟩ := hrel
            obtain ⟨asv, csv, hsv⟩ := hB.s.shp
            obtain ⟨arv, crv, hrv⟩ := hB.r.shp
            rw [List.length_map, hbl] at hsv
            rw [hrl] at hrv
            subst hsv
            subst hrv
            have HB := hide hB
            have HL := hide (And.intro hbl hrl)
            clear hB hbl hrl
            by_cases hlt : j < 4
            · have b1 : (j : Int) < 4 := by omega
              have HN := hide (new_ok 300 wr (by decide) (by decide))
              go_wp2_with fail
              refine HN.out.mono ?_
              rintro e w1 ⟨rfl, hP1, hB1⟩
              have HM := hide (rnew_ok 300 w1 (by decide) (by decide))
              have HF1 := hide (And.intro hP1 hB1)
              clear hP1 hB1
              go_wp2_with fail
              refine HM.out.mono ?_
              rintro e w2 ⟨rfl, hR2, hB2⟩
              obtain ⟨hP1, hB1⟩ := HF1.out
              have hX1 : PX w1 (wr.heap.size + 1) wr.heap.size s0 := hP1
              have hBO2 := (HB.out.bel hB1).bel hB2
              have hws := HB.out.be.size
              have h1s := hP1.lt
              have hlt1 : ∀ e ∈ bs, e.1 < wr.heap.size ∧ e.2 < wr.heap.size := fun e he => ⟨PS.lt (HB.out.px e he).1, PS.mlt (HB.out.px e he).1⟩
              have hlt2 : ∀ b ∈ rs, b < wr.heap.size := fun b hb => (HB.out.rd b hb).1.lt
              obtain ⟨a3, c3, w3, hr3, hBO3, h3s⟩ := hBO2.more (PX.bel hX1 hB2) (by omega) hws (fun e he => by have := hlt1 e he; omega) (by have := HL.out.1; omega)
              rw [HL.out.1] at hr3 hBO3
              have hal2 : Below w2.heap.size w2 (w2.alloc (.cells #[.pointer (some ⟨wr.heap.size + 1, 0, none⟩)] 25)) := (Below.refl _ _).alloc (Nat.le_refl _) _
              have hr2l := hR2.lt
              have hR3 : RSt w3 w1.heap.size 300 0 0 false (.slice none 0 0) := by
                obtain ⟨v', w9, h1, _, h3, _⟩ := OW.app (ST := 23) pp_len (by decide) (fun x _ => pp_one x) Tryz.underlying23 Tryz.infoPs rfl (hBO2.bel hal2).s (LS.one (wr.heap.size + 1) 25 w2 pp 1 (fun _ => True) trivial) (by have := HL.out.1; simp; omega) (by have := HL.out.1; simp; omega) (by simp; omega)
                rw [hr3] at h1
                cases h1
                have hR2' := hR2.bel2 hal2
                refine (h3.block w1.heap.size hR2'.lt (fun e => ?_)).trans hR2'
                obtain ⟨c1, q1⟩ := (hBO2.bel hal2).s.typ _ e.symm
                rw [show (w2.alloc _).heap[w1.heap.size]? = _ from hR2'] at q1
                simp at q1
              obtain ⟨a4, c4, w4, hr4, hBO4⟩ := hBO3.mord hR3 (by omega) (fun e he => by have := hlt2 e he; omega) (by have := HL.out.2; omega)
              rw [HL.out.2] at hr4 hBO4
              have HE := hide hBO4
              obtain ⟨e1, he1⟩ : ∃ e1, e1 = w1.heap.size := ⟨_, rfl⟩
              rw [← he1] at hr4 HE ⊢
              clear hP1 hB1 hX1 hBO2 hws h1s hlt1 hlt2 hBO3 hR3 hBO4 hR2 hB2 HF1 h3s hal2 hr2l he1
              go_wp2_with (first | (at_builtin; refine Lib.wpList_append_run _ rfl _ _ _ _ rfl _ _ rfl rfl _ _ hr3 ?_) | (at_builtin; refine Lib.wpList_append_run _ rfl _ _ _ _ rfl _ _ rfl rfl _ _ hr4 ?_))
              exact ⟨⟨j + 1, bs ++ [(wr.heap.size + 1, wr.heap.size)], rs ++ [e1], by omega, by go_num, by simp [HL.out.1], by simp [HL.out.2], HE.out⟩, by simp [intOf]; omega⟩
            · obtain rfl : j = 4 := by omega
              obtain ⟨A1, A2, A3, A4, S5, S6, S7, SF, hM⟩ := cm_mk nm (ds := ds) (nn := nn) (by have := HM.out; omega) HNST.out
              have HCM := hide hM
              clear hM
              obtain ⟨kb, hkb⟩ : ∃ kb, kb = wr.heap.size := ⟨_, rfl⟩
              obtain ⟨V, hV⟩ : ∃ V, V = wr.alloc (.cells #[.pointer none, .int .i64 nn, .string nm, .slice da m dc, .slice none 0 0, .slice none 0 0, .slice none 0 0, .slice none 0 0, .slice none 0 0] 52) := ⟨_, rfl⟩
              have hBV : Below wr.heap.size wr V := by rw [hV]; exact (Below.refl _ _).alloc (Nat.le_refl _) _
              have hCV : CB V kb (.pointer none) nn nm (.slice da m dc) (.slice none 0 0) (.slice none 0 0) (.slice none 0 0) (.slice none 0 0) (.slice none 0 0) := by rw [hV, hkb]; exact heap_alloc_new wr _
              have hVs : V.heap.size = kb + 1 := by rw [hV, hkb]; simp
              have hwr : Below w.heap.size w wr := HB1.out.trans (HB.out.be.mono HB1.out.size)
              have hwV : Below w.heap.size w V := hwr.trans (hBV.mono hwr.size)
              have hdV : LS t1 1 (fun i => i < w.heap.size) V (.slice da m dc) ds := HD.out.1.kb hwV.size fun i hi _ => hwV.block i hi
              have HS := hide (start_calls hCV hdV (by have := hwr.size; omega))
              obtain ⟨b, hb⟩ : ∃ b, b = V.heap.size := ⟨_, rfl⟩
              rw [← hb] at HS
              have HV := hide hV
              have HK := hide hkb
              have HF0 := hide (And.intro hBV (And.intro hVs hb))
              have hmf : ∀ (fn : Fn) (first cap : Array Value) (w : World), (Instr.makeFunc fn first cap).run Tryz.prog w = .ok (.func fn first cap) w := fun _ _ _ _ => rfl
              clear hBV hCV hVs hwr hwV hdV hb hV hkb
              go_upto_region 18 with fail
              rw [← HV.out, ← HK.out]
              go_wp2_with fail
              refine HS.out.mono ?_
              rintro e w2 ⟨rfl, P, hJJ, hG2, hP2⟩
              have HR : Hid (Calls Tryz.prog 17 #[.pointer (some ⟨b, 0, none⟩), .slice asv 4 csv] w2 fun e w' => ∃ ids tx, e = .returned (.tuple #[.agg #[.int .i64 0, .string ⟨#[]⟩, .int .i64 1, ids, tx, .slice none 0 0, .slice none 0 0], .bool true]) ∧ TS w2.heap.size ids [] w' ∧ TS w2.heap.size tx [] w' ∧ RNX b (FC b kb nn nm (.slice da m dc) (pqn nm ds).length (nst nn)) (pqn nm ds ++ restQ nm nn) P (Ps bs (.slice asv 4 csv)) w2 w' (.slice asv 4 csv) S3 bs) := by
                obtain ⟨hBV, hVs, hb⟩ := HF0.out
                have hkb := HK.out
                have hps : ∀ i, Ps bs (.slice asv 4 csv) i → i < kb := fun i hi => by have := (HB.out.ps hi).2; omega
                have hs2 := hG2.size
                have hl1 : (pqn nm ds ++ restQ nm nn).length ≤ 192 := by
                  have h1 := HCM.out.n1
                  have h2 := HCM.out.m1
                  have h3 := HNST.out
                  rw [List.length_append, restQ_len]; omega
                refine run_jobx (C := fun _ => 0) (N := fun _ => 1) (I := noT) (T := noT) (g := 0) (fkC b kb nn nm (.slice da m dc) (pqn nm ds).length (nst nn)) (fun A P w h => h.fin) hJJ (((HB.out.yp HL.out.1).bel hBV).gs hG2 fun i hi e => ?_) (fun i hi hp => ?_) (fun i hi => ?_) S3_gd (by omega) (by omega) ?_ (by simp [noT]) (by simp [noT])
                · have := hps i hi; omega
                · have := hps i hp; have := hP2 i hi; omega
                · have := hps i hi; omega
                · obtain ⟨_, hnm, hds⟩ := HD.out
                  intro q hq
                  rw [restQ] at hq
                  rcases List.mem_append.1 hq with h | h
                  · exact pqn_sm nm hnm hds q h
                  · rcases List.mem_append.1 h with h | h
                    · exact aq_sm _ _ _ hnm q h
                    · rcases List.mem_append.1 h with h | h
                      · exact aq_sm _ _ _ hnm q h
                      · exact aq_sm _ _ _ hnm q h
              have HF2 := hide (And.intro hG2 hP2)
              clear hJJ hG2 hP2 HS
              go_wp2_with fail
              refine HR.out.mono ?_
              rintro e w3 ⟨ids, tx, rfl, hi, ht, hRN⟩
              obtain ⟨ai, ci, hei⟩ := hi.shp
              obtain ⟨at_, ct, het⟩ := ht.shp
              rw [List.length_nil] at hei het
              obtain ⟨v1, v2, v3, v4, v5, X, hC0⟩ := c0_mk (ids := ids) (tx := tx) HB.out HL.out.2 HB1.out HK.out HF0.out.1 HF0.out.2.1 HF2.out.1 (fun i hi => by rw [← HF0.out.2.2]; exact HF2.out.2 i hi) hRN HCM.out.a HCM.out.n1 HCM.out.n2 HCM.out.n3
              rw [HCM.out.s] at hC0
              obtain ⟨X0, hX0⟩ : ∃ X0, X0 = w3.heap.size := ⟨_, rfl⟩
              subst hei
              subst het
              obtain ⟨W4, hW4⟩ : ∃ W4, W4 = w3.alloc (.cells #[.int .i64 0, .string ⟨#[]⟩, .int .i64 1, .slice ai 0 ci, .slice at_ 0 ct, .slice none 0 0, .slice none 0 0] 56) := ⟨_, rfl⟩
              rw [← hX0, ← hW4] at hC0
              have HX0 := hide hX0
              have HW4 := hide hW4
              have HC0 := hide hC0
              have HP := hide (c0_puts (ds := ds) hC0 HD.out.2.1 HD.out.2.2 (by have := HM.out; omega) HD.out.1 HCM.out.a1 HCM.out.s5)
              clear hi ht hRN hC0 hX0 hW4 HR HF2 HV HB HL HF0
              go_upto_region 19 with fail
              rw [← HW4.out, ← HX0.out]
              clear HW4 HX0
              go_wp2_with fail
              refine HP.out.mono ?_
              rintro e w5 ⟨pv, rfl, hC5, hp5⟩
              have HA2 := hide (c0_all hC5 HD.out.2.1 HCM.out.g5 (by decide) HCM.out.a2 HCM.out.s6)
              have HP5 := hide (And.intro hC5 hp5)
              clear hC5 hp5 HP HC0
              go_wp2_with fail
              refine HA2.out.mono ?_
              rintro e w6 ⟨gv, Xg, rfl, hC6, hg6, xg, _, hG6⟩
              have hp6 := HP5.out.1.ls HP5.out.2 hG6
              have HA3 := hide (c0_all hC6 HD.out.2.1 HCM.out.g6 (by decide) HCM.out.a3 HCM.out.s7)
              have HP6 := hide (And.intro hC6 (And.intro hp6 (And.intro hg6 xg)))
              clear hC6 hg6 xg hG6 hp6 HP5 HA2
              go_wp2_with fail
              refine HA3.out.mono ?_
              rintro e w7 ⟨lv, Xl, rfl, hC7, hl7, xl, ln, hG7⟩
              obtain ⟨hC6, hp6, hg6, xg⟩ := HP6.out
              have hp7 := hC6.ls hp6 hG7
              have hg7 := hC6.ls hg6 hG7
              have HA4 := hide (c0_all hC7 HD.out.2.1 HCM.out.g7 (by decide) HCM.out.a4 HCM.out.sf)
              have HP7 := hide (And.intro hC7 (And.intro hp7 (And.intro hg7 (And.intro xg (And.intro hl7 (And.intro xl ln))))))
              clear hC6 hp6 hg6 xg hC7 hp7 hg7 hl7 xl ln hG7 HP6 HA3
              go_wp2_with fail
              refine HA4.out.mono ?_
              rintro e w8 ⟨ev, Xd, rfl, hC8, he8, xd, _, hG8⟩
              obtain ⟨hC7, hp7, hg7, xg, hl7, xl, ln⟩ := HP7.out
              have hCE := hC8.ce (hC7.ls hp7 hG8) (hC7.ls hg7 hG8) xg (hC7.ls hl7 hG8) xl (fun x hx => hC7.ls (ln x hx) hG8) he8 xd (by have := HCM.out.m1; omega) (by have := HCM.out.n2; have := HNST.out; omega) (by have := HCM.out.n3; have := HNST.out; omega) (by have := HCM.out.n4; have := HNST.out; omega) HCM.out.b5 HCM.out.gf
              have HCE := hide hCE
              have HSL := hide (And.intro HCM.out.sl (And.intro HCM.out.n2 HNST.out))
              clear hC8 he8 xd hG8 hC7 hp7 hg7 xg hl7 xl ln hCE HP7 HA4 HCM
              obtain ⟨kk, hkk⟩ : ∃ kk, kk = A2.length := ⟨_, rfl⟩
              obtain ⟨ag, cg, hgv⟩ := HCE.out.gv.shp
              obtain ⟨a2, c2, hv2⟩ := HCE.out.tl.l2.shp
              have n1 : Xg.length = kk := by rw [hkk, ← HCE.out.xg, List.length_map]
              have n2 : X.length = kk := by rw [hkk, ← HCE.out.tl.x2, List.length_map]
              rw [n1] at hgv
              rw [n2] at hv2
              subst hgv
              subst hv2
              have hkk6 : kk ≤ 60 := by have := HSL.out; omega
              have HNN := hide (And.intro n1 n2)
              clear hkk n1 n2
              obtain ⟨CC, hCC⟩ : ∃ CC : World → Prop, CC = CE w b kb X0 nn nm (.slice da m dc) A1 A2 A3 A4 v1 (.slice a2 kk c2) v3 v4 v5 X (.slice ai 0 ci) (.slice at_ 0 ct) (.slice asv 4 csv) (.slice arv 4 crv) SF bs rs pv (.slice ag kk cg) lv ev Xg Xl Xd := ⟨_, rfl⟩
              rw [← hCC] at HCE
              have HCC := hide hCC
              obtain ⟨L1, hL1⟩ : ∃ L, L = A1.map (·.c) := ⟨_, rfl⟩
              obtain ⟨L3, hL3⟩ : ∃ L, L = A3.map (·.c) := ⟨_, rfl⟩
              obtain ⟨L4, hL4⟩ : ∃ L, L = A4.map (·.c) := ⟨_, rfl⟩
              obtain ⟨LI, hLI⟩ : ∃ L, L = lI A3 := ⟨_, rfl⟩
              have K1 : Hid (∀ w1 v, v = v1 → Hid (CC w1) → Calls Tryz.prog 23 #[v] w1 fun e w' => ∃ u, e = .returned u ∧ Hid (IQ w' u L1) ∧ KQ CC kb X0 v1 (.slice a2 kk c2) v3 v4 v5 w') := fun w1 v hv h => by
                rw [hCC] at h ⊢
                rw [hv, hL1]
                exact ce_codes h.out h.out.tl.l1 (by rw [List.length_map]; exact h.out.b1)
              have K2 : Hid (∀ w1 v u, v = pv → Hid (IQ w1 u L1) → Hid (CC w1) → Calls Tryz.prog 23 #[v] w1 fun e w' => ∃ u', e = .returned u' ∧ Hid (JQ w' u' L1) ∧ Hid (IQ w' u L1) ∧ KQ CC kb X0 v1 (.slice a2 kk c2) v3 v4 v5 w') := fun w1 v u hv hu h => by
                rw [hCC] at h ⊢
                rw [hL1] at hu ⊢
                rw [hv]
                exact ce_codes2 h.out h.out.pv hu
              have K3 : Hid (∀ w1 u v l, Hid (IQ w1 u l) → Hid (JQ w1 v l) → Hid (CC w1) → Calls Tryz.prog 22 #[u, v] w1 fun e w' => e = .returned (.bool true) ∧ KQ CC kb X0 v1 (.slice a2 kk c2) v3 v4 v5 w') := fun w1 u v l hu hv h => by
                rw [hCC] at h ⊢
                exact ce_same h.out hu hv
              have K4 : Hid (∀ w1 v, v = lv → Hid (CC w1) → Calls Tryz.prog 24 #[v] w1 fun e w' => ∃ u, e = .returned u ∧ Hid (TR w' u LI) ∧ KQ CC kb X0 v1 (.slice a2 kk c2) v3 v4 v5 w') := fun w1 v hv h => by
                rw [hCC] at h ⊢
                rw [hv, hLI]
                exact ce_union h.out
              have K5 : Hid (∀ w1 v u, v = v3 → Hid (TR w1 u LI) → Hid (CC w1) → Calls Tryz.prog 11 #[v, u] w1 fun e w' => e = .returned (.bool true) ∧ KQ CC kb X0 v1 (.slice a2 kk c2) v3 v4 v5 w') := fun w1 v u hv hu h => by
                rw [hCC] at h ⊢
                rw [hLI] at hu
                rw [hv]
                exact ce_texts h.out hu
              have K6 : Hid (∀ w1 v, v = v4 → Hid (CC w1) → Calls Tryz.prog 23 #[v] w1 fun e w' => ∃ u, e = .returned u ∧ Hid (IQ w' u L3) ∧ KQ CC kb X0 v1 (.slice a2 kk c2) v3 v4 v5 w') := fun w1 v hv h => by
                rw [hCC] at h ⊢
                rw [hv, hL3]
                exact ce_codes h.out h.out.tl.l4 (by rw [List.length_map]; exact h.out.b3)
              have K7 : Hid (∀ w1 v u, v = lv → Hid (IQ w1 u L3) → Hid (CC w1) → Calls Tryz.prog 25 #[v] w1 fun e w' => ∃ u', e = .returned u' ∧ Hid (CQ w' u' L3) ∧ Hid (IQ w' u L3) ∧ KQ CC kb X0 v1 (.slice a2 kk c2) v3 v4 v5 w') := fun w1 v u hv hu h => by
                rw [hCC] at h ⊢
                rw [hL3] at hu ⊢
                rw [hv]
                exact ce_rcodes h.out h.out.lv h.out.xl hu
              have K8 : Hid (∀ w1 v u l, Hid (CQ w1 v l) → Hid (IQ w1 u l) → Hid (CC w1) → Calls Tryz.prog 23 #[v] w1 fun e w' => ∃ u', e = .returned u' ∧ Hid (JQ w' u' l) ∧ Hid (IQ w' u l) ∧ KQ CC kb X0 v1 (.slice a2 kk c2) v3 v4 v5 w') := fun w1 v u l hv hu h => by
                rw [hCC] at h ⊢
                exact ce_codes2 h.out hv.out hu
              have K10 : Hid (∀ w1 v, v = v5 → Hid (CC w1) → Calls Tryz.prog 23 #[v] w1 fun e w' => ∃ u, e = .returned u ∧ Hid (IQ w' u L4) ∧ KQ CC kb X0 v1 (.slice a2 kk c2) v3 v4 v5 w') := fun w1 v hv h => by
                rw [hCC] at h ⊢
                rw [hv, hL4]
                exact ce_codes h.out h.out.tl.l5 (by rw [List.length_map]; exact h.out.b4)
              have K11 : Hid (∀ w1 v u, v = ev → Hid (IQ w1 u L4) → Hid (CC w1) → Calls Tryz.prog 25 #[v] w1 fun e w' => ∃ u', e = .returned u' ∧ Hid (CQ w' u' L4) ∧ Hid (IQ w' u L4) ∧ KQ CC kb X0 v1 (.slice a2 kk c2) v3 v4 v5 w') := fun w1 v u hv hu h => by
                rw [hCC] at h ⊢
                rw [hL4] at hu ⊢
                rw [hv]
                exact ce_rcodes h.out h.out.ev h.out.xd hu
              obtain ⟨K0, q0, q1, q2, q3, q4, q5⟩ : KQ CC kb X0 v1 (.slice a2 kk c2) v3 v4 v5 w8.drew := by
                have h := HCE.out
                rw [hCC] at h ⊢
                exact (h.bel ((Below.refl _ _).drew)).kq
              clear hL1 hL3 hL4 hLI hCC HCE
              go_upto_region 23 with fail
              go_region_held3 (fun w' => Hid (CC w') ∧ w'.cell? ⟨X0, 2, none⟩ = some (.int .i64 1) ∧ w'.cell? ⟨kb, 4, none⟩ = some v1 ∧ w'.cell? ⟨kb, 5, none⟩ = some (.slice a2 kk c2) ∧ w'.cell? ⟨kb, 6, none⟩ = some v3 ∧ w'.cell? ⟨kb, 7, none⟩ = some v4 ∧ w'.cell? ⟨kb, 8, none⟩ = some v5) (first | assumption | exact ⟨by assumption, by assumption, by assumption, by assumption, by assumption, by assumption, by assumption⟩ | exact ⟨K0, q0, q1, q2, q3, q4, q5⟩)
                (first
                  | (go_at_call 23; refine (K1.out _ _ (by with_reducible rfl) (by first | assumption | exact K0)).mono ?_; rintro e wa ⟨ua, rfl, hau, ha1, ha2, ha3, ha4, ha5, ha6, ha7⟩)
                  | (go_at_call 23; refine (K2.out _ _ _ (by with_reducible rfl) (by assumption) (by assumption)).mono ?_; rintro e wb ⟨ub, rfl, hbu, hbv, hb1, hb2, hb3, hb4, hb5, hb6, hb7⟩)
                  | (go_at_call 23; refine (K6.out _ _ (by with_reducible rfl) (by assumption)).mono ?_; rintro e wd ⟨ud, rfl, hdu, hd1, hd2, hd3, hd4, hd5, hd6, hd7⟩)
                  | (go_at_call 23; refine (K10.out _ _ (by with_reducible rfl) (by assumption)).mono ?_; rintro e we ⟨ue, rfl, heu, he1, he2, he3, he4, he5, he6, he7⟩)
                  | (go_at_call 23; refine (K8.out _ _ _ _ (by assumption) (by assumption) (by assumption)).mono ?_; rintro e wg ⟨ug, rfl, hgu, hgw, hg1, hg2, hg3, hg4, hg5, hg6, hg7⟩)
                  | (go_at_call 22; refine (K3.out _ _ _ _ (by assumption) (by assumption) (by assumption)).mono ?_; rintro e wh ⟨rfl, hh1, hh2, hh3, hh4, hh5, hh6, hh7⟩)
                  | (go_at_call 24; refine (K4.out _ _ (by with_reducible rfl) (by assumption)).mono ?_; rintro e wi ⟨ui, rfl, hiu, hi1, hi2, hi3, hi4, hi5, hi6, hi7⟩)
                  | (go_at_call 11; refine (K5.out _ _ _ (by with_reducible rfl) (by assumption) (by assumption)).mono ?_; rintro e wj ⟨rfl, hj1, hj2, hj3, hj4, hj5, hj6, hj7⟩)
                  | (go_at_call 25; refine (K7.out _ _ _ (by with_reducible rfl) (by assumption) (by assumption)).mono ?_; rintro e wk ⟨uk, rfl, hku, hkw, hk1, hk2, hk3, hk4, hk5, hk6, hk7⟩)
                  | (go_at_call 25; refine (K11.out _ _ _ (by with_reducible rfl) (by assumption) (by assumption)).mono ?_; rintro e wl ⟨ul, rfl, hlu, hlw, hl1, hl2, hl3, hl4, hl5, hl6, hl7⟩))
              have HF := hide hh1
              clear K0 q0 q1 q2 q3 q4 q5 K1 K2 K3 K4 K5 K6 K7 K8 K10 K11 hau ha1 ha2 ha3 ha4 ha5 ha6 ha7 hbu hbv hb1 hb2 hb3 hb4 hb5 hb6 hb7 hdu hd1 hd2 hd3 hd4 hd5 hd6 hd7 heu he1 he2 he3 he4 he5 he6 he7 hgu hgw hg1 hg2 hg3 hg4 hg5 hg6 hg7 hiu hi1 hi2 hi3 hi4 hi5 hi6 hi7 hj1 hj2 hj3 hj4 hj5 hj6 hj7 hku hkw hk1 hk2 hk3 hk4 hk5 hk6 hk7 hlu hlw hl1 hl2 hl3 hl4 hl5 hl6 hl7 hh2 hh3 hh4 hh5 hh6 hh7
              go_wp2
              go_loopw [22] (fun i wx => ∃ q : Nat, q ≤ kk ∧ i = .int .i64 q ∧ CC wx) (fun i _ => kk - (intOf i).toNat)
              case atStart => exact ⟨0, Nat.zero_le _, rfl, HF.out.out⟩
              case round =>
                obtain ⟨q, hq, rfl, hI0⟩ := hrel
                have HI := hide hI0
                clear hI0 HF
                have hI := HI.out
                rw [HCC.out] at hI
                by_cases hqk : q < kk
                · have e1 : (q : Int) < (kk : Int) := by omega
                  have e0 : (0 : Int) ≤ (q : Int) := by omega
                  obtain ⟨x, hx⟩ : ∃ x, Xg[q]? = some x := ⟨_, List.getElem?_eq_getElem (by rw [HNN.out.1]; exact hqk)⟩
                  obtain ⟨y, hy⟩ : ∃ y, X[q]? = some y := ⟨_, List.getElem?_eq_getElem (by rw [HNN.out.2]; exact hqk)⟩
                  have hxy : y.1 = x.1 := by
                    have h1 : (X.map (·.1))[q]? = (Xg.map (·.1))[q]? := by rw [hI.tl.x2, hI.xg]
                    rw [List.getElem?_map, List.getElem?_map, hx, hy] at h1
                    simpa using h1
                  obtain ⟨g1, o1, rfl, z0, z1⟩ := ls_at3 hI.gv hx
                  obtain ⟨g2, o2, rfl, t0, t1⟩ := ls_at3 hI.tl.l2 hy
                  rw [hxy] at t0 t1
                  have y5 : wr.drew.cell? ⟨kb, 5, none⟩ = some (.slice (some ⟨g2, o2, none⟩) kk c2) := hI.tl.cb.cell 5
                  have HC2 : Hid (CC wr.drew) := by
                    show CC wr.drew
                    rw [HCC.out]; exact hI.bel ((Below.refl _ _).drew)
                  obtain ⟨cc, hcc⟩ : ∃ cc, cc = x.1.c := ⟨_, rfl⟩
                  obtain ⟨dd, hdd⟩ : ∃ dd, dd = x.1.d := ⟨_, rfl⟩
                  rw [← hcc] at z0 t0
                  rw [← hdd] at z1 t1
                  have z0' : wr.drew.cell? ⟨g1, o1 + q * 3, none⟩ = some (.int .i64 cc) := z0
                  have z1' : wr.drew.cell? ⟨g1, o1 + q * 3 + 1, none⟩ = some (.string dd) := z1
                  have t0' : wr.drew.cell? ⟨g2, o2 + q * 3, none⟩ = some (.int .i64 cc) := t0
                  have t1' : wr.drew.cell? ⟨g2, o2 + q * 3 + 1, none⟩ = some (.string dd) := t1
                  clear hI hx hy hxy hcc hdd z0 z1 t0 t1 HI
                  go_upto_region 28 with fail
                  go_region_held3 (fun w' => w'.cell? ⟨kb, 5, none⟩ = some (.slice (some ⟨g2, o2, none⟩) kk c2) ∧ w'.cell? ⟨g1, o1 + q * 3, none⟩ = some (.int .i64 cc) ∧ w'.cell? ⟨g1, o1 + q * 3 + 1, none⟩ = some (.string dd) ∧ w'.cell? ⟨g2, o2 + q * 3, none⟩ = some (.int .i64 cc) ∧ w'.cell? ⟨g2, o2 + q * 3 + 1, none⟩ = some (.string dd)) (first | assumption | exact ⟨y5, z0', z1', t0', t1'⟩) (fail)
                  clear y5 z0' z1' t0' t1'
                  go_wp2
                  exact ⟨⟨q + 1, by omega, by go_num, HC2.out⟩, by simp [intOf]; omega⟩
                · obtain rfl : kk = q := by omega
                  have hCC := HCC.out
                  have hbl : bs.length = 4 := hI.y.len.trans HSL.out.1
                  have hrl : rs.length = 4 := hI.d.len.trans HSL.out.1
                  have hsl := HSL.out.1
                  obtain ⟨⟨b0, m0⟩, hb0x⟩ : ∃ e, bs[0]? = some e := ⟨_, List.getElem?_eq_getElem (by omega)⟩
                  obtain ⟨⟨b3, m3⟩, hb3x⟩ : ∃ e, bs[3]? = some e := ⟨_, List.getElem?_eq_getElem (by omega)⟩
                  obtain ⟨r0, hr0x⟩ : ∃ e, rs[0]? = some e := ⟨_, List.getElem?_eq_getElem (by omega)⟩
                  obtain ⟨r3, hr3x⟩ : ∃ e, rs[3]? = some e := ⟨_, List.getElem?_eq_getElem (by omega)⟩
                  obtain ⟨s0, hs0x⟩ : ∃ e, SF[0]? = some e := ⟨_, List.getElem?_eq_getElem (by omega)⟩
                  obtain ⟨s3, hs3x⟩ : ∃ e, SF[3]? = some e := ⟨_, List.getElem?_eq_getElem (by omega)⟩
                  obtain ⟨gs, os, rfl, _⟩ := hI.y.atx hb0x
                  obtain ⟨gr, or, rfl, _⟩ := hI.d.atx hr0x
                  have hg0x := hI.gd s0 (List.mem_of_getElem? hs0x)
                  have hg3x := hI.gd s3 (List.mem_of_getElem? hs3x)
                  have hu0x : usedL s0.L ≤ 1000000000000 := by
                    have := used_bound hg0x.sm
                    have h2 : s0.L.length * 131168 ≤ 1000 * 131168 := Nat.mul_le_mul_right _ hg0x.len
                    omega
                  have hu3x : usedL s3.L ≤ 1000000000000 := by
                    have := used_bound hg3x.sm
                    have h2 : s3.L.length * 131168 ≤ 1000 * 131168 := Nat.mul_le_mul_right _ hg3x.len
                    omega
                  obtain ⟨ua0, hua0⟩ : ∃ u, u = usedL s0.L := ⟨_, rfl⟩
                  obtain ⟨ua3, hua3⟩ : ∃ u, u = usedL s3.L := ⟨_, rfl⟩
                  have kp : ∀ wx, CC wx → KL9 CC gs os gr or b0 b3 r0 r3 wx := fun wx h => by
                    have h' := h
                    rw [hCC] at h'
                    obtain ⟨_, _, ea, k1⟩ := h'.y.atx hb0x
                    obtain ⟨_, _, eb, k2⟩ := h'.y.atx hb3x
                    obtain ⟨_, _, ec, k3⟩ := h'.d.atx hr0x
                    obtain ⟨_, _, ed, k4⟩ := h'.d.atx hr3x
                    cases ea
                    cases eb
                    cases ec
                    cases ed
                    exact ⟨h, k1, k2, k3, k4⟩
                  have KU0 : Hid (∀ w1 v, v = .pointer (some ⟨b0, 0, none⟩) → Hid (CC w1) → Calls Tryz.prog 14 #[v] w1 fun e w' => e = .returned (.int .i64 (ua0 : Int)) ∧ KL9 CC gs os gr or b0 b3 r0 r3 w') := fun w1 v hv h => by
                    have h' := h.out
                    rw [hCC] at h'
                    rw [hv, hua0]
                    refine (used_any (h'.y.px 0 (b0, m0) s0 hb0x hs0x)).mono ?_
                    rintro e w' ⟨rfl, rfl⟩
                    exact ⟨rfl, kp _ h.out⟩
                  have KU3 : Hid (∀ w1 v, v = .pointer (some ⟨b3, 0, none⟩) → Hid (CC w1) → Calls Tryz.prog 14 #[v] w1 fun e w' => e = .returned (.int .i64 (ua3 : Int)) ∧ KL9 CC gs os gr or b0 b3 r0 r3 w') := fun w1 v hv h => by
                    have h' := h.out
                    rw [hCC] at h'
                    rw [hv, hua3]
                    refine (used_any (h'.y.px 3 (b3, m3) s3 hb3x hs3x)).mono ?_
                    rintro e w' ⟨rfl, rfl⟩
                    exact ⟨rfl, kp _ h.out⟩
                  have KV0 : Hid (∀ w1 v, v = .pointer (some ⟨r0, 0, none⟩) → Hid (CC w1) → Calls Tryz.prog 15 #[v] w1 fun e w' => e = .returned (.int .i64 (ua0 : Int)) ∧ KL9 CC gs os gr or b0 b3 r0 r3 w') := fun w1 v hv h => by
                    have h' := h.out
                    rw [hCC] at h'
                    rw [hv, hua0]
                    obtain ⟨v', hR, hO⟩ := h'.d.rd 0 r0 s0 hr0x hs0x
                    refine (rused_any hR hO.ol (by have := hg0x.len; omega) hu0x).mono ?_
                    rintro e w' ⟨rfl, hb⟩
                    exact ⟨rfl, kp _ (by rw [hCC]; exact h'.bel hb)⟩
                  have KV3 : Hid (∀ w1 v, v = .pointer (some ⟨r3, 0, none⟩) → Hid (CC w1) → Calls Tryz.prog 15 #[v] w1 fun e w' => e = .returned (.int .i64 (ua3 : Int)) ∧ KL9 CC gs os gr or b0 b3 r0 r3 w') := fun w1 v hv h => by
                    have h' := h.out
                    rw [hCC] at h'
                    rw [hv, hua3]
                    obtain ⟨v', hR, hO⟩ := h'.d.rd 3 r3 s3 hr3x hs3x
                    refine (rused_any hR hO.ol (by have := hg3x.len; omega) hu3x).mono ?_
                    rintro e w' ⟨rfl, hb⟩
                    exact ⟨rfl, kp _ (by rw [hCC]; exact h'.bel hb)⟩
                  obtain ⟨K0, q0, q1, q2, q3⟩ := kp wr.drew (by rw [hCC]; exact hI.bel ((Below.refl _ _).drew))
                  have HBE : Hid (∀ wx, CC wx → Below w.heap.size w wx) := fun wx h => by
                    rw [hCC] at h
                    exact h.be
                  clear hI hCC hbl hrl hsl hb0x hb3x hr0x hr3x hs0x hs3x hg0x hg3x hu0x hu3x hua0 hua3 kp HI HCC
                  go_upto_region 30 with fail
                  go_region_held3 (fun w' => Hid (CC w') ∧ w'.cell? ⟨gs, os, none⟩ = some (.pointer (some ⟨b0, 0, none⟩)) ∧ w'.cell? ⟨gs, os + 3, none⟩ = some (.pointer (some ⟨b3, 0, none⟩)) ∧ w'.cell? ⟨gr, or, none⟩ = some (.pointer (some ⟨r0, 0, none⟩)) ∧ w'.cell? ⟨gr, or + 3, none⟩ = some (.pointer (some ⟨r3, 0, none⟩))) (first | assumption | exact ⟨by assumption, by assumption, by assumption, by assumption, by assumption⟩ | exact ⟨K0, q0, q1, q2, q3⟩)
                    (first
                      | (go_at_call 14; refine (KU0.out _ _ (by with_reducible rfl) (by first | assumption | exact K0)).mono ?_; rintro e wa ⟨rfl, ha1, ha2, ha3, ha4, ha5⟩)
                      | (go_at_call 15; refine (KV0.out _ _ (by with_reducible rfl) (by assumption)).mono ?_; rintro e wb ⟨rfl, hb1, hb2, hb3, hb4, hb5⟩)
                      | (go_at_call 14; refine (KU3.out _ _ (by with_reducible rfl) (by assumption)).mono ?_; rintro e wc ⟨rfl, hc1, hc2, hc3, hc4, hc5⟩)
                      | (go_at_call 15; refine (KV3.out _ _ (by with_reducible rfl) (by assumption)).mono ?_; rintro e wd ⟨rfl, hd1, hd2, hd3, hd4, hd5⟩))
                  have HE := hide (HBE.out _ hd1.out)
                  clear K0 q0 q1 q2 q3 KU0 KU3 KV0 KV3 ha1 ha2 ha3 ha4 ha5 hb1 hb2 hb3 hb4 hb5 hc1 hc2 hc3 hc4 hc5 hd1 hd2 hd3 hd4 hd5 HBE
                  go_wp2
                  go_ret
                  exact ⟨by simp, HE.out⟩
    · go_wp2_with fail
      refine (HW.out w1).mono ?_
      rintro e w2 ⟨rfl, hb2⟩
      have HE := hide (HB1.out.trans (hb2.mono HB1.out.size))
      clear hb2
      go_wp2
      go_ret
      exact ⟨rfl, HE.out⟩
end Go.Proofs.YtiecoplfiahpnaaGreat

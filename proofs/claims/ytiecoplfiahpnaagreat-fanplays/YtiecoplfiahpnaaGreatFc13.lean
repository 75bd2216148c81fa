/-
  Contracts of the program and of the statements (part 13 of 13).
-/
import Derived.Test.YtiecoplfiahpnaaGreatFc12

namespace Go.Proofs.YtiecoplfiahpnaaGreat
open Go.RowKit Go.Lib Go.Maps
/-- What holds along the acts. -/
structure PL9 (w wr : World) (sv rv : Value) (S : List SS) (bs : List (Nat × Nat)) (rs : List Nat) (t : Nat) : Prop where
  y : BY w.heap.size wr sv rv S S bs rs
  g : GD t S
  n : S.length = 4
  be : Below w.heap.size w wr
theorem PL9.bel {w wr w' : World} {sv rv : Value} {S : List SS} {bs : List (Nat × Nat)} {rs : List Nat} {t : Nat} (h : PL9 w wr sv rv S bs rs t) (hb : Below wr.heap.size wr w') : PL9 w w' sv rv S bs rs t :=
  ⟨h.y.bel hb, h.g, h.n, h.be.trans (hb.mono h.be.size)⟩
theorem PL9.next {w wr : World} {sv rv : Value} {S : List SS} {bs : List (Nat × Nat)} {rs : List Nat} {t : Nat} (h : PL9 w wr sv rv S bs rs t) : PL9 w wr sv rv S bs rs (t + 1) :=
  ⟨h.y, fun s hs => (h.g s hs).mono (by omega), h.n, h.be⟩
theorem YP.at9 {P : Nat → Prop} {w : World} {S : List SS} {bs : List (Nat × Nat)} {a : Option Addr} {n c i : Nat} {e : Nat × Nat} (h : YP P w (.slice a n c) S bs) (he : bs[i]? = some e) : ∃ g o, a = some ⟨g, o, none⟩ ∧ w.cell? ⟨g, o + i, none⟩ = some (.pointer (some ⟨e.1, 0, none⟩)) := by
  obtain ⟨a', c', e', h | ⟨g, o, ea, _, _, hC⟩⟩ := h.rp
  · have : bs = [] := by simpa using h
    rw [this] at he; simp at he
  · cases e'
    exact ⟨g, o, ea, hC i e.1 (by rw [List.getElem?_map, he]; rfl)⟩
theorem YD.at9 {P : Nat → Prop} {w : World} {S : List SS} {rs : List Nat} {a : Option Addr} {n c i b : Nat} (h : YD P w (.slice a n c) S rs) (he : rs[i]? = some b) : ∃ g o, a = some ⟨g, o, none⟩ ∧ w.cell? ⟨g, o + i, none⟩ = some (.pointer (some ⟨b, 0, none⟩)) := by
  obtain ⟨a', c', e', h | ⟨g, o, ea, _, _, hC⟩⟩ := h.rp
  · rw [h] at he; simp at he
  · cases e'
    exact ⟨g, o, ea, hC i b he⟩
theorem ls_at {w : World} {r : Nat → Prop} {da : Option Addr} {m dc p : Nat} {ds : List ByteArray} {d : ByteArray} (h : LS t1 1 r w (.slice da m dc) ds) (hp : ds[p]? = some d) : ∃ gd od, da = some ⟨gd, od, none⟩ ∧ gd < w.heap.size ∧ w.cell? ⟨gd, od + p, none⟩ = some (.string d) := by
  obtain ⟨a8, c8, e8, _, h8⟩ := h
  simp only [Value.slice.injEq] at e8
  obtain ⟨e1, _, _⟩ := e8
  subst e1
  obtain ⟨g, o, rfl, _, hg, hC⟩ := h8.resolve_left (by intro e; rw [e] at hp; simp at hp)
  have := hC p d hp 0 _ rfl
  rw [Nat.mul_one, Nat.add_zero] at this
  exact ⟨g, o, rfl, hg, this⟩
theorem PL9.fault {w V : World} {sv rv : Value} {S : List SS} {bs : List (Nat × Nat)} {rs : List Nat} {t q b mb rb Y : Nat} {s : SS} {cs : Array Value} (h : PL9 w V sv rv S bs rs t) (he : bs[q]? = some (b, mb)) (hr : rs[q]? = some rb) (hs : S[q]? = some s) (hA : V.heap[Y]? = some (.cells cs 35 (0, 0))) (kind : Int) :
    Calls Tryz.prog 9 #[.pointer (some ⟨b, 0, none⟩), .pointer (some ⟨rb, 0, none⟩), .int .i64 kind] V fun e w' => e = .returned (.tuple #[]) ∧ PL9 w w' sv rv (S.set q (fltS s (amg kind 5))) bs rs t ∧ w'.heap[Y]? = some (.cells cs 35 (0, 0)) := by
  have hPX : PX V b mb s := h.y.y.px q (b, mb) s he hs
  have hRD : RD V rb s := h.y.d.rd q rb s hr hs
  have hP : PS V b mb s.q s.f s.off s.m s.L := hPX
  obtain ⟨cr, hblk⟩ := hRD.blk
  have m1 : Ps bs sv b := .inl ⟨(b, mb), List.mem_of_getElem? he, .inl rfl⟩
  have m2 : Ps bs sv mb := .inl ⟨(b, mb), List.mem_of_getElem? he, .inr rfl⟩
  have m3 : Pd rs rv rb := .inl (List.mem_of_getElem? hr)
  refine (fault9 hPX hRD kind).mono ?_
  rintro e w' ⟨rfl, hX, hR, hG⟩
  refine ⟨rfl, ⟨h.y.flt he hr hs hG hX hR, h.g.flt hs _, by rw [List.length_set]; exact h.n, hG.below h.be h.be.size fun i hi => ?_⟩, (hG.block Y (lt_of_block hA) ?_).trans hA⟩
  · rcases hi with q | q | q
    · rw [q]; exact (h.y.pl b m1).1
    · rw [q]; exact (h.y.pl mb m2).1
    · rw [q]; exact (h.y.dl rb m3).1
  · rintro (q | q | q)
    · rw [q, hP.blk] at hA; simp at hA
    · rw [q] at hA; exact hP.map.notCells hA
    · rw [q, hblk] at hA; simp at hA
/-- What the loop over the stores keeps. -/
def KP (w wx : World) (sv rv : Value) (S : List SS) (bs : List (Nat × Nat)) (rs : List Nat) (t gs os gr or p b rb : Nat) (m : Int) : Prop :=
  Hid (PL9 w wx sv rv S bs rs t) ∧ wx.cell? ⟨gs, os + p, none⟩ = some (.pointer (some ⟨b, 0, none⟩)) ∧ wx.cell? ⟨gr, or + p, none⟩ = some (.pointer (some ⟨rb, 0, none⟩)) ∧ wx.cell? ⟨rb, 2, none⟩ = some (.int .i64 m)
section
variable {w wx : World} {S : List SS} {bs : List (Nat × Nat)} {rs : List Nat} {t gs os gr or p b mb rb n c n' c' : Nat} {s : SS}
theorem PL9.kp (h : PL9 w wx (.slice (some ⟨gs, os, none⟩) n c) (.slice (some ⟨gr, or, none⟩) n' c') S bs rs t) (he : bs[p]? = some (b, mb)) (hr : rs[p]? = some rb) (hs : S[p]? = some s) : KP w wx (.slice (some ⟨gs, os, none⟩) n c) (.slice (some ⟨gr, or, none⟩) n' c') S bs rs t gs os gr or p b rb s.m := by
  obtain ⟨g1, o1, e1, h1⟩ := h.y.y.at9 he
  obtain ⟨g2, o2, e2, h2⟩ := h.y.d.at9 hr
  obtain ⟨v, hR, _⟩ := h.y.d.rd p rb s hr hs
  cases e1
  cases e2
  exact ⟨h, h1, h2, hR.c2⟩
end
set_option maxRecDepth 100000 in
set_option maxHeartbeats 12800000 in
theorem plays_walk9 {w : World} {va : Option Addr} {vc : Nat} {l : List AX} (hT : LS a6 6 (fun _ => True) w (.slice va l.length vc) l) (hl : l.length ≤ 9223372036854775807) (hA : ∀ x ∈ l, LS t1 1 (fun _ => True) w x.dv x.ds ∧ x.nm.size ≤ maxLen ∧ (∀ b ∈ x.ds, b.size ≤ maxLen) ∧ x.ds.length * 16 + 16 ≤ 140737488355328) :
    Calls Tryz.prog 3 #[.slice va l.length vc] w fun e w' => e = .returned (.bool true) ∧ Below w.heap.size w w' := by
  obtain ⟨a9, c9, e9, _, h9⟩ := hT
  simp only [Value.slice.injEq, true_and] at e9
  obtain ⟨e1, e2⟩ := e9
  subst e1
  subst e2
  obtain ⟨N, hN⟩ : ∃ N, N = l.length := ⟨_, rfl⟩
  rw [← hN] at hl ⊢
  have HN := hide hN
  have HT := hide h9
  have HA := hide hA
  clear h9 hN hA
  go_enter Tryz.func3, Tryz.ntmps3
  go_wp2
  go_loopw [3, 4, 5] (fun sv rv i wr => ∃ (j : Nat) (bs : List (Nat × Nat)) (rs : List Nat), j ≤ 4 ∧ i = .int .i64 j ∧ bs.length = j ∧ rs.length = j ∧ BO w wr sv rv bs rs) (fun _ _ i _ => 4 - (intOf i).toNat)
  case atStart => exact ⟨0, [], [], by omega, rfl, rfl, rfl, ⟨OW.nil _ _ _ _ _, OW.nil _ _ _ _ _, fun e he => by simp at he, fun e he => by simp at he, fun i j e f he => by simp at he, fun i j e f he => by simp at he, Below.refl _ _⟩⟩
  case round =>
    obtain ⟨j, bs, rs, hj, rfl, hbl, hrl, hB⟩ := hrel
    obtain ⟨asv, csv, hsv⟩ := hB.s.shp
    obtain ⟨arv, crv, hrv⟩ := hB.r.shp
    rw [List.length_map, hbl] at hsv
    rw [hrl] at hrv
    subst hsv
    subst hrv
    have HB := hide hB
    have HL := hide (And.intro hbl hrl)
    clear hB hbl hrl
    by_cases hlt : j < 4
    · have b1 : (j : Int) < 4 := by omega
      have HN := hide (new_ok 300 wr (by decide) (by decide))
      go_wp2_with fail
      refine HN.out.mono ?_
      rintro e w1 ⟨rfl, hP1, hB1⟩
      have HM := hide (rnew_ok 300 w1 (by decide) (by decide))
      have HF1 := hide (And.intro hP1 hB1)
      clear hP1 hB1
      go_wp2_with fail
      refine HM.out.mono ?_
      rintro e w2 ⟨rfl, hR2, hB2⟩
      obtain ⟨hP1, hB1⟩ := HF1.out
      have hX1 : PX w1 (wr.heap.size + 1) wr.heap.size s0 := hP1
      have hBO2 := (HB.out.bel hB1).bel hB2
      have hws := HB.out.be.size
      have h1s := hP1.lt
      have hlt1 : ∀ e ∈ bs, e.1 < wr.heap.size ∧ e.2 < wr.heap.size := fun e he => ⟨PS.lt (HB.out.px e he).1, PS.mlt (HB.out.px e he).1⟩
      have hlt2 : ∀ b ∈ rs, b < wr.heap.size := fun b hb => (HB.out.rd b hb).1.lt
      obtain ⟨a3, c3, w3, hr3, hBO3, h3s⟩ := hBO2.more (PX.bel hX1 hB2) (by omega) hws (fun e he => by have := hlt1 e he; omega) (by have := HL.out.1; omega)
      rw [HL.out.1] at hr3 hBO3
      have hal2 : Below w2.heap.size w2 (w2.alloc (.cells #[.pointer (some ⟨wr.heap.size + 1, 0, none⟩)] 25)) := (Below.refl _ _).alloc (Nat.le_refl _) _
      have hr2l := hR2.lt
      have hR3 : RSt w3 w1.heap.size 300 0 0 false (.slice none 0 0) := by
        obtain ⟨v', w9, h1, _, h3, _⟩ := OW.app (ST := 23) pp_len (by decide) (fun x _ => pp_one x) Tryz.underlying23 Tryz.infoPs rfl (hBO2.bel hal2).s (LS.one (wr.heap.size + 1) 25 w2 pp 1 (fun _ => True) trivial) (by have := HL.out.1; simp; omega) (by have := HL.out.1; simp; omega) (by simp; omega)
        rw [hr3] at h1
        cases h1
        have hR2' := hR2.bel2 hal2
        refine (h3.block w1.heap.size hR2'.lt (fun e => ?_)).trans hR2'
        obtain ⟨c1, q1⟩ := (hBO2.bel hal2).s.typ _ e.symm
        rw [show (w2.alloc _).heap[w1.heap.size]? = _ from hR2'] at q1
        simp at q1
      obtain ⟨a4, c4, w4, hr4, hBO4⟩ := hBO3.mord hR3 (by omega) (fun e he => by have := hlt2 e he; omega) (by have := HL.out.2; omega)
      rw [HL.out.2] at hr4 hBO4
      have HE := hide hBO4
      obtain ⟨e1, he1⟩ : ∃ e1, e1 = w1.heap.size := ⟨_, rfl⟩
      rw [← he1] at hr4 HE ⊢
      clear hP1 hB1 hX1 hBO2 hws h1s hlt1 hlt2 hBO3 hR3 hBO4 hR2 hB2 HF1 h3s hal2 hr2l he1
      go_wp2_with (first | (at_builtin; refine Lib.wpList_append_run _ rfl _ _ _ _ rfl _ _ rfl rfl _ _ hr3 ?_) | (at_builtin; refine Lib.wpList_append_run _ rfl _ _ _ _ rfl _ _ rfl rfl _ _ hr4 ?_))
      exact ⟨⟨j + 1, bs ++ [(wr.heap.size + 1, wr.heap.size)], rs ++ [e1], by omega, by go_num, by simp [HL.out.1], by simp [HL.out.2], HE.out⟩, by simp [intOf]; omega⟩
    · obtain rfl : j = 4 := by omega
      have HW := hide (works9 wr)
      go_wp2_with fail
      refine HW.out.mono ?_
      rintro e w1 ⟨rfl, hb1⟩
      have HP1 : Hid (PL9 w w1 (.slice asv 4 csv) (.slice arv 4 crv) S3 bs rs 0) := ⟨(HB.out.by HL.out.1 HL.out.2).bel hb1, S3_gd, rfl, HB.out.be.trans (hb1.mono HB.out.be.size)⟩
      clear hb1 HW HB HL
      go_wp2
      go_loopw [10] (fun i wr => ∃ (j : Nat) (S : List SS), j ≤ N ∧ j ≤ 30 ∧ i = .int .i64 j ∧ PL9 w wr (.slice asv 4 csv) (.slice arv 4 crv) S bs rs j) (fun i _ => 31 - (intOf i).toNat)
      case atStart => exact ⟨0, _, Nat.zero_le _, by omega, rfl, HP1.out⟩
      case round =>
        obtain ⟨j, S, hj, hj8, rfl, hI⟩ := hrel
        have HI := hide hI
        clear hI HP1
        by_cases hlt : j < N ∧ j < 30
        · obtain ⟨hlt, hlt8⟩ := hlt
          have b1 : (j : Int) < (N : Int) := by omega
          have b0 : (0 : Int) ≤ (j : Int) := by omega
          have b2 : (j : Int) < 30 := by omega
          have hjl : j < l.length := by rw [← HN.out]; omega
          obtain ⟨x, hx⟩ : ∃ x, l[j]? = some x := ⟨_, List.getElem?_eq_getElem hjl⟩
          obtain ⟨hd, hnm, hds, hdn⟩ := HA.out x (List.mem_of_getElem? hx)
          obtain ⟨g, o, rfl, _, hg, hC⟩ := HT.out.resolve_left (by intro e; rw [e] at hx; simp at hx)
          have hbe := HI.out.be
          obtain ⟨xk, xn, xa, xf, nm, da, dc, ds⟩ := x
          have hd1 : LS t1 1 (fun i => i < w.heap.size) w (.slice da ds.length dc) ds := LS.mono hd.old fun i hi => hi.2
          dsimp only at hnm hds hdn
          have y0 := (hbe.cell (p := ⟨g, o + j * 6, none⟩) hg).trans (hC j _ hx 0 _ rfl)
          have y1 := (hbe.cell (p := ⟨g, o + j * 6 + 1, none⟩) hg).trans (hC j _ hx 1 _ rfl)
          have y2 := (hbe.cell (p := ⟨g, o + j * 6 + 2, none⟩) hg).trans (hC j _ hx 2 _ rfl)
          have y3 := (hbe.cell (p := ⟨g, o + j * 6 + 3, none⟩) hg).trans (hC j _ hx 3 _ rfl)
          have y4 := (hbe.cell (p := ⟨g, o + j * 6 + 4, none⟩) hg).trans (hC j _ hx 4 _ rfl)
          have y5 : wr.cell? ⟨g, o + j * 6 + 5, none⟩ = some (.slice da ds.length dc) := (hbe.cell (p := ⟨g, o + j * 6 + 5, none⟩) hg).trans (hC j _ hx 5 _ rfl)
          obtain ⟨m, hm⟩ : ∃ m, m = ds.length := ⟨_, rfl⟩
          rw [← hm] at y5 hd1 hdn
          have hml : m ≤ 140737488355328 := by omega
          have HX := hide (And.intro hd1 (And.intro hnm (And.intro hds (And.intro hdn hm))))
          clear hC hx hbe hjl hd hnm hds hdn hd1 hm
          obtain ⟨V, hV⟩ : ∃ V, V = wr.alloc (.cells #[.int .i64 xk, .int .i64 xn, .int .i64 xa, .int .i64 xf, .string nm, .slice da m dc] 35) := ⟨_, rfl⟩
          obtain ⟨Y, hY⟩ : ∃ Y, Y = wr.heap.size := ⟨_, rfl⟩
          have hBV : Below wr.heap.size wr V := by rw [hV]; exact (Below.refl _ _).alloc (Nat.le_refl _) _
          have hAV : V.heap[Y]? = some (.cells #[.int .i64 xk, .int .i64 xn, .int .i64 xa, .int .i64 xf, .string nm, .slice da m dc] 35 (0, 0)) := by rw [hV, hY]; exact heap_alloc_new wr _
          have v2 : V.cell? ⟨Y, 2, none⟩ = some (.int .i64 xa) := by simp [World.cell?, hAV]
          have v5 : V.cell? ⟨Y, 5, none⟩ = some (.slice da m dc) := by simp [World.cell?, hAV]
          have HV := hide (And.intro (HI.out.bel hBV) hAV)
          have HV1 := hide hV
          have HY1 := hide hY
          clear hV hY hBV hAV
          by_cases hbig : (12 : Int) < (m : Int) ∧ (m : Int) ≤ 255
          · obtain ⟨hb1, hb2⟩ := hbig
            go_upto_region 16 with fail
            rw [← HV1.out, ← HY1.out]
            go_wp2
            exact ⟨⟨j + 1, S, by omega, by omega, by go_num, HV.out.1.next⟩, by simp [intOf]; omega⟩
          · have hsm : ¬ (12 : Int) < (m : Int) ∨ ((12 : Int) < (m : Int) ∧ ¬ (m : Int) ≤ 255) := by omega
            rcases hsm with hsm | ⟨hsm, hsm2⟩ <;> (
              go_upto_region 16 with fail
              rw [← HV1.out, ← HY1.out]
              go_wp2
              clear v2
              go_loopw [12, 13] (fun lg i wx => ∃ (p : Nat) (bb : Bool), p ≤ m ∧ lg = .bool bb ∧ i = .int .i64 p ∧ V = wx) (fun _ i _ => m - (intOf i).toNat)
              case atStart => exact ⟨0, false, Nat.zero_le _, rfl, rfl, rfl⟩
              case round =>
                obtain ⟨p, bb, hp, rfl, rfl, hwx⟩ := hrel
                subst hwx
                by_cases hpl : p < m
                · have e1 : (p : Int) < (m : Int) := by omega
                  have e0 : (0 : Int) ≤ (p : Int) := by omega
                  have e2 : (p : Int) + 1 ≤ 9223372036854775807 := by omega
                  cases bb
                  · obtain ⟨hd1, _, hds, _, hm⟩ := HX.out
                    obtain ⟨d, hdx⟩ : ∃ d, ds[p]? = some d := ⟨_, List.getElem?_eq_getElem (by omega)⟩
                    have hdz := hds d (List.mem_of_getElem? hdx)
                    obtain ⟨gd, od, rfl, hgd, hcd⟩ := ls_at hd1 hdx
                    have ycd := (HV.out.1.be.cell (p := ⟨gd, od + p, none⟩) hgd).trans hcd
                    clear hd1 hds hm hdx hgd hcd
                    by_cases hd2 : (200 : Int) < (d.size : Int)
                    · go_wp2
                      exact ⟨⟨p + 1, true, by omega, rfl, by go_num, trivial⟩, by simp [intOf]; omega⟩
                    · go_wp2
                      exact ⟨⟨p + 1, false, by omega, rfl, by go_num, trivial⟩, by simp [intOf]; omega⟩
                  · go_wp2
                    exact ⟨⟨p + 1, true, by omega, rfl, by go_num, trivial⟩, by simp [intOf]; omega⟩
                · obtain rfl : p = m := by omega
                  cases bb
                  · obtain ⟨hI9, hAV⟩ := HV.out
                    have v2 : V.cell? ⟨Y, 2, none⟩ = some (.int .i64 xa) := by simp [World.cell?, hAV]
                    have v3 : V.cell? ⟨Y, 3, none⟩ = some (.int .i64 xf) := by simp [World.cell?, hAV]
                    obtain ⟨q, hq⟩ : ∃ q, q = amg xa 4 := ⟨_, rfl⟩
                    have hq4 : q < 4 := by rw [hq]; exact (amg_spec xa 4 (by decide)).2.1
                    have HAM := hide (among_any V xa 4 (by decide) (by decide))
                    rw [← hq] at HAM
                    have HQ := hide hq4
                    obtain ⟨⟨b, mb⟩, rb, s, hbe, hrb, hse, _, _⟩ := hI9.y.at (k := q) (by rw [hI9.n]; exact hq4)
                    obtain ⟨gs, os, rfl, hcs⟩ := hI9.y.y.at9 hbe
                    obtain ⟨gr, or, rfl, hcr⟩ := hI9.y.d.at9 hrb
                    have hdr : Below V.heap.size V V.drew := (Below.refl _ _).drew
                    have HFA : Hid (Calls Tryz.prog 9 #[.pointer (some ⟨b, 0, none⟩), .pointer (some ⟨rb, 0, none⟩), .int .i64 xf] V.drew fun e' w' => e' = .returned (.tuple #[]) ∧ Hid (∃ S1, PL9 w w' (.slice (some ⟨gs, os, none⟩) 4 csv) (.slice (some ⟨gr, or, none⟩) 4 crv) S1 bs rs j ∧ w'.heap[Y]? = some (.cells #[.int .i64 xk, .int .i64 xn, .int .i64 xa, .int .i64 xf, .string nm, .slice da p dc] 35 (0, 0))) ∧ w'.cell? ⟨gs, os + q, none⟩ = some (.pointer (some ⟨b, 0, none⟩)) ∧ w'.cell? ⟨gr, or + q, none⟩ = some (.pointer (some ⟨rb, 0, none⟩)) ∧ w'.cell? ⟨Y, 3, none⟩ = some (.int .i64 xf)) := by
                      refine ((hI9.bel hdr).fault hbe hrb hse (Y := Y) hAV xf).mono ?_
                      rintro e' w' ⟨rfl, hp', ha'⟩
                      obtain ⟨_, k1, k2, _⟩ := hp'.kp hbe hrb (s := fltS s (amg xf 5)) (by rw [List.getElem?_set, if_pos rfl, if_pos (List.getElem?_eq_some_iff.1 hse).1])
                      exact ⟨rfl, ⟨_, hp', ha'⟩, k1, k2, by simp [World.cell?, ha']⟩
                    have i0 : (0 : Int) ≤ (q : Int) := by omega
                    have i4 : (q : Int) < 4 := by omega
                    have hcs1 : V.drew.cell? ⟨gs, os + q, none⟩ = some (.pointer (some ⟨b, 0, none⟩)) := hcs
                    have hcr1 : V.drew.cell? ⟨gr, or + q, none⟩ = some (.pointer (some ⟨rb, 0, none⟩)) := hcr
                    have v31 : V.drew.cell? ⟨Y, 3, none⟩ = some (.int .i64 xf) := v3
                    clear hI9 hAV hq hdr hbe hrb hse hq4
                    go_upto_region 24 with (go_at_call 8; refine HAM.out.mono ?_; rintro e w2 ⟨rfl, hw2⟩; have hw3 := hw2.symm; clear hw2; subst hw3)
                    go_region_held3 (fun w' => w'.cell? ⟨gs, os + q, none⟩ = some (.pointer (some ⟨b, 0, none⟩)) ∧ w'.cell? ⟨gr, or + q, none⟩ = some (.pointer (some ⟨rb, 0, none⟩)) ∧ w'.cell? ⟨Y, 3, none⟩ = some (.int .i64 xf)) (first | assumption | exact ⟨by assumption, by assumption, by assumption⟩ | exact ⟨hcs1, hcr1, v31⟩)
                      ((go_at_call 9; refine HFA.out.mono ?_; rintro e w4 ⟨rfl, h4, k1, k2, k3⟩))
                    obtain ⟨S1, hI4, hA4⟩ := h4.out
                    obtain ⟨hd1, hnm, hds, hdn, hm⟩ := HX.out
                    have z0 : w4.cell? ⟨Y, 0, none⟩ = some (.int .i64 xk) := by simp [World.cell?, hA4]
                    have z1 : w4.cell? ⟨Y, 1, none⟩ = some (.int .i64 xn) := by simp [World.cell?, hA4]
                    have z2 : w4.cell? ⟨Y, 2, none⟩ = some (.int .i64 xa) := by simp [World.cell?, hA4]
                    have z3 : w4.cell? ⟨Y, 3, none⟩ = some (.int .i64 xf) := by simp [World.cell?, hA4]
                    have z4 : w4.cell? ⟨Y, 4, none⟩ = some (.string nm) := by simp [World.cell?, hA4]
                    have z5 : w4.cell? ⟨Y, 5, none⟩ = some (.slice da p dc) := by simp [World.cell?, hA4]
                    have hd4 : LS t1 1 (fun i => i < w.heap.size) w4 (.slice da p dc) ds := hd1.kb hI4.be.size fun i hi _ => hI4.be.block i hi
                    rw [hm] at hd4 hdn
                    have HST := hide (step9 hI4.y hI4.be.size hI4.g (by omega) xk xn xa xf nm hnm hd4 hdn hds)
                    rw [← hm] at HST
                    have HI4 := hide hI4
                    clear hd1 hnm hds hdn hm hd4 hI4 hA4 h4 HX HV HV1 HY1 k1 k2 k3 hcs hcr hcs1 hcr1 v2 v3 v31 v5 HFA HAM HI y0 y1 y2 y3 y4 y5 i0 i4
                    go_wp2_with fail
                    refine HST.out.mono ?_
                    rintro e w5 ⟨rfl, S5, hG5, hn5, hY5, hg5⟩
                    have HI5 : Hid (PL9 w w5 (.slice (some ⟨gs, os, none⟩) 4 csv) (.slice (some ⟨gr, or, none⟩) 4 crv) S5 bs rs (j + 1)) := ⟨hY5, hG5, hn5.trans HI4.out.n, hg5.below HI4.out.be HI4.out.be.size fun i hi => hi⟩
                    clear hG5 hn5 hY5 hg5 HST HI4 z0 z1 z2 z3 z4 z5
                    go_wp2
                    go_loopw [15] (fun i wx => ∃ (k : Nat), k ≤ 4 ∧ i = .int .i64 k ∧ PL9 w wx (.slice (some ⟨gs, os, none⟩) 4 csv) (.slice (some ⟨gr, or, none⟩) 4 crv) S5 bs rs (j + 1)) (fun i _ => 4 - (intOf i).toNat)
                    case atStart => exact ⟨0, by omega, rfl, HI5.out⟩
                    case round =>
                      obtain ⟨k, hk, rfl, hI⟩ := hrel
                      have HI := hide hI
                      clear hI HI5
                      by_cases hk4 : k < 4
                      · have i0 : (0 : Int) ≤ (k : Int) := by omega
                        have i4 : (k : Int) < 4 := by omega
                        obtain ⟨⟨b, mb⟩, rb, s, hbe, hrb, hse, _, _⟩ := HI.out.y.at (k := k) (by rw [HI.out.n]; exact hk4)
                        have hGO := HI.out.g s (List.mem_of_getElem? hse)
                        have hln := hGO.len
                        obtain ⟨u, hu⟩ : ∃ u, u = usedL s.L := ⟨_, rfl⟩
                        obtain ⟨mm, hmm⟩ : ∃ mm, mm = s.m := ⟨_, rfl⟩
                        obtain ⟨nl, hnl⟩ : ∃ nl, nl = namesL s.L ⟨#[]⟩ := ⟨_, rfl⟩
                        have hnll : nl.length ≤ 1000000000 := by rw [hnl]; have := names_len s.L ⟨#[]⟩; omega
                        have hub : usedL s.L ≤ 1000000000000 := by
                          have := used_bound hGO.sm
                          have h2 : s.L.length * 131168 ≤ 81 * 131168 := Nat.mul_le_mul_right _ (by omega)
                          omega
                        obtain ⟨SV, hSV⟩ : ∃ v, v = Value.slice (some ⟨gs, os, none⟩) 4 csv := ⟨_, rfl⟩
                        obtain ⟨RV, hRV⟩ : ∃ v, v = Value.slice (some ⟨gr, or, none⟩) 4 crv := ⟨_, rfl⟩
                        have kp : ∀ wx, PL9 w wx SV RV S5 bs rs (j + 1) → KP w wx SV RV S5 bs rs (j + 1) gs os gr or k b rb mm := by
                          rw [hSV, hRV, hmm]
                          exact fun wx h => h.kp hbe hrb hse
                        have KU : Hid (∀ w1, Hid (PL9 w w1 SV RV S5 bs rs (j + 1)) → Calls Tryz.prog 14 #[.pointer (some ⟨b, 0, none⟩)] w1 fun e w' => e = .returned (.int .i64 (u : Int)) ∧ KP w w' SV RV S5 bs rs (j + 1) gs os gr or k b rb mm) := fun w1 h => by
                          rw [hu]
                          refine (used_any (h.out.y.y.px k (b, mb) s hbe hse)).mono ?_
                          rintro e w' ⟨rfl, rfl⟩
                          exact ⟨rfl, kp _ h.out⟩
                        have KV : Hid (∀ w1, Hid (PL9 w w1 SV RV S5 bs rs (j + 1)) → Calls Tryz.prog 15 #[.pointer (some ⟨rb, 0, none⟩)] w1 fun e w' => e = .returned (.int .i64 (u : Int)) ∧ KP w w' SV RV S5 bs rs (j + 1) gs os gr or k b rb mm) := fun w1 h => by
                          rw [hu]
                          obtain ⟨v, hR, hO⟩ := h.out.y.d.rd k rb s hrb hse
                          refine (rused_any hR hO.ol (by omega) hub).mono ?_
                          rintro e w' ⟨rfl, hb⟩
                          exact ⟨rfl, kp _ (h.out.bel hb)⟩
                        have KC : Hid (∀ w1, Hid (PL9 w w1 SV RV S5 bs rs (j + 1)) → Calls Tryz.prog 16 #[.pointer (some ⟨b, 0, none⟩)] w1 fun e w' => e = .returned (.int .i64 mm) ∧ KP w w' SV RV S5 bs rs (j + 1) gs os gr or k b rb mm) := fun w1 h => by
                          refine (calls_any (h.out.y.y.px k (b, mb) s hbe hse)).mono ?_
                          rintro e w' ⟨rfl, rfl⟩
                          exact ⟨by rw [hmm], kp _ h.out⟩
                        have KN : Hid (∀ w1, Hid (PL9 w w1 SV RV S5 bs rs (j + 1)) → Calls Tryz.prog 12 #[.pointer (some ⟨b, 0, none⟩)] w1 fun e w' => ∃ v, e = .returned v ∧ Hid (TR w' v nl) ∧ KP w w' SV RV S5 bs rs (j + 1) gs os gr or k b rb mm) := fun w1 h => by
                          rw [hnl]
                          refine (names_any (h.out.y.y.px k (b, mb) s hbe hse) (by omega)).mono ?_
                          rintro e w' ⟨v, rfl, hT, hb⟩
                          exact ⟨v, rfl, hT.tr, kp _ (h.out.bel hb)⟩
                        have KR : Hid (∀ w1 v, Hid (TR w1 v nl) → Hid (PL9 w w1 SV RV S5 bs rs (j + 1)) → Calls Tryz.prog 13 #[.pointer (some ⟨rb, 0, none⟩), .string ⟨#[]⟩] w1 fun e w' => ∃ v', e = .returned v' ∧ Hid (TR w' v' nl) ∧ Hid (TR w' v nl) ∧ KP w w' SV RV S5 bs rs (j + 1) gs os gr or k b rb mm) := fun w1 v hv h => by
                          rw [hnl] at hv
                          rw [hnl]
                          obtain ⟨v', hR, hO⟩ := h.out.y.d.rd k rb s hrb hse
                          refine (rnames_any ⟨#[]⟩ hR hO.ol (by omega)).mono ?_
                          rintro e w' ⟨v, rfl, hT, hb⟩
                          exact ⟨v, rfl, hT.tr, hv.out.bel hb, kp _ (h.out.bel hb)⟩
                        have KS : Hid (∀ w1 v u, Hid (TR w1 v nl) → Hid (TR w1 u nl) → Hid (PL9 w w1 SV RV S5 bs rs (j + 1)) → Calls Tryz.prog 11 #[v, u] w1 fun e w' => e = .returned (.bool true) ∧ KP w w' SV RV S5 bs rs (j + 1) gs os gr or k b rb mm) := fun w1 v u hv hu h => by
                          refine (sameTexts_eq hv.out hu.out hnll).mono ?_
                          rintro e w' ⟨rfl, hb⟩
                          exact ⟨rfl, kp _ (h.out.bel hb)⟩
                        rw [← hSV, ← hRV] at HI
                        obtain ⟨K1, q1, q2, q3⟩ := kp _ (HI.out.bel ((Below.refl _ _).drew))
                        have HSV := hide (And.intro hSV hRV)
                        clear hu hmm hnl hnll hub hln hGO hbe hrb hse kp hSV hRV HI
                        go_upto_region 30 with fail
                        go_region_held3 (fun w' => Hid (PL9 w w' SV RV S5 bs rs (j + 1)) ∧ w'.cell? ⟨gs, os + k, none⟩ = some (.pointer (some ⟨b, 0, none⟩)) ∧ w'.cell? ⟨gr, or + k, none⟩ = some (.pointer (some ⟨rb, 0, none⟩)) ∧ w'.cell? ⟨rb, 2, none⟩ = some (.int .i64 mm)) (first | assumption | exact ⟨by assumption, by assumption, by assumption, by assumption⟩ | exact ⟨K1, q1, q2, q3⟩)
                          (first
                            | (go_at_call 14; refine (KU.out _ (by first | assumption | exact K1)).mono ?_; rintro e wa ⟨rfl, ha1, ha2, ha3, ha4⟩)
                            | (go_at_call 15; refine (KV.out _ (by first | assumption | exact K1)).mono ?_; rintro e wb ⟨rfl, hb1, hb2, hb3, hb4⟩)
                            | (go_at_call 16; refine (KC.out _ (by first | assumption | exact K1)).mono ?_; rintro e wc ⟨rfl, hc1, hc2, hc3, hc4⟩)
                            | (go_at_call 12; refine (KN.out _ (by first | assumption | exact K1)).mono ?_; rintro e wd ⟨vd, rfl, hd0, hd1, hd2, hd3, hd4⟩)
                            | (go_at_call 13; refine (KR.out _ _ (by assumption) (by first | assumption | exact K1)).mono ?_; rintro e we ⟨ve, rfl, he8, he9, he1, he2, he3, he4⟩)
                            | (go_at_call 11; refine (KS.out _ _ _ (by assumption) (by assumption) (by assumption)).mono ?_; rintro e wf ⟨rfl, hf1, hf2, hf3, hf4⟩))
                        rw [HSV.out.1, HSV.out.2] at ha1 hb1 hc1
                        clear K1 q1 q2 q3 KU KV KC KN KR KS HSV ha2 ha3 ha4 hb2 hb3 hb4 hc2 hc3 hc4 hd0 hd1 hd2 hd3 hd4 he1 he2 he3 he4 he8 he9 hf1 hf2 hf3 hf4
                        go_wp2
                        exact ⟨⟨k + 1, by omega, by go_num, by first | exact ha1.out | exact hb1.out | exact hc1.out⟩, by simp [intOf]; omega⟩
                      · obtain rfl : k = 4 := by omega
                        go_wp2
                        exact ⟨⟨j + 1, S5, by omega, by omega, by go_num, HI.out⟩, by simp [intOf]; omega⟩
                  · go_wp2
                    exact ⟨⟨j + 1, S, by omega, by omega, by go_num, HV.out.1.next⟩, by simp [intOf]; omega⟩)
        · have HE := hide HI.out.be
          by_cases hN : j < N
          · obtain rfl : j = 30 := by omega
            have b1 : (30 : Int) < (N : Int) := by omega
            go_wp2
            go_ret
            exact ⟨rfl, HE.out⟩
          · obtain rfl : j = N := by omega
            go_wp2
            go_ret
            exact ⟨rfl, HE.out⟩
end Go.Proofs.YtiecoplfiahpnaaGreat

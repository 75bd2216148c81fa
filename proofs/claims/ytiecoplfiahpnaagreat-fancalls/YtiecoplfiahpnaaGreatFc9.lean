/-
  Contracts of the program and of the statements (part 9 of 13).
-/
import Derived.Test.YtiecoplfiahpnaaGreatFc8
import Derived.Shelf.SlIter.Nil
import Derived.Shelf.SortM.Plain
import Derived.Shelf.SortM.SortNone

namespace Go.Proofs.YtiecoplfiahpnaaGreat
open Go.RowKit Go.Lib Go.Maps
def gT (A : List RR) : List ByteArray := A.map (·.d)
/-- The code of a deletion. -/
def dCs (cs : List Int) : Int := if frs [5] cs = 0 ∧ gds cs = 0 then 5 else frs [5] cs
def dC (ok : Bool) (A : List RR) : Int := if ok = true then dCs (A.map (·.c)) else 1
section
variable {F : FuncId} {fi ca : Array Value} {b i1 : Nat} {A : List RR} {e m r r' p : Nat → Prop} {w w' W : World} {cv av : Value} {st k c NN s nn : Int} {n d nm : ByteArray} {go ids tx : Value} {cs ks : List Int} {X : List (RR × Value)}
/-- Where GetJob's answers are taken. -/
structure GE (w wr : World) (Y : Nat) (C N : Int) (tx : Value) (T : List ByteArray) : Prop where
  r : R7 wr Y C N (.slice none 0 0) tx
  t : TS w.heap.size tx T wr
  be : Below w.heap.size w wr
  le : w.heap.size ≤ Y
  ne : tx.ownBlock ≠ some Y
theorem GE.bel {wr wr' : World} {Y : Nat} {C N : Int} {tx : Value} {T : List ByteArray} (h : GE w wr Y C N tx T) (hb : Below wr.heap.size wr wr') : GE w wr' Y C N tx T :=
  ⟨h.r.bel hb, h.t.keep hb, h.be.trans (hb.mono h.be.size), h.le, h.ne⟩
theorem GE.push {wr : World} {Y : Nat} {C N : Int} {tx : Value} {T : List ByteArray} (h : GE w wr Y C N tx T) (d : ByteArray) (hl : T.length ≤ 1000000) :
    ∃ v' w', (Builtin.append_ #[33, 33] 33 #[tx, .slice (some ⟨wr.heap.size, 0, none⟩) 1 1]).run Tryz.prog (wr.alloc (.cells #[.string d] 9)) = .ok v' w' ∧ (∃ a n c, v' = .slice a n c) ∧ R7 w' Y C N (.slice none 0 0) tx ∧ GE w (w'.setCell ⟨Y, 4, none⟩ v') Y C N v' (T ++ [d]) := by
  have hal : Below wr.heap.size wr (wr.alloc (.cells #[.string d] 9)) := (Below.refl _ _).alloc (Nat.le_refl _) _
  have h' := h.bel hal
  have hs := h'.be.size
  obtain ⟨v', w1, h1, h2, h3, h4⟩ := OW.app (ST := 33) (m := [d]) t1_len (by decide) (fun x _ => t1_one x) Tryz.underlying33 Tryz.infoTx rfl h'.t.ow (LS.one d 9 wr t1 1 (fun _ => True) trivial) (by simp; omega) (by simp; omega) hs
  have htl := h'.t.lt
  have hR1 : R7 w1 Y C N (.slice none 0 0) tx := (h3.block Y h'.r.lt (fun e => h.ne e.symm)).trans h'.r
  have hBw : Below w.heap.size w w1 := h'.be.grown h3 hs (fun k hk => (htl k hk).1)
  have hk : ∀ i, i ≠ Y → (w1.setCell ⟨Y, 4, none⟩ v').heap[i]? = w1.heap[i]? := fun i hi => heap_setCell_other w1 ⟨Y, 4, none⟩ i _ hi
  have hne : v'.ownBlock ≠ some Y := fun e => by
    rcases h4 with h4 | h4
    · exact h.ne (h4 ▸ e)
    · rw [h4] at e; simp at e; have := h.r.lt; omega
  have hT : TS w.heap.size v' (T ++ [d]) w1 := h2.ts
  refine ⟨v', w1, h1, ?_, hR1, heap_set_self hR1, hT.kb fun i hi => hk i (fun e => hne (e ▸ hi)), ?_, h.le, hne⟩
  · obtain ⟨a, c, e⟩ := h2.shp; exact ⟨a, _, c, e⟩
  · have hle := h.le
    exact ((Gs.refl (fun i => i = Y) w1).set1 _ _).below hBw hBw.size (fun i e => by omega)
set_option maxRecDepth 100000 in
set_option maxHeartbeats 3200000 in
theorem get_end (h6 : w.heap[i1]? = some (.cells #[.pointer (some ⟨b, 0, none⟩)] 48 (0, 0))) (hJ : JB w b true st k n d go c NN ids tx s) (hL : LS x3 3 r w av X) (hS : ∀ x ∈ X, ∃ a n c, x.2 = .slice a n c) (hn : X.length ≤ 1000000) :
    Calls Tryz.prog 63 #[av, .pointer (some ⟨i1, 0, none⟩)] w fun e w' => e = .returned (.tuple #[]) ∧ ∃ ids tx, JB w' b false 0 0 ⟨#[]⟩ ⟨#[]⟩ .nilFunc (frs [] (X.map (·.1.c))) ((gds (X.map (·.1.c)) : Nat) : Int) ids tx s ∧ TS w.heap.size ids [] w' ∧ TS w.heap.size tx (X.map (·.1.d)) w' ∧ Gs (fun i => i = b) w w' := by
  have HCO := hide (codesOf_any hL hS hn)
  obtain ⟨a, c0, rfl, h1, h2⟩ := hL
  have HC : Hid (∀ j x, X[j]? = some x → ∀ wr, Below w.heap.size w wr → ∃ g o, a = some ⟨g, o, none⟩ ∧ wr.cell? ⟨g, o + j * 3, none⟩ = some (.int .i64 x.1.c) ∧ wr.cell? ⟨g, o + j * 3 + 1, none⟩ = some (.string x.1.d) ∧ wr.cell? ⟨g, o + j * 3 + 2, none⟩ = some x.2) := fun j x hx wr hb => by
    rcases h2 with h2 | ⟨g, o, ea, hr, hg, hG⟩
    · rw [h2] at hx; simp at hx
    · exact ⟨g, o, ea, (hb.cell (p := ⟨g, o + j * 3, none⟩) hg).trans (hG j x hx 0 _ rfl), (hb.cell (p := ⟨g, o + j * 3 + 1, none⟩) hg).trans (hG j x hx 1 _ rfl), (hb.cell (p := ⟨g, o + j * 3 + 2, none⟩) hg).trans (hG j x hx 2 _ rfl)⟩
  obtain ⟨m, hm⟩ : ∃ m, m = X.length := ⟨_, rfl⟩
  rw [← hm] at hn HCO ⊢
  obtain ⟨cs, hcs⟩ : ∃ cs, cs = X.map (·.1.c) := ⟨_, rfl⟩
  rw [← hcs] at HCO ⊢
  have hcl : cs.length ≤ 1000000 := by rw [hcs]; simpa [← hm] using hn
  obtain ⟨rc, hrc⟩ : ∃ rc, rc = frs [] cs := ⟨_, rfl⟩
  obtain ⟨rn, hrn⟩ : ∃ rn, rn = ((gds cs : Nat) : Int) := ⟨_, rfl⟩
  rw [← hrc, ← hrn]
  have HRC := hide (And.intro hrc hrn)
  have HM := hide hm
  have HS := hide hS
  have HJ := hide (And.intro h6 hJ)
  have HCL := hide hcl
  clear hm h1 h2 hS hJ h6 hcs hcl hrc hrn
  go_enter Tryz.func63, Tryz.ntmps63
  go_wp2_with fail
  refine HCO.out.mono ?_
  rintro e w1 ⟨cv, rfl, hO1, hB1⟩
  have HOC := hide (outcome_any (hO1.ls (r := fun _ => True) c1_len fun _ _ => trivial) (LS.nl (f := c1) (fun _ => True) w1) HCL.out (by simp))
  rw [← HRC.out.1, ← HRC.out.2] at HOC
  have HB1 := hide hB1
  obtain ⟨oa, oc, hov⟩ := hO1.shp
  subst hov
  clear hO1 hB1
  go_wp2_with fail
  refine HOC.out.mono ?_
  rintro e w2 ⟨rfl, hB2⟩
  obtain ⟨Y, hY⟩ : ∃ Y, Y = w2.heap.size := ⟨_, rfl⟩
  obtain ⟨U, hU⟩ : ∃ U, U = w2.alloc (.cells #[.int .i64 rc, .string ⟨#[]⟩, .int .i64 rn, .slice none 0 0, .slice none 0 0, .slice none 0 0, .slice none 0 0] 56) := ⟨_, rfl⟩
  have H0 : Hid (GE w U Y rc rn (.slice none 0 0) ((X.take 0).map (·.1.d))) := by
    have hb := HB1.out.trans (hB2.mono HB1.out.size)
    refine ⟨by rw [hU, hY]; exact heap_alloc_new w2 _, by rw [List.take_zero]; exact TS.nil _ _, by rw [hU]; exact hb.alloc hb.size _, by rw [hY]; exact hb.size, by simp [Value.ownBlock]⟩
  have HU := hide hU
  have HY := hide hY
  clear hB2 hU hY
  go_upto_region 1 with fail
  rw [← HU.out, ← HY.out]
  go_wp2
  go_loopw [11] (fun i wr => ∃ (j : Nat) (tx : Value), j ≤ m ∧ i = .int .i64 j ∧ GE w wr Y rc rn tx ((X.take j).map (·.1.d))) (fun i _ => m - (intOf i).toNat)
  case atStart => exact ⟨0, _, Nat.zero_le _, rfl, H0.out⟩
  case round =>
    obtain ⟨j, tx, hj, rfl, hO⟩ := hrel
    by_cases hlt : j < m
    · have b1 : (j : Int) < (m : Int) := by omega
      have b0 : (0 : Int) ≤ (j : Int) := by omega
      obtain ⟨x, hx⟩ : ∃ x, X[j]? = some x := ⟨_, List.getElem?_eq_getElem (by rw [← HM.out]; exact hlt)⟩
      obtain ⟨g, o, rfl, z0, z1, z2⟩ := HC.out j x hx _ hO.be
      have hsx := HS.out x (List.mem_of_getElem? hx)
      obtain ⟨xr, xu⟩ := x
      obtain ⟨ua, un, uc, hu⟩ := hsx
      dsimp only at hu z0 z1 z2
      subst hu
      obtain ⟨cc, hcc⟩ : ∃ cc, cc = xr.c := ⟨_, rfl⟩
      obtain ⟨dd, hdd⟩ : ∃ dd, dd = xr.d := ⟨_, rfl⟩
      rw [← hcc] at z0
      rw [← hdd] at z1
      obtain ⟨n5, hn5⟩ : ∃ n5, n5 = wr.heap.size := ⟨_, rfl⟩
      obtain ⟨Zw, hZw⟩ : ∃ Zw, Zw = wr.alloc (.cells #[.int .i64 cc, .string dd, .slice ua un uc] 72) := ⟨_, rfl⟩
      have hZB : Below wr.heap.size wr Zw := by rw [hZw]; exact (Below.refl _ _).alloc (Nat.le_refl _) _
      have hblk : Zw.heap[n5]? = some (.cells #[.int .i64 cc, .string dd, .slice ua un uc] 72 (0, 0)) := by rw [hZw, hn5]; exact heap_alloc_new wr _
      have k1 : Zw.cell? ⟨n5, 1, none⟩ = some (.string dd) := by simp [World.cell?, hblk]
      have hOZ := hO.bel hZB
      have y4 : Zw.cell? ⟨Y, 4, none⟩ = some tx := hOZ.r.cell 4
      obtain ⟨v2, w2, hr1, hsl, hR2, hG2⟩ := hOZ.push dd (by rw [List.length_map, List.length_take]; omega)
      have hs1 := store1_run (t := 33) hR2 (j := 4) (Nat.le_of_ble_eq_true rfl) Tryz.sizeTs hsl
      have HE : Hid (GE w (w2.setCell ⟨Y, 4, none⟩ v2) Y rc rn v2 ((X.take (j + 1)).map (·.1.d))) := by
        show GE _ _ _ _ _ _ _
        rw [take_snoc_at hx, List.map_append]
        show GE w (w2.setCell ⟨Y, 4, none⟩ v2) Y rc rn v2 ((X.take j).map (·.1.d) ++ [xr.d])
        rw [← hdd]
        exact hG2
      obtain ⟨V, hV⟩ : ∃ V, V = w2.setCell ⟨Y, 4, none⟩ v2 := ⟨_, rfl⟩
      rw [← hV] at hs1 HE
      have HZw := hide hZw
      have Hn5 := hide hn5
      clear hO hOZ hG2 hZw hn5 hZB hblk hcc hdd hx hsl hR2 hV
      go_upto_region 4 with fail
      rw [← HZw.out, ← Hn5.out]
      go_wp2_with (first | (at_builtin; refine Lib.wpList_append_run _ rfl _ _ _ _ rfl _ _ rfl rfl _ _ hr1 ?_) | (refine wpList_store_run rfl 33 _ _ rfl _ _ rfl rfl hs1 ?_))
      exact ⟨⟨j + 1, v2, by omega, by go_num, HE.out⟩, by simp [intOf]; omega⟩
    · obtain rfl : j = m := by omega
      have e : X.take j = X := List.take_of_length_le (by have := HM.out; omega)
      rw [e] at hO
      obtain ⟨h6, hJ⟩ := HJ.out
      have hJr := hJ.bel hO.be
      have h6r := (hO.be.block i1 (lt_of_block h6)).trans h6
      have y6 : wr.cell? ⟨i1, 0, none⟩ = some (.pointer (some ⟨b, 0, none⟩)) := by simp [World.cell?, h6r]
      have c0 : wr.cell? ⟨Y, 0, none⟩ = some (.int .i64 rc) := hO.r.cell 0
      have c1 : wr.cell? ⟨Y, 1, none⟩ = some (.string ⟨#[]⟩) := hO.r.cell 1
      have c2 : wr.cell? ⟨Y, 2, none⟩ = some (.int .i64 rn) := hO.r.cell 2
      have c3 : wr.cell? ⟨Y, 3, none⟩ = some (.slice none 0 0) := hO.r.cell 3
      have c4 : wr.cell? ⟨Y, 4, none⟩ = some tx := hO.r.cell 4
      have c5 : wr.cell? ⟨Y, 5, none⟩ = some (.slice none 0 0) := hO.r.cell 5
      have c6 : wr.cell? ⟨Y, 6, none⟩ = some (.slice none 0 0) := hO.r.cell 6
      have HEND := hide (end_on (r := fun _ => True) (c := rc) (N := rn) hJr (LS.nl _ _) (hO.t.ls fun _ _ => trivial) (by simp) (by rw [List.length_map]; have := HM.out; omega))
      have HBE := hide hO.be
      clear hO hJr h6r h6 hJ e
      go_wp2_with fail
      refine HEND.out.mono ?_
      rintro e w7 ⟨rfl, ids', tx', hJ7, h71, h72, hG7⟩
      have HF : Hid (∃ ids tx, JB w7 b false 0 0 ⟨#[]⟩ ⟨#[]⟩ .nilFunc rc rn ids tx s ∧ TS w.heap.size ids [] w7 ∧ TS w.heap.size tx (X.map (·.1.d)) w7 ∧ Gs (fun i => i = b) w w7) :=
        ⟨ids', tx', hJ7, h71.low HBE.out.size, h72.low HBE.out.size, (Gs.of_below _ HBE.out).trans hG7⟩
      clear hJ7 h71 h72 hG7
      go_wp2
      go_end0
      exact ⟨rfl, HF.out⟩
theorem ko_get (h6 : w.heap[i1]? = some (.cells #[.pointer (some ⟨b, 0, none⟩)] 48 (0, 0))) (hb : b < w.heap.size) (N : Nat) (hN : N ≤ 1000000) : KO 63 #[] #[.pointer (some ⟨i1, 0, none⟩)] b (FinR b (gC true []) gN noT gT) N [] [] (fun i => i = i1) (fun _ => False) w := by
  intro W av X r hS hJ hL hNm hA hI _ hr
  show Calls Tryz.prog 63 #[av, .pointer (some ⟨i1, 0, none⟩)] W _
  refine (get_end ((hS.2 i1 rfl (lt_of_block h6)).trans h6) hJ hL (fun x hx => by obtain ⟨a, c, e⟩ := (hNm x hx).shp; exact ⟨a, _, c, e⟩) (by omega)).mono ?_
  rintro er w' ⟨rfl, ids, tx, hJ', h1, h2, hG⟩
  refine ⟨rfl, ?_⟩
  have e1 : X.map (·.1.c) = (X.map (·.1)).map (·.c) := by rw [List.map_map]; rfl
  have e2 : X.map (·.1.d) = (X.map (·.1)).map (·.d) := by rw [List.map_map]; rfl
  rw [List.nil_append]
  rw [e1] at hJ'
  rw [e2] at h2
  refine fin_rdy ?_ h1 h2 hG (Nat.lt_of_lt_of_le hb hS.1)
  rw [gC, if_pos rfl, List.length_map, hA]
  simpa [gN] using hJ'
theorem ent_g11 : Ent 63 := ent_of Tryz.func63 (by kernel_rfl) rfl
set_option maxRecDepth 100000 in
set_option maxHeartbeats 3200000 in
theorem del_end (h6 : w.heap[i1]? = some (.cells #[.pointer (some ⟨b, 0, none⟩)] 48 (0, 0))) (hJ : JB w b true st k n d go c NN ids tx s) (hL : LS c1 1 r w cv cs) (hn : cs.length ≤ 1000000) :
    Calls Tryz.prog 67 #[cv, .pointer (some ⟨i1, 0, none⟩)] w fun e w' => e = .returned (.tuple #[]) ∧ ∃ ids tx, JB w' b false 0 0 ⟨#[]⟩ ⟨#[]⟩ .nilFunc (dCs cs) ((gds cs : Nat) : Int) ids tx s ∧ TS w.heap.size ids [] w' ∧ TS w.heap.size tx [] w' ∧ Gs (fun i => i = b) w w' := by
  obtain ⟨U, hU⟩ : ∃ U, U = w.alloc (.cells #[.int .i64 5] 26) := ⟨_, rfl⟩
  have hBU : Below w.heap.size w U := by rw [hU]; exact (Below.refl _ _).alloc (Nat.le_refl _) _
  have hK : LS c1 1 (fun _ => True) U (.slice (some ⟨w.heap.size, 0, none⟩) 1 1) [5] := by rw [hU]; exact LS.one (5 : Int) 26 w c1 1 (fun _ => True) trivial
  have HOC := hide (outcome_any (hL.bel hBU) hK hn (by simp))
  obtain ⟨rc, hrc⟩ : ∃ rc, rc = frs [5] cs := ⟨_, rfl⟩
  obtain ⟨rn, hrn⟩ : ∃ rn, rn = gds cs := ⟨_, rfl⟩
  obtain ⟨dd, hdd⟩ : ∃ dd, dd = dCs cs := ⟨_, rfl⟩
  have hdc : dd = if rc = 0 ∧ rn = 0 then 5 else rc := by rw [hdd, dCs, hrc, hrn]
  rw [← hrc, ← hrn] at HOC
  rw [← hdd, ← hrn]
  obtain ⟨a, c0, e⟩ := hL.shp
  subst e
  have HU := hide hU
  have HB := hide hBU
  have HJ := hide (And.intro h6 hJ)
  have HD := hide hdc
  clear hU hBU hK hL hn hrc hrn hdd hdc h6 hJ
  generalize cs.length = cl at *
  go_enter Tryz.func67, Tryz.ntmps67
  go_wp2_with fail
  rw [← HU.out]
  refine HOC.out.mono ?_
  rintro e w2 ⟨rfl, hB2⟩
  obtain ⟨Y, hY⟩ : ∃ Y, Y = w2.heap.size := ⟨_, rfl⟩
  obtain ⟨V, hV⟩ : ∃ V, V = w2.alloc (.cells #[.int .i64 rc, .string ⟨#[]⟩, .int .i64 (rn : Int), .slice none 0 0, .slice none 0 0, .slice none 0 0, .slice none 0 0] 56) := ⟨_, rfl⟩
  have hbV : Below w.heap.size w V := by
    have hb := HB.out.trans (hB2.mono HB.out.size)
    rw [hV]; exact hb.alloc hb.size _
  have hYl : w.heap.size ≤ Y := by
    have hb := HB.out.trans (hB2.mono HB.out.size)
    rw [hY]; exact hb.size
  have hR : R7 V Y rc (rn : Int) (.slice none 0 0) (.slice none 0 0) := by rw [hV, hY]; exact heap_alloc_new w2 _
  have HV := hide hV
  have HY := hide hY
  have HR := hide (And.intro hR (And.intro hbV hYl))
  have y0 : V.cell? ⟨Y, 0, none⟩ = some (.int .i64 rc) := hR.cell 0
  have y2 : V.cell? ⟨Y, 2, none⟩ = some (.int .i64 (rn : Int)) := hR.cell 2
  have f0 := hR.free 0
  clear hB2 hV hY hR hbV hYl
  go_upto_region 1 with fail
  rw [← HV.out, ← HY.out]
  have HEND : Hid (∀ wx, R7 wx Y dd (rn : Int) (.slice none 0 0) (.slice none 0 0) → Below w.heap.size w wx → Calls Tryz.prog 55 #[.pointer (some ⟨b, 0, none⟩), .agg #[.int .i64 dd, .string ⟨#[]⟩, .int .i64 (rn : Int), .slice none 0 0, .slice none 0 0, .slice none 0 0, .slice none 0 0]] wx fun e w' => e = .returned (.tuple #[]) ∧ Hid (∃ ids tx, JB w' b false 0 0 ⟨#[]⟩ ⟨#[]⟩ .nilFunc dd (rn : Int) ids tx s ∧ TS w.heap.size ids [] w' ∧ TS w.heap.size tx [] w' ∧ Gs (fun i => i = b) w w')) := fun wx hR hB => by
    refine (end_on (r := fun _ => True) (HJ.out.2.bel hB) (LS.nl _ _) (LS.nl _ _) (by simp) (by simp)).mono ?_
    rintro e w7 ⟨rfl, ids', tx', hJ7, h71, h72, hG7⟩
    exact ⟨rfl, ids', tx', hJ7, h71.low hB.size, h72.low hB.size, (Gs.of_below _ hB).trans hG7⟩
  by_cases hz : rc = 0 ∧ rn = 0
  · obtain ⟨hz1, hz2⟩ := hz
    have hd5 : dd = 5 := by rw [HD.out, if_pos ⟨hz1, hz2⟩]
    obtain ⟨hR, hbV, hYl⟩ := HR.out
    have hR2 : R7 (V.setCell ⟨Y, 0, none⟩ (.int .i64 5)) Y 5 (rn : Int) (.slice none 0 0) (.slice none 0 0) := heap_set_self hR
    have hb2 : Below w.heap.size w (V.setCell ⟨Y, 0, none⟩ (.int .i64 5)) := ((Gs.refl (fun i => i = Y) V).set1 _ _).below hbV hbV.size (fun i e => by omega)
    subst hd5
    obtain ⟨V2, hV2⟩ : ∃ V2, V2 = V.setCell ⟨Y, 0, none⟩ (.int .i64 5) := ⟨_, rfl⟩
    rw [← hV2] at hR2 hb2
    have HE := hide (HEND.out V2 hR2 hb2)
    have h6r := (hb2.block i1 (lt_of_block HJ.out.1)).trans HJ.out.1
    have y6 : V2.cell? ⟨i1, 0, none⟩ = some (.pointer (some ⟨b, 0, none⟩)) := by simp [World.cell?, h6r]
    have c0 : V2.cell? ⟨Y, 0, none⟩ = some (.int .i64 5) := hR2.cell 0
    have c1 : V2.cell? ⟨Y, 1, none⟩ = some (.string ⟨#[]⟩) := hR2.cell 1
    have c2 : V2.cell? ⟨Y, 2, none⟩ = some (.int .i64 (rn : Int)) := hR2.cell 2
    have c3 : V2.cell? ⟨Y, 3, none⟩ = some (.slice none 0 0) := hR2.cell 3
    have c4 : V2.cell? ⟨Y, 4, none⟩ = some (.slice none 0 0) := hR2.cell 4
    have c5 : V2.cell? ⟨Y, 5, none⟩ = some (.slice none 0 0) := hR2.cell 5
    have c6 : V2.cell? ⟨Y, 6, none⟩ = some (.slice none 0 0) := hR2.cell 6
    have HV2 := hide hV2
    clear hR hbV hYl hR2 hb2 hV2 h6r
    subst hz1
    subst hz2
    rw [Int.natCast_zero] at HE y2 c2
    go_upto_region 3 with fail
    rw [← HV2.out]
    go_wp2_with fail
    refine HE.out.mono ?_
    rintro e w7 ⟨rfl, hF⟩
    go_wp2
    go_end0
    exact ⟨rfl, hF.out⟩
  · have hd5 : dd = rc := by rw [HD.out, if_neg hz]
    subst hd5
    obtain ⟨hR, hbV, hYl⟩ := HR.out
    have HE := hide (HEND.out V hR hbV)
    have h6r := (hbV.block i1 (lt_of_block HJ.out.1)).trans HJ.out.1
    have y6 : V.cell? ⟨i1, 0, none⟩ = some (.pointer (some ⟨b, 0, none⟩)) := by simp [World.cell?, h6r]
    have c1 : V.cell? ⟨Y, 1, none⟩ = some (.string ⟨#[]⟩) := hR.cell 1
    have c3 : V.cell? ⟨Y, 3, none⟩ = some (.slice none 0 0) := hR.cell 3
    have c4 : V.cell? ⟨Y, 4, none⟩ = some (.slice none 0 0) := hR.cell 4
    have c5 : V.cell? ⟨Y, 5, none⟩ = some (.slice none 0 0) := hR.cell 5
    have c6 : V.cell? ⟨Y, 6, none⟩ = some (.slice none 0 0) := hR.cell 6
    clear hR hbV hYl h6r
    by_cases hz1 : dd = 0
    · have hz2 : ¬ (rn : Int) = 0 := fun h => hz ⟨hz1, by omega⟩
      clear hz
      subst hz1
      go_wp2_with fail
      refine HE.out.mono ?_
      rintro e w7 ⟨rfl, hF⟩
      go_wp2
      go_end0
      exact ⟨rfl, hF.out⟩
    · clear hz
      go_wp2_with fail
      refine HE.out.mono ?_
      rintro e w7 ⟨rfl, hF⟩
      go_wp2
      go_end0
      exact ⟨rfl, hF.out⟩
theorem kc_del (h6 : w.heap[i1]? = some (.cells #[.pointer (some ⟨b, 0, none⟩)] 48 (0, 0))) (hb : b < w.heap.size) (N : Nat) (hN : N ≤ 1000000) : KC 67 #[] #[.pointer (some ⟨i1, 0, none⟩)] b (FinR b (dC true) gN noT noT) N [] [] (fun i => i = i1) (fun _ => False) w := by
  intro W cv A r hS hJ hL hA hI hr
  show Calls Tryz.prog 67 #[cv, .pointer (some ⟨i1, 0, none⟩)] W _
  refine (del_end ((hS.2 i1 rfl (lt_of_block h6)).trans h6) hJ hL (by simp; omega)).mono ?_
  rintro er w' ⟨rfl, ids, tx, hJ', h1, h2, hG⟩
  refine ⟨rfl, ?_⟩
  rw [List.nil_append]
  refine fin_rdy ?_ h1 h2 hG (Nat.lt_of_lt_of_le hb hS.1)
  rw [dC, if_pos rfl, hA]
  simpa [gN] using hJ'
theorem ent_d11 : Ent 67 := ent_of Tryz.func67 (by kernel_rfl) rfl
theorem ent_get1 : Ent 61 := ent_of Tryz.func61 (by kernel_rfl) rfl
set_option maxRecDepth 100000 in
set_option maxHeartbeats 3200000 in
theorem getjob1_any {x1 x2 : Nat} (hJ : JB w b true 0 0 ⟨#[]⟩ ⟨#[]⟩ .nilFunc 0 0 (.slice none 0 0) (.slice none 0 0) 0) (h1 : w.heap[x1]? = some (.cells #[.int .i64 nn] 3 (0, 0))) (h2 : w.heap[x2]? = some (.cells #[.string nm] 9 (0, 0))) (hne : aq 2 nm ⟨#[]⟩ (nst nn) ≠ []) :
    Calls Tryz.prog 61 #[.pointer (some ⟨b, 0, none⟩), .pointer (some ⟨x1, 0, none⟩), .pointer (some ⟨x2, 0, none⟩)] w fun e w' => e = .returned (.tuple #[]) ∧ PO True b (FinR b (gC true []) gN noT gT) (aq 2 nm ⟨#[]⟩ (nst nn)) [] (fun i => w.heap.size ≤ i) (fun i => i = b) w w' := by
  obtain ⟨U, hU⟩ : ∃ U, U = w.alloc (.cells #[.pointer (some ⟨b, 0, none⟩)] 48) := ⟨_, rfl⟩
  obtain ⟨i1, hi1⟩ : ∃ i1, i1 = w.heap.size := ⟨_, rfl⟩
  have hBU : Below w.heap.size w U := by rw [hU]; exact (Below.refl _ _).alloc (Nat.le_refl _) _
  have hJU := hJ.bel hBU
  have hszU : U.heap.size = i1 + 1 := by rw [hU, hi1]; simp
  have h6 : U.heap[i1]? = some (.cells #[.pointer (some ⟨b, 0, none⟩)] 48 (0, 0)) := by rw [hU, hi1]; exact heap_alloc_new w _
  have y6 : U.cell? ⟨i1, 0, none⟩ = some (.pointer (some ⟨b, 0, none⟩)) := by simp [World.cell?, h6]
  have h1U := (hBU.block x1 (lt_of_block h1)).trans h1
  have h2U := (hBU.block x2 (lt_of_block h2)).trans h2
  have y1 : U.cell? ⟨x1, 0, none⟩ = some (.int .i64 nn) := by simp [World.cell?, h1U]
  have y2 : U.cell? ⟨x2, 0, none⟩ = some (.string nm) := by simp [World.cell?, h2U]
  have hbl := hJ.lt
  have hnl := nst_le nn
  have HN := hide (gets_any (nm := nm) (rest := []) (A0 := []) ent_g11 hJU nn (by simp [resI]) (ko_get h6 hJU.lt (nst nn) (by omega)) (by omega) (fun i hi => hi.elim) (fun i hi => by omega))
  have HNT : Hid (NT (fun i => i = i1) U) := fun i hi => by rw [hi]; exact ⟨_, _, h6, by simp [okT]⟩
  have HNE := hide hne
  have HU := hide hU
  have HI := hide hi1
  have HB := hide hBU
  have hmf : ∀ (fn : Fn) (first cap : Array Value) (w : World), (Instr.makeFunc fn first cap).run Tryz.prog w = .ok (.func fn first cap) w := fun _ _ _ _ => rfl
  clear hne hJU hszU h6 h1U h2U hBU hU hi1 hJ hbl h1 h2 hnl
  go_enter Tryz.func61, Tryz.ntmps61
  go_upto_region 1 with fail
  rw [← HU.out, ← HI.out]
  go_wp2_with fail
  refine HN.out.mono ?_
  rintro e w7 ⟨rfl, hQ⟩
  have HQ : Hid (PO True b (FinR b (gC true []) gN noT gT) (aq 2 nm ⟨#[]⟩ (nst nn)) [] (fun i => w.heap.size ≤ i) (fun i => i = b) w w7) := by
    rw [List.append_nil] at hQ
    have h3 := (hQ.bel HB.out).less (e := fun i => w.heap.size ≤ i) (fun i hi => .inr (by have := HI.out; omega))
    exact (h3.weak (g' := True) fun _ => ⟨HNE.out, HNT.out⟩).more fun i hi => by
      rcases hi with h | h
      · exact h
      · exact h.elim
  clear hQ
  go_wp2
  go_end0
  exact ⟨rfl, HQ.out⟩
set_option maxRecDepth 100000 in
set_option maxHeartbeats 3200000 in
theorem getjob_any (nn : Int) (nm : ByteArray) (w : World) :
    Calls Tryz.prog 36 #[.int .i64 nn, .string nm] w fun e w' => MK (fun b => FinR b (gC (okn nn) []) gN noT gT) (aq 2 nm ⟨#[]⟩ (nst nn)) w w' e := by
  obtain ⟨U, hU⟩ : ∃ U, U = (w.alloc (.cells #[.int .i64 nn] 3)).alloc (.cells #[.string nm] 9) := ⟨_, rfl⟩
  obtain ⟨X, hX⟩ : ∃ X, X = w.heap.size := ⟨_, rfl⟩
  have hBU : Below w.heap.size w U := by rw [hU]; exact ((Below.refl _ _).alloc (Nat.le_refl _) _).alloc (by simp) _
  have h1 : U.heap[X]? = some (.cells #[.int .i64 nn] 3 (0, 0)) := by rw [hU, hX, Below.heap_alloc _ _ _ (by simp)]; exact heap_alloc_new w _
  have h2 : U.heap[X + 1]? = some (.cells #[.string nm] 9 (0, 0)) := by
    rw [hU, hX]
    have := heap_alloc_new (w.alloc (.cells #[.int .i64 nn] 3)) (.cells #[.string nm] 9 (0, 0))
    simpa using this
  have y1 : U.cell? ⟨X, 0, none⟩ = some (.int .i64 nn) := by simp [World.cell?, h1]
  have HN : Hid (Calls Tryz.prog 52 #[.int .i64 nn, .func (.func 61) #[] #[.pointer (some ⟨X, 0, none⟩), .pointer (some ⟨X + 1, 0, none⟩)]] U fun e w' => Hid (MK (fun b => FinR b (gC (okn nn) []) gN noT gT) (aq 2 nm ⟨#[]⟩ (nst nn)) w w' e)) := by
    have hmk : ∀ w' e, MK (fun b => FinR b (gC (okn nn) []) gN noT gT) (aq 2 nm ⟨#[]⟩ (nst nn)) U w' e → MK (fun b => FinR b (gC (okn nn) []) gN noT gT) (aq 2 nm ⟨#[]⟩ (nst nn)) w w' e := by
      rintro w' e ⟨b, P, rfl, hJJ, hB, hP, hNT⟩
      have hs := hBU.size
      exact ⟨b, P, rfl, hJJ, hBU.trans (hB.mono hs), fun i hi => by have := hP i hi; omega, hNT⟩
    by_cases hok : 1 ≤ nn ∧ nn ≤ 255
    · have e1 : okn nn = true := decide_eq_true hok
      rw [e1]
      rw [e1] at hmk
      refine (fstart_yes (Fin := fun b => FinR b (gC true []) gN noT gT) (L := aq 2 nm ⟨#[]⟩ (nst nn)) ent_get1 hok.1 hok.2 ?_).mono fun e w' h => hmk w' e h
      intro b V hJ hB hb
      show Calls Tryz.prog 61 #[.pointer (some ⟨b, 0, none⟩), .pointer (some ⟨X, 0, none⟩), .pointer (some ⟨X + 1, 0, none⟩)] V _
      refine (getjob1_any hJ ((hB.block X (lt_of_block h1)).trans h1) ((hB.block (X + 1) (lt_of_block h2)).trans h2) (fun e => by have := aq_len 2 nm ⟨#[]⟩ (nst nn); rw [e, nst, if_pos hok] at this; simp at this; omega)).mono ?_
      rintro e w' ⟨rfl, hP⟩
      exact ⟨rfl, hP.less fun i hi => .inr hi⟩
    · have e1 : okn nn = false := decide_eq_false hok
      rw [e1]
      rw [e1] at hmk
      have e2 : aq 2 nm ⟨#[]⟩ (nst nn) = [] := by rw [nst_no nn (by omega)]; rfl
      rw [e2] at hmk ⊢
      exact (fstart_no (by omega) rfl rfl rfl rfl).mono fun e w' h => hmk w' e h
  have HU := hide hU
  have HX := hide hX
  have hmf : ∀ (fn : Fn) (first cap : Array Value) (w : World), (Instr.makeFunc fn first cap).run Tryz.prog w = .ok (.func fn first cap) w := fun _ _ _ _ => rfl
  clear h1 h2 hBU hU hX
  go_enter Tryz.func36, Tryz.ntmps36
  go_upto_region 1 with fail
  rw [← HU.out, ← HX.out]
  go_wp2_with fail
  refine HN.out.mono ?_
  rintro e w7 hQ
  obtain ⟨b, P, rfl, hR⟩ := hQ.out
  have HQ2 := hide hR
  clear hR
  go_wp2
  go_ret
  exact ⟨b, P, rfl, HQ2.out⟩
theorem ent_del1 : Ent 65 := ent_of Tryz.func65 (by kernel_rfl) rfl
set_option maxRecDepth 100000 in
set_option maxHeartbeats 3200000 in
theorem deljob1_any {x1 x2 : Nat} (hJ : JB w b true 0 0 ⟨#[]⟩ ⟨#[]⟩ .nilFunc 0 0 (.slice none 0 0) (.slice none 0 0) 0) (h1 : w.heap[x1]? = some (.cells #[.int .i64 nn] 3 (0, 0))) (h2 : w.heap[x2]? = some (.cells #[.string nm] 9 (0, 0))) (hne : aq 4 nm ⟨#[]⟩ (nst nn) ≠ []) :
    Calls Tryz.prog 65 #[.pointer (some ⟨b, 0, none⟩), .pointer (some ⟨x1, 0, none⟩), .pointer (some ⟨x2, 0, none⟩)] w fun e w' => e = .returned (.tuple #[]) ∧ PO True b (FinR b (dC true) gN noT noT) (aq 4 nm ⟨#[]⟩ (nst nn)) [] (fun i => w.heap.size ≤ i) (fun i => i = b) w w' := by
  obtain ⟨U, hU⟩ : ∃ U, U = w.alloc (.cells #[.pointer (some ⟨b, 0, none⟩)] 48) := ⟨_, rfl⟩
  obtain ⟨i1, hi1⟩ : ∃ i1, i1 = w.heap.size := ⟨_, rfl⟩
  have hBU : Below w.heap.size w U := by rw [hU]; exact (Below.refl _ _).alloc (Nat.le_refl _) _
  have hJU := hJ.bel hBU
  have hszU : U.heap.size = i1 + 1 := by rw [hU, hi1]; simp
  have h6 : U.heap[i1]? = some (.cells #[.pointer (some ⟨b, 0, none⟩)] 48 (0, 0)) := by rw [hU, hi1]; exact heap_alloc_new w _
  have y6 : U.cell? ⟨i1, 0, none⟩ = some (.pointer (some ⟨b, 0, none⟩)) := by simp [World.cell?, h6]
  have h1U := (hBU.block x1 (lt_of_block h1)).trans h1
  have h2U := (hBU.block x2 (lt_of_block h2)).trans h2
  have y1 : U.cell? ⟨x1, 0, none⟩ = some (.int .i64 nn) := by simp [World.cell?, h1U]
  have y2 : U.cell? ⟨x2, 0, none⟩ = some (.string nm) := by simp [World.cell?, h2U]
  have hbl := hJ.lt
  have hnl := nst_le nn
  have HN := hide (dels_any (nm := nm) (rest := []) (A0 := []) ent_d11 hJU nn (by simp [resI]) (kc_del h6 hJU.lt (nst nn) (by omega)) (by omega) (fun i hi => hi.elim) (fun i hi => by omega))
  have HNT : Hid (NT (fun i => i = i1) U) := fun i hi => by rw [hi]; exact ⟨_, _, h6, by simp [okT]⟩
  have HNE := hide hne
  have HU := hide hU
  have HI := hide hi1
  have HB := hide hBU
  have hmf : ∀ (fn : Fn) (first cap : Array Value) (w : World), (Instr.makeFunc fn first cap).run Tryz.prog w = .ok (.func fn first cap) w := fun _ _ _ _ => rfl
  clear hne hJU hszU h6 h1U h2U hBU hU hi1 hJ hbl h1 h2 hnl
  go_enter Tryz.func65, Tryz.ntmps65
  go_upto_region 1 with fail
  rw [← HU.out, ← HI.out]
  go_wp2_with fail
  refine HN.out.mono ?_
  rintro e w7 ⟨rfl, hQ⟩
  have HQ : Hid (PO True b (FinR b (dC true) gN noT noT) (aq 4 nm ⟨#[]⟩ (nst nn)) [] (fun i => w.heap.size ≤ i) (fun i => i = b) w w7) := by
    rw [List.append_nil] at hQ
    have h3 := (hQ.bel HB.out).less (e := fun i => w.heap.size ≤ i) (fun i hi => .inr (by have := HI.out; omega))
    exact (h3.weak (g' := True) fun _ => ⟨HNE.out, HNT.out⟩).more fun i hi => by
      rcases hi with h | h
      · exact h
      · exact h.elim
  clear hQ
  go_wp2
  go_end0
  exact ⟨rfl, HQ.out⟩
set_option maxRecDepth 100000 in
set_option maxHeartbeats 3200000 in
theorem deljob_any (nn : Int) (nm : ByteArray) (w : World) :
    Calls Tryz.prog 38 #[.int .i64 nn, .string nm] w fun e w' => MK (fun b => FinR b (dC (okn nn)) gN noT noT) (aq 4 nm ⟨#[]⟩ (nst nn)) w w' e := by
  obtain ⟨U, hU⟩ : ∃ U, U = (w.alloc (.cells #[.int .i64 nn] 3)).alloc (.cells #[.string nm] 9) := ⟨_, rfl⟩
  obtain ⟨X, hX⟩ : ∃ X, X = w.heap.size := ⟨_, rfl⟩
  have hBU : Below w.heap.size w U := by rw [hU]; exact ((Below.refl _ _).alloc (Nat.le_refl _) _).alloc (by simp) _
  have h1 : U.heap[X]? = some (.cells #[.int .i64 nn] 3 (0, 0)) := by rw [hU, hX, Below.heap_alloc _ _ _ (by simp)]; exact heap_alloc_new w _
  have h2 : U.heap[X + 1]? = some (.cells #[.string nm] 9 (0, 0)) := by
    rw [hU, hX]
    have := heap_alloc_new (w.alloc (.cells #[.int .i64 nn] 3)) (.cells #[.string nm] 9 (0, 0))
    simpa using this
  have y1 : U.cell? ⟨X, 0, none⟩ = some (.int .i64 nn) := by simp [World.cell?, h1]
  have HN : Hid (Calls Tryz.prog 52 #[.int .i64 nn, .func (.func 65) #[] #[.pointer (some ⟨X, 0, none⟩), .pointer (some ⟨X + 1, 0, none⟩)]] U fun e w' => Hid (MK (fun b => FinR b (dC (okn nn)) gN noT noT) (aq 4 nm ⟨#[]⟩ (nst nn)) w w' e)) := by
    have hmk : ∀ w' e, MK (fun b => FinR b (dC (okn nn)) gN noT noT) (aq 4 nm ⟨#[]⟩ (nst nn)) U w' e → MK (fun b => FinR b (dC (okn nn)) gN noT noT) (aq 4 nm ⟨#[]⟩ (nst nn)) w w' e := by
      rintro w' e ⟨b, P, rfl, hJJ, hB, hP, hNT⟩
      have hs := hBU.size
      exact ⟨b, P, rfl, hJJ, hBU.trans (hB.mono hs), fun i hi => by have := hP i hi; omega, hNT⟩
    by_cases hok : 1 ≤ nn ∧ nn ≤ 255
    · have e1 : okn nn = true := decide_eq_true hok
      rw [e1]
      rw [e1] at hmk
      refine (fstart_yes (Fin := fun b => FinR b (dC true) gN noT noT) (L := aq 4 nm ⟨#[]⟩ (nst nn)) ent_del1 hok.1 hok.2 ?_).mono fun e w' h => hmk w' e h
      intro b V hJ hB hb
      show Calls Tryz.prog 65 #[.pointer (some ⟨b, 0, none⟩), .pointer (some ⟨X, 0, none⟩), .pointer (some ⟨X + 1, 0, none⟩)] V _
      refine (deljob1_any hJ ((hB.block X (lt_of_block h1)).trans h1) ((hB.block (X + 1) (lt_of_block h2)).trans h2) (fun e => by have := aq_len 4 nm ⟨#[]⟩ (nst nn); rw [e, nst, if_pos hok] at this; simp at this; omega)).mono ?_
      rintro e w' ⟨rfl, hP⟩
      exact ⟨rfl, hP.less fun i hi => .inr hi⟩
    · have e1 : okn nn = false := decide_eq_false hok
      rw [e1]
      rw [e1] at hmk
      have e2 : aq 4 nm ⟨#[]⟩ (nst nn) = [] := by rw [nst_no nn (by omega)]; rfl
      rw [e2] at hmk ⊢
      exact (fstart_no (by omega) rfl rfl rfl rfl).mono fun e w' h => hmk w' e h
  have HU := hide hU
  have HX := hide hX
  have hmf : ∀ (fn : Fn) (first cap : Array Value) (w : World), (Instr.makeFunc fn first cap).run Tryz.prog w = .ok (.func fn first cap) w := fun _ _ _ _ => rfl
  clear h1 h2 hBU hU hX
  go_enter Tryz.func38, Tryz.ntmps38
  go_upto_region 1 with fail
  rw [← HU.out, ← HX.out]
  go_wp2_with fail
  refine HN.out.mono ?_
  rintro e w7 hQ
  obtain ⟨b, P, rfl, hR⟩ := hQ.out
  have HQ2 := hide hR
  clear hR
  go_wp2
  go_ret
  exact ⟨b, P, rfl, HQ2.out⟩
end
end Go.Proofs.YtiecoplfiahpnaaGreat

namespace Go.Proofs.YtiecoplfiahpnaaGreat
open Go.RowKit Go.Maps Go.Sort Go.Shelf
def Tryz.keys130_ren : Go.Shelf.Ren := ⟨fun | 7 => 130 | 10 => 144 | n => n, fun | 23 => 169 | 26 => 9 | 3 => 75 | 28 => 172 | 0 => 0 | 27 => 171 | 33 => 165 | 4 => 4 | n => n, fun | n => n⟩
theorem Tryz.keys130 : Go.Proofs.SlLaysZ.n7 Tryz.prog Tryz.keys130_ren := {
  mixed := by kernel_rfl
  f7 := ⟨Tryz.f130.name, by decide, Tryz.func130.trans (congrArg some (by kernel_rfl))⟩
  f10 := ⟨Tryz.f144.name, by decide, Tryz.func144.trans (congrArg some (by kernel_rfl))⟩
  t0 := Tryz.underlying0
  a0 := Tryz.isAgg0
  z0 := Tryz.sizeOf0
  v0 := Tryz.zeroValue0
  t4 := Tryz.underlying4
  a4 := Tryz.isAgg4
  z4 := Tryz.sizeOf4
  v4 := Tryz.zeroValue4
  t23 := Tryz.underlying169
  a23 := Tryz.isAgg169
  z23 := Tryz.sizeOf169
  v23 := Tryz.zeroValue169
  t26 := Tryz.underlying9
  a26 := Tryz.isAgg9
  z26 := Tryz.sizeOf9
  v26 := Tryz.zeroValue9
  t27 := Tryz.underlying171
  a27 := Tryz.isAgg171
  z27 := Tryz.sizeOf171
  v27 := Tryz.zeroValue171
  t28 := Tryz.underlying172
  a28 := Tryz.isAgg172
  z28 := Tryz.sizeOf172
  v28 := Tryz.zeroValue172
  t33 := Tryz.underlying165
  a33 := Tryz.isAgg165
  z33 := Tryz.sizeOf165
  v33 := Tryz.zeroValue165 }
def Tryz.sorted129_ren : Go.Shelf.Ren := ⟨fun | 6 => 129 | 8 => 143 | 9 => 72 | 11 => 147 | 13 => 91 | 12 => 90 | 23 => 114 | 24 => 115 | 14 => 105 | 15 => 106 | 16 => 107 | 17 => 108 | 18 => 109 | 19 => 110 | 20 => 111 | 21 => 112 | 22 => 113 | 25 => 131 | 26 => 132 | 27 => 133 | 28 => 134 | 29 => 135 | 30 => 136 | 31 => 145 | n => n, fun | 26 => 9 | 28 => 172 | 24 => 33 | 0 => 0 | 3 => 3 | 37 => 135 | 48 => 156 | 50 => 158 | 4 => 4 | 40 => 150 | 39 => 149 | 45 => 143 | 5 => 5 | 9 => 9 | 51 => 174 | 55 => 178 | 57 => 186 | 58 => 187 | 33 => 165 | n => n, fun | n => n⟩
theorem Tryz.sorted129 : Go.Proofs.SlLaysZ.n6 Tryz.prog Tryz.sorted129_ren := {
  mixed := by kernel_rfl
  f6 := ⟨Tryz.f129.name, by decide, Tryz.func129.trans (congrArg some (by kernel_rfl))⟩
  f8 := ⟨Tryz.f143.name, by decide, Tryz.func143.trans (congrArg some (by kernel_rfl))⟩
  f11 := ⟨Tryz.f147.name, by decide, Tryz.func147.trans (congrArg some (by kernel_rfl))⟩
  t0 := Tryz.underlying0
  a0 := Tryz.isAgg0
  z0 := Tryz.sizeOf0
  v0 := Tryz.zeroValue0
  t24 := Tryz.underlying33
  a24 := Tryz.isAgg33
  z24 := Tryz.sizeOf33
  v24 := Tryz.zeroValue33
  t26 := Tryz.underlying9
  a26 := Tryz.isAgg9
  z26 := Tryz.sizeOf9
  v26 := Tryz.zeroValue9
  t28 := Tryz.underlying172
  a28 := Tryz.isAgg172
  z28 := Tryz.sizeOf172
  v28 := Tryz.zeroValue172
  i26 := by kernel_rfl }
def Tryz.sort72_ren : Go.Shelf.Ren := ⟨fun | 6 => 72 | 8 => 91 | 9 => 90 | 19 => 114 | 20 => 115 | 21 => 105 | 22 => 106 | 23 => 107 | 24 => 108 | 25 => 109 | 26 => 110 | 27 => 111 | 28 => 112 | 29 => 113 | 36 => 131 | 31 => 132 | 32 => 133 | 37 => 134 | 38 => 135 | 39 => 136 | 41 => 145 | n => n, fun | 27 => 33 | 29 => 9 | 3 => 3 | 32 => 135 | 26 => 33 | 0 => 0 | 44 => 156 | 46 => 158 | 4 => 4 | 36 => 150 | 35 => 149 | 41 => 143 | 5 => 5 | 9 => 9 | 53 => 174 | 57 => 178 | 63 => 186 | 64 => 187 | n => n, fun | n => n⟩
theorem Tryz.sort72 : Go.Proofs.SlLaysM.n6 Tryz.prog Tryz.sort72_ren := {
  mixed := by kernel_rfl
  f6 := ⟨Tryz.f72.name, by decide, Tryz.func72.trans (congrArg some (by kernel_rfl))⟩
  f8 := Tryz.func91.trans (congrArg some (by kernel_rfl))
  f9 := ⟨Tryz.f90.name, by decide, Tryz.func90.trans (congrArg some (by kernel_rfl))⟩
  f19 := Tryz.func114.trans (congrArg some (by kernel_rfl))
  f20 := Tryz.func115.trans (congrArg some (by kernel_rfl))
  f21 := ⟨Tryz.f105.name, by decide, Tryz.func105.trans (congrArg some (by kernel_rfl))⟩
  f22 := ⟨Tryz.f106.name, by decide, Tryz.func106.trans (congrArg some (by kernel_rfl))⟩
  f23 := ⟨Tryz.f107.name, by decide, Tryz.func107.trans (congrArg some (by kernel_rfl))⟩
  f24 := ⟨Tryz.f108.name, by decide, Tryz.func108.trans (congrArg some (by kernel_rfl))⟩
  f25 := ⟨Tryz.f109.name, by decide, Tryz.func109.trans (congrArg some (by kernel_rfl))⟩
  f26 := ⟨Tryz.f110.name, by decide, Tryz.func110.trans (congrArg some (by kernel_rfl))⟩
  f27 := ⟨Tryz.f111.name, by decide, Tryz.func111.trans (congrArg some (by kernel_rfl))⟩
  f28 := ⟨Tryz.f112.name, by decide, Tryz.func112.trans (congrArg some (by kernel_rfl))⟩
  f29 := ⟨Tryz.f113.name, by decide, Tryz.func113.trans (congrArg some (by kernel_rfl))⟩
  f31 := Tryz.func132.trans (congrArg some (by kernel_rfl))
  f32 := Tryz.func133.trans (congrArg some (by kernel_rfl))
  f36 := ⟨Tryz.f131.name, by decide, Tryz.func131.trans (congrArg some (by kernel_rfl))⟩
  f37 := ⟨Tryz.f134.name, by decide, Tryz.func134.trans (congrArg some (by kernel_rfl))⟩
  f38 := ⟨Tryz.f135.name, by decide, Tryz.func135.trans (congrArg some (by kernel_rfl))⟩
  f39 := ⟨Tryz.f136.name, by decide, Tryz.func136.trans (congrArg some (by kernel_rfl))⟩
  f41 := ⟨Tryz.f145.name, by decide, Tryz.func145.trans (congrArg some (by kernel_rfl))⟩
  t0 := Tryz.underlying0
  a0 := Tryz.isAgg0
  z0 := Tryz.sizeOf0
  v0 := Tryz.zeroValue0
  t3 := Tryz.underlying3
  a3 := Tryz.isAgg3
  z3 := Tryz.sizeOf3
  v3 := Tryz.zeroValue3
  t4 := Tryz.underlying4
  a4 := Tryz.isAgg4
  z4 := Tryz.sizeOf4
  v4 := Tryz.zeroValue4
  t5 := Tryz.underlying5
  a5 := Tryz.isAgg5
  z5 := Tryz.sizeOf5
  v5 := Tryz.zeroValue5
  t9 := Tryz.underlying9
  a9 := Tryz.isAgg9
  z9 := Tryz.sizeOf9
  v9 := Tryz.zeroValue9
  t26 := Tryz.underlying33
  a26 := Tryz.isAgg33
  z26 := Tryz.sizeOf33
  v26 := Tryz.zeroValue33
  t27 := Tryz.underlying33
  a27 := Tryz.isAgg33
  z27 := Tryz.sizeOf33
  v27 := Tryz.zeroValue33
  t29 := Tryz.underlying9
  a29 := Tryz.isAgg9
  z29 := Tryz.sizeOf9
  v29 := Tryz.zeroValue9
  t32 := Tryz.underlying135
  a32 := Tryz.isAgg135
  z32 := Tryz.sizeOf135
  v32 := Tryz.zeroValue135
  t35 := Tryz.underlying149
  a35 := Tryz.isAgg149
  z35 := Tryz.sizeOf149
  v35 := Tryz.zeroValue149
  t36 := Tryz.underlying150
  a36 := Tryz.isAgg150
  z36 := Tryz.sizeOf150
  v36 := Tryz.zeroValue150
  t41 := Tryz.underlying143
  a41 := Tryz.isAgg143
  z41 := Tryz.sizeOf143
  v41 := Tryz.zeroValue143
  t44 := Tryz.underlying156
  a44 := Tryz.isAgg156
  z44 := Tryz.sizeOf156
  v44 := Tryz.zeroValue156
  t46 := Tryz.underlying158
  a46 := Tryz.isAgg158
  z46 := Tryz.sizeOf158
  v46 := Tryz.zeroValue158
  t53 := Tryz.underlying174
  a53 := Tryz.isAgg174
  z53 := Tryz.sizeOf174
  v53 := Tryz.zeroValue174
  t57 := Tryz.underlying178
  a57 := Tryz.isAgg178
  z57 := Tryz.sizeOf178
  v57 := Tryz.zeroValue178
  t63 := Tryz.underlying186
  a63 := Tryz.isAgg186
  z63 := Tryz.sizeOf186
  v63 := Tryz.zeroValue186
  t64 := Tryz.underlying187
  a64 := Tryz.isAgg187
  z64 := Tryz.sizeOf187
  v64 := Tryz.zeroValue187 }


theorem Tryz.sorts129 (m : Nat) : AnyZ.SortsIn Tryz.prog Tryz.sorted129_ren Fence.wide m :=
  ⟨fun blk off cap ss W hH hblk hsz => callsIn_wide.2 (AnyM.slices_Sort_string Tryz.sort72 blk off cap ss W hH hblk hsz),
   fun p cap W => callsIn_wide.2 (AnyM.slices_Sort_string_none Tryz.sort72 p cap W)⟩

theorem Tryz.mapsKeys (mb : Option Nat) (W : World) : CallsIn Fence.wide 5 Tryz.prog 130 #[.map mb] W fun e w' => e = .returned (.func (.func 144) #[] #[.pointer (some ⟨W.heap.size, 0, none⟩)]) ∧ w' = W.alloc (.cells #[.map mb] 169) :=
  AnyZ.keys_in Tryz.keys130 Fence.wide 5 trivial rfl mb W

set_option maxHeartbeats 1000000 in
theorem Tryz.sortedKeys {H : Type} (b nn : Nat) (D0 : DataW H) (R : Value → Option (DataW H × List MemPlace)) (w : World) (hown : w.ownsMap Tryz.prog 9 R b nn D0) (hmax : Maps.size D0 ≤ maxLen) (hbytes : Maps.size D0 * 16 ≤ 140737488355328) :
    CallsIn Fence.wide 5 Tryz.prog 129 #[.func (.func 144) #[] #[.pointer (some ⟨w.heap.size, 0, none⟩)]] (w.alloc (.cells #[.map (some b)] 169)) fun e w' => ∃ (v : Value) (ss : List (List UInt8)), e = .returned v ∧ ss.Perm (strKeys D0) ∧
      w'.ownsRow (w.alloc (.cells #[.map (some b)] 169)).heap.size 9 1 v ss.length ((ss.mergeSort (fun x y => decide (x ≤ y))).map encStr) ∧ (v = .slice none 0 0 ↔ ss = []) ∧ Below (w.alloc (.cells #[.map (some b)] 169)).heap.size (w.alloc (.cells #[.map (some b)] 169)) w' := by
  have hbl := hown.lt
  have hseq : SeqGives Fence.wide 2 Tryz.prog 144 #[.pointer (some ⟨w.heap.size, 0, none⟩)] encStr (fun ss => ss.Perm (strKeys D0)) (Maps.size D0) (w.alloc (.cells #[.map (some b)] 169)) :=
    AnyZ.keys_gives (ρ := Tryz.keys130_ren) { Tryz.keys130 with } Fence.wide _ trivial rfl (by omega) w.heap.size b nn D0 _ (by simp) (by simp) (by
      obtain ⟨es, clock, hb, Ft, hs, hD⟩ := hown
      exact ⟨es, clock, (Below.heap_alloc _ _ b hbl).trans hb, Ft, hs, hD⟩)
  exact AnyZ.sorted_in Tryz.sorted129 Fence.wide 5 trivial trivial trivial trivial rfl (by omega) (Tryz.sorts129 _) (enters_of Tryz.func72 (by kernel_rfl) rfl) 144 #[.pointer (some ⟨w.heap.size, 0, none⟩)] trivial (enters_of Tryz.func144 (by kernel_rfl) rfl) _ _ hmax hbytes _ hseq

set_option maxHeartbeats 1000000 in
theorem Tryz.sortedNil (w : World) :
    CallsIn Fence.wide 5 Tryz.prog 129 #[.func (.func 144) #[] #[.pointer (some ⟨w.heap.size, 0, none⟩)]] (w.alloc (.cells #[.map none] 169)) fun e w' => ∃ (v : Value) (ss : List (List UInt8)), e = .returned v ∧ ss = [] ∧
      w'.ownsRow (w.alloc (.cells #[.map none] 169)).heap.size 9 1 v ss.length ((ss.mergeSort (fun x y => decide (x ≤ y))).map encStr) ∧ (v = .slice none 0 0 ↔ ss = []) ∧ Below (w.alloc (.cells #[.map none] 169)).heap.size (w.alloc (.cells #[.map none] 169)) w' := by
  have hseq : SeqGives Fence.wide 2 Tryz.prog 144 #[.pointer (some ⟨w.heap.size, 0, none⟩)] encStr (fun ss : List (List UInt8) => ss = []) 0 (w.alloc (.cells #[.map none] 169)) :=
    AnyZ.keys_gives_nil (ρ := Tryz.keys130_ren) { Tryz.keys130 with } Fence.wide _ trivial rfl w.heap.size _ (by simp) (by simp)
  exact AnyZ.sorted_in Tryz.sorted129 Fence.wide 5 trivial trivial trivial trivial rfl (by omega) (Tryz.sorts129 _) (enters_of Tryz.func72 (by kernel_rfl) rfl) 144 #[.pointer (some ⟨w.heap.size, 0, none⟩)] trivial (enters_of Tryz.func144 (by kernel_rfl) rfl) _ 0 (Nat.zero_le _) (by omega) _ hseq




end Go.Proofs.YtiecoplfiahpnaaGreat

namespace Go.Proofs.YtiecoplfiahpnaaGreat
open Go.RowKit Go.Lib Go.Maps Go.MapKept Go.ChangeMaps Go.Sort
open Go.WideElems (Fit)
/-- A map's update that was reckoned ahead. -/
theorem wpList_mapUpdate_run {ops : Array Oper} {rest : List Oper} {op : Oper} {a : Act} {w w1 : World} {Q : Exit → Act → World → Prop} (hgd : op.guard = none) (ty : TypeId) (x y z : Operand) (ho : op.op = .mapUpdate ty x y z)
    (p v u : Value) (hx : a.eval x = p) (hy : a.eval y = v) (hz : a.eval z = u) (hr : (Instr.mapUpdate ty p v u).run Tryz.prog w = .ok () w1)
    (h : wpList Tryz.prog ops Q rest (a.put op.dst undef) w1) : wpList Tryz.prog ops Q (op :: rest) a w :=
  wpList_plain hgd fun _ hK => by
    unfold Oper.wp execOp
    simp only [ho, hx, hy, hz, Sem.run_bind, Sem.run_pure, Result.andThen_ok, hr]
    exact hK _ _ h
/-- How nothing reads. -/
def stE (v : Value) : Option (DataW Unit × List MemPlace) :=
  match v with
  | .agg cs => if cs.size = 0 then some (.agg [], []) else none
  | _ => none
def stD (_ : ByteArray) : DataW Unit := .agg []
/-- A map of names at a block. -/
def MN (w : World) (b : Nat) (L : List OB) : Prop := w.ownsMap Tryz.prog 9 stE b L.length (datL stD L)
theorem keys_st (L : List OB) : strKeys (datL stD L) = L.map (fun p => p.n.data.toList) := by
  show (L.map (entr stD)).map _ = _
  rw [List.map_map]
  rfl
theorem lay_mem {n d x : ByteArray} : ∀ {L : List OB}, x ∈ (layL L n d).map (·.n) ↔ x ∈ L.map (·.n) ∨ x = n
  | [] => by simp [layL]
  | p :: r => by
    rw [layL]
    split
    · simp only [List.map_cons, List.mem_cons, lay_mem (L := r)]
      constructor
      · rintro (h | h | h)
        · exact .inl (.inl h)
        · exact .inl (.inr h)
        · exact .inr h
      · rintro ((h | h) | h)
        · exact .inl h
        · exact .inr (.inl h)
        · exact .inr (.inr h)
    · split
      · rename_i h
        simp only [List.map_cons, List.mem_cons, h]
        constructor
        · rintro (h | h)
          · exact .inr h
          · exact .inl (.inr h)
        · rintro ((h | h) | h)
          · exact .inl h
          · exact .inr h
          · exact .inl h
      · simp only [List.map_cons, List.mem_cons]
        constructor
        · rintro (h | h | h)
          · exact .inr h
          · exact .inl (.inl h)
          · exact .inl (.inr h)
        · rintro ((h | h) | h)
          · exact .inr (.inl h)
          · exact .inr (.inr h)
          · exact .inl h
theorem ris_t {L : List OB} (h : Ris L) : RisT (L.map (·.n)) := List.pairwise_map.2 h
theorem lay_ins {L : List OB} (h : Ris L) (n d : ByteArray) : (layL L n d).map (·.n) = insT (L.map (·.n)) n :=
  ris_ext (ris_t (ris_lay h n d)) (insT_ris (ris_t h) n) fun x => by rw [lay_mem, insT_mem]
section
variable {w w' : World} {b : Nat} {L : List OB}
theorem MN.lt (h : MN w b L) : b < w.heap.size := World.ownsMap.lt h
theorem MN.below (h : MN w b L) (hb : Below w.heap.size w w') : MN w' b L := by
  have hl := h.lt
  obtain ⟨es, clock, hm, r⟩ := h
  exact ⟨es, clock, (hb.block b hl).trans hm, r⟩
theorem MN.made (w : World) : MN (w.alloc (.map #[] 0)) w.heap.size [] := World.ownsMap_made w Tryz.prog 9 stE
theorem MN.put (h : MN w b L) (hL : Ris L) {n : ByteArray} (hn : n.size ≤ maxLen) (hl : L.length ≤ 4000000000000) :
    ∃ w', (Instr.mapUpdate 169 (.map (some b)) (.string n) (.agg #[])).run Tryz.prog w = .ok () w' ∧ MN w' b (layL L n ⟨#[]⟩) ∧ w.grownBy w' (some b) ∧ w'.heap.size = w.heap.size := by
  obtain ⟨w', hrun, ho, hg⟩ := World.ownsMap.store h (string_keyed Tryz.underlying9) Tryz.underlying169 (by unfold maxLen; omega) (WideMaps.keyOf_string_mk Tryz.underlying9 hn) (show stE (.agg #[]) = some (stD ⟨#[]⟩, []) from rfl)
  rw [dat_put stD hL] at ho
  have := tight ho
  rw [dat_size] at this
  refine ⟨w', hrun, this, hg.grown, ?_⟩
  obtain ⟨es, clock, es', clock', hb, rfl⟩ := hg
  simp [setBlock]
end
/-- The names of the answers, each once, rising. -/
def lI (A : List RR) : List ByteArray := uniT (A.map (·.l))
theorem uni_res (A : List RR) : (uniT (A.map (·.l))).length ≤ (resI A).length := by
  have h := uniT_len (A.map (·.l))
  have e : (A.map (·.l)).flatMap id = resI A := by rw [List.flatMap_map]; rfl
  rw [e] at h
  exact h
theorem res_mem {A : List RR} {a : RR} (h : a ∈ A) : a.l.length ≤ (resI A).length := by
  rw [resI]
  exact (List.sublist_flatten_of_mem (List.mem_map_of_mem (f := fun x : RR => x.l) h)).length_le
theorem insA_take (L N : List ByteArray) (q : Nat) : (insA L (N.take q)).length ≤ L.length + N.length := by
  have := insA_len (N.take q) L
  rw [List.length_take] at this
  omega
/-- Where the gathering stands. -/
structure GA9 (w wr : World) (mb : Nat) (N : List ByteArray) : Prop where
  be : Below w.heap.size w wr
  le : w.heap.size ≤ mb
  m : ∃ L, MN wr mb L ∧ Ris L ∧ L.map (·.n) = N
section
variable {w : World} {av : Value} {X : List (RR × Value)} {r : Nat → Prop}
theorem GA9.bel {wr wr' : World} {mb : Nat} {N : List ByteArray} (h : GA9 w wr mb N) (hb : Below wr.heap.size wr wr') : GA9 w wr' mb N := by
  obtain ⟨L, h1, h2, h3⟩ := h.m
  exact ⟨h.be.trans (hb.mono h.be.size), h.le, L, h1.below hb, h2, h3⟩
theorem GA9.put {wr : World} {mb : Nat} {N : List ByteArray} (h : GA9 w wr mb N) {n : ByteArray} (hn : n.size ≤ maxLen) (hl : N.length ≤ 4000000000000) :
    ∃ w', (Instr.mapUpdate 169 (.map (some mb)) (.string n) (.agg #[])).run Tryz.prog wr = .ok () w' ∧ GA9 w w' mb (insT N n) := by
  obtain ⟨L, h1, h2, h3⟩ := h.m
  have hL : L.length = N.length := by rw [← h3]; simp
  obtain ⟨w', hr, hM, hg, hs⟩ := h1.put h2 hn (by omega)
  refine ⟨w', hr, h.be.grown hg h.be.size (fun k hk => by cases hk; exact h.le), h.le, _, hM, ris_lay h2 n _, ?_⟩
  rw [lay_ins h2, h3]
theorem sort_keys {L : List OB} (h : Ris L) {ss : List (List UInt8)} (hp : ss.Perm (strKeys (datL stD L))) : (ss.mergeSort (fun x y => decide (x ≤ y))).map encStr = tc (L.map (·.n)) := by
  rw [keys_st] at hp
  have e : ss.mergeSort leB = L.map (fun p => p.n.data.toList) := by
    rw [mergeSort_of_perm hp, List.mergeSort_of_pairwise]
    exact List.pairwise_map.2 (h.imp fun {p q} hb => decide_eq_true (List.le_of_lt (before_lt _ _ hb)))
  show (ss.mergeSort leB).map encStr = _
  rw [e, tc, List.map_map, List.map_map]
  refine List.map_congr_left fun p _ => ?_
  show encStr p.n.data.toList = .string p.n
  rw [enc_mk, mkB_to]
set_option maxRecDepth 100000 in
set_option maxHeartbeats 3200000 in
theorem namesOf_any (hL : LS x3 3 r w av X) (hN : ∀ x ∈ X, LS t1 1 r w x.2 x.1.l) (hsm : ∀ x ∈ X, ∀ y ∈ x.1.l, y.size ≤ maxLen) (hn : X.length ≤ 1000000) (hIl : (resI (X.map (·.1))).length ≤ 1000000000000) :
    Calls Tryz.prog 104 #[av] w fun e w' => ∃ v, e = .returned v ∧ TS w.heap.size v (lI (X.map (·.1))) w' ∧ Below w.heap.size w w' := by
  obtain ⟨a, c, rfl, h1, h2⟩ := hL
  have HC : Hid (∀ j x, X[j]? = some x → ∀ wr, Below w.heap.size w wr → ∃ g o, a = some ⟨g, o, none⟩ ∧ wr.cell? ⟨g, o + j * 3, none⟩ = some (.int .i64 x.1.c) ∧ wr.cell? ⟨g, o + j * 3 + 1, none⟩ = some (.string x.1.d) ∧ wr.cell? ⟨g, o + j * 3 + 2, none⟩ = some x.2) := fun j x hx wr hb => by
    rcases h2 with h2 | ⟨g, o, ea, hr, hg, hG⟩
    · rw [h2] at hx; simp at hx
    · exact ⟨g, o, ea, (hb.cell (p := ⟨g, o + j * 3, none⟩) hg).trans (hG j x hx 0 _ rfl), (hb.cell (p := ⟨g, o + j * 3 + 1, none⟩) hg).trans (hG j x hx 1 _ rfl), (hb.cell (p := ⟨g, o + j * 3 + 2, none⟩) hg).trans (hG j x hx 2 _ rfl)⟩
  have HNM : Hid (∀ (j : Nat) (x : RR × Value), X[j]? = some x → x.1.l.length ≤ 1000000000000 ∧ (∃ ua uc, x.2 = .slice ua x.1.l.length uc ∧ ∀ q y, x.1.l[q]? = some y → y.size ≤ maxLen ∧ ∀ wr, Below w.heap.size w wr → ∃ g o, ua = some ⟨g, o, none⟩ ∧ wr.cell? ⟨g, o + q, none⟩ = some (.string y))) := fun j x hx => by
    have hm := List.mem_of_getElem? hx
    obtain ⟨ua, uc, e⟩ := (hN x hm).shp
    refine ⟨Nat.le_trans (res_mem (List.mem_map_of_mem hm)) hIl, ua, uc, e, fun q y hy => ⟨hsm x hm y (List.mem_of_getElem? hy), fun wr hb => ?_⟩⟩
    have h3 := (hN x hm).bel hb
    rw [e] at h3
    obtain ⟨g, o, e1, _, e2⟩ := h3.at1 hy rfl
    exact ⟨g, o, e1, e2⟩
  obtain ⟨m, hm⟩ : ∃ m, m = X.length := ⟨_, rfl⟩
  rw [← hm] at hn ⊢
  have HM := hide hm
  have HIL : Hid (∀ j, (uniT ((X.take j).map (·.1.l))).length ≤ 1000000000000) := fun j => by
    have e : (X.take j).map (·.1.l) = ((X.map (·.1)).take j).map (·.l) := by rw [← List.map_take, List.map_map]; rfl
    have h3 := uni_res ((X.map (·.1)).take j)
    have h4 := resI_take (X.map (·.1)) j
    rw [e]
    omega
  have HLI : Hid (lI (X.map (·.1)) = uniT (X.map (·.1.l))) := by show lI _ = _; rw [lI, List.map_map]; rfl
  obtain ⟨U, hU⟩ : ∃ U, U = w.alloc (.map #[] 0) := ⟨_, rfl⟩
  obtain ⟨mb, hmb⟩ : ∃ mb, mb = w.heap.size := ⟨_, rfl⟩
  have H0 : Hid (GA9 w U mb (uniT ((X.take 0).map (·.1.l)))) := by
    refine ⟨?_, by omega, [], ?_, List.Pairwise.nil, by rw [List.take_zero]; rfl⟩
    · rw [hU]; exact (Below.refl _ _).alloc (Nat.le_refl _) _
    · rw [hU, hmb]; exact MN.made w
  have HU := hide hU
  have HMB := hide hmb
  have hmk : ∀ w : World, (Instr.makeMap 169 none).run Tryz.prog w = .ok (.map (some w.heap.size)) (w.alloc (.map #[] 0)) := fun _ => rfl
  clear hm h1 h2 hN hsm hIl hU hmb
  go_enter Tryz.func104, Tryz.ntmps104
  go_upto_region 2 with fail
  rw [← HU.out, ← HMB.out]
  go_wp2
  go_loopw [11] (fun i wr => ∃ j : Nat, j ≤ m ∧ i = .int .i64 j ∧ GA9 w wr mb (uniT ((X.take j).map (·.1.l)))) (fun i _ => m - (intOf i).toNat)
  case atStart => exact ⟨0, Nat.zero_le _, rfl, H0.out⟩
  case round =>
    obtain ⟨j, hj, rfl, hO⟩ := hrel
    by_cases hlt : j < m
    · have b1 : (j : Int) < (m : Int) := by omega
      have b0 : (0 : Int) ≤ (j : Int) := by omega
      obtain ⟨x, hx⟩ : ∃ x, X[j]? = some x := ⟨_, List.getElem?_eq_getElem (by rw [← HM.out]; exact hlt)⟩
      obtain ⟨g, o, rfl, z0, z1, z2⟩ := HC.out j x hx _ hO.be
      obtain ⟨hlx, ua, uc, hu, hnm⟩ := HNM.out j x hx
      have HI1 := HIL.out j
      have HTK : Hid ((X.take (j + 1)).map (·.1.l) = (X.take j).map (·.1.l) ++ [x.1.l]) := by
        show _ = _
        rw [take_snoc_at hx, List.map_append]; rfl
      obtain ⟨xr, xu⟩ := x
      dsimp only at hu z0 z1 z2 hnm hlx HTK
      subst hu
      obtain ⟨cc, hcc⟩ : ∃ cc, cc = xr.c := ⟨_, rfl⟩
      obtain ⟨dd, hdd⟩ : ∃ dd, dd = xr.d := ⟨_, rfl⟩
      obtain ⟨ll, hll⟩ : ∃ ll, ll = xr.l := ⟨_, rfl⟩
      rw [← hcc] at z0
      rw [← hdd] at z1
      rw [← hll] at z2 hnm hlx HTK
      obtain ⟨ln, hln⟩ : ∃ ln, ln = ll.length := ⟨_, rfl⟩
      rw [← hln] at z2
      obtain ⟨n5, hn5⟩ : ∃ n5, n5 = wr.heap.size := ⟨_, rfl⟩
      obtain ⟨Zw, hZw⟩ : ∃ Zw, Zw = wr.alloc (.cells #[.int .i64 cc, .string dd, .slice ua ln uc] 72) := ⟨_, rfl⟩
      have hZB : Below wr.heap.size wr Zw := by rw [hZw]; exact (Below.refl _ _).alloc (Nat.le_refl _) _
      have hblk : Zw.heap[n5]? = some (.cells #[.int .i64 cc, .string dd, .slice ua ln uc] 72 (0, 0)) := by rw [hZw, hn5]; exact heap_alloc_new wr _
      have k2 : Zw.cell? ⟨n5, 2, none⟩ = some (.slice ua ln uc) := by simp [World.cell?, hblk]
      obtain ⟨N0, hN0⟩ : ∃ N0, N0 = uniT ((X.take j).map (·.1.l)) := ⟨_, rfl⟩
      rw [← hN0] at hO HI1
      have HO := hide (hO.bel hZB)
      have HZw := hide hZw
      have Hn5 := hide hn5
      have HN0 := hide hN0
      have HLN := hide hln
      have HNM2 := hide hnm
      have hlb : ln ≤ 1000000000000 ∧ ∀ q, (insA N0 (ll.take q)).length ≤ 4000000000000 := ⟨by omega, fun q => by have := insA_take N0 ll q; omega⟩
      have HLB := hide hlb
      clear hO hZw hn5 hZB hblk hcc hdd hll hx hN0 hln hnm hlb HI1 hlx
      go_upto_region 5 with fail
      rw [← HZw.out, ← Hn5.out]
      go_wp2
      generalize wr = wb at *
      go_loopw [18] (fun i wr => ∃ q : Nat, q ≤ ln ∧ i = .int .i64 q ∧ GA9 w wr mb (insA N0 (ll.take q))) (fun i _ => ln - (intOf i).toNat)
      case atStart => exact ⟨0, Nat.zero_le _, rfl, by rw [List.take_zero]; exact HO.out⟩
      case round =>
        obtain ⟨q, hq, rfl, hO2⟩ := hrel
        have hl1 := HLB.out.1
        by_cases hql : q < ln
        · have b1 : (q : Int) < (ln : Int) := by omega
          have b0 : (0 : Int) ≤ (q : Int) := by omega
          obtain ⟨y, hy⟩ : ∃ y, ll[q]? = some y := ⟨_, List.getElem?_eq_getElem (by rw [← HLN.out]; exact hql)⟩
          obtain ⟨hys, hyc⟩ := HNM2.out q y hy
          obtain ⟨g2, o2, rfl, z5⟩ := hyc wr hO2.be
          obtain ⟨w2, hr2, hO3⟩ := hO2.put hys (HLB.out.2 q)
          have HE : Hid (GA9 w w2 mb (insA N0 (ll.take (q + 1)))) := by
            show GA9 _ _ _ _
            rw [take_snoc_at hy, insA_snoc]
            exact hO3
          clear hO2 hO3 hyc hys hy
          go_wp2_with (refine wpList_mapUpdate_run rfl 169 _ _ _ rfl _ _ _ rfl rfl rfl hr2 ?_)
          exact ⟨⟨q + 1, by omega, by go_num, HE.out⟩, by simp [intOf]; omega⟩
        · obtain rfl : q = ln := by omega
          have HE : Hid (GA9 w wr mb (uniT ((X.take (j + 1)).map (·.1.l)))) := by
            show GA9 _ _ _ _
            rw [HTK.out, uniT_snoc, ← HN0.out]
            have e : ll.take q = ll := List.take_of_length_le (by have := HLN.out; omega)
            rw [e] at hO2
            exact hO2
          clear hO2
          go_wp2
          exact ⟨⟨j + 1, by omega, by go_num, HE.out⟩, by simp [intOf]; omega⟩
    · obtain rfl : j = m := by omega
      have e : X.take j = X := List.take_of_length_le (by have := HM.out; omega)
      have hI := HIL.out j
      rw [e] at hO hI
      obtain ⟨L, hML, hRL, hLn⟩ := hO.m
      have hLl : L.length ≤ 1000000000000 := by
        have : (L.map (·.n)).length ≤ 1000000000000 := by rw [hLn]; exact hI
        simpa using this
      have HK1 := hide ((callsIn_wide (n := 5)).1 (Tryz.mapsKeys (some mb) wr))
      have HK2 := hide ((callsIn_wide (n := 5)).1 (Tryz.sortedKeys mb L.length (datL stD L) stE wr hML (by rw [dat_size]; unfold maxLen; omega) (by rw [dat_size]; omega)))
      have HB := hide hO.be
      have HR := hide (And.intro hRL hLn)
      clear hO hI hML hRL hLn hLl e
      go_wp2_with fail
      refine HK1.out.mono ?_
      rintro e w1 ⟨rfl, rfl⟩
      go_wp2_with fail
      refine HK2.out.mono ?_
      rintro e w2 ⟨v, ss, rfl, hP, hrow, _, hB2⟩
      have HE : Hid (TS w.heap.size v (lI (X.map (·.1))) w2 ∧ Below w.heap.size w w2) := by
        have hB0 : Below w.heap.size w (wr.alloc (.cells #[.map (some mb)] 169)) := HB.out.alloc HB.out.size _
        refine ⟨?_, hB0.trans (hB2.mono hB0.size)⟩
        rw [HLI.out, ← HR.out.2]
        rw [sort_keys HR.out.1 hP] at hrow
        have hlen : ss.length = (L.map (·.n)).length := by rw [hP.length_eq, keys_st]; simp
        rw [hlen] at hrow
        exact TS.low (B := (wr.alloc (.cells #[.map (some mb)] 169)).heap.size) ⟨hrow⟩ hB0.size
      clear hP hrow hB2
      go_wp2
      go_ret
      exact ⟨v, rfl, HE.out⟩
end
end Go.Proofs.YtiecoplfiahpnaaGreat

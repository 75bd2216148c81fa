/-
  SdTLaw: texts of earlier layers, laid over this program.
-/
import Derived.Test.YtklaeocnimkboaaDoorSdMake
import Derived.Test.YtklaeocnimkboaaDoorSdBack
import Derived.Test.YtklaeocnimkboaaDoorSdTurnM
import Derived.Test.YtklaeocnimkboaaDoorBAmong
import Derived.Deep.DeepCutAuto
import Derived.Deep.CutBlock
namespace Go.Proofs.YtklaeocnimkboaaDoor
open Go.RowKit Go.Lib

theorem make21 {w : World} (hL : Sh.Laid w) {s : ByteArray} (hs : s.size ≤ 65536) :
    Calls Tryd.prog 5 #[.int .i64 2, .int .i64 1, .string s] w fun e w' => ∃ q, e = .returned (.tuple #[.slice (some ⟨q, 0, none⟩) 3 3, .int .i64 0]) ∧ SB w' q 3 (shB 2 1 s) ∧ w.heap.size ≤ q ∧ Below w.heap.size w w' :=
  make_ok (k := 2) (m := 1) hL (by decide) (by decide) hs

theorem shB_ok {s : ByteArray} (hs : s.size ≤ 65536) {a : Nat} (ha : a < 3) : ∃ x : SX, okS x ∧ (shB 2 1 s a).data.toList = fullL x ∧ decX (shB 2 1 s a).data.toList = x ∧ x.id = bs (Sh.digest s.data.toList) ∧ x.long = s.size := by
  have h := shX_ok (k := 2) (m := 1) (by decide) (by decide) hs ha
  refine ⟨shX 2 1 s a, h, bs_toList _, ?_, rfl, rfl⟩
  rw [shB, bs_toList, dec_full h]
theorem shB_size {s : ByteArray} (hs : s.size ≤ 300) {a : Nat} (ha : a < 3) : 47 ≤ (shB 2 1 s a).size ∧ (shB 2 1 s a).size ≤ 347 := by
  have h := shX_ok (k := 2) (m := 1) (by decide) (by decide) (show s.size ≤ 65536 by omega) ha
  rw [shB, bs_size, fullL_length, h.2.2.2.1, h.2.2.2.2]
  have : eachN ((shX 2 1 s a).k.toNat) ((shX 2 1 s a).long.toNat) ≤ s.size := by
    show eachN ((2 : Int).toNat) ((s.size : Int).toNat) ≤ s.size
    rw [Int.toNat_natCast]
    exact eachN_le (by decide)
  omega

set_option maxRecDepth 100000 in
set_option maxHeartbeats 3200000 in
theorem turned_walk (data : ByteArray) (a0 a1 by_ : Int) (w : World) (hL : Sh.Laid w) :
    Calls Tryd.prog 3 #[.string data, .agg #[.int .i64 a0, .int .i64 a1], .int .i64 by_] w fun e w' => e = .returned (.bool true) ∧ Below w.heap.size w w' := by
  obtain ⟨W, hW⟩ : ∃ W, W = w.alloc (.cells #[.int .i64 a0, .int .i64 a1] 22) := ⟨_, rfl⟩
  have HB : Hid (Below w.heap.size w W) := by rw [hW]; exact below_alloc (Below.refl _ _) _
  have hA : W.heap[w.heap.size]? = some (.cells #[.int .i64 a0, .int .i64 a1] 22 (0, 0)) := by rw [hW]; exact heap_alloc_new w _
  have HA : Hid (∀ w', Below W.heap.size W w' → w'.cell? ⟨w.heap.size, 0, none⟩ = some (.int .i64 a0) ∧ w'.cell? ⟨w.heap.size, 1, none⟩ = some (.int .i64 a1)) := fun w' hb => by
    have h := (hb.block w.heap.size (lt_of_block hA)).trans hA
    exact ⟨by simp [World.cell?, h], by simp [World.cell?, h]⟩
  have HL := hide (hL.below HB.out hL.size)
  have HW := hide hW
  clear hW hA hL
  go_enter Tryd.func3, Tryd.ntmps3
  go_wp2_with fail
  rw [← HW.out]
  refine (sworks_any W).mono ?_
  rintro e w1 ⟨rfl, hw1⟩
  subst w1
  by_cases h1 : 300 < data.size
  · go_wp2
    go_ret
    exact ⟨rfl, HB.out⟩
  have hs : data.size ≤ 300 := by omega
  go_wp2_with fail
  refine (make21 HL.out (s := data) (by omega)).mono ?_
  rintro e w2 ⟨q, rfl, hS, hq, hb2⟩
  have HS := hide hS
  have HB2 := hide hb2
  have HL2 := hide (HL.out.below hb2 HL.out.size)
  obtain ⟨x0, x1⟩ := HA.out _ hb2
  clear hS hb2 HL HW hq
  go_wp2_with fail
  refine (among_any _ a0 3 (by decide) (by decide)).mono ?_
  rintro e w3 ⟨rfl, hw3⟩
  subst hw3
  have ha := (amg_spec a0 3 (by decide)).2.1
  generalize amg a0 3 = a at *
  obtain ⟨S, hSd⟩ : ∃ S, S = shB 2 1 data a := ⟨_, rfl⟩
  have ca := HS.out.cell a ha
  rw [← hSd] at ca
  have HSD := hide hSd
  have hz : 47 ≤ S.size ∧ S.size ≤ 347 := by rw [hSd]; exact shB_size hs ha
  have ba : (a : Int) < 3 := by omega
  have ba0 : (0 : Int) ≤ (a : Int) := by omega
  clear hSd
  go_upto_if 45 with fail
  go_cut [10] (fun pv wx => ∃ p : Nat, pv = .int .u32 (p : Int) ∧ p < 4294967296 ∧ wx = w3)
  case first =>
    by_cases hp : by_ % 4294967296 = 0
    · have hp2 : (by_ % 4294967296 == 0) = true := by simpa using hp
      clear hp
      go_wp2
      go_meet
      case rel => exact ⟨1, rfl, by decide, rfl⟩
    · have hp2 : (by_ % 4294967296 == 0) = false := by simpa using hp
      obtain ⟨p, hpp⟩ : ∃ p : Nat, by_ % 4294967296 = p := ⟨(by_ % 4294967296).toNat, by omega⟩
      have hpl : p < 4294967296 := by omega
      rw [hpp] at hp2 ⊢
      clear hp hpp
      go_wp2
      go_meet
      case rel => exact ⟨p, rfl, hpl, rfl⟩
  case rest =>
  obtain ⟨p, rfl, hp, hwc⟩ := hcut
  subst hwc
  have hconv := run_bytes_of_string (P := Tryd.prog) wc 9 30 5 S Tryd.underlying9 Tryd.underlying30 Tryd.underlying5
  have hge := grownCap_ge wc S.size 0 5
  generalize grownCap wc S.size 0 5 = cap at *
  obtain ⟨V, hV⟩ : ∃ V, V = wc.drew.alloc (.cells (bytesRow S cap) 5 ((bytesRow S cap).size, (bytesRow S cap).size + 1)) := ⟨_, rfl⟩
  rw [← hV] at hconv
  have HBV : Hid (Fd.BR V wc.heap.size S.data.toList) := by rw [hV]; exact Fd.BR.turned S cap _ hge rfl (heap_alloc_new wc.drew _)
  have HbV : Hid (Below wc.heap.size wc V) := by rw [hV]; exact (Below.refl _ _).drew.alloc (Nat.le_refl _) _
  obtain ⟨_, x1⟩ := HA.out _ (below_step HB2.out HbV.out)
  obtain ⟨N, hN⟩ : ∃ N, N = 8 * S.size := ⟨_, rfl⟩
  have hNi : (8 : Int) * (S.size : Int) = (N : Int) := by omega
  have hN1 : 0 < N := by omega
  have hN2 : N < 100000 := by omega
  have HN := hide hN
  clear hV hge hN x0
  go_wp2_with fail
  refine (among_any _ a1 N hN1 hN2).mono ?_
  rintro e w5 ⟨rfl, hw5⟩
  rw [hw5]
  clear hw5 w5
  have hfi := (amg_spec a1 N hN1).2.1
  generalize amg a1 N = first at *
  obtain ⟨g, hg⟩ : ∃ g, g = wc.heap.size := ⟨_, rfl⟩
  rw [← hg] at HBV ⊢
  have HGZ := hide hg
  clear hconv hg
  go_wp2
  go_loopw [54] (fun z wr => ∃ (j : Nat) (L : List UInt8), j ≤ 32 ∧ z = .int .i64 j ∧ Fd.BR wr g L ∧ TL S.data.toList L p first j ∧ Below wc.heap.size wc wr) (fun z _ => 32 - (RowKit.intOf z).toNat)
  case atStart => exact ⟨0, _, Nat.zero_le _, rfl, HBV.out, TL.start _ _ _, HbV.out⟩
  case round =>
    clear HBV HbV
    obtain ⟨j, L, hj, rfl, hBL, hTL, hbL⟩ := hrel
    by_cases hlt : j < 32
    · have hlen : L.length = S.size := by rw [hTL.len, bsize]
      have HBL := hide hBL
      have HTL := hide hTL
      have HbL := hide hbL
      have b1 : (j : Int) < 32 := by omega
      have htb := test_bit (j := j) hp
      clear hBL hTL hbL
      by_cases hb : p.testBit j = true
      · rw [hb] at htb
        by_cases hq : first + j < N
        · have b2 : (first : Int) + (j : Int) < (N : Int) := by omega
          obtain ⟨A, hA⟩ : ∃ A, A = (first + j) / 8 := ⟨_, rfl⟩
          obtain ⟨r, hr⟩ : ∃ r, r = (first + j) % 8 := ⟨_, rfl⟩
          have d1 : ((first : Int) + (j : Int)) / 8 = (A : Int) := by omega
          have d2 : ((first : Int) + (j : Int)) % 8 = (r : Int) := by omega
          have hAS : A < S.size := by omega
          have b3 : (A : Int) < (S.size : Int) := by omega
          have b4 : (0 : Int) ≤ (A : Int) := by omega
          obtain ⟨x, hx⟩ := Fd.get_some L A (by rw [hlen]; exact hAS)
          have cA := HBL.out.cell A _ hx
          have fA := HBL.out.free A (by rw [hlen]; exact hAS)
          have HQA := hide (And.intro hA hr)
          have hpw : 2 ^ r < 256 := Nat.lt_of_le_of_lt (Nat.pow_le_pow_right (by decide) (show r ≤ 7 by omega)) (by decide)
          have hxr : bits .xor .u8 (x.toNat : Int) (2 ^ r % 256) = (((x ^^^ UInt8.ofNat (2 ^ r)).toNat : Nat) : Int) := by
            rw [show ((2 : Int) ^ r % 256) = (((UInt8.ofNat (2 ^ r)).toNat : Nat) : Int) by
              rw [UInt8.toNat_ofNat', Nat.mod_eq_of_lt hpw, show ((2 : Int) ^ r) = ((2 ^ r : Nat) : Int) by simp]
              generalize 2 ^ r = y at *
              omega]
            exact Fd.u8_xor x (UInt8.ofNat (2 ^ r))
          have hT2 : tbit L (first + j) = L.set A (x ^^^ UInt8.ofNat (2 ^ r)) := by
            rw [tbit, ← hA, ← hr, List.getD_eq_getElem?_getD, hx, Option.getD_some]
          have hB2 := HBL.out.set A (by rw [hlen]; exact hAS) (x ^^^ UInt8.ofNat (2 ^ r))
          rw [← hT2] at hB2
          have HB2' := hide hB2
          have HT2 := hide (HTL.out.on hb (by rw [bsize, ← HN.out]; exact hq))
          have Hb2 := hide (HbL.out.setCell (p := ⟨g, A, none⟩) (by rw [HGZ.out]; exact Nat.le_refl _) (.int .u8 (((x ^^^ UInt8.ofNat (2 ^ r)).toNat : Nat) : Int)))
          clear hA hr hpw hT2 hB2 HBL HTL HbL hx
          go_upto_region 19 with fail
          go_region
          go_wp2
          exact ⟨⟨j + 1, _, by omega, by go_num, HB2'.out.drew, HT2.out, Hb2.out.drew⟩, by simp [RowKit.intOf]; omega⟩
        · have b2 : ¬ ((first : Int) + (j : Int) < (N : Int)) := by omega
          have HT2 := hide (HTL.out.off (.inr (by rw [bsize, ← HN.out]; omega)))
          clear HTL
          go_wp2
          exact ⟨⟨j + 1, _, by omega, by go_num, HBL.out, HT2.out, HbL.out⟩, by simp [RowKit.intOf]; omega⟩
      · have hb2 : p.testBit j = false := by simpa using hb
        rw [hb2] at htb
        have HT2 := hide (HTL.out.off (.inl hb2))
        clear HTL hb hb2
        go_wp2
        exact ⟨⟨j + 1, _, by omega, by go_num, HBL.out, HT2.out, HbL.out⟩, by simp [RowKit.intOf]; omega⟩
    · obtain rfl : j = 32 := by omega
      have hlen : L.length = S.size := by rw [hTL.len, bsize]
      have HBL := hide hBL
      have HTL := hide hTL
      have HbL := hide hbL
      obtain ⟨X, hX1, hX2, hX3, hX4, hX5⟩ := shB_ok (s := data) (show data.size ≤ 65536 by omega) ha
      rw [← HSD.out] at hX2 hX3
      have HFX : Hid (S.data.toList = fullL X ∧ okS X ∧ decOK S.data.toList ∧ (decX S.data.toList).id = bs (Sh.digest data.data.toList) ∧ (decX S.data.toList).long = (data.size : Int)) :=
        ⟨hX2, hX1, by rw [hX2]; exact full_ok hX1, by rw [hX3]; exact hX4, by rw [hX3]; exact hX5⟩
      obtain ⟨Y, hY⟩ : ∃ Y, Y = Fd.strOf L := ⟨_, rfl⟩
      have hYL : Y.data.toList = L := by rw [hY]; exact Fd.strOf_toList L
      have hYz : Y.size = S.size := by rw [← bsize, hYL]; exact hlen
      have hstr := HBL.out.str_all cap S.size hlen.symm
      rw [← hY] at hstr
      have HFD : Hid (decOK L → Y = S) := fun hd => by
        have := TL.found (x := X) (L := L) (p := p) (first := first) (by rw [← hX2]; exact HTL.out) hp (by rw [← hX2, bsize, ← HN.out]; omega) hd
        apply ByteArray.ext
        apply Array.toList_inj.1
        rw [hYL, this, hX2]
      clear hBL hTL hbL hX1 hX2 hX3 hX4 hX5 hY
      have HYL := hide hYL
      clear hYL
      by_cases hd : decOK L
      · obtain rfl := HFD.out hd
        have HD : Hid (decOK Y.data.toList) := by rw [HYL.out]; exact hd
        clear hd HFD
        go_wp2_with fail
        refine (decode_ok Y _ (by omega) HD.out).mono ?_
        rintro e w5 ⟨k2, m2, i2, l2, id2, da2, rfl, _, hb5⟩
        have HBT := hide ((below_step HbL.out hb5).alloc (Nat.le_trans HbL.out.size hb5.size) (.cells #[.int .i64 (k2 : Int), .int .i64 (m2 : Int), .int .i64 (i2 : Int), .int .i64 (l2 : Int), .string id2, .string da2] 32))
        have hstr2 := ((HBL.out.of_block (hb5.block g HBL.out.lt)).of_block (Below.heap_alloc w5 (.cells #[.int .i64 (k2 : Int), .int .i64 (m2 : Int), .int .i64 (i2 : Int), .int .i64 (l2 : Int), .string id2, .string da2] 32) g (Nat.lt_of_lt_of_le HBL.out.lt hb5.size))).str_all cap Y.size hlen.symm
        rw [show Fd.strOf L = Y by apply ByteArray.ext; apply Array.toList_inj.1; rw [HYL.out]; exact Fd.strOf_toList L] at hstr2
        clear hb5 HBL HTL HbL hstr
        obtain ⟨WT, hWT⟩ : ∃ V, V = w5.alloc (.cells #[.int .i64 (k2 : Int), .int .i64 (m2 : Int), .int .i64 (i2 : Int), .int .i64 (l2 : Int), .string id2, .string da2] 32) := ⟨_, rfl⟩
        rw [← hWT] at HBT hstr2
        have HWT := hide hWT
        clear hWT
        go_upto_region 22 with fail
        rw [← HWT.out]
        clear HWT
        generalize Y = S at *
        obtain ⟨_, x1⟩ := HA.out _ (below_step HB2.out HBT.out)
        have hS0 : 0 < S.size := by omega
        go_wp2_with fail
        refine (among_any _ a1 S.size hS0 (by omega)).mono ?_
        rintro e w6 ⟨rfl, hw6⟩
        rw [hw6]
        clear hw6 w6
        have hcn := (amg_spec a1 S.size hS0).2.1
        generalize amg a1 S.size = n at *
        have b5 : (0 : Int) ≤ (n : Int) := by omega
        have b6 : (n : Int) ≤ (S.size : Int) := by omega
        have hT1 : (S.extract 0 n).size ≤ 1000000 := by simp; omega
        have HT2 : Hid (¬ decOK (S.extract 0 n).data.toList) := by
          show ¬ decOK (S.extract 0 n).data.toList
          rw [ext_list, List.drop_zero, Nat.sub_zero, HFX.out.1]
          exact cut_found HFX.out.2.1 (by rw [← HFX.out.1, bsize]; exact hcn)
        go_wp2_with fail
        refine (decode_bad (S.extract 0 n) _ hT1 HT2.out).mono ?_
        rintro e w7 ⟨rfl, hb7⟩
        have HB7 := hide (below_step HBT.out hb7)
        clear hb7 HBT x1
        go_wp2_with fail
        refine (decode_ok S _ (by omega) HFX.out.2.2.1).mono ?_
        rintro e w8 ⟨k2, m2, i2, l2, id2, da2, rfl, hd8, hb8⟩
        have HB8 := hide ((below_step HB7.out hb8).alloc (Nat.le_trans HB7.out.size hb8.size) (.cells #[.int .i64 (k2 : Int), .int .i64 (m2 : Int), .int .i64 (i2 : Int), .int .i64 (l2 : Int), .string id2, .string da2] 32))
        have Y8 := SK.new 32 w8 k2 m2 i2 l2 id2 da2
        have hid2 : id2 = bs (Sh.digest data.data.toList) := by
          have := congrArg SX.id hd8
          exact this.trans HFX.out.2.2.2.1
        have hl2 : l2 = data.size := by
          have := congrArg SX.long hd8
          have h3 : (l2 : Int) = (data.size : Int) := this.trans HFX.out.2.2.2.2
          omega
        subst hl2
        obtain ⟨U, hU⟩ : ∃ U, U = w8.alloc (.cells #[.int .i64 (k2 : Int), .int .i64 (m2 : Int), .int .i64 (i2 : Int), .int .i64 (data.size : Int), .string id2, .string da2] 32) := ⟨_, rfl⟩
        rw [← hU] at HB8 Y8
        have HU := hide hU
        have HY8 := hide Y8
        have HL8 := hide (HL2.out.below HB8.out HL2.out.size)
        have HID := hide hid2
        obtain ⟨g8, hg8⟩ : ∃ g, g = w8.heap.size := ⟨_, rfl⟩
        rw [← hg8] at HY8
        have HG8 := hide hg8
        clear hd8 hb8 hid2 Y8 hU hg8 HB7
        have KS : Hid (∀ w', Below U.heap.size U w' → (Below U.heap.size U w' ∧ w'.cell? ⟨g8, 3, none⟩ = some (.int .i64 (data.size : Int)) ∧ w'.cell? ⟨g8, 4, none⟩ = some (.string id2))) := fun w' hb => ⟨hb, (HY8.out.below hb HY8.out.lt).cell3, (HY8.out.below hb HY8.out.lt).cell4⟩
        have S0 : Hid (Below U.heap.size U U.drew) := (Below.refl _ _).drew
        have S1 : Hid (∀ o, Below U.heap.size U (U.alloc o).drew) := fun o => (below_alloc (Below.refl _ _) o).drew
        have CS : Hid (∀ (v : Value) (w' : World), v = .slice (some ⟨U.heap.size, 0, none⟩) 1 1 → w' = (U.alloc (.cells #[.string data] 9)).drew → Calls Tryd.prog 8 #[v] w' fun e w'' => e = .returned (.string id2) ∧ (Below U.heap.size U w'' ∧ w''.cell? ⟨g8, 3, none⟩ = some (.int .i64 (data.size : Int)) ∧ w''.cell? ⟨g8, 4, none⟩ = some (.string id2))) := fun v w' hv hw => by
          subst hv
          rw [HID.out] at KS ⊢
          have := sum_one (w := U.drew) (HL8.out.below S0.out HL8.out.size) data (by omega)
          rw [hw]
          exact this.mono fun _ _ ⟨he, hk⟩ => ⟨he, KS.out _ (below_step S0.out hk)⟩
        go_upto_region 26 with fail
        rw [← HU.out, ← HG8.out]
        go_region_held_law (fun w' => Below U.heap.size U w' ∧ w'.cell? ⟨g8, 3, none⟩ = some (.int .i64 (data.size : Int)) ∧ w'.cell? ⟨g8, 4, none⟩ = some (.string id2)) (first | assumption | with_reducible exact KS.out _ S0.out | with_reducible exact KS.out _ (S1.out _))
          (first
            | (go_at_call 8; refine (CS.out _ _ (by with_reducible rfl) (by with_reducible rfl)).mono ?_; rintro e w9 ⟨rfl, k9⟩))
        have HB9 := hide (below_step HB8.out k9.1)
        clear k9 CS KS S0 S1
        go_wp2
        go_ret
        exact ⟨rfl, HB.out.trans ((below_step HB2.out HB9.out).mono HB.out.size)⟩
      · have hne : ¬ Y = S := fun e => by
          subst e
          exact hd (by rw [← HYL.out]; exact HFX.out.2.2.1)
        obtain ⟨u1, u2⟩ := unlike_tests hne
        have HD : Hid (¬ decOK Y.data.toList) := by
          show ¬ decOK Y.data.toList
          rw [HYL.out]
          exact hd
        clear hd HFD hne
        go_wp2_with fail
        refine (decode_bad Y _ (by omega) HD.out).mono ?_
        rintro e w5 ⟨rfl, hb5⟩
        have HBT := hide ((below_step HbL.out hb5).alloc (Nat.le_trans HbL.out.size hb5.size) (.cells #[.int .i64 0, .int .i64 0, .int .i64 0, .int .i64 0, .string ⟨#[]⟩, .string ⟨#[]⟩] 32))
        have hstr2 := ((HBL.out.of_block (hb5.block g HBL.out.lt)).of_block (Below.heap_alloc w5 (.cells #[.int .i64 0, .int .i64 0, .int .i64 0, .int .i64 0, .string ⟨#[]⟩, .string ⟨#[]⟩] 32) g (Nat.lt_of_lt_of_le HBL.out.lt hb5.size))).str_all cap S.size hlen.symm
        rw [show Fd.strOf L = Y by apply ByteArray.ext; apply Array.toList_inj.1; rw [HYL.out]; exact Fd.strOf_toList L] at hstr2
        clear hb5 HBL HTL HbL hstr
        obtain ⟨WT, hWT⟩ : ∃ V, V = w5.alloc (.cells #[.int .i64 0, .int .i64 0, .int .i64 0, .int .i64 0, .string ⟨#[]⟩, .string ⟨#[]⟩] 32) := ⟨_, rfl⟩
        rw [← hWT] at HBT hstr2
        have HWT := hide hWT
        clear hWT
        go_upto_region 22 with fail
        rw [← HWT.out]
        clear HWT
        obtain ⟨_, x1⟩ := HA.out _ (below_step HB2.out HBT.out)
        have hS0 : 0 < S.size := by omega
        go_wp2_with fail
        refine (among_any _ a1 S.size hS0 (by omega)).mono ?_
        rintro e w6 ⟨rfl, hw6⟩
        rw [hw6]
        clear hw6 w6
        have hcn := (amg_spec a1 S.size hS0).2.1
        generalize amg a1 S.size = n at *
        have b5 : (0 : Int) ≤ (n : Int) := by omega
        have b6 : (n : Int) ≤ (S.size : Int) := by omega
        have hT1 : (S.extract 0 n).size ≤ 1000000 := by simp; omega
        have HT2 : Hid (¬ decOK (S.extract 0 n).data.toList) := by
          show ¬ decOK (S.extract 0 n).data.toList
          rw [ext_list, List.drop_zero, Nat.sub_zero, HFX.out.1]
          exact cut_found HFX.out.2.1 (by rw [← HFX.out.1, bsize]; exact hcn)
        go_wp2_with fail
        refine (decode_bad (S.extract 0 n) _ hT1 HT2.out).mono ?_
        rintro e w7 ⟨rfl, hb7⟩
        have HB7 := hide (below_step HBT.out hb7)
        clear hb7 HBT x1
        go_wp2_with fail
        refine (decode_ok S _ (by omega) HFX.out.2.2.1).mono ?_
        rintro e w8 ⟨k2, m2, i2, l2, id2, da2, rfl, hd8, hb8⟩
        have HB8 := hide ((below_step HB7.out hb8).alloc (Nat.le_trans HB7.out.size hb8.size) (.cells #[.int .i64 (k2 : Int), .int .i64 (m2 : Int), .int .i64 (i2 : Int), .int .i64 (l2 : Int), .string id2, .string da2] 32))
        have Y8 := SK.new 32 w8 k2 m2 i2 l2 id2 da2
        have hid2 : id2 = bs (Sh.digest data.data.toList) := by
          have := congrArg SX.id hd8
          exact this.trans HFX.out.2.2.2.1
        have hl2 : l2 = data.size := by
          have := congrArg SX.long hd8
          have h3 : (l2 : Int) = (data.size : Int) := this.trans HFX.out.2.2.2.2
          omega
        subst hl2
        obtain ⟨U, hU⟩ : ∃ U, U = w8.alloc (.cells #[.int .i64 (k2 : Int), .int .i64 (m2 : Int), .int .i64 (i2 : Int), .int .i64 (data.size : Int), .string id2, .string da2] 32) := ⟨_, rfl⟩
        rw [← hU] at HB8 Y8
        have HU := hide hU
        have HY8 := hide Y8
        have HL8 := hide (HL2.out.below HB8.out HL2.out.size)
        have HID := hide hid2
        obtain ⟨g8, hg8⟩ : ∃ g, g = w8.heap.size := ⟨_, rfl⟩
        rw [← hg8] at HY8
        have HG8 := hide hg8
        clear hd8 hb8 hid2 Y8 hU hg8 HB7
        have KS : Hid (∀ w', Below U.heap.size U w' → (Below U.heap.size U w' ∧ w'.cell? ⟨g8, 3, none⟩ = some (.int .i64 (data.size : Int)) ∧ w'.cell? ⟨g8, 4, none⟩ = some (.string id2))) := fun w' hb => ⟨hb, (HY8.out.below hb HY8.out.lt).cell3, (HY8.out.below hb HY8.out.lt).cell4⟩
        have S0 : Hid (Below U.heap.size U U.drew) := (Below.refl _ _).drew
        have S1 : Hid (∀ o, Below U.heap.size U (U.alloc o).drew) := fun o => (below_alloc (Below.refl _ _) o).drew
        have CS : Hid (∀ (v : Value) (w' : World), v = .slice (some ⟨U.heap.size, 0, none⟩) 1 1 → w' = (U.alloc (.cells #[.string data] 9)).drew → Calls Tryd.prog 8 #[v] w' fun e w'' => e = .returned (.string id2) ∧ (Below U.heap.size U w'' ∧ w''.cell? ⟨g8, 3, none⟩ = some (.int .i64 (data.size : Int)) ∧ w''.cell? ⟨g8, 4, none⟩ = some (.string id2))) := fun v w' hv hw => by
          subst hv
          rw [HID.out] at KS ⊢
          have := sum_one (w := U.drew) (HL8.out.below S0.out HL8.out.size) data (by omega)
          rw [hw]
          exact this.mono fun _ _ ⟨he, hk⟩ => ⟨he, KS.out _ (below_step S0.out hk)⟩
        go_upto_region 26 with fail
        rw [← HU.out, ← HG8.out]
        go_region_held_law (fun w' => Below U.heap.size U w' ∧ w'.cell? ⟨g8, 3, none⟩ = some (.int .i64 (data.size : Int)) ∧ w'.cell? ⟨g8, 4, none⟩ = some (.string id2)) (first | assumption | with_reducible exact KS.out _ S0.out | with_reducible exact KS.out _ (S1.out _))
          (first
            | (go_at_call 8; refine (CS.out _ _ (by with_reducible rfl) (by with_reducible rfl)).mono ?_; rintro e w9 ⟨rfl, k9⟩))
        have HB9 := hide (below_step HB8.out k9.1)
        clear k9 CS KS S0 S1
        go_wp2
        go_ret
        exact ⟨rfl, HB.out.trans ((below_step HB2.out HB9.out).mono HB.out.size)⟩
end Go.Proofs.YtklaeocnimkboaaDoor


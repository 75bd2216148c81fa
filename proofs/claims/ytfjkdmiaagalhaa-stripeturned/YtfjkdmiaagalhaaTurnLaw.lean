/-
  The walk of StripeTurned.
-/
import Derived.Test.YtfjkdmiaagalhaaTurnKit
import Derived.Test.YtfjkdmiaagalhaaSumsLaw
namespace Go.Proofs.Ytfjkdmiaagalhaa
open Go.RowKit Go.Lib

theorem TK.gs {w wr w' : World} {b sb f1 f2 g k m q B : Nat} {vw vo : Value} {LW LO : List Nat} {Y s : ByteArray} (h : TK w wr b sb f1 f2 g k m q B vw vo LW LO Y s) (hf1 : w.heap.size ≤ f1) (hf2 : w.heap.size ≤ f2) (hP : PP w' b sb f1 f2 g k m) (hg : Gs (fun i => i = f1 ∨ i = f2) wr w') : TK w w' b sb f1 f2 g k m q B vw vo LW LO Y s :=
  ⟨hP, h.sb.gs h.pp.sp.fl h.pp.fl hg, h.wi.gs h.pp.sp.fl h.pp.fl hg, h.wo.gs h.pp.sp.fl h.pp.fl hg, h.ap, hg.below h.be h.be.size (by rintro i (rfl | rfl) <;> assumption)⟩
theorem eachN_pos {k n : Nat} (k1 : 1 ≤ k) (h : 1 ≤ n) : 1 ≤ eachN k n := by
  have := eachN_ge (k := k) (n := n) k1
  rcases Nat.eq_zero_or_pos (eachN k n) with e | e
  · rw [e] at this; omega
  · exact e
/-- The parts without the turned one join to the bytes. -/
theorem without_join {k m bad : Nat} (k1 : 1 ≤ k) (m1 : 1 ≤ m) (km : k + m ≤ 255) (hb : bad < k + m) (s : ByteArray) :
    (fu k (fun t => (((loL bad (k + m)).getD t 0 : Nat) : Int)) (loL bad (k + m)).length).length = k ∧ joinB k (fun t => (((loL bad (k + m)).getD t 0 : Nat) : Int)) (fun t => shd k s ((loL bad (k + m)).getD t 0)) (loL bad (k + m)).length s.size = s := by
  have hlen := loL_len bad (k + m)
  rw [if_pos hb] at hlen
  have hinj : ∀ a b, a < (loL bad (k + m)).length → b < (loL bad (k + m)).length → (((loL bad (k + m)).getD a 0 : Nat) : Int) = (((loL bad (k + m)).getD b 0 : Nat) : Int) → a = b := fun a b ha hb e => nodup_inj (loL_nodup bad (k + m)) a b ha hb (by omega)
  have hfu := fu_more (k := k) (I := fun t => (((loL bad (k + m)).getD t 0 : Nat) : Int)) (by omega) hinj
  refine ⟨by rw [hfu, List.length_range], any_join k1 km s (fun t _ => rfl) (fun t ht => (loL_mem.1 (getD_mem ht)).1) (fun t _ => rfl) (by rw [hfu, List.length_range]) (fun a b ha hb e => ?_)⟩
  rw [hfu] at e
  have e1 : (List.range k).getD a 0 = a := by rw [List.getD_eq_getElem?_getD, List.getElem?_range ha]; rfl
  have e2 : (List.range k).getD b 0 = b := by rw [List.getD_eq_getElem?_getD, List.getElem?_range hb]; rfl
  rw [e1, e2] at e
  exact hinj a b (by omega) (by omega) e
/-- The parts with the turned one are enough. -/
theorem with_full {k m bad : Nat} (k1 : 1 ≤ k) (m1 : 1 ≤ m) (hb : bad < k + m) : (wiL k bad (k + m)).length = k ∧ (fu k (fun t => (((wiL k bad (k + m)).getD t 0 : Nat) : Int)) (wiL k bad (k + m)).length).length = k := by
  have hlen := loL_len bad (k + m)
  rw [if_pos hb] at hlen
  have hl := wiL_len (bad := bad) (i := k + m) k1 (by omega)
  refine ⟨hl, ?_⟩
  rw [fu_more (Nat.le_of_eq hl.symm) (fun a b ha hb e => nodup_inj (wiL_nodup k bad (k + m)) a b (by omega) (by omega) (by omega)), List.length_range]

/-- The turned part alone. -/
theorem TK.start {w w5 V2 : World} {b sb f1 f2 g k m q : Nat} {s : ByteArray} (hP : PP w5 b sb f1 f2 g k m) (hS : SB w5 q (k + m) (shd k s)) (hB : Below w.heap.size w w5) (hb : Below w5.heap.size w5 V2) (bad : Nat) (Y : ByteArray) :
    ∃ vw w7, (Builtin.append_ #[43, 43] 43 #[.slice none 0 0, .slice (some ⟨V2.heap.size, 0, none⟩) 1 1]).run Try.prog (V2.alloc (.cells #[.int .i64 (bad : Int), .string Y] 53)) = .ok vw w7 ∧ TK w w7 b sb f1 f2 g k m q V2.heap.size vw (.slice none 0 0) [bad] [] Y s ∧ V2.heap.size ≤ w7.heap.size := by
  have hN : ∀ W, IP V2.heap.size (.slice none 0 0) 0 (fun _ => 0) (fun _ => ⟨#[]⟩) W := fun W => IP.nil _ W _ _
  obtain ⟨vw, w7, hap, hI7, hg7, hown7⟩ := (hN V2).one2 (bad : Int) Y (by omega) (Nat.le_refl _)
  have hal : Below V2.heap.size V2 (V2.alloc (.cells #[.int .i64 (bad : Int), .string Y] 53)) := below_alloc (Below.refl _ _) _
  have h52 : Below w5.heap.size w5 (V2.alloc (.cells #[.int .i64 (bad : Int), .string Y] 53)) := below_step hb hal
  have hBe := below_step hB h52
  refine ⟨vw, w7, hap, ⟨(hP.below h52).own (hN _) hg7, (hS.below h52 (Nat.le_refl _)).own (hN _) hg7, hI7.congr (fun t ht => ?_), IP.nil _ _ _ _, fun b _ => by simp [Value.ownBlock], hBe.grown hg7 hBe.size (fun c hc => by simp [Value.ownBlock] at hc)⟩, Nat.le_trans hal.size hg7.size⟩
  obtain rfl : t = 0 := by simp at ht; omega
  exact ⟨rfl, rfl⟩

set_option maxRecDepth 100000 in
set_option maxHeartbeats 3200000 in
theorem turned_walk (x y u v : Int) (s : ByteArray) (w : World) :
    Calls Try.prog 6 #[.agg #[.int .i64 x, .int .i64 y], .string s, .agg #[.int .i64 u, .int .i64 v]] w fun e w' => e = .returned (.bool true) ∧ Below w.heap.size w w' := by
  obtain ⟨k, hk⟩ : ∃ k, k = 1 + amg x 8 := ⟨_, rfl⟩
  obtain ⟨m0, hm0⟩ : ∃ m, m = amg y 7 := ⟨_, rfl⟩
  obtain ⟨m, hm⟩ : ∃ m, m = max 1 m0 := ⟨_, rfl⟩
  have k1 : 1 ≤ k := by omega
  have m1 : 1 ≤ m := by omega
  have km : k + m ≤ 255 := by
    have := (amg_spec x 8 (by decide)).2.1
    have := (amg_spec y 7 (by decide)).2.1
    omega
  have hmx : max (1 : Int) (m0 : Int) = (m : Int) := by omega
  have HKM := hide (And.intro k1 km)
  have HM1 := hide m1
  have HKE := hide (And.intro hk hm0)
  obtain ⟨W, hW⟩ : ∃ W, W = (w.alloc (.cells #[.int .i64 x, .int .i64 y] 22)).alloc (.cells #[.int .i64 u, .int .i64 v] 22) := ⟨_, rfl⟩
  have hbl : Below (w.heap.size + 1) (w.alloc (.cells #[.int .i64 x, .int .i64 y] 22)) W := by
    rw [hW]
    have := below_alloc (Below.refl (w.alloc (.cells #[.int .i64 x, .int .i64 y] 22)).heap.size (w.alloc (.cells #[.int .i64 x, .int .i64 y] 22))) (.cells #[.int .i64 u, .int .i64 v] 22)
    simpa using this
  have a0 := (hbl.cell (p := ⟨w.heap.size, 0, none⟩) (by show w.heap.size < w.heap.size + 1; omega)).trans (A2.new w x y).cell0
  have a1 := (hbl.cell (p := ⟨w.heap.size, 1, none⟩) (by show w.heap.size < w.heap.size + 1; omega)).trans (A2.new w x y).cell1
  have hA2 : A2 W (w.heap.size + 1) u v := by
    have := A2.new (w.alloc (.cells #[.int .i64 x, .int .i64 y] 22)) u v
    rw [hW]
    simpa using this
  have HB : Hid (Below w.heap.size w W) := by rw [hW]; exact below_alloc (below_alloc (Below.refl _ _) _) _
  have HZ : Hid (w.heap.size + 1 < W.heap.size) := by rw [hW]; show w.heap.size + 1 < ((w.heap.push _).push _).size; simp
  have HA2 := hide (And.intro hA2.cell0 hA2.cell1)
  have HW := hide hW
  clear hW hA2 hk hm0 hm hbl m1
  go_enter Try.func6, Try.ntmps6
  go_upto_region 1 with fail
  rw [← HW.out]
  go_wp2_with fail
  refine (lshape_any x y).mono ?_
  rintro e w1 ⟨rfl, hb1⟩
  rw [← HKE.out.1, ← HKE.out.2]
  have HB1 := hide (below_step HB.out hb1)
  have HC1 := hide hb1
  clear hb1 HB a0 a1 HW k1 km
  go_wp2_with fail
  refine (snew_ok2 HKM.out.1 HKM.out.2).mono ?_
  rintro e w2 ⟨pb, sb, f1, f2, g, rfl, hP, hf1, hf2, hb2⟩
  have HB2 := hide (below_step HB1.out hb2)
  have HC2 := hide (below_step HC1.out hb2)
  have HP2 := hide hP
  have HF := hide (And.intro (Nat.le_trans HB1.out.size hf1) (Nat.le_trans HB1.out.size hf2))
  have HFW := hide (Nat.le_trans HC1.out.size hf2)
  clear hP hf1 hf2 hb2 HB1 HC1 hmx
  go_wp2_with fail
  refine (works_any _).mono ?_
  rintro e w3 ⟨rfl, hb3⟩
  have HB3 := hide (below_step HB2.out hb3)
  have HC3 := hide (below_step HC2.out hb3)
  have HP3 := hide (HP2.out.below hb3)
  clear hb3 HB2 HP2 HC2
  by_cases hs0 : s = ⟨#[]⟩
  · subst hs0
    go_wp2
    go_ret
    exact ⟨rfl, HB3.out⟩
  have hs1 : 1 ≤ s.size := by
    rcases Nat.eq_zero_or_pos s.size with e | e
    · exact absurd (ByteArray.ext (Array.eq_empty_of_size_eq_zero e)) hs0
    · exact e
  have hs2 : ¬ s.toList = [] := by
    rw [ByteArray.toList_eq]
    intro e
    have := congrArg List.length e
    rw [size_list, List.length_nil] at this
    omega
  have hs3 : s.toList.isEmpty = false := by simpa using hs2
  by_cases h200 : 200 < s.size
  · have b1 : (200 : Int) < (s.size : Int) := by omega
    go_wp2
    go_ret
    exact ⟨rfl, HB3.out⟩
  have b1 : ¬ (200 : Int) < (s.size : Int) := by omega
  go_wp2_with fail
  refine (split_ok HP3.out HKM.out.1 HKM.out.2 (s := s) (by omega)).mono ?_
  rintro e w4 ⟨q, rfl, hS4, hq4, hP4, hg4⟩
  have HS4 := hide hS4
  have HP4 := hide hP4
  have HB4 := hide (below_gb HB3.out hg4 HF.out.2 HB3.out.size)
  have HC4 := hide (below_gb HC3.out hg4 HFW.out HC3.out.size)
  obtain ⟨n, hn⟩ : ∃ n, n = k + m := ⟨_, rfl⟩
  have hni : (k : Int) + (m : Int) = (n : Int) := by omega
  have hwr : IntKind.i64.wrap ((k : Int) + (m : Int)) = (n : Int) := by rw [hni]; exact wraps_i64 _ (by have := HKM.out.2; omega) (by have := HKM.out.2; omega)
  rw [← hn] at HS4 ⊢
  have HN := hide hn
  have hnb : n ≤ 255 := by rw [hn]; exact HKM.out.2
  have hn1 : 1 ≤ n := by have := HKM.out.1; omega
  have a0 := (HC4.out.cell (p := ⟨w.heap.size + 1, 0, none⟩) HZ.out).trans HA2.out.1
  clear hS4 hq4 hP4 hg4 HB3 HP3 HC3 hn hni
  go_wp2_with fail
  refine (among_any _ u n hn1 (by omega)).mono ?_
  rintro e w5 ⟨rfl, hw5⟩
  subst hw5
  have hbad := (amg_spec u n hn1).2.1
  generalize amg u n = bad at *
  obtain ⟨D, hD⟩ : ∃ D, D = shd k s bad := ⟨_, rfl⟩
  have c4 := HS4.out.cell bad hbad
  rw [← hD] at c4
  have hDs : D.size = eachN k s.size := by rw [hD]; exact shd_size HKM.out.1 s _
  have hD1 : 1 ≤ D.size := by rw [hDs]; exact eachN_pos HKM.out.1 hs1
  have hD2 : D.size ≤ 65536 := by rw [hDs]; have := eachN_le (k := k) (n := s.size) HKM.out.1; omega
  have HD := hide (And.intro hD hDs)
  have hconv := run_bytes_of_string (P := Try.prog) w5 9 49 5 D Try.underlying9 Try.underlying49 Try.underlying5
  have hge := grownCap_ge w5 D.size 0 5
  generalize grownCap w5 D.size 0 5 = cap at *
  obtain ⟨V, hV⟩ : ∃ V, V = w5.drew.alloc (.cells (bytesRow D cap) 5 ((bytesRow D cap).size, (bytesRow D cap).size + 1)) := ⟨_, rfl⟩
  rw [← hV] at hconv
  have hBV : Fd.BR V w5.heap.size D.data.toList := by rw [hV]; exact Fd.BR.turned D cap _ hge rfl (heap_alloc_new w5.drew _)
  have hbV : Below w5.heap.size w5 V := by rw [hV]; exact (Below.refl _ _).drew.alloc (Nat.le_refl _) _
  have a1 := ((below_step HC4.out hbV).cell (p := ⟨w.heap.size + 1, 1, none⟩) HZ.out).trans HA2.out.2
  have b2 : (0 : Int) ≤ (bad : Int) := by omega
  have b3 : (bad : Int) < (n : Int) := by omega
  have HBV := hide hBV
  have HbV := hide hbV
  clear hD hDs hV hBV hbV hge
  go_wp2_with fail
  refine (among_any _ v D.size hD1 (by omega)).mono ?_
  rintro e w6 ⟨rfl, hw6⟩
  rw [hw6]
  clear hw6 w6
  have hj := (amg_spec v D.size hD1).2.1
  generalize amg v D.size = j at *
  obtain ⟨z, hz⟩ := Fd.get_some D.data.toList j (by rw [size_list]; exact hj)
  have cj := HBV.out.cell j _ hz
  have hf := HBV.out.free j (by rw [size_list]; exact hj)
  have hxr := Fd.u8_xor z 1
  obtain ⟨z', hz'⟩ : ∃ z', z' = z ^^^ 1 := ⟨_, rfl⟩
  rw [← hz'] at hxr
  have hxr1 : (((1 : UInt8).toNat : Nat) : Int) = 1 := rfl
  rw [hxr1] at hxr
  have hB2 := HBV.out.set j (by rw [size_list]; exact hj) z'
  have hb2 : Below w5.heap.size w5 (V.setCell ⟨w5.heap.size, j, none⟩ (.int .u8 ((z'.toNat : Nat) : Int))) := HbV.out.setCell (Nat.le_refl _) _
  obtain ⟨V2, hV2⟩ : ∃ V2, V2 = V.setCell ⟨w5.heap.size, j, none⟩ (.int .u8 ((z'.toNat : Nat) : Int)) := ⟨_, rfl⟩
  have HV2 := hide hV2
  rw [← hV2] at hB2 hb2
  have HB2 := hide hB2
  have Hb2 := hide hb2
  have b4 : (0 : Int) ≤ (j : Int) := by omega
  have b5 : (j : Int) < (D.size : Int) := by omega
  clear hV2 hB2 hb2 hz hz' hxr1 hconv c4 a0 a1
  go_upto_region 14 with fail
  rw [← HV2.out]
  have hstr := HB2.out.str_all cap D.size (by rw [List.length_set, size_list])
  obtain ⟨Y, hY⟩ : ∃ Y, Y = Fd.strOf (D.data.toList.set j z') := ⟨_, rfl⟩
  have hYs : Y.size = eachN k s.size := by rw [hY, Fd.strOf_size, List.length_set, size_list]; exact HD.out.2
  rw [← hY] at hstr
  obtain ⟨vw, w7, hap, hT7, hz7⟩ := TK.start (s := s) HP4.out (by rw [← HN.out]; exact HS4.out) HB4.out Hb2.out bad Y
  have HT7 := hide hT7
  have HBB := hide (Nat.le_trans HB4.out.size Hb2.out.size)
  have HZ7 := hide hz7
  have HYS := hide hYs
  obtain ⟨B, hBd⟩ : ∃ B, B = V2.heap.size := ⟨_, rfl⟩
  rw [← hBd] at HT7 HBB HZ7
  clear hY hYs hT7 hz7 HB2 Hb2 HV2 HBV HbV HS4 HP4 HB4 HC4 HA2 HZ hj hf cj hxr b4 b5 hD1 hD2
  go_wp2_with (at_builtin; refine Lib.wpList_append_run _ rfl _ _ _ _ rfl _ _ rfl rfl _ _ hap ?_)
  clear hap hstr hBd
  go_loopw [98, 14, 15] (fun z vw vo wr => ∃ i : Nat, i ≤ n ∧ z = .int .i64 i ∧ TK w wr pb sb f1 f2 g k m q B vw vo (wiL k bad i) (loL bad i) Y s ∧ B ≤ wr.heap.size) (fun z _ _ _ => n - (RowKit.intOf z).toNat)
  case atStart => exact ⟨0, Nat.zero_le _, rfl, by rw [show wiL k bad 0 = [bad] by simp [wiL, loL], show loL bad 0 = [] from rfl]; exact HT7.out, HZ7.out⟩
  case round =>
    obtain ⟨i, hi, rfl, hT, hBr⟩ := hrel
    clear HT7 HZ7
    by_cases hlt : i < n
    · have b6 : (i : Int) < (n : Int) := by omega
      have b7 : (0 : Int) ≤ (i : Int) := by omega
      by_cases hib : i = bad
      · subst hib
        have HT : Hid _ := hide hT
        clear hT
        go_wp2
        exact ⟨⟨i + 1, by omega, by go_num, by rw [wiL, loL_bad]; exact HT.out, hBr⟩, by simp [RowKit.intOf]; omega⟩
      · have hll : (loL bad i).length ≤ 1000 := by rw [loL_len]; split <;> omega
        have hlw : (wiL k bad i).length ≤ 1000 := by rw [wiL, List.length_cons, List.length_take]; have := HKM.out.2; omega
        have hlw0 : (wiL k bad i).length ≠ 0 := by rw [wiL, List.length_cons]; omega
        obtain ⟨aw, cw, rfl⟩ := hT.wi.shp
        obtain ⟨vo', w8, hap8, hT8, hz8⟩ := hT.addO HBB.out hBr hll i
        rw [← loL_next hib] at hT8
        have ci := hT.sb.cell i (by rw [← HN.out]; exact hlt)
        have ci8 := hT8.sb.cell i (by rw [← HN.out]; exact hlt)
        have hT9 := fun h => hT8.addW HBB.out hz8 hlw h i
        have HT8 := hide hT8
        have HN8 := hide (wiL_next (k := k) hib)
        have HN9 := hide (wiL_full (k := k) hib)
        obtain ⟨Z, hZ⟩ : ∃ Z, Z = shd k s i := ⟨_, rfl⟩
        rw [← hZ] at ci ci8 hap8
        rw [← hZ] at hT9
        have HT9 := hide (hT9 hlw0)
        have b8 : ¬ (i : Int) = (bad : Int) := by omega
        generalize hln : (wiL k bad i).length = ln at *
        by_cases hfull : ln < k
        · obtain ⟨vw', w9, hap9, hT9, hz9⟩ := HT9.out
          rw [← HN8.out hfull] at hT9
          have HT10 := hide hT9
          have HZ9 := hide hz9
          have b9 : (ln : Int) < (k : Int) := by omega
          clear hT9 hz9 HT9 HN9 HN8 HT8 hT hT8 hz8 hZ hlw hlw0 hll hln hBr
          go_wp2_with (at_builtin; first | refine Lib.wpList_append_run _ rfl _ _ _ _ rfl _ _ rfl rfl _ _ hap8 ?_ | refine Lib.wpList_append_run _ rfl _ _ _ _ rfl _ _ rfl rfl _ _ hap9 ?_)
          exact ⟨⟨i + 1, by omega, by go_num, HT10.out, HZ9.out⟩, by simp [RowKit.intOf]; omega⟩
        · rw [← HN9.out hfull] at HT8
          have HZ8 := hide hz8
          have b9 : ¬ (ln : Int) < (k : Int) := by omega
          clear HT9 HN9 HN8 hT hT8 hz8 hZ hlw hlw0 hll hln hBr
          go_wp2_with (at_builtin; refine Lib.wpList_append_run _ rfl _ _ _ _ rfl _ _ rfl rfl _ _ hap8 ?_)
          exact ⟨⟨i + 1, by omega, by go_num, HT8.out, HZ8.out⟩, by simp [RowKit.intOf]; omega⟩
    · obtain rfl : i = n := by omega
      have hkm9 : ∀ L : List Nat, L.length ≤ 1000 → L.length ≤ maxLen := fun L h => by unfold maxLen; omega
      have hll : (loL bad i).length ≤ 1000 := by rw [loL_len]; split <;> omega
      have hlw : (wiL k bad i).length ≤ 1000 := by rw [wiL, List.length_cons, List.length_take]; have := HKM.out.2; omega
      have hj1 := without_join HKM.out.1 HM1.out HKM.out.2 (by rw [← HN.out]; exact hbad) s
      have hj2 := with_full (k := k) (m := m) (bad := bad) HKM.out.1 HM1.out (by rw [← HN.out]; exact hbad)
      rw [← HN.out] at hj1 hj2
      have HJ := hide (And.intro hj1 hj2)
      have HIO : Hid (∀ t, t < (loL bad i).length → 0 ≤ (((loL bad i).getD t 0 : Nat) : Int) ∧ (((loL bad i).getD t 0 : Nat) : Int) < ((k + m : Nat) : Int)) := fun t ht => by
        have := (loL_mem.1 (getD_mem ht)).1
        have := HN.out
        omega
      have HIW : Hid (∀ t, t < (wiL k bad i).length → 0 ≤ (((wiL k bad i).getD t 0 : Nat) : Int) ∧ (((wiL k bad i).getD t 0 : Nat) : Int) < ((k + m : Nat) : Int)) := fun t ht => by
        have := wiL_mem hbad (Nat.le_refl _) (getD_mem ht)
        have := HN.out
        omega
      have HXW : Hid (∀ t, t < (wiL k bad i).length → (if t = 0 then Y else shd k s ((wiL k bad i).getD t 0)).size = eachN k s.size) := fun t _ => by
        split
        · exact HYS.out
        · exact shd_size HKM.out.1 s _
      have HLO := hide (hkm9 _ hll)
      have HLW := hide (hkm9 _ hlw)
      obtain ⟨ao, co, rfl⟩ := hT.wo.shp
      obtain ⟨aw, cw, rfl⟩ := hT.wi.shp
      have HT := hide hT
      obtain ⟨l1, hl1⟩ : ∃ l1, l1 = (loL bad i).length := ⟨_, rfl⟩
      obtain ⟨l2, hl2⟩ : ∃ l2, l2 = (wiL k bad i).length := ⟨_, rfl⟩
      clear hj1 hj2 hT hkm9 hll hlw
      go_wp2_with fail
      refine (join_any HT.out.pp HKM.out.1 HKM.out.2 HLO.out HT.out.wo.px (long := s.size) (by omega) HIO.out (fun t _ => shd_size HKM.out.1 s _)).mono ?_
      rintro e w8 ⟨⟨hlt8, _⟩ | ⟨_, rfl⟩, hP8, hg8⟩
      · have := HJ.out.1.1; omega
      rw [HJ.out.1.2]
      have HT8 := hide (HT.out.gs HF.out.1 HF.out.2 hP8 hg8)
      clear hP8 hg8 HT
      go_wp2_with fail
      refine (join_any HT8.out.pp HKM.out.1 HKM.out.2 HLW.out HT8.out.wi.px (long := s.size) (by omega) HIW.out HXW.out).mono ?_
      rintro e w9 ⟨⟨hlt9, _⟩ | ⟨_, rfl⟩, hP9, hg9⟩
      · have := HJ.out.2.2; omega
      obtain ⟨U, hUd⟩ : ∃ U, U = joinB k (fun t => (((wiL k bad i).getD t 0 : Nat) : Int)) (fun t => if t = 0 then Y else shd k s ((wiL k bad i).getD t 0)) (wiL k bad i).length s.size := ⟨_, rfl⟩
      have HUd := hide hUd
      rw [← hUd]
      clear hUd
      have HT9 := hide (HT8.out.gs HF.out.1 HF.out.2 hP9 hg9)
      clear hP9 hg9 HT8
      go_wp2_with fail
      refine (shardU_ok HT9.out.pp HKM.out.1 HKM.out.2 HLW.out HT9.out.wi.px (long := s.size) (by omega) HIW.out HXW.out HJ.out.2.2 (i := bad) (by rw [← HN.out]; exact hbad)).mono ?_
      rintro e w10 ⟨rfl, hP10, hg10⟩
      rw [← HUd.out]
      have HT10 := hide (HT9.out.gs HF.out.1 HF.out.2 hP10 hg10)
      clear hP10 hg10 HT9
      have HE := hide HT10.out.be
      have cb := HT10.out.sb.cell bad (by rw [← HN.out]; exact hbad)
      clear HT10 HJ HIO HIW HXW HLO HLW HUd
      by_cases hU : U = s
      · subst hU
        generalize shd k U bad = Z at *
        go_wp2
        go_ret
        exact ⟨rfl, HE.out⟩
      · have hU2 : ¬ U.toList = s.toList := by
          rw [ByteArray.toList_eq, ByteArray.toList_eq]
          intro e
          exact hU (ByteArray.ext (Array.toList_inj.1 e))
        have hU3 : (U.toList == s.toList) = false := by simpa using hU2
        generalize shd k U bad = X at *
        generalize shd k s bad = Z at *
        go_wp2
        go_ret
        exact ⟨rfl, HE.out⟩
end Go.Proofs.Ytfjkdmiaagalhaa

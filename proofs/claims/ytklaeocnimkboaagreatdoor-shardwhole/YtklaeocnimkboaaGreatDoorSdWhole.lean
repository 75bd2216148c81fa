/-
  SdWhole: texts of earlier layers, laid over this program.
-/
import Derived.Test.YtklaeocnimkboaaGreatDoorSdWMath
import Derived.Test.YtklaeocnimkboaaGreatDoorSdGather
import Derived.Test.YtklaeocnimkboaaGreatDoorSdRGather
import Derived.Test.YtklaeocnimkboaaGreatDoorSdBack
import Derived.Test.YtklaeocnimkboaaGreatDoorBAmong
import Derived.Deep.DeepCutAuto
import Derived.Deep.CutBlock
namespace Go.Proofs.YtklaeocnimkboaaGreatDoor
open Go.RowKit Go.Lib

theorem make21 {w : World} (hL : Sh.Laid w) {s : ByteArray} (hs : s.size ≤ 65536) :
    Calls Tryz.prog 7 #[.int .i64 2, .int .i64 1, .string s] w fun e w' => ∃ q, e = .returned (.tuple #[.slice (some ⟨q, 0, none⟩) 3 3, .int .i64 0]) ∧ SB w' q 3 (shB 2 1 s) ∧ w.heap.size ≤ q ∧ Below w.heap.size w w' :=
  make_ok (k := 2) (m := 1) hL (by decide) (by decide) hs
theorem shB_ok {s : ByteArray} (hs : s.size ≤ 65536) {a : Nat} (ha : a < 3) : decOK (shB 2 1 s a).data.toList ∧ decX (shB 2 1 s a).data.toList = shX 2 1 s a := by
  have h := shX_ok (k := 2) (m := 1) (by decide) (by decide) hs ha
  rw [shB, bs_toList]
  exact ⟨full_ok h, dec_full h⟩
theorem shB_size {s : ByteArray} (hs : s.size ≤ 300) {a : Nat} (ha : a < 3) : (shB 2 1 s a).size ≤ 347 := by
  have h := shX_ok (k := 2) (m := 1) (by decide) (by decide) (show s.size ≤ 65536 by omega) ha
  rw [shB, bs_size, fullL_length, h.2.2.2.1, h.2.2.2.2]
  have : eachN ((shX 2 1 s a).k.toNat) ((shX 2 1 s a).long.toNat) ≤ s.size := by
    show eachN ((2 : Int).toNat) ((s.size : Int).toNat) ≤ s.size
    rw [Int.toNat_natCast]
    exact eachN_le (by decide)
  omega
/-- One more is left. -/
theorem WK.step {w : World} {B : Nat} {vo : Value} {n : Nat} {X : Nat → SX} (ho : IQ 33 B vo n X w) (hB : B ≤ w.heap.size) (hn : n ≤ 1000) (x : SX) (hx : x = X n) :
    ∃ a' c' w', (Builtin.append_ #[30, 30] 30 #[vo, .slice (some ⟨w.heap.size, 0, none⟩) 1 1]).run Tryz.prog (w.alloc (.cells #[.int .i64 x.k, .int .i64 x.m, .int .i64 x.i, .int .i64 x.long, .string x.id, .string x.data] 33)) = .ok (.slice a' (n + 1) c') w' ∧ IQ 33 B (.slice a' (n + 1) c') (n + 1) X w' ∧ ∀ w0, w0.heap.size = B → Below B w0 w → Below B w0 w' := by
  obtain ⟨a', c', w', h1, h2, h3, _⟩ := ho.one Tryz.underlying30 Tryz.infoSh x (by omega) hB
  refine ⟨a', c', w', h1, h2.congr (fun j hj => ?_), fun w0 h0 be => ?_⟩
  · by_cases e : j < n
    · rw [if_pos e]
    · obtain rfl : j = n := by omega
      rw [if_neg e, hx]
  · subst h0
    exact (be.alloc be.size _).grown h3 (by simpa using Nat.le_succ_of_le be.size) (fun k hk => (ho.lt k hk).1)
theorem IQ.two {T : TypeId} {B n : Nat} {v : Value} {X : Nat → SX} {w : World} (h : IQ T B v n X w) (h0 : 0 < n) : ∃ g cap, v = .slice (some ⟨g, 0, none⟩) n cap ∧ n ≤ cap := by
  obtain ⟨h1, ⟨_, h2⟩ | ⟨g, cap, cur, rfl, hB, hg, hn, _, hs, ht⟩⟩ := h.own
  · omega
  · exact ⟨g, cap, rfl, hn⟩
theorem LX.one {w : World} {g k c : Nat} {X : Nat → SX} (h : LX w (.slice (some ⟨g, 0, none⟩) (k + 1) c) (k + 1) X) : LX w (.slice (some ⟨g, 0, none⟩) 1 c) 1 X := by
  obtain ⟨a, c', e, h | ⟨bl, off, ea, hb, hC⟩⟩ := h
  · omega
  · obtain ⟨rfl, _, rfl⟩ := (Value.slice.injEq ..).mp e
    exact ⟨_, _, rfl, .inr ⟨bl, off, ea, hb, fun i hi => hC i (by omega)⟩⟩
theorem LX.new {w : World} {g : Nat} {k m i long : Int} {id od : ByteArray} (h : SK 33 w g k m i long id od) : LX w (.slice (some ⟨g, 0, none⟩) 1 1) 1 (fun _ => ⟨k, m, i, long, id, od⟩) :=
  ⟨_, _, rfl, .inr ⟨g, 0, rfl, h.lt, fun j hj => by
    obtain rfl : j = 0 := by omega
    exact ⟨h.cell0, h.cell1, h.cell2, h.cell3, h.cell4, h.cell5⟩⟩⟩
theorem cnt_on {out i : Nat} (h : i ≠ out) : cnt out (i + 1) = cnt out i + 1 ∧ lft out (cnt out i) = i := by
  unfold cnt lft
  constructor <;> (repeat' split) <;> omega
theorem cnt_off {out : Nat} : cnt out (out + 1) = cnt out out := by
  unfold cnt
  (repeat' split) <;> omega
theorem cnt_le {out i : Nat} : cnt out i ≤ i := by
  unfold cnt
  split <;> omega

set_option maxRecDepth 100000 in
set_option maxHeartbeats 3200000 in
theorem whole_walk (data : ByteArray) (left k m i long : Int) (id od : ByteArray) (w : World) (hL : Sh.Laid w) (hm : m ≤ 9223372036854775807) :
    Calls Tryz.prog 5 #[.string data, .int .i64 left, .agg #[.int .i64 k, .int .i64 m, .int .i64 i, .int .i64 long, .string id, .string od]] w fun e w' => e = .returned (.bool true) ∧ Below w.heap.size w w' := by
  obtain ⟨W, hW⟩ : ∃ W, W = w.alloc (.cells #[.int .i64 k, .int .i64 m, .int .i64 i, .int .i64 long, .string id, .string od] 33) := ⟨_, rfl⟩
  have HB : Hid (Below w.heap.size w W) := by rw [hW]; exact below_alloc (Below.refl _ _) _
  have HK : Hid (SK 33 W w.heap.size k m i long id od) := by rw [hW]; exact SK.new 33 w k m i long id od
  have HL := hide (hL.below HB.out hL.size)
  have HW := hide hW
  clear hW hL
  go_enter Tryz.func5, Tryz.ntmps5
  go_wp2_with fail
  rw [← HW.out]
  refine (sworks_any W).mono ?_
  rintro e w1 ⟨rfl, hw1⟩
  subst w1
  clear HW
  have y0 := HK.out.cell0
  have y1 := HK.out.cell1
  have y5 := HK.out.cell5
  by_cases h1 : (300 : Int) < (data.size : Int)
  · go_wp2
    go_ret
    exact ⟨rfl, HB.out⟩
  by_cases h2 : (300 : Int) < (od.size : Int)
  · go_wp2
    go_ret
    exact ⟨rfl, HB.out⟩
  by_cases h3 : 20 < k
  · go_wp2
    go_ret
    exact ⟨rfl, HB.out⟩
  by_cases h4 : 20 < m
  · go_wp2
    go_ret
    exact ⟨rfl, HB.out⟩
  have hs : data.size ≤ 300 := by omega
  have hod : od.size ≤ 300 := by omega
  go_wp2_with fail
  refine (make21 HL.out (s := data) (by omega)).mono ?_
  rintro e w2 ⟨q, rfl, hS, hq, hb2⟩
  have HS := hide hS
  have HB2 := hide (below_step HB.out hb2)
  have HL2 := hide (HL.out.below hb2 HL.out.size)
  have HK2 := hide (HK.out.below hb2 HK.out.lt)
  clear hS hb2 HL HK hq y0 y1 y5 HB h1 h2 h3 h4
  obtain ⟨out, ho⟩ : ∃ o, o = amg left 3 := ⟨_, rfl⟩
  have ho3 : out < 3 := by rw [ho]; exact (amg_spec left 3 (by decide)).2.1
  have HO := hide ho
  obtain ⟨X, hX⟩ : ∃ X : Nat → SX, X = fun t => shX 2 1 data (lft out t) := ⟨_, rfl⟩
  have HX : Hid (∀ t, X t = shX 2 1 data (lft out t)) := fun t => by rw [hX]
  clear ho hX
  go_wp2
  go_loopw [9, 51] (fun vo z wr => ∃ j : Nat, j ≤ 3 ∧ z = .int .i64 j ∧ IQ 33 w2.heap.size vo (cnt out j) X wr ∧ Below w2.heap.size w2 wr) (fun _ z _ => 3 - (RowKit.intOf z).toNat)
  case atStart => exact ⟨0, by decide, rfl, by rw [show cnt out 0 = 0 by rfl]; exact IQ.nil _ _ _ _, Below.refl _ _⟩
  case round =>
    obtain ⟨j, hj, rfl, hI, hb⟩ := hrel
    have HI := hide hI
    have HBr := hide hb
    clear hI hb
    by_cases hlt : j < 3
    · have b1 : (j : Int) < 3 := by omega
      have b0 : (0 : Int) ≤ (j : Int) := by omega
      obtain ⟨Z, hZ⟩ : ∃ Z, Z = shB 2 1 data j := ⟨_, rfl⟩
      have hc := (HS.out.below HBr.out (Nat.le_refl _)).cell j hlt
      rw [← hZ] at hc
      have HD : Hid (decOK Z.data.toList ∧ decX Z.data.toList = shX 2 1 data j) := by
        show decOK Z.data.toList ∧ decX Z.data.toList = shX 2 1 data j
        rw [hZ]; exact shB_ok (by omega) hlt
      have hz : Z.size ≤ 347 := by rw [hZ]; exact shB_size hs hlt
      clear hZ
      go_wp2_with fail
      refine (decode_ok Z _ (by omega) HD.out.1).mono ?_
      rintro e w3 ⟨k2, m2, i2, l2, id2, da2, rfl, hx, hb3⟩
      have HXE := hide (hx.trans HD.out.2)
      have HB3 := hide ((below_step HBr.out hb3).alloc (Nat.le_trans HBr.out.size hb3.size) (.cells #[.int .i64 (k2 : Int), .int .i64 (m2 : Int), .int .i64 (i2 : Int), .int .i64 (l2 : Int), .string id2, .string da2] 33))
      have HI3 := hide ((HI.out.keep hb3).keep (below_alloc (Below.refl _ _) (.cells #[.int .i64 (k2 : Int), .int .i64 (m2 : Int), .int .i64 (i2 : Int), .int .i64 (l2 : Int), .string id2, .string da2] 33)))
      have Y3 := SK.new 33 w3 k2 m2 i2 l2 id2 da2
      obtain ⟨U, hU⟩ : ∃ U, U = w3.alloc (.cells #[.int .i64 (k2 : Int), .int .i64 (m2 : Int), .int .i64 (i2 : Int), .int .i64 (l2 : Int), .string id2, .string da2] 33) := ⟨_, rfl⟩
      rw [← hU] at HB3 Y3 HI3
      have HU := hide hU
      have HY3 := hide Y3
      clear hx hb3 hU Y3 HI HBr hc HD
      go_upto_region 15 with fail
      rw [← HU.out]
      clear HU
      go_wp2_with fail
      refine (among_any _ left 3 (by decide) (by decide)).mono ?_
      rintro e w4 ⟨rfl, hw4⟩
      subst hw4
      rw [← HO.out]
      by_cases he : j = out
      · subst he
        clear HY3
        go_wp2
        exact ⟨⟨j + 1, by omega, by go_num, by rw [cnt_off]; exact HI3.out, HB3.out⟩, by simp [RowKit.intOf]; omega⟩
      · have e1 : ((j : Int) == (out : Int)) = false := by simp; omega
        have hne : ¬ (j : Int) = (out : Int) := by omega
        obtain ⟨a1, c1, w5, h1, hI5, hB5⟩ := WK.step HI3.out HB3.out.size (by have := cnt_le (out := out) (i := j); omega) ⟨k2, m2, i2, l2, id2, da2⟩ (by rw [HXE.out, HX.out, (cnt_on he).2])
        have HI5 := hide hI5
        have HB5 := hide (hB5 w2 rfl HB3.out)
        have z0 := HY3.out.cell0
        have z1 := HY3.out.cell1
        have z2 := HY3.out.cell2
        have z3 := HY3.out.cell3
        have z4 := HY3.out.cell4
        have z5 := HY3.out.cell5
        clear hI5 hB5 HI3 HB3 HY3
        go_wp2_with (at_builtin; refine Lib.wpList_append_run _ rfl _ _ _ _ rfl _ _ rfl rfl _ _ h1 ?_)
        exact ⟨⟨j + 1, by omega, by go_num, by rw [(cnt_on he).1]; exact HI5.out, HB5.out⟩, by simp [RowKit.intOf]; omega⟩
    · obtain rfl : j = 3 := by omega
      have e2 : cnt out 3 = 2 := by unfold cnt; rw [if_pos ho3]
      rw [e2] at HI
      obtain ⟨g, cap, rfl, hcap⟩ := HI.out.two (by decide)
      have hc1 : (1 : Int) ≤ (cap : Int) := by omega
      go_wp2_with fail
      refine (gather_any (HL2.out.below HBr.out HL2.out.size) (by decide) HI.out.lx (fun _ => by rw [HX.out]; simp only [shX]; decide) (fun j _ => by rw [HX.out]; simp only [shX]; rw [shd_size (by decide)]; have := eachN_le (k := 2) (n := data.size) (by decide); omega)).mono ?_
      rintro e w6 ⟨S1, c1, rfl, hG, hb6⟩
      obtain ⟨rfl, rfl⟩ := two_back (by omega) (fun t _ => HX.out t) hG
      have HI6 := hide (HI.out.keep hb6)
      have HB6 := hide (below_step HBr.out hb6)
      have HK6 := hide (HK2.out.below HB6.out HK2.out.lt)
      have z0 := HK6.out.cell0
      have z1 := HK6.out.cell1
      have z2 := HK6.out.cell2
      have z3 := HK6.out.cell3
      have z4 := HK6.out.cell4
      have z5 := HK6.out.cell5
      have HY6 := hide (LX.new (SK.new 33 w6 k m i long id od))
      have HB7 := hide (HB6.out.alloc HB6.out.size (.cells #[.int .i64 k, .int .i64 m, .int .i64 i, .int .i64 long, .string id, .string od] 33))
      have HI7 := hide (HI6.out.keep (below_alloc (Below.refl _ _) (.cells #[.int .i64 k, .int .i64 m, .int .i64 i, .int .i64 long, .string id, .string od] 33)))
      obtain ⟨U, hU⟩ : ∃ U, U = w6.alloc (.cells #[.int .i64 k, .int .i64 m, .int .i64 i, .int .i64 long, .string id, .string od] 33) := ⟨_, rfl⟩
      obtain ⟨gu, hgu⟩ : ∃ g, g = w6.heap.size := ⟨_, rfl⟩
      rw [← hU] at HY6 HB7 HI7
      rw [← hgu] at HY6
      have HU := hide hU
      have HGU := hide hgu
      clear hU hgu hG hb6 HI HBr HI6 HB6 HK6
      go_wp2_with fail
      rw [← HU.out, ← HGU.out]
      refine (gather_any (HL2.out.below HB7.out HL2.out.size) (by decide) HY6.out (fun _ => hm) (fun _ _ => by dsimp only; omega)).mono ?_
      rintro e w8 ⟨S2, c2, rfl, hG2, hb8⟩
      have HI8 := hide (HI7.out.keep hb8)
      have HB8 := hide (below_step HB7.out hb8)
      have HW2 := hide (other_way hG2)
      clear HY6 HB7 HI7 HU HGU hG2 hb8 z0 z1 z2 z3 z4 z5
      go_wp2_with fail
      refine (gather_any (HL2.out.below HB8.out HL2.out.size) (by decide) (LX.one HI8.out.lx) (fun _ => by rw [HX.out]; simp only [shX]; decide) (fun j _ => by rw [HX.out]; simp only [shX]; rw [shd_size (by decide)]; have := eachN_le (k := 2) (n := S1.size) (by decide); omega)).mono ?_
      rintro e w9 ⟨S3, c3, rfl, hG3, hb9⟩
      obtain rfl := one_few (by omega) (fun t _ => HX.out t) hG3
      have HB9 := hide (below_step HB8.out hb9)
      have HK9 := hide (HK2.out.below HB9.out HK2.out.lt)
      have HL9 := hide (HL2.out.below HB9.out HL2.out.size)
      have HBw := hide (below_step HB2.out HB9.out)
      clear hG3 hb9 HI8 HB8 HB9 HL2 HK2 HS
      rcases HW2.out with ⟨hc, rfl⟩ | ⟨rfl, hid, hS2, _⟩
      · have hc0 : (c2 == 0) = false := by simpa using hc
        clear HW2
        go_upto_region 21 with fail
        refine wp_region_noPanic ?_
        refine wp_region_held_drew (S := fun w' => Below w.heap.size w w') (by kernel_rfl) HBw.out.drew (fun hHeld => ?_)
        refine take_at (i := 0) (d := 90) (v := .int .i64 0) rfl rfl (by kernel_rfl) (by kernel_rfl) (by kernel_rfl) (fun _ _ _ h => h) (Or.inl ⟨by rfl, fun w' hSw => ?_⟩) hHeld ?_
        · go_simp
        try simp only [List.setIfInBounds_toArray, List.set_cons_zero, List.set_cons_succ]
        refine take_at (i := 1) (d := 91) (v := .bool true) rfl rfl (by kernel_rfl) (by kernel_rfl) (by kernel_rfl) (fun _ _ _ h => h) (Or.inl ⟨by rfl, fun w' hSw => ?_⟩) hHeld ?_
        · go_simp
        try simp only [List.setIfInBounds_toArray, List.set_cons_zero, List.set_cons_succ]
        refine take_at (i := 2) (d := 92) (v := .bool true) rfl rfl (by kernel_rfl) (by kernel_rfl) (by kernel_rfl) (fun _ _ _ h => h) (Or.inl ⟨by rfl, fun w' hSw => ?_⟩) hHeld ?_
        · go_simp
        try simp only [List.setIfInBounds_toArray, List.set_cons_zero, List.set_cons_succ]
        refine take_at (i := 3) (d := 93) (v := .string S1) rfl rfl (by kernel_rfl) (by kernel_rfl) (by kernel_rfl) (fun _ _ _ h => h) (Or.inl ⟨by rfl, fun w' hSw => ?_⟩) hHeld ?_
        · go_simp
        try simp only [List.setIfInBounds_toArray, List.set_cons_zero, List.set_cons_succ]
        refine take_at (i := 4) (d := 94) (v := .string S1) rfl rfl (by kernel_rfl) (by kernel_rfl) (by kernel_rfl) (fun _ _ _ h => h) (Or.inl ⟨by rfl, fun w' hSw => ?_⟩) hHeld ?_
        · go_simp
        try simp only [List.setIfInBounds_toArray, List.set_cons_zero, List.set_cons_succ]
        refine take_at (i := 5) (d := 95) (v := .bool true) rfl rfl (by kernel_rfl) (by kernel_rfl) (by kernel_rfl) (fun _ _ _ h => h) (Or.inl ⟨by rfl, fun w' hSw => ?_⟩) hHeld ?_
        · go_simp
        try simp only [List.setIfInBounds_toArray, List.set_cons_zero, List.set_cons_succ]
        refine take_at (i := 6) (d := 96) (v := .bool true) rfl rfl (by kernel_rfl) (by kernel_rfl) (by kernel_rfl) (fun _ _ _ h => h) (Or.inl ⟨by rfl, fun w' hSw => ?_⟩) hHeld ?_
        · go_simp
        try simp only [List.setIfInBounds_toArray, List.set_cons_zero, List.set_cons_succ]
        refine take_at (i := 7) (d := 97) (v := .bool true) rfl rfl (by kernel_rfl) (by kernel_rfl) (by kernel_rfl) (fun _ _ _ h => h) (Or.inl ⟨by rfl, fun w' hSw => ?_⟩) hHeld ?_
        · go_simp
        try simp only [List.setIfInBounds_toArray, List.set_cons_zero, List.set_cons_succ]
        refine take_at (i := 8) (d := 98) (v := .int .i64 c2) rfl rfl (by kernel_rfl) (by kernel_rfl) (by kernel_rfl) (fun _ _ _ h => h) (Or.inl ⟨by rfl, fun w' hSw => ?_⟩) hHeld ?_
        · go_simp
        try simp only [List.setIfInBounds_toArray, List.set_cons_zero, List.set_cons_succ]
        refine take_at (i := 9) (d := 99) (v := .bool true) rfl rfl (by kernel_rfl) (by kernel_rfl) (by kernel_rfl) (fun _ _ _ h => h) (Or.inl ⟨by rfl, fun w' hSw => ?_⟩) hHeld ?_
        · go_simp
        try simp only [List.setIfInBounds_toArray, List.set_cons_zero, List.set_cons_succ]
        refine take_at (i := 10) (d := 100) (v := .bool true) rfl rfl (by kernel_rfl) (by kernel_rfl) (by kernel_rfl) (fun _ _ _ h => h) (Or.inl ⟨by rfl, fun w' hSw => ?_⟩) hHeld ?_
        · go_simp
        try simp only [List.setIfInBounds_toArray, List.set_cons_zero, List.set_cons_succ]
        refine take_at (i := 11) (d := 101) (v := .string ⟨#[]⟩) rfl rfl (by kernel_rfl) (by kernel_rfl) (by kernel_rfl) (fun _ _ _ h => h) (Or.inl ⟨by rfl, fun w' hSw => ?_⟩) hHeld ?_
        · go_simp
        try simp only [List.setIfInBounds_toArray, List.set_cons_zero, List.set_cons_succ]
        refine take_at (i := 12) (d := 102) (v := .bool true) rfl rfl (by kernel_rfl) (by kernel_rfl) (by kernel_rfl) (fun _ _ _ h => h) (Or.inl ⟨by rfl, fun w' hSw => ?_⟩) hHeld ?_
        · go_simp
        try simp only [List.setIfInBounds_toArray, List.set_cons_zero, List.set_cons_succ]
        refine take_at (i := 13) (d := 103) (v := .bool true) rfl rfl (by kernel_rfl) (by kernel_rfl) (by kernel_rfl) (fun _ _ _ h => h) (Or.inl ⟨by rfl, fun w' hSw => ?_⟩) hHeld ?_
        · go_simp
        try simp only [List.setIfInBounds_toArray, List.set_cons_zero, List.set_cons_succ]
        refine take_at (i := 14) (d := 104) (v := .bool true) rfl rfl (by kernel_rfl) (by kernel_rfl) (by kernel_rfl) (fun _ _ _ h => h) (Or.inl ⟨by rfl, fun w' hSw => ?_⟩) hHeld ?_
        · go_simp
        try simp only [List.setIfInBounds_toArray, List.set_cons_zero, List.set_cons_succ]
        refine take_at (i := 15) (d := 105) (v := undef) rfl rfl (by kernel_rfl) (by kernel_rfl) (by kernel_rfl) (fun _ _ _ h => h) (Or.inr ⟨by rfl, rfl⟩) hHeld ?_
        try simp only [List.setIfInBounds_toArray, List.set_cons_zero, List.set_cons_succ]
        refine take_at (i := 16) (d := 106) (v := undef) rfl rfl (by kernel_rfl) (by kernel_rfl) (by kernel_rfl) (fun _ _ _ h => h) (Or.inr ⟨by rfl, rfl⟩) hHeld ?_
        try simp only [List.setIfInBounds_toArray, List.set_cons_zero, List.set_cons_succ]
        refine take_at (i := 17) (d := 107) (v := undef) rfl rfl (by kernel_rfl) (by kernel_rfl) (by kernel_rfl) (fun _ _ _ h => h) (Or.inr ⟨by rfl, rfl⟩) hHeld ?_
        try simp only [List.setIfInBounds_toArray, List.set_cons_zero, List.set_cons_succ]
        refine take_at (i := 18) (d := 108) (v := undef) rfl rfl (by kernel_rfl) (by kernel_rfl) (by kernel_rfl) (fun _ _ _ h => h) (Or.inr ⟨by rfl, rfl⟩) hHeld ?_
        try simp only [List.setIfInBounds_toArray, List.set_cons_zero, List.set_cons_succ]
        refine take_at (i := 19) (d := 109) (v := undef) rfl rfl (by kernel_rfl) (by kernel_rfl) (by kernel_rfl) (fun _ _ _ h => h) (Or.inr ⟨by rfl, rfl⟩) hHeld ?_
        try simp only [List.setIfInBounds_toArray, List.set_cons_zero, List.set_cons_succ]
        refine take_at (i := 20) (d := 110) (v := undef) rfl rfl (by kernel_rfl) (by kernel_rfl) (by kernel_rfl) (fun _ _ _ h => h) (Or.inr ⟨by rfl, rfl⟩) hHeld ?_
        try simp only [List.setIfInBounds_toArray, List.set_cons_zero, List.set_cons_succ]
        refine take_at (i := 21) (d := 111) (v := .bool true) rfl rfl (by kernel_rfl) (by kernel_rfl) (by kernel_rfl) (fun _ _ _ h => h) (Or.inl ⟨by rfl, fun w' hSw => ?_⟩) hHeld ?_
        · go_simp
        try simp only [List.setIfInBounds_toArray, List.set_cons_zero, List.set_cons_succ]
        refine take_at (i := 22) (d := 112) (v := .bool true) rfl rfl (by kernel_rfl) (by kernel_rfl) (by kernel_rfl) (fun _ _ _ h => h) (Or.inl ⟨by rfl, fun w' hSw => ?_⟩) hHeld ?_
        · go_simp
        try simp only [List.setIfInBounds_toArray, List.set_cons_zero, List.set_cons_succ]
        refine take_at (i := 23) (d := 113) (v := .bool true) rfl rfl (by kernel_rfl) (by kernel_rfl) (by kernel_rfl) (fun _ _ _ h => h) (Or.inl ⟨by rfl, fun w' hSw => ?_⟩) hHeld ?_
        · go_simp
        try simp only [List.setIfInBounds_toArray, List.set_cons_zero, List.set_cons_succ]
        refine take_at (i := 24) (d := 114) (v := .int .i64 50) rfl rfl (by kernel_rfl) (by kernel_rfl) (by kernel_rfl) (fun _ _ _ h => h) (Or.inl ⟨by rfl, fun w' hSw => ?_⟩) hHeld ?_
        · go_simp
        try simp only [List.setIfInBounds_toArray, List.set_cons_zero, List.set_cons_succ]
        refine take_at (i := 25) (d := 115) (v := .bool true) rfl rfl (by kernel_rfl) (by kernel_rfl) (by kernel_rfl) (fun _ _ _ h => h) (Or.inl ⟨by rfl, fun w' hSw => ?_⟩) hHeld ?_
        · go_simp
        try simp only [List.setIfInBounds_toArray, List.set_cons_zero, List.set_cons_succ]
        refine take_at (i := 26) (d := 116) (v := .bool true) rfl rfl (by kernel_rfl) (by kernel_rfl) (by kernel_rfl) (fun _ _ _ h => h) (Or.inl ⟨by rfl, fun w' hSw => ?_⟩) hHeld ?_
        · go_simp
        try simp only [List.setIfInBounds_toArray, List.set_cons_zero, List.set_cons_succ]
        refine take_at (i := 27) (d := 6) (v := .bool true) rfl rfl (by kernel_rfl) (by kernel_rfl) (by kernel_rfl) (fun _ _ _ h => h) (Or.inl ⟨by rfl, fun w' hSw => ?_⟩) hHeld ?_
        · go_simp
        try simp only [List.setIfInBounds_toArray, List.set_cons_zero, List.set_cons_succ]
        refine wpAnyH_done (by kernel_rfl) ?_ _
        refine NoPanic.normal ?_
        go_wp2
        go_ret
        exact ⟨rfl, hHeld⟩
      · have hz2 : S2.size ≤ 65536 := by rw [hS2]; exact gJS_size
        have HID : Hid (bs (Sh.digest S2.data.toList) = id) := hid
        clear HW2 hid hS2
        have KS : Hid (∀ w', Below w9.heap.size w9 w' → (Below w9.heap.size w9 w' ∧ w'.cell? ⟨w.heap.size, 4, none⟩ = some (.string id))) := fun w' hb => ⟨hb, (HK9.out.below hb HK9.out.lt).cell4⟩
        have S0 : Hid (Below w9.heap.size w9 w9.drew) := (Below.refl _ _).drew
        have S1' : Hid (∀ o, Below w9.heap.size w9 (w9.alloc o).drew) := fun o => (below_alloc (Below.refl _ _) o).drew
        have CS : Hid (∀ (v : Value) (w' : World), v = .slice (some ⟨w9.heap.size, 0, none⟩) 1 1 → w' = (w9.alloc (.cells #[.string S2] 9)).drew → Calls Tryz.prog 18 #[v] w' fun e w'' => e = .returned (.string id) ∧ (Below w9.heap.size w9 w'' ∧ w''.cell? ⟨w.heap.size, 4, none⟩ = some (.string id))) := fun v w' hv hw => by
          subst hv
          have := sum_one (w := w9.drew) (HL9.out.below S0.out HL9.out.size) S2 (by omega)
          rw [hw]
          exact this.mono fun _ _ ⟨he, hk⟩ => ⟨by rw [he, HID.out], KS.out _ (below_step S0.out hk)⟩
        go_upto_region 21 with fail
        refine wp_region_noPanic ?_
        refine wp_region_held_drew (S := fun w' => Below w9.heap.size w9 w' ∧ w'.cell? ⟨w.heap.size, 4, none⟩ = some (.string id)) (by kernel_rfl) (KS.out _ S0.out) (fun hHeld => ?_)
        refine take_at (i := 0) (d := 90) (v := .int .i64 0) rfl rfl (by kernel_rfl) (by kernel_rfl) (by kernel_rfl) (fun _ _ _ h => h) (Or.inl ⟨by rfl, fun w' hSw => ?_⟩) hHeld ?_
        · obtain ⟨_, _⟩ := hSw
          go_simp
        try simp only [List.setIfInBounds_toArray, List.set_cons_zero, List.set_cons_succ]
        refine take_at (i := 1) (d := 91) (v := .bool true) rfl rfl (by kernel_rfl) (by kernel_rfl) (by kernel_rfl) (fun _ _ _ h => h) (Or.inl ⟨by rfl, fun w' hSw => ?_⟩) hHeld ?_
        · obtain ⟨_, _⟩ := hSw
          go_simp
        try simp only [List.setIfInBounds_toArray, List.set_cons_zero, List.set_cons_succ]
        refine take_at (i := 2) (d := 92) (v := .bool true) rfl rfl (by kernel_rfl) (by kernel_rfl) (by kernel_rfl) (fun _ _ _ h => h) (Or.inl ⟨by rfl, fun w' hSw => ?_⟩) hHeld ?_
        · obtain ⟨_, _⟩ := hSw
          go_simp
        try simp only [List.setIfInBounds_toArray, List.set_cons_zero, List.set_cons_succ]
        refine take_at (i := 3) (d := 93) (v := .string S1) rfl rfl (by kernel_rfl) (by kernel_rfl) (by kernel_rfl) (fun _ _ _ h => h) (Or.inl ⟨by rfl, fun w' hSw => ?_⟩) hHeld ?_
        · obtain ⟨_, _⟩ := hSw
          go_simp
        try simp only [List.setIfInBounds_toArray, List.set_cons_zero, List.set_cons_succ]
        refine take_at (i := 4) (d := 94) (v := .string S1) rfl rfl (by kernel_rfl) (by kernel_rfl) (by kernel_rfl) (fun _ _ _ h => h) (Or.inl ⟨by rfl, fun w' hSw => ?_⟩) hHeld ?_
        · obtain ⟨_, _⟩ := hSw
          go_simp
        try simp only [List.setIfInBounds_toArray, List.set_cons_zero, List.set_cons_succ]
        refine take_at (i := 5) (d := 95) (v := .bool true) rfl rfl (by kernel_rfl) (by kernel_rfl) (by kernel_rfl) (fun _ _ _ h => h) (Or.inl ⟨by rfl, fun w' hSw => ?_⟩) hHeld ?_
        · obtain ⟨_, _⟩ := hSw
          go_simp
        try simp only [List.setIfInBounds_toArray, List.set_cons_zero, List.set_cons_succ]
        refine take_at (i := 6) (d := 96) (v := .bool true) rfl rfl (by kernel_rfl) (by kernel_rfl) (by kernel_rfl) (fun _ _ _ h => h) (Or.inl ⟨by rfl, fun w' hSw => ?_⟩) hHeld ?_
        · obtain ⟨_, _⟩ := hSw
          go_simp
        try simp only [List.setIfInBounds_toArray, List.set_cons_zero, List.set_cons_succ]
        refine take_at (i := 7) (d := 97) (v := .bool true) rfl rfl (by kernel_rfl) (by kernel_rfl) (by kernel_rfl) (fun _ _ _ h => h) (Or.inl ⟨by rfl, fun w' hSw => ?_⟩) hHeld ?_
        · obtain ⟨_, _⟩ := hSw
          go_simp
        try simp only [List.setIfInBounds_toArray, List.set_cons_zero, List.set_cons_succ]
        refine take_at (i := 8) (d := 98) (v := .int .i64 0) rfl rfl (by kernel_rfl) (by kernel_rfl) (by kernel_rfl) (fun _ _ _ h => h) (Or.inl ⟨by rfl, fun w' hSw => ?_⟩) hHeld ?_
        · obtain ⟨_, _⟩ := hSw
          go_simp
        try simp only [List.setIfInBounds_toArray, List.set_cons_zero, List.set_cons_succ]
        refine take_at (i := 9) (d := 99) (v := .bool false) rfl rfl (by kernel_rfl) (by kernel_rfl) (by kernel_rfl) (fun _ _ _ h => h) (Or.inl ⟨by rfl, fun w' hSw => ?_⟩) hHeld ?_
        · obtain ⟨_, _⟩ := hSw
          go_simp
        try simp only [List.setIfInBounds_toArray, List.set_cons_zero, List.set_cons_succ]
        refine take_at (i := 10) (d := 100) (v := .bool false) rfl rfl (by kernel_rfl) (by kernel_rfl) (by kernel_rfl) (fun _ _ _ h => h) (Or.inl ⟨by rfl, fun w' hSw => ?_⟩) hHeld ?_
        · obtain ⟨_, _⟩ := hSw
          go_simp
        try simp only [List.setIfInBounds_toArray, List.set_cons_zero, List.set_cons_succ]
        refine take_at (i := 11) (d := 101) (v := undef) rfl rfl (by kernel_rfl) (by kernel_rfl) (by kernel_rfl) (fun _ _ _ h => h) (Or.inr ⟨by rfl, rfl⟩) hHeld ?_
        try simp only [List.setIfInBounds_toArray, List.set_cons_zero, List.set_cons_succ]
        refine take_at (i := 12) (d := 102) (v := undef) rfl rfl (by kernel_rfl) (by kernel_rfl) (by kernel_rfl) (fun _ _ _ h => h) (Or.inr ⟨by rfl, rfl⟩) hHeld ?_
        try simp only [List.setIfInBounds_toArray, List.set_cons_zero, List.set_cons_succ]
        refine take_at (i := 13) (d := 103) (v := .bool false) rfl rfl (by kernel_rfl) (by kernel_rfl) (by kernel_rfl) (fun _ _ _ h => h) (Or.inl ⟨by rfl, fun w' hSw => ?_⟩) hHeld ?_
        · obtain ⟨_, _⟩ := hSw
          go_simp
        try simp only [List.setIfInBounds_toArray, List.set_cons_zero, List.set_cons_succ]
        refine take_at (i := 14) (d := 104) (v := .bool false) rfl rfl (by kernel_rfl) (by kernel_rfl) (by kernel_rfl) (fun _ _ _ h => h) (Or.inl ⟨by rfl, fun w' hSw => ?_⟩) hHeld ?_
        · obtain ⟨_, _⟩ := hSw
          go_simp
        try simp only [List.setIfInBounds_toArray, List.set_cons_zero, List.set_cons_succ]
        refine take_at (i := 15) (d := 105) (v := .string S2) rfl rfl (by kernel_rfl) (by kernel_rfl) (by kernel_rfl) (fun _ _ _ h => h) (Or.inl ⟨by rfl, fun w' hSw => ?_⟩) hHeld ?_
        · obtain ⟨_, _⟩ := hSw
          go_simp
        try simp only [List.setIfInBounds_toArray, List.set_cons_zero, List.set_cons_succ]
        refine take_at (i := 18) (d := 108) (v := .pointer (some ⟨w.heap.size, 4, none⟩)) rfl rfl (by kernel_rfl) (by kernel_rfl) (by kernel_rfl) (fun _ _ _ h => h) (Or.inl ⟨by rfl, fun w' hSw => ?_⟩) hHeld ?_
        · obtain ⟨_, _⟩ := hSw
          go_simp
        try simp only [List.setIfInBounds_toArray, List.set_cons_zero, List.set_cons_succ]
        refine take_at (i := 19) (d := 109) (v := .string id) rfl rfl (by kernel_rfl) (by kernel_rfl) (by kernel_rfl) (fun _ _ _ h => h) (Or.inl ⟨by rfl, fun w' hSw => ?_⟩) hHeld ?_
        · obtain ⟨_, _⟩ := hSw
          go_simp
        try simp only [List.setIfInBounds_toArray, List.set_cons_zero, List.set_cons_succ]
        refine wpAnyH_ready (rs := [16]) (by kernel_rfl) (by simp) ?_
        refine AllReadyH.cons rfl (fun K hK => ?_) AllReadyH.nil
        go_simp
        refine hK.out _ _ (KS.out _ (S1'.out _)) (fun hHeld => ?_)
        clear hK K
        try simp only [Act.put, List.setIfInBounds_toArray, List.set_cons_zero, List.set_cons_succ]
        refine wpAnyH_ready (rs := [17]) (by kernel_rfl) (by simp) ?_
        refine AllReadyH.cons rfl (fun K hK => ?_) AllReadyH.nil
        go_simp
        refine (CS.out _ _ rfl rfl).mono ?_
        rintro e wa ⟨rfl, ka⟩
        go_simp
        refine hK.out _ _ ka (fun hHeld => ?_)
        clear hK K
        try simp only [Act.put, List.setIfInBounds_toArray, List.set_cons_zero, List.set_cons_succ]
        refine take_at (i := 20) (d := 110) (v := .bool true) rfl rfl (by kernel_rfl) (by kernel_rfl) (by kernel_rfl) (fun _ _ _ h => h) (Or.inl ⟨by rfl, fun w' hSw => ?_⟩) hHeld ?_
        · obtain ⟨_, _⟩ := hSw
          go_simp
        try simp only [List.setIfInBounds_toArray, List.set_cons_zero, List.set_cons_succ]
        refine take_at (i := 21) (d := 111) (v := .bool true) rfl rfl (by kernel_rfl) (by kernel_rfl) (by kernel_rfl) (fun _ _ _ h => h) (Or.inl ⟨by rfl, fun w' hSw => ?_⟩) hHeld ?_
        · obtain ⟨_, _⟩ := hSw
          go_simp
        try simp only [List.setIfInBounds_toArray, List.set_cons_zero, List.set_cons_succ]
        refine take_at (i := 22) (d := 112) (v := .bool true) rfl rfl (by kernel_rfl) (by kernel_rfl) (by kernel_rfl) (fun _ _ _ h => h) (Or.inl ⟨by rfl, fun w' hSw => ?_⟩) hHeld ?_
        · obtain ⟨_, _⟩ := hSw
          go_simp
        try simp only [List.setIfInBounds_toArray, List.set_cons_zero, List.set_cons_succ]
        refine take_at (i := 23) (d := 113) (v := .bool true) rfl rfl (by kernel_rfl) (by kernel_rfl) (by kernel_rfl) (fun _ _ _ h => h) (Or.inl ⟨by rfl, fun w' hSw => ?_⟩) hHeld ?_
        · obtain ⟨_, _⟩ := hSw
          go_simp
        try simp only [List.setIfInBounds_toArray, List.set_cons_zero, List.set_cons_succ]
        refine take_at (i := 24) (d := 114) (v := .int .i64 50) rfl rfl (by kernel_rfl) (by kernel_rfl) (by kernel_rfl) (fun _ _ _ h => h) (Or.inl ⟨by rfl, fun w' hSw => ?_⟩) hHeld ?_
        · obtain ⟨_, _⟩ := hSw
          go_simp
        try simp only [List.setIfInBounds_toArray, List.set_cons_zero, List.set_cons_succ]
        refine take_at (i := 25) (d := 115) (v := .bool true) rfl rfl (by kernel_rfl) (by kernel_rfl) (by kernel_rfl) (fun _ _ _ h => h) (Or.inl ⟨by rfl, fun w' hSw => ?_⟩) hHeld ?_
        · obtain ⟨_, _⟩ := hSw
          go_simp
        try simp only [List.setIfInBounds_toArray, List.set_cons_zero, List.set_cons_succ]
        refine take_at (i := 26) (d := 116) (v := .bool true) rfl rfl (by kernel_rfl) (by kernel_rfl) (by kernel_rfl) (fun _ _ _ h => h) (Or.inl ⟨by rfl, fun w' hSw => ?_⟩) hHeld ?_
        · obtain ⟨_, _⟩ := hSw
          go_simp
        try simp only [List.setIfInBounds_toArray, List.set_cons_zero, List.set_cons_succ]
        refine take_at (i := 27) (d := 6) (v := .bool true) rfl rfl (by kernel_rfl) (by kernel_rfl) (by kernel_rfl) (fun _ _ _ h => h) (Or.inl ⟨by rfl, fun w' hSw => ?_⟩) hHeld ?_
        · obtain ⟨_, _⟩ := hSw
          go_simp
        try simp only [List.setIfInBounds_toArray, List.set_cons_zero, List.set_cons_succ]
        refine wpAnyH_done (by kernel_rfl) ?_ _
        refine NoPanic.normal ?_
        go_wp2
        go_ret
        exact ⟨rfl, below_step HBw.out ka.1⟩
end Go.Proofs.YtklaeocnimkboaaGreatDoor


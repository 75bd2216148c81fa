/-
  ShardBack: there and back.
-/
import Derived.Test.YtklaeocnimkboaaSdDec
namespace Go.Proofs.Ytklaeocnimkboaa
open Go.RowKit Go.Lib

theorem crc_example : crcV (⟨#[49, 50, 51, 52, 53, 54, 55, 56, 57]⟩ : ByteArray).data.toList = 3808858755 := by decide +kernel
theorem sworks_any (w : World) : Calls Try.prog 5 #[] w fun e w' => e = .returned (.bool true) ∧ w' = w := by
  go_enter Try.func5, Try.ntmps5
  go_wp2_with fail
  refine (crc_any _ _ (by decide)).mono ?_
  rintro e w1 ⟨rfl, hw⟩
  subst w1
  rw [crc_example]
  go_wp2
  go_ret
  exact ⟨rfl, rfl⟩

set_option maxRecDepth 100000 in
set_option maxHeartbeats 1600000 in
theorem back_walk (k m i long : Int) (id data s : ByteArray) (w : World) (hm : m ≤ 9223372036854775807) :
    Calls Try.prog 4 #[.agg #[.int .i64 k, .int .i64 m, .int .i64 i, .int .i64 long, .string id, .string data], .string s] w fun e w' => e = .returned (.bool true) ∧ Below w.heap.size w w' := by
  have X := SK.new 23 w k m i long id data
  obtain ⟨W, hW⟩ : ∃ W, W = w.alloc (.cells #[.int .i64 k, .int .i64 m, .int .i64 i, .int .i64 long, .string id, .string data] 23) := ⟨_, rfl⟩
  have HB : Hid (Below w.heap.size w W) := by rw [hW]; exact below_alloc (Below.refl _ _) _
  rw [← hW] at X
  have HW := hide hW
  have HX := hide X
  have hl := X.lt
  have c0 := X.cell0
  have c1 := X.cell1
  have c2 := X.cell2
  have c3 := X.cell3
  have c4 := X.cell4
  have c5 := X.cell5
  clear X hW
  go_enter Try.func4, Try.ntmps4
  go_wp2_with fail
  rw [← HW.out]
  refine (sworks_any W).mono ?_
  rintro e w1 ⟨rfl, hw1⟩
  subst w1
  by_cases h1 : 2000 < data.size
  · go_wp2
    go_ret
    exact ⟨rfl, HB.out⟩
  by_cases h2 : 2000 < s.size
  · go_wp2
    go_ret
    exact ⟨rfl, HB.out⟩
  by_cases hok : okS ⟨k, m, i, long, id, data⟩
  · obtain ⟨K, M, I, L, rfl, rfl, rfl, rfl, hK, hM, hI, hL, hid, hda⟩ := okS_nat hok
    have HOK := hide hok
    have HZ : Hid ((bs (fullL ⟨K, M, I, L, id, data⟩)).size ≤ 100000) := by
      show (bs (fullL ⟨K, M, I, L, id, data⟩)).size ≤ 100000
      rw [bs_size, fullL_length]
      simp only
      omega
    clear hok hid hda
    go_wp2_with fail
    refine (encode_ok _ _ _ _ id data _ HOK.out).mono ?_
    rintro e w2 ⟨rfl, hb2⟩
    clear c0 c1 c2 c3 c4 c5
    have HX2 := hide (HX.out.below hb2 hl)
    have HB2 := hide (HB.out.trans (hb2.mono HB.out.size))
    clear hb2 HX HB
    go_wp2_with fail
    refine (decode_ok (bs (fullL ⟨K, M, I, L, id, data⟩)) _ (by have := HZ.out; omega) (by rw [bs_toList]; exact full_ok HOK.out)).mono ?_
    rintro e w3 ⟨k2, m2, i2, l2, id2, da2, rfl, hx2, hb3⟩
    rw [bs_toList, dec_full HOK.out] at hx2
    simp only [SX.mk.injEq, Int.natCast_inj] at hx2
    obtain ⟨rfl, rfl, rfl, rfl, rfl, rfl⟩ := hx2
    have X3 := HX2.out.below hb3 HX2.out.lt
    have HB3 := hide (HB2.out.trans (hb3.mono HB2.out.size))
    have HB4 := hide (HB3.out.alloc HB3.out.size (.cells #[.int .i64 (k2 : Int), .int .i64 (m2 : Int), .int .i64 (i2 : Int), .int .i64 (l2 : Int), .string id2, .string da2] 23))
    have HX4 := hide (X3.alloc (.cells #[.int .i64 (k2 : Int), .int .i64 (m2 : Int), .int .i64 (i2 : Int), .int .i64 (l2 : Int), .string id2, .string da2] 23))
    have HY4 := hide (SK.new 23 w3 k2 m2 i2 l2 id2 da2)
    have hne : ¬ w.heap.size = w3.heap.size := by have := X3.lt; omega
    have hne' : ¬ w3.heap.size = w.heap.size := fun e => hne e.symm
    have hlt3 := X3.lt
    generalize bs (fullL ⟨k2, m2, i2, l2, id2, da2⟩) = A at *
    have c0 := X3.cell0
    have c1 := X3.cell1
    have c2 := X3.cell2
    have c3 := X3.cell3
    have c4 := X3.cell4
    have c5 := X3.cell5
    clear hb3 HX2 HB2 HB3
    by_cases hd : decOK s.data.toList
    · have HD := hide hd
      clear hd
      go_wp2_with fail
      refine (decode_ok s _ (by omega) HD.out).mono ?_
      rintro e w5 ⟨k2, m2, i2, l2, id2, da2, rfl, hx2, hb5⟩
      have hok2 : okS ⟨k2, m2, i2, l2, id2, da2⟩ := by rw [hx2]; exact HD.out.2.1
      have hA2 : bs (fullL ⟨k2, m2, i2, l2, id2, da2⟩) = s := by rw [hx2, HD.out.2.2, bs_of]
      have HOK2 := hide hok2
      have HA2 := hide hA2
      have HB5 := hide (HB4.out.trans (hb5.mono HB4.out.size))
      clear hx2 hok2 hA2 hb5
      go_wp2_with fail
      refine (encode_ok _ _ _ _ id2 da2 _ HOK2.out).mono ?_
      rintro e w6 ⟨rfl, hb6⟩
      rw [HA2.out]
      have HB6 := hide ((HB5.out.alloc HB5.out.size (.cells #[.int .i64 (k2 : Int), .int .i64 (m2 : Int), .int .i64 (i2 : Int), .int .i64 (l2 : Int), .string id2, .string da2] 23)).trans (hb6.mono (Nat.le_trans HB5.out.size (by simp))))
      clear hb6
      go_wp2
      go_ret
      exact ⟨rfl, HB6.out⟩
    · have HD := hide hd
      clear hd
      go_wp2_with fail
      refine (decode_bad s _ (by omega) HD.out).mono ?_
      rintro e w5 ⟨rfl, hb5⟩
      have HB5 := hide (HB4.out.trans (hb5.mono HB4.out.size))
      clear hb5
      go_wp2
      go_ret
      exact ⟨rfl, HB5.out.alloc HB5.out.size _⟩
  · have HOK := hide hok
    clear hok
    go_wp2_with fail
    refine (encode_bad _ _ _ _ id data _ hm HOK.out).mono ?_
    rintro e w2 ⟨rfl, hb2⟩
    clear c0 c1 c2 c3 c4 c5
    have HB2 := hide (HB.out.trans (hb2.mono HB.out.size))
    clear hb2 HX HB
    by_cases hd : decOK s.data.toList
    · have HD := hide hd
      clear hd
      go_wp2_with fail
      refine (decode_ok s _ (by omega) HD.out).mono ?_
      rintro e w5 ⟨k2, m2, i2, l2, id2, da2, rfl, hx2, hb5⟩
      have hok2 : okS ⟨k2, m2, i2, l2, id2, da2⟩ := by rw [hx2]; exact HD.out.2.1
      have hA2 : bs (fullL ⟨k2, m2, i2, l2, id2, da2⟩) = s := by rw [hx2, HD.out.2.2, bs_of]
      have HOK2 := hide hok2
      have HA2 := hide hA2
      have HB5 := hide (HB2.out.trans (hb5.mono HB2.out.size))
      clear hx2 hok2 hA2 hb5
      go_wp2_with fail
      refine (encode_ok _ _ _ _ id2 da2 _ HOK2.out).mono ?_
      rintro e w6 ⟨rfl, hb6⟩
      rw [HA2.out]
      have HB6 := hide ((HB5.out.alloc HB5.out.size (.cells #[.int .i64 (k2 : Int), .int .i64 (m2 : Int), .int .i64 (i2 : Int), .int .i64 (l2 : Int), .string id2, .string da2] 23)).trans (hb6.mono (Nat.le_trans HB5.out.size (by simp))))
      clear hb6
      go_wp2
      go_ret
      exact ⟨rfl, HB6.out⟩
    · have HD := hide hd
      clear hd
      go_wp2_with fail
      refine (decode_bad s _ (by omega) HD.out).mono ?_
      rintro e w5 ⟨rfl, hb5⟩
      have HB5 := hide (HB2.out.trans (hb5.mono HB2.out.size))
      clear hb5
      go_wp2
      go_ret
      exact ⟨rfl, HB5.out.alloc HB5.out.size _⟩
end Go.Proofs.Ytklaeocnimkboaa

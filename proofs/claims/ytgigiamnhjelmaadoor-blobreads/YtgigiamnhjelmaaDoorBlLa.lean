/-
  BlLaw1, BlLaw2: joined.
-/
import Derived.Test.YtgigiamnhjelmaaDoorBlRb
import Derived.Test.YtgigiamnhjelmaaDoorLzLaw3
import Derived.Test.YtgigiamnhjelmaaDoorLpEnc

namespace Go.Proofs.YtgigiamnhjelmaaDoor
open Go.RowKit Go.Lib
/-- What the program's calls answer, where K holds. -/
def BSizeC (K : World → Prop) : Prop := ∀ (w : World) (s : ByteArray), K w → s.size ≤ 4000 → Calls Tryd.prog 8 #[.string s] w fun e w' => e = .returned (.tuple #[.int .i64 (lnB s), .int .i64 (cdB s)]) ∧ Below w.heap.size w w'
def BDecC (K : World → Prop) : Prop := ∀ (w : World) (s : ByteArray), K w → s.size ≤ 4000 → lnB s ≤ 20000 → Calls Tryd.prog 9 #[.string s] w fun e w' => e = .returned (.tuple #[.int .i64 (dK (dcB s)), .string (dT (dcB s)), .int .i64 (dC (dcB s))]) ∧ Below w.heap.size w w'
def BOpenC (K : World → Prop) : Prop := ∀ (w : World) (s i : ByteArray), K w → s.size ≤ 4000 → lnB s ≤ 20000 → Calls Tryd.prog 11 #[.string s, .string i] w fun e w' => e = .returned (.tuple #[.int .i64 (dK (opB s i)), .string (dT (opB s i)), .int .i64 (dC (opB s i))]) ∧ Below w.heap.size w w'
def BIdC (K : World → Prop) : Prop := ∀ (w : World) (k : Int) (t : ByteArray), K w → t.size ≤ 140737488355328 → Calls Tryd.prog 13 #[.int .i64 k, .string t] w fun e w' => e = .returned (.tuple #[.string (idS k t), .int .i64 (idC k)]) ∧ Below w.heap.size w w'
/-- A blob's bytes: packed just if that is less. -/
def enB (k : Int) (t : ByteArray) : ByteArray := if rfC k t = 0 then (if (pkB t).size < t.size then b1 (k.toNat + 16) ++ Zq.Nm.strOf (uvarint t.size) ++ pkB t else plB k.toNat t) else ⟨#[]⟩
def BEncC (K : World → Prop) : Prop := ∀ (w : World) (k : Int) (t : ByteArray), K w → t.size ≤ 3000 ∨ 65536 < t.size → t.size ≤ 140737488355328 → Calls Tryd.prog 15 #[.int .i64 k, .string t] w fun e w' => e = .returned (.tuple #[.string (enB k t), .int .i64 (rfC k t)]) ∧ Below w.heap.size w w'
theorem ex13 : enB 1 ⟨#[97, 98]⟩ = ⟨#[1, 2, 97, 98]⟩ ∧ rfC 1 ⟨#[97, 98]⟩ = 0 := by
  have h1 : rfC 1 ⟨#[97, 98]⟩ = 0 := by decide
  have h2 : ¬ (pkB ⟨#[97, 98]⟩).size < (ByteArray.mk #[97, 98]).size := by decide +kernel
  refine ⟨?_, h1⟩
  rw [enB, if_pos h1, if_neg h2, plB]
  have h3 : (ByteArray.mk #[97, 98]).size = 2 := rfl
  rw [Zq.Nm.textOf, h3, uvarint_small (by decide)]
  rfl
section
variable {K : World → Prop}
set_option maxRecDepth 100000 in
theorem works13 (hE : BEncC K) {w : World} (hk : K w) : Calls Tryd.prog 7 #[] w fun e w' => e = .returned (.bool true) ∧ Below w.heap.size w w' := by
  have HU := hide (hE w 1 ⟨#[97, 98]⟩ hk (by decide) (by decide))
  rw [ex13.1, ex13.2] at HU
  clear hE
  go_enter Tryd.func7, Tryd.ntmps7
  go_wp2_with fail
  refine HU.out.mono ?_
  rintro _ w2 ⟨rfl, hb⟩
  have HB := hide hb
  clear hb
  go_wp2
  go_ret
  exact ⟨rfl, HB.out⟩
theorem ln_le (s : ByteArray) : lnB s ≤ 65536 := by
  rcases ho : okH s with _ | _
  · rw [(hd_no ho).1]; exact Nat.zero_le _
  · exact (hd_yes ho).2.2.2.2.2.1
set_option maxRecDepth 100000 in
set_option maxHeartbeats 3200000 in
theorem reads13 (hK : Kept K) (hS : BSizeC K) (hD : BDecC K) (hO : BOpenC K) (hE : BEncC K) {w : World} (hk : K w) (s i : ByteArray) (hs : s.size ≤ 140737488355328) : Calls Tryd.prog 3 #[.string s, .string i] w fun e w' => e = .returned (.bool true) ∧ Below w.heap.size w w' := by
  have HW : Hid (∀ wx, Below w.heap.size w wx → Calls Tryd.prog 7 #[] wx fun e w' => e = .returned (.bool true) ∧ Below wx.heap.size wx w') := fun wx h => works13 hE (hK _ _ hk h)
  have HR := hide (rsize_any (w := w) hs)
  by_cases h1 : 2000 < s.size
  · have c1 : (2000 : Int) < (s.size : Int) := by omega
    clear hS hD hO hE hK h1
    go_enter Tryd.func3, Tryd.ntmps3
    go_wp2_with fail
    refine HR.out.mono ?_
    rintro _ w2 ⟨rfl, hb⟩
    have HB := hide hb
    clear hb
    go_wp2_with fail
    refine (HW.out _ HB.out).mono ?_
    rintro _ w3 ⟨rfl, hb⟩
    have HB3 := hide (below_step HB.out hb)
    clear hb
    go_wp2
    go_ret
    exact ⟨rfl, HB3.out⟩
  have c1 : ¬ (2000 : Int) < (s.size : Int) := by omega
  by_cases h2 : 20000 < lnB s
  · have c2 : (20000 : Int) < (lnB s : Int) := by omega
    clear hS hD hO hE hK h1 h2
    go_enter Tryd.func3, Tryd.ntmps3
    go_wp2_with fail
    refine HR.out.mono ?_
    rintro _ w2 ⟨rfl, hb⟩
    have HB := hide hb
    clear hb
    go_wp2_with fail
    refine (HW.out _ HB.out).mono ?_
    rintro _ w3 ⟨rfl, hb⟩
    have HB3 := hide (below_step HB.out hb)
    clear hb
    go_wp2
    go_ret
    exact ⟨rfl, HB3.out⟩
  have c2 : ¬ (20000 : Int) < (lnB s : Int) := by omega
  have HS : Hid (∀ wx, Below w.heap.size w wx → Calls Tryd.prog 8 #[.string s] wx fun e w' => e = .returned (.tuple #[.int .i64 (lnB s), .int .i64 (cdB s)]) ∧ Below wx.heap.size wx w') := fun wx h => hS wx s (hK _ _ hk h) (by omega)
  have HD : Hid (∀ wx, Below w.heap.size w wx → Calls Tryd.prog 9 #[.string s] wx fun e w' => e = .returned (.tuple #[.int .i64 (dK (dcB s)), .string (dT (dcB s)), .int .i64 (dC (dcB s))]) ∧ Below wx.heap.size wx w') := fun wx h => hD wx s (hK _ _ hk h) (by omega) (by omega)
  have HO : Hid (∀ wx, Below w.heap.size w wx → Calls Tryd.prog 11 #[.string s, .string i] wx fun e w' => e = .returned (.tuple #[.int .i64 (dK (opB s i)), .string (dT (opB s i)), .int .i64 (dC (opB s i))]) ∧ Below wx.heap.size wx w') := fun wx h => hO wx s i (hK _ _ hk h) (by omega) (by omega)
  have HRD : Hid (∀ wx, Calls Tryd.prog 10 #[.string s] wx fun e w' => e = .returned (.tuple #[.int .i64 (dK (dcB s)), .string (dT (dcB s)), .int .i64 (dC (dcB s))]) ∧ Below wx.heap.size wx w') := fun wx => rdec_any (by omega)
  have HRO : Hid (∀ wx, Calls Tryd.prog 12 #[.string s, .string i] wx fun e w' => e = .returned (.tuple #[.int .i64 (dK (opB s i)), .string (dT (opB s i)), .int .i64 (dC (opB s i))]) ∧ Below wx.heap.size wx w') := fun wx => ropen13_any (by omega)
  clear hS hD hO hE hK h1 h2 hs
  obtain ⟨n, hn⟩ : ∃ n, lnB s = n := ⟨_, rfl⟩
  obtain ⟨c, hc⟩ : ∃ c, cdB s = c := ⟨_, rfl⟩
  obtain ⟨k1, hk1⟩ : ∃ x, dK (dcB s) = x := ⟨_, rfl⟩
  obtain ⟨t1, ht1⟩ : ∃ x, dT (dcB s) = x := ⟨_, rfl⟩
  obtain ⟨d1, hd1⟩ : ∃ x, dC (dcB s) = x := ⟨_, rfl⟩
  obtain ⟨k2, hk2⟩ : ∃ x, dK (opB s i) = x := ⟨_, rfl⟩
  obtain ⟨t2, ht2⟩ : ∃ x, dT (opB s i) = x := ⟨_, rfl⟩
  obtain ⟨d2, hd2⟩ : ∃ x, dC (opB s i) = x := ⟨_, rfl⟩
  rw [hn, hc] at HS
  rw [hn, hc] at HR
  rw [hn] at c2
  rw [hk1, ht1, hd1] at HD HRD
  rw [hk2, ht2, hd2] at HO HRO
  obtain ⟨a, ha⟩ : ∃ a, atB s = a := ⟨_, rfl⟩
  rw [ha] at HR
  clear hn hc hk1 ht1 hd1 hk2 ht2 hd2 ha
  go_enter Tryd.func3, Tryd.ntmps3
  go_wp2_with fail
  refine HR.out.mono ?_
  rintro _ w2 ⟨rfl, hb⟩
  have HB2 := hide hb
  clear hb
  go_wp2_with fail
  refine (HS.out _ HB2.out).mono ?_
  rintro _ w3 ⟨rfl, hb⟩
  have HB3 := hide (below_step HB2.out hb)
  clear hb
  go_wp2_with fail
  refine (HD.out _ HB3.out).mono ?_
  rintro _ w4 ⟨rfl, hb⟩
  have HB4 := hide (below_step HB3.out hb)
  clear hb
  go_wp2_with fail
  refine (HRD.out _).mono ?_
  rintro _ w5 ⟨rfl, hb⟩
  have HB5 := hide (below_step HB4.out hb)
  clear hb
  go_wp2_with fail
  refine (HO.out _ HB5.out).mono ?_
  rintro _ w6 ⟨rfl, hb⟩
  have HB6 := hide (below_step HB5.out hb)
  clear hb
  go_wp2_with fail
  refine (HRO.out _).mono ?_
  rintro _ w7 ⟨rfl, hb⟩
  have HB7 := hide (below_step HB6.out hb)
  clear hb
  go_wp2_with fail
  refine (HW.out _ HB7.out).mono ?_
  rintro _ w8 ⟨rfl, hb⟩
  have HB8 := hide (below_step HB7.out hb)
  clear hb
  go_wp2
  go_ret
  exact ⟨rfl, HB8.out⟩
end
end Go.Proofs.YtgigiamnhjelmaaDoor

namespace Go.Proofs.YtgigiamnhjelmaaDoor
open Go.RowKit Go.Lib
/-- What stands ahead of a text, or of its block. -/
def hdB (k : Nat) (t : ByteArray) : ByteArray := b1 k ++ Zq.Nm.strOf (uvarint t.size)
theorem pl_eq (k : Nat) (t : ByteArray) : plB k t = hdB k t ++ t := by rw [plB, hdB, ← Zq.Nm.textOf_eq, ByteArray.append_assoc]
theorem hd_size (k : Nat) (t : ByteArray) : (hdB k t).size = 1 + (uvarint t.size).length := by rw [hdB, ba_add, b1_size, Zq.Nm.strOf_size]
theorem hd_size10 {t : ByteArray} (k : Nat) (h : t.size ≤ 65536) : (hdB k t).size ≤ 10 := by
  have := Zq.Nm.uvarint_nine (x := t.size) (by omega)
  rw [hd_size]
  omega
theorem ext_left (a b : ByteArray) : (a ++ b).extract 0 a.size = a := by
  have e : a.size = a.data.toList.length := by rw [ByteArray.size, Array.length_toList]
  apply ByteArray.ext
  apply Array.toList_inj.1
  rw [ByteArray.data_extract, Array.toList_extract, List.extract_eq_take_drop, ByteArray.data_append, Array.toList_append, List.drop_zero, Nat.sub_zero, e, List.take_append_of_le_length (Nat.le_refl _), List.take_of_length_le (Nat.le_refl _)]
theorem en_packed {k : Nat} {t : ByteArray} (h : rfC k t = 0) (hl : (pkB t).size < t.size) : enB k t = hdB (k + 16) t ++ pkB t := by
  rw [enB, if_pos h, if_pos hl, Int.toNat_natCast, hdB]
theorem en_plain {k : Nat} {t : ByteArray} (h : rfC k t = 0) (hl : ¬ (pkB t).size < t.size) : enB k t = plB k t := by
  rw [enB, if_pos h, if_neg hl, Int.toNat_natCast]
section
variable {K : World → Prop}
set_option maxRecDepth 100000 in
set_option maxHeartbeats 3200000 in
theorem writes13 (hK : Kept K) (hI : BIdC K) (hE : BEncC K) (hP : PackC K pkB) {w : World} (hk : K w) (k : Int) (t : ByteArray) (hs : t.size ≤ 140737488355328) : Calls Tryd.prog 4 #[.int .i64 k, .string t] w fun e w' => e = .returned (.bool true) ∧ Below w.heap.size w w' := by
  have HW : Hid (∀ wx, Below w.heap.size w wx → Calls Tryd.prog 7 #[] wx fun e w' => e = .returned (.bool true) ∧ Below wx.heap.size wx w') := fun wx h => works13 hE (hK _ _ hk h)
  by_cases h1 : 3000 < t.size ∧ t.size ≤ 65536
  · have c1 : (3000 : Int) < (t.size : Int) := by omega
    have c2 : (t.size : Int) ≤ 65536 := by omega
    have HB := hide (Below.refl w.heap.size w)
    clear hI hE hP hK h1
    go_enter Tryd.func4, Tryd.ntmps4
    go_wp2_with fail
    refine (HW.out _ HB.out).mono ?_
    rintro _ w3 ⟨rfl, hb⟩
    have HB3 := hide hb
    clear hb
    go_wp2
    go_ret
    exact ⟨rfl, HB3.out⟩
  have HI : Hid (∀ wx, Below w.heap.size w wx → Calls Tryd.prog 13 #[.int .i64 k, .string t] wx fun e w' => e = .returned (.tuple #[.string (idS k t), .int .i64 (idC k)]) ∧ Below wx.heap.size wx w') := fun wx h => hI wx k t (hK _ _ hk h) hs
  have HRI : Hid (∀ wx, Calls Tryd.prog 14 #[.int .i64 k, .string t] wx fun e w' => e = .returned (.tuple #[.string (idS k t), .int .i64 (idC k)]) ∧ Below wx.heap.size wx w') := fun wx => rid_any k (by omega)
  have HE : Hid (∀ wx, Below w.heap.size w wx → Calls Tryd.prog 15 #[.int .i64 k, .string t] wx fun e w' => e = .returned (.tuple #[.string (enB k t), .int .i64 (rfC k t)]) ∧ Below wx.heap.size wx w') := fun wx h => hE wx k t (hK _ _ hk h) (by omega) hs
  have HRR : Hid (∀ wx, Calls Tryd.prog 16 #[.int .i64 k, .string t] wx fun e w' => e = .returned (.int .i64 (rfC k t)) ∧ w' = wx) := fun wx => rrefused_any k t
  have c0 : ¬ (3000 : Int) < (t.size : Int) ∨ ((3000 : Int) < (t.size : Int) ∧ ¬ (t.size : Int) ≤ 65536) := by omega
  obtain ⟨J, hJ⟩ : ∃ J, idS k t = J := ⟨_, rfl⟩
  obtain ⟨C, hC⟩ : ∃ C, idC k = C := ⟨_, rfl⟩
  rw [hJ, hC] at HI HRI
  by_cases hr : rfC k t = 0
  · have hkn : kn k = true := by
      rcases hq : kn k with _ | _
      · simp [rfC, hq] at hr
      · rfl
    have hts : t.size ≤ 65536 := by
      by_cases q : t.size ≤ 65536
      · exact q
      · simp [rfC, hkn, q] at hr
    have ht3 : t.size ≤ 3000 := by omega
    have d0 : ¬ (3000 : Int) < (t.size : Int) := by omega
    obtain ⟨m, rfl⟩ : ∃ m : Nat, k = (m : Int) := ⟨k.toNat, by rcases kn_iff.1 hkn with h | h <;> omega⟩
    have hm : m = 1 ∨ m = 2 := by rcases kn_iff.1 hkn with h | h <;> omega
    have HPK : Hid (∀ wx, Below w.heap.size w wx → Calls Tryd.prog 17 #[.string t] wx fun e w' => e = .returned (.tuple #[.string (pkB t), .int .i64 0]) ∧ Below wx.heap.size wx w') := fun wx h => by
      have h2 := hP wx t (hK _ _ hk h) (.inl (by omega)) (by omega)
      rw [pkV, if_pos (by omega)] at h2
      exact h2
    have HP1 : Hid (∀ wx, Calls Tryd.prog 18 #[.int .i64 (m : Int), .string t] wx fun e w' => e = .returned (.string (plB m t)) ∧ Below wx.heap.size wx w') := fun wx => rplain_any (by omega) hts
    have HP2 : Hid (∀ wx, Calls Tryd.prog 18 #[.int .i64 ((m : Int) + 16), .string t] wx fun e w' => e = .returned (.string (plB (m + 16) t)) ∧ Below wx.heap.size wx w') := fun wx => rplain_any (k := m + 16) (by omega) hts
    have em : IntKind.i64.wrap ((m : Int) + 16) = (m : Int) + 16 := by rw [IntKind.wrap_i64]; omega
    rw [hr] at HE HRR
    by_cases hl : (pkB t).size < t.size
    · rw [en_packed hr hl] at HE
      rw [pl_eq] at HP2
      have z1 := hd_size10 (m + 16) hts
      obtain ⟨U, hU⟩ : ∃ U, hdB (m + 16) t = U := ⟨_, rfl⟩
      obtain ⟨Q, hQ⟩ : ∃ Q, pkB t = Q := ⟨_, rfl⟩
      rw [hU, hQ] at HE
      rw [hU] at HP2 z1
      rw [hQ] at HPK hl
      obtain ⟨P2, hP2⟩ : ∃ P2, U ++ t = P2 := ⟨_, rfl⟩
      have z2 : P2.size = U.size + t.size := by rw [← hP2, ba_add]
      have z3 : P2.extract 0 U.size = U := by rw [← hP2]; exact ext_left _ _
      have c5 : (P2.size : Int) - (t.size : Int) = (U.size : Int) := by omega
      have hsl : ∀ wx, (Instr.slice 9 (.string P2) none (some (.int .i64 ((P2.size : Int) - (t.size : Int)))) none).run Tryd.prog wx = .ok (.string U) wx := fun wx => by
        have h2 := sl_to (s := P2) (a := U.size) (by omega) wx
        rw [z3] at h2
        rw [c5]
        exact h2
      have c6 : (Q.size : Int) < (t.size : Int) := by omega
      have zz : P2.size ≤ 3010 := by omega
      rw [hP2] at HP2
      obtain ⟨E, hEE⟩ : ∃ E, U ++ Q = E := ⟨_, rfl⟩
      rw [hEE] at HE
      obtain ⟨P1, hP1⟩ : ∃ P1, plB m t = P1 := ⟨_, rfl⟩
      rw [hP1] at HP1
      have HB := hide (Below.refl w.heap.size w)
      clear hI hE hP hK h1 c0 hr hkn hts hm hl hU hQ hP2 z2 z3 c5 hP1 hJ hC ht3
      go_enter Tryd.func4, Tryd.ntmps4
      go_wp2_with fail
      refine (HI.out _ HB.out).mono ?_
      rintro _ w2 ⟨rfl, hb⟩
      have HB2 := hide hb
      clear hb
      go_wp2_with fail
      refine (HRI.out _).mono ?_
      rintro _ w3 ⟨rfl, hb⟩
      have HB3 := hide (below_step HB2.out hb)
      clear hb
      go_wp2_with fail
      refine (HE.out _ HB3.out).mono ?_
      rintro _ w4 ⟨rfl, hb⟩
      have HB4 := hide (below_step HB3.out hb)
      clear hb
      go_wp2_with fail
      refine (HRR.out _).mono ?_
      rintro _ _ ⟨rfl, rfl⟩
      go_wp2_with fail
      refine (HW.out _ HB4.out).mono ?_
      rintro _ w5 ⟨rfl, hb⟩
      have HB5 := hide (below_step HB4.out hb)
      clear hb
      go_wp2_with fail
      refine (HPK.out _ HB5.out).mono ?_
      rintro _ w6 ⟨rfl, hb⟩
      have HB6 := hide (below_step HB5.out hb)
      clear hb
      go_wp2_with fail
      refine (HP1.out _).mono ?_
      rintro _ w7 ⟨rfl, hb⟩
      have HB7 := hide (below_step HB6.out hb)
      clear hb
      go_wp2_with fail
      refine (HP2.out _).mono ?_
      rintro _ w8 ⟨rfl, hb⟩
      have HB8 := hide (below_step HB7.out hb)
      clear hb
      go_wp2
      go_ret
      exact ⟨rfl, HB8.out⟩
    · rw [en_plain hr hl] at HE
      obtain ⟨Q, hQ⟩ : ∃ Q, pkB t = Q := ⟨_, rfl⟩
      rw [hQ] at HPK hl
      have c6 : ¬ (Q.size : Int) < (t.size : Int) := by omega
      obtain ⟨P1, hP1⟩ : ∃ P1, plB m t = P1 := ⟨_, rfl⟩
      rw [hP1] at HP1 HE
      have HB := hide (Below.refl w.heap.size w)
      clear hI hE hP hK h1 c0 hr hkn hts hm hl hQ hP1 hJ hC ht3 HP2
      go_enter Tryd.func4, Tryd.ntmps4
      go_wp2_with fail
      refine (HI.out _ HB.out).mono ?_
      rintro _ w2 ⟨rfl, hb⟩
      have HB2 := hide hb
      clear hb
      go_wp2_with fail
      refine (HRI.out _).mono ?_
      rintro _ w3 ⟨rfl, hb⟩
      have HB3 := hide (below_step HB2.out hb)
      clear hb
      go_wp2_with fail
      refine (HE.out _ HB3.out).mono ?_
      rintro _ w4 ⟨rfl, hb⟩
      have HB4 := hide (below_step HB3.out hb)
      clear hb
      go_wp2_with fail
      refine (HRR.out _).mono ?_
      rintro _ _ ⟨rfl, rfl⟩
      go_wp2_with fail
      refine (HW.out _ HB4.out).mono ?_
      rintro _ w5 ⟨rfl, hb⟩
      have HB5 := hide (below_step HB4.out hb)
      clear hb
      go_wp2_with fail
      refine (HPK.out _ HB5.out).mono ?_
      rintro _ w6 ⟨rfl, hb⟩
      have HB6 := hide (below_step HB5.out hb)
      clear hb
      go_wp2_with fail
      refine (HP1.out _).mono ?_
      rintro _ w7 ⟨rfl, hb⟩
      have HB7 := hide (below_step HB6.out hb)
      clear hb
      go_wp2
      go_ret
      exact ⟨rfl, HB7.out⟩
  · have hen : enB k t = ⟨#[]⟩ := by rw [enB, if_neg hr]
    rw [hen] at HE
    have c4 : (rfC k t != 0) = true := by simpa using hr
    obtain ⟨R, hR⟩ : ∃ R, rfC k t = R := ⟨_, rfl⟩
    rw [hR] at HE HRR c4
    have HB := hide (Below.refl w.heap.size w)
    clear hI hE hP hK h1 hr hen hR hJ hC
    rcases c0 with d0 | ⟨d0, d1⟩
    all_goals
      go_enter Tryd.func4, Tryd.ntmps4
      go_wp2_with fail
      refine (HI.out _ HB.out).mono ?_
      rintro _ w2 ⟨rfl, hb⟩
      have HB2 := hide hb
      clear hb
      go_wp2_with fail
      refine (HRI.out _).mono ?_
      rintro _ w3 ⟨rfl, hb⟩
      have HB3 := hide (below_step HB2.out hb)
      clear hb
      go_wp2_with fail
      refine (HE.out _ HB3.out).mono ?_
      rintro _ w4 ⟨rfl, hb⟩
      have HB4 := hide (below_step HB3.out hb)
      clear hb
      go_wp2_with fail
      refine (HRR.out _).mono ?_
      rintro _ _ ⟨rfl, rfl⟩
      go_wp2_with fail
      refine (HW.out _ HB4.out).mono ?_
      rintro _ w5 ⟨rfl, hb⟩
      have HB5 := hide (below_step HB4.out hb)
      clear hb
      go_wp2
      go_ret
      exact ⟨rfl, HB5.out⟩
end
end Go.Proofs.YtgigiamnhjelmaaDoor

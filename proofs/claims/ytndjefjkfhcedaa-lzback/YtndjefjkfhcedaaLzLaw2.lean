/-
  Lz: the statement LzPacks, walked: over what the program's Bound, Pack and Unpack answer.
-/
import Derived.Test.YtndjefjkfhcedaaLzLaw1
namespace Go.Proofs.Ytndjefjkfhcedaa
open Go.RowKit Go.Lib
/-- A way to pack bytes, that is unpacked to them. -/
structure PackF (pk : ByteArray → ByteArray) : Prop where
  back : ∀ s : ByteArray, s.size ≤ 1048576 → ∃ l, ps (pk s) = some (l, s.size) ∧ (⟨(opn l []).toArray⟩ : ByteArray) = s
  size : ∀ s : ByteArray, s.size ≤ 1048576 → (pk s).size ≤ s.size + s.size / 255 + 16
def pkV (pk : ByteArray → ByteArray) (s : ByteArray) : Value := if s.size ≤ 1048576 then .tuple #[.string (pk s), .int .i64 0] else .tuple #[.string ⟨#[]⟩, .int .i64 2]
/-- What Pack of the program answers, where K holds. -/
def PackC (K : World → Prop) (pk : ByteArray → ByteArray) : Prop := ∀ (w : World) (s : ByteArray), K w → s.size ≤ 5000 ∨ 1048576 < s.size → s.size ≤ 4611686018427387904 → Calls Try.prog 17 #[.string s] w fun e w' => e = .returned (pkV pk s) ∧ Below w.heap.size w w'
/-- What Bound of the program answers, where K holds. -/
def BoundC (K : World → Prop) : Prop := ∀ (w : World) (n : Int), K w → Calls Try.prog 15 #[.int .i64 n] w fun e w' => e = .returned (bdA n) ∧ Below w.heap.size w w'
theorem bdA_is (n : Int) : ∃ a b : Int, bdA n = .tuple #[.int .i64 a, .int .i64 b] := by rw [bdA]; split; exact ⟨_, _, rfl⟩; exact ⟨_, _, rfl⟩
theorem PackF.up {pk : ByteArray → ByteArray} (h : PackF pk) {s : ByteArray} (hs : s.size ≤ 1048576) : upS (pk s) (s.size : Int) = s ∧ upC (pk s) (s.size : Int) = 0 := by
  obtain ⟨l, h1, h2⟩ := h.back s hs
  obtain ⟨a, b⟩ := up_ok (s := pk s) (n := (s.size : Int)) (by omega) h1 rfl
  exact ⟨a.trans h2, b⟩
section
variable {K : World → Prop} {pk : ByteArray → ByteArray}
set_option maxRecDepth 100000 in
set_option maxHeartbeats 1600000 in
theorem packs12 (hK : Kept K) (hF : PackF pk) (hU : UnpackC K) (hB : BoundC K) (hP : PackC K pk) {w : World} (hk : K w) (s : ByteArray) (n : Int) (hs : s.size ≤ 4611686018427387904) : Calls Try.prog 4 #[.string s, .int .i64 n] w fun e w' => e = .returned (.bool true) ∧ Below w.heap.size w w' := by
  have HW : Hid (∀ wx, Below w.heap.size w wx → Calls Try.prog 8 #[] wx fun e w' => e = .returned (.bool true) ∧ Below wx.heap.size wx w') := fun wx h => works12 hU (hK _ _ hk h)
  obtain ⟨ba, bb, hba⟩ := bdA_is n
  have HB1 := hide (hB w n hk)
  have HB2 : Hid (∀ wx, Calls Try.prog 16 #[.int .i64 n] wx fun e w' => e = .returned (.tuple #[.int .i64 ba, .int .i64 bb]) ∧ w' = wx) := fun wx => by rw [← hba]; exact rbound_any wx n
  rw [hba] at HB1
  by_cases h1 : 3000 < s.size ∧ s.size ≤ 1048576
  · have c1 : (3000 : Int) < (s.size : Int) := by omega
    have c2 : (s.size : Int) ≤ 1048576 := by omega
    have c3 : decide ((3000 : Int) < (s.size : Int)) = true := by simpa using c1
    have c4 : decide ((s.size : Int) ≤ 1048576) = true := by simpa using c2
    clear hU hK hB hP hF hba h1
    go_enter Try.func4, Try.ntmps4
    go_wp2_with fail
    refine HB1.out.mono ?_
    rintro _ w2 ⟨rfl, hb2⟩
    have HX2 := hide hb2
    clear hb2
    go_wp2_with fail
    refine (HB2.out w2).mono ?_
    rintro _ w3 ⟨rfl, hw3⟩
    subst hw3
    go_wp2_with fail
    refine (HW.out w3 HX2.out).mono ?_
    rintro _ w4 ⟨rfl, hb4⟩
    have HX4 := hide (below_step HX2.out hb4)
    clear hb4
    go_wp2
    go_ret
    exact ⟨rfl, HX4.out⟩
  have HPK : Hid (∀ wx, Below w.heap.size w wx → Calls Try.prog 17 #[.string s] wx fun e w' => e = .returned (pkV pk s) ∧ Below wx.heap.size wx w') := fun wx h => hP wx s (hK _ _ hk h) (by omega) hs
  by_cases h2 : s.size ≤ 1048576
  · have h3 : s.size ≤ 3000 := by omega
    obtain ⟨u1, u2⟩ := hF.up h2
    have hsz := hF.size s h2
    rw [pkV, if_pos h2] at HPK
    have HRU : Hid (∀ wx, Calls Try.prog 11 #[.string (pk s), .int .i64 (s.size : Int)] wx fun e w' => e = .returned (.tuple #[.string s, .int .i64 0]) ∧ Below wx.heap.size wx w') := fun wx => by
      have := runpack_any (w := wx) (s := pk s) (s.size : Int) (by omega)
      rw [u1, u2] at this
      exact this
    have HB3 : Hid (∀ wx, Calls Try.prog 16 #[.int .i64 (s.size : Int)] wx fun e w' => e = .returned (.tuple #[.int .i64 ((s.size : Int) + (s.size : Int) / 255 + 16), .int .i64 0]) ∧ w' = wx) := fun wx => by
      have := rbound_any wx (s.size : Int)
      rw [bdA, if_pos (by omega)] at this
      exact this
    obtain ⟨P, hPP⟩ : ∃ P, pk s = P := ⟨_, rfl⟩
    rw [hPP] at HPK HRU hsz
    obtain ⟨M, hM⟩ : ∃ M : Int, (s.size : Int) + (s.size : Int) / 255 + 16 = M := ⟨_, rfl⟩
    rw [hM] at HB3
    have d1 : (P.size : Int) ≤ M := by omega
    have d2 : decide ((P.size : Int) ≤ M) = true := by simpa using d1
    have c1 : ¬ (3000 : Int) < (s.size : Int) := by omega
    have c2 : ¬ (1048576 : Int) < (s.size : Int) := by omega
    have c3 : decide ((3000 : Int) < (s.size : Int)) = false := by simpa using c1
    clear hU hK hB hP hF hba h1 h2 u1 u2 hPP hM
    go_enter Try.func4, Try.ntmps4
    go_wp2_with fail
    refine HB1.out.mono ?_
    rintro _ w2 ⟨rfl, hb2⟩
    have HX2 := hide hb2
    clear hb2
    go_wp2_with fail
    refine (HB2.out w2).mono ?_
    rintro _ w3 ⟨rfl, hw3⟩
    subst hw3
    go_wp2_with fail
    refine (HW.out w3 HX2.out).mono ?_
    rintro _ w4 ⟨rfl, hb4⟩
    have HX4 := hide (below_step HX2.out hb4)
    clear hb4
    go_wp2_with fail
    refine (HPK.out w4 HX4.out).mono ?_
    rintro _ w5 ⟨rfl, hb5⟩
    have HX5 := hide (below_step HX4.out hb5)
    clear hb5
    go_wp2_with fail
    refine (HB3.out w5).mono ?_
    rintro _ w6 ⟨rfl, hw6⟩
    subst hw6
    go_wp2_with fail
    refine (HRU.out w6).mono ?_
    rintro _ w7 ⟨rfl, hb7⟩
    have HX7 := hide (below_step HX5.out hb7)
    clear hb7
    go_wp2_with fail
    refine (HPK.out w7 HX7.out).mono ?_
    rintro _ w8 ⟨rfl, hb8⟩
    have HX8 := hide (below_step HX7.out hb8)
    clear hb8
    go_wp2
    go_ret
    exact ⟨rfl, HX8.out⟩
  · rw [pkV, if_neg h2] at HPK
    have c1 : (3000 : Int) < (s.size : Int) := by omega
    have c2 : ¬ (s.size : Int) ≤ 1048576 := by omega
    have c5 : (1048576 : Int) < (s.size : Int) := by omega
    have c3 : decide ((3000 : Int) < (s.size : Int)) = true := by simpa using c1
    have c4 : decide ((s.size : Int) ≤ 1048576) = false := by simpa using c2
    clear hU hK hB hP hF hba h1 h2
    go_enter Try.func4, Try.ntmps4
    go_wp2_with fail
    refine HB1.out.mono ?_
    rintro _ w2 ⟨rfl, hb2⟩
    have HX2 := hide hb2
    clear hb2
    go_wp2_with fail
    refine (HB2.out w2).mono ?_
    rintro _ w3 ⟨rfl, hw3⟩
    subst hw3
    go_wp2_with fail
    refine (HW.out w3 HX2.out).mono ?_
    rintro _ w4 ⟨rfl, hb4⟩
    have HX4 := hide (below_step HX2.out hb4)
    clear hb4
    go_wp2_with fail
    refine (HPK.out w4 HX4.out).mono ?_
    rintro _ w5 ⟨rfl, hb5⟩
    have HX5 := hide (below_step HX4.out hb5)
    clear hb5
    go_wp2
    go_ret
    exact ⟨rfl, HX5.out⟩
end
end Go.Proofs.Ytndjefjkfhcedaa

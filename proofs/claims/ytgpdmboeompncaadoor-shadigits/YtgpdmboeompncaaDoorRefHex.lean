/-
  The contracts of the document's Hex, Unhex and IsId.
-/
import Derived.Test.YtgpdmboeompncaaDoorUnhex
namespace Go.Proofs.YtgpdmboeompncaaDoor
open Go.RowKit Go.Lib

theorem tdiv_hi (y : UInt8) : Int.tdiv (y.toNat : Int) 16 = (y.toNat : Int) / 16 := Int.tdiv_eq_ediv_of_nonneg (by omega)
theorem wrap_hi (y : UInt8) : IntKind.u8.wrap ((y.toNat : Int) / 16) = (y.toNat : Int) / 16 := by
  have h := y.toNat_lt
  exact wraps_u8 _ (by omega) (by omega)
theorem wrap_lo (y : UInt8) : IntKind.u8.wrap ((y.toNat : Int) % 16) = (y.toNat : Int) % 16 := by
  have h := y.toNat_lt
  exact wraps_u8 _ (by omega) (by omega)
theorem tmod_lo (y : UInt8) : Int.tmod (y.toNat : Int) 16 = (y.toNat : Int) % 16 := Int.tmod_eq_emod_of_nonneg (by omega)

set_option maxHeartbeats 800000 in
set_option maxRecDepth 100000 in
theorem refHex_any {w : World} (s : ByteArray) (hs : s.size ≤ 1000000) :
    Calls Tryd.prog 25 #[.string s] w fun e w' => e = .returned (.string (strOf (hexOf s.data.toList))) ∧ Below w.heap.size w w' := by
  obtain ⟨i0, hi, hz0, hz1, hz2⟩ := info_parts Tryd.info5
  go_enter Tryd.func25, Tryd.ntmps25
  go_wp2
  go_loopw [4, 5] (fun u i wr => ∃ j : Nat, j ≤ s.size ∧ i = .int .i64 j ∧ wr.ownsRow w.heap.size 5 1 u (hexOf (s.data.toList.take j)).length (byteCells (hexOf (s.data.toList.take j))) ∧ Below w.heap.size w wr)
    (fun _ i _ => s.size - (intOf i).toNat)
  case atStart => exact ⟨0, Nat.zero_le _, rfl, World.ownsRow_nil _ _ _ _, Below.refl _ _⟩
  case round =>
    obtain ⟨j, hj, rfl, hown, hb⟩ := hrel
    by_cases hlt : j < s.size
    · have hjl : j < s.data.toList.length := by rw [← Lib.size_eq]; exact hlt
      have HT : Hid _ := hexOf_take s.data.toList j hjl
      have hpl : (hexOf (s.data.toList.take j)).length ≤ 2000000 := by rw [hexOf_length, List.length_take]; omega
      have hix : ∀ w, (Instr.index 9 (.string s) (.int .i64 (j : Int))).run Tryd.prog w = .ok (.int .u8 (s.data.toList[j].toNat : Nat)) w := fun w => by
        rw [run_index_string w 9 s .i64 j Tryd.underlying9, dif_pos ⟨by omega, by omega⟩]
        rfl
      have hby := (s.data.toList[j]).toNat_lt
      have hd1 := index_hi (s.data.toList[j])
      have hd2 := index_lo (s.data.toList[j])
      have hq1 := tdiv_hi (s.data.toList[j])
      have hq2 := tmod_lo (s.data.toList[j])
      have hq3 := wrap_hi (s.data.toList[j])
      have hq4 := wrap_lo (s.data.toList[j])
      unfold digitsS at hd1 hd2
      unfold hexTwo at HT
      generalize s.data.toList[j] = y at *
      go_wp2
      go_region_held3 (fun _ => True) (trivial)
        (first | (refine step_append_own _ rfl (.tmp 12) (.tmp 25) 50 rfl w.heap.size 5 i0 (.int .u8 0) 1 1 Tryd.underlying50 hi hz0 hz1 hz2 rfl (by decide) _ _ _ rfl (by exact (hown.alloc _).drew) ⟨wr.heap.size, 0, none⟩ 2 2 [.int .u8 ((hexDig (y.toNat / 16)).toNat : Nat), .int .u8 ((hexDig (y.toNat % 16)).toNat : Nat)] (by simp [Act.eval]) rfl (cell_list_drew _ _ _) (by intro u hu; simp at hu; rcases hu with rfl | rfl <;> rfl) (by unfold maxLen; omega) (by omega) (by have := hb.size; simp; omega) ?_; intro v' w4 hown' hgrow _))
      all_goals
        have Q := rel_app (l := [hexDig (y.toNat / 16), hexDig (y.toNat % 16)]) rfl rfl hown hb hb.size hown' ⟨hgrow.os, hgrow.tape, hgrow.output, hgrow.size, hgrow.block⟩
        rw [← HT.out] at Q
        clear hown' hgrow hown hd1 hd2 hq1 hq2 hq3 hq4 hix
        go_wp2
        go_roundw
        case rel => exact ⟨j + 1, by omega, by go_num, Q.1, Q.2⟩
        case measure => simp [intOf]; omega
    · obtain rfl : j = s.size := by omega
      rw [show s.data.toList.take s.size = s.data.toList from List.take_of_length_le (by rw [← Lib.size_eq]; exact Nat.le_refl _)] at hown
      have hsr := run_string_of_own hown
      go_wp2
      go_ret
      exact ⟨rfl, hb⟩


/-- What the document's digit stands for; -1: it is none. -/
def digI (c : Nat) : Int := if digV c = 16 then -1 else ((digV c : Nat) : Int)

theorem refDigit_any (c : UInt8) (w : World) :
    Calls Tryd.prog 38 #[.int .u8 (c.toNat : Nat)] w fun e w' => e = .returned (.int .i64 (digI c.toNat)) ∧ w' = w := by
  have hc := c.toNat_lt
  generalize c.toNat = n at *
  by_cases h1 : 48 ≤ n ∧ n ≤ 57
  · have e : digI n = ((n - 48 : Nat) : Int) := by rw [digI, digV, if_pos h1, if_neg (by omega)]
    rw [e]
    obtain ⟨a, b⟩ := h1
    go_enter Tryd.func38, Tryd.ntmps38
    go_wp2
    go_ret
    exact ⟨by go_num, rfl⟩
  · by_cases h2 : 97 ≤ n ∧ n ≤ 102
    · have e : digI n = ((n - 87 : Nat) : Int) := by rw [digI, digV, if_neg h1, if_pos h2, if_neg (by omega)]
      rw [e]
      obtain ⟨a, b⟩ := h2
      go_enter Tryd.func38, Tryd.ntmps38
      go_wp2
      go_ret
      exact ⟨by go_num, rfl⟩
    · have e : digI n = -1 := by rw [digI, digV, if_neg h1, if_neg h2, if_pos rfl]
      rw [e]
      go_enter Tryd.func38, Tryd.ntmps38
      go_wp2
      all_goals
        go_ret
        exact ⟨rfl, rfl⟩

set_option maxHeartbeats 800000 in
set_option maxRecDepth 100000 in
theorem refUnhex_any {w : World} (s : ByteArray) (hs : s.size ≤ 1000000) :
    Calls Tryd.prog 23 #[.string s] w fun e w' => e = .returned (unhexV s.data.toList) ∧ Below w.heap.size w w' := by
  obtain ⟨i0, hi, hz0, hz1, hz2⟩ := info_parts Tryd.info5
  have hlen : s.data.toList.length = s.size := (Lib.size_eq s).symm
  by_cases hodd : s.size % 2 = 0
  · have he : ((s.size : Int) % 2 != 0) = false := by simp; omega
    have HL : Hid _ := hlen
    clear hlen
    go_enter Tryd.func23, Tryd.ntmps23
    go_wp2
    go_loopw [4, 5, 6, 7] (fun u i _ _ wr => ∃ (j : Nat) (pre : List UInt8), 2 * j ≤ s.size ∧ i = .int .i64 (2 * j : Nat) ∧ pre.length = j ∧ unhexL s.data.toList = (unhexL (s.data.toList.drop (2 * j))).map (pre ++ ·) ∧ wr.ownsRow w.heap.size 5 1 u pre.length (byteCells pre) ∧ Below w.heap.size w wr)
      (fun _ i _ _ _ => s.size - (intOf i).toNat)
    case atStart => exact ⟨0, [], by omega, rfl, rfl, by simp, World.ownsRow_nil _ _ _ _, Below.refl _ _⟩
    case round =>
      obtain ⟨j, pre, hj, rfl, hpl, heq, hown, hb⟩ := hrel
      have HE : Hid _ := heq
      have HP : Hid _ := hpl
      have hple : pre.length ≤ 1000000 := by omega
      clear heq hpl
      by_cases hlt : 2 * j < s.size
      · have hi0 : 2 * j < s.data.toList.length := by rw [HL.out]; exact hlt
        have hi1 : 2 * j + 1 < s.data.toList.length := by rw [HL.out]; omega
        have hx0 := index_at s (2 * j) hi0
        have hx1 := index_at s (2 * j + 1) hi1
        have HD : Hid _ := drop_two s.data.toList (2 * j) hi1
        generalize s.data.toList[2 * j] = a at *
        generalize s.data.toList[2 * j + 1] = b at *
        simp only [Int.natCast_add, Int.natCast_mul, Int.cast_ofNat_Int] at hx0 hx1
        clear hi0 hi1
        go_wp2
        go_quiet (first | (go_at_call 38; exact Calls.quiet_of_same (refDigit_any _ _)))
        clear hx0 hx1
        have hown1 : (wr.drewN nq).ownsRow w.heap.size 5 1 u4 pre.length (byteCells pre) := hown
        have hb1 := below_drew hb nq
        generalize wr.drewN nq = w1 at *
        clear hown hb
        have hxa := digV_le a.toNat
        have hxb := digV_le b.toNat
        have HX : Hid (unhexL (s.data.toList.drop (2 * j)) = if digV a.toNat = 16 ∨ digV b.toNat = 16 then none else (unhexL (s.data.toList.drop (2 * j + 2))).map fun l => (digV a.toNat * 16 + digV b.toNat).toUInt8 :: l) := by
          show unhexL (s.data.toList.drop (2 * j)) = _
          rw [HD.out, unhexL]
        have hIa : digI a.toNat = if digV a.toNat = 16 then -1 else ((digV a.toNat : Nat) : Int) := rfl
        have hIb : digI b.toNat = if digV b.toNat = 16 then -1 else ((digV b.toNat : Nat) : Int) := rfl
        generalize digI a.toNat = X at *
        generalize digI b.toNat = Y at *
        generalize digV a.toNat = x at *
        generalize digV b.toNat = y at *
        clear HD
        by_cases hbad : x = 16 ∨ y = 16
        · have HV : Hid (unhexV s.data.toList = .tuple #[.string ⟨#[]⟩, .int .i64 3]) := by
            show unhexV s.data.toList = _
            rw [unhexV, HE.out, HX.out, if_pos hbad]
            rfl
          by_cases hx16 : x = 16
          · rw [if_pos hx16] at hIa
            subst hIa
            go_wp2
            go_ret2
            exact ⟨by rw [HV.out]; rfl, hb1⟩
          · have hy16 : y = 16 := hbad.resolve_left hx16
            rw [if_neg hx16] at hIa
            rw [if_pos hy16] at hIb
            subst hIa hIb
            have hx' : decide ((x : Int) < 0) = false := by simp
            go_wp2
            go_ret2
            exact ⟨by rw [HV.out]; rfl, hb1⟩
        · have hx16 : x < 16 := by omega
          have hy16 : y < 16 := by omega
          rw [if_neg (by omega)] at hIa hIb
          subst hIa hIb
          have hx' : decide ((x : Int) < 0) = false := by simp
          have hy' : decide ((y : Int) < 0) = false := by simp
          rw [if_neg hbad] at HX
          clear hbad
          have hv : x * 16 + y < 256 := by omega
          obtain ⟨z, hz⟩ : ∃ z, z = x * 16 + y := ⟨_, rfl⟩
          have hor : 16 * (x : Int) + (y : Int) = (z : Int) := by omega
          rw [← hz] at HX hv
          have HZ : Hid _ := hz
          clear hz
          go_wp2_with (first | (at_builtin; refine wpList_append_own _ rfl (.tmp 33) (.tmp 39) 50 rfl w.heap.size 5 i0 (.int .u8 0) 1 1 Tryd.underlying50 hi hz0 hz1 hz2 rfl (by decide) _ _ _ rfl (hown1.alloc _) ⟨w1.heap.size, 0, none⟩ 1 1 [.int .u8 (z : Int)] rfl rfl (cell_list_new _ _ _) (by intro u hu; simp at hu; subst hu; rfl) (by unfold maxLen; omega) (by omega) (by have := hb1.size; simp; omega) ?_))
          intro v' w4 hown' hgrow _
          have Q := rel_app (l := [z.toUInt8]) rfl (by simp [byteCells, toUInt8_toNat hv]) hown1 hb1 hb1.size hown' hgrow
          clear hown' hgrow hown1 hor hx' hy'
          go_wp2
          go_roundw
          case rel =>
            refine ⟨j + 1, pre ++ [z.toUInt8], by omega, by go_num, by simp [HP.out], ?_, Q.1, Q.2⟩
            rw [HE.out, HX.out, show 2 * (j + 1) = 2 * j + 2 by omega, Option.map_map]
            congr 1
            funext l
            simp
          case measure => simp [intOf]; omega
      · have hjn : 2 * j = s.size := by omega
        have hall : unhexV s.data.toList = .tuple #[.string (strOf pre), .int .i64 0] := by
          rw [unhexV, HE.out, hjn, List.drop_of_length_le (by rw [HL.out]; exact Nat.le_refl _)]
          simp [unhexL]
        have hsr := run_string_of_own hown
        have HALL : Hid _ := hall
        clear hall hjn
        go_wp2
        go_ret2
        exact ⟨by rw [HALL.out]; rfl, hb⟩
  · have he : ((s.size : Int) % 2 != 0) = true := by simp; omega
    have hv : unhexV s.data.toList = .tuple #[.string ⟨#[]⟩, .int .i64 3] := by
      rw [unhexV, unhexL_odd (s.size / 2) _ (by omega)]
    rw [hv]
    go_enter Tryd.func23, Tryd.ntmps23
    go_wp2
    go_ret2
    exact ⟨rfl, Below.refl _ _⟩


theorem isIdB_any (u : ByteArray) (w : World) : Calls Tryd.prog 26 #[.string u] w fun e w' => e = .returned (.bool ((u.size : Int) == 32)) ∧ w' = w := by
  go_enter Tryd.func26, Tryd.ntmps26
  go_wp2
  go_ret
  exact ⟨rfl, rfl⟩
theorem refIsId_any (u : ByteArray) (w : World) : Calls Tryd.prog 27 #[.string u] w fun e w' => e = .returned (.bool ((u.size : Int) == 32)) ∧ w' = w := by
  go_enter Tryd.func27, Tryd.ntmps27
  go_wp2
  go_ret
  exact ⟨rfl, rfl⟩
end Go.Proofs.YtgpdmboeompncaaDoor

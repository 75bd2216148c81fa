/-
  The walk of the statement 'there and back' on digits.
-/
import Derived.Test.YtgpdmboeompncaaDoorBack
import Derived.Test.YtgpdmboeompncaaDoorRoots
import Derived.Test.YtgpdmboeompncaaDoorWorks
namespace Go.Proofs.YtgpdmboeompncaaDoor
open Go.RowKit Go.Lib

theorem strOf_self (s : ByteArray) : strOf s.data.toList = s := by simp [strOf]

/-- The digits of a text, one of them turned. -/
theorem turned_bad (l : List UInt8) (k : Nat) (c : UInt8) (hk : k < (hexOf l).length) (hc : digV c.toNat = 16) : unhexL ((hexOf l).set k c) = none :=
  unhex_bad l.length _ (by rw [List.length_set, hexOf_length]) ⟨c, List.mem_set hk c, hc⟩
theorem turned_good (l : List UInt8) (k : Nat) (c : UInt8) (hc : digV c.toNat ≠ 16) : ∃ T, unhexL ((hexOf l).set k c) = some T ∧ hexOf T = (hexOf l).set k c ∧ T.length = l.length := by
  have hlen : ((hexOf l).set k c).length = 2 * l.length := by rw [List.length_set, hexOf_length]
  obtain ⟨T, h1, h2⟩ := unhex_good l.length ((hexOf l).set k c) hlen (fun x hx => by
    rcases List.mem_or_eq_of_mem_set hx with h | rfl
    · exact hexOf_digits l x h
    · exact hc)
  have := unhexL_some _ _ _ (Nat.le_refl _) h1
  exact ⟨T, h1, h2, by omega⟩
theorem cut_bad (l : List UInt8) (h : 0 < l.length) : unhexL ((hexOf l).drop 1) = none :=
  unhexL_odd (l.length - 1) _ (by rw [List.length_drop, hexOf_length]; omega)

theorem unhexV_some {l r : List UInt8} (h : unhexL l = some r) : unhexV l = .tuple #[.string (strOf r), .int .i64 0] := by rw [unhexV, h]
theorem unhexV_none {l : List UInt8} (h : unhexL l = none) : unhexV l = .tuple #[.string ⟨#[]⟩, .int .i64 3] := by rw [unhexV, h]

set_option maxHeartbeats 1600000 in
set_option maxRecDepth 100000 in
theorem back_walk (s : ByteArray) (at' : Int) (c : UInt8) {w : World} (hL : Laid w) (hat : -9223372036854775808 ≤ at' ∧ at' ≤ 9223372036854775807) (hs : s.size ≤ 140737488355328) :
    Calls Tryd.prog 8 #[.string s, .int .i64 at', .int .u8 (c.toNat : Nat)] w fun e w' => e = .returned (.bool true) ∧ Below w.heap.size w w' := by
  by_cases h1000 : 1000 < s.size
  · go_enter Tryd.func8, Tryd.ntmps8
    go_wp2_with fail
    refine (works_any hL).mono ?_
    rintro e w1 ⟨rfl, hb1⟩
    go_wp2
    go_ret
    exact ⟨rfl, hb1⟩
  by_cases h0 : s.size = 0
  · have hse : s.toList.isEmpty = true := by
      rw [Go.ByteArray.toList_eq, List.eq_nil_of_length_eq_zero (show s.data.toList.length = 0 by rw [← Lib.size_eq]; exact h0)]
      rfl
    go_enter Tryd.func8, Tryd.ntmps8
    go_wp2_with fail
    refine (works_any hL).mono ?_
    rintro e w1 ⟨rfl, hb1⟩
    go_wp2
    go_ret
    exact ⟨rfl, hb1⟩
  have hse : s.toList.isEmpty = false := by
    rw [Go.ByteArray.toList_eq, List.isEmpty_eq_false_iff]
    intro e
    rw [Lib.size_eq, e] at h0
    exact h0 rfl
  have hlen : s.data.toList.length = s.size := (Lib.size_eq s).symm
  obtain ⟨l, hl⟩ : ∃ l, l = s.data.toList := ⟨_, rfl⟩
  have hself : strOf l = s := by rw [hl]; exact strOf_self s
  rw [← hl] at hlen
  go_enter Tryd.func8, Tryd.ntmps8
  go_wp2_with fail
  refine (works_any hL).mono ?_
  rintro e w1 ⟨rfl, hb1⟩
  go_wp2_with fail
  refine (hex_any s (by omega)).mono ?_
  rw [← hl]
  rintro e w2 ⟨rfl, hb2⟩
  have HS : Hid _ := hself
  have HL : Hid _ := hl
  clear hl hself
  go_wp2_with fail
  refine (unhex_any _ (by rw [strOf_size, hexOf_length]; omega)).mono ?_
  rw [strOf_toList, unhexV_some (unhex_hex l), HS.out]
  rintro e w3 ⟨rfl, hb3⟩
  obtain ⟨d, hd⟩ : ∃ d, d = strOf (hexOf l) := ⟨_, rfl⟩
  have hdl : d.data.toList = hexOf l := by rw [hd, strOf_toList]
  have hdz : d.size = 2 * l.length := by rw [hd, strOf_size, hexOf_length]
  have hd1 : 1 ≤ d.size := by omega
  have hd2 : d.size ≤ 2000 := by omega
  rw [← hd]
  have HD : Hid _ := hd
  have HDL : Hid _ := hdl
  have HDZ : Hid _ := hdz
  have HLN : Hid _ := hlen
  clear hd hdl hdz hlen
  go_wp2_with fail
  have hcut : (d.extract 1 d.size).size ≤ 1000000 := by rw [ByteArray.size_extract]; omega
  refine (unhex_any _ hcut).mono ?_
  rw [toList_rest, HDL.out, unhexV_none (cut_bad l (by rw [HLN.out]; omega))]
  rintro e w4 ⟨rfl, hb4⟩
  obtain ⟨cap, w5, hcv, hbr, hb5⟩ := bytes_new w4 (hexOf l)
  rw [← HD.out, show (hexOf l).length = d.size by rw [HDZ.out, hexOf_length]] at hcv
  clear hcut
  go_wp2_with fail
  have hkn : 1 ≤ (d.size : Int) ∧ (d.size : Int) ≤ 1000000 := ⟨by omega, by omega⟩
  refine (among_any at' d.size _ hat hkn).mono ?_
  obtain ⟨k, hk, hkd⟩ : ∃ k : Nat, at' % (d.size : Int) = (k : Int) ∧ k < d.size := by
    have e1 := Int.emod_nonneg at' (show (d.size : Int) ≠ 0 by omega)
    have e2 := Int.emod_lt_of_pos at' (show 0 < (d.size : Int) by omega)
    exact ⟨(at' % d.size).toNat, by omega, by omega⟩
  rw [hk]
  rintro e w6 ⟨rfl, rfl⟩
  have hkl : k < (hexOf l).length := by rw [hexOf_length, ← HDZ.out]; exact hkd
  have ck := hbr.cell k hkl
  have fk := hbr.free k hkl
  have hbr2 := hbr.set k c hkl
  have hb6 : Below w4.heap.size w4 (w6.setCell ⟨w4.heap.size, k, none⟩ (.int .u8 (c.toNat : Nat))) := hb5.setCell (Nat.le_refl _) _
  have hstr := hbr2.str cap
  rw [List.length_set, show (hexOf l).length = d.size by rw [HDZ.out, hexOf_length]] at hstr
  have b0 : (0 : Int) ≤ (k : Int) := by omega
  have b1 : (k : Int) < (d.size : Int) := by omega
  clear hkn hk hat hcv hb5
  go_wp2_with fail
  have hz : (hexOf l).length ≤ 2000 := by rw [hexOf_length, ← HDZ.out]; exact hd2
  refine (unhex_any _ (by rw [strOf_size, List.length_set]; omega)).mono ?_
  rw [strOf_toList]
  have hbw : Below w.heap.size w (w6.setCell ⟨w4.heap.size, k, none⟩ (.int .u8 (c.toNat : Nat))) := by
    have z1 := hb1.size
    have z2 := hb2.size
    have z3 := hb3.size
    have z4 := hb4.size
    exact (((hb1.trans (hb2.mono z1)).trans (hb3.mono (by omega))).trans (hb4.mono (by omega))).trans (hb6.mono (by omega))
  have hlt4 := hbr2.lt
  generalize w6.setCell ⟨w4.heap.size, k, none⟩ (.int .u8 (c.toNat : Nat)) = w7 at *
  clear hb1 hb2 hb3 hb4 hb6 hbr ck fk b0 b1
  by_cases hc : digV c.toNat = 16
  · rw [unhexV_none (turned_bad l k c hkl hc)]
    rintro e w8 ⟨rfl, hb8⟩
    have hfin := hbw.trans (hb8.mono hbw.size)
    have hcl : c.toNat < 48 ∨ (57 < c.toNat ∧ c.toNat < 97) ∨ 102 < c.toNat := by
      by_cases g1 : 48 ≤ c.toNat ∧ c.toNat ≤ 57
      · rw [digV, if_pos g1] at hc; omega
      · by_cases g2 : 97 ≤ c.toNat ∧ c.toNat ≤ 102
        · rw [digV, if_neg g1, if_pos g2] at hc; omega
        · omega
    clear hstr hbr2 hbw hb8
    rcases hcl with hcl | ⟨hcl, hcl2⟩ | hcl
    · go_wp2
      go_quiet (fail)
      go_wp2
      go_ret
      exact ⟨rfl, below_drew hfin _⟩
    · have d1 : decide ((c.toNat : Int) ≤ 57) = false := by simp; omega
      have d2 : decide (97 ≤ (c.toNat : Int)) = false := by simp; omega
      go_wp2
      go_quiet (fail)
      go_wp2
      go_ret
      exact ⟨rfl, below_drew hfin _⟩
    · have d1 : decide ((c.toNat : Int) ≤ 57) = false := by simp; omega
      have d2 : decide ((c.toNat : Int) ≤ 102) = false := by simp; omega
      go_wp2
      go_quiet (fail)
      go_wp2
      go_ret
      exact ⟨rfl, below_drew hfin _⟩
  · obtain ⟨T, hT, hTX, hTl⟩ := turned_good l k c hc
    rw [unhexV_some hT]
    rintro e w8 ⟨rfl, hb8⟩
    have hfin := hbw.trans (hb8.mono hbw.size)
    have hcl : (48 ≤ c.toNat ∧ c.toNat ≤ 57) ∨ (97 ≤ c.toNat ∧ c.toNat ≤ 102) := by
      by_cases g1 : 48 ≤ c.toNat ∧ c.toNat ≤ 57
      · exact .inl g1
      · by_cases g2 : 97 ≤ c.toNat ∧ c.toNat ≤ 102
        · exact .inr g2
        · exact absurd (by rw [digV, if_neg g1, if_neg g2]) hc
    have hbr8 := hbr2.below hb8 hlt4
    have hlt8 := hbr8.lt
    have HX : Hid (∀ w' : World, BRow w' w4.heap.size ((hexOf l).set k c) → (convert 50 9 (.slice (some ⟨w4.heap.size, 0, none⟩) d.size cap)).run Tryd.prog w' = .ok (.string (strOf ((hexOf l).set k c))) w') := fun w' h => by
      have := h.str cap
      rwa [List.length_set, show (hexOf l).length = d.size by rw [HDZ.out, hexOf_length]] at this
    have hTz : (strOf T).size ≤ 1000000 := by rw [strOf_size, hTl, HLN.out]; omega
    have HT : Hid (hexOf (strOf T).data.toList = (hexOf l).set k c) := by
      show hexOf (strOf T).data.toList = _
      rw [strOf_toList, hTX]
    clear hstr hbr2 hbw hb8 hT hTX hTl
    generalize (hexOf l).set k c = X at *
    generalize strOf T = U at *
    rcases hcl with ⟨hcl, hcl2⟩ | ⟨hcl, hcl2⟩
    · have d0 : decide (48 ≤ (c.toNat : Int)) = true := by simp; omega
      have d1 : decide ((c.toNat : Int) ≤ 57) = true := by simp; omega
      go_wp2
      go_region_held3 (fun w' => (convert 50 9 (.slice (some ⟨w4.heap.size, 0, none⟩) d.size cap)).run Tryd.prog w' = .ok (.string (strOf X)) w') (first | exact HX.out _ hbr9 | exact HX.out _ (by exact hbr8))
        (first | (go_at_call 24; refine (hex_any U hTz).mono ?_; rw [HT.out]; rintro e w9 ⟨rfl, hb9⟩; have hbr9 := BRow.below (by exact hbr8) hb9 hlt8))
      all_goals
        go_wp2
        go_ret
        exact ⟨rfl, hfin.drew.trans (hb9.mono hfin.size)⟩
    · have d0 : decide (48 ≤ (c.toNat : Int)) = true := by simp; omega
      have d1 : decide ((c.toNat : Int) ≤ 57) = false := by simp; omega
      have d2 : decide (97 ≤ (c.toNat : Int)) = true := by simp; omega
      have d3 : decide ((c.toNat : Int) ≤ 102) = true := by simp; omega
      go_wp2
      go_region_held3 (fun w' => (convert 50 9 (.slice (some ⟨w4.heap.size, 0, none⟩) d.size cap)).run Tryd.prog w' = .ok (.string (strOf X)) w') (first | exact HX.out _ hbr9 | exact HX.out _ (by exact hbr8))
        (first | (go_at_call 24; refine (hex_any U hTz).mono ?_; rw [HT.out]; rintro e w9 ⟨rfl, hb9⟩; have hbr9 := BRow.below (by exact hbr8) hb9 hlt8))
      all_goals
        go_wp2
        go_ret
        exact ⟨rfl, hfin.drew.trans (hb9.mono hfin.size)⟩

end Go.Proofs.YtgpdmboeompncaaDoor

/-
  The contract of the document's own reader at texts.
-/
import Derived.Test.YtifbcmcefggofaaRef3
namespace Go.Proofs.Ytifbcmcefggofaa
open Go.RowKit Go.Lib

theorem refShort_bad {w : World} {b : Nat} {s : ByteArray} {p : Nat} {x c : Int} (most : Int) (hr : Rd 34 w b s p x) (hp : p ≤ s.size) (hs : s.size ≤ 140737488355328) (h : asked x (shortA s p most) = .bad c) :
    Calls Try.prog 29 #[.pointer (some ⟨b, 0, none⟩), .int .i64 most] w fun e w' => e = .returned (.int .i64 0) ∧ Rd 34 w' b s p c ∧ w.grownBy w' (some b) := by
  have hc := refShort_r most hr hp hs
  rw [h] at hc
  exact hc
theorem refShort_ok {w : World} {b : Nat} {s : ByteArray} {p : Nat} (most : Int) (hr : Rd 34 w b s p 0) (hp : p ≤ s.size) (hs : s.size ≤ 140737488355328) (num long : Nat) (h : shortA s p most = ⟨num, ⟨#[]⟩, long, 0⟩) :
    Calls Try.prog 29 #[.pointer (some ⟨b, 0, none⟩), .int .i64 most] w fun e w' => e = .returned (.int .i64 num) ∧ Rd 34 w' b s (p + long) 0 ∧ w.grownBy w' (some b) := by
  have hc := refShort_r most hr hp hs
  rw [asked_zero, h] at hc
  exact hc

set_option maxRecDepth 100000 in
theorem refText_bad {w : World} {b : Nat} {s : ByteArray} {p : Nat} {x c : Int} (most : Int) (hr : Rd 34 w b s p x) (hp : p ≤ s.size) (hs : s.size ≤ 140737488355328) (hc : ¬ c = 0) (h : asked x (shortA s p most) = .bad c) :
    Calls Try.prog 30 #[.pointer (some ⟨b, 0, none⟩), .int .i64 most] w fun e w' => e = .returned (.string ⟨#[]⟩) ∧ Rd 34 w' b s p c ∧ w.grownBy w' (some b) := by
  have hcb : (c != 0) = true := by simpa using hc
  have HC : Hid (¬ c = 0) := hc
  have HH : Hid (asked x (shortA s p most) = .bad c) := h
  clear hc h
  have c1 := hr.cell1
  go_enter Try.func30, Try.ntmps30
  go_wp2_with fail
  refine (refShort_bad most hr hp hs HH.out).mono ?_
  rintro e w1 ⟨rfl, hr1, hg1⟩
  go_wp2_with fail
  refine (refBytes_err 0 hr1 HC.out hp hs (by omega)).mono ?_
  rintro e w2 ⟨rfl, hr2, hg2⟩
  have d1 := hr2.cell1
  have d2 := hr2.cell2
  have e1 := hr2.free 1
  have R := hr2.set1 p
  go_wp2
  go_ret
  exact ⟨rfl, R, gb_trans (gb_trans hg1 hg2) (gb_set _ _ _ _)⟩

set_option maxRecDepth 100000 in
theorem refText_r {w : World} {b : Nat} {s : ByteArray} {p : Nat} {x : Int} (most : Int) (hr : Rd 34 w b s p x) (hp : p ≤ s.size) (hs : s.size ≤ 140737488355328) :
    Calls Try.prog 30 #[.pointer (some ⟨b, 0, none⟩), .int .i64 most] w fun e w' => e = .returned (.string (asked x (textA s p most)).txt) ∧ Rd 34 w' b s (p + (asked x (textA s p most)).long) (asked x (textA s p most)).code ∧ w.grownBy w' (some b) := by
  by_cases hx : x = 0
  · subst hx
    rw [asked_zero]
    rcases shortA_cases s p most hp with ⟨c, hc0, hbad⟩ | ⟨num, long, hok, hlong, hnum, _⟩
    · rw [show textA s p most = .bad c from by unfold textA; rw [hbad, if_pos (show (Ah.bad c).code ≠ 0 from hc0)]; rfl]
      exact refText_bad most hr hp hs hc0 hbad
    · have ht : textA s p most = if (s.size : Int) - p - long < num then .bad 10 else ⟨0, s.extract (p + long) (p + long + num), long + num, 0⟩ := by
        unfold textA; rw [hok]; rfl
      have c1 := hr.cell1
      by_cases hlt : (s.size : Int) - p - long < num
      · rw [ht, if_pos hlt]
        clear ht
        show Calls _ _ _ _ fun e w' => e = .returned (.string ⟨#[]⟩) ∧ Rd 34 w' b s p 10 ∧ _
        have HO : Hid (shortA s p most = ⟨num, ⟨#[]⟩, long, 0⟩) := hok
        clear hok
        go_enter Try.func30, Try.ntmps30
        go_wp2_with fail
        refine (refShort_ok most hr hp hs num long HO.out).mono ?_
        rintro e w1 ⟨rfl, hr1, hg1⟩
        go_wp2_with fail
        refine (refBytes_short num hr1 hlong hs (by omega) (by omega)).mono ?_
        rintro e w2 ⟨rfl, hr2, hg2⟩
        have d1 := hr2.cell1
        have d2 := hr2.cell2
        have e1 := hr2.free 1
        have R := hr2.set1 p
        go_wp2
        go_ret
        exact ⟨rfl, R, gb_trans (gb_trans hg1 hg2) (gb_set _ _ _ _)⟩
      · rw [ht, if_neg hlt]
        clear ht
        show Calls _ _ _ _ fun e w' => e = .returned (.string (s.extract (p + long) (p + long + num))) ∧ Rd 34 w' b s (p + (long + num)) 0 ∧ _
        rw [← Nat.add_assoc p long num]
        have HO : Hid (shortA s p most = ⟨num, ⟨#[]⟩, long, 0⟩) := hok
        clear hok
        go_enter Try.func30, Try.ntmps30
        go_wp2_with fail
        refine (refShort_ok most hr hp hs num long HO.out).mono ?_
        rintro e w1 ⟨rfl, hr1, hg1⟩
        go_wp2_with fail
        refine (refBytes_ok num hr1 (by omega) hs).mono ?_
        rintro e w2 ⟨rfl, hr2, hg2⟩
        have d2 := hr2.cell2
        go_wp2
        go_ret
        exact ⟨rfl, hr2, gb_trans hg1 hg2⟩
  · rw [asked_some hx]
    exact refText_bad most hr hp hs hx (asked_some hx _)

theorem tmod_six (k : Int) (h1 : -9223372036854775808 ≤ k) (h2 : k ≤ 9223372036854775807) : (wrap64 (k.tmod 6 + 6)).tmod 6 = k % 6 := by
  by_cases h : 0 ≤ k
  · rw [Int.tmod_eq_emod_of_nonneg h, IntWalk.wrap64_in _ ⟨by omega, by omega⟩, Int.tmod_eq_emod_of_nonneg (by omega)]
    omega
  · obtain ⟨m, rfl⟩ : ∃ m, k = -m := ⟨-k, by omega⟩
    rw [Int.neg_tmod, Int.tmod_eq_emod_of_nonneg (show 0 ≤ m by omega), IntWalk.wrap64_in _ ⟨by omega, by omega⟩, Int.tmod_eq_emod_of_nonneg (by omega)]
    omega

theorem among_six (k : Int) (w : World) (h : -9223372036854775808 ≤ k ∧ k ≤ 9223372036854775807) :
    Calls Try.prog 20 #[.int .i64 k, .int .i64 6] w fun e w' => e = .returned (.int .i64 (k % 6)) ∧ w' = w := by
  have hm := tmod_six k h.1 h.2
  have HM : Hid ((wrap64 (k.tmod 6 + 6)).tmod 6 = k % 6) := hm
  clear hm h
  go_enter Try.func20, Try.ntmps20
  go_wp2
  go_ret
  exact ⟨congrArg (fun z => Ending.returned (Value.int IntKind.i64 z)) HM.out, rfl⟩

end Go.Proofs.Ytifbcmcefggofaa

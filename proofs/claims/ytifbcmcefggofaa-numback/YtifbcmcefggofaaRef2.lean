/-
  The contracts of the document's own reader: fixed numbers, short numbers, texts.
-/
import Derived.Test.YtifbcmcefggofaaRef
namespace Go.Proofs.Ytifbcmcefggofaa
open Go.RowKit Go.Lib

set_option maxRecDepth 100000 in
theorem num_any (t : ByteArray) (w : World) (ht : t.size ≤ 7) :
    Calls Try.prog 39 #[.string t] w fun e w' => e = .returned (.int .i64 (numOf t.data.toList : Nat)) ∧ w' = w := by
  go_enter Try.func39, Try.ntmps39
  go_wp2
  go_loop [3, 4] (fun n i => ∃ j : Nat, j ≤ t.size ∧ i = .int .i64 j ∧ n = .int .i64 (numOf (t.data.toList.take j) : Nat)) (fun _ i => t.size - (intOf i).toNat)
  case atStart => exact ⟨0, Nat.zero_le _, rfl, rfl⟩
  case round =>
    obtain ⟨j, hj, rfl, rfl⟩ := hrel
    by_cases hlt : j < t.size
    · have hb : numOf (t.data.toList.take j) < 281474976710656 := numOf_take_lt t j 6 (by omega)
      have hc : t[j].toNat < 256 := t[j].toNat_lt
      have HN : Hid (numOf (t.data.toList.take (j + 1)) = numOf (t.data.toList.take j) * 256 + t[j].toNat) := numOf_take t j hlt
      go_wp2
      go_round
      case rel => exact ⟨j + 1, by omega, by go_num, by rw [HN.out]; simp⟩
      case measure => simp [intOf]; omega
    · have hjk : j = t.size := by omega
      have hN : numOf (t.data.toList.take j) = numOf t.data.toList := by rw [take_all t j hjk.symm]
      rw [hN]
      clear hN hjk
      go_wp2
      go_ret
      exact ⟨rfl, rfl⟩

theorem num_empty (w : World) : Calls Try.prog 39 #[.string ⟨#[]⟩] w fun e w' => e = .returned (.int .i64 0) ∧ w' = w := num_any ⟨#[]⟩ w (by decide)

theorem refBytes_err {w : World} {b : Nat} {s : ByteArray} {p : Nat} {x : Int} (n : Int) (hr : Rd 34 w b s p x) (hx : ¬ x = 0) (hp : p ≤ s.size) (hs : s.size ≤ 140737488355328) (hn : n ≤ 9223372036854775807) :
    Calls Try.prog 31 #[.pointer (some ⟨b, 0, none⟩), .int .i64 n] w fun e w' => e = .returned (.string ⟨#[]⟩) ∧ Rd 34 w' b s p x ∧ w.grownBy w' (some b) := by
  have h := refBytes_any n hr hp hs hn
  rw [asked_some hx] at h
  exact h
theorem refBytes_short {w : World} {b : Nat} {s : ByteArray} {p : Nat} (k : Nat) (hr : Rd 34 w b s p 0) (hp : p ≤ s.size) (hs : s.size ≤ 140737488355328) (hn : (k : Int) ≤ 9223372036854775807) (hlt : (s.size : Int) - p < k) :
    Calls Try.prog 31 #[.pointer (some ⟨b, 0, none⟩), .int .i64 k] w fun e w' => e = .returned (.string ⟨#[]⟩) ∧ Rd 34 w' b s p 10 ∧ w.grownBy w' (some b) := by
  have h := refBytes_any k hr hp hs hn
  rw [asked_zero, show bytesA s p k = .bad 10 from by unfold bytesA; rw [if_neg (by omega), if_pos hlt]] at h
  exact h
theorem refBytes_ok {w : World} {b : Nat} {s : ByteArray} {p : Nat} (k : Nat) (hr : Rd 34 w b s p 0) (hp : p + k ≤ s.size) (hs : s.size ≤ 140737488355328) :
    Calls Try.prog 31 #[.pointer (some ⟨b, 0, none⟩), .int .i64 k] w fun e w' => e = .returned (.string (s.extract p (p + k))) ∧ Rd 34 w' b s (p + k) 0 ∧ w.grownBy w' (some b) := by
  have h := refBytes_any k hr (by omega) hs (by omega)
  rw [asked_zero, show bytesA s p k = ⟨0, s.extract p (p + k), k, 0⟩ from by unfold bytesA; rw [if_neg (by omega), if_neg (by omega)]; simp] at h
  exact h

set_option maxRecDepth 100000 in
set_option maxHeartbeats 400000 in
theorem refFixed_r {w : World} {b : Nat} {s : ByteArray} {p : Nat} {x : Int} (n : Int) (hr : Rd 34 w b s p x) (hp : p ≤ s.size) (hs : s.size ≤ 140737488355328) (hn : n ≤ 9223372036854775807) :
    Calls Try.prog 28 #[.pointer (some ⟨b, 0, none⟩), .int .i64 n] w fun e w' => e = .returned (.int .i64 (asked x (fixedA s p n)).num) ∧ Rd 34 w' b s (p + (asked x (fixedA s p n)).long) (asked x (fixedA s p n)).code ∧ w.grownBy w' (some b) := by
  have c2 := hr.cell2
  have f2 := hr.free 2
  by_cases hx : x = 0
  · subst hx
    rw [asked_zero]
    by_cases h17 : n < 1 ∨ 7 < n
    · rw [show fixedA s p n = .bad 1 from if_pos h17]
      show Calls _ _ _ _ fun e w' => e = .returned (.int .i64 0) ∧ Rd 34 w' b s p 1 ∧ _
      have R := hr.set2 1
      rcases h17 with h1 | h1
      all_goals
        go_enter Try.func28, Try.ntmps28
        go_wp2_with fail
        refine (refBytes_err n R (by decide) hp hs hn).mono ?_
        rintro e w1 ⟨rfl, hr1, hg1⟩
        go_wp2_with fail
        refine (num_empty _).mono ?_
        rintro e w2 ⟨rfl, rfl⟩
        go_wp2
        go_ret
        exact ⟨rfl, hr1, gb_trans (gb_set _ _ _ _) hg1⟩
    have h1 : ¬ n < 1 := fun h => h17 (.inl h)
    have h7 : ¬ 7 < n := fun h => h17 (.inr h)
    clear h17
    obtain ⟨k, rfl⟩ := Int.eq_ofNat_of_zero_le (show 0 ≤ n by omega)
    by_cases h2 : (s.size : Int) - p < k
    · rw [show fixedA s p k = .bad 10 from by unfold fixedA; rw [if_neg (by omega), if_pos h2]]
      show Calls _ _ _ _ fun e w' => e = .returned (.int .i64 0) ∧ Rd 34 w' b s p 10 ∧ _
      go_enter Try.func28, Try.ntmps28
      go_wp2_with fail
      refine (refBytes_short k hr hp hs hn h2).mono ?_
      rintro e w1 ⟨rfl, hr1, hg1⟩
      go_wp2_with fail
      refine (num_empty _).mono ?_
      rintro e w2 ⟨rfl, rfl⟩
      go_wp2
      go_ret
      exact ⟨rfl, hr1, hg1⟩
    · have hk : p + k ≤ s.size := by omega
      rw [show fixedA s p k = ⟨numOf (s.extract p (p + k)).data.toList, ⟨#[]⟩, k, 0⟩ from by unfold fixedA; rw [if_neg (by omega), if_neg h2]; simp]
      have ht : (s.extract p (p + k)).size ≤ 7 := by simp; omega
      have hnum := fun w => num_any (s.extract p (p + k)) w ht
      generalize numOf (s.extract p (p + k)).data.toList = M at *
      have HN : Hid (∀ w, Calls Try.prog 39 #[.string (s.extract p (p + k))] w fun e w' => e = .returned (.int .i64 M) ∧ w' = w) := hnum
      clear hnum
      show Calls _ _ _ _ fun e w' => e = .returned (.int .i64 M) ∧ Rd 34 w' b s (p + k) 0 ∧ _
      go_enter Try.func28, Try.ntmps28
      go_wp2_with fail
      refine (refBytes_ok k hr hk hs).mono ?_
      rintro e w1 ⟨rfl, hr1, hg1⟩
      go_wp2_with fail
      refine (HN.out _).mono ?_
      rintro e w2 ⟨rfl, rfl⟩
      go_wp2
      go_ret
      exact ⟨rfl, hr1, hg1⟩
  · rw [asked_some hx]
    show Calls _ _ _ _ fun e w' => e = .returned (.int .i64 0) ∧ Rd 34 w' b s p x ∧ _
    have hcb : (x == 0) = false := by simpa using hx
    have HX : Hid (¬ x = 0) := hx
    clear hx
    go_enter Try.func28, Try.ntmps28
    go_wp2_with fail
    refine (refBytes_err n hr HX.out hp hs hn).mono ?_
    rintro e w1 ⟨rfl, hr1, hg1⟩
    go_wp2_with fail
    refine (num_empty _).mono ?_
    rintro e w2 ⟨rfl, rfl⟩
    go_wp2
    go_ret
    exact ⟨rfl, hr1, hg1⟩

end Go.Proofs.Ytifbcmcefggofaa

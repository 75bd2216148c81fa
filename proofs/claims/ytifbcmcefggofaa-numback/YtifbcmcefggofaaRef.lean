/-
  The contracts of the document's own reader.
-/
import Derived.Test.YtifbcmcefggofaaAsk2
namespace Go.Proofs.Ytifbcmcefggofaa
open Go.RowKit Go.Lib

theorem refLeft_any {w : World} {b : Nat} {s : ByteArray} {p : Nat} {x : Int} (h : Rd 34 w b s p x) (hp : p ≤ s.size) (hs : s.size ≤ 140737488355328) :
    Calls Try.prog 18 #[.pointer (some ⟨b, 0, none⟩)] w fun e w' => e = .returned (.int .i64 ((s.size : Int) - p)) ∧ ∃ n, w' = w.drewN n := by
  have c0 := h.cell0
  have c1 := h.cell1
  go_enter Try.func18, Try.ntmps18
  go_wp2
  go_quiet (fail)
  go_wp2
  go_ret
  exact ⟨rfl, _, rfl⟩

theorem refFail_any {w : World} {b : Nat} {s : ByteArray} {p : Nat} {x : Int} (y : Int) (hr : Rd 34 w b s p x) :
    Calls Try.prog 32 #[.pointer (some ⟨b, 0, none⟩), .int .i64 y] w fun e w' => e = .returned (.tuple #[]) ∧ Rd 34 w' b s p (failed x y) ∧ w.grownBy w' (some b) := by
  have c2 := hr.cell2
  have f2 := hr.free 2
  by_cases hx : x = 0
  · subst hx
    have R := hr.set2 y
    clear hr
    go_enter Try.func32, Try.ntmps32
    go_wp2
    go_end0
    exact ⟨rfl, R, gb_set _ _ _ _⟩
  · have hb : (x == 0) = false := by simpa using hx
    have R : Rd 34 w b s p (failed x y) := by rw [failed_some hx]; exact hr
    clear hx hr
    go_enter Try.func32, Try.ntmps32
    go_wp2
    go_end0
    exact ⟨rfl, R, World.grownBy.refl _ _⟩

theorem refEnd_any {w : World} {b : Nat} {s : ByteArray} {p : Nat} {x : Int} (hr : Rd 34 w b s p x) (hp : p ≤ s.size) (hs : s.size ≤ 140737488355328) :
    Calls Try.prog 33 #[.pointer (some ⟨b, 0, none⟩)] w fun e w' => e = .returned (.int .i64 (ended s p x)) ∧ Rd 34 w' b s p (ended s p x) ∧ w.grownBy w' (some b) := by
  by_cases hlt : p < s.size
  · have he : ended s p x = failed x 3 := if_pos hlt
    rw [he]
    clear he
    go_enter Try.func33, Try.ntmps33
    go_wp2_with fail
    refine (refLeft_any hr hp hs).mono ?_
    rintro e w1 ⟨rfl, n, rfl⟩
    go_wp2_with fail
    refine (refFail_any 3 (hr.drewN n)).mono ?_
    rintro e w2 ⟨rfl, hr2, hg⟩
    have c2 := hr2.cell2
    go_wp2
    go_ret
    exact ⟨rfl, hr2, gb_trans (gb_drewN (World.grownBy.refl _ _) n) hg⟩
  · have he : ended s p x = x := if_neg hlt
    rw [he]
    clear he
    have c2 := hr.cell2
    go_enter Try.func33, Try.ntmps33
    go_wp2_with fail
    refine (refLeft_any hr hp hs).mono ?_
    rintro e w1 ⟨rfl, n, rfl⟩
    go_wp2
    go_ret
    exact ⟨rfl, hr.drewN n, gb_drewN (World.grownBy.refl _ _) n⟩

set_option maxRecDepth 100000 in
theorem refBytes_any {w : World} {b : Nat} {s : ByteArray} {p : Nat} {x : Int} (n : Int) (hr : Rd 34 w b s p x) (hp : p ≤ s.size) (hs : s.size ≤ 140737488355328) (hn : n ≤ 9223372036854775807) :
    Calls Try.prog 31 #[.pointer (some ⟨b, 0, none⟩), .int .i64 n] w fun e w' => e = .returned (.string (asked x (bytesA s p n)).txt) ∧ Rd 34 w' b s (p + (asked x (bytesA s p n)).long) (asked x (bytesA s p n)).code ∧ w.grownBy w' (some b) := by
  have c0 := hr.cell0
  have c1 := hr.cell1
  have c2 := hr.cell2
  have f1 := hr.free 1
  have f2 := hr.free 2
  by_cases hx : x = 0
  · subst hx
    rw [asked_zero]
    by_cases h1 : n < 0
    · rw [show bytesA s p n = .bad 1 from if_pos h1]
      show Calls _ _ _ _ fun e w' => e = .returned (.string ⟨#[]⟩) ∧ Rd 34 w' b s p 1 ∧ _
      have R := hr.set2 1
      clear hr
      go_enter Try.func31, Try.ntmps31
      go_wp2
      go_ret
      exact ⟨rfl, R, gb_set _ _ _ _⟩
    obtain ⟨k, rfl⟩ := Int.eq_ofNat_of_zero_le (show 0 ≤ n by omega)
    by_cases h2 : (s.size : Int) - p < k
    · rw [show bytesA s p k = .bad 10 from by unfold bytesA; rw [if_neg h1, if_pos h2]]
      show Calls _ _ _ _ fun e w' => e = .returned (.string ⟨#[]⟩) ∧ Rd 34 w' b s p 10 ∧ _
      go_enter Try.func31, Try.ntmps31
      go_wp2_with fail
      refine (refLeft_any hr hp hs).mono ?_
      rintro e w1 ⟨rfl, nd, rfl⟩
      have R := (hr.drewN nd).set2 10
      clear hr
      go_wp2
      go_ret
      exact ⟨rfl, R, gb_trans (gb_drewN (World.grownBy.refl _ _) nd) (gb_set _ _ _ _)⟩
    · have hk : p + k ≤ s.size := by omega
      rw [show bytesA s p k = ⟨0, s.extract p (p + k), k, 0⟩ from by unfold bytesA; rw [if_neg h1, if_neg h2]; simp]
      show Calls _ _ _ _ fun e w' => e = .returned (.string (s.extract p (p + k))) ∧ Rd 34 w' b s (p + k) 0 ∧ _
      go_enter Try.func31, Try.ntmps31
      go_wp2_with fail
      refine (refLeft_any hr hp hs).mono ?_
      rintro e w1 ⟨rfl, nd, rfl⟩
      have R := (hr.drewN nd).set1' (show (p : Int) + k = ((p + k : Nat) : Int) by omega)
      clear hr
      go_wp2
      go_region
      go_wp2
      go_ret
      exact ⟨rfl, R.drew, gb_drew (gb_trans (gb_drewN (World.grownBy.refl _ _) nd) (gb_set _ _ _ _))⟩
  · rw [asked_some hx]
    show Calls _ _ _ _ fun e w' => e = .returned (.string ⟨#[]⟩) ∧ Rd 34 w' b s p x ∧ _
    have hcb : (x != 0) = true := by simpa using hx
    clear hx
    go_enter Try.func31, Try.ntmps31
    go_wp2
    go_ret
    exact ⟨rfl, hr, World.grownBy.refl _ _⟩

end Go.Proofs.Ytifbcmcefggofaa

/-
  The contract of the look ahead at a short number.
-/
import Derived.Test.YtifbcmcefggofaaAhead
namespace Go.Proofs.Ytifbcmcefggofaa
open Go.RowKit Go.Lib

/-- A byte of a string, at a place that is a sum. -/
theorem run_index_sum (s : ByteArray) (p j : Nat) (h : p + j < s.size) (w : World) :
    (Instr.index 9 (.string s) (.int .i64 ((p : Int) + j))).run Try.prog w = .ok (.int .u8 (s[p + j].toNat : Int)) w := by
  rw [run_index_string _ _ _ _ _ Try.underlying9, dif_pos ⟨by omega, by omega⟩]
  simp only [show ((p : Int) + j).toNat = p + j from by omega]

set_option maxRecDepth 100000 in
set_option maxHeartbeats 400000 in
theorem shortAhead_any {w : World} {b : Nat} {s : ByteArray} {p : Nat} {x : Int} (most : Int) (hr : Rd 52 w b s p x) (hp : p ≤ s.size) (hs : s.size ≤ 140737488355328) :
    Calls Try.prog 36 #[.pointer (some ⟨b, 0, none⟩), .int .i64 most] w fun e w' =>
      e = .returned (.tuple #[.agg #[.int .i64 (shortA s p most).num, .string (shortA s p most).txt, .int .i64 (shortA s p most).long], .int .i64 (shortA s p most).code]) ∧ Below w.heap.size w w' := by
  have hA : shortGo most (9 - 0) 0 0 (s.data.toList.drop (p + 0)) = shortA s p most := rfl
  generalize shortA s p most = A at *
  have HA : Hid (shortGo most (9 - 0) 0 0 (s.data.toList.drop (p + 0)) = A) := hA
  clear hA
  have hl := hr.lt
  have hr1 : Rd 52 (w.alloc (.cells #[.int .i64 0, .string ⟨#[]⟩, .int .i64 0] 54)) b s p x := hr.below ((Below.refl _ _).alloc (Nat.le_refl _) _) hl
  have c0 := hr.cell0
  have c1 := hr.cell1
  go_enter Try.func36, Try.ntmps36
  go_wp2
  go_loopw [6, 9] (fun n i wr => ∃ j m nd : Nat, j ≤ 9 ∧ i = .int .i64 j ∧ n = .int .i64 m ∧ m < 2 ^ (7 * j) ∧ p + j ≤ s.size ∧ shortGo most (9 - j) j m (s.data.toList.drop (p + j)) = A ∧ wr = (w.alloc (.cells #[.int .i64 0, .string ⟨#[]⟩, .int .i64 0] 54)).drewN nd)
    (fun _ i _ => 9 - (intOf i).toNat)
  case atStart => exact ⟨0, 0, 0, by omega, rfl, rfl, by decide, hp, HA.out, rfl⟩
  case round =>
    clear HA
    obtain ⟨j, m, nd, hj, rfl, rfl, hm, hpj, hA, rfl⟩ := hrel
    have HA : Hid (shortGo most (9 - j) j m (s.data.toList.drop (p + j)) = A) := hA
    have HM : Hid (m < 2 ^ (7 * j)) := hm
    clear hA hm
    by_cases h9 : j = 9
    · have hA : A = .bad 3 := by rw [← HA.out, h9]; rfl
      subst hA
      subst h9
      clear HA HM
      go_wp2
      have F := ((Fd.new w 0 ⟨#[]⟩ 0).drewN nd).put 0 ⟨#[]⟩ 0
      exact bodyPost_ret (v := .tuple #[.agg #[.int .i64 0, .string ⟨#[]⟩, .int .i64 0], .int .i64 3]) (by simp [results, Try.results36, go_sem, F.cell0, F.cell1, F.cell2]) rfl ⟨rfl, below_put (below_drew ((Below.refl _ _).alloc (Nat.le_refl _) _) nd) (Nat.le_refl _) _ _ _⟩
    have hj8 : j < 9 := by omega
    clear h9
    by_cases he : p + j = s.size
    · have hA : A = .bad 10 := by
        rw [← HA.out, List.drop_eq_nil_of_le (by simp; omega), show 9 - j = (8 - j) + 1 from by omega]; rfl
      subst hA
      clear HA HM
      have hd : ((j : Int) == (s.size : Int) - p) = true := by simp; omega
      clear he
      go_wp2_with fail
      refine (left_any (hr1.drewN nd) hp hs).mono ?_
      rintro e w1 ⟨rfl, nd1, rfl⟩
      go_wp2
      have F := ((Fd.new w 0 ⟨#[]⟩ 0).drewN (nd + nd1)).put 0 ⟨#[]⟩ 0
      exact bodyPost_ret (v := .tuple #[.agg #[.int .i64 0, .string ⟨#[]⟩, .int .i64 0], .int .i64 10]) (by simp [results, Try.results36, go_sem, F.cell0, F.cell1, F.cell2]) rfl ⟨rfl, below_put (below_drew ((Below.refl _ _).alloc (Nat.le_refl _) _) (nd + nd1)) (Nat.le_refl _) _ _ _⟩
    have hlt : p + j < s.size := by omega
    have hd : ((j : Int) == (s.size : Int) - p) = false := by simp; omega
    clear he
    have hix := run_index_sum s p j hlt
    have hand := and_byte s[p + j]
    have hnot := andNot_byte s[p + j]
    have hA := HA.out
    rw [drop_cons s (p + j) hlt, show 9 - j = (8 - j) + 1 from by omega] at hA
    obtain ⟨v, y, z, hv, hv128, hy, hymax, hz, hzy, hzlt, hzmax, hor⟩ := short_byte s[p + j] j m hj8 HM.out
    rw [← hv] at hnot
    have hwr : wrap64 ((v : Int) * 2 ^ (7 * j)) = (y : Int) := by
      rw [show (v : Int) * 2 ^ (7 * j) = ((v * 2 ^ (7 * j) : Nat) : Int) from by simp, ← hy]
      exact IntWalk.wrap64_in _ ⟨by omega, by omega⟩
    simp only [shortGo] at hA
    rw [← hz] at hA
    have HZ : Hid (z < 2 ^ (7 * (j + 1))) := hzlt
    clear hzlt hz hy hv HA HM hzy
    have hc := s[p + j].toNat_lt
    generalize s[p + j] = c at *
    by_cases hbig : 128 ≤ c.toNat
    · rw [if_pos hbig] at hA
      rw [decide_eq_true hbig] at hand
      have HA : Hid (shortGo most (8 - j) (j + 1) z (s.data.toList.drop (p + j + 1)) = A) := hA
      clear hA
      go_wp2_with fail
      refine (left_any (hr1.drewN nd) hp hs).mono ?_
      rintro e w1 ⟨rfl, nd1, rfl⟩
      go_wp2
      go_region
      go_wp2
      go_roundw
      case rel => exact ⟨j + 1, z, _, by omega, by go_num, rfl, HZ.out, by omega, by rw [show 9 - (j + 1) = 8 - j from by omega]; exact HA.out, rfl⟩
      case measure => simp [intOf]; omega
    · rw [if_neg hbig] at hA
      rw [decide_eq_false hbig] at hand
      by_cases hzero : c.toNat = 0 ∧ 0 < j
      · rw [if_pos hzero] at hA
        subst hA
        obtain ⟨hc0, hj0⟩ := hzero
        go_wp2_with fail
        refine (left_any (hr1.drewN nd) hp hs).mono ?_
        rintro e w1 ⟨rfl, nd1, rfl⟩
        go_wp2
        go_region
        go_wp2
        have F := ((Fd.new w 0 ⟨#[]⟩ 0).drewN (nd + nd1 + 1)).put 0 ⟨#[]⟩ 0
        exact bodyPost_ret (v := .tuple #[.agg #[.int .i64 0, .string ⟨#[]⟩, .int .i64 0], .int .i64 3]) (by simp [results, Try.results36, go_sem, F.cell0, F.cell1, F.cell2]) rfl ⟨rfl, below_put (below_drew ((Below.refl _ _).alloc (Nat.le_refl _) _) (nd + nd1 + 1)) (Nat.le_refl _) _ _ _⟩
      · rw [if_neg hzero] at hA
        have hg : ((c.toNat : Int) == 0) = false ∨ (((c.toNat : Int) == 0) = true ∧ (j : Int) < 1) := by
          by_cases hc0 : c.toNat = 0
          · right; exact ⟨by simp; omega, by omega⟩
          · left; simp; omega
        clear hzero
        by_cases hmost : most < (z : Int)
        · rw [if_pos hmost] at hA
          subst hA
          rcases hg with hg | hg
          · go_wp2_with fail
            refine (left_any (hr1.drewN nd) hp hs).mono ?_
            rintro e w1 ⟨rfl, nd1, rfl⟩
            go_wp2
            go_region
            go_wp2
            have F := ((Fd.new w 0 ⟨#[]⟩ 0).drewN (nd + nd1 + 1)).put 0 ⟨#[]⟩ 0
            exact bodyPost_ret (v := .tuple #[.agg #[.int .i64 0, .string ⟨#[]⟩, .int .i64 0], .int .i64 2]) (by simp [results, Try.results36, go_sem, F.cell0, F.cell1, F.cell2]) rfl ⟨rfl, below_put (below_drew ((Below.refl _ _).alloc (Nat.le_refl _) _) (nd + nd1 + 1)) (Nat.le_refl _) _ _ _⟩
          · obtain ⟨hg, hj1⟩ := hg
            go_wp2_with fail
            refine (left_any (hr1.drewN nd) hp hs).mono ?_
            rintro e w1 ⟨rfl, nd1, rfl⟩
            go_wp2
            go_region
            go_wp2
            have F := ((Fd.new w 0 ⟨#[]⟩ 0).drewN (nd + nd1 + 1)).put 0 ⟨#[]⟩ 0
            exact bodyPost_ret (v := .tuple #[.agg #[.int .i64 0, .string ⟨#[]⟩, .int .i64 0], .int .i64 2]) (by simp [results, Try.results36, go_sem, F.cell0, F.cell1, F.cell2]) rfl ⟨rfl, below_put (below_drew ((Below.refl _ _).alloc (Nat.le_refl _) _) (nd + nd1 + 1)) (Nat.le_refl _) _ _ _⟩
        · rw [if_neg hmost] at hA
          subst hA
          rcases hg with hg | hg
          · go_wp2_with fail
            refine (left_any (hr1.drewN nd) hp hs).mono ?_
            rintro e w1 ⟨rfl, nd1, rfl⟩
            go_wp2
            go_region
            go_wp2
            have F := ((Fd.new w 0 ⟨#[]⟩ 0).drewN (nd + nd1 + 1)).put z ⟨#[]⟩ ((j : Int) + 1)
            exact bodyPost_ret (v := .tuple #[.agg #[.int .i64 z, .string ⟨#[]⟩, .int .i64 ((j : Int) + 1)], .int .i64 0]) (by simp [results, Try.results36, go_sem, F.cell0, F.cell1, F.cell2]) rfl ⟨rfl, below_put (below_drew ((Below.refl _ _).alloc (Nat.le_refl _) _) (nd + nd1 + 1)) (Nat.le_refl _) _ _ _⟩
          · obtain ⟨hg, hj1⟩ := hg
            go_wp2_with fail
            refine (left_any (hr1.drewN nd) hp hs).mono ?_
            rintro e w1 ⟨rfl, nd1, rfl⟩
            go_wp2
            go_region
            go_wp2
            have F := ((Fd.new w 0 ⟨#[]⟩ 0).drewN (nd + nd1 + 1)).put z ⟨#[]⟩ ((j : Int) + 1)
            exact bodyPost_ret (v := .tuple #[.agg #[.int .i64 z, .string ⟨#[]⟩, .int .i64 ((j : Int) + 1)], .int .i64 0]) (by simp [results, Try.results36, go_sem, F.cell0, F.cell1, F.cell2]) rfl ⟨rfl, below_put (below_drew ((Below.refl _ _).alloc (Nat.le_refl _) _) (nd + nd1 + 1)) (Nat.le_refl _) _ _ _⟩

theorem shortAhead_ok {w : World} {b : Nat} {s : ByteArray} {p : Nat} {x : Int} (most : Int) (hr : Rd 52 w b s p x) (hp : p ≤ s.size) (hs : s.size ≤ 140737488355328) (num long : Nat) (h : shortA s p most = ⟨num, ⟨#[]⟩, long, 0⟩) :
    Calls Try.prog 36 #[.pointer (some ⟨b, 0, none⟩), .int .i64 most] w fun e w' =>
      e = .returned (.tuple #[.agg #[.int .i64 num, .string ⟨#[]⟩, .int .i64 long], .int .i64 0]) ∧ Below w.heap.size w w' := by
  have hc := shortAhead_any most hr hp hs
  rw [h] at hc
  exact hc
theorem shortAhead_bad {w : World} {b : Nat} {s : ByteArray} {p : Nat} {x : Int} (most : Int) (hr : Rd 52 w b s p x) (hp : p ≤ s.size) (hs : s.size ≤ 140737488355328) (c : Int) (h : shortA s p most = .bad c) :
    Calls Try.prog 36 #[.pointer (some ⟨b, 0, none⟩), .int .i64 most] w fun e w' =>
      e = .returned (.tuple #[.agg #[.int .i64 0, .string ⟨#[]⟩, .int .i64 0], .int .i64 c]) ∧ Below w.heap.size w w' := by
  have hc := shortAhead_any most hr hp hs
  rw [h] at hc
  exact hc

end Go.Proofs.Ytifbcmcefggofaa

/-
  The contract of the document's own reader at short numbers and texts.
-/
import Derived.Test.YtifbcmcefggofaaRef2
namespace Go.Proofs.Ytifbcmcefggofaa
open Go.RowKit Go.Lib

set_option maxRecDepth 100000 in
set_option maxHeartbeats 800000 in
theorem refShort_r {w : World} {b : Nat} {s : ByteArray} {p : Nat} {x : Int} (most : Int) (hr : Rd 34 w b s p x) (hp : p ≤ s.size) (hs : s.size ≤ 140737488355328) :
    Calls Try.prog 29 #[.pointer (some ⟨b, 0, none⟩), .int .i64 most] w fun e w' => e = .returned (.int .i64 (asked x (shortA s p most)).num) ∧ Rd 34 w' b s (p + (asked x (shortA s p most)).long) (asked x (shortA s p most)).code ∧ w.grownBy w' (some b) := by
  have c0 := hr.cell0
  have c1 := hr.cell1
  have c2 := hr.cell2
  have f1 := hr.free 1
  have f2 := hr.free 2
  by_cases hx : x = 0
  · subst hx
    rw [asked_zero]
    have hA : shortGo most (9 - 0) 0 0 (s.data.toList.drop (p + 0)) = shortA s p most := rfl
    generalize shortA s p most = A at *
    have HA : Hid (shortGo most (9 - 0) 0 0 (s.data.toList.drop (p + 0)) = A) := hA
    clear hA
    go_enter Try.func29, Try.ntmps29
    go_wp2
    go_loopw [5, 6] (fun n i wr => ∃ j m nd : Nat, j ≤ 9 ∧ i = .int .i64 j ∧ n = .int .i64 m ∧ m < 2 ^ (7 * j) ∧ p + j ≤ s.size ∧ shortGo most (9 - j) j m (s.data.toList.drop (p + j)) = A ∧ wr = w.drewN nd)
      (fun _ i _ => 9 - (intOf i).toNat)
    case atStart => exact ⟨0, 0, 0, by omega, rfl, rfl, by decide, hp, HA.out, rfl⟩
    case round =>
      clear HA
      obtain ⟨j, m, nd, hj, rfl, rfl, hm, hpj, hA, rfl⟩ := hrel
      have HA : Hid (shortGo most (9 - j) j m (s.data.toList.drop (p + j)) = A) := hA
      have HM : Hid (m < 2 ^ (7 * j)) := hm
      clear hA hm
      by_cases h9 : j = 9
      · have hA : A = .bad 3 := by rw [← HA.out, h9]; rfl
        subst hA
        subst h9
        clear HA HM
        have R := (hr.drewN nd).set2 3
        go_wp2
        go_ret
        exact ⟨rfl, R, gb_trans (gb_drewN (World.grownBy.refl _ _) nd) (gb_set _ _ _ _)⟩
      have hj8 : j < 9 := by omega
      clear h9
      by_cases he : p + j = s.size
      · have hA : A = .bad 10 := by
          rw [← HA.out, List.drop_eq_nil_of_le (by simp; omega), show 9 - j = (8 - j) + 1 from by omega]; rfl
        subst hA
        clear HA HM
        have hge : (s.size : Int) ≤ (p : Int) + j := by omega
        clear he
        have R := fun k => (hr.drewN k).set2 10
        go_wp2
        go_region
        go_wp2
        go_ret
        exact ⟨rfl, R _, gb_trans (gb_drewN (World.grownBy.refl _ _) _) (gb_set _ _ _ _)⟩
      have hlt : p + j < s.size := by omega
      have hlt' : (p : Int) + j < (s.size : Int) := by omega
      clear he
      have hix := run_index_sum s p j hlt
      have hA := HA.out
      rw [drop_cons s (p + j) hlt, show 9 - j = (8 - j) + 1 from by omega] at hA
      obtain ⟨v, y, z, hv, hv128, hy, hymax, hz, hzy, hzlt, hzmax, hor⟩ := short_byte s[p + j] j m hj8 HM.out
      have hwr : wrap64 ((v : Int) * 2 ^ (7 * j)) = (y : Int) := by
        rw [show (v : Int) * 2 ^ (7 * j) = ((v * 2 ^ (7 * j) : Nat) : Int) from by simp, ← hy]
        exact IntWalk.wrap64_in _ ⟨by omega, by omega⟩
      have hrem : (s[p + j].toNat : Int) % 128 = (v : Int) := by omega
      have HZY : Hid (z = m + y) := hzy
      have hmy : (m : Int) + y ≤ 9223372036854775807 := by omega
      simp only [shortGo] at hA
      rw [← hz] at hA
      have HZ : Hid (z < 2 ^ (7 * (j + 1))) := hzlt
      clear hzlt hz hy hv HA HM hzy hor
      have hc : s[p + j].toNat < 256 := s[p + j].toNat_lt
      generalize s[p + j] = c at *
      by_cases hbig : 128 ≤ c.toNat
      · rw [if_pos hbig] at hA
        have HA : Hid (shortGo most (8 - j) (j + 1) z (s.data.toList.drop (p + j + 1)) = A) := hA
        clear hA
        go_wp2
        go_region
        go_wp2
        go_region
        go_wp2
        go_roundw
        case rel => exact ⟨j + 1, z, _, by omega, by go_num, by rw [HZY.out]; simp, HZ.out, by omega, by rw [show 9 - (j + 1) = 8 - j from by omega]; exact HA.out, rfl⟩
        case measure => simp [intOf]; omega
      · rw [if_neg hbig] at hA
        by_cases hzero : c.toNat = 0 ∧ 0 < j
        · rw [if_pos hzero] at hA
          subst hA
          obtain ⟨hc0, hj0⟩ := hzero
          have hg : ((c.toNat : Int) == 0) = true := by simp; omega
          have HC0 : Hid (c.toNat = 0) := hc0
          clear hc0
          have R := fun k => (hr.drewN k).set2 3
          go_wp2
          go_region
          go_wp2
          go_region
          go_wp2
          go_ret
          exact ⟨rfl, R _, gb_trans (gb_drewN (World.grownBy.refl _ _) _) (gb_set _ _ _ _)⟩
        · rw [if_neg hzero] at hA
          have hg : ((c.toNat : Int) == 0) = false ∨ (((c.toNat : Int) == 0) = true ∧ (j : Int) < 1) := by
            by_cases hc0 : c.toNat = 0
            · right; exact ⟨by simp; omega, by omega⟩
            · left; simp; omega
          clear hzero
          by_cases hmost : most < (z : Int)
          · rw [if_pos hmost] at hA
            subst hA
            have hmost' : most < (m : Int) + y := by have := HZY.out; omega
            clear hmost
            have R := fun k => (hr.drewN k).set2 2
            rcases hg with hg | hg
            · go_wp2
              go_region
              go_wp2
              go_region
              go_wp2
              go_ret
              exact ⟨rfl, R _, gb_trans (gb_drewN (World.grownBy.refl _ _) _) (gb_set _ _ _ _)⟩
            · obtain ⟨hg, hj1⟩ := hg
              go_wp2
              go_region
              go_wp2
              go_region
              go_wp2
              go_ret
              exact ⟨rfl, R _, gb_trans (gb_drewN (World.grownBy.refl _ _) _) (gb_set _ _ _ _)⟩
          · rw [if_neg hmost] at hA
            subst hA
            have hmost' : (m : Int) + y ≤ most := by have := HZY.out; omega
            clear hmost
            have R := fun k => (hr.drewN k).set1' (show (p : Int) + ((j : Int) + 1) = ((p + (j + 1) : Nat) : Int) by omega)
            rcases hg with hg | hg
            · go_wp2
              go_region
              go_wp2
              go_region
              go_wp2
              go_ret
              exact ⟨by rw [HZY.out]; simp, R _, gb_trans (gb_drewN (World.grownBy.refl _ _) _) (gb_set _ _ _ _)⟩
            · obtain ⟨hg, hj1⟩ := hg
              go_wp2
              go_region
              go_wp2
              go_region
              go_wp2
              go_ret
              exact ⟨by rw [HZY.out]; simp, R _, gb_trans (gb_drewN (World.grownBy.refl _ _) _) (gb_set _ _ _ _)⟩
  · rw [asked_some hx]
    show Calls _ _ _ _ fun e w' => e = .returned (.int .i64 0) ∧ Rd 34 w' b s p x ∧ _
    have hcb : (x != 0) = true := by simpa using hx
    clear hx
    go_enter Try.func29, Try.ntmps29
    go_wp2
    go_ret
    exact ⟨rfl, hr, World.grownBy.refl _ _⟩

end Go.Proofs.Ytifbcmcefggofaa

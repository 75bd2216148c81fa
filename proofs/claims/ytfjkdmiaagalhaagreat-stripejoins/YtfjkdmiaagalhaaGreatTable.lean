/-
  The contracts of the functions that make the tables, once.
-/
import Derived.Test.YtfjkdmiaagalhaaGreatKit
namespace Go.Proofs.YtfjkdmiaagalhaaGreat
open Go.RowKit Go.Lib

theorem double_any (a : Nat) (ha : a < 256) (w : World) :
    Calls Tryz.prog 81 #[.int .i64 a] w fun e w' => e = .returned (.int .i64 ((dbl a : Nat) : Int)) ∧ w' = w := by
  by_cases h : a * 2 < 256
  · rw [dbl, if_pos h]
    have h' : ¬ (256 : Int) ≤ (a : Int) * 2 := by omega
    go_enter Tryz.func81, Tryz.ntmps81
    go_wp2
    go_ret
    exact ⟨by go_num, rfl⟩
  · have hx := xor_i64 (a * 2) 391 (by omega) (by decide)
    rw [dbl, if_neg h]
    have h' : (256 : Int) ≤ (a : Int) * 2 := by omega
    go_enter Tryz.func81, Tryz.ntmps81
    go_wp2
    go_ret
    refine ⟨?_, rfl⟩
    rw [← hx]
    rfl

set_option maxRecDepth 100000 in
set_option maxHeartbeats 800000 in
theorem make_any (w : World) :
    Calls Tryz.prog 69 #[] w fun e w' => e = .returned (.pointer (some ⟨w.heap.size, 0, none⟩)) ∧ TB w' w.heap.size ∧ Below w.heap.size w w' := by
  go_enter Tryz.func69, Tryz.ntmps69
  go_wp2_with (refine wpList_buildTo rfl 131 _ rfl _ rfl (tabCells 0).toArray (by kernel_rfl) ?_)
  have hc1 : (w.alloc (.cells (tabCells 0).toArray 131)).heap[w.heap.size]? = some (.cells (tabCells 0).toArray 131 (0, 0)) := heap_alloc_new w _
  have hb1 : Below w.heap.size w (w.alloc (.cells (tabCells 0).toArray 131)) := (Below.refl _ _).alloc (Nat.le_refl _) _
  go_loopw [2, 6] (fun p i wr => ∃ n : Nat, n ≤ 255 ∧ p = .int .i64 ((pw (n % 255) : Nat) : Int) ∧ i = .int .i64 n ∧ wr.heap[w.heap.size]? = some (.cells (tabCells n).toArray 131 (0, 0)) ∧ Below w.heap.size w wr)
    (fun _ i _ => 255 - (intOf i).toNat)
  case atStart => exact ⟨0, by omega, by rw [Nat.zero_mod, pw_zero]; rfl, rfl, hc1, hb1⟩
  case round =>
    clear hc1 hb1
    obtain ⟨n, hn, rfl, rfl, hc, hb⟩ := hrel
    by_cases hlt : n < 255
    · have hp1 := pw_lt n
      have hD := double_any (pw n) hp1
      rw [dbl_pw n hlt] at hD
      have R := tabCells_step n hlt
      have hm : n % 255 = n := Nat.mod_eq_of_lt hlt
      rw [hm]
      have h1 := fun u : Value => heap_set_list (o := n) u hc
      have h2 := fun u v : Value => heap_set_list (o := n + 255) v (h1 u)
      have h3 := h2 (.int .u8 ((pw n : Nat) : Int)) (.int .u8 ((pw n : Nat) : Int))
      have h4 := heap_set_list (o := 510 + pw n) (.int .u8 (n : Int)) h3
      rw [R] at h4
      have k1 : wr.cell? ⟨w.heap.size, n, none⟩ = some (.int .u8 ((tab n n : Nat) : Int)) := by
        rw [cell_of_row wr _ n _ _ _ hc]
        simpa using tabCells_get n n (by omega)
      have f1 := frozen_of_row wr _ n _ _ hc
      have k2 : ∀ u, (wr.setCell ⟨w.heap.size, n, none⟩ u).cell? ⟨w.heap.size, n + 255, none⟩ = some (.int .u8 ((tab n (n + 255) : Nat) : Int)) := fun u => by
        rw [cell_ne _ _ _ _ _ (by omega), cell_of_row wr _ _ _ _ _ hc]
        simpa using tabCells_get n (n + 255) (by omega)
      have f2 := fun u => frozen_of_row _ _ (n + 255) _ _ (h1 u)
      have k3 : ∀ u v, ((wr.setCell ⟨w.heap.size, n, none⟩ u).setCell ⟨w.heap.size, n + 255, none⟩ v).cell? ⟨w.heap.size, 510 + pw n, none⟩ = some (.int .u8 ((tab n (510 + pw n) : Nat) : Int)) := fun u v => by
        rw [cell_ne _ _ _ _ _ (by omega), cell_ne _ _ _ _ _ (by omega), cell_of_row wr _ _ _ _ _ hc]
        simpa using tabCells_get n (510 + pw n) (by omega)
      have f3 := fun u v => frozen_of_row _ _ (510 + pw n) _ _ (h2 u v)
      have HR : Hid _ := h4
      have HB : Hid _ := hb
      have HD : Hid _ := hD
      clear R h1 h2 h3 h4 hb hD hm hc
      generalize tab n n = x1 at *
      generalize tab n (n + 255) = x2 at *
      generalize tab n (510 + pw n) = x3 at *
      generalize pw n = p at *
      have b0 : (0 : Int) ≤ (n : Int) := by omega
      have b1 : (n : Int) < 510 := by omega
      have b2 : (0 : Int) ≤ (n : Int) + 255 := by omega
      have b3 : (n : Int) + 255 < 510 := by omega
      have b4 : (0 : Int) ≤ (p : Int) := by omega
      have b5 : (p : Int) < 256 := by omega
      go_wp2_with fail
      refine (HD.out _).mono ?_
      rintro e w2 ⟨rfl, rfl⟩
      go_wp2
      go_roundw
      case rel => exact ⟨n + 1, by omega, rfl, by go_num, HR.out, ((HB.out.setCell (by simp) _).setCell (by simp) _).setCell (by simp) _⟩
      case measure => simp [intOf]; omega
    · obtain rfl : n = 255 := by omega
      rw [show ((255 : Nat) : Int) = 255 from rfl]
      have HC : Hid _ := hc
      have HB : Hid _ := hb
      clear hc hb
      go_wp2
      go_ret
      exact ⟨rfl, HC.out, HB.out⟩

end Go.Proofs.YtfjkdmiaagalhaaGreat
